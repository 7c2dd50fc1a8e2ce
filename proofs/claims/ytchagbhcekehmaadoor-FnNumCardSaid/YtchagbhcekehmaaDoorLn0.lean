/-
  Contracts of LooksNum of both sides over this seat's translation: for every text both answer alike. Conditions: the text has at most a million bytes (1048576).
-/
import Derived.Test.YtchagbhcekehmaaDoorRn4
namespace Go.Proofs.YtchagbhcekehmaaDoor.kit
open Go.ChangeShapes Go.WideShapes Go.ChangeAt Go.RowKit
set_option linter.unusedVariables false

def rnP (s : ByteArray) : Nat := if rnG s then rnE s else 0
theorem rnPlace_eq (s : ByteArray) : rnPlace s = (rnP s : Int) := by unfold rnPlace rnP; split <;> rfl
theorem rnP_le (s : ByteArray) : rnP s ≤ s.size := by
  have := rnE_le s
  unfold rnP; split <;> omega
def lkB (s : ByteArray) : Bool := decide (0 < rnP s) && decide (runEnd blnB s (rnP s) = s.size)
set_option maxHeartbeats 1000000 in
theorem specLn_any (s : ByteArray) (w : World) (hs : s.size ≤ 1048576) :
    Calls Tryd.prog 39 #[.string s] w fun e w' => e = .returned (.bool (lkB s)) ∧ w = w' := by
  have C := fun W => specRn_any s W hs
  rw [rnPlace_eq] at C
  have hP := rnP_le s
  have E0 : Hid (lkB s = (decide (0 < rnP s) && decide (runEnd blnB s (rnP s) = s.size))) := Lib.hid rfl
  obtain ⟨P, hPP⟩ : ∃ P : Nat, P = rnP s := ⟨_, rfl⟩
  rw [← hPP] at C hP E0
  obtain ⟨R, hR⟩ : ∃ R : Nat, R = runEnd blnB s P := ⟨_, rfl⟩
  have lR := runEnd_le blnB s P hP
  rw [← hR] at lR E0
  obtain ⟨lR1, lR2⟩ := lR
  have HC := Lib.hid C
  have HR := Lib.hid hR
  clear C hPP hR
  generalize rnNum s = x at HC
  by_cases h0 : P = 0
  · have E := Lib.hid (show lkB s = false by rw [E0.out]; simp [h0])
    have h0' : ((P : Int) == 0) = true := by simpa using h0
    clear h0
    go_enter Tryd.func39, Tryd.ntmps39
    go_wp2_with (go_at_call 33; refine (HC.out _).mono ?_; rintro e w' ⟨rfl, rfl⟩)
    go_ret
    exact ⟨ret_bool E.out.symm, rfl⟩
  · have h0' : ((P : Int) == 0) = false := by simpa using h0
    have hpos : 0 < P := by omega
    clear h0
    go_enter Tryd.func39, Tryd.ntmps39
    go_wp2_with (go_at_call 33; refine (HC.out _).mono ?_; rintro e w' ⟨rfl, rfl⟩)
    go_loop [4] (fun v => ∃ k : Nat, k ≤ s.size ∧ v = .int .i64 k ∧ runEnd blnB s k = R) (fun v => s.size - (intOf v).toNat)
    case atStart => exact ⟨P, hP, rfl, HR.out.symm⟩
    case round =>
      obtain ⟨k, hk, rfl, hr⟩ := hrel
      have HK := Lib.hid hr; clear hr
      by_cases hlt : k < s.size
      · have hb : s[k].toNat < 256 := s[k].toNat_lt
        cases a1 : blnB s[k].toNat
        · have E1 := runEnd_out hlt a1
          have E := Lib.hid (show lkB s = false by rw [E0.out]; have := HK.out; simp; omega)
          have hne : ((k : Int) == (s.size : Int)) = false := by simp; omega
          have hne2 : (k == s.size) = false := by simp; omega
          clear E1
          go_wp2_with (go_at_call 74; refine (space_any _ _).mono ?_; rintro e w' ⟨rfl, rfl⟩)
          go_ret
          exact ⟨ret_bool E.out.symm, rfl⟩
        · have E := Lib.hid (runEnd_in hlt a1)
          go_wp2_with (go_at_call 74; refine (space_any _ _).mono ?_; rintro e w' ⟨rfl, rfl⟩)
          go_round
          case rel => exact ⟨k + 1, by omega, by go_num, E.out.trans HK.out⟩
          case measure => simp [intOf]; omega
      · have E1 := runEnd_end (p := blnB) (s := s) (i := k) (by omega)
        have E := Lib.hid (show lkB s = true by rw [E0.out]; have := HK.out; simp; omega)
        have hne : ((k : Int) == (s.size : Int)) = true := by simp; omega
        have hne2 : (k == s.size) = true := by simp; omega
        clear E1
        go_wp2_with fail
        go_ret
        exact ⟨ret_bool E.out.symm, rfl⟩
set_option maxHeartbeats 1000000 in
theorem implLn_any (s : ByteArray) (w : World) (hs : s.size ≤ 1048576) :
    Calls Tryd.prog 38 #[.string s] w fun e w' => e = .returned (.bool (lkB s)) ∧ Below w.heap.size w w' := by
  have C := fun W => implRn_any s W hs
  rw [rnPlace_eq] at C
  have hP := rnP_le s
  have E0 : Hid (lkB s = (decide (0 < rnP s) && decide (runEnd blnB s (rnP s) = s.size))) := Lib.hid rfl
  obtain ⟨P, hPP⟩ : ∃ P : Nat, P = rnP s := ⟨_, rfl⟩
  rw [← hPP] at C hP E0
  obtain ⟨R, hR⟩ : ∃ R : Nat, R = runEnd blnB s P := ⟨_, rfl⟩
  have lR := runEnd_le blnB s P hP
  have CB := fun W => blanks_any s P W hs hP
  rw [← hR] at lR E0 CB
  obtain ⟨lR1, lR2⟩ := lR
  have HC := Lib.hid C
  have HB := Lib.hid CB
  clear C CB hPP hR
  generalize rnNum s = x at HC
  by_cases h0 : P = 0
  · have E := Lib.hid (show lkB s = false by rw [E0.out]; simp [h0])
    have hp : ¬ 0 < P := by omega
    have hp2 : decide (0 < P) = false := by simpa using hp
    clear h0
    go_enter Tryd.func38, Tryd.ntmps38
    go_wp2_with (first | (go_at_call 32; refine (HC.out _).mono ?_; rintro e w1 ⟨rfl, hb⟩) | (go_at_call 70; refine (HB.out _).mono ?_; rintro e w' ⟨rfl, rfl⟩))
    go_ret
    exact ⟨ret_bool E.out.symm, hb⟩
  · have hp : 0 < P := by omega
    clear h0
    by_cases hz : R = s.size
    all_goals
      have hzi : ((R : Int) == (s.size : Int)) = decide (R = s.size) := by rw [Bool.eq_iff_iff]; simp; omega
      have hzn : (R == s.size) = decide (R = s.size) := by rw [Bool.eq_iff_iff]; simp
      have E := Lib.hid (show lkB s = decide (R = s.size) by rw [E0.out]; simp [hp])
      simp only [hz, decide_true, decide_false] at hzi hzn E
      first | (have HZ := Lib.hid hz; clear hz)
      go_enter Tryd.func38, Tryd.ntmps38
      go_wp2_with (first | (go_at_call 32; refine (HC.out _).mono ?_; rintro e w1 ⟨rfl, hb⟩) | (go_at_call 70; refine (HB.out _).mono ?_; rintro e w' ⟨rfl, rfl⟩))
      go_ret
      exact ⟨ret_bool (by first | exact E.out.symm | (rw [E.out, HZ.out]; simp)), hb⟩
end Go.Proofs.YtchagbhcekehmaaDoor.kit
