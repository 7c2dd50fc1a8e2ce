/-
  Contracts of spec.l02Space, spec.l02Run, impl.blanksEnd, impl.digitsEnd over this seat's translation: the place behind all bytes of a kind from a place on. Conditions: the place is one of the text's, or just behind it.
-/
import Derived.Test.YthffjcclcladoaaGreatDoorMDig
import Derived.Test.YthffjcclcladoaaGreatDoorMRd0
namespace Go.Proofs.YthffjcclcladoaaGreatDoor.kit
open Go.ChangeShapes Go.WideShapes Go.ChangeAt Go.RowKit
set_option linter.unusedVariables false

def blnB (c : Int) : Bool := c == 32 || c == 9 || c == 10
/-- The place behind all bytes of a kind from place i on. -/
def runEnd (p : Int → Bool) (s : ByteArray) (i : Nat) : Nat :=
  if h : i < s.size then (if p (s[i].toNat : Int) = true then runEnd p s (i + 1) else i) else i
  termination_by s.size - i
theorem runEnd_in {p : Int → Bool} {s : ByteArray} {i : Nat} (h : i < s.size) (hp : p (s[i].toNat : Int) = true) : runEnd p s (i + 1) = runEnd p s i := by
  rw [runEnd.eq_1 p s i, dif_pos h, if_pos hp]
theorem runEnd_out {p : Int → Bool} {s : ByteArray} {i : Nat} (h : i < s.size) (hp : p (s[i].toNat : Int) = false) : runEnd p s i = i := by
  rw [runEnd.eq_1, dif_pos h, if_neg (by simp [hp])]
theorem runEnd_end {p : Int → Bool} {s : ByteArray} {i : Nat} (h : s.size ≤ i) : runEnd p s i = i := by
  rw [runEnd.eq_1, dif_neg (by omega)]
theorem runEnd_le (p : Int → Bool) (s : ByteArray) (i : Nat) (hi : i ≤ s.size) : i ≤ runEnd p s i ∧ runEnd p s i ≤ s.size := by
  obtain ⟨n, hn⟩ : ∃ n, n = s.size - i := ⟨_, rfl⟩
  induction n generalizing i with
  | zero => rw [runEnd_end (by omega)]; omega
  | succ n ih =>
    have h : i < s.size := by omega
    cases hp : p (s[i].toNat : Int)
    · rw [runEnd_out h hp]; omega
    · rw [← runEnd_in h hp]; have := ih (i + 1) (by omega) (by omega); omega
theorem runEnd_all (p : Int → Bool) (s : ByteArray) (i : Nat) (hi : i ≤ s.size) : ∀ (j : Nat) (h : j < s.size), i ≤ j → j < runEnd p s i → p (s[j].toNat : Int) = true := by
  obtain ⟨n, hn⟩ : ∃ n, n = s.size - i := ⟨_, rfl⟩
  induction n generalizing i with
  | zero => intro j h _ _; omega
  | succ n ih =>
    have h : i < s.size := by omega
    cases hp : p (s[i].toNat : Int)
    · intro j hj h1 h2; rw [runEnd_out h hp] at h2; omega
    · intro j hj h1 h2
      rw [← runEnd_in h hp] at h2
      by_cases e : i = j
      · subst e; exact hp
      · exact ih (i + 1) (by omega) (by omega) j hj (by omega) h2

theorem space_any (c : Int) (w : World) :
    Calls Tryz.prog 151 #[.int .u8 c] w fun e w' => e = .returned (.bool (blnB c)) ∧ w = w' := by
  cases h1 : (c == 32)
  · cases h2 : (c == 9)
    · cases h3 : (c == 10)
      all_goals
        have E := Lib.hid (show blnB c = _ by rw [blnB, h1, h2, h3])
        go_enter Tryz.func151, Tryz.ntmps151
        go_wp2
        go_ret
        exact ⟨ret_bool (by rw [E.out]; rfl), rfl⟩
    · have E := Lib.hid (show blnB c = true by simp [blnB, h2])
      go_enter Tryz.func151, Tryz.ntmps151
      go_wp2
      go_ret
      exact ⟨ret_bool E.out.symm, rfl⟩
  · have E := Lib.hid (show blnB c = true by simp [blnB, h1])
    go_enter Tryz.func151, Tryz.ntmps151
    go_wp2
    go_ret
    exact ⟨ret_bool E.out.symm, rfl⟩

theorem run_any (s : ByteArray) (i : Nat) (w : World) (hs : s.size ≤ 1048576) (hi : i ≤ s.size) :
    Calls Tryz.prog 152 #[.string s, .int .i64 (i : Int)] w fun e w' => e = .returned (.int .i64 (runEnd digB s i : Int)) ∧ w = w' := by
  go_enter Tryz.func152, Tryz.ntmps152
  go_wp2
  go_loop [1] (fun v => ∃ k : Nat, k ≤ s.size ∧ v = .int .i64 k ∧ runEnd digB s k = runEnd digB s i) (fun v => s.size - (intOf v).toNat)
  case atStart => exact ⟨i, hi, rfl, rfl⟩
  case round =>
    obtain ⟨k, hk, rfl, hr⟩ := hrel
    have HR := Lib.hid hr; clear hr
    by_cases hlt : k < s.size
    · have hb : s[k].toNat < 256 := s[k].toNat_lt
      cases a1 : digB s[k].toNat
      · have E := Lib.hid (runEnd_out hlt a1)
        go_wp2_with (go_at_call 96; refine (dig_any _ _ (by omega) (by omega)).mono ?_; rintro e w' ⟨rfl, rfl⟩)
        go_ret
        exact ⟨ret_int (by rw [← HR.out, E.out]), rfl⟩
      · have E := Lib.hid (runEnd_in hlt a1)
        go_wp2_with (go_at_call 96; refine (dig_any _ _ (by omega) (by omega)).mono ?_; rintro e w' ⟨rfl, rfl⟩)
        go_round
        case rel => exact ⟨k + 1, by omega, by go_num, E.out.trans HR.out⟩
        case measure => simp [intOf]; omega
    · have E := Lib.hid (runEnd_end (p := digB) (s := s) (i := k) (by omega))
      go_wp2
      go_ret
      exact ⟨ret_int (by rw [← HR.out, E.out]), rfl⟩
theorem digits_any (s : ByteArray) (i : Nat) (w : World) (hs : s.size ≤ 1048576) (hi : i ≤ s.size) :
    Calls Tryz.prog 63 #[.string s, .int .i64 (i : Int)] w fun e w' => e = .returned (.int .i64 (runEnd digB s i : Int)) ∧ w = w' := by
  go_enter Tryz.func63, Tryz.ntmps63
  go_wp2
  go_loop [1] (fun v => ∃ k : Nat, k ≤ s.size ∧ v = .int .i64 k ∧ runEnd digB s k = runEnd digB s i) (fun v => s.size - (intOf v).toNat)
  case atStart => exact ⟨i, hi, rfl, rfl⟩
  case round =>
    obtain ⟨k, hk, rfl, hr⟩ := hrel
    have HR := Lib.hid hr; clear hr
    by_cases hlt : k < s.size
    · have hb : s[k].toNat < 256 := s[k].toNat_lt
      cases a1 : digB s[k].toNat
      · have E := Lib.hid (runEnd_out hlt a1)
        go_wp2_with (go_at_call 107; refine (isDigit_any _ _).mono ?_; rintro e w' ⟨rfl, rfl⟩)
        go_ret
        exact ⟨ret_int (by rw [← HR.out, E.out]), rfl⟩
      · have E := Lib.hid (runEnd_in hlt a1)
        go_wp2_with (go_at_call 107; refine (isDigit_any _ _).mono ?_; rintro e w' ⟨rfl, rfl⟩)
        go_round
        case rel => exact ⟨k + 1, by omega, by go_num, E.out.trans HR.out⟩
        case measure => simp [intOf]; omega
    · have E := Lib.hid (runEnd_end (p := digB) (s := s) (i := k) (by omega))
      go_wp2
      go_ret
      exact ⟨ret_int (by rw [← HR.out, E.out]), rfl⟩
set_option maxHeartbeats 1000000 in
theorem blanks_any (s : ByteArray) (i : Nat) (w : World) (hs : s.size ≤ 1048576) (hi : i ≤ s.size) :
    Calls Tryz.prog 61 #[.string s, .int .i64 (i : Int)] w fun e w' => e = .returned (.int .i64 (runEnd blnB s i : Int)) ∧ w = w' := by
  go_enter Tryz.func61, Tryz.ntmps61
  go_wp2
  go_loop [1] (fun v => ∃ k : Nat, k ≤ s.size ∧ v = .int .i64 k ∧ runEnd blnB s k = runEnd blnB s i) (fun v => s.size - (intOf v).toNat)
  case atStart => exact ⟨i, hi, rfl, rfl⟩
  case round =>
    obtain ⟨k, hk, rfl, hr⟩ := hrel
    have HR := Lib.hid hr; clear hr
    by_cases hlt : k < s.size
    · have hb : s[k].toNat < 256 := s[k].toNat_lt
      cases h1 : ((s[k].toNat : Int) == 32)
      · cases h2 : ((s[k].toNat : Int) == 9)
        · cases h3 : ((s[k].toNat : Int) == 10)
          · have E := Lib.hid (runEnd_out hlt (show blnB s[k].toNat = false by simp [blnB, h1, h2, h3]))
            go_wp2
            go_ret
            exact ⟨ret_int (by rw [← HR.out, E.out]), rfl⟩
          · have E := Lib.hid (runEnd_in hlt (show blnB s[k].toNat = true by simp [blnB, h3]))
            go_wp2
            go_round
            case rel => exact ⟨k + 1, by omega, by go_num, E.out.trans HR.out⟩
            case measure => simp [intOf]; omega
        · have E := Lib.hid (runEnd_in hlt (show blnB s[k].toNat = true by simp [blnB, h2]))
          go_wp2
          go_round
          case rel => exact ⟨k + 1, by omega, by go_num, E.out.trans HR.out⟩
          case measure => simp [intOf]; omega
      · have E := Lib.hid (runEnd_in hlt (show blnB s[k].toNat = true by simp [blnB, h1]))
        go_wp2
        go_round
        case rel => exact ⟨k + 1, by omega, by go_num, E.out.trans HR.out⟩
        case measure => simp [intOf]; omega
    · have E := Lib.hid (runEnd_end (p := blnB) (s := s) (i := k) (by omega))
      go_wp2
      go_ret
      exact ⟨ret_int (by rw [← HR.out, E.out]), rfl⟩
end Go.Proofs.YthffjcclcladoaaGreatDoor.kit
