/-
  Contracts of spec.l05Name, l05Number, l05Operand, l05Re, l05Sign over this seat's translation: where a word's parts end, and whether a stroke divides. Conditions: the text has at most 1048576 bytes, the place is one of it.
-/
import Derived.Test.YtebeoijoljlhiaaGreatDoorMLx0
import Derived.Test.YtebeoijoljlhiaaGreatDoorMLx1
import Derived.Test.YtebeoijoljlhiaaGreatDoorMRn0
import Derived.Test.YtebeoijoljlhiaaGreatDoorMIdx
namespace Go.Proofs.YtebeoijoljlhiaaGreatDoor.kit
open Go.ChangeShapes Go.WideShapes Go.ChangeAt Go.RowKit
set_option linter.unusedVariables false

theorem atB_is {s : ByteArray} {i : Nat} (c : UInt8) (n : Int) (hn : (c.toNat : Int) = n) (h : i < s.size) : ((s[i].toNat : Int) == n) = atB s i c := by rw [← hn]; exact atB_in h
set_option maxHeartbeats 400000 in
theorem name05_any (s : ByteArray) (i : Nat) (w : World) (hs : s.size ≤ 1048576) (hi : i ≤ s.size) :
    Calls Tryz.prog 122 #[.string s, .int .i64 (i : Int)] w fun e w' => e = .returned (.int .i64 (runEnd signB s i : Int)) ∧ w = w' := by
  go_enter Tryz.func122, Tryz.ntmps122
  go_wp2
  go_loop [1] (fun v => ∃ k : Nat, k ≤ s.size ∧ v = .int .i64 k ∧ runEnd signB s k = runEnd signB s i) (fun v => s.size - (intOf v).toNat)
  case atStart => exact ⟨i, hi, rfl, rfl⟩
  case round =>
    obtain ⟨k, hk, rfl, hr⟩ := hrel
    have HR := Lib.hid hr; clear hr
    by_cases hlt : k < s.size
    · have hb : s[k].toNat < 256 := s[k].toNat_lt
      have i0 : (0 : Int) ≤ (k : Int) := by omega
      have i1 : (k : Int) < (s.size : Int) := by omega
      cases a1 : letB s[k].toNat
      · cases a2 : digB s[k].toNat
        · have E := Lib.hid (runEnd_out hlt (p := signB) (by simp [signB, a1, a2]))
          go_wp2_with (first | (go_at_call 121; refine (let_any _ _ (by omega) (by omega)).mono ?_; rintro e w' ⟨rfl, rfl⟩) | (go_at_call 124; refine (dig_any _ _ (by omega) (by omega)).mono ?_; rintro e w' ⟨rfl, rfl⟩))
          go_ret
          exact ⟨ret_int (by rw [← HR.out, E.out]), rfl⟩
        · have E := Lib.hid (runEnd_in hlt (p := signB) (by simp [signB, a1, a2]))
          go_wp2_with (first | (go_at_call 121; refine (let_any _ _ (by omega) (by omega)).mono ?_; rintro e w' ⟨rfl, rfl⟩) | (go_at_call 124; refine (dig_any _ _ (by omega) (by omega)).mono ?_; rintro e w' ⟨rfl, rfl⟩))
          go_round
          case rel => exact ⟨k + 1, by omega, by go_num, E.out.trans HR.out⟩
          case measure => simp [intOf]; omega
      · have E := Lib.hid (runEnd_in hlt (p := signB) (by simp [signB, a1]))
        go_wp2_with (first | (go_at_call 121; refine (let_any _ _ (by omega) (by omega)).mono ?_; rintro e w' ⟨rfl, rfl⟩) | (go_at_call 124; refine (dig_any _ _ (by omega) (by omega)).mono ?_; rintro e w' ⟨rfl, rfl⟩))
        go_round
        case rel => exact ⟨k + 1, by omega, by go_num, E.out.trans HR.out⟩
        case measure => simp [intOf]; omega
    · have E := Lib.hid (runEnd_end (p := signB) (s := s) (i := k) (by omega))
      go_wp2
      go_ret
      exact ⟨ret_int (by rw [← HR.out, E.out]), rfl⟩

set_option maxRecDepth 100000 in
set_option maxHeartbeats 400000 in
theorem number05_any (s : ByteArray) (i : Nat) (w : World) (hs : s.size ≤ 1048576) (hi : i ≤ s.size) :
    Calls Tryz.prog 125 #[.string s, .int .i64 (i : Int)] w fun e w' => e = .returned (.int .i64 (numEnd s i : Int)) ∧ w = w' := by
  have hl := runEnd_le digB s i hi
  have C0 := Lib.hid (fun W => run_any s i W hs hi)
  have HN : Hid (numEnd s i = if atB s (runEnd digB s i) 46 = true ∧ runEnd digB s i + 1 < runEnd digB s (runEnd digB s i + 1) then runEnd digB s (runEnd digB s i + 1) else runEnd digB s i) := Lib.hid rfl
  generalize runEnd digB s i = k at *
  by_cases h1 : k + 1 < s.size
  · have hk : k < s.size := by omega
    have i0 : (0 : Int) ≤ (k : Int) := by omega
    have i1 : (k : Int) < (s.size : Int) := by omega
    have j0 : (0 : Int) ≤ (k : Int) + 1 := by omega
    have j1 : (k : Int) + 1 < (s.size : Int) := by omega
    have ha := atB_is 46 46 rfl hk
    have hb : s[k + 1].toNat < 256 := s[k + 1].toNat_lt
    have C1 := Lib.hid (fun W => run_any s (k + 1) W hs (by omega))
    rw [show ((k + 1 : Nat) : Int) = (k : Int) + 1 by omega] at C1
    have hn : ((k : Int) + 1).toNat = k + 1 := by omega
    have HO := Lib.hid (runEnd_out h1 (p := digB))
    have HG := Lib.hid (runEnd_gt h1 (p := digB))
    cases a1 : atB s k 46
    · have E : Hid (numEnd s i = k) := Lib.hid (by rw [HN.out, if_neg]; rintro ⟨g, _⟩; rw [a1] at g; cases g)
      rw [a1] at ha
      go_enter Tryz.func125, Tryz.ntmps125
      go_wp2_with (go_at_call 178; refine (C0.out _).mono ?_; rintro e w' ⟨rfl, rfl⟩)
      go_ret
      exact ⟨ret_int (by rw [E.out]), rfl⟩
    · rw [a1] at ha
      cases a2 : digB s[k + 1].toNat
      · have E : Hid (numEnd s i = k) := Lib.hid (by rw [HN.out, if_neg]; rintro ⟨_, g⟩; rw [HO.out a2] at g; omega)
        go_enter Tryz.func125, Tryz.ntmps125
        go_wp2_with (first | (go_at_call 178; refine (C0.out _).mono ?_; rintro e w' ⟨rfl, rfl⟩) | (go_at_call 124; refine (dig_any _ _ (by omega) (by omega)).mono ?_; rintro e w' ⟨rfl, rfl⟩))
        go_ret
        exact ⟨ret_int (by rw [E.out]), rfl⟩
      · have E : Hid (numEnd s i = runEnd digB s (k + 1)) := Lib.hid (by rw [HN.out, if_pos ⟨a1, HG.out a2⟩])
        go_enter Tryz.func125, Tryz.ntmps125
        go_wp2_with fail
        refine (C0.out _).mono ?_
        rintro e w' ⟨rfl, rfl⟩
        go_wp2_with (first | (go_at_call 124; refine (dig_any _ _ (by omega) (by omega)).mono ?_; rintro e w' ⟨rfl, rfl⟩))
        refine (C1.out _).mono ?_
        rintro e w' ⟨rfl, rfl⟩
        go_wp2
        go_ret
        exact ⟨ret_int (by rw [E.out]), rfl⟩
  · have E : Hid (numEnd s i = k) := Lib.hid (by
      rw [HN.out, if_neg]; rintro ⟨_, g⟩
      by_cases h2 : k + 1 ≤ s.size
      · have := runEnd_le digB s (k + 1) h2; omega
      · rw [runEnd_end (by omega)] at g; omega)
    go_enter Tryz.func125, Tryz.ntmps125
    go_wp2_with (go_at_call 178; refine (C0.out _).mono ?_; rintro e w' ⟨rfl, rfl⟩)
    go_ret
    exact ⟨ret_int (by rw [E.out]), rfl⟩

def noneI (o : Option Nat) : Int := match o with | some k => (k : Int) | none => -1
set_option maxHeartbeats 800000 in
theorem re05_any (s : ByteArray) (b : Nat) (w : World) (hs : s.size ≤ 1048576) (hb1 : 1 ≤ b) (hb2 : b ≤ s.size) :
    Calls Tryz.prog 129 #[.string s, .int .i64 (b : Int)] w fun e w' => e = .returned (.int .i64 (noneI (stroke s b b))) ∧ w = w' := by
  go_enter Tryz.func129, Tryz.ntmps129
  go_wp2
  go_loop [5] (fun v => ∃ k : Nat, k ≤ s.size ∧ b ≤ k ∧ v = .int .i64 k ∧ stroke s b b = stroke s b k) (fun v => s.size - (intOf v).toNat)
  case atStart => exact ⟨b, hb2, Nat.le_refl _, rfl, rfl⟩
  case round =>
    obtain ⟨k, hk, hbk, rfl, hr⟩ := hrel
    have HR := Lib.hid hr; clear hr
    by_cases hlt : k < s.size
    · have i0 : (0 : Int) ≤ (k : Int) := by omega
      have i1 : (k : Int) < (s.size : Int) := by omega
      have j0 : (0 : Int) ≤ (k : Int) - 1 := by omega
      have j1 : (k : Int) - 1 < (s.size : Int) := by omega
      have hn : ((k : Int) - 1).toNat = k - 1 := by omega
      have hk1 : k - 1 < s.size := by omega
      have a10 := atB_is 10 10 rfl hlt
      have a47 := atB_is 47 47 rfl hlt
      have a92 := atB_is 92 92 rfl hk1
      have HNL := Lib.hid (@stroke_nl s b k hlt)
      have HH := Lib.hid (@stroke_hit s b k hlt)
      have HO := Lib.hid (@stroke_on s b k hlt)
      have E10 : Hid (atB s k 10 = true ↔ s[k] = 10) := Lib.hid (by rw [atB, dif_pos hlt, beq_iff_eq])
      have E47 : Hid (atB s k 47 = true ↔ s[k] = 47) := Lib.hid (by rw [atB, dif_pos hlt, beq_iff_eq])
      cases c10 : atB s k 10
      · have n10 : Hid (s[k] ≠ 10) := Lib.hid (fun e => by rw [E10.out.2 e] at c10; cases c10)
        rw [c10] at a10
        cases c47 : atB s k 47
        · have n47 : Hid (s[k] ≠ 47) := Lib.hid (fun e => by rw [E47.out.2 e] at c47; cases c47)
          rw [c47] at a47
          have E := Lib.hid (HO.out n10.out (fun g => n47.out g.1))
          go_wp2
          go_round
          case rel => exact ⟨k + 1, by omega, by omega, by go_num, HR.out.trans E.out.symm⟩
          case measure => simp [intOf]; omega
        · have n47 : Hid (s[k] = 47) := Lib.hid (E47.out.1 c47)
          rw [c47] at a47
          by_cases hkb : k = b
          · subst hkb
            have E := Lib.hid (HH.out n10.out ⟨n47.out, .inl rfl⟩)
            go_wp2
            go_ret
            exact ⟨ret_int (by rw [E.out]; rfl), rfl⟩
          · have hkb2 : ((k : Int) == (b : Int)) = false := by simp; omega
            cases c92 : atB s (k - 1) 92
            · rw [c92] at a92
              have E := Lib.hid (HH.out n10.out ⟨n47.out, .inr c92⟩)
              go_wp2
              go_ret
              exact ⟨ret_int (by rw [HR.out, E.out]; rfl), rfl⟩
            · rw [c92] at a92
              have E := Lib.hid (HO.out n10.out (fun g => by rcases g.2 with g | g; · exact hkb g
                                                             · rw [c92] at g; cases g))
              go_wp2
              go_round
              case rel => exact ⟨k + 1, by omega, by omega, by go_num, HR.out.trans E.out.symm⟩
              case measure => simp [intOf]; omega
      · have E := Lib.hid (HNL.out (E10.out.1 c10))
        rw [c10] at a10
        go_wp2
        go_ret
        exact ⟨ret_int (by rw [HR.out, E.out]; rfl), rfl⟩
    · have E := Lib.hid (stroke_end (s := s) (b := b) (k := k) (by omega))
      go_wp2
      go_ret
      exact ⟨ret_int (by rw [HR.out, E.out]; rfl), rfl⟩
end Go.Proofs.YtebeoijoljlhiaaGreatDoor.kit
