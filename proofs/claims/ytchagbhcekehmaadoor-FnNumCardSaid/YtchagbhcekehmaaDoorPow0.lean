/-
  Contracts of Pow of both sides over this seat's translation: for every two ints both give the same number and flag. Conditions: none but that the ints are of 64 bits.
-/
import Derived.Test.YtchagbhcekehmaaDoorMul3
namespace Go.Proofs.YtchagbhcekehmaaDoor.kit
open Go.ChangeShapes Go.WideShapes Go.ChangeAt Go.RowKit
set_option linter.unusedVariables false

/-- A number times itself, k times, and whether all of these are numbers. -/
def pow2 (a : Int) : Nat → Int × Bool
  | 0 => (1000000, true)
  | k + 1 => (gotN ((pow2 a k).2 && mulB (pow2 a k).1 a) (mulV (pow2 a k).1 a), (pow2 a k).2 && mulB (pow2 a k).1 a)
def powV (a : Int) (k : Nat) : Int := (pow2 a k).1
def powR (a : Int) (k : Nat) : Bool := (pow2 a k).2
theorem pow_step {a : Int} {k : Nat} (h : powR a k = true) : powV a (k + 1) = gotN (mulB (powV a k) a) (mulV (powV a k) a) ∧ powR a (k + 1) = mulB (powV a k) a := by
  unfold powR at h
  simp [powV, powR, pow2, h]
theorem pow_no {a : Int} {k n : Nat} (hkn : k ≤ n) (h : powR a k = false) : powR a n = false := by
  induction n with
  | zero => obtain rfl : k = 0 := by omega
            exact h
  | succ n ih =>
    by_cases e : k = n + 1
    · subst e; exact h
    · have := ih (by omega)
      unfold powR at this ⊢
      simp [pow2, this]
theorem pow_zero {a : Int} {k : Nat} (h : powR a k = false) : powV a k = 0 := by
  cases k with
  | zero => cases h
  | succ k =>
    unfold powR at h
    have h' : ((pow2 a k).2 && mulB (pow2 a k).1 a) = false := h
    show gotN ((pow2 a k).2 && mulB (pow2 a k).1 a) (mulV (pow2 a k).1 a) = 0
    rw [h']; rfl
theorem pow_num {a : Int} {k : Nat} (h : powR a k = true) : numB (powV a k) = true := by
  cases k with
  | zero => show numB 1000000 = true; decide
  | succ k =>
    have h' : ((pow2 a k).2 && mulB (pow2 a k).1 a) = true := h
    show numB (gotN ((pow2 a k).2 && mulB (pow2 a k).1 a) (mulV (pow2 a k).1 a)) = true
    rw [h', gotN_yes rfl]
    simp only [Bool.and_eq_true] at h'
    have := h'.2
    simp only [mulB, Bool.and_eq_true] at this
    exact this.2
def powOk (b : Int) : Bool := decide (0 ≤ b ∧ b ≤ 40000000 ∧ b.tmod 1000000 = 0)
def powAnsV (a b : Int) : Int := if powOk b then powV a (b / 1000000).toNat else 0
def powAnsB (a b : Int) : Bool := powOk b && powR a (b / 1000000).toNat
theorem powAns_no {a b : Int} (h : ¬ (0 ≤ b ∧ b ≤ 40000000 ∧ b.tmod 1000000 = 0)) : powAnsV a b = 0 ∧ powAnsB a b = false := by
  have : powOk b = false := by simpa only [powOk, decide_eq_false_iff_not] using h
  simp [powAnsV, powAnsB, this]
theorem powAns_yes {a b : Int} (h1 : 0 ≤ b) (h2 : b ≤ 40000000) (h3 : b.tmod 1000000 = 0) : powAnsV a b = powV a (b / 1000000).toNat ∧ powAnsB a b = powR a (b / 1000000).toNat := by
  have : powOk b = true := by simp only [powOk, decide_eq_true_eq]; exact ⟨h1, h2, h3⟩
  simp [powAnsV, powAnsB, this]
theorem powAns_cut {a b : Int} (h1 : 0 ≤ b) (h2 : b ≤ 40000000) (h3 : b.tmod 1000000 = 0) {k : Nat} (hk : (k : Int) ≤ b / 1000000) (h : powR a k = false) : powAnsV a b = 0 ∧ powAnsB a b = false := by
  have hn := pow_no (n := (b / 1000000).toNat) (by omega) h
  obtain ⟨e1, e2⟩ := powAns_yes (a := a) h1 h2 h3
  rw [e1, e2]
  exact ⟨pow_zero hn, hn⟩

theorem made_no (n : Int) (w : World) :
    Calls Tryd.prog 67 #[.int .i64 n, .bool false] w fun e w' => e = .returned (.tuple #[.int .i64 0, .bool false]) ∧ w = w' := by
  go_enter Tryd.func67, Tryd.ntmps67
  go_wp2_with (go_at_call 77; refine (is_any _ _).mono ?_; rintro e w' ⟨rfl, rfl⟩)
  go_ret2
  exact ⟨rfl, rfl⟩
set_option maxHeartbeats 1000000 in
theorem specPow_any (a b : Int) (w : World) (hb1 : -9223372036854775808 ≤ b) (hb2 : b ≤ 9223372036854775807) :
    Calls Tryd.prog 27 #[.int .i64 a, .int .i64 b] w fun e w' => e = .returned (.tuple #[.int .i64 (powAnsV a b), .bool (powAnsB a b)]) ∧ w = w' := by
  cases h1 : (b.tmod 1000000 != 0)
  · have h1' : b.tmod 1000000 = 0 := by simpa using h1
    have H1 := Lib.hid h1'
    cases h2 : inB b 0 40000000
    · have E := Lib.hid (powAns_no (a := a) (b := b) (by simp only [inB, decide_eq_false_iff_not] at h2; rintro ⟨x, y, _⟩; exact h2 ⟨x, y⟩))
      clear h1'
      go_enter Tryd.func27, Tryd.ntmps27
      go_wp2_with (go_at_call 64; refine (in_any _ _ _ _).mono ?_; rintro e w' ⟨rfl, rfl⟩)
      go_ret2
      exact ⟨ret_two E.out.1.symm E.out.2.symm, rfl⟩
    · have h3 : 0 ≤ b ∧ b ≤ 40000000 := by simpa only [inB, decide_eq_true_eq] using h2
      obtain ⟨g1, g2⟩ := h3
      have h4 : (b % 1000000 != 0) = false := by rw [Int.tmod_eq_emod_of_nonneg g1] at h1; exact h1
      clear h1 h1'
      go_enter Tryd.func27, Tryd.ntmps27
      go_wp2_with (go_at_call 64; refine (in_any _ _ _ _).mono ?_; rintro e w' ⟨rfl, rfl⟩)
      go_loop [6, 7, 8] (fun o f i => ∃ k : Nat, (k : Int) ≤ b / 1000000 ∧ o = .int .i64 (powV a k) ∧ f = .bool (powR a k) ∧ i = .int .i64 k) (fun _ _ i => (b / 1000000 - intOf i).toNat)
      case atStart => exact ⟨0, by omega, rfl, rfl, rfl⟩
      case round =>
        obtain ⟨k, hk, rfl, rfl, rfl⟩ := hrel
        by_cases hlt : (k : Int) < b / 1000000
        · cases hr : powR a k
          · have E := Lib.hid (powAns_cut g1 g2 H1.out hk hr)
            generalize powV a k = v
            go_wp2_with (go_at_call 67; refine (made_no _ _).mono ?_; rintro e w' ⟨rfl, rfl⟩)
            go_ret2
            exact ⟨ret_two E.out.1.symm E.out.2.symm, rfl⟩
          · have E := Lib.hid (pow_step hr)
            go_wp2_with (go_at_call 66; refine (specMul_any _ _ _).mono ?_; rintro e w' ⟨rfl, rfl⟩)
            go_round
            case rel => exact ⟨k + 1, by omega, by rw [E.out.1], by rw [E.out.2], by go_num⟩
            case measure => simp [intOf]; omega
        · have hkn : Hid (k = (b / 1000000).toNat) := Lib.hid (by omega)
          have E := Lib.hid (powAns_yes (a := a) g1 g2 H1.out)
          cases hr : powR a k
          · have E' := Lib.hid (powAns_cut g1 g2 H1.out hk hr)
            generalize powV a k = v
            go_wp2_with (go_at_call 67; refine (made_no _ _).mono ?_; rintro e w' ⟨rfl, rfl⟩)
            go_ret2
            exact ⟨ret_two E'.out.1.symm E'.out.2.symm, rfl⟩
          · have N := Lib.hid (pow_num hr)
            have HR := Lib.hid hr
            go_wp2_with (go_at_call 67; refine (made_any _ _).mono ?_; rintro e w' ⟨rfl, rfl⟩)
            go_ret2
            exact ⟨ret_two (by rw [N.out, E.out.1, ← hkn.out]; rfl) (by rw [N.out, E.out.2, ← hkn.out, HR.out]), rfl⟩
  · have E := Lib.hid (powAns_no (a := a) (b := b) (by rintro ⟨_, _, x⟩; rw [x] at h1; cases h1))
    by_cases hn : 0 ≤ b
    · have h4 : (b % 1000000 != 0) = true := by rw [Int.tmod_eq_emod_of_nonneg hn] at h1; exact h1
      clear h1
      go_enter Tryd.func27, Tryd.ntmps27
      go_wp2
      go_ret2
      exact ⟨ret_two E.out.1.symm E.out.2.symm, rfl⟩
    · go_enter Tryd.func27, Tryd.ntmps27
      go_wp2
      go_ret2
      exact ⟨ret_two E.out.1.symm E.out.2.symm, rfl⟩
set_option maxHeartbeats 1000000 in
theorem implPow_any (a b : Int) (w : World) (hb1 : -9223372036854775808 ≤ b) (hb2 : b ≤ 9223372036854775807) :
    Calls Tryd.prog 26 #[.int .i64 a, .int .i64 b] w fun e w' => e = .returned (.tuple #[.int .i64 (powAnsV a b), .bool (powAnsB a b)]) ∧ Below w.heap.size w w' := by
  by_cases g1 : 0 ≤ b
  · by_cases g2 : b ≤ 40000000
    · cases h1 : (b % 1000000 != 0)
      · have H1 : Hid (b.tmod 1000000 = 0) := Lib.hid (by rw [Int.tmod_eq_emod_of_nonneg g1]; simpa using h1)
        go_enter Tryd.func26, Tryd.ntmps26
        go_wp2
        go_loopw [6, 7, 8] (fun o f i wr => ∃ k : Nat, (k : Int) ≤ b / 1000000 ∧ o = .int .i64 (powV a k) ∧ f = .bool (powR a k) ∧ i = .int .i64 (b / 1000000 - k) ∧ Below w.heap.size w wr) (fun _ _ i _ => (intOf i).toNat)
        case atStart => exact ⟨0, by omega, rfl, rfl, by simp, Below.refl _ _⟩
        case round =>
          obtain ⟨k, hk, rfl, rfl, rfl, hbl⟩ := hrel
          have HB := Lib.hid hbl; clear hbl
          by_cases hlt : (k : Int) < b / 1000000
          · cases hr : powR a k
            · have E := Lib.hid (powAns_cut g1 g2 H1.out hk hr)
              have HV := Lib.hid (pow_zero hr)
              rw [HV.out]
              go_wp2_with fail
              go_ret2
              exact ⟨ret_two E.out.1.symm E.out.2.symm, HB.out⟩
            · have E := Lib.hid (pow_step hr)
              go_wp2_with (go_at_call 40; refine (implMul_any _ _ _).mono ?_; rintro e w' ⟨rfl, hb⟩)
              go_roundw
              case rel => exact ⟨k + 1, by omega, by rw [E.out.1], by rw [E.out.2], by go_num, HB.out.trans (hb.mono HB.out.size)⟩
              case measure => simp [intOf]; omega
          · have hkn : Hid (k = (b / 1000000).toNat) := Lib.hid (by omega)
            have E := Lib.hid (powAns_yes (a := a) g1 g2 H1.out)
            cases hr : powR a k
            all_goals
              have HR := Lib.hid hr
              go_wp2_with fail
              go_ret2
              exact ⟨ret_two (by rw [E.out.1, ← hkn.out]) (by rw [E.out.2, ← hkn.out, HR.out]), HB.out⟩
      · have E := Lib.hid (powAns_no (a := a) (b := b) (by rintro ⟨_, _, x⟩; rw [Int.tmod_eq_emod_of_nonneg g1] at x; rw [x] at h1; cases h1))
        go_enter Tryd.func26, Tryd.ntmps26
        go_wp2
        go_ret2
        exact ⟨ret_two E.out.1.symm E.out.2.symm, Below.refl _ _⟩
    · have E := Lib.hid (powAns_no (a := a) (b := b) (by omega))
      go_enter Tryd.func26, Tryd.ntmps26
      go_wp2
      go_ret2
      exact ⟨ret_two E.out.1.symm E.out.2.symm, Below.refl _ _⟩
  · have E := Lib.hid (powAns_no (a := a) (b := b) (by omega))
    go_enter Tryd.func26, Tryd.ntmps26
    go_wp2
    go_ret2
    exact ⟨ret_two E.out.1.symm E.out.2.symm, Below.refl _ _⟩
end Go.Proofs.YtchagbhcekehmaaDoor.kit
