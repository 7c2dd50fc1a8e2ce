/-
  Contracts of Mul and Div of both sides over this seat's translation: for every two ints both give the same number and flag. Conditions: none.
-/
import Derived.Test.YtchagbhcekehmaaDoorMul1
namespace Go.Proofs.YtchagbhcekehmaaDoor.kit
open Go.ChangeShapes Go.WideShapes Go.ChangeAt Go.RowKit
set_option linter.unusedVariables false

/-- The product as the model reckons it. -/
def mulV (a b : Int) : Int := a.tdiv 1000000 * b + (a.tmod 1000000 * b).tdiv 1000000
theorem mulV_nat (A B : Nat) : mulV A B = divN (A * B) 1000000 := by
  unfold mulV divN
  have h1 : (A : Int).tdiv 1000000 = ((A / 1000000 : Nat) : Int) := by rw [Int.tdiv_eq_ediv_of_nonneg (by omega)]; omega
  have h2 : (A : Int).tmod 1000000 = ((A % 1000000 : Nat) : Int) := by rw [Int.tmod_eq_emod_of_nonneg (by omega)]; omega
  rw [h1, h2, ← Int.natCast_mul, ← Int.natCast_mul]
  have h3 : (((A % 1000000 * B : Nat) : Int)).tdiv 1000000 = ((A % 1000000 * B / 1000000 : Nat) : Int) := by rw [Int.tdiv_eq_ediv_of_nonneg (by omega)]; omega
  rw [h3, ← Int.natCast_add]
  congr 1
  have h4 : A * B = 1000000 * (A / 1000000 * B) + A % 1000000 * B := by
    have h5 : A = 1000000 * (A / 1000000) + A % 1000000 := by omega
    rw [← Nat.mul_assoc, ← Nat.add_mul, ← h5]
  rw [h4, Nat.mul_add_div (by omega)]
theorem mulV_neg_left (a b : Int) : mulV (-a) b = -mulV a b := by
  unfold mulV
  rw [Int.neg_tdiv, Int.neg_tmod, Int.neg_mul, Int.neg_mul, Int.neg_tdiv]; omega
theorem mulV_neg_right (a b : Int) : mulV a (-b) = -mulV a b := by
  unfold mulV
  rw [Int.mul_neg, Int.mul_neg, Int.neg_tdiv]; omega
/-- The quotient as the model reckons it. -/
def divV (a b : Int) : Int := (a * 1000000).tdiv b
theorem divV_nat (A B : Nat) : divV A B = divN (A * 1000000) B := by
  unfold divV divN
  rw [show (A : Int) * 1000000 = ((A * 1000000 : Nat) : Int) by omega, Int.tdiv_eq_ediv_of_nonneg (by omega), Int.natCast_ediv]
theorem divV_neg_left (a b : Int) : divV (-a) b = -divV a b := by unfold divV; rw [Int.neg_mul, Int.neg_tdiv]
theorem divV_neg_right (a b : Int) : divV a (-b) = -divV a b := by unfold divV; rw [Int.tdiv_neg]
theorem cut_got (V S : Int) (b : Bool) (h0 : 0 ≤ S) (h : V = if b then -S else S) : cutN S b = gotN (numB V) V ∧ cutB S = numB V := by
  subst h
  by_cases hs : S ≤ 1000000000000
  · have hn : numB (if b then -S else S) = true := by cases b <;> simp [numB, inB] <;> omega
    rw [hn, (cutN_yes hs b).1, (cutN_yes hs b).2]; exact ⟨rfl, rfl⟩
  · have hn : numB (if b then -S else S) = false := by cases b <;> simp [numB, inB] <;> omega
    rw [hn, (cutN_no hs b).1, (cutN_no hs b).2]; exact ⟨rfl, rfl⟩
theorem mulV_sign (a b : Int) (x y : Bool) (hx : decide (a < 0) = x) (hy : decide (b < 0) = y) : mulV a b = if (x != y) then -divN (a.natAbs * b.natAbs) 1000000 else divN (a.natAbs * b.natAbs) 1000000 := by
  rw [← mulV_nat]
  cases x <;> cases y <;> simp at hx hy
  · rw [show (a.natAbs : Int) = a by omega, show (b.natAbs : Int) = b by omega]; rfl
  · rw [show (a.natAbs : Int) = a by omega, show (b.natAbs : Int) = -b by omega, mulV_neg_right, Int.neg_neg]; rfl
  · rw [show (a.natAbs : Int) = -a by omega, show (b.natAbs : Int) = b by omega, mulV_neg_left, Int.neg_neg]; rfl
  · have e : mulV (a.natAbs : Int) (b.natAbs : Int) = mulV a b := by rw [show (a.natAbs : Int) = -a by omega, show (b.natAbs : Int) = -b by omega, mulV_neg_left, mulV_neg_right, Int.neg_neg]
    rw [e]; rfl
theorem divV_sign (a b : Int) (x y : Bool) (hx : decide (a < 0) = x) (hy : decide (b < 0) = y) : divV a b = if (x != y) then -divN (a.natAbs * 1000000) b.natAbs else divN (a.natAbs * 1000000) b.natAbs := by
  rw [← divV_nat]
  cases x <;> cases y <;> simp at hx hy
  · rw [show (a.natAbs : Int) = a by omega, show (b.natAbs : Int) = b by omega]; rfl
  · rw [show (a.natAbs : Int) = a by omega, show (b.natAbs : Int) = -b by omega, divV_neg_right, Int.neg_neg]; rfl
  · rw [show (a.natAbs : Int) = -a by omega, show (b.natAbs : Int) = b by omega, divV_neg_left, Int.neg_neg]; rfl
  · have e : divV (a.natAbs : Int) (b.natAbs : Int) = divV a b := by rw [show (a.natAbs : Int) = -a by omega, show (b.natAbs : Int) = -b by omega, divV_neg_left, divV_neg_right, Int.neg_neg]
    rw [e]; rfl
theorem mul_bd {x y : Int} {X Y : Nat} (hx : x.natAbs ≤ X) (hy : y.natAbs ≤ Y) : (x * y).natAbs ≤ X * Y := by
  rw [Int.natAbs_mul]; exact Nat.mul_le_mul hx hy
theorem tdiv_bd (x : Int) : (x.tdiv 1000000).natAbs ≤ x.natAbs / 1000000 := by rw [Int.natAbs_tdiv]; exact Nat.le_refl _
theorem tmod_bd (x : Int) : (x.tmod 1000000).natAbs < 1000000 := by
  have := Int.lt_tmod_of_pos x (show (0:Int) < 1000000 by omega)
  have := Int.tmod_lt_of_pos x (show (0:Int) < 1000000 by omega)
  omega

def mulB (a b : Int) : Bool := numB a && numB b && numB (mulV a b)
theorem specMul_any (a b : Int) (w : World) :
    Calls Tryd.prog 66 #[.int .i64 a, .int .i64 b] w fun e w' => e = .returned (.tuple #[.int .i64 (gotN (mulB a b) (mulV a b)), .bool (mulB a b)]) ∧ w = w' := by
  cases h1 : numB a
  · have E := Lib.hid (show mulB a b = false by simp [mulB, h1])
    go_enter Tryd.func66, Tryd.ntmps66
    go_wp2_with (go_at_call 77; refine (is_any _ _).mono ?_; rintro e w' ⟨rfl, rfl⟩)
    go_ret2
    exact ⟨ret_two (gotN_no E.out _).symm E.out.symm, rfl⟩
  · cases h2 : numB b
    · have E := Lib.hid (show mulB a b = false by simp [mulB, h2])
      go_enter Tryd.func66, Tryd.ntmps66
      go_wp2_with (go_at_call 77; refine (is_any _ _).mono ?_; rintro e w' ⟨rfl, rfl⟩)
      go_ret2
      exact ⟨ret_two (gotN_no E.out _).symm E.out.symm, rfl⟩
    · obtain ⟨b1, b2⟩ := numB_yes h1
      obtain ⟨b3, b4⟩ := numB_yes h2
      have E := Lib.hid (show mulB a b = numB (mulV a b) by simp [mulB, h1, h2])
      have c1 := tdiv_bd a
      have c2 := tmod_bd a
      have c3 := mul_bd (X := 1000000) (Y := 1000000000000) (x := a.tdiv 1000000) (y := b) (by omega) (by omega)
      have c4 := mul_bd (X := 1000000) (Y := 1000000000000) (x := a.tmod 1000000) (y := b) (by omega) (by omega)
      have c5 := tdiv_bd (a.tmod 1000000 * b)
      have c6 : mulV a b = a.tdiv 1000000 * b + (a.tmod 1000000 * b).tdiv 1000000 := rfl
      have d1 : -1000000 ≤ a.tdiv 1000000 ∧ a.tdiv 1000000 ≤ 1000000 := by omega
      have d3 : -1000000000000000000 ≤ a.tdiv 1000000 * b ∧ a.tdiv 1000000 * b ≤ 1000000000000000000 := by omega
      have d4 : -1000000000000000000 ≤ a.tmod 1000000 * b ∧ a.tmod 1000000 * b ≤ 1000000000000000000 := by omega
      have d5 : -1000000000000 ≤ (a.tmod 1000000 * b).tdiv 1000000 ∧ (a.tmod 1000000 * b).tdiv 1000000 ≤ 1000000000000 := by omega
      obtain ⟨d1, d1'⟩ := d1
      obtain ⟨d3, d3'⟩ := d3
      obtain ⟨d4, d4'⟩ := d4
      obtain ⟨d5, d5'⟩ := d5
      have C6 := Lib.hid c6
      clear c1 c2 c3 c4 c5 c6
      go_enter Tryd.func66, Tryd.ntmps66
      go_wp2_with (first | (go_at_call 77; refine (is_any _ _).mono ?_; rintro e w' ⟨rfl, rfl⟩) | (go_at_call 67; refine (made_any _ _).mono ?_; rintro e w' ⟨rfl, rfl⟩))
      go_ret2
      exact ⟨ret_two (by rw [E.out, C6.out]) (by rw [E.out, C6.out]), rfl⟩
def quoB (a b : Int) : Bool := numB a && numB b && !(b == 0) && numB (divV a b)
end Go.Proofs.YtchagbhcekehmaaDoor.kit
