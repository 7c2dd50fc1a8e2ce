/-
  Contracts of the draws of two numbers, of laws.big, and what FnSums needs of sums, products, quotients. Conditions: the code's bytes are known.
-/
import Derived.Test.YtchagbhcekehmaaCod
import Derived.Test.YtchagbhcekehmaaNum0
import Derived.Test.YtchagbhcekehmaaMul3
namespace Go.Proofs.Ytchagbhcekehmaa.kit
open Go.ChangeShapes Go.WideShapes Go.ChangeAt Go.RowKit
set_option linter.unusedVariables false

theorem big_no (a : Option Addr) (n cap : Nat) (w : World) (h : n ≤ 1048576) :
    Calls Try.prog 9 #[.slice a n cap] w fun e w' => e = .returned (.bool false) ∧ w = w' := by
  have d1 : decide (1048576 < n) = false := by simp; omega
  have d2 : decide ((1048576 : Int) < (n : Int)) = false := by simp; omega
  go_enter Try.func9, Try.ntmps9
  go_wp2
  go_ret
  exact ⟨rfl, rfl⟩
theorem big_yes (a : Option Addr) (n cap : Nat) (w : World) (h : 1048576 < n) :
    Calls Try.prog 9 #[.slice a n cap] w fun e w' => e = .returned (.bool true) ∧ w = w' := by
  have d1 : decide (1048576 < n) = true := by simp; omega
  have d2 : decide ((1048576 : Int) < (n : Int)) = true := by simp; omega
  go_enter Try.func9, Try.ntmps9
  go_wp2
  go_ret
  exact ⟨rfl, rfl⟩
theorem drawAdd_any (a : Option Addr) (n cap : Nat) (w : World) (hn : n ≤ 1048576) (hc : Code8 w a n) :
    Calls Try.prog 32 #[.slice a n cap] w (GotII w) := by
  go_enter Try.func32, Try.ntmps32
  go_wp2_with fail
  refine (two_any a n cap _ hn hc).mono ?_
  rintro e w1 ⟨x, y, hx, hy, rfl, hb⟩
  go_wp2
  go_ret2
  exact ⟨x, y, hx, hy, rfl, hb⟩
theorem drawSub_any (a : Option Addr) (n cap : Nat) (w : World) (hn : n ≤ 1048576) (hc : Code8 w a n) :
    Calls Try.prog 35 #[.slice a n cap] w (GotII w) := by
  go_enter Try.func35, Try.ntmps35
  go_wp2_with fail
  refine (two_any a n cap _ hn hc).mono ?_
  rintro e w1 ⟨x, y, hx, hy, rfl, hb⟩
  go_wp2
  go_ret2
  exact ⟨x, y, hx, hy, rfl, hb⟩
theorem drawMul_any (a : Option Addr) (n cap : Nat) (w : World) (hn : n ≤ 1048576) (hc : Code8 w a n) :
    Calls Try.prog 38 #[.slice a n cap] w (GotII w) := by
  go_enter Try.func38, Try.ntmps38
  go_wp2_with fail
  refine (two_any a n cap _ hn hc).mono ?_
  rintro e w1 ⟨x, y, hx, hy, rfl, hb⟩
  go_wp2
  go_ret2
  exact ⟨x, y, hx, hy, rfl, hb⟩
theorem drawDiv_any (a : Option Addr) (n cap : Nat) (w : World) (hn : n ≤ 1048576) (hc : Code8 w a n) :
    Calls Try.prog 41 #[.slice a n cap] w (GotII w) := by
  go_enter Try.func41, Try.ntmps41
  go_wp2_with fail
  refine (two_any a n cap _ hn hc).mono ?_
  rintro e w1 ⟨x, y, hx, hy, rfl, hb⟩
  go_wp2
  go_ret2
  exact ⟨x, y, hx, hy, rfl, hb⟩
theorem drawMod_any (a : Option Addr) (n cap : Nat) (w : World) (hn : n ≤ 1048576) (hc : Code8 w a n) :
    Calls Try.prog 44 #[.slice a n cap] w (GotII w) := by
  go_enter Try.func44, Try.ntmps44
  go_wp2_with fail
  refine (two_any a n cap _ hn hc).mono ?_
  rintro e w1 ⟨x, y, hx, hy, rfl, hb⟩
  go_wp2
  go_ret2
  exact ⟨x, y, hx, hy, rfl, hb⟩
theorem numB_bnd {a : Int} (h : numB a = true) : -1000000000000 ≤ a ∧ a ≤ 1000000000000 := by simpa [numB, inB] using h
/-- What the law needs of a sum, a difference, a product, a quotient, a rest: contracts with nameless answers. -/
theorem addF (a b : Int) : ∃ (X : Int) (K : Bool), (∀ W, Calls Try.prog 33 #[.int .i64 a, .int .i64 b] W fun e w' => e = .returned (.tuple #[.int .i64 X, .bool K]) ∧ W = w') ∧
    (∀ W, Calls Try.prog 34 #[.int .i64 a, .int .i64 b] W fun e w' => e = .returned (.tuple #[.int .i64 X, .bool K]) ∧ W = w') ∧
    (K = true → ∀ W, Calls Try.prog 36 #[.int .i64 X, .int .i64 b] W fun e w' => e = .returned (.tuple #[.int .i64 a, .bool true]) ∧ W = w') := by
  refine ⟨_, _, fun W => implAdd_any a b W, fun W => specAdd_any a b W, fun hK W => ?_⟩
  have h := hK
  simp only [allB, Bool.and_eq_true] at h
  have e : gotN (allB a b (a + b)) (a + b) = a + b := by rw [hK]; rfl
  rw [e]
  have h2 := implSub_any (a + b) b W
  have e2 : allB (a + b) b (a + b - b) = true := by
    simp only [allB, Bool.and_eq_true]
    exact ⟨⟨h.2, h.1.2⟩, by rw [show a + b - b = a by omega]; exact h.1.1⟩
  rw [e2] at h2
  rw [show gotN true (a + b - b) = a by show a + b - b = a; omega] at h2
  exact h2
theorem subF (a b : Int) : ∃ (X : Int) (K : Bool), (∀ W, Calls Try.prog 36 #[.int .i64 a, .int .i64 b] W fun e w' => e = .returned (.tuple #[.int .i64 X, .bool K]) ∧ W = w') ∧
    (∀ W, Calls Try.prog 37 #[.int .i64 a, .int .i64 b] W fun e w' => e = .returned (.tuple #[.int .i64 X, .bool K]) ∧ W = w') :=
  ⟨_, _, fun W => implSub_any a b W, fun W => specSub_any a b W⟩
theorem mulV_comm (a b : Int) : mulV a b = mulV b a := by
  rw [mulV_sign a b _ _ rfl rfl, mulV_sign b a _ _ rfl rfl, Nat.mul_comm a.natAbs b.natAbs]
  cases decide (a < 0) <;> cases decide (b < 0) <;> rfl
theorem mulB_comm (a b : Int) : mulB a b = mulB b a := by
  unfold mulB
  rw [mulV_comm a b]
  cases numB a <;> cases numB b <;> rfl
theorem mulF (a b : Int) : ∃ (X : Int) (K : Bool), (∀ W, Calls Try.prog 39 #[.int .i64 a, .int .i64 b] W fun e w' => e = .returned (.tuple #[.int .i64 X, .bool K]) ∧ Below W.heap.size W w') ∧
    (∀ W, Calls Try.prog 40 #[.int .i64 a, .int .i64 b] W fun e w' => e = .returned (.tuple #[.int .i64 X, .bool K]) ∧ W = w') ∧
    (∀ W, Calls Try.prog 39 #[.int .i64 b, .int .i64 a] W fun e w' => e = .returned (.tuple #[.int .i64 X, .bool K]) ∧ Below W.heap.size W w') := by
  refine ⟨_, _, fun W => implMul_any a b W, fun W => specMul_any a b W, fun W => ?_⟩
  have h := implMul_any b a W
  rw [mulV_comm b a, mulB_comm b a] at h
  exact h
theorem divF (a b : Int) : ∃ (X : Int) (K : Bool), (∀ W, Calls Try.prog 42 #[.int .i64 a, .int .i64 b] W fun e w' => e = .returned (.tuple #[.int .i64 X, .bool K]) ∧ W = w') ∧
    (∀ W, Calls Try.prog 43 #[.int .i64 a, .int .i64 b] W fun e w' => e = .returned (.tuple #[.int .i64 X, .bool K]) ∧ W = w') :=
  ⟨_, _, fun W => implDiv_any a b W, fun W => specDiv_any a b W⟩
/-- What is left of a number by another one, and the quotient. -/
structure ModOk (a b m : Int) : Prop where
  a1 : -1000000000000 ≤ a
  a2 : a ≤ 1000000000000
  b1 : -1000000000000 ≤ b
  b2 : b ≤ 1000000000000
  b0 : b ≠ 0
  eq : m = a.tmod b
theorem modF (a b : Int) : ∃ (X : Int) (K : Bool), (∀ W, Calls Try.prog 45 #[.int .i64 a, .int .i64 b] W fun e w' => e = .returned (.tuple #[.int .i64 X, .bool K]) ∧ W = w') ∧
    (∀ W, Calls Try.prog 46 #[.int .i64 a, .int .i64 b] W fun e w' => e = .returned (.tuple #[.int .i64 X, .bool K]) ∧ W = w') ∧
    (K = true → ModOk a b X) := by
  refine ⟨_, _, fun W => implMod_any a b W, fun W => specMod_any a b W, fun hK => ?_⟩
  have h := hK
  simp only [modB, Bool.and_eq_true, Bool.not_eq_true', beq_eq_false_iff_ne] at h
  obtain ⟨⟨h1, h2⟩, h3⟩ := h
  have g1 := numB_bnd h1
  have g2 := numB_bnd h2
  exact ⟨g1.1, g1.2, g2.1, g2.2, h3, by rw [hK]; rfl⟩

/-- The quotient's whole part, as the law reckons it, and its facts. -/
structure Tail (i j m N : Int) : Prop where
  n1 : -9223372036854775808 ≤ N
  n2 : N ≤ 9223372036854775807
  p1 : -2000000000000 ≤ N.tdiv 1000000 * j
  p2 : N.tdiv 1000000 * j ≤ 2000000000000
  m1 : -1000000000000 ≤ m
  m2 : m ≤ 1000000000000
  eq : N.tdiv 1000000 * j + m = i
  sg : m < 0 ∧ i < 0 ∨ m = 0 ∨ 0 < m ∧ 0 ≤ i
  lo : -m < j ∨ -m < -j
  hi : m < j ∨ m < -j
theorem quot_bd {a b : Int} (hb : b ≠ 0) (L : Int) (h0 : 0 ≤ L) (h1 : -L ≤ a) (h2 : a ≤ L) : -L ≤ a.tdiv b ∧ a.tdiv b ≤ L := by
  have h : (a.tdiv b).natAbs ≤ a.natAbs := by rw [Int.natAbs_tdiv]; exact Nat.div_le_self _ _
  omega
theorem tdiv_nat (A B : Nat) : (A : Int).tdiv (B : Int) = ((A / B : Nat) : Int) := by
  rw [Int.tdiv_eq_ediv_of_nonneg (by omega)]; rfl
theorem twice_nat (A B : Nat) : (((A : Int) * 1000000).tdiv (B : Int)).tdiv 1000000 = (A : Int).tdiv (B : Int) := by
  rw [show (A : Int) * 1000000 = ((A * 1000000 : Nat) : Int) by omega, tdiv_nat, show (1000000 : Int) = ((1000000 : Nat) : Int) from rfl, tdiv_nat, tdiv_nat, Nat.div_div_eq_div_mul, Nat.mul_div_mul_right _ _ (by omega)]
theorem twice_div (i j : Int) : ((i * 1000000).tdiv j).tdiv 1000000 = i.tdiv j := by
  obtain ⟨A, hA⟩ : ∃ A : Nat, i = A ∨ i = -(A : Int) := ⟨i.natAbs, by omega⟩
  obtain ⟨B, hB⟩ : ∃ B : Nat, j = B ∨ j = -(B : Int) := ⟨j.natAbs, by omega⟩
  rcases hA with rfl | rfl <;> rcases hB with rfl | rfl <;> simp only [Int.neg_mul, Int.neg_tdiv, Int.tdiv_neg, Int.neg_neg, twice_nat]
theorem rest_bd {a b : Int} (hb : b ≠ 0) : (a.tmod b).natAbs < b.natAbs := by
  rw [Int.natAbs_tmod]; exact Nat.mod_lt _ (by omega)
theorem rest_sg (a b : Int) : a.tmod b < 0 ∧ a < 0 ∨ a.tmod b = 0 ∨ 0 < a.tmod b ∧ 0 ≤ a := by
  rcases Int.le_total 0 a with h | h
  · have := Int.tmod_nonneg b h; omega
  · have := Int.tmod_nonneg b (show 0 ≤ -a by omega); rw [Int.neg_tmod] at this
    by_cases e : a = 0
    · subst e; simp
    · omega
theorem tail_of {i j m : Int} (h : ModOk i j m) : -1000000000000000000 ≤ (i * 1000000).tdiv j ∧ (i * 1000000).tdiv j ≤ 1000000000000000000 ∧ Tail i j m (((i * 1000000).tdiv j).tdiv 1000000 * 1000000) := by
  obtain ⟨a1, a2, b1, b2, b0, rfl⟩ := h
  have hV := quot_bd (a := i * 1000000) b0 1000000000000000000 (by omega) (by omega) (by omega)
  have e1 := twice_div i j
  have e2 : (i.tdiv j * 1000000).tdiv 1000000 = i.tdiv j := Int.mul_tdiv_cancel _ (by omega)
  have hq := quot_bd (a := i) b0 1000000000000 (by omega) a1 a2
  have hm := Int.tdiv_mul_add_tmod i j
  have hr := rest_bd (a := i) b0
  have hs := rest_sg i j
  rw [e1]
  refine ⟨hV.1, hV.2, by omega, by omega, ?_, ?_, by omega, by omega, ?_, hs, by omega, by omega⟩
  all_goals (rw [e2]; omega)
end Go.Proofs.Ytchagbhcekehmaa.kit
