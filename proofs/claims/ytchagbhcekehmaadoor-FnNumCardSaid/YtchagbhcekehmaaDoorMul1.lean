/-
  Contracts of the method over of a wide product and of impl.cutDown at both its types, over this seat's translation. Conditions: each theorem names its own.
-/
import Derived.Test.YtchagbhcekehmaaDoorMul0
namespace Go.Proofs.YtchagbhcekehmaaDoor.kit
open Go.ChangeShapes Go.WideShapes Go.ChangeAt Go.RowKit
set_option linter.unusedVariables false

theorem div64_any (hi lo : Nat) (M : Int) (w : World) (hhi : hi < 1000000) (hM : Hid (M = 1000000)) (m1 : 999999 < M) (m2 : M < 1000001) (hlo : lo < 18446744073709551616) :
    Calls Tryd.prog 142 #[.int .u64 (hi : Int), .int .u64 (lo : Int), .int .u64 M] w (DivPost hi lo w) := by
  by_cases h : hi = 0
  · subst h; exact div64_low lo M w hM m1 m2 hlo
  · exact div64_high hi lo M w hhi hM m1 m2 (by simpa using h) hlo
theorem below_drewN (w : World) (n : Nat) : Below w.heap.size w (w.drewN n) := by
  induction n with
  | zero => exact Below.refl _ _
  | succ n ih => exact ih.trans ((Below.refl _ _).drew)

theorem wideOver_any (hi lo : Nat) (M : Int) (w : World) (hhi : hi < 1000000) (hM : Hid (M = 1000000)) (m1 : 999999 < M) (m2 : M < 1000001) (hlo : lo < 18446744073709551616) :
    Calls Tryd.prog 141 #[.agg #[.int .u64 (hi : Int), .int .u64 (lo : Int)], .int .u64 M] w fun e w' => e = .returned (.int .u64 (dq hi lo)) ∧ Below w.heap.size w w' := by
  go_enter Tryd.func141, Tryd.ntmps141
  go_wp2_with (go_at_call 142; refine (div64_any hi lo M _ hhi hM m1 m2 hlo).mono ?_; rintro e w' ⟨r, n, rfl, rfl⟩)
  go_ret
  exact ⟨rfl, ((Below.refl _ _).alloc (Nat.le_refl _) _).trans ((below_drewN _ _).mono (by simp))⟩

def cutB (S : Int) : Bool := decide (S ≤ 1000000000000)
def cutN (S : Int) (below : Bool) : Int := if cutB S then (if below then -S else S) else 0
theorem cutN_no {S : Int} (h : ¬ S ≤ 1000000000000) (b : Bool) : cutN S b = 0 ∧ cutB S = false := by
  have : cutB S = false := by simpa [cutB] using h
  simp [cutN, this]
theorem cutN_yes {S : Int} (h : S ≤ 1000000000000) (b : Bool) : cutN S b = (if b then -S else S) ∧ cutB S = true := by
  have : cutB S = true := by simpa [cutB] using h
  simp [cutN, this]
theorem divN_nonneg (p q : Nat) : 0 ≤ divN p q := Int.natCast_nonneg _
theorem dq_nonneg (hi lo : Nat) : 0 ≤ dq hi lo := divN_nonneg _ _
theorem mWide (x y : Value) (w : World) : (method 252 80 (.agg #[x, y]) "loop.example/g00560/impl.over").run Tryd.prog w = .ok (141, .agg #[x, y]) w := by kernel_rfl
theorem cutWide_t (hi lo : Nat) (M S : Int) (w : World) (C : Hid (∀ W, Calls Tryd.prog 141 #[.agg #[.int .u64 (hi : Int), .int .u64 (lo : Int)], .int .u64 M] W fun e w' => e = .returned (.int .u64 S) ∧ Below W.heap.size W w')) (hS : 0 ≤ S) (h : S ≤ 1000000000000) :
    Calls Tryd.prog 80 #[.agg #[.int .u64 (hi : Int), .int .u64 (lo : Int)], .int .u64 M, .bool true] w fun e w' => e = .returned (.tuple #[.int .i64 (-S), .bool true]) ∧ Below w.heap.size w w' := by
  have hm := mWide
  go_enter Tryd.func80, Tryd.ntmps80
  go_wp2_with (go_at_call 141; refine (C.out _).mono ?_; rintro e w1 ⟨rfl, hb⟩)
  go_ret2
  exact ⟨rfl, ((Below.refl _ _).alloc (Nat.le_refl _) _).trans (hb.mono (by simp))⟩
theorem cutWide_f (hi lo : Nat) (M S : Int) (w : World) (C : Hid (∀ W, Calls Tryd.prog 141 #[.agg #[.int .u64 (hi : Int), .int .u64 (lo : Int)], .int .u64 M] W fun e w' => e = .returned (.int .u64 S) ∧ Below W.heap.size W w')) (hS : 0 ≤ S) (h : S ≤ 1000000000000) :
    Calls Tryd.prog 80 #[.agg #[.int .u64 (hi : Int), .int .u64 (lo : Int)], .int .u64 M, .bool false] w fun e w' => e = .returned (.tuple #[.int .i64 S, .bool true]) ∧ Below w.heap.size w w' := by
  have hm := mWide
  go_enter Tryd.func80, Tryd.ntmps80
  go_wp2_with (go_at_call 141; refine (C.out _).mono ?_; rintro e w1 ⟨rfl, hb⟩)
  go_ret2
  exact ⟨rfl, ((Below.refl _ _).alloc (Nat.le_refl _) _).trans (hb.mono (by simp))⟩
theorem cutWide_n (hi lo : Nat) (M S : Int) (w : World) (C : Hid (∀ W, Calls Tryd.prog 141 #[.agg #[.int .u64 (hi : Int), .int .u64 (lo : Int)], .int .u64 M] W fun e w' => e = .returned (.int .u64 S) ∧ Below W.heap.size W w')) (hS : 0 ≤ S) (h : ¬ S ≤ 1000000000000) (below : Bool) :
    Calls Tryd.prog 80 #[.agg #[.int .u64 (hi : Int), .int .u64 (lo : Int)], .int .u64 M, .bool below] w fun e w' => e = .returned (.tuple #[.int .i64 0, .bool false]) ∧ Below w.heap.size w w' := by
  have hm := mWide
  go_enter Tryd.func80, Tryd.ntmps80
  go_wp2_with (go_at_call 141; refine (C.out _).mono ?_; rintro e w1 ⟨rfl, hb⟩)
  go_ret2
  exact ⟨rfl, ((Below.refl _ _).alloc (Nat.le_refl _) _).trans (hb.mono (by simp))⟩
theorem ite_f (S : Int) : (if false = true then -S else S) = S := if_neg (by decide)
theorem ite_t (S : Int) : (if true = true then -S else S) = -S := if_pos rfl
theorem cutWide_gen (hi lo : Nat) (M S : Int) (below : Bool) (w : World) (C : Hid (∀ W, Calls Tryd.prog 141 #[.agg #[.int .u64 (hi : Int), .int .u64 (lo : Int)], .int .u64 M] W fun e w' => e = .returned (.int .u64 S) ∧ Below W.heap.size W w')) (hS : 0 ≤ S) :
    Calls Tryd.prog 80 #[.agg #[.int .u64 (hi : Int), .int .u64 (lo : Int)], .int .u64 M, .bool below] w fun e w' => e = .returned (.tuple #[.int .i64 (cutN S below), .bool (cutB S)]) ∧ Below w.heap.size w w' := by
  by_cases h : S ≤ 1000000000000
  · rw [(cutN_yes h below).1, (cutN_yes h below).2]
    cases below
    · rw [ite_f]; exact cutWide_f hi lo M S w C hS h
    · rw [ite_t]; exact cutWide_t hi lo M S w C hS h
  · rw [(cutN_no h below).1, (cutN_no h below).2]
    exact cutWide_n hi lo M S w C hS h below
theorem cutWide_any (hi lo : Nat) (M : Int) (below : Bool) (w : World) (hhi : hi < 1000000) (hM : Hid (M = 1000000)) (m1 : 999999 < M) (m2 : M < 1000001) (hlo : lo < 18446744073709551616) :
    Calls Tryd.prog 80 #[.agg #[.int .u64 (hi : Int), .int .u64 (lo : Int)], .int .u64 M, .bool below] w fun e w' => e = .returned (.tuple #[.int .i64 (cutN (dq hi lo) below), .bool (cutB (dq hi lo))]) ∧ Below w.heap.size w w' :=
  cutWide_gen hi lo M (dq hi lo) below w (Lib.hid (fun W => wideOver_any hi lo M W hhi hM m1 m2 hlo)) (dq_nonneg hi lo)
end Go.Proofs.YtchagbhcekehmaaDoor.kit
