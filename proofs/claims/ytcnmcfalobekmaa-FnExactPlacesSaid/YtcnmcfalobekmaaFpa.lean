/-
  How a form's place is read, in three steps: plain facts, beside a place's five cells. Conditions: each theorem names its own.
-/
import Derived.Test.YtcnmcfalobekmaaFp1
namespace Go.Proofs.Ytcnmcfalobekmaa.kit
open Go.ChangeShapes Go.WideShapes Go.ChangeAt Go.RowKit
set_option linter.unusedVariables false

theorem pl5_zero (w : World) (t : TypeId) (a b : Bool) (n p kd : Int) : Pl5 (w.alloc (.cells #[.bool a, .bool b, .int .i64 n, .int .i64 p, .int .u8 kd] t)) w.heap.size a b n p kd := by
  have e : ∀ j, (w.alloc (.cells #[.bool a, .bool b, .int .i64 n, .int .i64 p, .int .u8 kd] t)).cell? ⟨w.heap.size, j, none⟩ = (#[Value.bool a, .bool b, .int .i64 n, .int .i64 p, .int .u8 kd] : Array Value)[j]? := fun j => World.cell?_alloc_at _ _ _ _ rfl
  have f : ∀ j, (w.alloc (.cells #[.bool a, .bool b, .int .i64 n, .int .i64 p, .int .u8 kd] t)).frozen? ⟨w.heap.size, j, none⟩ = false := fun j => World.frozen?_alloc_at _ _ _ _ rfl
  exact ⟨by simp, e 0, e 1, e 2, e 3, e 4, f 0, f 1, f 2, f 3, f 4⟩
theorem isFl_45 (c : UInt8) (h : c = 45) : isFl c = true := by rw [h]; rfl
theorem isFl_48 (c : UInt8) (h : c = 48) : isFl c = true := by rw [h]; rfl
theorem isFl_no (c : UInt8) (h : c ≠ 45) (h2 : c ≠ 48) : isFl c = false := by simp [isFl, h, h2]
theorem eq_int (c : UInt8) (n : Nat) (hn : n < 256) (h : c = UInt8.ofNat n) : ((c.toNat : Int) == (n : Int)) = true := by rw [u8_int c n hn, h]; simp
theorem ne_int (c : UInt8) (n : Nat) (hn : n < 256) (h : c ≠ UInt8.ofNat n) : ((c.toNat : Int) == (n : Int)) = false := by rw [u8_int c n hn]; simpa using h
theorem rdF_step {c : UInt8} {l : List UInt8} {a b : Bool} (h : isFl c = true) : rdF (c :: l) a b = rdF l (a || c == 45) (b || c == 48) := by rw [rdF, if_pos h]
theorem rdF_stop {c : UInt8} {l : List UInt8} {a b : Bool} (h : isFl c = false) : rdF (c :: l) a b = (c :: l, a, b) := by rw [rdF, if_neg (by simp [h])]
theorem rdP_flags {l l1 : List UInt8} {a b : Bool} (h : rdF l false false = (l1, a, b)) : rdP l = rdP1 l1 a b := by
  unfold rdP rdP1; rw [h]; rfl
def rdP2 (l2 : List UInt8) (n : Nat) (a b : Bool) : Option (Plc × List UInt8) :=
  match (rdQ l2).1 with
  | [] => none
  | c :: r => if n ≤ 99 ∧ kindB c = true then some (⟨a, b, n, (rdQ l2).2, c⟩, r) else none
theorem rdP1_eq {l l2 : List UInt8} {n : Nat} {a b : Bool} (h : rdD 3 l 0 = (l2, n)) : rdP1 l a b = rdP2 l2 n a b := by
  unfold rdP1 rdP2; rw [h]; rfl
theorem rdD_nil (k n : Nat) : rdD k [] n = ([], n) := by cases k <;> rfl
theorem fin_cells {W : World} {B : Nat} {a b a' b' : Bool} {n p kd n' p' kd' : Int} (h : Pl5 W B a b n p kd) : Pl5 (((((W.setCell ⟨B, 0, none⟩ (.bool a')).setCell ⟨B, 1, none⟩ (.bool b')).setCell ⟨B, 2, none⟩ (.int .i64 n')).setCell ⟨B, 3, none⟩ (.int .i64 p')).setCell ⟨B, 4, none⟩ (.int .u8 kd')) B a' b' n' p' kd' :=
  ((((h.set0 a').set1 b').set2 n').set3 p').set4 kd'
theorem fin_below {W w : World} {B : Nat} {a' b' : Bool} {n' p' kd' : Int} (h : Below B w W) : Below B w (((((W.setCell ⟨B, 0, none⟩ (.bool a')).setCell ⟨B, 1, none⟩ (.bool b')).setCell ⟨B, 2, none⟩ (.int .i64 n')).setCell ⟨B, 3, none⟩ (.int .i64 p')).setCell ⟨B, 4, none⟩ (.int .u8 kd')) :=
  ((((h.setCell (p := ⟨B, 0, none⟩) (Nat.le_refl _) _).setCell (p := ⟨B, 1, none⟩) (Nat.le_refl _) _).setCell (p := ⟨B, 2, none⟩) (Nat.le_refl _) _).setCell (p := ⟨B, 3, none⟩) (Nat.le_refl _) _).setCell (p := ⟨B, 4, none⟩) (Nat.le_refl _) _
def rdP3 (l : List UInt8) (n : Nat) (a b : Bool) (pv : Int) : Option (Plc × List UInt8) :=
  match l with
  | [] => none
  | c :: r => if n ≤ 99 ∧ kindB c = true then some (⟨a, b, n, pv, c⟩, r) else none
theorem rdP2_dot {d : UInt8} {r : List UInt8} {n : Nat} {a b : Bool} (h : 48 ≤ d.toNat ∧ d.toNat ≤ 54) : rdP2 (46 :: d :: r) n a b = rdP3 r n a b ((d.toNat : Int) - 48) := by
  have e : rdQ (46 :: d :: r) = (r, (d.toNat : Int) - 48) := by rw [rdQ, if_pos h]
  unfold rdP2 rdP3; rw [e]
theorem rdP2_other {l : List UInt8} {n : Nat} {a b : Bool} (h : rdQ l = (l, -1)) : rdP2 l n a b = rdP3 l n a b (-1) := by
  unfold rdP2 rdP3; rw [h]
theorem rdQ_one (c : UInt8) : rdQ [c] = ([c], -1) := by
  unfold rdQ; split
  · rename_i h; simp at h
  · rfl
theorem rdQ_no {c : UInt8} {r : List UInt8} (h : c ≠ 46) : rdQ (c :: r) = (c :: r, -1) := by
  unfold rdQ; split
  · rename_i e; simp at e; exact absurd e.1 h
  · rfl
theorem rdQ_bad {d : UInt8} {r : List UInt8} (h : ¬ (48 ≤ d.toNat ∧ d.toNat ≤ 54)) : rdQ (46 :: d :: r) = (46 :: d :: r, -1) := by
  rw [rdQ, if_neg h]
theorem rdP3_far {l : List UInt8} {n : Nat} {a b : Bool} {pv : Int} (h : 99 < n) : rdP3 l n a b pv = none := by
  unfold rdP3; split
  · rfl
  · rw [if_neg (by omega)]
theorem rdP3_kind {c : UInt8} {r : List UInt8} {n : Nat} {a b : Bool} {pv : Int} (h : n ≤ 99) (hk : kindB c = true) : rdP3 (c :: r) n a b pv = some (⟨a, b, n, pv, c⟩, r) := by
  rw [rdP3, if_pos ⟨h, hk⟩]
theorem rdP3_not {c : UInt8} {r : List UInt8} {n : Nat} {a b : Bool} {pv : Int} (hk : kindB c = false) : rdP3 (c :: r) n a b pv = none := by
  rw [rdP3, if_neg (by simp [hk])]
theorem rdD_stop {c : UInt8} {l : List UInt8} {n : Nat} (j : Nat) (h : isDg c = false) : rdD j (c :: l) n = (c :: l, n) := by
  cases j with
  | zero => rfl
  | succ j => rw [rdD, if_neg (by simp [h])]
theorem digB_not {c : UInt8} (h : isDg c = false) : digB c.toNat = false := by
  cases e : digB c.toNat with
  | false => rfl
  | true =>
    simp [digB, inB] at e
    have : isDg c = true := by simp [isDg]; omega
    rw [h] at this; cases this
theorem digB_of {c : UInt8} (h : isDg c = true) : digB c.toNat = true := by
  simp only [isDg, Bool.and_eq_true, decide_eq_true_eq] at h
  simp [digB, inB]; omega
theorem isDg_bd {c : UInt8} (h : isDg c = true) : 48 ≤ c.toNat ∧ c.toNat ≤ 57 := by
  simpa only [isDg, Bool.and_eq_true, decide_eq_true_eq] using h
end Go.Proofs.Ytcnmcfalobekmaa.kit
