/-
  The five cells of a form's place, and contract of spec.l08Read over this seat's translation. Conditions: a text of at most 1048576 bytes.
-/
import Derived.Test.YthffjcclcladoaaGreatDoorMRd
import Derived.Test.YthffjcclcladoaaGreatDoorMRn0
import Derived.Test.YthffjcclcladoaaGreatDoorMIdx
namespace Go.Proofs.YthffjcclcladoaaGreatDoor.kit
open Go.ChangeShapes Go.WideShapes Go.ChangeAt Go.RowKit
set_option linter.unusedVariables false

theorem cset_same (w : World) (g j : Nat) (v u : Value) (h : w.cell? ⟨g, j, none⟩ = some u) : (w.setCell ⟨g, j, none⟩ v).cell? ⟨g, j, none⟩ = some v :=
  World.cell?_setCell_same w _ _ h
theorem cset_off (w : World) (g j g' j' : Nat) (v : Value) (h : g ≠ g' ∨ j ≠ j') : (w.setCell ⟨g, j, none⟩ v).cell? ⟨g', j', none⟩ = w.cell? ⟨g', j', none⟩ :=
  World.cell?_setCell_other w _ _ _ (by intro x; injection x; omega)
/-- Five cells that hold a place, and may be written. -/
structure Pl5 (w : World) (g : Nat) (a b : Bool) (n p kd : Int) : Prop where
  lt : g < w.heap.size
  c0 : w.cell? ⟨g, 0, none⟩ = some (.bool a)
  c1 : w.cell? ⟨g, 1, none⟩ = some (.bool b)
  c2 : w.cell? ⟨g, 2, none⟩ = some (.int .i64 n)
  c3 : w.cell? ⟨g, 3, none⟩ = some (.int .i64 p)
  c4 : w.cell? ⟨g, 4, none⟩ = some (.int .u8 kd)
  f0 : w.frozen? ⟨g, 0, none⟩ = false
  f1 : w.frozen? ⟨g, 1, none⟩ = false
  f2 : w.frozen? ⟨g, 2, none⟩ = false
  f3 : w.frozen? ⟨g, 3, none⟩ = false
  f4 : w.frozen? ⟨g, 4, none⟩ = false
theorem Pl5.drew {w : World} {g : Nat} {a b : Bool} {n p kd : Int} (h : Pl5 w g a b n p kd) : Pl5 w.drew g a b n p kd :=
  ⟨h.lt, h.c0, h.c1, h.c2, h.c3, h.c4, h.f0, h.f1, h.f2, h.f3, h.f4⟩
theorem Pl5.kept {w w' : World} {g : Nat} {a b : Bool} {n p kd : Int} (h : Pl5 w g a b n p kd) (hb : Below w.heap.size w w') : Pl5 w' g a b n p kd := by
  have e : ∀ j, w'.cell? ⟨g, j, none⟩ = w.cell? ⟨g, j, none⟩ := fun j => hb.cell (p := ⟨g, j, none⟩) h.lt
  have f : ∀ j, w'.frozen? ⟨g, j, none⟩ = w.frozen? ⟨g, j, none⟩ := fun j => hb.frozen (p := ⟨g, j, none⟩) h.lt
  exact ⟨Nat.lt_of_lt_of_le h.lt hb.size, (e 0).trans h.c0, (e 1).trans h.c1, (e 2).trans h.c2, (e 3).trans h.c3, (e 4).trans h.c4, (f 0).trans h.f0, (f 1).trans h.f1, (f 2).trans h.f2, (f 3).trans h.f3, (f 4).trans h.f4⟩
theorem Pl5.off {w : World} {g : Nat} {a b : Bool} {n p kd : Int} (h : Pl5 w g a b n p kd) {g' j : Nat} (hg : g' ≠ g) (v : Value) : Pl5 (w.setCell ⟨g', j, none⟩ v) g a b n p kd := by
  have e : ∀ i, (w.setCell ⟨g', j, none⟩ v).cell? ⟨g, i, none⟩ = w.cell? ⟨g, i, none⟩ := fun i => cset_off _ _ _ _ _ _ (.inl hg)
  have f : ∀ i, (w.setCell ⟨g', j, none⟩ v).frozen? ⟨g, i, none⟩ = w.frozen? ⟨g, i, none⟩ := fun i => World.frozen?_setCell _ _ _ _
  exact ⟨by simpa using h.lt, (e 0).trans h.c0, (e 1).trans h.c1, (e 2).trans h.c2, (e 3).trans h.c3, (e 4).trans h.c4, (f 0).trans h.f0, (f 1).trans h.f1, (f 2).trans h.f2, (f 3).trans h.f3, (f 4).trans h.f4⟩
theorem Pl5.at_ {w : World} {g : Nat} {a b a' b' : Bool} {n p kd n' p' kd' : Int} (h : Pl5 w g a b n p kd) {j : Nat} (v : Value) (hj : j < 5)
    (hv : v = (match j with | 0 => .bool a' | 1 => .bool b' | 2 => .int .i64 n' | 3 => .int .i64 p' | _ => .int .u8 kd'))
    (e0 : j ≠ 0 → a' = a) (e1 : j ≠ 1 → b' = b) (e2 : j ≠ 2 → n' = n) (e3 : j ≠ 3 → p' = p) (e4 : j ≠ 4 → kd' = kd) : Pl5 (w.setCell ⟨g, j, none⟩ v) g a' b' n' p' kd' := by
  have e : ∀ i, j ≠ i → (w.setCell ⟨g, j, none⟩ v).cell? ⟨g, i, none⟩ = w.cell? ⟨g, i, none⟩ := fun i hi => cset_off _ _ _ _ _ _ (.inr hi)
  have f : ∀ i, (w.setCell ⟨g, j, none⟩ v).frozen? ⟨g, i, none⟩ = w.frozen? ⟨g, i, none⟩ := fun i => World.frozen?_setCell _ _ _ _
  subst hv
  refine ⟨by simpa using h.lt, ?_, ?_, ?_, ?_, ?_, (f 0).trans h.f0, (f 1).trans h.f1, (f 2).trans h.f2, (f 3).trans h.f3, (f 4).trans h.f4⟩
  · by_cases c : j = 0
    · subst c; exact cset_same _ _ _ _ _ h.c0
    · rw [e 0 c, e0 c]; exact h.c0
  · by_cases c : j = 1
    · subst c; exact cset_same _ _ _ _ _ h.c1
    · rw [e 1 c, e1 c]; exact h.c1
  · by_cases c : j = 2
    · subst c; exact cset_same _ _ _ _ _ h.c2
    · rw [e 2 c, e2 c]; exact h.c2
  · by_cases c : j = 3
    · subst c; exact cset_same _ _ _ _ _ h.c3
    · rw [e 3 c, e3 c]; exact h.c3
  · by_cases c : j = 4
    · subst c; exact cset_same _ _ _ _ _ h.c4
    · rw [e 4 c, e4 c]; exact h.c4
theorem Pl5.set0 {w : World} {g : Nat} {a b : Bool} {n p kd : Int} (h : Pl5 w g a b n p kd) (x : Bool) : Pl5 (w.setCell ⟨g, 0, none⟩ (.bool x)) g x b n p kd := h.at_ _ (by omega) rfl (by simp) (by simp) (by simp) (by simp) (by simp)
theorem Pl5.set1 {w : World} {g : Nat} {a b : Bool} {n p kd : Int} (h : Pl5 w g a b n p kd) (x : Bool) : Pl5 (w.setCell ⟨g, 1, none⟩ (.bool x)) g a x n p kd := h.at_ _ (by omega) rfl (by simp) (by simp) (by simp) (by simp) (by simp)
theorem Pl5.set2 {w : World} {g : Nat} {a b : Bool} {n p kd : Int} (h : Pl5 w g a b n p kd) (x : Int) : Pl5 (w.setCell ⟨g, 2, none⟩ (.int .i64 x)) g a b x p kd := h.at_ _ (by omega) rfl (by simp) (by simp) (by simp) (by simp) (by simp)
theorem Pl5.set3 {w : World} {g : Nat} {a b : Bool} {n p kd : Int} (h : Pl5 w g a b n p kd) (x : Int) : Pl5 (w.setCell ⟨g, 3, none⟩ (.int .i64 x)) g a b n x kd := h.at_ _ (by omega) rfl (by simp) (by simp) (by simp) (by simp) (by simp)
theorem Pl5.set4 {w : World} {g : Nat} {a b : Bool} {n p kd : Int} (h : Pl5 w g a b n p kd) (x : Int) : Pl5 (w.setCell ⟨g, 4, none⟩ (.int .u8 x)) g a b n p x := h.at_ _ (by omega) rfl (by simp) (by simp) (by simp) (by simp) (by simp)
theorem drop_atL (s : ByteArray) (k : Nat) (h : k < s.size) : s.data.toList.drop k = s[k] :: s.data.toList.drop (k + 1) := by
  rw [List.drop_eq_getElem_cons (by simpa using h)]; rfl
theorem drop_endL (s : ByteArray) (k : Nat) (h : s.size ≤ k) : s.data.toList.drop k = [] := List.drop_eq_nil_of_le (by simpa using h)
theorem u8_int (c : UInt8) (n : Nat) (h : n < 256) : ((c.toNat : Int) == (n : Int)) = (c == UInt8.ofNat n) := by
  rw [Bool.eq_iff_iff]; simp only [beq_iff_eq]
  have e : (UInt8.ofNat n).toNat = n := by rw [UInt8.toNat_ofNat']; omega
  constructor
  · intro h; apply UInt8.toNat_inj.1; rw [e]; omega
  · intro h; rw [h, e]
theorem kind_idx : ∀ n : Fin 256, (idxOf ⟨#[100, 105, 115, 102, 99, 120, 111]⟩ ⟨#[UInt8.ofNat n.val]⟩ == 0) = !kindB (UInt8.ofNat n.val) := by decide +kernel
theorem kind_idx8 (c : UInt8) : (idxOf ⟨#[100, 105, 115, 102, 99, 120, 111]⟩ ⟨#[c]⟩ == 0) = !kindB c := by
  have := kind_idx ⟨c.toNat, c.toNat_lt⟩
  simpa using this
theorem one_at (s : ByteArray) (k : Nat) (h : k < s.size) : s.extract k (k + 1) = ⟨#[s[k]]⟩ := by
  apply ByteArray.ext
  rw [ByteArray.data_extract]
  apply Array.ext'
  have e : k < s.data.toList.length := by simpa using h
  rw [Array.toList_extract, List.extract_eq_take_drop, show k + 1 - k = 1 by omega, List.drop_eq_getElem_cons e]; rfl
/-- What stands behind the flags. -/
def rdP1 (l : List UInt8) (a b : Bool) : Option (Plc × List UInt8) :=
  match (rdQ (rdD 3 l 0).1).1 with
  | [] => none
  | c :: r => if (rdD 3 l 0).2 ≤ 99 ∧ kindB c = true then some (⟨a, b, (rdD 3 l 0).2, (rdQ (rdD 3 l 0).1).2, c⟩, r) else none
/-- A place as spec tells it. -/
def Plc.v (p : Plc) : Value := .agg #[.bool p.left, .bool p.nought, .int .i64 (p.width : Int), .int .i64 p.prec, .int .u8 (p.kind.toNat : Int)]
def RdPost (w : World) (N : Nat) (l : List UInt8) (e : Ending) (w' : World) : Prop :=
  Below w.heap.size w w' ∧ ((rdP l = none ∧ ∃ (a b : Bool) (n p k : Int), e = .returned (.tuple #[.agg #[.bool a, .bool b, .int .i64 n, .int .i64 p, .int .u8 k], .int .i64 (-1)])) ∨ ∃ p r, rdP l = some (p, r) ∧ e = .returned (.tuple #[p.v, .int .i64 ((N - r.length : Nat) : Int)]))
end Go.Proofs.YthffjcclcladoaaGreatDoor.kit
/-
  How a form's place is read, in three steps: plain facts, beside a place's five cells. Conditions: each theorem names its own.
-/
namespace Go.Proofs.YthffjcclcladoaaGreatDoor.kit
open Go.ChangeShapes Go.WideShapes Go.ChangeAt Go.RowKit
set_option linter.unusedVariables false

theorem pl5_zero (w : World) (t : TypeId) (a b : Bool) (n p kd : Int) : Pl5 (w.alloc (.cells #[.bool a, .bool b, .int .i64 n, .int .i64 p, .int .u8 kd] t)) w.heap.size a b n p kd := by
  have e : ∀ j, (w.alloc (.cells #[.bool a, .bool b, .int .i64 n, .int .i64 p, .int .u8 kd] t)).cell? ⟨w.heap.size, j, none⟩ = (#[Value.bool a, .bool b, .int .i64 n, .int .i64 p, .int .u8 kd] : Array Value)[j]? := fun j => World.cell?_alloc_at _ _ _ _ rfl
  have f : ∀ j, (w.alloc (.cells #[.bool a, .bool b, .int .i64 n, .int .i64 p, .int .u8 kd] t)).frozen? ⟨w.heap.size, j, none⟩ = false := fun j => World.frozen?_alloc_at _ _ _ _ rfl
  exact ⟨by simp, e 0, e 1, e 2, e 3, e 4, f 0, f 1, f 2, f 3, f 4⟩
theorem isFl_45 (c : UInt8) (h : c = 45) : isFl c = true := by rw [h]; rfl
theorem isFl_48 (c : UInt8) (h : c = 48) : isFl c = true := by rw [h]; rfl
theorem isFl_no (c : UInt8) (h : c ≠ 45) (h2 : c ≠ 48) : isFl c = false := by simp [isFl, h, h2]
theorem eq_int (c : UInt8) (n : Nat) (hn : n < 256) (h : c = UInt8.ofNat n) : ((c.toNat : Int) == (n : Int)) = true := by rw [u8_int c n hn, h]; simp
theorem ne_int (c : UInt8) (n : Nat) (hn : n < 256) (h : c ≠ UInt8.ofNat n) : ((c.toNat : Int) == (n : Int)) = false := by rw [u8_int c n hn]; simpa using h
theorem rdF_step {c : UInt8} {l : List UInt8} {a b : Bool} (h : isFl c = true) : rdF (c :: l) a b = rdF l (a || c == 45) (b || c == 48) := by rw [rdF, if_pos h]
theorem rdF_stop {c : UInt8} {l : List UInt8} {a b : Bool} (h : isFl c = false) : rdF (c :: l) a b = (c :: l, a, b) := by rw [rdF, if_neg (by simp [h])]
theorem rdP_flags {l l1 : List UInt8} {a b : Bool} (h : rdF l false false = (l1, a, b)) : rdP l = rdP1 l1 a b := by
  unfold rdP rdP1; rw [h]; rfl
def rdP2 (l2 : List UInt8) (n : Nat) (a b : Bool) : Option (Plc × List UInt8) :=
  match (rdQ l2).1 with
  | [] => none
  | c :: r => if n ≤ 99 ∧ kindB c = true then some (⟨a, b, n, (rdQ l2).2, c⟩, r) else none
theorem rdP1_eq {l l2 : List UInt8} {n : Nat} {a b : Bool} (h : rdD 3 l 0 = (l2, n)) : rdP1 l a b = rdP2 l2 n a b := by
  unfold rdP1 rdP2; rw [h] <;> rfl
theorem rdD_nil (k n : Nat) : rdD k [] n = ([], n) := by cases k <;> rfl
theorem fin_cells {W : World} {B : Nat} {a b a' b' : Bool} {n p kd n' p' kd' : Int} (h : Pl5 W B a b n p kd) : Pl5 (((((W.setCell ⟨B, 0, none⟩ (.bool a')).setCell ⟨B, 1, none⟩ (.bool b')).setCell ⟨B, 2, none⟩ (.int .i64 n')).setCell ⟨B, 3, none⟩ (.int .i64 p')).setCell ⟨B, 4, none⟩ (.int .u8 kd')) B a' b' n' p' kd' :=
  ((((h.set0 a').set1 b').set2 n').set3 p').set4 kd'
theorem fin_below {W w : World} {B : Nat} {a' b' : Bool} {n' p' kd' : Int} (h : Below B w W) : Below B w (((((W.setCell ⟨B, 0, none⟩ (.bool a')).setCell ⟨B, 1, none⟩ (.bool b')).setCell ⟨B, 2, none⟩ (.int .i64 n')).setCell ⟨B, 3, none⟩ (.int .i64 p')).setCell ⟨B, 4, none⟩ (.int .u8 kd')) :=
  ((((h.setCell (p := ⟨B, 0, none⟩) (Nat.le_refl _) _).setCell (p := ⟨B, 1, none⟩) (Nat.le_refl _) _).setCell (p := ⟨B, 2, none⟩) (Nat.le_refl _) _).setCell (p := ⟨B, 3, none⟩) (Nat.le_refl _) _).setCell (p := ⟨B, 4, none⟩) (Nat.le_refl _) _
def rdP3 (l : List UInt8) (n : Nat) (a b : Bool) (pv : Int) : Option (Plc × List UInt8) :=
  match l with
  | [] => none
  | c :: r => if n ≤ 99 ∧ kindB c = true then some (⟨a, b, n, pv, c⟩, r) else none
theorem rdP2_dot {d : UInt8} {r : List UInt8} {n : Nat} {a b : Bool} (h : 48 ≤ d.toNat ∧ d.toNat ≤ 54) : rdP2 (46 :: d :: r) n a b = rdP3 r n a b ((d.toNat : Int) - 48) := by
  have e : rdQ (46 :: d :: r) = (r, (d.toNat : Int) - 48) := by rw [rdQ, if_pos h]
  unfold rdP2 rdP3; rw [e]
theorem rdP2_other {l : List UInt8} {n : Nat} {a b : Bool} (h : rdQ l = (l, -1)) : rdP2 l n a b = rdP3 l n a b (-1) := by
  unfold rdP2 rdP3; rw [h]
theorem rdQ_one (c : UInt8) : rdQ [c] = ([c], -1) := by
  unfold rdQ; split
  · rename_i h; simp at h
  · rfl
theorem rdQ_no {c : UInt8} {r : List UInt8} (h : c ≠ 46) : rdQ (c :: r) = (c :: r, -1) := by
  unfold rdQ; split
  · rename_i e; simp at e; exact absurd e.1 h
  · rfl
theorem rdQ_bad {d : UInt8} {r : List UInt8} (h : ¬ (48 ≤ d.toNat ∧ d.toNat ≤ 54)) : rdQ (46 :: d :: r) = (46 :: d :: r, -1) := by
  rw [rdQ, if_neg h]
theorem rdP3_far {l : List UInt8} {n : Nat} {a b : Bool} {pv : Int} (h : 99 < n) : rdP3 l n a b pv = none := by
  unfold rdP3; split
  · rfl
  · rw [if_neg (by omega)]
theorem rdP3_kind {c : UInt8} {r : List UInt8} {n : Nat} {a b : Bool} {pv : Int} (h : n ≤ 99) (hk : kindB c = true) : rdP3 (c :: r) n a b pv = some (⟨a, b, n, pv, c⟩, r) := by
  rw [rdP3, if_pos ⟨h, hk⟩]
theorem rdP3_not {c : UInt8} {r : List UInt8} {n : Nat} {a b : Bool} {pv : Int} (hk : kindB c = false) : rdP3 (c :: r) n a b pv = none := by
  rw [rdP3, if_neg (by simp [hk])]
theorem rdD_stop {c : UInt8} {l : List UInt8} {n : Nat} (j : Nat) (h : isDg c = false) : rdD j (c :: l) n = (c :: l, n) := by
  cases j with
  | zero => rfl
  | succ j => rw [rdD, if_neg (by simp [h])]
theorem digB_not {c : UInt8} (h : isDg c = false) : digB c.toNat = false := by
  cases e : digB c.toNat with
  | false => rfl
  | true =>
    simp [digB, inB] at e
    have : isDg c = true := by simp [isDg]; omega
    rw [h] at this; cases this
theorem digB_of {c : UInt8} (h : isDg c = true) : digB c.toNat = true := by
  simp only [isDg, Bool.and_eq_true, decide_eq_true_eq] at h
  simp [digB, inB]; omega
theorem isDg_bd {c : UInt8} (h : isDg c = true) : 48 ≤ c.toNat ∧ c.toNat ≤ 57 := by
  simpa only [isDg, Bool.and_eq_true, decide_eq_true_eq] using h
end Go.Proofs.YthffjcclcladoaaGreatDoor.kit
