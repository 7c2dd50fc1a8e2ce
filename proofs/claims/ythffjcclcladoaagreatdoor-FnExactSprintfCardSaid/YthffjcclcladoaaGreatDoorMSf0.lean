/-
  What a form's places tell of values, and what a form tells of a list: plain facts, of no program. Conditions: each theorem names its own.
-/
import Derived.Test.YthffjcclcladoaaGreatDoorMVl0
import Derived.Test.YthffjcclcladoaaGreatDoorMFl0
import Derived.Test.YthffjcclcladoaaGreatDoorMFp1
import Derived.Test.YthffjcclcladoaaGreatDoorMBs0
import Derived.Test.YthffjcclcladoaaGreatDoorMFx0
import Derived.Test.YthffjcclcladoaaGreatDoorMNo0
import Derived.Test.YthffjcclcladoaaGreatDoorMSo0
namespace Go.Proofs.YthffjcclcladoaaGreatDoor.kit
set_option linter.unusedVariables false

/-- The byte that a value tells. -/
def chL (v : VD) : List UInt8 := if v.k == 2 then [UInt8.ofNat (v.n.tdiv 1000000 % 256).toNat] else (soB v.k v.s v.n).data.toList.take 1
/-- A value as a place tells it, without what fills. -/
def bodyL (kind : UInt8) (prec : Int) (v : VD) : List UInt8 :=
  if kind = 100 ∨ kind = 105 then Lib.itoa ((nmB v.k v.s v.n).tdiv 1000000)
  else if kind = 120 then bsT ((nmB v.k v.s v.n).tdiv 1000000) 16
  else if kind = 111 then bsT ((nmB v.k v.s v.n).tdiv 1000000) 8
  else if kind = 99 then chL v
  else if kind = 102 then (fxA (nmB v.k v.s v.n) (if prec < 0 then 6 else prec)).data.toList
  else if prec < 0 then (soB v.k v.s v.n).data.toList else (soB v.k v.s v.n).data.toList.take prec.toNat
def toldL (p : Plc) (v : VD) : List UInt8 := fillL (bodyL p.kind p.prec v) p.width p.left (p.nought && !(p.kind == 115 || p.kind == 99))
def nextV (vs : List VD) : VD := vs.headD ⟨0, ⟨#[]⟩, 0⟩
/-- What a form tells of a list, or none. -/
def spF (l : List UInt8) (vs : List VD) : Option (List UInt8) :=
  match l with
  | [] => some []
  | c :: l =>
    if c ≠ 37 then (spF l vs).map (c :: ·)
    else if l.head? = some 37 then (spF l.tail vs).map (37 :: ·)
    else match h : rdP l with
      | none => none
      | some (p, r) => (spF r vs.tail).map (toldL p (nextV vs) ++ ·)
termination_by l.length
decreasing_by
  all_goals first | (simp; done) | (have := rdP_len h; simp; omega) | (simp; omega)
theorem spF_nil (vs : List VD) : spF [] vs = some [] := by rw [spF]
theorem spF_skip {c : UInt8} (l : List UInt8) (vs : List VD) (h : c ≠ 37) : spF (c :: l) vs = (spF l vs).map (c :: ·) := by rw [spF, if_pos h]
theorem spF_both (l : List UInt8) (vs : List VD) : spF (37 :: 37 :: l) vs = (spF l vs).map (37 :: ·) := by rw [spF, if_neg (by simp), if_pos (by simp)]; rfl
theorem spF_none {l : List UInt8} (vs : List VD) (h0 : l.head? ≠ some 37) (h : rdP l = none) : spF (37 :: l) vs = none := by
  rw [spF, if_neg (by simp), if_neg h0]; split
  · rfl
  · rename_i e; rw [h] at e; cases e
theorem spF_some {l r : List UInt8} {p : Plc} (vs : List VD) (h0 : l.head? ≠ some 37) (h : rdP l = some (p, r)) : spF (37 :: l) vs = (spF r vs.tail).map (toldL p (nextV vs) ++ ·) := by
  rw [spF, if_neg (by simp), if_neg h0]; split
  · rename_i e; rw [h] at e; cases e
  · rename_i e; rw [h] at e; cases e; rfl
theorem spF_app : ∀ (a l : List UInt8) (vs : List VD), (37 : UInt8) ∉ a → spF (a ++ l) vs = (spF l vs).map (a ++ ·)
  | [], l, vs, _ => by simp
  | c :: a, l, vs, h => by
    have hc : c ≠ 37 := fun e => h (by simp [e])
    rw [List.cons_append, spF_skip _ _ hc, spF_app a l vs (fun e => h (by simp [e]))]
    cases spF l vs <;> simp
/-- What Sprintf answers. -/
def spA (l : List UInt8) (vs : List VD) : List UInt8 × Bool :=
  match spF l vs with
  | none => ([], false)
  | some o => if o.length ≤ 4000 then (o, true) else ([], false)
/-- What is left to be told behind what was told. -/
def spB (out : List UInt8) (l : List UInt8) (vs : List VD) : List UInt8 × Bool :=
  match spF l vs with
  | none => ([], false)
  | some o => if (out ++ o).length ≤ 4000 then (out ++ o, true) else ([], false)
theorem spB_start (l : List UInt8) (vs : List VD) : spA l vs = spB [] l vs := by
  unfold spA spB; cases spF l vs <;> simp
theorem spB_end (out : List UInt8) (vs : List VD) : spB out [] vs = if out.length ≤ 4000 then (out, true) else ([], false) := by
  unfold spB; rw [spF_nil]; simp
theorem spB_map {out a l l' : List UInt8} {vs vs' : List VD} (h : spF l vs = (spF l' vs').map (a ++ ·)) : spB out l vs = spB (out ++ a) l' vs' := by
  unfold spB; rw [h]; cases spF l' vs' <;> simp
theorem spB_skip {c : UInt8} (out l : List UInt8) (vs : List VD) (h : c ≠ 37) : spB out (c :: l) vs = spB (out ++ [c]) l vs := spB_map (by rw [spF_skip _ _ h]; rfl)
theorem spB_both (out l : List UInt8) (vs : List VD) : spB out (37 :: 37 :: l) vs = spB (out ++ [37]) l vs := spB_map (by rw [spF_both]; rfl)
theorem spB_app (out a l : List UInt8) (vs : List VD) (h : (37 : UInt8) ∉ a) : spB out (a ++ l) vs = spB (out ++ a) l vs := spB_map (spF_app a l vs h)
theorem spB_some {out l r : List UInt8} {p : Plc} (vs : List VD) (h0 : l.head? ≠ some 37) (h : rdP l = some (p, r)) : spB out (37 :: l) vs = spB (out ++ toldL p (nextV vs)) r vs.tail := spB_map (spF_some vs h0 h)
theorem spB_none {out l : List UInt8} (vs : List VD) (h0 : l.head? ≠ some 37) (h : rdP l = none) : spB out (37 :: l) vs = ([], false) := by
  unfold spB; rw [spF_none vs h0 h]
theorem spB_long (out l : List UInt8) (vs : List VD) (h : 4000 < out.length) : spB out l vs = ([], false) := by
  unfold spB; cases spF l vs with
  | none => rfl
  | some o => simp only; rw [if_neg (by rw [List.length_append]; omega)]
theorem fillL_le (s : List UInt8) (w : Int) (l n : Bool) : (fillL s w l n).length ≤ s.length + 99 := by
  unfold fillL
  by_cases h : w ≤ 99 ∧ (s.length : Int) < w
  · rw [if_pos h]
    have hn : w.toNat - s.length ≤ 99 := by omega
    generalize w.toNat - s.length = m at *
    cases l
    · cases n
      · simp only [Bool.false_eq_true, if_false, List.length_append, List.length_replicate]; omega
      · simp only [Bool.false_eq_true, if_false, if_true]
        split
        · rename_i hh
          have hp : 1 ≤ s.length := by cases s with
            | nil => simp at hh
            | cons x s => simp
          simp only [List.length_cons, List.length_append, List.length_replicate, List.length_tail]; omega
        · simp only [List.length_append, List.length_replicate]; omega
    · simp only [if_true, List.length_append, List.length_replicate]; omega
  · rw [if_neg h]; exact Nat.le_add_right _ _
end Go.Proofs.YthffjcclcladoaaGreatDoor.kit
