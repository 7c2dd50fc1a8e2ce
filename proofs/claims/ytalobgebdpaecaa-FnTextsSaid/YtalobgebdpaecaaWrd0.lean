/-
  Plain facts on the words of a text, of no program: the parts between blanks that are not empty, told from the left and by runs. Conditions: each theorem names its own.
-/
import Derived.Test.YtalobgebdpaecaaParts0
namespace Go.Proofs.Ytalobgebdpaecaa.kit
set_option linter.unusedVariables false

def glue (a : List UInt8) : List (List UInt8) → List (List UInt8)
  | [] => [a]
  | h :: t => (a ++ h) :: t
def pr (p : UInt8 → Bool) : List UInt8 → List (List UInt8)
  | [] => [[]]
  | c :: r => if p c then [] :: pr p r else glue [c] (pr p r)
theorem glue_nil {x : List (List UInt8)} (h : x ≠ []) : glue [] x = x := by
  cases x with
  | nil => exact absurd rfl h
  | cons a t => rfl
theorem pr_ne (p : UInt8 → Bool) (l : List UInt8) : pr p l ≠ [] := by
  cases l with
  | nil => simp [pr]
  | cons c r =>
    rw [pr]; split
    · simp
    · cases pr p r <;> simp [glue]
theorem glue_glue (a b : List UInt8) (x : List (List UInt8)) : glue a (glue b x) = glue (a ++ b) x := by
  cases x <;> simp [glue]
theorem cs_pr_step (p : UInt8 → Bool) (l : List UInt8) (k : Nat) (h : k < l.length) :
    (cs p l (k + 1)).1 ++ glue ((l.take (k + 1)).drop (cs p l (k + 1)).2) (pr p (l.drop (k + 1))) = (cs p l k).1 ++ glue ((l.take k).drop (cs p l k).2) (pr p (l.drop k)) := by
  have hg : l.getD k 0 = l[k] := by rw [List.getD_eq_getElem?_getD, List.getElem?_eq_getElem h]; rfl
  have hbd := cs_bd p l k
  rw [List.drop_eq_getElem_cons h, pr]
  cases hp : p l[k]
  · have h2 : p (l.getD k 0) = false := by rw [hg]; exact hp
    rw [cs_no h2, if_neg (by simp), glue_glue, List.take_succ_eq_append_getElem h, List.drop_append_of_le_length (by simp; omega)]
  · have h2 : p (l.getD k 0) = true := by rw [hg]; exact hp
    rw [cs_yes h2, if_pos rfl]
    simp only
    have e : (l.take (k + 1)).drop (k + 1) = [] := List.drop_eq_nil_of_le (by simp; omega)
    rw [e, glue_nil (pr_ne _ _)]
    simp [glue]
theorem parts_eq_pr (p : UInt8 → Bool) (l : List UInt8) : parts p l = pr p l := by
  have key : ∀ k, k ≤ l.length → (cs p l k).1 ++ glue ((l.take k).drop (cs p l k).2) (pr p (l.drop k)) = pr p l := by
    intro k
    induction k with
    | zero => intro _; simp [cs, glue_nil (pr_ne p l)]
    | succ k ih => intro hk; rw [cs_pr_step p l k (by omega)]; exact ih (by omega)
  have := key l.length (Nat.le_refl _)
  rw [List.drop_length, List.take_length] at this
  rw [← this, parts]
  simp [pr, glue]
def blankB (c : UInt8) : Bool := c.toNat == 32 || c.toNat == 9
/-- The parts that are not empty. -/
def keepNe (xs : List (List UInt8)) : List (List UInt8) := xs.filter fun x => !x.isEmpty
def wordsOf (l : List UInt8) : List (List UInt8) := keepNe (pr blankB l)
theorem keepNe_snoc_yes (pre : List (List UInt8)) {x : List UInt8} (h : x.isEmpty = false) : keepNe (pre ++ [x]) = keepNe pre ++ [x] := by simp [keepNe, h]
theorem keepNe_snoc_no (pre : List (List UInt8)) {x : List UInt8} (h : x.isEmpty = true) : keepNe (pre ++ [x]) = keepNe pre := by simp [keepNe, h]
theorem keepNe_len (xs : List (List UInt8)) : (keepNe xs).length ≤ xs.length := List.length_filter_le _ _
theorem wordsOf_len (l : List UInt8) : (wordsOf l).length ≤ l.length + 1 := by
  have := keepNe_len (pr blankB l)
  have := parts_len blankB l
  rw [parts_eq_pr] at this
  unfold wordsOf; omega
theorem wordsOf_nil : wordsOf [] = [] := rfl
theorem wordsOf_blank {c : UInt8} {r : List UInt8} (h : blankB c = true) : wordsOf (c :: r) = wordsOf r := by simp [wordsOf, pr, h, keepNe]
theorem pr_run (p : UInt8 → Bool) (a rest : List UInt8) (h : ∀ c ∈ a, p c = false) : pr p (a ++ rest) = glue a (pr p rest) := by
  induction a with
  | nil => simp [glue_nil (pr_ne p rest)]
  | cons c a ih =>
    rw [List.cons_append, pr, if_neg (by simp [h c (by simp)]), ih (fun x hx => h x (by simp [hx])), glue_glue]; rfl
/-- A run of bytes that are no blanks, up to a blank or the end, is a word. -/
theorem wordsOf_run (a rest : List UInt8) (ha : a ≠ []) (h : ∀ c ∈ a, blankB c = false) (hr : rest = [] ∨ ∃ b r, rest = b :: r ∧ blankB b = true) : wordsOf (a ++ rest) = a :: wordsOf rest := by
  have he : a.isEmpty = false := by cases a with | nil => exact absurd rfl ha | cons _ _ => rfl
  rw [wordsOf, pr_run _ _ _ h]
  rcases hr with rfl | ⟨b, r, rfl, hb⟩
  · simp [pr, glue, keepNe, he, wordsOf]
  · simp [pr, glue, keepNe, he, wordsOf, hb]
end Go.Proofs.Ytalobgebdpaecaa.kit
