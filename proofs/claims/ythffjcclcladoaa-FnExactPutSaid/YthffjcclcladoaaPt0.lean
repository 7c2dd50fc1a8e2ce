/-
  Plain facts on what is put in the place of what was found, and its pieces; of no program. Conditions: each theorem names its own.
-/
import Derived.Test.YthffjcclcladoaaEp0
namespace Go.Proofs.Ythffjcclcladoaa.kit
set_option linter.unusedVariables false

/-- A repl with what was found. -/
def putL (f : List UInt8) : List UInt8 → List UInt8
  | [] => []
  | [c] => if c = 38 then f else [c]
  | c :: d :: u => if c = 38 then f ++ putL f (d :: u) else if c = 92 ∧ rsB d = true then d :: putL f u else c :: putL f (d :: u)
theorem putL_amp (f t : List UInt8) : putL f (38 :: t) = f ++ putL f t := by
  cases t <;> simp [putL]
theorem putL_esc (f : List UInt8) (d : UInt8) (u : List UInt8) (h : rsB d = true) : putL f (92 :: d :: u) = d :: putL f u := by
  rw [putL, if_neg (by decide), if_pos ⟨rfl, h⟩]
theorem putL_one (f : List UInt8) (c : UInt8) (t : List UInt8) (h1 : c ≠ 38) (h2 : c = 92 → ∀ d u, t = d :: u → rsB d = false) : putL f (c :: t) = c :: putL f t := by
  cases t with
  | nil => simp [putL, h1]
  | cons d u =>
    rw [putL, if_neg h1]
    by_cases h : c = 92
    · rw [if_neg (by rw [h2 h d u rfl]; simp)]
    · rw [if_neg (by simp [h])]
/-- A text so many times. -/
def pqRep (n : Nat) (f : List UInt8) : List UInt8 := (List.replicate n f).flatten
theorem pqRep_zero (f : List UInt8) : pqRep 0 f = [] := rfl
theorem pqRep_succ (n : Nat) (f : List UInt8) : pqRep (n + 1) f = pqRep n f ++ f := by
  simp [pqRep, List.replicate_succ']
theorem pqRep_one (f : List UInt8) : pqRep 1 f = f := by simp [pqRep]
theorem pqRep_nil (n : Nat) : pqRep n [] = [] := by
  induction n with
  | zero => rfl
  | succ n ih => rw [pqRep_succ, ih]; rfl
theorem pqRep_len (n : Nat) (f : List UInt8) : (pqRep n f).length = n * f.length := by
  induction n with
  | zero => simp [pqRep]
  | succ n ih => rw [pqRep_succ, List.length_append, ih, Nat.succ_mul]
/-- A piece: a plain text, and how many times what was found is put behind it. -/
abbrev Pc := List UInt8 × Nat
def pqCat (f : List UInt8) (ps : List Pc) : List UInt8 := ps.flatMap fun p => p.1 ++ pqRep p.2 f
def pqSum : List Pc → Nat | [] => 0 | p :: ps => p.1.length + p.2 + pqSum ps
theorem pqCat_app (f : List UInt8) (ps qs : List Pc) : pqCat f (ps ++ qs) = pqCat f ps ++ pqCat f qs := by simp [pqCat]
theorem pqCat_one (f : List UInt8) (p : Pc) : pqCat f [p] = p.1 ++ pqRep p.2 f := by simp [pqCat]
theorem pqCat_cons (f : List UInt8) (p : Pc) (ps : List Pc) : pqCat f (p :: ps) = p.1 ++ pqRep p.2 f ++ pqCat f ps := by simp [pqCat]
theorem pqSum_app (ps qs : List Pc) : pqSum (ps ++ qs) = pqSum ps + pqSum qs := by
  induction ps with
  | nil => simp [pqSum]
  | cons p ps ih => simp only [List.cons_append, pqSum, ih]; omega
theorem pqCat_len (f : List UInt8) (ps : List Pc) : (pqCat f ps).length ≤ pqSum ps * (f.length + 1) := by
  induction ps with
  | nil => simp [pqCat, pqSum]
  | cons p ps ih =>
    rw [pqCat_cons]
    simp only [List.length_append, pqRep_len, pqSum]
    have h1 : p.2 * f.length ≤ p.2 * (f.length + 1) := Nat.mul_le_mul_left _ (Nat.le_succ _)
    have h2 : p.1.length ≤ p.1.length * (f.length + 1) := Nat.le_mul_of_pos_right _ (Nat.succ_pos _)
    rw [Nat.add_mul, Nat.add_mul]
    omega
theorem pqCat_bd (f : List UInt8) (ps : List Pc) (n : Nat) (h1 : pqSum ps ≤ n) (hn : n ≤ 1048576) (h2 : f.length ≤ 1048576) : (pqCat f ps).length ≤ 1099512676352 := by
  have h := pqCat_len f ps
  have h3 : pqSum ps * (f.length + 1) ≤ 1048576 * 1048577 := Nat.mul_le_mul (by omega) (by omega)
  omega
theorem pqSum_at (ps : List Pc) (k : Nat) (h : k < ps.length) : ps[k].1.length + ps[k].2 ≤ pqSum ps := by
  induction ps generalizing k with
  | nil => simp at h
  | cons p ps ih =>
    cases k with
    | zero => simp only [List.getElem_cons_zero, pqSum]; omega
    | succ k =>
      have := ih k (by simpa using h)
      simp only [List.getElem_cons_succ, pqSum]; omega
theorem pqSum_take (ps : List Pc) (k : Nat) : pqSum (ps.take k) ≤ pqSum ps := by
  conv => rhs; rw [← List.take_append_drop k ps, pqSum_app]
  omega
/-- What is told of a repl read so far: pieces, a plain text, how many times, and what is left. -/
def PqAt (s : List UInt8) (ps : List Pc) (p : List UInt8) (t : Nat) (rest : List UInt8) : Prop :=
  (∀ f, pqCat f ps ++ (p ++ pqRep t f) ++ putL f rest = putL f s) ∧ pqSum ps + p.length + t + rest.length ≤ s.length ∧ ps.length ≤ pqSum ps
theorem PqAt.start (s : List UInt8) : PqAt s [] [] 0 s := ⟨fun f => by simp [pqCat, pqRep], by simp [pqSum], by simp [pqSum]⟩
theorem PqAt.amp {s : List UInt8} {ps : List Pc} {p : List UInt8} {t : Nat} {r : List UInt8} (h : PqAt s ps p t (38 :: r)) : PqAt s ps p (t + 1) r := by
  obtain ⟨h1, h2, h3⟩ := h
  refine ⟨fun f => ?_, by simp at h2; omega, h3⟩
  rw [← h1 f, putL_amp, pqRep_succ]; simp
theorem PqAt.flush {s : List UInt8} {ps : List Pc} {p : List UInt8} {t : Nat} {r : List UInt8} (h : PqAt s ps p t r) (ht : 0 < t) : PqAt s (ps ++ [(p, t)]) [] 0 r := by
  obtain ⟨h1, h2, h3⟩ := h
  refine ⟨fun f => ?_, ?_, ?_⟩
  · rw [← h1 f, pqCat_app, pqCat_one]; simp [pqRep]
  · rw [pqSum_app]; simp only [pqSum, List.length_nil]; omega
  · rw [pqSum_app, List.length_append]; simp only [pqSum, List.length_cons, List.length_nil]; omega
theorem PqAt.one {s : List UInt8} {ps : List Pc} {p : List UInt8} {c : UInt8} {r : List UInt8} (h : PqAt s ps p 0 (c :: r)) (h1 : c ≠ 38) (h2 : c = 92 → ∀ d u, r = d :: u → rsB d = false) : PqAt s ps (p ++ [c]) 0 r := by
  obtain ⟨g1, g2, g3⟩ := h
  refine ⟨fun f => ?_, by simp at g2 ⊢; omega, g3⟩
  rw [← g1 f, putL_one f c r h1 h2]; simp [pqRep]
theorem PqAt.esc {s : List UInt8} {ps : List Pc} {p : List UInt8} {d : UInt8} {r : List UInt8} (h : PqAt s ps p 0 (92 :: d :: r)) (h1 : rsB d = true) : PqAt s ps (p ++ [d]) 0 r := by
  obtain ⟨g1, g2, g3⟩ := h
  refine ⟨fun f => ?_, by simp at g2 ⊢; omega, g3⟩
  rw [← g1 f, putL_esc f d r h1]; simp [pqRep]
/-- All of a repl. -/
def PqAll (s : List UInt8) (ps : List Pc) : Prop := (∀ f, pqCat f ps = putL f s) ∧ pqSum ps ≤ s.length ∧ ps.length ≤ s.length + 1
theorem PqAt.done {s : List UInt8} {ps : List Pc} {p : List UInt8} {t : Nat} (h : PqAt s ps p t []) : PqAll s (ps ++ [(p, t)]) := by
  obtain ⟨h1, h2, h3⟩ := h
  refine ⟨fun f => ?_, ?_, ?_⟩
  · rw [← h1 f, pqCat_app, pqCat_one]; simp [putL]
  · rw [pqSum_app]; simp only [pqSum, List.length_nil] at h2 ⊢; omega
  · rw [List.length_append]; simp only [List.length_cons, List.length_nil] at h2 ⊢; omega
/-- A room: what lies in it, and whether something did not fit. -/
abbrev RmS := List UInt8 × Bool
def addR (size : Nat) (st : RmS) (s : List UInt8) (times : Nat) : RmS :=
  if s = [] then st else if size < st.1.length + times * s.length then (st.1, true) else (st.1 ++ pqRep times s, st.2)
theorem addR_fit {size : Nat} {st : RmS} {s : List UInt8} {times : Nat} (h : st.1.length + times * s.length ≤ size) : addR size st s times = (st.1 ++ pqRep times s, st.2) := by
  unfold addR
  by_cases h0 : s = []
  · rw [if_pos h0, h0, pqRep_nil, List.append_nil]
  · rw [if_neg h0, if_neg (by omega)]
theorem addR_le {size : Nat} {st : RmS} {s : List UInt8} {times : Nat} (h : st.1.length ≤ size) : (addR size st s times).1.length ≤ size := by
  unfold addR
  split
  · exact h
  · split
    · exact h
    · rw [List.length_append, pqRep_len]; omega
def putR (size : Nat) (f : List UInt8) (st : RmS) : List Pc → RmS
  | [] => st
  | p :: ps => putR size f (addR size (addR size st p.1 1) f p.2) ps
theorem putR_app (size : Nat) (f : List UInt8) (st : RmS) (ps qs : List Pc) : putR size f st (ps ++ qs) = putR size f (putR size f st ps) qs := by
  induction ps generalizing st with
  | nil => rfl
  | cons p ps ih => exact ih _
theorem putR_take (size : Nat) (f : List UInt8) (st : RmS) (ps : List Pc) (k : Nat) (h : k < ps.length) : putR size f st (ps.take (k + 1)) = addR size (addR size (putR size f st (ps.take k)) ps[k].1 1) f ps[k].2 := by
  rw [List.take_succ_eq_append_getElem h, putR_app]; rfl
theorem putR_fit {size : Nat} {f : List UInt8} {st : RmS} {ps : List Pc} (h : st.1.length + (pqCat f ps).length ≤ size) : putR size f st ps = (st.1 ++ pqCat f ps, st.2) := by
  induction ps generalizing st with
  | nil => simp [putR, pqCat]
  | cons p ps ih =>
    rw [pqCat_cons] at h ⊢
    simp only [List.length_append, pqRep_len] at h
    have e1 : addR size st p.1 1 = (st.1 ++ pqRep 1 p.1, st.2) := addR_fit (by omega)
    rw [putR, e1, addR_fit (by simp only [List.length_append, pqRep_len]; omega), ih (by simp only [List.length_append, pqRep_len]; omega), pqRep_one]
    simp
theorem putR_le {size : Nat} {f : List UInt8} {st : RmS} {ps : List Pc} (h : st.1.length ≤ size) : (putR size f st ps).1.length ≤ size := by
  induction ps generalizing st with
  | nil => exact h
  | cons p ps ih => exact ih (addR_le (addR_le h))
end Go.Proofs.Ythffjcclcladoaa.kit
