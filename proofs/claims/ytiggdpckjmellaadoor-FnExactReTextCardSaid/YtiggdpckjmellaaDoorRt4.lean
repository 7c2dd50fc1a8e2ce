/-
  Plain facts on a set's text, of no program. Conditions: each theorem names its own.
-/
import Derived.Test.YtiggdpckjmellaaDoorRt3
import Derived.Test.YtiggdpckjmellaaDoorRt0
namespace Go.Proofs.YtiggdpckjmellaaDoor.kit
open Go.ChangeShapes Go.WideShapes Go.ChangeAt Go.RowKit
set_option linter.unusedVariables false

def plainC (c : UInt8) : Bool := !(c == 93) && !(c == 94) && !(c == 45)
def others (l : List UInt8) : List UInt8 := l.filter plainC
def optC (c : UInt8) (l : List UInt8) : List UInt8 := if l.contains c then [c] else []
def setBody (l : List UInt8) : List UInt8 := optC 93 l ++ rTxt (others l) 0 ++ optC 94 l ++ optC 45 l
def setTxt (l : List UInt8) (n : Bool) : List UInt8 :=
  if l.length = 1 ∧ n = false then byTxt (l.getD 0 0) else if l = [45, 94] ∧ n = false then [91, 45, 94, 93] else (if n = true then [91, 94] else [91]) ++ setBody l ++ [93]
theorem optC_len (c : UInt8) (l : List UInt8) : (optC c l).length ≤ 1 := by
  unfold optC; split <;> simp
theorem optC_next (c d : UInt8) (l : List UInt8) : optC c (l ++ [d]) = if d = c then [c] else optC c l := by
  unfold optC
  by_cases h : d = c
  · subst h; simp
  · rw [if_neg h]
    have : (l ++ [d]).contains c = l.contains c := by
      rw [Bool.eq_iff_iff]
      simp only [List.contains_iff_mem, List.mem_append, List.mem_singleton]
      constructor
      · rintro (h1 | h1)
        · exact h1
        · exact absurd h1.symm h
      · exact .inl
    rw [this]
theorem others_next (d : UInt8) (l : List UInt8) : others (l ++ [d]) = if plainC d = true then others l ++ [d] else others l := by
  unfold others
  rw [List.filter_append]
  by_cases h : plainC d = true
  · rw [if_pos h]; simp [h]
  · rw [if_neg h]; simp [h]
theorem others_len (l : List UInt8) : (others l).length ≤ l.length := List.length_filter_le _ _
theorem rTxt_len (l : List UInt8) (i : Nat) : (rTxt l i).length ≤ l.length - i := by
  by_cases h : i < l.length
  · rw [rTxt_go h, List.length_append]
    have h1 := piece_len l i (rEnd l (i + 1))
    have h2 := rEnd_ge l (i + 1)
    have h3 := rEnd_le l (i + 1) (by omega)
    have h4 := rTxt_len l (rEnd l (i + 1))
    omega
  · rw [rTxt_end h]; simp
termination_by l.length - i
theorem rTxt_head (l : List UInt8) (h : l ≠ []) : ∃ r, rTxt l 0 = l.getD 0 0 :: r := by
  have hl : 0 < l.length := List.length_pos_iff.2 h
  rw [rTxt_go hl]
  have h2 := rEnd_ge l (0 + 1)
  by_cases c : 3 ≤ rEnd l (0 + 1) - 0
  · rw [piece_long c]; exact ⟨_, rfl⟩
  · rw [piece_short c]
    cases l with
    | nil => exact absurd rfl h
    | cons a l =>
      obtain ⟨m, hm⟩ : ∃ m, rEnd (a :: l) (0 + 1) - 0 = m + 1 := ⟨rEnd (a :: l) (0 + 1) - 1, by omega⟩
      rw [hm]
      exact ⟨l.take m ++ rTxt (a :: l) (rEnd (a :: l) (0 + 1)), by simp⟩
theorem asc_two {l : List UInt8} (ha : RT.asc l = true) (hm : ∀ c ∈ l, c = 45 ∨ c = 94) (h1 : l ≠ []) (h2 : l.length ≠ 1) : l = [45, 94] := by
  match l, ha, hm, h1, h2 with
  | [], _, _, h1, _ => exact absurd rfl h1
  | [a], _, _, _, h2 => exact absurd rfl h2
  | a :: b :: r, ha, hm, _, _ =>
    simp only [RT.asc, Bool.and_eq_true, decide_eq_true_eq] at ha
    have e1 := hm a (by simp)
    have e2 := hm b (by simp)
    have f : a = 45 ∧ b = 94 := by
      rcases e1 with rfl | rfl <;> rcases e2 with rfl | rfl
      · exact absurd ha.1 (by decide)
      · exact ⟨rfl, rfl⟩
      · exact absurd ha.1 (by decide)
      · exact absurd ha.1 (by decide)
    obtain ⟨rfl, rfl⟩ := f
    cases r with
    | nil => rfl
    | cons d r =>
      have e3 := hm d (by simp)
      have h3 := ha.2
      simp only [RT.asc] at h3
      cases r with
      | nil =>
        simp only [RT.asc, Bool.and_eq_true, decide_eq_true_eq] at h3
        rcases e3 with rfl | rfl
        · exact absurd h3.1 (by decide)
        · exact absurd h3.1 (by decide)
      | cons e r =>
        simp only [RT.asc, Bool.and_eq_true, decide_eq_true_eq] at h3
        rcases e3 with rfl | rfl
        · exact absurd h3.1 (by decide)
        · exact absurd h3.1 (by decide)
/-- A set's text begins with ^ only where it is - and ^ alone. -/
theorem body_head {l : List UInt8} (ha : RT.asc l = true) (h1 : l ≠ []) (h2 : l.length ≠ 1) : ∃ c r, setBody l = c :: r ∧ (c = 94 ↔ l = [45, 94]) := by
  unfold setBody
  by_cases h93 : l.contains 93 = true
  · have e93 : optC 93 l = [93] := by unfold optC; rw [if_pos h93]
    refine ⟨93, rTxt (others l) 0 ++ optC 94 l ++ optC 45 l, by rw [e93]; simp, ?_⟩
    constructor
    · intro h; exact absurd h (by decide)
    · intro h; rw [h] at h93; exact absurd h93 (by decide)
  · have e93 : optC 93 l = [] := by unfold optC; rw [if_neg h93]
    rw [e93]
    by_cases ho : others l = []
    · have hm : ∀ c ∈ l, c = 45 ∨ c = 94 := by
        intro c hc
        have h3 : ¬ plainC c = true := by
          intro h
          have : c ∈ others l := List.mem_filter.2 ⟨hc, h⟩
          rw [ho] at this; cases this
        have h4 : c ≠ 93 := by
          intro h; subst h; exact h93 (by simpa using hc)
        simp only [plainC, Bool.and_eq_true, Bool.not_eq_true', beq_eq_false_iff_ne, ne_eq] at h3
        by_cases h5 : c = 45
        · exact .inl h5
        · by_cases h6 : c = 94
          · exact .inr h6
          · exact absurd ⟨⟨h4, h6⟩, h5⟩ h3
      have e := asc_two ha hm h1 h2
      subst e
      refine ⟨94, [45], ?_, by simp⟩
      rw [ho, rTxt_end (by simp)]
      decide
    · obtain ⟨r, hr⟩ := rTxt_head (others l) ho
      refine ⟨(others l).getD 0 0, r ++ optC 94 l ++ optC 45 l, by rw [hr]; simp, ?_⟩
      have hp : plainC ((others l).getD 0 0) = true := by
        have : (others l).getD 0 0 ∈ others l := by
          cases h : others l with
          | nil => exact absurd h ho
          | cons a r => simp
        exact (List.mem_filter.1 this).2
      constructor
      · intro h; rw [h] at hp; exact absurd hp (by decide)
      · intro h; subst h; exact absurd (by decide) ho
end Go.Proofs.YtiggdpckjmellaaDoor.kit
