/-
  Plain facts on right expressions, of no program: what is right has right kids, and one of few shapes. Conditions: each theorem names its own.
-/
import Derived.Test.YtiggdpckjmellaaDoorRe9
namespace Go.Proofs.YtiggdpckjmellaaDoor.kit
open Go.ChangeShapes Go.WideShapes Go.ChangeAt Go.RowKit
set_option linter.unusedVariables false

def RT.good (t : RT) : Prop := ∃ deep left : Int, 0 ≤ left ∧ 0 ≤ RT.pl t deep left
theorem RT.good_own {t : RT} (h : RT.good t) : RT.own t = true := by
  obtain ⟨d, l, h0, h1⟩ := h
  cases c : RT.own t
  · rw [RT.pl_no t d l (.inr (.inr c))] at h1; omega
  · rfl
theorem RT.good_kids {t : RT} (h : RT.good t) (u : RT) (hu : u ∈ t.kids) : RT.good u := by
  have ho := RT.good_own h
  obtain ⟨d, l, h0, h1⟩ := h
  have hc : ¬ (l = 0 ∨ 12 < d ∨ RT.own t = false) := by
    intro c; rw [RT.pl_no t d l c] at h1; omega
  rw [RT.pl_go t d l hc] at h1
  have hk := RT.own_kids t ho
  have hl : 0 ≤ l - 1 := by
    have : l ≠ 0 := fun e => hc (.inl e)
    omega
  match hts : t.kids, hk with
  | [], _ => rw [hts] at hu; cases hu
  | [a], _ =>
    rw [hts] at hu h1
    simp only [List.mem_singleton] at hu
    subst hu
    simp only [RT.pls, if_true] at h1
    by_cases c : RT.pl u (d + 1) (l - 1) < 0
    · rw [if_pos c] at h1; omega
    · exact ⟨d + 1, l - 1, hl, by omega⟩
  | [a, b], _ =>
    rw [hts] at hu h1
    simp only [RT.pls, if_true] at h1
    by_cases c : RT.pl a (d + 1) (l - 1) < 0
    · rw [if_pos c] at h1; omega
    · rw [if_neg c] at h1
      have e1 : ((0 : Nat) + 1 = 0) = False := by simp
      simp only [e1, if_false] at h1
      by_cases c2 : RT.pl b d (RT.pl a (d + 1) (l - 1)) < 0
      · rw [if_pos c2] at h1; omega
      · rcases List.mem_cons.1 hu with rfl | hu
        · exact ⟨d + 1, l - 1, hl, by omega⟩
        · simp only [List.mem_singleton] at hu
          subst hu
          exact ⟨d, RT.pl a (d + 1) (l - 1), by omega, by omega⟩
theorem RT.ok_good {t : RT} (h : RT.ok t = true) : RT.good t := ⟨0, 200, by omega, by simpa [RT.ok] using h⟩
/-- The shapes of a right one. -/
theorem RT.own_shape {k : Int} {s : ByteArray} {n : Bool} {lo hi : Int} {ts : List RT} (h : RT.own (.node k s n lo hi ts) = true) :
    ((k = 0 ∨ k = 1 ∨ k = 6 ∨ k = 7 ∨ k = 2) ∧ ts = []) ∨ ((k = 3 ∨ k = 4) ∧ ∃ x y, ts = [x, y]) ∨ (k = 5 ∧ ∃ x, ts = [x]) := by
  rw [own_eq] at h
  unfold ownB at h
  have hz : ∀ m : Int, ((ts.length : Int) == m) = true → (ts.length : Int) = m := fun m h => by simpa using h
  by_cases a1 : (k == 0 || k == 1 || k == 6 || k == 7) = true
  · rw [if_pos a1] at h
    simp only [Bool.and_eq_true] at h
    have h1 := hz 0 h.2
    simp only [Bool.or_eq_true, beq_iff_eq] at a1
    exact .inl ⟨by omega, List.length_eq_zero_iff.1 (by omega)⟩
  · rw [if_neg a1] at h
    by_cases a2 : (k == 2) = true
    · rw [if_pos a2] at h
      simp only [Bool.and_eq_true] at h
      have h1 := hz 0 h.2
      simp only [beq_iff_eq] at a2
      exact .inl ⟨by omega, List.length_eq_zero_iff.1 (by omega)⟩
    · rw [if_neg a2] at h
      by_cases a3 : (k == 3 || k == 4) = true
      · rw [if_pos a3] at h
        simp only [Bool.and_eq_true] at h
        have h1 := hz 2 h.2
        simp only [Bool.or_eq_true, beq_iff_eq] at a3
        refine .inr (.inl ⟨a3, ?_⟩)
        match ts, h1 with
        | [x, y], _ => exact ⟨x, y, rfl⟩
        | [], h1 => simp at h1
        | [x], h1 => simp at h1
        | x :: y :: z :: l, h1 => simp at h1; omega
      · rw [if_neg a3] at h
        by_cases a4 : (k == 5) = true
        · rw [if_pos a4] at h
          simp only [Bool.and_eq_true, decide_eq_true_eq] at h
          have h1 := h.1.1.2
          simp only [beq_iff_eq] at a4
          refine .inr (.inr ⟨a4, ?_⟩)
          match ts, h1 with
          | [x], _ => exact ⟨x, rfl⟩
          | [], h1 => simp at h1
          | x :: y :: l, h1 => simp at h1; omega
        · rw [if_neg a4] at h
          cases h
end Go.Proofs.YtiggdpckjmellaaDoor.kit
