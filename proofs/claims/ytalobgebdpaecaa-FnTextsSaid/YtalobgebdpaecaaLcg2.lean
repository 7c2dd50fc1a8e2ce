/-
  Plain facts on the sequence of the draws' cursor, of no program: from every state on the state 8 comes, from which three bytes in a row are 0, 3 or 4 modulo 5; how far it is. Conditions: each theorem names its own.
-/
import Derived.Test.YtalobgebdpaecaaLcg
namespace Go.Proofs.Ytalobgebdpaecaa.kit
set_option linter.unusedVariables false

def acB (k : Nat) : Bool := (ac 6364136223846793005 1442695040888963407 18446744073709551616 k).1 % 2 ^ (k + 1) == 1 % 2 ^ (k + 1) && (ac 6364136223846793005 1442695040888963407 18446744073709551616 k).2 % 2 ^ (k + 1) == 2 ^ k && 18446744073709551616 % 2 ^ (k + 1) == 0
theorem acAll : (List.range 64).all acB = true := by decide +kernel
/-- A sequence of that rule. -/
structure Seq64 (g : Nat → Nat) (M : Nat) : Prop where
  rule : ∀ x, g x = (6364136223846793005 * x + 1442695040888963407) % M
  big : M = 18446744073709551616
theorem Seq64.ok {g : Nat → Nat} {M : Nat} (h : Seq64 g M) (k : Nat) (hk : k < 64) : AcOk 6364136223846793005 1442695040888963407 M k := by
  have h1 := acAll
  rw [List.all_eq_true] at h1
  have h2 := h1 k (by simp [hk])
  rw [h.big]
  simp only [acB, Bool.and_eq_true, beq_iff_eq] at h2
  exact ⟨h2.1.1, h2.1.2, h2.2⟩
theorem Seq64.lt {g : Nat → Nat} {M : Nat} (h : Seq64 g M) (x : Nat) : g x < M := by
  rw [h.rule]; exact Nat.mod_lt _ (by rw [h.big]; omega)
theorem Seq64.reach {g : Nat → Nat} {M : Nat} (h : Seq64 g M) (T x : Nat) (hT : T < M) (hx : x < M) : ∃ t, t < M ∧ itN g t x = T := by
  obtain ⟨t, ht, he⟩ := steer h.rule h.ok T 64 (Nat.le_refl _) x
  have hM : 2 ^ 64 = M := by rw [h.big]
  rw [hM] at ht he
  refine ⟨t, ht, ?_⟩
  rwa [Nat.mod_eq_of_lt (itN_lt h.lt t x hx), Nat.mod_eq_of_lt hT] at he
theorem least {P : Nat → Prop} (h : ∃ t, P t) : ∃ t, P t ∧ ∀ s, s < t → ¬ P s := by
  obtain ⟨t, ht⟩ := h
  induction t using Nat.strongRecOn with
  | _ t ih =>
    by_cases e : ∃ s, s < t ∧ P s
    · obtain ⟨s, hs, hp⟩ := e
      exact ih s hs hp
    · exact ⟨t, ht, fun s hs hp => e ⟨s, hs, hp⟩⟩
open Classical in
/-- How many steps it is to the state z. -/
noncomputable def dist (g : Nat → Nat) (z x : Nat) : Nat := if h : ∃ t, itN g t x = z then (least h).choose else 0
theorem dist_spec {g : Nat → Nat} {z x : Nat} (h : ∃ t, itN g t x = z) : itN g (dist g z x) x = z ∧ ∀ s, s < dist g z x → itN g s x ≠ z := by
  rw [dist, dif_pos h]; exact (least h).choose_spec
theorem dist_le {g : Nat → Nat} {z x t : Nat} (h : itN g t x = z) : dist g z x ≤ t := by
  have hs := dist_spec ⟨t, h⟩
  rcases Nat.lt_or_ge t (dist g z x) with hlt | hge
  · exact absurd h (hs.2 t hlt)
  · exact hge
/-- One step nearer. -/
theorem dist_step {g : Nat → Nat} {z x : Nat} (h : ∃ t, itN g t x = z) (hx : x ≠ z) : dist g z (g x) + 1 = dist g z x := by
  have hs := dist_spec h
  have h1 : 1 ≤ dist g z x := by
    rcases Nat.eq_zero_or_pos (dist g z x) with e | e
    · rw [e, itN] at hs; exact absurd hs.1 hx
    · exact e
  obtain ⟨d, hd⟩ : ∃ d, dist g z x = d + 1 := ⟨dist g z x - 1, by omega⟩
  rw [hd, itN] at hs
  have h2 := dist_le hs.1
  have h3 := dist_spec ⟨d, hs.1⟩
  have h4 := dist_le (g := g) (z := z) (x := x) (t := dist g z (g x) + 1) (by rw [itN]; exact h3.1)
  omega
end Go.Proofs.Ytalobgebdpaecaa.kit
