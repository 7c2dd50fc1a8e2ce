/-
 Plain facts on a sequence x -> (a x + c) mod M, and on the one with a = 6364136223846793005, c = 1442695040888963407, M = 2^64, of no program: from every number on, every number comes. Conditions: each theorem names its own.
-/
import Derived.Test.YtcpaneaiobnhdaaDoorMKit
namespace Go.Proofs.YtcpaneaiobnhdaaDoor.kit
set_option linter.unusedVariables false

def itN (g : Nat → Nat) : Nat → Nat → Nat
 | 0, x => x
 | t + 1, x => itN g t (g x)
theorem itN_add (g : Nat → Nat) (s t x : Nat) : itN g (s + t) x = itN g t (itN g s x) := by
 induction s generalizing x with
 | zero => simp [itN]
 | succ s ih => rw [show s + 1 + t = (s + t) + 1 by omega, itN, itN]; exact ih _
theorem itN_lt {g : Nat → Nat} {M : Nat} (hg : ∀ x, g x < M) (t : Nat) : ∀ x, x < M → itN g t x < M := by
 induction t with
 | zero => intro x hx; exact hx
 | succ t ih => intro x hx; rw [itN]; exact ih _ (hg x)
/-- The numbers of 2^k steps at once. -/
def ac (a c M : Nat) : Nat → Nat × Nat
 | 0 => (a, c)
 | k + 1 => ((ac a c M k).1 * (ac a c M k).1 % M, ((ac a c M k).1 * (ac a c M k).2 + (ac a c M k).2) % M)
theorem twice (M a c x : Nat) : (a * ((a * x + c) % M) + c) % M = ((a * a % M) * x + (a * c + c) % M) % M := by
 have h1 : (a * ((a * x + c) % M) + c) % M = (a * (a * x + c) + c) % M := by
  rw [Nat.add_mod, Nat.mul_mod, Nat.mod_mod, ← Nat.mul_mod, ← Nat.add_mod]
 have h2 : ((a * a % M) * x + (a * c + c) % M) % M = (a * a * x + (a * c + c)) % M := by
  rw [Nat.add_mod, Nat.mod_mod, Nat.mul_mod, Nat.mod_mod, ← Nat.mul_mod, ← Nat.add_mod]
 rw [h1, h2]
 congr 1
 rw [Nat.mul_add, Nat.mul_assoc, Nat.add_assoc]
theorem ac_step {g : Nat → Nat} {a c M : Nat} (hg : ∀ x, g x = (a * x + c) % M) (k : Nat) : ∀ x, itN g (2 ^ k) x = ((ac a c M k).1 * x + (ac a c M k).2) % M := by
 induction k with
 | zero => intro x; rw [Nat.pow_zero, itN, itN, hg, ac]
 | succ k ih =>
  intro x
  rw [show 2 ^ (k + 1) = 2 ^ k + 2 ^ k by rw [Nat.pow_succ]; omega, itN_add, ih, ih, twice, ac]
def AcOk (a c M k : Nat) : Prop := (ac a c M k).1 % 2 ^ (k + 1) = 1 % 2 ^ (k + 1) ∧ (ac a c M k).2 % 2 ^ (k + 1) = 2 ^ k ∧ M % 2 ^ (k + 1) = 0
theorem jump {g : Nat → Nat} {a c M : Nat} (hg : ∀ x, g x = (a * x + c) % M) (k : Nat) (h : AcOk a c M k) (x : Nat) : itN g (2 ^ k) x % 2 ^ (k + 1) = (x + 2 ^ k) % 2 ^ (k + 1) := by
 obtain ⟨h1, h2, h3⟩ := h
 have hd : 2 ^ (k + 1) ∣ M := Nat.dvd_of_mod_eq_zero h3
 rw [ac_step hg, Nat.mod_mod_of_dvd _ hd, Nat.add_mod, Nat.mul_mod, h1, ← Nat.mul_mod, Nat.one_mul, h2, Nat.add_mod, Nat.mod_mod, ← Nat.add_mod]
theorem steer {g : Nat → Nat} {a c M n : Nat} (hg : ∀ x, g x = (a * x + c) % M) (hok : ∀ k, k < n → AcOk a c M k) (T : Nat) (k : Nat) : k ≤ n → ∀ x, ∃ t, t < 2 ^ k ∧ itN g t x % 2 ^ k = T % 2 ^ k := by
 induction k with
 | zero => intro _ x; exact ⟨0, by simp, by rw [Nat.pow_zero, Nat.mod_one, Nat.mod_one]⟩
 | succ k ih =>
  intro hk x
  obtain ⟨t, ht, he⟩ := ih (by omega) x
  have hp : 2 ^ (k + 1) = 2 ^ k * 2 := Nat.pow_succ ..
  generalize hy : itN g t x = y at he
  have hb : 0 < 2 ^ k := Nat.pow_pos (by omega)
  have hx1 : y % (2 ^ k * 2) = y % 2 ^ k + 2 ^ k * (y / 2 ^ k % 2) := Nat.mod_mul
  have hx2 : T % (2 ^ k * 2) = T % 2 ^ k + 2 ^ k * (T / 2 ^ k % 2) := Nat.mod_mul
  by_cases e : y / 2 ^ k % 2 = T / 2 ^ k % 2
  ·exact ⟨t, by omega, by rw [hy, hp, hx1, hx2, he, e]⟩
  ·refine ⟨t + 2 ^ k, by omega, ?_⟩
   rw [itN_add, hy, jump hg k (hok k (by omega)), hp]
   have h1 : (y + 2 ^ k) % (2 ^ k * 2) = (y + 2 ^ k) % 2 ^ k + 2 ^ k * ((y + 2 ^ k) / 2 ^ k % 2) := Nat.mod_mul
   rw [h1, hx2, Nat.add_mod_right, he, Nat.add_div_right _ hb]
   congr 2
   omega
end Go.Proofs.YtcpaneaiobnhdaaDoor.kit
/-
 Plain facts on the sequence of the draws' cursor, of no program: from every state on the state 8 comes, from which three bytes in a row are 0, 3 or 4 modulo 5; how far it is. Conditions: each theorem names its own.
-/
namespace Go.Proofs.YtcpaneaiobnhdaaDoor.kit
set_option linter.unusedVariables false

def acB (k : Nat) : Bool := (ac 6364136223846793005 1442695040888963407 18446744073709551616 k).1 % 2 ^ (k + 1) == 1 % 2 ^ (k + 1) && (ac 6364136223846793005 1442695040888963407 18446744073709551616 k).2 % 2 ^ (k + 1) == 2 ^ k && 18446744073709551616 % 2 ^ (k + 1) == 0
theorem acAll : (List.range 64).all acB = true := by decide +kernel
/-- A sequence of that rule. -/
structure Seq64 (g : Nat → Nat) (M : Nat) : Prop where
 rule : ∀ x, g x = (6364136223846793005 * x + 1442695040888963407) % M
 big : M = 18446744073709551616
theorem Seq64.ok {g : Nat → Nat} {M : Nat} (h : Seq64 g M) (k : Nat) (hk : k < 64) : AcOk 6364136223846793005 1442695040888963407 M k := by
 have h1 := acAll
 rw [List.all_eq_true] at h1
 have h2 := h1 k (by simp [hk])
 rw [h.big]
 simp only [acB, Bool.and_eq_true, beq_iff_eq] at h2
 exact ⟨h2.1.1, h2.1.2, h2.2⟩
theorem Seq64.lt {g : Nat → Nat} {M : Nat} (h : Seq64 g M) (x : Nat) : g x < M := by
 rw [h.rule]; exact Nat.mod_lt _ (by rw [h.big]; omega)
theorem Seq64.reach {g : Nat → Nat} {M : Nat} (h : Seq64 g M) (T x : Nat) (hT : T < M) (hx : x < M) : ∃ t, t < M ∧ itN g t x = T := by
 obtain ⟨t, ht, he⟩ := steer h.rule h.ok T 64 (Nat.le_refl _) x
 have hM : 2 ^ 64 = M := by rw [h.big]
 rw [hM] at ht he
 refine ⟨t, ht, ?_⟩
 rwa [Nat.mod_eq_of_lt (itN_lt h.lt t x hx), Nat.mod_eq_of_lt hT] at he
theorem least {P : Nat → Prop} (h : ∃ t, P t) : ∃ t, P t ∧ ∀ s, s < t → ¬ P s := by
 obtain ⟨t, ht⟩ := h
 induction t using Nat.strongRecOn with
 | _ t ih =>
  by_cases e : ∃ s, s < t ∧ P s
  ·obtain ⟨s, hs, hp⟩ := e
   exact ih s hs hp
  ·exact ⟨t, ht, fun s hs hp => e ⟨s, hs, hp⟩⟩
open Classical in
/-- How many steps it is to the state z. -/
noncomputable def dist (g : Nat → Nat) (z x : Nat) : Nat := if h : ∃ t, itN g t x = z then (least h).choose else 0
theorem dist_spec {g : Nat → Nat} {z x : Nat} (h : ∃ t, itN g t x = z) : itN g (dist g z x) x = z ∧ ∀ s, s < dist g z x → itN g s x ≠ z := by
 rw [dist, dif_pos h]; exact (least h).choose_spec
theorem dist_le {g : Nat → Nat} {z x t : Nat} (h : itN g t x = z) : dist g z x ≤ t := by
 have hs := dist_spec ⟨t, h⟩
 rcases Nat.lt_or_ge t (dist g z x) with hlt | hge
 ·exact absurd h (hs.2 t hlt)
 ·exact hge
/-- One step nearer. -/
theorem dist_step {g : Nat → Nat} {z x : Nat} (h : ∃ t, itN g t x = z) (hx : x ≠ z) : dist g z (g x) + 1 = dist g z x := by
 have hs := dist_spec h
 have h1 : 1 ≤ dist g z x := by
  rcases Nat.eq_zero_or_pos (dist g z x) with e | e
  ·rw [e, itN] at hs; exact absurd hs.1 hx
  ·exact e
 obtain ⟨d, hd⟩ : ∃ d, dist g z x = d + 1 := ⟨dist g z x - 1, by omega⟩
 rw [hd, itN] at hs
 have h2 := dist_le hs.1
 have h3 := dist_spec ⟨d, hs.1⟩
 have h4 := dist_le (g := g) (z := z) (x := x) (t := dist g z (g x) + 1) (by rw [itN]; exact h3.1)
 omega
end Go.Proofs.YtcpaneaiobnhdaaDoor.kit
