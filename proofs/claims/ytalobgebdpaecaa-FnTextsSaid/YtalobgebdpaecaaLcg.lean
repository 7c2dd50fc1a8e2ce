/-
  Plain facts on a sequence x -> (a x + c) mod M, and on the one with a = 6364136223846793005, c = 1442695040888963407, M = 2^64, of no program: from every number on, every number comes. Conditions: each theorem names its own.
-/
import Derived.Test.YtalobgebdpaecaaKit
namespace Go.Proofs.Ytalobgebdpaecaa.kit
set_option linter.unusedVariables false

def itN (g : Nat → Nat) : Nat → Nat → Nat
  | 0, x => x
  | t + 1, x => itN g t (g x)
theorem itN_add (g : Nat → Nat) (s t x : Nat) : itN g (s + t) x = itN g t (itN g s x) := by
  induction s generalizing x with
  | zero => simp [itN]
  | succ s ih => rw [show s + 1 + t = (s + t) + 1 by omega, itN, itN]; exact ih _
theorem itN_lt {g : Nat → Nat} {M : Nat} (hg : ∀ x, g x < M) (t : Nat) : ∀ x, x < M → itN g t x < M := by
  induction t with
  | zero => intro x hx; exact hx
  | succ t ih => intro x hx; rw [itN]; exact ih _ (hg x)
/-- The numbers of 2^k steps at once. -/
def ac (a c M : Nat) : Nat → Nat × Nat
  | 0 => (a, c)
  | k + 1 => ((ac a c M k).1 * (ac a c M k).1 % M, ((ac a c M k).1 * (ac a c M k).2 + (ac a c M k).2) % M)
theorem twice (M a c x : Nat) : (a * ((a * x + c) % M) + c) % M = ((a * a % M) * x + (a * c + c) % M) % M := by
  have h1 : (a * ((a * x + c) % M) + c) % M = (a * (a * x + c) + c) % M := by
    rw [Nat.add_mod, Nat.mul_mod, Nat.mod_mod, ← Nat.mul_mod, ← Nat.add_mod]
  have h2 : ((a * a % M) * x + (a * c + c) % M) % M = (a * a * x + (a * c + c)) % M := by
    rw [Nat.add_mod, Nat.mod_mod, Nat.mul_mod, Nat.mod_mod, ← Nat.mul_mod, ← Nat.add_mod]
  rw [h1, h2]
  congr 1
  rw [Nat.mul_add, Nat.mul_assoc, Nat.add_assoc]
theorem ac_step {g : Nat → Nat} {a c M : Nat} (hg : ∀ x, g x = (a * x + c) % M) (k : Nat) : ∀ x, itN g (2 ^ k) x = ((ac a c M k).1 * x + (ac a c M k).2) % M := by
  induction k with
  | zero => intro x; rw [Nat.pow_zero, itN, itN, hg, ac]
  | succ k ih =>
    intro x
    rw [show 2 ^ (k + 1) = 2 ^ k + 2 ^ k by rw [Nat.pow_succ]; omega, itN_add, ih, ih, twice, ac]
def AcOk (a c M k : Nat) : Prop := (ac a c M k).1 % 2 ^ (k + 1) = 1 % 2 ^ (k + 1) ∧ (ac a c M k).2 % 2 ^ (k + 1) = 2 ^ k ∧ M % 2 ^ (k + 1) = 0
theorem jump {g : Nat → Nat} {a c M : Nat} (hg : ∀ x, g x = (a * x + c) % M) (k : Nat) (h : AcOk a c M k) (x : Nat) : itN g (2 ^ k) x % 2 ^ (k + 1) = (x + 2 ^ k) % 2 ^ (k + 1) := by
  obtain ⟨h1, h2, h3⟩ := h
  have hd : 2 ^ (k + 1) ∣ M := Nat.dvd_of_mod_eq_zero h3
  rw [ac_step hg, Nat.mod_mod_of_dvd _ hd, Nat.add_mod, Nat.mul_mod, h1, ← Nat.mul_mod, Nat.one_mul, h2, Nat.add_mod, Nat.mod_mod, ← Nat.add_mod]
theorem steer {g : Nat → Nat} {a c M n : Nat} (hg : ∀ x, g x = (a * x + c) % M) (hok : ∀ k, k < n → AcOk a c M k) (T : Nat) (k : Nat) : k ≤ n → ∀ x, ∃ t, t < 2 ^ k ∧ itN g t x % 2 ^ k = T % 2 ^ k := by
  induction k with
  | zero => intro _ x; exact ⟨0, by simp, by rw [Nat.pow_zero, Nat.mod_one, Nat.mod_one]⟩
  | succ k ih =>
    intro hk x
    obtain ⟨t, ht, he⟩ := ih (by omega) x
    have hp : 2 ^ (k + 1) = 2 ^ k * 2 := Nat.pow_succ ..
    generalize hy : itN g t x = y at he
    have hb : 0 < 2 ^ k := Nat.pow_pos (by omega)
    have hx1 : y % (2 ^ k * 2) = y % 2 ^ k + 2 ^ k * (y / 2 ^ k % 2) := Nat.mod_mul
    have hx2 : T % (2 ^ k * 2) = T % 2 ^ k + 2 ^ k * (T / 2 ^ k % 2) := Nat.mod_mul
    by_cases e : y / 2 ^ k % 2 = T / 2 ^ k % 2
    · exact ⟨t, by omega, by rw [hy, hp, hx1, hx2, he, e]⟩
    · refine ⟨t + 2 ^ k, by omega, ?_⟩
      rw [itN_add, hy, jump hg k (hok k (by omega)), hp]
      have h1 : (y + 2 ^ k) % (2 ^ k * 2) = (y + 2 ^ k) % 2 ^ k + 2 ^ k * ((y + 2 ^ k) / 2 ^ k % 2) := Nat.mod_mul
      rw [h1, hx2, Nat.add_mod_right, he, Nat.add_div_right _ hb]
      congr 2
      omega
end Go.Proofs.Ytalobgebdpaecaa.kit
