/-
  Plain facts on the states of the draws' cursor: how far it is till a byte comes that adds to a text. Of no program. Conditions: each theorem names its own.
-/
import Derived.Test.YtalobgebdpaecaaCu2
namespace Go.Proofs.Ytalobgebdpaecaa.kit
open Go.RowKit
set_option linter.unusedVariables false

def gS (x : Nat) : Nat := (6364136223846793005 * x + 1442695040888963407) % 18446744073709551616
theorem gS_seq : Seq64 gS 18446744073709551616 := ⟨fun _ => rfl, rfl⟩
/-- A state as a number below 2^64. -/
def st (h : Int) : Nat := (h % 18446744073709551616).toNat
theorem st_lt (h : Int) : st h < 18446744073709551616 := by unfold st; omega
theorem wrap64_mod (n : Int) : wrap64 n % 18446744073709551616 = n % 18446744073709551616 := by unfold wrap64; omega
theorem wrap64_bd (n : Int) : -9223372036854775808 ≤ wrap64 n ∧ wrap64 n ≤ 9223372036854775807 := by unfold wrap64; omega
theorem lin_mod (A C M h : Int) : (h * A + C) % M = (h % M * A + C) % M := by
  rw [Int.add_emod (h * A), Int.mul_emod h A M, Int.add_emod (h % M * A), Int.mul_emod (h % M) A M, Int.emod_emod]
theorem two_mod {f : Int → Int} {M : Int} (hf : ∀ n, f n % M = n % M) (A C h : Int) : f (f (h * A) + C) % M = (h % M * A + C) % M := by
  rw [hf, Int.add_emod, hf, ← Int.add_emod, lin_mod]
theorem nat_mod (a c m y : Nat) : ((y : Int) * (a : Int) + (c : Int)) % (m : Int) = (((a * y + c) % m : Nat) : Int) := by
  rw [Int.natCast_emod, Int.natCast_add, Int.natCast_mul, Int.mul_comm (y : Int)]
theorem st_cast (h : Int) : (st h : Int) = h % 18446744073709551616 := by
  have : 0 ≤ h % 18446744073709551616 := Int.emod_nonneg _ (by decide)
  unfold st
  exact Int.toNat_of_nonneg this
theorem next_mod (h : Int) : nextH h % 18446744073709551616 = (h % 18446744073709551616 * 6364136223846793005 + 1442695040888963407) % 18446744073709551616 := two_mod wrap64_mod _ _ h
theorem st_next (h : Int) : st (nextH h) = gS (st h) := by
  have h1 := next_mod h
  rw [← st_cast (nextH h), ← st_cast h] at h1
  have h2 := nat_mod 6364136223846793005 1442695040888963407 18446744073709551616 (st h)
  simp only [Int.cast_ofNat_Int] at h2
  have h3 : ((st (nextH h) : Nat) : Int) = ((gS (st h) : Nat) : Int) := by rw [h1, h2, gS]
  exact Int.ofNat.inj h3
theorem next_bd (h : Int) : -9223372036854775808 ≤ nextH h ∧ nextH h ≤ 9223372036854775807 := wrap64_bd _
theorem st_inj {x v : Int} (hx : -9223372036854775808 ≤ x ∧ x ≤ 9223372036854775807) (hv : -9223372036854775808 ≤ v ∧ v ≤ 9223372036854775807) (e : st x = st v) : x = v := by
  have e' : ((st x : Nat) : Int) = ((st v : Nat) : Int) := by rw [e]
  rw [st_cast, st_cast] at e'
  omega
/-- The byte behind a state adds to a text. -/
def good (h : Int) : Prop := bt (nextH h) % 5 = 0 ∨ bt (nextH h) % 5 = 3 ∨ bt (nextH h) % 5 = 4
def z1 : Nat := 15462296684244204215
def z2 : Nat := 6702960577162501242
theorem gS_0 : gS 8 = z1 := by decide +kernel
theorem gS_1 : gS z1 = z2 := by decide +kernel
theorem good_0 {h : Int} (e : st h = 8) : good h := by
  have e1 : nextH h = -2984447389465347401 := st_inj (next_bd h) (by decide) (by rw [st_next, e]; decide +kernel)
  left; rw [e1]; decide +kernel
theorem good_1 {h : Int} (e : st h = z1) : good h := by
  have e1 : nextH h = 6702960577162501242 := st_inj (next_bd h) (by decide) (by rw [st_next, e]; decide +kernel)
  right; right; rw [e1]; decide +kernel
theorem good_2 {h : Int} (e : st h = z2) : good h := by
  have e1 : nextH h = -929496508085319487 := st_inj (next_bd h) (by decide) (by rw [st_next, e]; decide +kernel)
  right; right; rw [e1]; decide +kernel
theorem reach8 (x : Nat) (hx : x < 18446744073709551616) : ∃ t, t < 18446744073709551616 ∧ itN gS t x = 8 := gS_seq.reach 8 x (by decide) hx
theorem reach8' (h : Int) : ∃ t, itN gS t (st h) = 8 := by
  obtain ⟨t, _, e⟩ := reach8 (st h) (st_lt h)
  exact ⟨t, e⟩
open Classical in
/-- How far a state is from one that adds to a text. -/
noncomputable def mS (h : Int) : Nat := if st h = z1 ∨ st h = z2 then 0 else dist gS 8 (st h) + 1
def bigD : Nat := 18446744073709551618
theorem mS_lt (h : Int) : mS h < bigD := by
  obtain ⟨t, ht, e⟩ := reach8 (st h) (st_lt h)
  have := dist_le e
  unfold mS bigD
  split <;> omega
theorem mS_near {h : Int} (e : st h = z1 ∨ st h = z2) : mS h = 0 := by unfold mS; rw [if_pos e]
theorem mS_far {h : Int} (e : ¬ (st h = z1 ∨ st h = z2)) : mS h = dist gS 8 (st h) + 1 := by unfold mS; rw [if_neg e]
theorem not_near {h : Int} (hg : ¬ good h) : st h ≠ 8 ∧ ¬ (st h = z1 ∨ st h = z2) :=
  ⟨fun e => hg (good_0 e), fun e => e.elim (fun e => hg (good_1 e)) (fun e => hg (good_2 e))⟩
theorem near1 {h : Int} (h8 : st h ≠ 8) : dist gS 8 (st (nextH h)) + 1 = dist gS 8 (st h) := by
  rw [st_next]; exact dist_step (reach8' h) h8
theorem step1 {h : Int} (hg : ¬ good h) : mS (nextH h) < mS h := by
  obtain ⟨h8, hn⟩ := not_near hg
  rw [mS_far hn]
  by_cases e : st (nextH h) = z1 ∨ st (nextH h) = z2
  · rw [mS_near e]; omega
  · rw [mS_far e]; have := near1 h8; omega
theorem step3 {h : Int} (hg : ¬ good h) : mS (nextH (nextH (nextH h))) < mS h := by
  obtain ⟨h8, hn⟩ := not_near hg
  rw [mS_far hn]
  by_cases e : st (nextH (nextH (nextH h))) = z1 ∨ st (nextH (nextH (nextH h))) = z2
  · rw [mS_near e]; omega
  · rw [mS_far e]
    have n1 := near1 h8
    by_cases a1 : st (nextH h) = 8
    · exact absurd (Or.inr (by rw [st_next, st_next, a1, gS_0, gS_1])) e
    · have n2 := near1 a1
      by_cases a2 : st (nextH (nextH h)) = 8
      · exact absurd (Or.inl (by rw [st_next, a2, gS_0])) e
      · have n3 := near1 a2
        omega
/-- What every round of the loop lowers: the bytes that are lacking, the code's bytes that are left, the way to a byte that adds. -/
noncomputable def mu (lack left : Nat) (h : Int) : Nat := lack * (1048577 * bigD) + (left * bigD + mS h)
theorem mu_part (left : Nat) (h : Int) (hl : left ≤ 1048576) : left * bigD + mS h < 1048577 * bigD := by
  have h1 := mS_lt h
  have h2 : (left + 1) * bigD ≤ 1048577 * bigD := Nat.mul_le_mul_right _ (by omega)
  rw [Nat.add_mul, Nat.one_mul] at h2
  omega
theorem mu_lack {a b c d : Nat} {x y : Int} (h : a < c) (hb : b ≤ 1048576) : mu a b x < mu c d y := by
  have h1 := mu_part b x hb
  have h2 : (a + 1) * (1048577 * bigD) ≤ c * (1048577 * bigD) := Nat.mul_le_mul_right _ h
  rw [Nat.add_mul, Nat.one_mul] at h2
  unfold mu
  generalize 1048577 * bigD = q at *
  omega
theorem mu_left {a b d : Nat} {x y : Int} (h : b < d) : mu a b x < mu a d y := by
  have h1 := mS_lt x
  have h2 : (b + 1) * bigD ≤ d * bigD := Nat.mul_le_mul_right _ h
  rw [Nat.add_mul, Nat.one_mul] at h2
  unfold mu
  omega
theorem mu_near {a b : Nat} {x y : Int} (h : mS x < mS y) : mu a b x < mu a b y := by unfold mu; omega
end Go.Proofs.Ytalobgebdpaecaa.kit
