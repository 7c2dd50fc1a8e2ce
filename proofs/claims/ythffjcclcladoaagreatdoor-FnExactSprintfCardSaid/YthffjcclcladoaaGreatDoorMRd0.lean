/-
  Plain facts on decimal texts: the number of a list of digits, and when the decimal text of that number is the list again. Of no program. Conditions: each theorem names its own.
-/
import Derived.Test.YthffjcclcladoaaGreatDoorMKit
import Derived.Lib.ItoaNum
namespace Go.Proofs.YthffjcclcladoaaGreatDoor.kit
set_option linter.unusedVariables false

def isDig (c : UInt8) : Prop := 48 ≤ c.toNat ∧ c.toNat ≤ 57
/-- The number of a list of digits. -/
def valN (l : List UInt8) : Nat := l.foldl (fun n c => 10 * n + (c.toNat - 48)) 0
theorem valN_snoc (l : List UInt8) (c : UInt8) : valN (l ++ [c]) = 10 * valN l + (c.toNat - 48) := by simp [valN, List.foldl_append]
theorem snoc_induction {P : List UInt8 → Prop} (h0 : P []) (hs : ∀ l c, P l → P (l ++ [c])) (l : List UInt8) : P l := by
  have : ∀ m : List UInt8, P m.reverse := by
    intro m
    induction m with
    | nil => simpa using h0
    | cons a m ih => simpa using hs _ a ih
  simpa using this l.reverse
theorem valN_lt (l : List UInt8) : (∀ c ∈ l, isDig c) → valN l < 10 ^ l.length := by
  induction l using snoc_induction with
  | h0 => intro _; simp [valN]
  | hs l c ih =>
    intro h
    have h1 := ih fun x hx => h x (by simp [hx])
    have h2 := h c (by simp)
    unfold isDig at h2
    rw [valN_snoc, List.length_append, List.length_singleton, Nat.pow_succ]
    omega
theorem valN_pos (l : List UInt8) (c : UInt8) (hc : c.toNat ≠ 48) (hd : isDig c) : 1 ≤ valN (c :: l) := by
  induction l using snoc_induction with
  | h0 => unfold isDig at hd; simp [valN]; omega
  | hs l d ih =>
    rw [← List.cons_append, valN_snoc]; omega
theorem byte_of_dig (c : UInt8) (h : isDig c) : UInt8.ofNat (48 + (c.toNat - 48)) = c := by
  unfold isDig at h
  apply UInt8.toNat_inj.1
  rw [UInt8.toNat_ofNat']
  omega
/-- A list of digits whose first is no nought is the decimal text of its number. -/
theorem dec_of_digits (c : UInt8) (hc : c.toNat ≠ 48) (l : List UInt8) : (∀ x ∈ c :: l, isDig x) → Lib.decDigits (valN (c :: l)) = c :: l := by
  induction l using snoc_induction with
  | h0 =>
    intro h
    have hd := h c (by simp)
    have e : valN [c] = c.toNat - 48 := by simp [valN]
    rw [e, Lib.decDigits_one (by unfold isDig at hd; omega), byte_of_dig c hd]
  | hs l d ih =>
    intro h
    have hd := h d (by simp)
    have h1 := ih fun x hx => h x (by simp at hx ⊢; rcases hx with a | a <;> simp [a])
    have hp := valN_pos l c hc (h c (by simp))
    rw [← List.cons_append, valN_snoc, Lib.decDigits, dif_neg (by omega)]
    have hdd : d.toNat - 48 < 10 := by unfold isDig at hd; omega
    rw [show (10 * valN (c :: l) + (d.toNat - 48)) / 10 = valN (c :: l) by omega, show (10 * valN (c :: l) + (d.toNat - 48)) % 10 = d.toNat - 48 by omega, h1, byte_of_dig d hd]
theorem decDigits_ne (u : Nat) : Lib.decDigits u ≠ [] := by
  intro h
  have := Lib.nDigits_pos u
  have := congrArg List.length h
  rw [Lib.decDigits_length] at this
  simp at this; omega
/-- The decimal text of a number that is not 0 does not begin with a nought. -/
theorem head_of_dec (n u : Nat) : u ≤ n → (Lib.decDigits u).head? = some 48 → u = 0 := by
  induction n generalizing u with
  | zero => intro h _; omega
  | succ n ih =>
    intro hu h
    by_cases h1 : u < 10
    · rw [Lib.decDigits_one h1] at h
      have e : UInt8.ofNat (48 + u) = 48 := by simpa using h
      have := congrArg UInt8.toNat e
      rw [UInt8.toNat_ofNat'] at this
      simp at this
      omega
    · rw [Lib.decDigits, dif_neg h1] at h
      cases hd : Lib.decDigits (u / 10) with
      | nil => exact absurd hd (decDigits_ne _)
      | cons a t =>
        rw [hd] at h
        have := ih (u / 10) (by omega) (by rw [hd]; simpa using h)
        omega
end Go.Proofs.YthffjcclcladoaaGreatDoor.kit
