/-
 Numbers in digits of base 36, and a set's key, which no other set has: plain facts, of no program. Conditions: each theorem names its own.
-/
import Derived.Test.YtpidpimgoeeogaaDoorMaKit
namespace Go.Proofs.YtpidpimgoeeogaaDoor.kit
set_option linter.unusedVariables false

/-- A digit. -/
def dig36 (d : Nat) : UInt8 := if d < 10 then UInt8.ofNat (48 + d) else UInt8.ofNat (87 + d)
def undig36 (c : UInt8) : Nat := if c.toNat < 58 then c.toNat - 48 else c.toNat - 87
theorem undig_dig (d : Nat) (h : d < 36) : undig36 (dig36 d) = d := by
 unfold undig36 dig36
 by_cases c : d < 10
 ·rw [if_pos c]
  have e : (UInt8.ofNat (48 + d)).toNat = 48 + d := by rw [UInt8.toNat_ofNat']; omega
  rw [e, if_pos (by omega)]; omega
 ·rw [if_neg c]
  have e : (UInt8.ofNat (87 + d)).toNat = 87 + d := by rw [UInt8.toNat_ofNat']; omega
  rw [e, if_neg (by omega)]; omega
theorem dig_blank (d : Nat) (h : d < 36) : dig36 d ≠ 32 := by
 unfold dig36
 intro e
 have e' := congrArg UInt8.toNat e
 split at e' <;> (rw [UInt8.toNat_ofNat'] at e'; simp at e'; omega)
/-- A number's digits. -/
def d36 (n : Nat) : List UInt8 := if h : n < 36 then [dig36 n] else d36 (n / 36) ++ [dig36 (n % 36)]
termination_by n
decreasing_by omega
theorem d36_small (n : Nat) (h : n < 36) : d36 n = [dig36 n] := by rw [d36, dif_pos h]
theorem d36_big (n : Nat) (h : 36 ≤ n) : d36 n = d36 (n / 36) ++ [dig36 (n % 36)] := by rw [d36, dif_neg (by omega)]
def val36 (l : List UInt8) : Nat := l.foldl (fun a c => a * 36 + undig36 c) 0
theorem val36_d36 (n : Nat) : val36 (d36 n) = n := by
 induction n using Nat.strongRecOn with
 | _ n ih =>
  by_cases h : n < 36
  ·rw [d36_small n h]; simp [val36, undig_dig n h]
  ·rw [d36_big n (by omega)]
   have := ih (n / 36) (by omega)
   unfold val36 at this ⊢
   rw [List.foldl_append, this]
   simp only [List.foldl_cons, List.foldl_nil, undig_dig (n % 36) (Nat.mod_lt _ (by omega))]
   omega
theorem d36_blank (n : Nat) : ∀ c ∈ d36 n, c ≠ 32 := by
 induction n using Nat.strongRecOn with
 | _ n ih =>
  by_cases h : n < 36
  ·rw [d36_small n h]; intro c hc; rw [List.mem_singleton] at hc; subst hc; exact dig_blank n h
  ·rw [d36_big n (by omega)]
   intro c hc
   rcases List.mem_append.1 hc with hc | hc
   ·exact ih (n / 36) (by omega) c hc
   ·rw [List.mem_singleton] at hc; subst hc; exact dig_blank _ (Nat.mod_lt _ (by omega))
theorem d36_len (n k : Nat) (hn : n < 36 ^ (k + 1)) : (d36 n).length ≤ k + 1 := by
 induction k generalizing n with
 | zero => rw [d36_small n (by simpa using hn)]; simp
 | succ k ih =>
  by_cases h : n < 36
  ·rw [d36_small n h]; simp
  ·rw [d36_big n (by omega), List.length_append]
   have := ih (n / 36) (by rw [Nat.pow_succ] at hn; exact Nat.div_lt_of_lt_mul (by rw [Nat.mul_comm]; exact hn))
   simp; omega
/-- A set's key. -/
def keyW (ws : List Nat) : List UInt8 := ws.flatMap fun x => 32 :: d36 x
def keyT (sk : Nat) (ws : List Nat) : List UInt8 := d36 sk ++ keyW ws
theorem keyT_snoc (sk : Nat) (ws : List Nat) (x : Nat) : keyT sk (ws ++ [x]) = keyT sk ws ++ [32] ++ d36 x := by
 simp [keyT, keyW, List.append_assoc]
theorem keyT_nil (sk : Nat) : keyT sk [] = d36 sk := by simp [keyT, keyW]
theorem cut32 : ∀ (a b X Y : List UInt8), (∀ c ∈ a, c ≠ 32) → (∀ c ∈ b, c ≠ 32) → (X = [] ∨ X.head? = some 32) → (Y = [] ∨ Y.head? = some 32) → a ++ X = b ++ Y → a = b ∧ X = Y
 | [], [], X, Y, _, _, _, _, h => ⟨rfl, by simpa using h⟩
 | [], c :: b, X, Y, _, hb, hX, _, h => by
  exfalso
  have h' : X = c :: (b ++ Y) := by simpa using h
  rcases hX with e | e
  ·rw [e] at h'; simp at h'
  ·rw [h'] at e; simp at e; exact hb c (by simp) e
 | c :: a, [], X, Y, ha, _, _, hY, h => by
  exfalso
  have h' : Y = c :: (a ++ X) := by simpa using h.symm
  rcases hY with e | e
  ·rw [e] at h'; simp at h'
  ·rw [h'] at e; simp at e; exact ha c (by simp) e
 | c :: a, d :: b, X, Y, ha, hb, hX, hY, h => by
  simp only [List.cons_append, List.cons.injEq] at h
  obtain ⟨e, h⟩ := h
  obtain ⟨e2, e3⟩ := cut32 a b X Y (fun x hx => ha x (by simp [hx])) (fun x hx => hb x (by simp [hx])) hX hY h
  exact ⟨by rw [e, e2], e3⟩
theorem keyW_head (ws : List Nat) : keyW ws = [] ∨ (keyW ws).head? = some 32 := by
 cases ws with
 | nil => exact .inl rfl
 | cons x ws => exact .inr (by simp [keyW])
theorem d36_inj {a b : Nat} (h : d36 a = d36 b) : a = b := by rw [← val36_d36 a, ← val36_d36 b, h]
theorem keyW_inj : ∀ (ws vs : List Nat), keyW ws = keyW vs → ws = vs
 | [], [], _ => rfl
 | [], y :: vs, h => by simp [keyW] at h
 | x :: ws, [], h => by simp [keyW] at h
 | x :: ws, y :: vs, h => by
  have h' : d36 x ++ keyW ws = d36 y ++ keyW vs := by simpa [keyW] using h
  obtain ⟨e1, e2⟩ := cut32 _ _ _ _ (d36_blank x) (d36_blank y) (keyW_head ws) (keyW_head vs) h'
  rw [d36_inj e1, keyW_inj ws vs e2]
theorem keyT_inj {sk sk' : Nat} {ws vs : List Nat} (h : keyT sk ws = keyT sk' vs) : sk = sk' ∧ ws = vs := by
 obtain ⟨e1, e2⟩ := cut32 _ _ _ _ (d36_blank sk) (d36_blank sk') (keyW_head ws) (keyW_head vs) h
 exact ⟨d36_inj e1, keyW_inj ws vs e2⟩
end Go.Proofs.YtpidpimgoeeogaaDoor.kit
