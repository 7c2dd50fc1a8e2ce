/-
  What a form's places are, as lists of bytes tell them: plain facts, of no program. Conditions: each theorem names its own.
-/
import Derived.Test.YtcnmcfalobekmaaRd
namespace Go.Proofs.Ytcnmcfalobekmaa.kit
set_option linter.unusedVariables false

def isFl (c : UInt8) : Bool := c == 45 || c == 48
def isDg (c : UInt8) : Bool := decide (48 ≤ c.toNat) && decide (c.toNat ≤ 57)
/-- The flags, one behind the other. -/
def rdF : List UInt8 → Bool → Bool → List UInt8 × Bool × Bool
  | [], a, b => ([], a, b)
  | c :: l, a, b => if isFl c then rdF l (a || c == 45) (b || c == 48) else (c :: l, a, b)
/-- Up to so many digits, and their number. -/
def rdD : Nat → List UInt8 → Nat → List UInt8 × Nat
  | 0, l, a => (l, a)
  | _ + 1, [], a => ([], a)
  | n + 1, c :: l, a => if isDg c then rdD n l (10 * a + (c.toNat - 48)) else (c :: l, a)
/-- A point and one digit up to 6. -/
def rdQ : List UInt8 → List UInt8 × Int
  | 46 :: c :: l => if 48 ≤ c.toNat ∧ c.toNat ≤ 54 then (l, (c.toNat : Int) - 48) else (46 :: c :: l, -1)
  | l => (l, -1)
def kindB (c : UInt8) : Bool := c == 100 || c == 105 || c == 115 || c == 102 || c == 99 || c == 120 || c == 111
structure Plc where
  left : Bool
  nought : Bool
  width : Nat
  prec : Int
  kind : UInt8
/-- The place that l begins with, and what stands behind it. -/
def rdP (l : List UInt8) : Option (Plc × List UInt8) :=
  match (rdQ (rdD 3 (rdF l false false).1 0).1).1 with
  | [] => none
  | c :: r => if (rdD 3 (rdF l false false).1 0).2 ≤ 99 ∧ kindB c = true then some (⟨(rdF l false false).2.1, (rdF l false false).2.2, (rdD 3 (rdF l false false).1 0).2, (rdQ (rdD 3 (rdF l false false).1 0).1).2, c⟩, r) else none
theorem rdF_len : ∀ (l : List UInt8) (a b : Bool), (rdF l a b).1.length ≤ l.length
  | [], a, b => by simp [rdF]
  | c :: l, a, b => by
    rw [rdF]; split
    · have := rdF_len l (a || c == 45) (b || c == 48); simp; omega
    · simp
theorem rdD_len : ∀ (n : Nat) (l : List UInt8) (a : Nat), (rdD n l a).1.length ≤ l.length
  | 0, l, a => by simp [rdD]
  | n + 1, [], a => by simp [rdD]
  | n + 1, c :: l, a => by
    rw [rdD]; split
    · have := rdD_len n l (10 * a + (c.toNat - 48)); simp; omega
    · simp
theorem rdQ_len (l : List UInt8) : (rdQ l).1.length ≤ l.length := by
  unfold rdQ; split
  · split <;> simp <;> omega
  · simp
theorem rdP_len {l r : List UInt8} {p : Plc} (h : rdP l = some (p, r)) : r.length < l.length := by
  unfold rdP at h
  have h1 := rdF_len l false false
  have h2 := rdD_len 3 (rdF l false false).1 0
  have h3 := rdQ_len (rdD 3 (rdF l false false).1 0).1
  split at h
  · cases h
  · rename_i c r' e
    split at h
    · rw [e] at h3
      obtain ⟨-, rfl⟩ := by simpa using h
      simp at h3; omega
    · cases h
theorem rdP_kind {l r : List UInt8} {p : Plc} (h : rdP l = some (p, r)) : kindB p.kind = true ∧ p.width ≤ 99 := by
  unfold rdP at h
  split at h
  · cases h
  · rename_i c r' e
    split at h
    · rename_i hc
      simp only [Option.some.injEq, Prod.mk.injEq] at h
      obtain ⟨rfl, rfl⟩ := h
      exact ⟨hc.2, hc.1⟩
    · cases h
/-- How many places. -/
def plN (l : List UInt8) (n : Nat) : Int :=
  match l with
  | [] => n
  | c :: l =>
    if c ≠ 37 then plN l n
    else if l.head? = some 37 then plN l.tail n
    else match h : rdP l with
      | none => -1
      | some (p, r) => plN r (n + 1)
termination_by l.length
decreasing_by
  all_goals first | (simp; done) | (have := rdP_len h; simp; omega) | (simp; omega)
theorem plN_nil (n : Nat) : plN [] n = n := by rw [plN]
theorem plN_skip {c : UInt8} (l : List UInt8) (n : Nat) (h : c ≠ 37) : plN (c :: l) n = plN l n := by rw [plN, if_pos h]
theorem plN_both (l : List UInt8) (n : Nat) : plN (37 :: 37 :: l) n = plN l n := by rw [plN, if_neg (by simp), if_pos (by simp)]; rfl
theorem plN_none {l : List UInt8} (n : Nat) (h0 : l.head? ≠ some 37) (h : rdP l = none) : plN (37 :: l) n = -1 := by
  rw [plN, if_neg (by simp), if_neg h0]; split
  · rfl
  · rename_i e; rw [h] at e; cases e
theorem plN_some {l r : List UInt8} {p : Plc} (n : Nat) (h0 : l.head? ≠ some 37) (h : rdP l = some (p, r)) : plN (37 :: l) n = plN r (n + 1) := by
  rw [plN, if_neg (by simp), if_neg h0]; split
  · rename_i e; rw [h] at e; cases e
  · rename_i e; rw [h] at e; cases e; rfl
theorem plN_app : ∀ (a l : List UInt8) (n : Nat), (37 : UInt8) ∉ a → plN (a ++ l) n = plN l n
  | [], l, n, _ => rfl
  | c :: a, l, n, h => by
    have hc : c ≠ 37 := fun e => h (by simp [e])
    rw [List.cons_append, plN_skip _ _ hc, plN_app a l n (fun e => h (by simp [e]))]
theorem plN_bd : ∀ (k : Nat) (l : List UInt8) (n : Nat), l.length ≤ k → -1 ≤ plN l n ∧ plN l n ≤ n + l.length
  | k, [], n, _ => by rw [plN_nil]; simp
  | 0, c :: l, n, h => by simp at h
  | k + 1, c :: l, n, h => by
    by_cases hc : c = 37
    · subst hc
      by_cases h0 : l.head? = some 37
      · obtain ⟨l', rfl⟩ : ∃ l', l = 37 :: l' := by
          cases l with
          | nil => simp at h0
          | cons x l' => simp at h0; exact ⟨l', by rw [h0]⟩
        rw [plN_both]
        have := plN_bd k l' n (by simp at h; omega)
        simp; omega
      · cases e : rdP l with
        | none => rw [plN_none n h0 e]; omega
        | some x =>
          obtain ⟨p, r⟩ := x
          rw [plN_some n h0 e]
          have := rdP_len e
          have := plN_bd k r (n + 1) (by simp at h; omega)
          simp at h ⊢; omega
    · rw [plN_skip _ _ hc]
      have := plN_bd k l n (by simp at h; omega)
      simp; omega
/-- How many flags l begins with. -/
def flN : List UInt8 → Nat
  | [] => 0
  | c :: l => if isFl c then flN l + 1 else 0
theorem flN_le : ∀ l : List UInt8, flN l ≤ l.length
  | [] => Nat.le_refl _
  | c :: l => by rw [flN]; split <;> simp; exact flN_le l
theorem rdF_eq : ∀ (l : List UInt8) (a b : Bool), rdF l a b = (l.drop (flN l), a || (l.take (flN l)).contains 45, b || (l.take (flN l)).contains 48)
  | [], a, b => by simp [rdF, flN]
  | c :: l, a, b => by
    rw [rdF, flN]; split
    · have e1 : ∀ x y : UInt8, (x == y) = (y == x) := fun x y => by rw [Bool.eq_iff_iff, beq_iff_eq, beq_iff_eq]; exact eq_comm
      rw [rdF_eq l, List.drop_succ_cons, List.take_succ_cons, List.contains_cons, List.contains_cons, Bool.or_assoc, Bool.or_assoc, e1 c 45, e1 c 48]
    · simp
theorem flN_head (l : List UInt8) (c : UInt8) (r : List UInt8) (h : l.drop (flN l) = c :: r) : c ≠ 48 := by
  induction l with
  | nil => simp at h
  | cons x l ih =>
    rw [flN] at h
    split at h
    · exact ih (by simpa using h)
    · rename_i hx
      simp at h
      intro e
      rw [h.1] at hx; rw [e] at hx; exact hx (by decide)
/-- How many digits l begins with. -/
def dgN : List UInt8 → Nat
  | [] => 0
  | c :: l => if isDg c then dgN l + 1 else 0
theorem dgN_le : ∀ l : List UInt8, dgN l ≤ l.length
  | [] => Nat.le_refl _
  | c :: l => by rw [dgN]; split <;> simp; exact dgN_le l
theorem rdD_eq : ∀ (n : Nat) (l : List UInt8) (a : Nat), dgN l ≤ n → rdD n l a = (l.drop (dgN l), (l.take (dgN l)).foldl (fun n c => 10 * n + (c.toNat - 48)) a)
  | 0, l, a, h => by rw [Nat.le_zero.1 h]; simp [rdD]
  | n + 1, [], a, h => by simp [rdD, dgN]
  | n + 1, c :: l, a, h => by
    rw [dgN] at h ⊢
    rw [rdD]
    split
    · rename_i hc
      rw [if_pos hc] at h
      rw [rdD_eq n l _ (by omega)]; simp
    · simp
theorem rdD_ge : ∀ (n : Nat) (l : List UInt8) (a m : Nat), n ≤ dgN l → m ≤ a → m * 10 ^ n ≤ (rdD n l a).2
  | 0, l, a, m, h, hm => by simp [rdD]; exact hm
  | n + 1, [], a, m, h, hm => by simp [dgN] at h
  | n + 1, c :: l, a, m, h, hm => by
    rw [dgN] at h
    split at h
    · rename_i hc
      rw [rdD, if_pos hc]
      have := rdD_ge n l (10 * a + (c.toNat - 48)) (10 * m) (by omega) (by omega)
      rw [Nat.pow_succ]
      calc m * (10 ^ n * 10) = 10 * m * 10 ^ n := by rw [Nat.mul_comm (10 ^ n) 10, ← Nat.mul_assoc, Nat.mul_comm m 10]
        _ ≤ _ := this
    · omega
theorem rdD_far {l : List UInt8} (h : 2 < dgN l) (h0 : ∀ c r, l = c :: r → c ≠ 48) : 99 < (rdD 3 l 0).2 := by
  cases l with
  | nil => simp [dgN] at h
  | cons c l =>
    rw [dgN] at h
    split at h
    · rename_i hc
      have h1 := h0 c l rfl
      simp only [isDg, Bool.and_eq_true, decide_eq_true_eq] at hc
      have h2 : c.toNat ≠ 48 := fun e => h1 (UInt8.toNat_inj.1 e)
      rw [rdD, if_pos (by simp [isDg]; omega)]
      have := rdD_ge 2 l (10 * 0 + (c.toNat - 48)) 1 (by omega) (by omega)
      omega
    · omega
/-- A place that has more than two digits is none. -/
theorem rdP_far {l : List UInt8} (h : 2 < dgN (l.drop (flN l))) : rdP l = none := by
  have h1 : 99 < (rdD 3 (rdF l false false).1 0).2 := by
    rw [rdF_eq]; exact rdD_far h (fun c r e => flN_head l c r e)
  unfold rdP
  split
  · rfl
  · rw [if_neg (by omega)]
end Go.Proofs.Ytcnmcfalobekmaa.kit
