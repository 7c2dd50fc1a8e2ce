/-
  Plain facts on quoted texts, of no program: how one byte is read inside quotes, how a whole text is read, and that reading it byte by byte with a check at each gives what reading it all and checking at the end gives. Conditions: each theorem names its own.
-/
import Derived.Test.YtalobgebdpaecaaDoorQb
namespace Go.Proofs.YtalobgebdpaecaaDoor.kit
set_option linter.unusedVariables false

def octB (c : UInt8) : Bool := decide (48 ≤ c.toNat ∧ c.toNat ≤ 55)
def octN (a b c : UInt8) : Nat := (a.toNat - 48) * 64 + (b.toNat - 48) * 8 + (c.toNat - 48)
def oct3 (a b c : UInt8) : Option UInt8 := if octB a && octB b && octB c && decide (octN a b c ≤ 255) then some (UInt8.ofNat (octN a b c)) else none
/-- The byte that is told first, and by how many bytes. -/
def rd : List UInt8 → Option (UInt8 × Nat)
  | [] => none
  | c :: r => if c = 92 then
      match r with
      | [] => none
      | d :: r2 => if d = 34 ∨ d = 92 then some (d, 2) else if d = 110 then some (10, 2) else if d = 116 then some (9, 2) else
        match r2 with
        | e :: f :: _ => (oct3 d e f).map fun b => (b, 4)
        | _ => none
    else some (c, 1)
def scan : Nat → List UInt8 → Option (List UInt8 × Nat)
  | 0, _ => none
  | n + 1, l => if l.head? = some 34 then some ([], 1) else
    match rd l with
    | none => none
    | some (b, k) => (scan n (l.drop k)).map fun x => (b :: x.1, k + x.2)
def scanS : Nat → List UInt8 → Option (List UInt8 × Nat)
  | 0, _ => none
  | n + 1, l => if l.head? = some 34 then some ([], 1) else
    match rd l with
    | none => none
    | some (b, k) => if qb b = l.take k then (scanS n (l.drop k)).map fun x => (b :: x.1, k + x.2) else none
theorem oct_fin : ∀ i : Fin 256, oct3 (48 + UInt8.ofNat i.val / 64) (48 + UInt8.ofNat i.val / 8 % 8) (48 + UInt8.ofNat i.val % 8) = some (UInt8.ofNat i.val) := by decide +kernel
theorem lead_fin : ∀ i : Fin 256, (48 + UInt8.ofNat i.val / 64 : UInt8) ≠ 34 ∧ (48 + UInt8.ofNat i.val / 64 : UInt8) ≠ 92 ∧ (48 + UInt8.ofNat i.val / 64 : UInt8) ≠ 110 ∧ (48 + UInt8.ofNat i.val / 64 : UInt8) ≠ 116 := by decide +kernel
theorem byte_fin (b : UInt8) : ∃ i : Fin 256, b = UInt8.ofNat i.val := ⟨⟨b.toNat, b.toNat_lt⟩, by simp⟩
theorem rd_qb (b : UInt8) (Y : List UInt8) : rd (qb b ++ Y) = some (b, (qb b).length) := by
  by_cases h1 : b.toNat = 34 ∨ b.toNat = 92
  · rw [qb1 h1]
    have e : b = 34 ∨ b = 92 := by simpa [← UInt8.toNat_inj] using h1
    simp [rd, e]
  by_cases h2 : b.toNat = 10
  · rw [qb2 h2]
    obtain rfl : b = 10 := by simpa [← UInt8.toNat_inj] using h2
    simp [rd]
  by_cases h3 : b.toNat = 9
  · rw [qb3 h3]
    obtain rfl : b = 9 := by simpa [← UInt8.toNat_inj] using h3
    simp [rd]
  by_cases h4 : b.toNat < 32 ∨ 127 ≤ b.toNat
  · rw [qb4 (by omega) (by omega) h2 h3 h4]
    obtain ⟨i, rfl⟩ := byte_fin b
    have ho := oct_fin i
    obtain ⟨l1, l2, l3, l4⟩ := lead_fin i
    generalize UInt8.ofNat i.val = c at *
    simp only [rd, List.cons_append, List.nil_append, if_true, l1, l2, l3, l4, or_self, if_false, ho, Option.map_some, List.length_cons, List.length_nil]
  · rw [qb5 (by omega) (by omega) h2 h3 h4]
    have e : b ≠ 92 := by intro e; subst e; simp at h1
    simp [rd, e]
theorem rd_pos {l : List UInt8} {b : UInt8} {k : Nat} (h : rd l = some (b, k)) : 1 ≤ k ∧ k ≤ 4 ∧ k ≤ l.length := by
  cases l with
  | nil => simp [rd] at h
  | cons c r =>
    simp only [rd] at h
    split at h
    · cases r with
      | nil => simp at h
      | cons d r2 =>
        simp only at h
        split at h
        · simp at h; obtain ⟨_, rfl⟩ := h; simp
        · split at h
          · simp at h; obtain ⟨_, rfl⟩ := h; simp
          · split at h
            · simp at h; obtain ⟨_, rfl⟩ := h; simp
            · match r2, h with
              | [], h => simp at h
              | [_], h => simp at h
              | e :: f :: r3, h =>
                simp at h
                obtain ⟨_, _, _, rfl⟩ := h
                simp
    · simp at h; obtain ⟨_, rfl⟩ := h; simp
theorem strict_eq (n : Nat) : ∀ l : List UInt8, scanS n l = (scan n l).bind fun x => if x.1.flatMap qb ++ [34] = l.take x.2 then some x else none := by
  induction n with
  | zero => intro l; rfl
  | succ n ih =>
    intro l
    simp only [scanS, scan]
    by_cases h34 : l.head? = some 34
    · rw [if_pos h34, if_pos h34]
      cases l with
      | nil => simp at h34
      | cons c r => simp at h34; subst h34; simp
    · rw [if_neg h34, if_neg h34]
      cases hr : rd l with
      | none => rfl
      | some x =>
        obtain ⟨b, k⟩ := x
        have hp := rd_pos hr
        simp only
        by_cases hq : qb b = l.take k
        · rw [if_pos hq, ih]
          cases hs : scan n (l.drop k) with
          | none => rfl
          | some y =>
            obtain ⟨o, m⟩ := y
            have e : ((b :: o).flatMap qb ++ [34] = l.take (k + m)) ↔ (o.flatMap qb ++ [34] = (l.drop k).take m) := by
              rw [List.take_add, List.flatMap_cons, List.append_assoc, hq]
              exact List.append_cancel_left_eq _ _ _ |>.to_iff
            simp only [Option.bind_some, Option.map_some]
            by_cases h : o.flatMap qb ++ [34] = (l.drop k).take m
            · rw [if_pos h, if_pos (e.2 h)]; rfl
            · rw [if_neg h, if_neg (fun g => h (e.1 g))]; rfl
        · rw [if_neg hq]
          cases hs : scan n (l.drop k) with
          | none => rfl
          | some y =>
            obtain ⟨o, m⟩ := y
            simp only [Option.bind_some, Option.map_some]
            rw [if_neg]
            intro g
            apply hq
            rw [List.flatMap_cons, List.append_assoc] at g
            have hl : l = qb b ++ ((o.flatMap qb ++ [34]) ++ l.drop (k + m)) := by
              rw [← List.append_assoc, g, List.take_append_drop]
            have h2 := rd_qb b ((o.flatMap qb ++ [34]) ++ l.drop (k + m))
            rw [← hl, hr] at h2
            simp at h2
            rw [h2]
            conv => rhs; rw [hl]
            simp
end Go.Proofs.YtalobgebdpaecaaDoor.kit
