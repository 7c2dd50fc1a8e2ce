/-
  Plain facts: a quoted text is read as what was quoted; what is read as a quote is one; digits are read back. Of no program. Conditions: each theorem names its own.
-/
import Derived.Test.YtebeoijoljlhiaaGreatDoorMUn5
import Derived.Test.YtebeoijoljlhiaaGreatDoorMRd
namespace Go.Proofs.YtebeoijoljlhiaaGreatDoor.kit
set_option linter.unusedVariables false

theorem qb_head (b : UInt8) (Y : List UInt8) : (qb b ++ Y).head? ≠ some 34 := by
  unfold qb
  repeat' split
  all_goals simp
  intro e; subst e; simp_all
theorem scanS_quote (q : List UInt8) (R : List UInt8) (n : Nat) (hn : q.length < n) : scanS n (q.flatMap qb ++ 34 :: R) = some (q, (q.flatMap qb).length + 1) := by
  induction q generalizing n with
  | nil =>
    obtain ⟨m, rfl⟩ : ∃ m, n = m + 1 := ⟨n - 1, by simp at hn; omega⟩
    simp [scanS]
  | cons b q ih =>
    obtain ⟨m, rfl⟩ : ∃ m, n = m + 1 := ⟨n - 1, by simp at hn; omega⟩
    rw [List.flatMap_cons, List.append_assoc, scanS, if_neg (qb_head b _), rd_qb]
    simp only [List.take_left, if_true, List.drop_left]
    rw [ih m (by simp at hn; omega)]
    simp
    omega
theorem scanS_sound (n : Nat) (l o : List UInt8) (m : Nat) (h : scanS n l = some (o, m)) : o.flatMap qb ++ [34] = l.take m := by
  rw [strict_eq] at h
  cases hs : scan n l with
  | none => rw [hs] at h; cases h
  | some x =>
    rw [hs] at h
    simp only [Option.bind_some] at h
    split at h
    · rename_i e
      cases h
      exact e
    · cases h
theorem scanS_le (n : Nat) : ∀ (l o : List UInt8) (m : Nat), scanS n l = some (o, m) → m ≤ l.length := by
  induction n with
  | zero => intro l o m h; simp [scanS] at h
  | succ n ih =>
    intro l o m h
    rw [scanS] at h
    by_cases h34 : l.head? = some 34
    · rw [if_pos h34] at h
      cases l with
      | nil => simp at h34
      | cons c r => simp at h; simp; omega
    · rw [if_neg h34] at h
      cases hr : rd l with
      | none => rw [hr] at h; cases h
      | some x =>
        obtain ⟨b, k⟩ := x
        rw [hr] at h
        have hp := rd_pos hr
        simp only at h
        by_cases hq : qb b = l.take k
        · rw [if_pos hq] at h
          cases hs : scanS n (l.drop k) with
          | none => rw [hs] at h; cases h
          | some y =>
            obtain ⟨o', m'⟩ := y
            rw [hs] at h
            simp only [Option.map_some, Option.some.injEq, Prod.mk.injEq] at h
            have := ih _ _ _ hs
            rw [List.length_drop] at this
            omega
        · rw [if_neg hq] at h; cases h
theorem qb_pos (b : UInt8) : 1 ≤ (qb b).length := by
  unfold qb
  repeat' split
  all_goals simp
theorem flat_ge (q : List UInt8) : q.length ≤ (q.flatMap qb).length := by
  induction q with
  | nil => exact Nat.le_refl _
  | cons b q ih =>
    have := qb_pos b
    rw [List.flatMap_cons, List.length_append, List.length_cons]
    omega
/-- What was quoted comes back, and the whole text is read. -/
theorem unq_quote (q : List UInt8) : unq ⟨(qbs q ++ [34]).toArray⟩ 0 = some (q, (qbs q ++ [34]).length) := by
  have hsz : (ByteArray.mk (qbs q ++ [34]).toArray).size = (qbs q ++ [34]).length := by simp [ByteArray.size]
  have hL : (qbs q ++ [34]).length = (q.flatMap qb).length + 2 := by rw [qbs, List.length_append, List.length_cons, List.length_singleton]
  have hlen := flat_ge q
  unfold unq
  rw [if_pos ⟨Int.le_refl _, by omega, by simp [at_, qbs]⟩]
  have hd : List.drop ((0 : Int).toNat + 1) (ByteArray.mk (qbs q ++ [34]).toArray).data.toList = q.flatMap qb ++ 34 :: [] := by simp [qbs]
  rw [hd, scanS_quote q [] _ (by omega), hL]
  show some (q, 0 + 1 + ((q.flatMap qb).length + 1)) = some (q, (q.flatMap qb).length + 2)
  congr 2
  omega
/-- What is read as a quote is one. -/
theorem unq_sound (s : ByteArray) (i : Int) (o : List UInt8) (m : Nat) (h : unq s i = some (o, m)) : 0 ≤ i ∧ i ≤ (m : Int) ∧ m ≤ s.size ∧ (s.extract i.toNat m).data.toList = qbs o ++ [34] := by
  unfold unq at h
  by_cases hc : 0 ≤ i ∧ i < s.size ∧ (at_ s i.toNat).toNat = 34
  · rw [if_pos hc] at h
    obtain ⟨h0, h1, h2⟩ := hc
    obtain ⟨k, rfl⟩ : ∃ k : Nat, i = (k : Int) := ⟨i.toNat, by omega⟩
    rw [Int.toNat_natCast] at h h2 ⊢
    cases hs : scanS s.size (s.data.toList.drop (k + 1)) with
    | none => rw [hs] at h; cases h
    | some x =>
      obtain ⟨o', m'⟩ := x
      rw [hs] at h
      simp only [Option.map_some, Option.some.injEq, Prod.mk.injEq] at h
      obtain ⟨rfl, rfl⟩ := h
      have hq := scanS_sound _ _ _ _ hs
      have hl := congrArg List.length hq
      have hkl : k < s.data.toList.length := by simpa using (show k < s.size by omega)
      have hm : m' ≤ s.size - (k + 1) := by
        have := scanS_le _ _ _ _ hs
        simpa using this
      refine ⟨h0, by omega, by omega, ?_⟩
      have e : (s.extract k (k + 1 + m')).data.toList = (s.data.toList.drop k).take (m' + 1) := by
        simp only [ByteArray.data_extract, Array.toList_extract, List.extract]
        congr 1
        omega
      rw [e, List.drop_eq_getElem_cons hkl, List.take_succ_cons, ← hq]
      have e2 : s.data.toList[k] = 34 := by
        have : (at_ s k) = s.data.toList[k] := by rw [at_, List.getD_eq_getElem?_getD, List.getElem?_eq_getElem hkl]; rfl
        rw [← this]
        exact UInt8.toNat_inj.1 (by simpa using h2)
      rw [e2]; rfl
  · rw [if_neg hc] at h; cases h
end Go.Proofs.YtebeoijoljlhiaaGreatDoor.kit
