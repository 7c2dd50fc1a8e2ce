/-
  Plain facts, of no program: how long the words of a text and their texts are. Conditions: each theorem names its own.
-/
import Derived.Test.YtebeoijoljlhiaaGreatDoorMLr0
import Derived.Test.YtebeoijoljlhiaaGreatDoorMFm0
namespace Go.Proofs.YtebeoijoljlhiaaGreatDoor.kit
open Go.ChangeShapes Go.WideShapes Go.ChangeAt Go.RowKit
set_option linter.unusedVariables false

theorem scanS_len (n : Nat) (l o : List UInt8) (m : Nat) (h : scanS n l = some (o, m)) : o.length ≤ m := by
  have h1 := scanS_sound n l o m h
  have h2 := flat_ge o
  have h3 := congrArg List.length h1
  rw [List.length_append, List.length_take] at h3
  omega
theorem unq_len {s : ByteArray} {i : Nat} {l : List UInt8} {n : Nat} (h : unq s (i : Int) = some (l, n)) : i + l.length ≤ n := by
  unfold unq at h
  split at h
  · simp only [Int.toNat_natCast] at h
    cases hs : scanS s.size (s.data.toList.drop (i + 1)) with
    | none => rw [hs] at h; cases h
    | some x =>
      rw [hs] at h
      cases h
      have h1 := scanS_len _ _ _ _ hs
      omega
  · cases h
theorem ext_le (s : ByteArray) (a b : Nat) (h : a ≤ b) : a + (s.extract a b).size ≤ b := by rw [ByteArray.size_extract]; omega
theorem wd_text {s : ByteArray} {i k : Nat} {div : Bool} {t : Tok} (hi : i < s.size) (h : wd s i div = some (t, k)) : i + t.s.size ≤ k := by
  have hb := (wd_bounds hi h).1
  rw [wd_in hi] at h
  unfold wdc at h
  by_cases c1 : s[i] = 59 ∨ s[i] = 10
  · rw [if_pos c1] at h; cases h; exact Nat.le_of_lt hb
  · rw [if_neg c1] at h
    by_cases c2 : letB s[i].toNat = true
    · rw [if_pos c2] at h
      by_cases d1 : keyB (s.extract i (runEnd signB s i)).toList = true
      · rw [if_pos d1] at h; cases h; exact ext_le _ _ _ (Nat.le_of_lt hb)
      · rw [if_neg d1] at h
        by_cases d2 : nameB (s.extract i (runEnd signB s i)) = true
        · rw [if_pos d2] at h; cases h; exact ext_le _ _ _ (Nat.le_of_lt hb)
        · rw [if_neg d2] at h; cases h
    · rw [if_neg c2] at h
      by_cases c3 : digB s[i].toNat = true
      · rw [if_pos c3] at h
        by_cases d1 : rnPlace (s.extract i (numEnd s i)) = 0
        · rw [if_pos d1] at h; cases h
        · rw [if_neg d1] at h; cases h; exact Nat.le_of_lt hb
      · rw [if_neg c3] at h
        by_cases c4 : s[i] = 34
        · rw [if_pos c4] at h
          cases hu : unq s (i : Int) with
          | none => rw [hu] at h; cases h
          | some x =>
            rw [hu] at h
            cases h
            have := unq_len (l := x.1) (n := x.2) hu
            show i + x.1.toArray.size ≤ x.2
            rw [List.size_toArray]; exact this
        · rw [if_neg c4] at h
          by_cases c5 : s[i] = 47 ∧ div = false
          · rw [if_pos c5] at h
            cases hk : stroke s (i + 1) (i + 1) with
            | none => rw [hk] at h; cases h
            | some m =>
              rw [hk] at h; cases h
              have h1 := (stroke_le s (i + 1) _ (i + 1) rfl m hk).1
              have h2 := ext_le s (i + 1) m h1
              show i + (s.extract (i + 1) m).size ≤ m + 1
              omega
          · rw [if_neg c5] at h
            by_cases c6 : sgn (s.data.toList.drop i) = []
            · rw [if_pos c6] at h; cases h
            · rw [if_neg c6] at h
              cases h
              show i + (sgn (s.data.toList.drop i)).toArray.size ≤ i + (sgn (s.data.toList.drop i)).length
              rw [List.size_toArray]; exact Nat.le_refl _
/-- How long the words' texts are together. -/
def sumS : List Tok → Nat
  | [] => 0
  | t :: ts => t.s.size + sumS ts
theorem sumS_snoc (ts : List Tok) (t : Tok) : sumS (ts ++ [t]) = sumS ts + t.s.size := by
  induction ts with
  | nil => simp [sumS]
  | cons a r ih => simp only [List.cons_append, sumS, ih]; omega
theorem sumS_mem (ts : List Tok) : ∀ t ∈ ts, t.s.size ≤ sumS ts := by
  induction ts with
  | nil => intro t h; cases h
  | cons a r ih =>
    intro t h
    simp only [sumS]
    rcases List.mem_cons.1 h with rfl | h
    · omega
    · have := ih t h; omega
theorem lx_text (s : ByteArray) : ∀ (f i : Nat) (line : Int) (acc : List Tok), i ≤ s.size → sumS acc ≤ i → sumS (lx s f i line acc).1 ≤ s.size := by
  intro f
  induction f with
  | zero => intro i line acc hi ha; exact Nat.le_trans ha hi
  | succ f ih =>
    intro i line acc hi ha
    have hsk := (skip_le s i hi).1
    by_cases h : skipB s i < s.size
    · cases hw : wd s (skipB s i) (divs acc) with
      | none => rw [lx_none h (by omega) hw]; exact Nat.zero_le _
      | some x =>
        have hp := wd_pair h hw
        have ht := wd_text h (t := x.1) (k := x.2) hw
        rw [lx_some h (by omega) hw]
        refine ih _ _ _ hp.2 ?_
        rw [sumS_snoc]
        show sumS acc + x.1.s.size ≤ x.2
        omega
    · rw [lx_end (by omega) (by omega)]; exact Nat.le_trans ha hi
theorem lexB_sum (s : ByteArray) : sumS (lexB s).1 ≤ 4000 := by
  by_cases hb : 4000 < s.size
  · rw [lexB, if_pos hb]; exact Nat.zero_le _
  · rw [lexB, if_neg hb]
    have := lx_text s (s.size + 1) 0 1 [] (by omega) (Nat.le_refl _)
    omega
theorem lexB_text (s : ByteArray) : ∀ t ∈ (lexB s).1, t.s.size ≤ 4000 := fun t h => Nat.le_trans (sumS_mem _ t h) (lexB_sum s)
theorem flat_le (x : List UInt8) : (x.flatMap qb).length ≤ 4 * x.length := by
  induction x with
  | nil => simp
  | cons a r ih =>
    have := qb_len a
    simp only [List.flatMap_cons, List.length_append, List.length_cons]
    omega
theorem ttx_le (t : Tok) : (ttx t).size ≤ 4 * t.s.size + 40 := by
  unfold ttx
  split
  · have := ntA_le t.n; omega
  · split
    · show (qbs t.s.data.toList ++ [34]).toArray.size ≤ _
      have h1 := flat_le t.s.data.toList
      have h2 : t.s.data.toList.length = t.s.size := by simp
      rw [List.size_toArray, List.length_append, qbs, List.length_cons, List.length_singleton]; omega
    · split
      · rw [ByteArray.size_append, ByteArray.size_append]; show 1 + t.s.size + 1 ≤ _; omega
      · split
        · show 1 ≤ _; omega
        · omega
theorem TX_len (ts : List Tok) : (TX ts).length ≤ 4 * sumS ts + 41 * ts.length := by
  induction ts with
  | nil => simp [TX]
  | cons t r ih =>
    have h1 := ttx_le t
    have h4 : (ttx t).data.toList.length = (ttx t).size := by simp
    rw [TX_cons, List.length_append, List.length_cons, List.length_cons, sumS]
    omega
theorem TX_take_le (ts : List Tok) (k : Nat) : (TX (ts.take k)).length ≤ (TX ts).length := by
  have h := TX_append (ts.take k) (ts.drop k)
  rw [List.take_append_drop] at h
  rw [h]; simp
theorem TX_snoc (ts : List Tok) (k : Nat) (h : k < ts.length) : TX (ts.take (k + 1)) = TX (ts.take k) ++ ((ttx (ts.getD k default)).data.toList ++ [32]) := by
  have : ts.take (k + 1) = ts.take k ++ [ts.getD k default] := by rw [List.take_add_one, List.getD_eq_getElem?_getD, List.getElem?_eq_getElem h]; rfl
  rw [this, TX_append]; simp [TX]
end Go.Proofs.YtebeoijoljlhiaaGreatDoor.kit
