/-
  Plain facts on the word that begins at a place of a text, of no program: over what is left of the text it is the same. Conditions: each theorem names its own.
-/
import Derived.Test.YtalobgebdpaecaaDoorLx3
namespace Go.Proofs.YtalobgebdpaecaaDoor.kit
open Go.ChangeShapes Go.WideShapes Go.ChangeAt Go.RowKit
set_option linter.unusedVariables false

/-- The word that begins at place i with byte c, and the place behind it. -/
noncomputable def wdc (s : ByteArray) (i : Nat) (c : UInt8) (div : Bool) : Option (Tok × Nat) :=
  if c = 59 ∨ c = 10 then some (⟨6, ⟨#[]⟩, 0, 0⟩, i + 1)
  else if letB c.toNat = true then
    (if keyB (s.extract i (runEnd signB s i)).toList = true then some (⟨4, s.extract i (runEnd signB s i), 0, 0⟩, runEnd signB s i)
     else if nameB (s.extract i (runEnd signB s i)) = true then some (⟨3, s.extract i (runEnd signB s i), 0, 0⟩, runEnd signB s i) else none)
  else if digB c.toNat = true then
    (if rnPlace (s.extract i (numEnd s i)) = 0 then none else some (⟨0, ⟨#[]⟩, rnNum (s.extract i (numEnd s i)), 0⟩, numEnd s i))
  else if c = 34 then (unq s i).map fun x => (⟨1, ⟨x.1.toArray⟩, 0, 0⟩, x.2)
  else if c = 47 ∧ div = false then (stroke s (i + 1) (i + 1)).map fun k => (⟨2, s.extract (i + 1) k, 0, 0⟩, k + 1)
  else if sgn (s.data.toList.drop i) = [] then none else some (⟨5, ⟨(sgn (s.data.toList.drop i)).toArray⟩, 0, 0⟩, i + (sgn (s.data.toList.drop i)).length)
noncomputable def wd (s : ByteArray) (i : Nat) (div : Bool) : Option (Tok × Nat) := if h : i < s.size then wdc s i s[i] div else none
theorem wd_in {s : ByteArray} {i : Nat} {div : Bool} (h : i < s.size) : wd s i div = wdc s i s[i] div := dif_pos h
theorem wdc_end {s : ByteArray} {i : Nat} {c : UInt8} {div : Bool} (h : c = 59 ∨ c = 10) : wdc s i c div = some (⟨6, ⟨#[]⟩, 0, 0⟩, i + 1) := if_pos h
theorem wdc_name {s : ByteArray} {i : Nat} {c : UInt8} {div : Bool} (h : ¬ (c = 59 ∨ c = 10)) (h1 : letB c.toNat = true) : wdc s i c div = (if keyB (s.extract i (runEnd signB s i)).toList = true then some (⟨4, s.extract i (runEnd signB s i), 0, 0⟩, runEnd signB s i)
     else if nameB (s.extract i (runEnd signB s i)) = true then some (⟨3, s.extract i (runEnd signB s i), 0, 0⟩, runEnd signB s i) else none) := by rw [wdc, if_neg h, if_pos h1]
theorem wdc_num {s : ByteArray} {i : Nat} {c : UInt8} {div : Bool} (h : ¬ (c = 59 ∨ c = 10)) (h1 : letB c.toNat = false) (h2 : digB c.toNat = true) : wdc s i c div =
    (if rnPlace (s.extract i (numEnd s i)) = 0 then none else some (⟨0, ⟨#[]⟩, rnNum (s.extract i (numEnd s i)), 0⟩, numEnd s i)) := by rw [wdc, if_neg h, if_neg (by rw [h1]; decide), if_pos h2]
theorem wdc_str {s : ByteArray} {i : Nat} {c : UInt8} {div : Bool} (h : ¬ (c = 59 ∨ c = 10)) (h1 : letB c.toNat = false) (h2 : digB c.toNat = false) (h3 : c = 34) : wdc s i c div = (unq s i).map fun x => (⟨1, ⟨x.1.toArray⟩, 0, 0⟩, x.2) := by
  rw [wdc, if_neg h, if_neg (by rw [h1]; decide), if_neg (by rw [h2]; decide), if_pos h3]
theorem wdc_re {s : ByteArray} {i : Nat} {c : UInt8} {div : Bool} (h : ¬ (c = 59 ∨ c = 10)) (h1 : letB c.toNat = false) (h2 : digB c.toNat = false) (h3 : c ≠ 34) (h4 : c = 47 ∧ div = false) : wdc s i c div = (stroke s (i + 1) (i + 1)).map fun k => (⟨2, s.extract (i + 1) k, 0, 0⟩, k + 1) := by
  rw [wdc, if_neg h, if_neg (by rw [h1]; decide), if_neg (by rw [h2]; decide), if_neg h3, if_pos h4]
theorem wdc_sign {s : ByteArray} {i : Nat} {c : UInt8} {div : Bool} (h : ¬ (c = 59 ∨ c = 10)) (h1 : letB c.toNat = false) (h2 : digB c.toNat = false) (h3 : c ≠ 34) (h4 : ¬ (c = 47 ∧ div = false)) :
    wdc s i c div = if sgn (s.data.toList.drop i) = [] then none else some (⟨5, ⟨(sgn (s.data.toList.drop i)).toArray⟩, 0, 0⟩, i + (sgn (s.data.toList.drop i)).length) := by
  rw [wdc, if_neg h, if_neg (by rw [h1]; decide), if_neg (by rw [h2]; decide), if_neg h3, if_neg h4]
theorem wdc_suf (s : ByteArray) (i : Nat) (c : UInt8) (div : Bool) (hi : i < s.size) : (wdc (sufB s i) 0 c div).map (fun x => (x.1, i + x.2)) = wdc s i c div := by
  have hle : i ≤ s.size := by omega
  have e1 := runEnd_suf signB s i 0 (by omega)
  rw [Nat.add_zero] at e1
  have l1 := runEnd_le signB s i hle
  have x1 : (sufB s i).extract 0 (runEnd signB (sufB s i) 0) = s.extract i (runEnd signB s i) := by rw [suf_extract _ _ _ _ (by omega), e1]; rfl
  have e2 := numEnd_suf s i hle
  have l2 := numEnd_le s i hle
  have x2 : (sufB s i).extract 0 (numEnd (sufB s i) 0) = s.extract i (numEnd s i) := by rw [suf_extract _ _ _ _ (by omega), e2]; rfl
  have e3 := unq_suf s i hi
  have e4 := stroke_suf s i 1 _ 1 rfl hle (Nat.le_refl _)
  have e5 := suf_drop s i 0
  rw [Nat.add_zero] at e5
  unfold wdc
  rw [x1, x2, e5, Nat.zero_add]
  by_cases c1 : c = 59 ∨ c = 10
  · rw [if_pos c1, if_pos c1]; rfl
  · rw [if_neg c1, if_neg c1]
    by_cases c2 : letB c.toNat = true
    · rw [if_pos c2, if_pos c2]
      by_cases d1 : keyB (s.extract i (runEnd signB s i)).toList = true
      · rw [if_pos d1, if_pos d1]; simp [e1]
      · rw [if_neg d1, if_neg d1]
        by_cases d2 : nameB (s.extract i (runEnd signB s i)) = true
        · rw [if_pos d2, if_pos d2]; simp [e1]
        · rw [if_neg d2, if_neg d2]; rfl
    · rw [if_neg c2, if_neg c2]
      by_cases c3 : digB c.toNat = true
      · rw [if_pos c3, if_pos c3]
        by_cases d1 : rnPlace (s.extract i (numEnd s i)) = 0
        · rw [if_pos d1, if_pos d1]; rfl
        · rw [if_neg d1, if_neg d1]; simp [e2]
      · rw [if_neg c3, if_neg c3]
        by_cases c4 : c = 34
        · rw [if_pos c4, if_pos c4, ← e3]
          show Option.map _ (Option.map _ (unq (sufB s i) ((0 : Nat) : Int))) = _
          cases unq (sufB s i) 0 <;> rfl
        · rw [if_neg c4, if_neg c4]
          by_cases c5 : c = 47 ∧ div = false
          · rw [if_pos c5, if_pos c5, ← e4]
            cases hk : stroke (sufB s i) 1 1 with
            | none => rfl
            | some k =>
              have hb := stroke_le (sufB s i) 1 _ 1 rfl k hk
              have hz := suf_size hle
              simp only [Option.map_some]
              rw [suf_extract _ _ _ _ (by omega)]
              rfl
          · rw [if_neg c5, if_neg c5]
            by_cases c6 : sgn (s.data.toList.drop i) = []
            · rw [if_pos c6, if_pos c6]; rfl
            · rw [if_neg c6, if_neg c6]; simp
theorem wd_suf (s : ByteArray) (i : Nat) (div : Bool) (hi : i < s.size) : (wd (sufB s i) 0 div).map (fun x => (x.1, i + x.2)) = wd s i div := by
  have hz := suf_size (s := s) (i := i) (by omega)
  rw [wd_in hi, wd_in (by omega), suf_get s i 0 (by omega) (by omega)]
  exact wdc_suf s i _ div hi
theorem wd_bounds {s : ByteArray} {i k : Nat} {div : Bool} {t : Tok} (hi : i < s.size) (h : wd s i div = some (t, k)) : i < k ∧ k ≤ s.size := by
  rw [wd_in hi] at h
  have hle : i ≤ s.size := by omega
  have l1 := runEnd_le signB s i hle
  have l2 := numEnd_le s i hle
  unfold wdc at h
  by_cases c1 : s[i] = 59 ∨ s[i] = 10
  · rw [if_pos c1] at h; cases h; omega
  · rw [if_neg c1] at h
    by_cases c2 : letB s[i].toNat = true
    · rw [if_pos c2] at h
      have hg : i < runEnd signB s i := runEnd_gt hi (by simp [signB, c2])
      by_cases d1 : keyB (s.extract i (runEnd signB s i)).toList = true
      · rw [if_pos d1] at h; cases h; omega
      · rw [if_neg d1] at h
        by_cases d2 : nameB (s.extract i (runEnd signB s i)) = true
        · rw [if_pos d2] at h; cases h; omega
        · rw [if_neg d2] at h; cases h
    · rw [if_neg c2] at h
      by_cases c3 : digB s[i].toNat = true
      · rw [if_pos c3] at h
        have hg : i < runEnd digB s i := runEnd_gt hi c3
        by_cases d1 : rnPlace (s.extract i (numEnd s i)) = 0
        · rw [if_pos d1] at h; cases h
        · rw [if_neg d1] at h; cases h; omega
      · rw [if_neg c3] at h
        by_cases c4 : s[i] = 34
        · rw [if_pos c4] at h
          cases hu : unq s (i : Int) with
          | none => rw [hu] at h; cases h
          | some x =>
            rw [hu] at h
            cases h
            exact unq_bounds hu
        · rw [if_neg c4] at h
          by_cases c5 : s[i] = 47 ∧ div = false
          · rw [if_pos c5] at h
            cases hk : stroke s (i + 1) (i + 1) with
            | none => rw [hk] at h; cases h
            | some k =>
              rw [hk] at h
              cases h
              have := stroke_le s (i + 1) _ (i + 1) rfl k hk
              omega
          · rw [if_neg c5] at h
            by_cases c6 : sgn (s.data.toList.drop i) = []
            · rw [if_pos c6] at h; cases h
            · rw [if_neg c6] at h
              cases h
              have h1 := sgn_len (s.data.toList.drop i)
              have h2 : (sgn (s.data.toList.drop i)).length ≠ 0 := fun e => c6 (List.length_eq_zero_iff.1 e)
              simp at h1; omega
/-- What a reader of one word answers: z where there is none. -/
def WPost (z : Int) (o : Option (Tok × Nat)) (w : World) (e : Ending) (w' : World) : Prop :=
  ∃ (t : Tok) (n : Int), e = .returned (.tuple #[t.v, .int .i64 n]) ∧ (o = none ∧ n = z ∨ ∃ x, o = some x ∧ t = x.1 ∧ n = (x.2 : Int)) ∧ Below w.heap.size w w'
end Go.Proofs.YtalobgebdpaecaaDoor.kit
