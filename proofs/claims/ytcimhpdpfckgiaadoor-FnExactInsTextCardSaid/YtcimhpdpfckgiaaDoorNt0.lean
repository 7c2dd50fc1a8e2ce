/-
  Plain facts on the noughts at a text's end, and the last six digits of a number from a million on. Of no program. Conditions: each theorem names its own.
-/
import Derived.Test.YtcimhpdpfckgiaaDoorKit
import Derived.Lib.ItoaNum
namespace Go.Proofs.YtcimhpdpfckgiaaDoor.kit
set_option linter.unusedVariables false

/-- A text without the noughts at its end. -/
def cutZ (t : ByteArray) : ByteArray :=
  if h : 0 < t.size then (if t[t.size - 1] = 48 then cutZ (t.extract 0 (t.size - 1)) else t) else t
  termination_by t.size
  decreasing_by rw [ByteArray.size_extract]; omega
theorem cutZ_in {t : ByteArray} (h : 0 < t.size) (e : t[t.size - 1] = 48) : cutZ t = cutZ (t.extract 0 (t.size - 1)) := by
  rw [cutZ, dif_pos h, if_pos e]
theorem cutZ_out {t : ByteArray} (h : 0 < t.size) (e : ¬ t[t.size - 1] = 48) : cutZ t = t := by
  rw [cutZ, dif_pos h, if_neg e]
theorem cutZ_none {t : ByteArray} (h : t.size = 0) : cutZ t = t := by
  rw [cutZ, dif_neg (by omega)]
theorem cutZ_all (n : Nat) (t : ByteArray) (hn : t.size = n) (h : (cutZ t).size = 0) : ∀ (j : Nat) (hj : j < t.size), t[j] = 48 := by
  induction n generalizing t with
  | zero => intro j hj; omega
  | succ n ih =>
    by_cases e : t[t.size - 1]'(by omega) = 48
    · rw [cutZ_in (by omega) e] at h
      have h1 := ih (t.extract 0 (t.size - 1)) (by rw [ByteArray.size_extract]; omega) h
      intro j hj
      by_cases hl : j = t.size - 1
      · subst hl; exact e
      · have h2 := h1 j (by rw [ByteArray.size_extract]; omega)
        rw [ByteArray.getElem_extract] at h2
        simpa using h2
    · rw [cutZ_out (by omega) e] at h; omega
theorem cutZ_le (n : Nat) (t : ByteArray) (hn : t.size = n) : (cutZ t).size ≤ n := by
  induction n generalizing t with
  | zero => rw [cutZ_none hn]; omega
  | succ n ih =>
    by_cases e : t[t.size - 1]'(by omega) = 48
    · rw [cutZ_in (by omega) e]
      have := ih (t.extract 0 (t.size - 1)) (by rw [ByteArray.size_extract]; omega)
      omega
    · rw [cutZ_out (by omega) e]; omega
/-- The text of a million and m, and its last six digits. -/
def milT (m : Nat) : ByteArray := ⟨(Lib.itoa (1000000 + (m : Int))).toArray⟩
def sixT (m : Nat) : ByteArray := (milT m).extract 1 (milT m).size
theorem milT_dec (m : Nat) : milT m = ⟨(Lib.decDigits (1000000 + m)).toArray⟩ := by
  unfold milT Lib.itoa
  rw [if_neg (by omega), show (1000000 + (m : Int)).toNat = 1000000 + m by omega]
theorem milT_size (m : Nat) (h : m < 1000000) : (milT m).size = 7 := by
  rw [milT_dec]
  show (Lib.decDigits (1000000 + m)).toArray.size = 7
  rw [List.size_toArray, Lib.decDigits_length, Lib.nDigits_unique 6 _ (by omega) (by omega)]
theorem sixT_size (m : Nat) (h : m < 1000000) : (sixT m).size = 6 := by
  unfold sixT; rw [ByteArray.size_extract, milT_size m h]
  rfl
theorem sixT_at (m : Nat) (h : m < 1000000) (j : Nat) (hj : j < 6) : (sixT m)[j]'(by rw [sixT_size m h]; exact hj) = Lib.dg (1000000 + m) (5 - j) := by
  have e : (sixT m)[j]'(by rw [sixT_size m h]; exact hj) = (milT m)[1 + j]'(by rw [milT_size m h]; omega) := by
    unfold sixT; rw [ByteArray.getElem_extract]
  rw [e]
  have e2 : (milT m)[1 + j]'(by rw [milT_size m h]; omega) = (Lib.decDigits (1000000 + m))[1 + j]'(by rw [Lib.decDigits_length, Lib.nDigits_unique 6 _ (by omega) (by omega)]; omega) := by
    simp only [milT_dec]; rfl
  rw [e2]
  simp only [Lib.decDigits_eq, List.getElem_map, List.getElem_range, Lib.nDigits_unique 6 (1000000 + m) (by omega) (by omega)]
  congr 1
  omega
theorem dg_zero {u j : Nat} (h : Lib.dg u j = 48) : u / 10 ^ j % 10 = 0 := by
  have := congrArg UInt8.toNat h
  unfold Lib.dg at this
  rw [UInt8.toNat_ofNat'] at this
  simp at this
  omega
theorem sixT_cut (m : Nat) (h : m < 1000000) (h0 : 0 < m) : (cutZ (sixT m)).size ≠ 0 := by
  intro hz
  have hs := sixT_size m h
  have ha := cutZ_all 6 (sixT m) hs hz
  have d : ∀ j, j < 6 → (1000000 + m) / 10 ^ (5 - j) % 10 = 0 := by
    intro j hj
    have := ha j (by omega)
    rw [sixT_at m h j hj] at this
    exact dg_zero this
  have d0 := d 5 (by omega)
  have d1 := d 4 (by omega)
  have d2 := d 3 (by omega)
  have d3 := d 2 (by omega)
  have d4 := d 1 (by omega)
  have d5 := d 0 (by omega)
  simp at d0 d1 d2 d3 d4 d5
  omega
theorem sixT_zero : cutZ (sixT 0) = ⟨#[]⟩ := by decide +kernel
end Go.Proofs.YtcimhpdpfckgiaaDoor.kit
