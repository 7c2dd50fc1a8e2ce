/-
  What ReadNum of both sides answers, as plain functions of a text, and what stands at a place of a text. Conditions: each theorem names its own.
-/
import Derived.Test.YtcnmcfalobekmaaRn1
import Derived.Test.YtcnmcfalobekmaaShelf
import Derived.Lib.Strings
namespace Go.Proofs.Ytcnmcfalobekmaa.kit
open Go.ChangeShapes Go.WideShapes Go.ChangeAt Go.RowKit
set_option linter.unusedVariables false

/-- Whether a byte stands at a place. -/
def atB (s : ByteArray) (i : Nat) (c : UInt8) : Bool := if h : i < s.size then s[i] == c else false
theorem atB_in {s : ByteArray} {i : Nat} {c : UInt8} (h : i < s.size) : ((s[i].toNat : Int) == (c.toNat : Int)) = atB s i c := by
  rw [atB, dif_pos h, Bool.eq_iff_iff, beq_iff_eq, beq_iff_eq]
  constructor
  · intro e; exact UInt8.toNat_inj.1 (by omega)
  · intro e; rw [e]
theorem atB_lt {s : ByteArray} {i : Nat} {c : UInt8} (h : atB s i c = true) : i < s.size := by
  unfold atB at h
  by_cases e : i < s.size
  · exact e
  · rw [dif_neg e] at h; cases h
theorem atB_end {s : ByteArray} {i : Nat} {c : UInt8} (h : s.size ≤ i) : atB s i c = false := by rw [atB, dif_neg (by omega)]
theorem atB_not {s : ByteArray} {i : Nat} (h : atB s i 45 = true) : atB s i 43 = false := by
  have hl := atB_lt h
  rw [atB, dif_pos hl] at h ⊢
  have : s[i] = 45 := by simpa using h
  rw [this]; rfl
theorem hasPrefix_one (l : List UInt8) (c : UInt8) : Lib.hasPrefix l [c] = (match l with | [] => false | a :: _ => a == c) := by
  cases l with
  | nil => simp [Lib.hasPrefix]
  | cons a l =>
    show ([c].isPrefixOf (a :: l)) = (a == c)
    simp only [List.isPrefixOf, Bool.and_true]
    rw [Bool.eq_iff_iff, beq_iff_eq, beq_iff_eq]
    exact eq_comm
theorem prefix_at (s : ByteArray) (i : Nat) (c : UInt8) (hi : i ≤ s.size) : Lib.hasPrefix (s.extract i s.size).data.toList [c] = atB s i c := by
  rw [hasPrefix_one]
  have e : (s.extract i s.size).data.toList = s.data.toList.drop i := by simp; rw [List.take_of_length_le (by simp)]
  rw [e]
  by_cases h : i < s.size
  · rw [List.drop_eq_getElem_cons (by simpa using h), atB, dif_pos h]; rfl
  · rw [List.drop_eq_nil_of_le (by simp; omega), atB, dif_neg h]
theorem pre_any (s : ByteArray) (i : Nat) (c : UInt8) (w : World) (hi : i ≤ s.size) :
    Calls Try.prog 18 #[.string (s.extract i s.size), .string ⟨#[c]⟩] w fun e w' => e = .returned (.bool (atB s i c)) ∧ w = w' := by
  refine (Try.strings_HasPrefix _ _ _).mono ?_
  rintro e w' ⟨rfl, rfl⟩
  exact ⟨ret_bool (prefix_at s i c hi), rfl⟩

def rnI (s : ByteArray) : Nat := runEnd blnB s 0
def rnF (s : ByteArray) : Nat := if atB s (rnI s) 45 || atB s (rnI s) 43 then rnI s + 1 else rnI s
def rnM (s : ByteArray) : Nat := runEnd digB s (rnF s)
def rnE (s : ByteArray) : Nat := if atB s (rnM s) 46 then runEnd digB s (rnM s + 1) else rnM s
def rnW (s : ByteArray) : ByteArray := s.extract (rnF s) (rnM s)
def rnB (s : ByteArray) : ByteArray := if atB s (rnM s) 46 then s.extract (rnM s + 1) (rnE s) else ⟨#[]⟩
def rnG (s : ByteArray) : Bool := decide (rnE s ≤ 60) && !((rnW s).size + (rnB s).size == 0) && capB (mill (rnW s) (rnB s))
def rnNum (s : ByteArray) : Int := if rnG s then (if atB s (rnI s) 45 then -(mill (rnW s) (rnB s) : Int) else (mill (rnW s) (rnB s) : Int)) else 0
def rnPlace (s : ByteArray) : Int := if rnG s then (rnE s : Int) else 0
theorem rnI_le (s : ByteArray) : rnI s ≤ s.size := (runEnd_le _ s 0 (by omega)).2
theorem rnF_le (s : ByteArray) : rnI s ≤ rnF s ∧ rnF s ≤ s.size := by
  have := rnI_le s
  unfold rnF
  split
  · rename_i h
    simp only [Bool.or_eq_true] at h
    rcases h with h | h <;> (have := atB_lt h; omega)
  · omega
theorem rnM_le (s : ByteArray) : rnF s ≤ rnM s ∧ rnM s ≤ s.size := runEnd_le _ s _ (rnF_le s).2
theorem rnE_le (s : ByteArray) : rnM s ≤ rnE s ∧ rnE s ≤ s.size := by
  have h := rnM_le s
  unfold rnE
  split
  · rename_i hp
    have := runEnd_le digB s (rnM s + 1) (by have := atB_lt hp; omega)
    omega
  · omega
theorem dig_extract (s : ByteArray) (i : Nat) (hi : i ≤ s.size) : DigAll (s.extract i (runEnd digB s i)) := by
  intro j h
  have hl := runEnd_le digB s i hi
  have hsz : (s.extract i (runEnd digB s i)).size = runEnd digB s i - i := by rw [ByteArray.size_extract]; omega
  have hj : i + j < s.size := by omega
  have e : (s.extract i (runEnd digB s i))[j] = s[i + j] := ByteArray.getElem_extract ..
  rw [e]
  exact runEnd_all digB s i hi (i + j) hj (by omega) (by omega)
theorem dig_W (s : ByteArray) : DigAll (rnW s) := dig_extract s _ (rnF_le s).2
theorem dig_B (s : ByteArray) : DigAll (rnB s) := by
  unfold rnB
  split
  · rename_i hp
    have e : rnE s = runEnd digB s (rnM s + 1) := by unfold rnE; rw [if_pos hp]
    rw [e]
    exact dig_extract s _ (by have := atB_lt hp; omega)
  · intro j h; have h' : j < 0 := h; omega
theorem size_W (s : ByteArray) : (rnW s).size = rnM s - rnF s := by
  have := rnM_le s
  rw [rnW, ByteArray.size_extract]; omega
theorem size_B (s : ByteArray) (h : atB s (rnM s) 46 = true) : (rnB s).size = rnE s - (rnM s + 1) := by
  have := rnE_le s
  rw [rnB, if_pos h, ByteArray.size_extract]; omega
theorem rn_no {s : ByteArray} (h : rnG s = false) : rnNum s = 0 ∧ rnPlace s = 0 := by simp [rnNum, rnPlace, h]
theorem rn_far {s : ByteArray} (h : 60 < rnE s) : rnG s = false := by
  have : decide (rnE s ≤ 60) = false := by simp; omega
  simp [rnG, this]
theorem rn_none {s : ByteArray} (h : (rnW s).size + (rnB s).size = 0) : rnG s = false := by simp [rnG, h]
theorem rn_great {s : ByteArray} (h : capB (mill (rnW s) (rnB s)) = false) : rnG s = false := by simp [rnG, h]
theorem rn_yes {s : ByteArray} (h1 : rnE s ≤ 60) (h2 : ¬ (rnW s).size + (rnB s).size = 0) (h3 : capB (mill (rnW s) (rnB s)) = true) : rnNum s = (if atB s (rnI s) 45 then -(mill (rnW s) (rnB s) : Int) else (mill (rnW s) (rnB s) : Int)) ∧ rnPlace s = (rnE s : Int) := by
  have : rnG s = true := by simp only [rnG, Bool.and_eq_true, h3, decide_eq_true_eq, Bool.not_eq_true', beq_eq_false_iff_ne, ne_eq]; exact ⟨⟨h1, h2⟩, trivial⟩
  simp [rnNum, rnPlace, this]
end Go.Proofs.Ytcnmcfalobekmaa.kit
