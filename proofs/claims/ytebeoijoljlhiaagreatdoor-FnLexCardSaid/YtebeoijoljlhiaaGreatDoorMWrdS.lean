/-
  Contract of spec.Words over this seat's translation: for every text of at most 1048576 bytes it gives a new slice that owns its words.
-/
import Derived.Test.YtebeoijoljlhiaaGreatDoorMCutS
import Derived.Test.YtebeoijoljlhiaaGreatDoorMParts0
namespace Go.Proofs.YtebeoijoljlhiaaGreatDoor.kit
open Go.ChangeShapes Go.WideShapes Go.ChangeAt Go.RowKit
set_option linter.unusedVariables false

theorem blank_any (c : UInt8) (w : World) :
    Calls Tryz.prog 74 #[.int .u8 (c.toNat : Int)] w fun e w' => e = .returned (.bool (blankB c)) ∧ w = w' := by
  have hc : c.toNat < 256 := c.toNat_lt
  by_cases h1 : c.toNat = 32
  · have E := Lib.hid (show blankB c = true by simp [blankB, h1])
    have e1 : ((c.toNat : Int) == 32) = true := by simp; omega
    clear h1
    go_enter Tryz.func74, Tryz.ntmps74
    go_wp2
    go_ret
    exact ⟨ret_bool E.out.symm, rfl⟩
  · have E := Lib.hid (show blankB c = ((c.toNat : Int) == 9) by rw [Bool.eq_iff_iff]; simp [blankB, h1]; omega)
    have e1 : ((c.toNat : Int) == 32) = false := by simp; omega
    clear h1
    go_enter Tryz.func74, Tryz.ntmps74
    go_wp2
    go_ret
    exact ⟨ret_bool E.out.symm, rfl⟩

def gat (s : ByteArray) (k : Nat) : UInt8 := s.data.toList.getD k 0
theorem gat_eq (s : ByteArray) (k : Nat) (h : k < s.size) : s[k] = gat s k := getD_at s k h
theorem drop_gat (s : ByteArray) (j : Nat) (h : j < s.size) : s.data.toList.drop j = gat s j :: s.data.toList.drop (j + 1) := by
  have hl : j < s.data.toList.length := by simpa using h
  rw [List.drop_eq_getElem_cons hl]
  congr 1
  rw [gat, List.getD_eq_getElem?_getD, List.getElem?_eq_getElem hl]; rfl
/-- The bytes from i on ahead of e are no blanks. -/
def RunTo (s : ByteArray) (i e : Nat) : Prop := ∀ j, i ≤ j → j < e → blankB (gat s j) = false
theorem run_mem {s : ByteArray} {i e : Nat} (h : RunTo s i e) (he : e ≤ s.size) : ∀ c ∈ (s.data.toList.take e).drop i, blankB c = false := by
  intro c hc
  obtain ⟨j, hj, rfl⟩ := List.getElem_of_mem hc
  have hj2 : i + j < e := by simp at hj; omega
  have := h (i + j) (by omega) hj2
  rw [List.getElem_drop, List.getElem_take]
  rw [gat, List.getD_eq_getElem?_getD, List.getElem?_eq_getElem (by simp; omega)] at this
  exact this
theorem words_run {s : ByteArray} {i e : Nat} (h : RunTo s i e) (hi : i < e) (he : e ≤ s.size) (hend : e = s.size ∨ (e < s.size ∧ blankB (gat s e) = true)) :
    wordsOf (s.data.toList.drop i) = (s.data.toList.take e).drop i :: wordsOf (s.data.toList.drop e) := by
  have hsplit : s.data.toList.drop i = (s.data.toList.take e).drop i ++ s.data.toList.drop e := by
    conv => lhs; rw [← List.take_append_drop e s.data.toList]
    rw [List.drop_append_of_le_length (by simp; omega)]
  rw [hsplit]
  refine wordsOf_run _ _ ?_ (run_mem h he) ?_
  · intro g
    have := congrArg List.length g
    simp at this; omega
  · rcases hend with rfl | ⟨h1, h2⟩
    · left; exact List.drop_eq_nil_of_le (by simp)
    · right; exact ⟨_, _, drop_gat s e h1, h2⟩

end Go.Proofs.YtebeoijoljlhiaaGreatDoor.kit
