/-
  Contract of spec.NumText over this seat's translation. Conditions: none.
-/
import Derived.Test.YtiggdpckjmellaaDoorNt1
namespace Go.Proofs.YtiggdpckjmellaaDoor.kit
open Go.ChangeShapes Go.WideShapes Go.ChangeAt Go.RowKit
set_option linter.unusedVariables false

theorem nt_end0 (m : Nat) (h : m < 1000000) (u D : ByteArray) (hc : cutZ (sixT m) = cutZ u) (hu : u.size = 0) : D = D ++ ptT m := by
  by_cases h0 : m = 0
  · subst h0; show D = D ++ ByteArray.empty; simp
  · exact absurd (by rw [hc, cutZ_none hu, hu]) (sixT_cut m h (by omega))
theorem nt_end1 (m : Nat) (h : m < 1000000) (u D : ByteArray) (hc : cutZ (sixT m) = cutZ u) (hu : cutZ u = u) (h1 : 0 < u.size) : D ++ ⟨#[46]⟩ ++ u = D ++ ptT m := by
  by_cases h0 : m = 0
  · subst h0
    rw [sixT_zero, hu] at hc
    rw [← hc] at h1
    exact absurd h1 (by decide)
  · simp only [ptT, if_neg h0]
    rw [hc, hu, ByteArray.append_assoc]
end Go.Proofs.YtiggdpckjmellaaDoor.kit
