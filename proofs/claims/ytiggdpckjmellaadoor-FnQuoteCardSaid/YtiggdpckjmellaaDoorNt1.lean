/-
  Contracts of spec.NumText and impl.NumText over this seat's translation. Conditions: the table of the powers of ten is as listed.
-/
import Derived.Test.YtiggdpckjmellaaDoorNt0
import Derived.Test.YtiggdpckjmellaaDoorNb
import Derived.Test.YtiggdpckjmellaaDoorDec
import Derived.Test.YtiggdpckjmellaaDoorTab0
import Derived.Outline
namespace Go.Proofs.YtiggdpckjmellaaDoor.kit
open Go.ChangeShapes Go.WideShapes Go.ChangeAt Go.RowKit
set_option linter.unusedVariables false

/-- What stands behind the whole part: nothing, or a point and the digits. -/
def ptT (m : Nat) : ByteArray := if m = 0 then ⟨#[]⟩ else ⟨#[46]⟩ ++ cutZ (sixT m)
theorem ptT_le (m : Nat) (hm : m < 1000000) : (ptT m).size ≤ 7 := by
  unfold ptT
  split
  · show 0 ≤ 7; omega
  · have := cutZ_le 6 _ (sixT_size m hm)
    rw [ByteArray.size_append]
    show 1 + _ ≤ 7
    omega
def ntP (N : Nat) : ByteArray := ⟨(Lib.itoa ((N : Int) / 1000000)).toArray⟩ ++ ptT (N % 1000000)
/-- The text of a number; the empty one of what is none. -/
def ntA (a : Int) : ByteArray := if numB a then (if a < 0 then ⟨#[45]⟩ ++ ntP a.natAbs else ntP a.toNat) else ⟨#[]⟩
end Go.Proofs.YtiggdpckjmellaaDoor.kit
