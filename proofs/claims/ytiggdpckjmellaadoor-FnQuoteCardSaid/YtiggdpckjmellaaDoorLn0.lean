/-
  Contracts of LooksNum of both sides over this seat's translation: for every text both answer alike. Conditions: the text has at most a million bytes (1048576).
-/
import Derived.Test.YtiggdpckjmellaaDoorRn4
namespace Go.Proofs.YtiggdpckjmellaaDoor.kit
open Go.ChangeShapes Go.WideShapes Go.ChangeAt Go.RowKit
set_option linter.unusedVariables false

def rnP (s : ByteArray) : Nat := if rnG s then rnE s else 0
theorem rnPlace_eq (s : ByteArray) : rnPlace s = (rnP s : Int) := by unfold rnPlace rnP; split <;> rfl
theorem rnP_le (s : ByteArray) : rnP s ≤ s.size := by
  have := rnE_le s
  unfold rnP; split <;> omega
def lkB (s : ByteArray) : Bool := decide (0 < rnP s) && decide (runEnd blnB s (rnP s) = s.size)
end Go.Proofs.YtiggdpckjmellaaDoor.kit
