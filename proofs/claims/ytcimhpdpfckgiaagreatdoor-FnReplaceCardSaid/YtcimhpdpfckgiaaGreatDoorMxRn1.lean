/-
  Contracts of spec.l02Value and impl.countMillionths over this seat's translation: the number of digits ahead of and behind a point. Conditions: both texts are digits.
-/
import Derived.Test.YtcimhpdpfckgiaaGreatDoorMxInfo
import Derived.Test.YtcimhpdpfckgiaaGreatDoorMxKit
import Derived.Lib.ItoaNum
import Derived.WalkLawsBesides
set_option linter.unusedVariables false
namespace Go.Proofs.YtcimhpdpfckgiaaGreatDoor.kit
open Go.ChangeShapes Go.WideShapes Go.ChangeAt Go.RowKit
def six (l : List UInt8) : List UInt8 := (l ++ [48, 48, 48, 48, 48, 48]).take 6
end Go.Proofs.YtcimhpdpfckgiaaGreatDoor.kit
