/-
  What ReadNum of both sides answers, as plain functions of a text, and what stands at a place of a text. Conditions: each theorem names its own.
-/
import Derived.Test.YtcimhpdpfckgiaaGreatDoorMxRn1
import Derived.Test.YtcimhpdpfckgiaaGreatDoorShelf
import Derived.Lib.Strings
set_option linter.unusedVariables false
namespace Go.Proofs.YtcimhpdpfckgiaaGreatDoor.kit
open Go.ChangeShapes Go.WideShapes Go.ChangeAt Go.RowKit
def atB (s : ByteArray) (i : Nat) (c : UInt8) : Bool := if h : i < s.size then s[i] == c else false
end Go.Proofs.YtcimhpdpfckgiaaGreatDoor.kit
