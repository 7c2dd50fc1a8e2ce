/-
  Contracts of laws.szReS and laws.szRe over this seat's translation: what a tree of expressions costs. Conditions: each theorem names its own.
-/
import Derived.Test.YtghmkfehohgmgaaRe1
namespace Go.Proofs.Ytghmkfehohgmgaa.kit
open Go.ChangeShapes Go.WideShapes Go.ChangeAt Go.RowKit
set_option linter.unusedVariables false

/-- What is left of left behind a cost. -/
def leftOf (left : Int) (cost : Nat) : Int := if (cost : Int) ≤ left then left - cost else -1
theorem leftOf_neg {left : Int} {c : Nat} (h : left < c) : leftOf left c = -1 := if_neg (by omega)
theorem leftOf_pos {left : Int} {c : Nat} (h : (c : Int) ≤ left) : leftOf left c = left - c := if_pos h
end Go.Proofs.Ytghmkfehohgmgaa.kit
