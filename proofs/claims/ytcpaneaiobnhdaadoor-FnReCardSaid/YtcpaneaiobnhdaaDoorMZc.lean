/-
 The zero value of an array of 256 flags over this seat's translation (a load in one part has no such fact). Conditions: none.
-/
import Derived.Test.YtcpaneaiobnhdaaDoorMPr2
namespace Go.Proofs.YtcpaneaiobnhdaaDoor.kit
open Go.ChangeShapes Go.WideShapes Go.ChangeAt Go.RowKit

end Go.Proofs.YtcpaneaiobnhdaaDoor.kit
