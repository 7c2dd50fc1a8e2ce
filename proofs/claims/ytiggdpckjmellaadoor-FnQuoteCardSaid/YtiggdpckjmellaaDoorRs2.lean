/-
  spec.ReadNum over this seat's translation, case by case (part 2). Conditions: each theorem names its own.
-/
import Derived.Test.YtiggdpckjmellaaDoorRn3
namespace Go.Proofs.YtiggdpckjmellaaDoor.kit
open Go.ChangeShapes Go.WideShapes Go.ChangeAt Go.RowKit
set_option linter.unusedVariables false
set_option maxRecDepth 1000000

end Go.Proofs.YtiggdpckjmellaaDoor.kit
