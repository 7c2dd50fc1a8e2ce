/-
  Closed facts of this seat's program and the contract of spec.l01In. Conditions: none.
-/
import Derived.Test.YthffjcclcladoaaRows
import Derived.Test.YthffjcclcladoaaKit
namespace Go.Proofs.Ythffjcclcladoaa.kit
open Go.ChangeShapes Go.WideShapes Go.ChangeAt Go.RowKit
set_option linter.unusedVariables false

theorem Try.infoU8 : (Try.prog.info? 5).map (fun i => (i.zero, i.size, i.bytes)) = some (some (.int .u8 0), 1, 1) := by kernel_rfl
def inB (x a b : Int) : Bool := decide (a ≤ x ∧ x ≤ b)
end Go.Proofs.Ythffjcclcladoaa.kit
