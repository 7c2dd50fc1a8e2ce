/-
  How an expression of the laws (a struct of six fields, the last one a slice of such structs) is read as a tree that lies in memory. Conditions: each theorem names its own.
-/
import Derived.Test.YtppfnaenamcnpaaDoorMfInfo
import Derived.Test.YtppfnaenamcnpaaDoorMfKit
import Derived.Deep.Slices
import Derived.Deep.Fields
import Derived.ChangeSame
import Derived.Lib.SmallJoins
set_option linter.unusedVariables false
namespace Go.Proofs.YtppfnaenamcnpaaDoor.kit
open Go.Joins Go.ChangeShapes Go.WideShapes Go.ChangeAt Go.RowKit Go.Deep
instance : Inhabited RT := ⟨.node 0 ⟨#[]⟩ false 0 0 []⟩
end Go.Proofs.YtppfnaenamcnpaaDoor.kit
