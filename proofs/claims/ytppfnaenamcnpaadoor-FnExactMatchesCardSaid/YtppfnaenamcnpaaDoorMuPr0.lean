/-
  Plain facts on reading expressions for texts, of no program: one reader of a text's bytes, whose answers are trees; how far it goes; sets of bytes, added to one by one. Conditions: each theorem names its own.
-/
import Derived.Test.YtppfnaenamcnpaaDoorMuKit
import Derived.Test.YtppfnaenamcnpaaDoorMuRn2
import Derived.Test.YtppfnaenamcnpaaDoorMuMw0
set_option linter.unusedVariables false
namespace Go.Proofs.YtppfnaenamcnpaaDoor.kit
open Go.ChangeShapes Go.WideShapes Go.ChangeAt Go.RowKit
namespace PR
def leaf (k : Int) : RT := .node k ⟨#[]⟩ false 0 0 []
def mem (f : Nat → Bool) : List UInt8 := ((List.range 256).filter f).map fun n => UInt8.ofNat n
def ends (s : ByteArray) (i : Nat) : Bool := decide (s.size ≤ i) || atB s i 124 || atB s i 41
end PR
end Go.Proofs.YtppfnaenamcnpaaDoor.kit
