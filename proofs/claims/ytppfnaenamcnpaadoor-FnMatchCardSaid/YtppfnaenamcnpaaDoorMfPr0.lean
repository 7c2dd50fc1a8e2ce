/-
  Plain facts on reading expressions for texts, of no program: one reader of a text's bytes, whose answers are trees; how far it goes; sets of bytes, added to one by one. Conditions: each theorem names its own.
-/
import Derived.Test.YtppfnaenamcnpaaDoorMfKit
import Derived.Test.YtppfnaenamcnpaaDoorMfRn2
import Derived.Test.YtppfnaenamcnpaaDoorMfMw0
set_option linter.unusedVariables false
open Go.ChangeShapes Go.WideShapes Go.ChangeAt Go.RowKit
namespace Go.Proofs.YtppfnaenamcnpaaDoor.kit
namespace PR
def leaf (k : Int) : RT := .node k ⟨#[]⟩ false 0 0 []
def oneT (c : UInt8) : RT := .node 2 ⟨#[c]⟩ false 0 0 []
def manyT (t : RT) (lo hi : Int) : RT := .node 5 ⟨#[]⟩ false lo hi [t]
def pairT (k : Int) (a b : RT) : RT := .node k ⟨#[]⟩ false 0 0 [a, b]
def mem (f : Nat → Bool) : List UInt8 := ((List.range 256).filter f).map fun n => UInt8.ofNat n
def ends (s : ByteArray) (i : Nat) : Bool := decide (s.size ≤ i) || atB s i 124 || atB s i 41
end PR
namespace PR
theorem cost_leaf (k : Int) : RT.cost (leaf k) = 0 := by simp [leaf, RT.cost, RT.costs, ByteArray.size]
theorem cost_one (c : UInt8) : RT.cost (oneT c) = 1 := by simp [oneT, RT.cost, RT.costs, ByteArray.size]
theorem cost_many (t : RT) (lo hi : Int) : RT.cost (manyT t lo hi) = RT.cost t + 1 := by simp [manyT, RT.cost, RT.costs, ByteArray.size]
theorem cost_pair (k : Int) (a b : RT) : RT.cost (pairT k a b) = RT.cost a + RT.cost b + 2 := by simp [pairT, RT.cost, RT.costs, ByteArray.size]
end PR
end Go.Proofs.YtppfnaenamcnpaaDoor.kit
