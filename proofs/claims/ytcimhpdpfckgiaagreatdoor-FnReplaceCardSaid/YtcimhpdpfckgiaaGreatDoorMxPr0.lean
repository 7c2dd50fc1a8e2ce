/-
  Plain facts on reading expressions for texts, of no program: one reader of a text's bytes, whose answers are trees; how far it goes; sets of bytes, added to one by one. Conditions: each theorem names its own.
-/
import Derived.Test.YtcimhpdpfckgiaaGreatDoorMxKit
import Derived.Test.YtcimhpdpfckgiaaGreatDoorMxRn2
import Derived.Test.YtcimhpdpfckgiaaGreatDoorMxInfo
set_option linter.unusedVariables false
open Go.ChangeShapes Go.WideShapes Go.ChangeAt Go.RowKit
namespace Go.Proofs.YtcimhpdpfckgiaaGreatDoor.kit
namespace PR
def leaf (k : Int) : RT := .node k ⟨#[]⟩ false 0 0 []
def oneT (c : UInt8) : RT := .node 2 ⟨#[c]⟩ false 0 0 []
def manyT (t : RT) (lo hi : Int) : RT := .node 5 ⟨#[]⟩ false lo hi [t]
def pairT (k : Int) (a b : RT) : RT := .node k ⟨#[]⟩ false 0 0 [a, b]
def mem (f : Nat → Bool) : List UInt8 := ((List.range 256).filter f).map fun n => UInt8.ofNat n
def digAt (s : ByteArray) (i : Nat) : Option Int := if i < s.size ∧ 48 ≤ (at_ s i).toNat ∧ (at_ s i).toNat ≤ 57 then some ((at_ s i).toNat - 48 : Int) else none
def braces (s : ByteArray) (i : Nat) : Option (Int × Int × Nat) :=
 match digAt s i with
 | none => none
 | some lo =>
   if atB s (i + 1) 44 then
    match digAt s (i + 2) with
    | some hi => if atB s (i + 3) 125 then some (lo, hi, i + 4) else none
    | none => if atB s (i + 2) 125 then some (lo, -1, i + 3) else none
   else if atB s (i + 1) 125 then some (lo, lo, i + 2) else none
def times (s : ByteArray) (t : RT) (i : Nat) : Option (RT × Nat) :=
 if atB s i 42 then some (manyT t 0 (-1), i + 1)
 else if atB s i 43 then some (manyT t 1 (-1), i + 1)
 else if atB s i 63 then some (manyT t 0 1, i + 1)
 else if atB s i 123 then (braces s (i + 1)).map fun x => (manyT t x.1 x.2.1, x.2.2)
 else some (t, i)
def ends (s : ByteArray) (i : Nat) : Bool := decide (s.size ≤ i) || atB s i 124 || atB s i 41
end PR
namespace PR
theorem cost_leaf (k : Int) : RT.cost (leaf k) = 0 := by simp [leaf, RT.cost, RT.costs, ByteArray.size]
theorem cost_one (c : UInt8) : RT.cost (oneT c) = 1 := by simp [oneT, RT.cost, RT.costs, ByteArray.size]
theorem cost_many (t : RT) (lo hi : Int) : RT.cost (manyT t lo hi) = RT.cost t + 1 := by simp [manyT, RT.cost, RT.costs, ByteArray.size]
theorem cost_pair (k : Int) (a b : RT) : RT.cost (pairT k a b) = RT.cost a + RT.cost b + 2 := by simp [pairT, RT.cost, RT.costs, ByteArray.size]
end PR
end Go.Proofs.YtcimhpdpfckgiaaGreatDoor.kit
