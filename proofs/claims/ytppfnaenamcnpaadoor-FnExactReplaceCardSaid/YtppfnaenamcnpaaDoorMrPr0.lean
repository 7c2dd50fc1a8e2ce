/-
  Plain facts on reading expressions for texts, of no program: one reader of a text's bytes, whose answers are trees; how far it goes; sets of bytes, added to one by one. Conditions: each theorem names its own.
-/
import Derived.Test.YtppfnaenamcnpaaDoorMrKit
import Derived.Test.YtppfnaenamcnpaaDoorMrRn2
import Derived.Test.YtppfnaenamcnpaaDoorMrMw0
set_option linter.unusedVariables false
namespace Go.Proofs.YtppfnaenamcnpaaDoor.kit
open Go.ChangeShapes Go.WideShapes Go.ChangeAt Go.RowKit
namespace PR
def leaf (k : Int) : RT := .node k ⟨#[]⟩ false 0 0 []
def manyT (t : RT) (lo hi : Int) : RT := .node 5 ⟨#[]⟩ false lo hi [t]
def mem (f : Nat → Bool) : List UInt8 := ((List.range 256).filter f).map fun n => UInt8.ofNat n
def digAt (s : ByteArray) (i : Nat) : Option Int := if i < s.size ∧ 48 ≤ (at_ s i).toNat ∧ (at_ s i).toNat ≤ 57 then some ((at_ s i).toNat - 48 : Int) else none
def braces (s : ByteArray) (i : Nat) : Option (Int × Int × Nat) :=
 match digAt s i with
 | none => none
 | some lo =>
   if atB s (i + 1) 44 then
    match digAt s (i + 2) with
    | some hi => if atB s (i + 3) 125 then some (lo, hi, i + 4) else none
    | none => if atB s (i + 2) 125 then some (lo, -1, i + 3) else none
   else if atB s (i + 1) 125 then some (lo, lo, i + 2) else none
def times (s : ByteArray) (t : RT) (i : Nat) : Option (RT × Nat) :=
 if atB s i 42 then some (manyT t 0 (-1), i + 1)
 else if atB s i 43 then some (manyT t 1 (-1), i + 1)
 else if atB s i 63 then some (manyT t 0 1, i + 1)
 else if atB s i 123 then (braces s (i + 1)).map fun x => (manyT t x.1 x.2.1, x.2.2)
 else some (t, i)
def ends (s : ByteArray) (i : Nat) : Bool := decide (s.size ≤ i) || atB s i 124 || atB s i 41
end PR
end Go.Proofs.YtppfnaenamcnpaaDoor.kit
