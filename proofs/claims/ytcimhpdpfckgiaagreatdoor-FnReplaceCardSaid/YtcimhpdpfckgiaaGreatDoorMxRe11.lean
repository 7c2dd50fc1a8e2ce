/-
  Contracts of spec.l04Least, impl.leastOf, spec.Least and impl.Least over this seat's translation: how many bytes at least an expression means. Conditions: each theorem names its own.
-/
import Derived.Test.YtcimhpdpfckgiaaGreatDoorMxRe6
import Derived.Test.YtcimhpdpfckgiaaGreatDoorMxKit
import Derived.Deep.RegionHeld3
set_option linter.unusedVariables false
namespace Go.Proofs.YtcimhpdpfckgiaaGreatDoor.kit
open Go.ChangeShapes Go.WideShapes Go.ChangeAt Go.RowKit
mutual
/-- How many bytes at least, as the machine reckons. -/
def RT.lst : RT → Int
 | .node k s n lo hi ts => if k = 1 ∨ k = 2 then 1 else if k = 3 then IntKind.i64.wrap ((RT.lsts ts).getD 0 0 + (RT.lsts ts).getD 1 0) else if k = 4 then min ((RT.lsts ts).getD 0 0) ((RT.lsts ts).getD 1 0) else if k = 5 then IntKind.i64.wrap (lo * (RT.lsts ts).getD 0 0) else 0
def RT.lsts : List RT → List Int
 | [] => []
 | t :: ts => RT.lst t :: RT.lsts ts
end
structure KidC (F : FuncId) (w : World) (k : Int) (s : ByteArray) (n : Bool) (lo hi : Int) (ts : List RT) (a : Option Addr) (c : Nat) (L : Int) : Prop where
 call : ∀ W, Below w.heap.size w W → Calls Tryz.prog F #[.agg #[.int .i64 k, .string s, .bool n, .int .i64 lo, .int .i64 hi, .slice a ts.length c]] W fun e w' => e = .returned (.int .i64 L) ∧ Below W.heap.size W w'
end Go.Proofs.YtcimhpdpfckgiaaGreatDoor.kit
