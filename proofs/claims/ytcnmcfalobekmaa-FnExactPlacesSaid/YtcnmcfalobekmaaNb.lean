/-
  Contracts of spec.l02Is, spec.l02Made and impl.isNum over this seat's translation. Conditions: each theorem names its own.
-/
import Derived.Test.YtcnmcfalobekmaaInfo
namespace Go.Proofs.Ytcnmcfalobekmaa.kit
open Go.ChangeShapes Go.WideShapes Go.ChangeAt Go.RowKit
set_option linter.unusedVariables false

def numB (a : Int) : Bool := inB a (-1000000000000) 1000000000000
theorem numB_yes {a : Int} (h : numB a = true) : -1000000000000 ≤ a ∧ a ≤ 1000000000000 := by simpa [numB, inB] using h
theorem numB_no {a : Int} (h : numB a = false) : a < -1000000000000 ∨ 1000000000000 < a := by
  simp only [numB, inB, decide_eq_false_iff_not] at h; omega
/-- A number and whether it is one, where b holds; else 0 and false. -/
def gotN (b : Bool) (n : Int) : Int := if b then n else 0
theorem gotN_yes {b : Bool} (h : b = true) (n : Int) : gotN b n = n := by subst h; rfl
theorem gotN_no {b : Bool} (h : b = false) (n : Int) : gotN b n = 0 := by subst h; rfl
theorem ret_two {a a' : Int} {b b' : Bool} (h : a = a') (h' : b = b') : Ending.returned (.tuple #[.int .i64 a, .bool b]) = .returned (.tuple #[.int .i64 a', .bool b']) := by rw [h, h']

end Go.Proofs.Ytcnmcfalobekmaa.kit
