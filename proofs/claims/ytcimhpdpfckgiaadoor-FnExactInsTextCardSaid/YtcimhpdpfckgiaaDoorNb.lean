/-
  Contracts of spec.l02Is, spec.l02Made and impl.isNum over this seat's translation. Conditions: each theorem names its own.
-/
import Derived.Test.YtcimhpdpfckgiaaDoorInfo
namespace Go.Proofs.YtcimhpdpfckgiaaDoor.kit
open Go.ChangeShapes Go.WideShapes Go.ChangeAt Go.RowKit
set_option linter.unusedVariables false

def numB (a : Int) : Bool := inB a (-1000000000000) 1000000000000
theorem numB_yes {a : Int} (h : numB a = true) : -1000000000000 ≤ a ∧ a ≤ 1000000000000 := by simpa [numB, inB] using h
theorem numB_no {a : Int} (h : numB a = false) : a < -1000000000000 ∨ 1000000000000 < a := by
  simp only [numB, inB, decide_eq_false_iff_not] at h; omega
theorem is_any (a : Int) (w : World) :
    Calls Tryd.prog 17 #[.int .i64 a] w fun e w' => e = .returned (.bool (numB a)) ∧ w = w' := by
  go_enter Tryd.func17, Tryd.ntmps17
  go_wp2_with (go_at_call 8; refine (in_any _ _ _ _).mono ?_; rintro e w' ⟨rfl, rfl⟩)
  go_ret
  exact ⟨rfl, rfl⟩
theorem isNum_any (a : Int) (w : World) :
    Calls Tryd.prog 18 #[.int .i64 a] w fun e w' => e = .returned (.bool (numB a)) ∧ w = w' := by
  by_cases h1 : -1000000000000 ≤ a
  · by_cases h2 : a ≤ 1000000000000
    · have E := Lib.hid (show numB a = true by simp [numB, inB, h1, h2])
      go_enter Tryd.func18, Tryd.ntmps18
      go_wp2
      go_ret
      exact ⟨ret_bool E.out.symm, rfl⟩
    · have E := Lib.hid (show numB a = false by simp [numB, inB, h1, h2])
      go_enter Tryd.func18, Tryd.ntmps18
      go_wp2
      go_ret
      exact ⟨ret_bool E.out.symm, rfl⟩
  · have E := Lib.hid (show numB a = false by simp [numB, inB, h1])
    go_enter Tryd.func18, Tryd.ntmps18
    go_wp2
    go_ret
    exact ⟨ret_bool E.out.symm, rfl⟩

/-- A number and whether it is one, where b holds; else 0 and false. -/
def gotN (b : Bool) (n : Int) : Int := if b then n else 0
theorem gotN_yes {b : Bool} (h : b = true) (n : Int) : gotN b n = n := by subst h; rfl
theorem gotN_no {b : Bool} (h : b = false) (n : Int) : gotN b n = 0 := by subst h; rfl
theorem ret_two {a a' : Int} {b b' : Bool} (h : a = a') (h' : b = b') : Ending.returned (.tuple #[.int .i64 a, .bool b]) = .returned (.tuple #[.int .i64 a', .bool b']) := by rw [h, h']

end Go.Proofs.YtcimhpdpfckgiaaDoor.kit
