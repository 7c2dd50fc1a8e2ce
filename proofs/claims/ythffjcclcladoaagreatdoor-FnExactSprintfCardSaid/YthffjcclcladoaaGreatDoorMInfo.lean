/-
  Closed facts of this seat's program and the contract of spec.l01In. Conditions: none.
-/
import Derived.Test.YthffjcclcladoaaGreatDoorRows
import Derived.Test.YthffjcclcladoaaGreatDoorMKit
namespace Go.Proofs.YthffjcclcladoaaGreatDoor.kit
open Go.ChangeShapes Go.WideShapes Go.ChangeAt Go.RowKit
set_option linter.unusedVariables false

theorem Tryz.infoU8 : (Tryz.prog.info? 5).map (fun i => (i.zero, i.size, i.bytes)) = some (some (.int .u8 0), 1, 1) := by kernel_rfl
def inB (x a b : Int) : Bool := decide (a ≤ x ∧ x ≤ b)
theorem in_any (x a b : Int) (w : World) :
    Calls Tryz.prog 56 #[.int .i64 x, .int .i64 a, .int .i64 b] w fun e w' => e = .returned (.bool (inB x a b)) ∧ w = w' := by
  by_cases h1 : a ≤ x
  · by_cases h2 : x ≤ b
    · have E := Lib.hid (show inB x a b = true by simp [inB, h1, h2])
      go_enter Tryz.func56, Tryz.ntmps56
      go_wp2
      go_ret
      exact ⟨ret_bool E.out.symm, rfl⟩
    · have E := Lib.hid (show inB x a b = false by simp [inB, h1, h2])
      go_enter Tryz.func56, Tryz.ntmps56
      go_wp2
      go_ret
      exact ⟨ret_bool E.out.symm, rfl⟩
  · have E := Lib.hid (show inB x a b = false by simp [inB, h1])
    go_enter Tryz.func56, Tryz.ntmps56
    go_wp2
    go_ret
    exact ⟨ret_bool E.out.symm, rfl⟩

end Go.Proofs.YthffjcclcladoaaGreatDoor.kit
/-
  Contracts of spec.l02Is, spec.l02Made and impl.isNum over this seat's translation. Conditions: each theorem names its own.
-/
namespace Go.Proofs.YthffjcclcladoaaGreatDoor.kit
open Go.ChangeShapes Go.WideShapes Go.ChangeAt Go.RowKit
set_option linter.unusedVariables false

def numB (a : Int) : Bool := inB a (-1000000000000) 1000000000000
theorem numB_yes {a : Int} (h : numB a = true) : -1000000000000 ≤ a ∧ a ≤ 1000000000000 := by simpa [numB, inB] using h
theorem numB_no {a : Int} (h : numB a = false) : a < -1000000000000 ∨ 1000000000000 < a := by
  simp only [numB, inB, decide_eq_false_iff_not] at h; omega
theorem is_any (a : Int) (w : World) :
    Calls Tryz.prog 59 #[.int .i64 a] w fun e w' => e = .returned (.bool (numB a)) ∧ w = w' := by
  go_enter Tryz.func59, Tryz.ntmps59
  go_wp2_with (go_at_call 56; refine (in_any _ _ _ _).mono ?_; rintro e w' ⟨rfl, rfl⟩)
  go_ret
  exact ⟨rfl, rfl⟩
theorem isNum_any (a : Int) (w : World) :
    Calls Tryz.prog 54 #[.int .i64 a] w fun e w' => e = .returned (.bool (numB a)) ∧ w = w' := by
  by_cases h1 : -1000000000000 ≤ a
  · by_cases h2 : a ≤ 1000000000000
    · have E := Lib.hid (show numB a = true by simp [numB, inB, h1, h2])
      go_enter Tryz.func54, Tryz.ntmps54
      go_wp2
      go_ret
      exact ⟨ret_bool E.out.symm, rfl⟩
    · have E := Lib.hid (show numB a = false by simp [numB, inB, h1, h2])
      go_enter Tryz.func54, Tryz.ntmps54
      go_wp2
      go_ret
      exact ⟨ret_bool E.out.symm, rfl⟩
  · have E := Lib.hid (show numB a = false by simp [numB, inB, h1])
    go_enter Tryz.func54, Tryz.ntmps54
    go_wp2
    go_ret
    exact ⟨ret_bool E.out.symm, rfl⟩

/-- A number and whether it is one, where b holds; else 0 and false. -/
def gotN (b : Bool) (n : Int) : Int := if b then n else 0
theorem gotN_yes {b : Bool} (h : b = true) (n : Int) : gotN b n = n := by subst h; rfl
theorem gotN_no {b : Bool} (h : b = false) (n : Int) : gotN b n = 0 := by subst h; rfl
theorem ret_two {a a' : Int} {b b' : Bool} (h : a = a') (h' : b = b') : Ending.returned (.tuple #[.int .i64 a, .bool b]) = .returned (.tuple #[.int .i64 a', .bool b']) := by rw [h, h']

theorem made_any (n : Int) (w : World) :
    Calls Tryz.prog 180 #[.int .i64 n, .bool true] w fun e w' => e = .returned (.tuple #[.int .i64 (gotN (numB n) n), .bool (numB n)]) ∧ w = w' := by
  cases h : numB n
  · have E := Lib.hid (gotN_no h n)
    go_enter Tryz.func180, Tryz.ntmps180
    go_wp2_with (go_at_call 59; refine (is_any _ _).mono ?_; rintro e w' ⟨rfl, rfl⟩)
    go_ret2
    exact ⟨ret_two (gotN_no rfl n).symm rfl, rfl⟩
  · have E := Lib.hid (gotN_yes h n)
    go_enter Tryz.func180, Tryz.ntmps180
    go_wp2_with (go_at_call 59; refine (is_any _ _).mono ?_; rintro e w' ⟨rfl, rfl⟩)
    go_ret2
    exact ⟨ret_two (gotN_yes rfl n).symm rfl, rfl⟩

end Go.Proofs.YthffjcclcladoaaGreatDoor.kit
