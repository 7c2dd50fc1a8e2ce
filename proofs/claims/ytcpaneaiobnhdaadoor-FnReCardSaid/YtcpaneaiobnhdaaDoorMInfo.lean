/-
 Closed facts of this seat's program and the contract of spec.l01In. Conditions: none.
-/
import Derived.Test.YtcpaneaiobnhdaaDoorRows
import Derived.Test.YtcpaneaiobnhdaaDoorMKit
namespace Go.Proofs.YtcpaneaiobnhdaaDoor.kit
open Go.ChangeShapes Go.WideShapes Go.ChangeAt Go.RowKit
set_option linter.unusedVariables false

theorem Tryd.infoU8 : (Tryd.prog.info? 5).map (fun i => (i.zero, i.size, i.bytes)) = some (some (.int .u8 0), 1, 1) := by kernel_rfl
def inB (x a b : Int) : Bool := decide (a ≤ x ∧ x ≤ b)
theorem in_any (x a b : Int) (w : World) :
  Calls Tryd.prog 61 #[.int .i64 x, .int .i64 a, .int .i64 b] w fun e w' => e = .returned (.bool (inB x a b)) ∧ w = w' := by
 by_cases h1 : a ≤ x
 ·by_cases h2 : x ≤ b
  ·have E := Lib.hid (show inB x a b = true by simp [inB, h1, h2])
   go_enter Tryd.func61, Tryd.ntmps61
   go_wp2
   go_ret
   exact ⟨ret_bool E.out.symm, rfl⟩
  ·have E := Lib.hid (show inB x a b = false by simp [inB, h1, h2])
   go_enter Tryd.func61, Tryd.ntmps61
   go_wp2
   go_ret
   exact ⟨ret_bool E.out.symm, rfl⟩
 ·have E := Lib.hid (show inB x a b = false by simp [inB, h1])
  go_enter Tryd.func61, Tryd.ntmps61
  go_wp2
  go_ret
  exact ⟨ret_bool E.out.symm, rfl⟩

end Go.Proofs.YtcpaneaiobnhdaaDoor.kit
/-
 Contracts of spec.l01Digit and impl.isDigit: whether a byte, or a sign, is a digit. Conditions: a byte is one of 0 .. 255.
-/
namespace Go.Proofs.YtcpaneaiobnhdaaDoor.kit
open Go.ChangeShapes Go.WideShapes Go.ChangeAt Go.RowKit
set_option linter.unusedVariables false

def digB (c : Int) : Bool := inB c 48 57
theorem dig_any (c : Int) (w : World) (h0 : 0 ≤ c) (h1 : c ≤ 255) :
  Calls Tryd.prog 84 #[.int .u8 c] w fun e w' => e = .returned (.bool (digB c)) ∧ w = w' := by
 go_enter Tryd.func84, Tryd.ntmps84
 go_wp2_with (go_at_call 61; refine (in_any _ _ _ _).mono ?_; rintro e w' ⟨rfl, rfl⟩)
 go_ret
 exact ⟨rfl, rfl⟩
theorem isDigit_any (c : Int) (w : World) :
  Calls Tryd.prog 83 #[.int .i32 c] w fun e w' => e = .returned (.bool (digB c)) ∧ w = w' := by
 by_cases h1 : 48 ≤ c
 ·by_cases h2 : c ≤ 57
  ·have E := Lib.hid (show digB c = true by simp [digB, inB, h1, h2])
   go_enter Tryd.func83, Tryd.ntmps83
   go_wp2
   go_ret
   exact ⟨ret_bool E.out.symm, rfl⟩
  ·have E := Lib.hid (show digB c = false by simp [digB, inB, h1, h2])
   go_enter Tryd.func83, Tryd.ntmps83
   go_wp2
   go_ret
   exact ⟨ret_bool E.out.symm, rfl⟩
 ·have E := Lib.hid (show digB c = false by simp [digB, inB, h1])
  go_enter Tryd.func83, Tryd.ntmps83
  go_wp2
  go_ret
  exact ⟨ret_bool E.out.symm, rfl⟩

end Go.Proofs.YtcpaneaiobnhdaaDoor.kit
