/-
  Contracts of Add, Sub, Mod and Whole of both sides over this seat's translation. Conditions: each theorem names its own.
-/
import Derived.Test.YtchagbhcekehmaaDoorNb
namespace Go.Proofs.YtchagbhcekehmaaDoor.kit
open Go.ChangeShapes Go.WideShapes Go.ChangeAt Go.RowKit
set_option linter.unusedVariables false

/-- Whether all three are numbers. -/
def allB (a b c : Int) : Bool := numB a && numB b && numB c
theorem allB_1 {a b c : Int} (h : numB a = false) : allB a b c = false := by simp [allB, h]
theorem allB_2 {a b c : Int} (h : numB b = false) : allB a b c = false := by simp [allB, h]
theorem allB_3 {a b c : Int} (h : numB c = false) : allB a b c = false := by simp [allB, h]
theorem allB_yes {a b c : Int} (h : numB a = true) (h2 : numB b = true) (h3 : numB c = true) : allB a b c = true := by simp [allB, h, h2, h3]

theorem specWhole_any (a : Int) (w : World) (h1 : -9223372036854775808 ≤ a) (h2 : a ≤ 9223372036854775807) :
    Calls Tryd.prog 36 #[.int .i64 a] w fun e w' => e = .returned (.int .i64 (a.tdiv 1000000 * 1000000)) ∧ w = w' := by
  have d1 : -9223372036854775808 ≤ a.tdiv 1000000 * 1000000 ∧ a.tdiv 1000000 * 1000000 ≤ 9223372036854775807 ∧ -9223372036854775808 ≤ a.tdiv 1000000 ∧ a.tdiv 1000000 ≤ 9223372036854775807 := by
    have := Int.tdiv_mul_add_tmod a 1000000
    have := Int.lt_tmod_of_pos a (show (0:Int) < 1000000 by omega)
    have := Int.tmod_lt_of_pos a (show (0:Int) < 1000000 by omega)
    rcases Int.le_total 0 a with h | h
    · have := Int.tmod_nonneg 1000000 h; omega
    · have := Int.tmod_nonneg 1000000 (show 0 ≤ -a by omega); rw [Int.neg_tmod] at this; omega
  obtain ⟨d1, d2, d3, d4⟩ := d1
  go_enter Tryd.func36, Tryd.ntmps36
  go_wp2
  go_ret
  exact ⟨rfl, rfl⟩
theorem implWhole_any (a : Int) (w : World) (h1 : -9223372036854775808 ≤ a) (h2 : a ≤ 9223372036854775807) :
    Calls Tryd.prog 35 #[.int .i64 a] w fun e w' => e = .returned (.int .i64 (a.tdiv 1000000 * 1000000)) ∧ w = w' := by
  have d1 : a.tdiv 1000000 * 1000000 = a - a.tmod 1000000 := by
    have := Int.tdiv_mul_add_tmod a 1000000
    omega
  have d2 : -9223372036854775808 ≤ a - a.tmod 1000000 ∧ a - a.tmod 1000000 ≤ 9223372036854775807 := by
    have := Int.lt_tmod_of_pos a (show (0:Int) < 1000000 by omega)
    have := Int.tmod_lt_of_pos a (show (0:Int) < 1000000 by omega)
    rcases Int.le_total 0 a with h | h
    · have := Int.tmod_nonneg 1000000 h; omega
    · have := Int.tmod_nonneg 1000000 (show 0 ≤ -a by omega); rw [Int.neg_tmod] at this; omega
  obtain ⟨d2, d3⟩ := d2
  have E := Lib.hid d1
  clear d1
  go_enter Tryd.func35, Tryd.ntmps35
  go_wp2
  go_ret
  exact ⟨ret_int E.out.symm, rfl⟩

def modB (a b : Int) : Bool := numB a && numB b && !(b == 0)
end Go.Proofs.YtchagbhcekehmaaDoor.kit
