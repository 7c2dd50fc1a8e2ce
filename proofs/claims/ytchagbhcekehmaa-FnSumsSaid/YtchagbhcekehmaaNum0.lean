/-
  Contracts of Add, Sub, Mod and Whole of both sides over this seat's translation. Conditions: each theorem names its own.
-/
import Derived.Test.YtchagbhcekehmaaNb
namespace Go.Proofs.Ytchagbhcekehmaa.kit
open Go.ChangeShapes Go.WideShapes Go.ChangeAt Go.RowKit
set_option linter.unusedVariables false

/-- Whether all three are numbers. -/
def allB (a b c : Int) : Bool := numB a && numB b && numB c
theorem allB_1 {a b c : Int} (h : numB a = false) : allB a b c = false := by simp [allB, h]
theorem allB_2 {a b c : Int} (h : numB b = false) : allB a b c = false := by simp [allB, h]
theorem allB_3 {a b c : Int} (h : numB c = false) : allB a b c = false := by simp [allB, h]
theorem allB_yes {a b c : Int} (h : numB a = true) (h2 : numB b = true) (h3 : numB c = true) : allB a b c = true := by simp [allB, h, h2, h3]

theorem specAdd_any (a b : Int) (w : World) :
    Calls Try.prog 34 #[.int .i64 a, .int .i64 b] w fun e w' => e = .returned (.tuple #[.int .i64 (gotN (allB a b (a + b)) (a + b)), .bool (allB a b (a + b))]) ∧ w = w' := by
  cases h1 : numB a
  · have E := Lib.hid (allB_1 (b := b) (c := a + b) h1)
    go_enter Try.func34, Try.ntmps34
    go_wp2_with (go_at_call 74; refine (is_any _ _).mono ?_; rintro e w' ⟨rfl, rfl⟩)
    go_ret2
    exact ⟨ret_two (gotN_no E.out _).symm E.out.symm, rfl⟩
  · cases h2 : numB b
    · have E := Lib.hid (allB_2 (a := a) (c := a + b) h2)
      go_enter Try.func34, Try.ntmps34
      go_wp2_with (go_at_call 74; refine (is_any _ _).mono ?_; rintro e w' ⟨rfl, rfl⟩)
      go_ret2
      exact ⟨ret_two (gotN_no E.out _).symm E.out.symm, rfl⟩
    · obtain ⟨b1, b2⟩ := numB_yes h1
      obtain ⟨b3, b4⟩ := numB_yes h2
      have E := Lib.hid (show allB a b (a + b) = numB (a + b) by simp [allB, h1, h2])
      go_enter Try.func34, Try.ntmps34
      go_wp2_with (first | (go_at_call 74; refine (is_any _ _).mono ?_; rintro e w' ⟨rfl, rfl⟩) | (go_at_call 75; refine (made_any _ _).mono ?_; rintro e w' ⟨rfl, rfl⟩))
      go_ret2
      exact ⟨ret_two (by rw [E.out]) E.out.symm, rfl⟩
theorem implAdd_any (a b : Int) (w : World) :
    Calls Try.prog 33 #[.int .i64 a, .int .i64 b] w fun e w' => e = .returned (.tuple #[.int .i64 (gotN (allB a b (a + b)) (a + b)), .bool (allB a b (a + b))]) ∧ w = w' := by
  cases h1 : numB a
  · have E := Lib.hid (allB_1 (b := b) (c := a + b) h1)
    go_enter Try.func33, Try.ntmps33
    go_wp2_with (go_at_call 73; refine (isNum_any _ _).mono ?_; rintro e w' ⟨rfl, rfl⟩)
    go_ret2
    exact ⟨ret_two (gotN_no E.out _).symm E.out.symm, rfl⟩
  · cases h2 : numB b
    · have E := Lib.hid (allB_2 (a := a) (c := a + b) h2)
      go_enter Try.func33, Try.ntmps33
      go_wp2_with (go_at_call 73; refine (isNum_any _ _).mono ?_; rintro e w' ⟨rfl, rfl⟩)
      go_ret2
      exact ⟨ret_two (gotN_no E.out _).symm E.out.symm, rfl⟩
    · obtain ⟨b1, b2⟩ := numB_yes h1
      obtain ⟨b3, b4⟩ := numB_yes h2
      cases h3 : numB (a + b)
      · have E := Lib.hid (allB_3 (a := a) (b := b) h3)
        go_enter Try.func33, Try.ntmps33
        go_wp2_with (go_at_call 73; refine (isNum_any _ _).mono ?_; rintro e w' ⟨rfl, rfl⟩)
        go_ret2
        exact ⟨ret_two (gotN_no E.out _).symm E.out.symm, rfl⟩
      · have E := Lib.hid (allB_yes h1 h2 h3)
        go_enter Try.func33, Try.ntmps33
        go_wp2_with (go_at_call 73; refine (isNum_any _ _).mono ?_; rintro e w' ⟨rfl, rfl⟩)
        go_ret2
        exact ⟨ret_two (gotN_yes E.out _).symm E.out.symm, rfl⟩
theorem specSub_any (a b : Int) (w : World) :
    Calls Try.prog 37 #[.int .i64 a, .int .i64 b] w fun e w' => e = .returned (.tuple #[.int .i64 (gotN (allB a b (a - b)) (a - b)), .bool (allB a b (a - b))]) ∧ w = w' := by
  cases h1 : numB a
  · have E := Lib.hid (allB_1 (b := b) (c := a - b) h1)
    go_enter Try.func37, Try.ntmps37
    go_wp2_with (go_at_call 74; refine (is_any _ _).mono ?_; rintro e w' ⟨rfl, rfl⟩)
    go_ret2
    exact ⟨ret_two (gotN_no E.out _).symm E.out.symm, rfl⟩
  · cases h2 : numB b
    · have E := Lib.hid (allB_2 (a := a) (c := a - b) h2)
      go_enter Try.func37, Try.ntmps37
      go_wp2_with (go_at_call 74; refine (is_any _ _).mono ?_; rintro e w' ⟨rfl, rfl⟩)
      go_ret2
      exact ⟨ret_two (gotN_no E.out _).symm E.out.symm, rfl⟩
    · obtain ⟨b1, b2⟩ := numB_yes h1
      obtain ⟨b3, b4⟩ := numB_yes h2
      have E := Lib.hid (show allB a b (a - b) = numB (a - b) by simp [allB, h1, h2])
      go_enter Try.func37, Try.ntmps37
      go_wp2_with (first | (go_at_call 74; refine (is_any _ _).mono ?_; rintro e w' ⟨rfl, rfl⟩) | (go_at_call 75; refine (made_any _ _).mono ?_; rintro e w' ⟨rfl, rfl⟩))
      go_ret2
      exact ⟨ret_two (by rw [E.out]) E.out.symm, rfl⟩
theorem implSub_any (a b : Int) (w : World) :
    Calls Try.prog 36 #[.int .i64 a, .int .i64 b] w fun e w' => e = .returned (.tuple #[.int .i64 (gotN (allB a b (a - b)) (a - b)), .bool (allB a b (a - b))]) ∧ w = w' := by
  cases h1 : numB a
  · have E := Lib.hid (allB_1 (b := b) (c := a - b) h1)
    go_enter Try.func36, Try.ntmps36
    go_wp2_with (go_at_call 73; refine (isNum_any _ _).mono ?_; rintro e w' ⟨rfl, rfl⟩)
    go_ret2
    exact ⟨ret_two (gotN_no E.out _).symm E.out.symm, rfl⟩
  · cases h2 : numB b
    · have E := Lib.hid (allB_2 (a := a) (c := a - b) h2)
      go_enter Try.func36, Try.ntmps36
      go_wp2_with (go_at_call 73; refine (isNum_any _ _).mono ?_; rintro e w' ⟨rfl, rfl⟩)
      go_ret2
      exact ⟨ret_two (gotN_no E.out _).symm E.out.symm, rfl⟩
    · obtain ⟨b1, b2⟩ := numB_yes h1
      obtain ⟨b3, b4⟩ := numB_yes h2
      cases h3 : numB (a - b)
      · have E := Lib.hid (allB_3 (a := a) (b := b) h3)
        go_enter Try.func36, Try.ntmps36
        go_wp2_with (go_at_call 73; refine (isNum_any _ _).mono ?_; rintro e w' ⟨rfl, rfl⟩)
        go_ret2
        exact ⟨ret_two (gotN_no E.out _).symm E.out.symm, rfl⟩
      · have E := Lib.hid (allB_yes h1 h2 h3)
        go_enter Try.func36, Try.ntmps36
        go_wp2_with (go_at_call 73; refine (isNum_any _ _).mono ?_; rintro e w' ⟨rfl, rfl⟩)
        go_ret2
        exact ⟨ret_two (gotN_yes E.out _).symm E.out.symm, rfl⟩
theorem implWhole_any (a : Int) (w : World) (h1 : -9223372036854775808 ≤ a) (h2 : a ≤ 9223372036854775807) :
    Calls Try.prog 47 #[.int .i64 a] w fun e w' => e = .returned (.int .i64 (a.tdiv 1000000 * 1000000)) ∧ w = w' := by
  have d1 : a.tdiv 1000000 * 1000000 = a - a.tmod 1000000 := by
    have := Int.tdiv_mul_add_tmod a 1000000
    omega
  have d2 : -9223372036854775808 ≤ a - a.tmod 1000000 ∧ a - a.tmod 1000000 ≤ 9223372036854775807 := by
    have := Int.lt_tmod_of_pos a (show (0:Int) < 1000000 by omega)
    have := Int.tmod_lt_of_pos a (show (0:Int) < 1000000 by omega)
    rcases Int.le_total 0 a with h | h
    · have := Int.tmod_nonneg 1000000 h; omega
    · have := Int.tmod_nonneg 1000000 (show 0 ≤ -a by omega); rw [Int.neg_tmod] at this; omega
  obtain ⟨d2, d3⟩ := d2
  have E := Lib.hid d1
  clear d1
  go_enter Try.func47, Try.ntmps47
  go_wp2
  go_ret
  exact ⟨ret_int E.out.symm, rfl⟩

def modB (a b : Int) : Bool := numB a && numB b && !(b == 0)
theorem specMod_any (a b : Int) (w : World) :
    Calls Try.prog 46 #[.int .i64 a, .int .i64 b] w fun e w' => e = .returned (.tuple #[.int .i64 (gotN (modB a b) (a.tmod b)), .bool (modB a b)]) ∧ w = w' := by
  cases h1 : numB a
  · have E := Lib.hid (show modB a b = false by simp [modB, h1])
    go_enter Try.func46, Try.ntmps46
    go_wp2_with (go_at_call 74; refine (is_any _ _).mono ?_; rintro e w' ⟨rfl, rfl⟩)
    go_ret2
    exact ⟨ret_two (gotN_no E.out _).symm E.out.symm, rfl⟩
  · cases h2 : numB b
    · have E := Lib.hid (show modB a b = false by simp [modB, h2])
      go_enter Try.func46, Try.ntmps46
      go_wp2_with (go_at_call 74; refine (is_any _ _).mono ?_; rintro e w' ⟨rfl, rfl⟩)
      go_ret2
      exact ⟨ret_two (gotN_no E.out _).symm E.out.symm, rfl⟩
    · obtain ⟨b1, b2⟩ := numB_yes h1
      obtain ⟨b3, b4⟩ := numB_yes h2
      cases h3 : (b == 0)
      · have E := Lib.hid (show modB a b = true by simp [modB, h1, h2, h3])
        have h4 : ¬ b = 0 := by simpa using h3
        go_enter Try.func46, Try.ntmps46
        go_wp2_with (go_at_call 74; refine (is_any _ _).mono ?_; rintro e w' ⟨rfl, rfl⟩)
        go_ret2
        exact ⟨ret_two (gotN_yes E.out _).symm E.out.symm, rfl⟩
      · have E := Lib.hid (show modB a b = false by simp [modB, h3])
        go_enter Try.func46, Try.ntmps46
        go_wp2_with (go_at_call 74; refine (is_any _ _).mono ?_; rintro e w' ⟨rfl, rfl⟩)
        go_ret2
        exact ⟨ret_two (gotN_no E.out _).symm E.out.symm, rfl⟩
theorem implMod_any (a b : Int) (w : World) :
    Calls Try.prog 45 #[.int .i64 a, .int .i64 b] w fun e w' => e = .returned (.tuple #[.int .i64 (gotN (modB a b) (a.tmod b)), .bool (modB a b)]) ∧ w = w' := by
  cases h1 : numB a
  · have E := Lib.hid (show modB a b = false by simp [modB, h1])
    go_enter Try.func45, Try.ntmps45
    go_wp2_with (go_at_call 73; refine (isNum_any _ _).mono ?_; rintro e w' ⟨rfl, rfl⟩)
    go_ret2
    exact ⟨ret_two (gotN_no E.out _).symm E.out.symm, rfl⟩
  · cases h2 : numB b
    · have E := Lib.hid (show modB a b = false by simp [modB, h2])
      go_enter Try.func45, Try.ntmps45
      go_wp2_with (go_at_call 73; refine (isNum_any _ _).mono ?_; rintro e w' ⟨rfl, rfl⟩)
      go_ret2
      exact ⟨ret_two (gotN_no E.out _).symm E.out.symm, rfl⟩
    · obtain ⟨b1, b2⟩ := numB_yes h1
      obtain ⟨b3, b4⟩ := numB_yes h2
      cases h3 : (b == 0)
      · have E := Lib.hid (show modB a b = true by simp [modB, h1, h2, h3])
        have h4 : ¬ b = 0 := by simpa using h3
        go_enter Try.func45, Try.ntmps45
        go_wp2_with (go_at_call 73; refine (isNum_any _ _).mono ?_; rintro e w' ⟨rfl, rfl⟩)
        go_ret2
        exact ⟨ret_two (gotN_yes E.out _).symm E.out.symm, rfl⟩
      · have E := Lib.hid (show modB a b = false by simp [modB, h3])
        go_enter Try.func45, Try.ntmps45
        go_wp2_with (go_at_call 73; refine (isNum_any _ _).mono ?_; rintro e w' ⟨rfl, rfl⟩)
        go_ret2
        exact ⟨ret_two (gotN_no E.out _).symm E.out.symm, rfl⟩
end Go.Proofs.Ytchagbhcekehmaa.kit
