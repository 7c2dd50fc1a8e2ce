/-
  Contracts of spec.l06Arity, spec.IsCall and impl.IsCall over this seat's translation: the least and the greatest number of a call's kids; both of the last give the same Bool 'callB' of a text's bytes. Conditions: none.
-/
import Derived.Test.YtebeoijoljlhiaaParts0
import Derived.Test.YtebeoijoljlhiaaInfo
namespace Go.Proofs.Ytebeoijoljlhiaa.kit
open Go.ChangeShapes Go.WideShapes Go.ChangeAt Go.RowKit
set_option linter.unusedVariables false

/-- The names of calls, each with the least and the greatest number of its kids. -/
def callList : List (List UInt8 × Int × Int) := [([108, 101, 110, 103, 116, 104], 0, 1), ([115, 117, 98, 115, 116, 114], 2, 3), ([115, 112, 108, 105, 116], 2, 3), ([115, 117, 98], 2, 3), ([103, 115, 117, 98], 2, 3), ([105, 110, 100, 101, 120], 2, 2), ([109, 97, 116, 99, 104], 2, 2), ([116, 111, 108, 111, 119, 101, 114], 1, 1), ([116, 111, 117, 112, 112, 101, 114], 1, 1), ([105, 110, 116], 1, 1), ([115, 112, 114, 105, 110, 116, 102], 1, 8)]
def arOf (l : List UInt8) : Int × Int := ((callList.find? fun x => x.1 == l).map (·.2)).getD (-1, -1)
def callB (l : List UInt8) : Bool := callList.any fun x => x.1 == l
theorem ar_none {l : List UInt8} (h : callB l = false) : arOf l = (-1, -1) := by
  have g : callList.find? (fun x => x.1 == l) = none := by
    rw [List.find?_eq_none]; intro x hx he
    rw [Bool.eq_false_iff] at h
    exact h (by simp only [callB, List.any_eq_true]; exact ⟨x, hx, he⟩)
  rw [arOf, g]; rfl
theorem ar_low (l : List UInt8) : decide (0 ≤ (arOf l).1) = callB l := by
  cases h : callB l
  · rw [ar_none h]; rfl
  · simp only [callB, List.any_eq_true, callList, List.mem_cons, List.not_mem_nil, or_false, beq_iff_eq] at h
    obtain ⟨x, hx, rfl⟩ := h
    rcases hx with rfl | rfl | rfl | rfl | rfl | rfl | rfl | rfl | rfl | rfl | rfl <;> decide

set_option maxHeartbeats 1000000 in
theorem specArity_any (s : ByteArray) (w : World) :
    Calls Try.prog 25 #[.string s] w fun e w' => e = .returned (.tuple #[.int .i64 (arOf s.toList).1, .int .i64 (arOf s.toList).2]) ∧ w = w' := by
  cases a0 : (s.toList == [108, 101, 110, 103, 116, 104])
  case true =>
    have E : Hid (arOf s.toList = arOf [108, 101, 110, 103, 116, 104]) := Lib.hid (congrArg arOf (beq_iff_eq.mp a0))
    go_enter Try.func25, Try.ntmps25
    go_wp2
    go_ret2
    exact ⟨by rw [E.out]; rfl, rfl⟩
  cases a1 : (s.toList == [115, 117, 98, 115, 116, 114])
  case true =>
    have E : Hid (arOf s.toList = arOf [115, 117, 98, 115, 116, 114]) := Lib.hid (congrArg arOf (beq_iff_eq.mp a1))
    go_enter Try.func25, Try.ntmps25
    go_wp2
    go_ret2
    exact ⟨by rw [E.out]; rfl, rfl⟩
  cases a2 : (s.toList == [115, 112, 108, 105, 116])
  case true =>
    have E : Hid (arOf s.toList = arOf [115, 112, 108, 105, 116]) := Lib.hid (congrArg arOf (beq_iff_eq.mp a2))
    go_enter Try.func25, Try.ntmps25
    go_wp2
    go_ret2
    exact ⟨by rw [E.out]; rfl, rfl⟩
  cases a3 : (s.toList == [115, 117, 98])
  case true =>
    have E : Hid (arOf s.toList = arOf [115, 117, 98]) := Lib.hid (congrArg arOf (beq_iff_eq.mp a3))
    go_enter Try.func25, Try.ntmps25
    go_wp2
    go_ret2
    exact ⟨by rw [E.out]; rfl, rfl⟩
  cases a4 : (s.toList == [103, 115, 117, 98])
  case true =>
    have E : Hid (arOf s.toList = arOf [103, 115, 117, 98]) := Lib.hid (congrArg arOf (beq_iff_eq.mp a4))
    go_enter Try.func25, Try.ntmps25
    go_wp2
    go_ret2
    exact ⟨by rw [E.out]; rfl, rfl⟩
  cases a5 : (s.toList == [105, 110, 100, 101, 120])
  case true =>
    have E : Hid (arOf s.toList = arOf [105, 110, 100, 101, 120]) := Lib.hid (congrArg arOf (beq_iff_eq.mp a5))
    go_enter Try.func25, Try.ntmps25
    go_wp2
    go_ret2
    exact ⟨by rw [E.out]; rfl, rfl⟩
  cases a6 : (s.toList == [109, 97, 116, 99, 104])
  case true =>
    have E : Hid (arOf s.toList = arOf [109, 97, 116, 99, 104]) := Lib.hid (congrArg arOf (beq_iff_eq.mp a6))
    go_enter Try.func25, Try.ntmps25
    go_wp2
    go_ret2
    exact ⟨by rw [E.out]; rfl, rfl⟩
  cases a7 : (s.toList == [116, 111, 108, 111, 119, 101, 114])
  case true =>
    have E : Hid (arOf s.toList = arOf [116, 111, 108, 111, 119, 101, 114]) := Lib.hid (congrArg arOf (beq_iff_eq.mp a7))
    go_enter Try.func25, Try.ntmps25
    go_wp2
    go_ret2
    exact ⟨by rw [E.out]; rfl, rfl⟩
  cases a8 : (s.toList == [116, 111, 117, 112, 112, 101, 114])
  case true =>
    have E : Hid (arOf s.toList = arOf [116, 111, 117, 112, 112, 101, 114]) := Lib.hid (congrArg arOf (beq_iff_eq.mp a8))
    go_enter Try.func25, Try.ntmps25
    go_wp2
    go_ret2
    exact ⟨by rw [E.out]; rfl, rfl⟩
  cases a9 : (s.toList == [105, 110, 116])
  case true =>
    have E : Hid (arOf s.toList = arOf [105, 110, 116]) := Lib.hid (congrArg arOf (beq_iff_eq.mp a9))
    go_enter Try.func25, Try.ntmps25
    go_wp2
    go_ret2
    exact ⟨by rw [E.out]; rfl, rfl⟩
  cases a10 : (s.toList == [115, 112, 114, 105, 110, 116, 102])
  case true =>
    have E : Hid (arOf s.toList = arOf [115, 112, 114, 105, 110, 116, 102]) := Lib.hid (congrArg arOf (beq_iff_eq.mp a10))
    go_enter Try.func25, Try.ntmps25
    go_wp2
    go_ret2
    exact ⟨by rw [E.out]; rfl, rfl⟩
  have C : Hid (callB s.toList = false) := Lib.hid (by
    rw [Bool.eq_false_iff]; intro g
    simp only [callB, callList, List.any_eq_true, List.mem_cons, List.not_mem_nil, or_false, beq_iff_eq] at g
    obtain ⟨x, hx, e⟩ := g
    rcases hx with rfl | rfl | rfl | rfl | rfl | rfl | rfl | rfl | rfl | rfl | rfl <;> simp_all)
  go_enter Try.func25, Try.ntmps25
  go_wp2
  go_ret2
  exact ⟨by rw [ar_none C.out]; rfl, rfl⟩

set_option maxHeartbeats 400000 in
theorem specIsCall_any (s : ByteArray) (w : World) :
    Calls Try.prog 11 #[.string s] w fun e w' => e = .returned (.bool (callB s.toList)) ∧ w = w' := by
  have E := Lib.hid (ar_low s.toList)
  go_enter Try.func11, Try.ntmps11
  go_wp2_with fail
  refine (specArity_any s _).mono ?_
  rintro e w1 ⟨rfl, rfl⟩
  generalize (arOf s.toList).1 = lo at *
  generalize (arOf s.toList).2 = hi at *
  go_wp2
  go_ret
  exact ⟨ret_bool E.out, rfl⟩

set_option maxHeartbeats 1000000 in
theorem implIsCall_any (s : ByteArray) (w : World) :
    Calls Try.prog 12 #[.string s] w fun e w' => e = .returned (.bool (callB s.toList)) ∧ w = w' := by
  cases a0 : (s.toList == [108, 101, 110, 103, 116, 104])
  case true =>
    have E : Hid (callB s.toList = true) := Lib.hid (by rw [beq_iff_eq.mp a0]; decide)
    go_enter Try.func12, Try.ntmps12
    go_wp2
    go_ret
    exact ⟨ret_bool E.out.symm, rfl⟩
  cases a1 : (s.toList == [115, 117, 98, 115, 116, 114])
  case true =>
    have E : Hid (callB s.toList = true) := Lib.hid (by rw [beq_iff_eq.mp a1]; decide)
    go_enter Try.func12, Try.ntmps12
    go_wp2
    go_ret
    exact ⟨ret_bool E.out.symm, rfl⟩
  cases a2 : (s.toList == [105, 110, 100, 101, 120])
  case true =>
    have E : Hid (callB s.toList = true) := Lib.hid (by rw [beq_iff_eq.mp a2]; decide)
    go_enter Try.func12, Try.ntmps12
    go_wp2
    go_ret
    exact ⟨ret_bool E.out.symm, rfl⟩
  cases a3 : (s.toList == [116, 111, 108, 111, 119, 101, 114])
  case true =>
    have E : Hid (callB s.toList = true) := Lib.hid (by rw [beq_iff_eq.mp a3]; decide)
    go_enter Try.func12, Try.ntmps12
    go_wp2
    go_ret
    exact ⟨ret_bool E.out.symm, rfl⟩
  cases a4 : (s.toList == [116, 111, 117, 112, 112, 101, 114])
  case true =>
    have E : Hid (callB s.toList = true) := Lib.hid (by rw [beq_iff_eq.mp a4]; decide)
    go_enter Try.func12, Try.ntmps12
    go_wp2
    go_ret
    exact ⟨ret_bool E.out.symm, rfl⟩
  cases a5 : (s.toList == [105, 110, 116])
  case true =>
    have E : Hid (callB s.toList = true) := Lib.hid (by rw [beq_iff_eq.mp a5]; decide)
    go_enter Try.func12, Try.ntmps12
    go_wp2
    go_ret
    exact ⟨ret_bool E.out.symm, rfl⟩
  cases a6 : (s.toList == [115, 112, 108, 105, 116])
  case true =>
    have E : Hid (callB s.toList = true) := Lib.hid (by rw [beq_iff_eq.mp a6]; decide)
    go_enter Try.func12, Try.ntmps12
    go_wp2
    go_ret
    exact ⟨ret_bool E.out.symm, rfl⟩
  cases a7 : (s.toList == [115, 117, 98])
  case true =>
    have E : Hid (callB s.toList = true) := Lib.hid (by rw [beq_iff_eq.mp a7]; decide)
    go_enter Try.func12, Try.ntmps12
    go_wp2
    go_ret
    exact ⟨ret_bool E.out.symm, rfl⟩
  cases a8 : (s.toList == [103, 115, 117, 98])
  case true =>
    have E : Hid (callB s.toList = true) := Lib.hid (by rw [beq_iff_eq.mp a8]; decide)
    go_enter Try.func12, Try.ntmps12
    go_wp2
    go_ret
    exact ⟨ret_bool E.out.symm, rfl⟩
  cases a9 : (s.toList == [109, 97, 116, 99, 104])
  case true =>
    have E : Hid (callB s.toList = true) := Lib.hid (by rw [beq_iff_eq.mp a9]; decide)
    go_enter Try.func12, Try.ntmps12
    go_wp2
    go_ret
    exact ⟨ret_bool E.out.symm, rfl⟩
  cases a10 : (s.toList == [115, 112, 114, 105, 110, 116, 102])
  case true =>
    have E : Hid (callB s.toList = true) := Lib.hid (by rw [beq_iff_eq.mp a10]; decide)
    go_enter Try.func12, Try.ntmps12
    go_wp2
    go_ret
    exact ⟨ret_bool E.out.symm, rfl⟩
  have C : Hid (callB s.toList = false) := Lib.hid (by
    rw [Bool.eq_false_iff]; intro g
    simp only [callB, callList, List.any_eq_true, List.mem_cons, List.not_mem_nil, or_false, beq_iff_eq] at g
    obtain ⟨x, hx, e⟩ := g
    rcases hx with rfl | rfl | rfl | rfl | rfl | rfl | rfl | rfl | rfl | rfl | rfl <;> simp_all)
  go_enter Try.func12, Try.ntmps12
  go_wp2
  go_ret
  exact ⟨ret_bool C.out.symm, rfl⟩
end Go.Proofs.Ytebeoijoljlhiaa.kit
