/-
 Contract of spec.l04Often over this seat's translation: how often a kid stands. Conditions: the numbers of a right expression.
-/
import Derived.Test.YtcpaneaiobnhdaaDoorMRt7
import Derived.Test.YtcpaneaiobnhdaaDoorMDec
import Derived.Test.YtcpaneaiobnhdaaDoorMHeld
import Derived.Deep.RegionHeld3
namespace Go.Proofs.YtcpaneaiobnhdaaDoor.kit
open Go.ChangeShapes Go.WideShapes Go.ChangeAt Go.RowKit
set_option linter.unusedVariables false

set_option maxRecDepth 100000 in
set_option maxHeartbeats 4000000 in
theorem l04Often_any (kk : Int) (s : ByteArray) (n : Bool) (lo hi : Int) (a : Option Addr) (m cap : Nat) (w : World) (h : TimOk lo hi) :
  Calls Tryd.prog 47 #[.agg #[.int .i64 kk, .string s, .bool n, .int .i64 lo, .int .i64 hi, .slice a m cap]] w fun e w' => e = .returned (.string ⟨(timT lo hi).toArray⟩) ∧ Below w.heap.size w w' := by
 obtain ⟨h0, h1, h2⟩ := h
 have HD := Lib.hid (fun W => specDec_any lo W (by omega) (by omega))
 have HE := Lib.hid (fun W => specDec_any hi W (by omega) (by omega))
 have HB := Lib.hid (show ∀ o, Below w.heap.size w (w.alloc o) from fun o => (Below.refl w.heap.size w).alloc (Nat.le_refl _) _)
 have e1 := itoa_one h0 h1
 have HX := Lib.hid (fun hh : hi ≠ -1 => itoa_one (n := hi) (by omega) (by omega))
 by_cases c1 : lo = 0 ∧ hi = -1
 ·obtain ⟨rfl, rfl⟩ := c1
  go_enter Tryd.func47, Tryd.ntmps47
  go_wp2_with fail
  go_ret
  exact ⟨rfl, HB.out _⟩
 ·by_cases c2 : lo = 1 ∧ hi = -1
  ·obtain ⟨rfl, rfl⟩ := c2
   go_enter Tryd.func47, Tryd.ntmps47
   go_wp2_with fail
   go_ret
   exact ⟨rfl, HB.out _⟩
  ·by_cases c3 : lo = 0 ∧ hi = 1
   ·obtain ⟨rfl, rfl⟩ := c3
    go_enter Tryd.func47, Tryd.ntmps47
    go_wp2_with fail
    go_ret
    exact ⟨rfl, HB.out _⟩
   ·rw [timT, if_neg c1, if_neg c2, if_neg c3]
    by_cases c4 : hi = -1
    ·subst c4
     have d0 : (lo == 0) = false := by simp; omega
     have d1 : (lo == 1) = false := by simp; omega
     have d2 : (-1 == lo) = false := by simp; omega
     rw [if_pos rfl]
     clear c1 c2 c3 HX HE
     generalize Lib.itoa lo = L at *
     go_enter Tryd.func47, Tryd.ntmps47
     go_wp2_with fail
     refine (HD.out _).mono ?_
     rintro e w1 ⟨rfl, rfl⟩
     go_wp2_with fail
     go_ret
     exact ⟨congrArg (fun t => Ending.returned (Value.string t)) (j3 [123] L [44, 125]), HB.out _⟩
    ·rw [if_neg c4]
     have d4 : (hi == -1) = false := by simpa using c4
     have e2 := HX.out c4
     by_cases c5 : lo = hi
     ·subst c5
      rw [if_pos rfl]
      clear c1 c2 c3 c4 d4 HX HE
      by_cases l0 : lo = 0
      ·subst l0
       generalize Lib.itoa 0 = L at *
       go_enter Tryd.func47, Tryd.ntmps47
       go_wp2_with fail
       refine (HD.out _).mono ?_
       rintro e w1 ⟨rfl, rfl⟩
       go_wp2_with fail
       go_ret
       exact ⟨congrArg (fun t => Ending.returned (Value.string t)) (j3 [123] L [125]), HB.out _⟩
      ·by_cases l1 : lo = 1
       ·subst l1
        generalize Lib.itoa 1 = L at *
        go_enter Tryd.func47, Tryd.ntmps47
        go_wp2_with fail
        refine (HD.out _).mono ?_
        rintro e w1 ⟨rfl, rfl⟩
        go_wp2_with fail
        go_ret
        exact ⟨congrArg (fun t => Ending.returned (Value.string t)) (j3 [123] L [125]), HB.out _⟩
       ·have d0 : (lo == 0) = false := by simpa using l0
        have d1 : (lo == 1) = false := by simpa using l1
        generalize Lib.itoa lo = L at *
        go_enter Tryd.func47, Tryd.ntmps47
        go_wp2_with fail
        refine (HD.out _).mono ?_
        rintro e w1 ⟨rfl, rfl⟩
        go_wp2_with fail
        go_ret
        exact ⟨congrArg (fun t => Ending.returned (Value.string t)) (j3 [123] L [125]), HB.out _⟩
     ·rw [if_neg c5]
      by_cases l0 : lo = 0
      ·subst l0
       have d5 : (hi == 0) = false := by simp; omega
       have d6 : (hi == 1) = false := by simp; omega
       clear HD HE HX c1 c2 c3 c4 c5
       have HH := Lib.hid (Held.start (W := (w.alloc (.cells #[.int .i64 kk, .string s, .bool n, .int .i64 0, .int .i64 hi, .slice a m cap] 26))) (l := [(w.heap.size, 3, .int .i64 0), (w.heap.size, 4, .int .i64 hi)]) (by refine ⟨?_, ?_, trivial⟩ <;> (rw [World.cell?_alloc_at _ _ _ _ rfl]; rfl)))
       go_enter Tryd.func47, Tryd.ntmps47
       go_wp2_with fail
       go_region_held3 (fun w' => (w'.cell? ⟨w.heap.size, 3, none⟩ = some (.int .i64 0) ∧ w'.cell? ⟨w.heap.size, 4, none⟩ = some (.int .i64 hi) ∧ True) ∧ Below (w.alloc (.cells #[.int .i64 kk, .string s, .bool n, .int .i64 0, .int .i64 hi, .slice a m cap] 26)).heap.size (w.alloc (.cells #[.int .i64 kk, .string s, .bool n, .int .i64 0, .int .i64 hi, .slice a m cap] 26)) w') (first | exact HH.out | assumption) (first | (go_at_call 64; refine (specDec_any _ _ (by omega) (by omega)).mono ?_; rintro e wz ⟨rfl, rfl⟩))
       all_goals
        have hfin := Held.below (l := [(w.heap.size, 3, .int .i64 0), (w.heap.size, 4, .int .i64 hi)]) (W := (w.alloc (.cells #[.int .i64 kk, .string s, .bool n, .int .i64 0, .int .i64 hi, .slice a m cap] 26))) (by assumption)
        go_wp2_with fail
        go_ret
        exact ⟨congrArg (fun t => Ending.returned (Value.string t)) (j5 [123] (Lib.itoa 0) [44] (Lib.itoa hi) [125]), (HB.out _).trans (hfin.mono (HB.out _).size)⟩
      ·by_cases l1 : lo = 1
       ·subst l1
        have d5 : (hi == 1) = false := by simp; omega
        clear HD HE HX c1 c2 c3 c4 c5
        have HH := Lib.hid (Held.start (W := (w.alloc (.cells #[.int .i64 kk, .string s, .bool n, .int .i64 1, .int .i64 hi, .slice a m cap] 26))) (l := [(w.heap.size, 3, .int .i64 1), (w.heap.size, 4, .int .i64 hi)]) (by refine ⟨?_, ?_, trivial⟩ <;> (rw [World.cell?_alloc_at _ _ _ _ rfl]; rfl)))
        go_enter Tryd.func47, Tryd.ntmps47
        go_wp2_with fail
        go_region_held3 (fun w' => (w'.cell? ⟨w.heap.size, 3, none⟩ = some (.int .i64 1) ∧ w'.cell? ⟨w.heap.size, 4, none⟩ = some (.int .i64 hi) ∧ True) ∧ Below (w.alloc (.cells #[.int .i64 kk, .string s, .bool n, .int .i64 1, .int .i64 hi, .slice a m cap] 26)).heap.size (w.alloc (.cells #[.int .i64 kk, .string s, .bool n, .int .i64 1, .int .i64 hi, .slice a m cap] 26)) w') (first | exact HH.out | assumption) (first | (go_at_call 64; refine (specDec_any _ _ (by omega) (by omega)).mono ?_; rintro e wz ⟨rfl, rfl⟩))
        all_goals
         have hfin := Held.below (l := [(w.heap.size, 3, .int .i64 1), (w.heap.size, 4, .int .i64 hi)]) (W := (w.alloc (.cells #[.int .i64 kk, .string s, .bool n, .int .i64 1, .int .i64 hi, .slice a m cap] 26))) (by assumption)
         go_wp2_with fail
         go_ret
         exact ⟨congrArg (fun t => Ending.returned (Value.string t)) (j5 [123] (Lib.itoa 1) [44] (Lib.itoa hi) [125]), (HB.out _).trans (hfin.mono (HB.out _).size)⟩
       ·have d0 : (lo == 0) = false := by simpa using l0
        have d1 : (lo == 1) = false := by simpa using l1
        have d5 : (hi == lo) = false := by simp; omega
        clear HD HE HX c1 c2 c3 c4 c5
        have HH := Lib.hid (Held.start (W := (w.alloc (.cells #[.int .i64 kk, .string s, .bool n, .int .i64 lo, .int .i64 hi, .slice a m cap] 26))) (l := [(w.heap.size, 3, .int .i64 lo), (w.heap.size, 4, .int .i64 hi)]) (by refine ⟨?_, ?_, trivial⟩ <;> (rw [World.cell?_alloc_at _ _ _ _ rfl]; rfl)))
        go_enter Tryd.func47, Tryd.ntmps47
        go_wp2_with fail
        go_region_held3 (fun w' => (w'.cell? ⟨w.heap.size, 3, none⟩ = some (.int .i64 lo) ∧ w'.cell? ⟨w.heap.size, 4, none⟩ = some (.int .i64 hi) ∧ True) ∧ Below (w.alloc (.cells #[.int .i64 kk, .string s, .bool n, .int .i64 lo, .int .i64 hi, .slice a m cap] 26)).heap.size (w.alloc (.cells #[.int .i64 kk, .string s, .bool n, .int .i64 lo, .int .i64 hi, .slice a m cap] 26)) w') (first | exact HH.out | assumption) (first | (go_at_call 64; refine (specDec_any _ _ (by omega) (by omega)).mono ?_; rintro e wz ⟨rfl, rfl⟩))
        all_goals
         have hfin := Held.below (l := [(w.heap.size, 3, .int .i64 lo), (w.heap.size, 4, .int .i64 hi)]) (W := (w.alloc (.cells #[.int .i64 kk, .string s, .bool n, .int .i64 lo, .int .i64 hi, .slice a m cap] 26))) (by assumption)
         go_wp2_with fail
         go_ret
         exact ⟨congrArg (fun t => Ending.returned (Value.string t)) (j5 [123] (Lib.itoa lo) [44] (Lib.itoa hi) [125]), (HB.out _).trans (hfin.mono (HB.out _).size)⟩
end Go.Proofs.YtcpaneaiobnhdaaDoor.kit
