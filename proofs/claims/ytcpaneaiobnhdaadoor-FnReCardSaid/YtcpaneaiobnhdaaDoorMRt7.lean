/-
 Contracts of impl.timesText and spec.l04Often over this seat's translation: how often a kid stands. Conditions: the numbers of a right expression.
-/
import Derived.Test.YtcpaneaiobnhdaaDoorMRt4
import Derived.Test.YtcpaneaiobnhdaaDoorMTab0
import Derived.Test.YtcpaneaiobnhdaaDoorMRe5
namespace Go.Proofs.YtcpaneaiobnhdaaDoor.kit
open Go.ChangeShapes Go.WideShapes Go.ChangeAt Go.RowKit
set_option linter.unusedVariables false

def timT (lo hi : Int) : List UInt8 :=
 if lo = 0 ∧ hi = -1 then [42] else if lo = 1 ∧ hi = -1 then [43] else if lo = 0 ∧ hi = 1 then [63] else if hi = -1 then [123] ++ Lib.itoa lo ++ [44, 125] else if lo = hi then [123] ++ Lib.itoa lo ++ [125] else [123] ++ Lib.itoa lo ++ [44] ++ Lib.itoa hi ++ [125]
theorem itoa_fin : ∀ n : Fin 10, (Lib.itoa ((n : Nat) : Int)).length = 1 := by decide +kernel
theorem itoa_one {n : Int} (h0 : 0 ≤ n) (h1 : n ≤ 9) : (Lib.itoa n).length = 1 := by
 have h := itoa_fin ⟨n.toNat, by omega⟩
 rwa [show (((⟨n.toNat, by omega⟩ : Fin 10) : Nat) : Int) = n by simp; omega] at h
/-- The numbers of a right RMany. -/
def TimOk (lo hi : Int) : Prop := 0 ≤ lo ∧ lo ≤ 9 ∧ (hi = -1 ∨ lo ≤ hi ∧ hi ≤ 9)
theorem timT_len {lo hi : Int} (h : TimOk lo hi) : (timT lo hi).length ≤ 5 := by
 obtain ⟨h0, h1, h2⟩ := h
 have e1 := itoa_one h0 h1
 unfold timT
 split
 ·simp
 ·split
  ·simp
  ·split
   ·simp
   ·split
    ·simp [e1]
    ·split
     ·simp [e1]
     ·have e2 := itoa_one (n := hi) (by omega) (by omega)
      simp [e1, e2]
theorem j3 (a b c : List UInt8) : ((⟨a.toArray⟩ : ByteArray) ++ ⟨b.toArray⟩) ++ ⟨c.toArray⟩ = ⟨(a ++ b ++ c).toArray⟩ := by rw [app_lit, app_lit]
theorem j5 (a b c d e : List UInt8) : ((((⟨a.toArray⟩ : ByteArray) ++ ⟨b.toArray⟩) ++ ⟨c.toArray⟩) ++ ⟨d.toArray⟩) ++ ⟨e.toArray⟩ = ⟨(a ++ b ++ c ++ d ++ e).toArray⟩ := by rw [app_lit, app_lit, app_lit, app_lit]
set_option maxRecDepth 100000 in
set_option maxHeartbeats 4000000 in
theorem timesText_any (lo hi : Int) (w : World) (h : TimOk lo hi) (ht : Tab w) :
  Calls Tryd.prog 42 #[.int .i64 lo, .int .i64 hi] w fun e w' => e = .returned (.string ⟨(timT lo hi).toArray⟩) ∧ Below w.heap.size w w' := by
 obtain ⟨h0, h1, h2⟩ := h
 have HT := Lib.hid ht
 clear ht
 have HD := Lib.hid (fun W hW => implDec_any lo W (by omega) (by omega) hW)
 have HE := Lib.hid (fun W hW => implDec_any hi W (by omega) (by omega) hW)
 have e1 := itoa_one h0 h1
 have HX := Lib.hid (fun hh : hi ≠ -1 => itoa_one (n := hi) (by omega) (by omega))
 have HU := Lib.hid (show timT lo hi = _ from rfl)
 by_cases c1 : lo = 0 ∧ hi = -1
 ·obtain ⟨rfl, rfl⟩ := c1
  go_enter Tryd.func42, Tryd.ntmps42
  go_wp2_with fail
  go_ret
  exact ⟨rfl, Below.refl _ _⟩
 ·by_cases c2 : lo = 1 ∧ hi = -1
  ·obtain ⟨rfl, rfl⟩ := c2
   go_enter Tryd.func42, Tryd.ntmps42
   go_wp2_with fail
   go_ret
   exact ⟨rfl, Below.refl _ _⟩
  ·by_cases c3 : lo = 0 ∧ hi = 1
   ·obtain ⟨rfl, rfl⟩ := c3
    go_enter Tryd.func42, Tryd.ntmps42
    go_wp2_with fail
    go_ret
    exact ⟨rfl, Below.refl _ _⟩
   ·rw [timT, if_neg c1, if_neg c2, if_neg c3]
    clear HU
    by_cases c4 : hi = -1
    ·subst c4
     have d0 : (lo == 0) = false := by simp; omega
     have d1 : (lo == 1) = false := by simp; omega
     rw [if_pos rfl]
     clear c1 c2 c3 HX HE
     generalize Lib.itoa lo = L at *
     go_enter Tryd.func42, Tryd.ntmps42
     go_wp2_with fail
     refine (HD.out _ HT.out).mono ?_
     rintro e w1 ⟨rfl, hb1⟩
     go_wp2_with fail
     go_ret
     exact ⟨congrArg (fun t => Ending.returned (Value.string t)) (j3 [123] L [44, 125]), hb1⟩
    ·rw [if_neg c4]
     have d4 : (hi == -1) = false := by simpa using c4
     have e2 := HX.out c4
     by_cases c5 : lo = hi
     ·subst c5
      rw [if_pos rfl]
      clear c1 c2 c3 c4 d4 HX HE
      by_cases l0 : lo = 0
      ·subst l0
       generalize Lib.itoa 0 = L at *
       go_enter Tryd.func42, Tryd.ntmps42
       go_wp2_with fail
       refine (HD.out _ HT.out).mono ?_
       rintro e w1 ⟨rfl, hb1⟩
       go_wp2_with fail
       go_ret
       exact ⟨congrArg (fun t => Ending.returned (Value.string t)) (j3 [123] L [125]), hb1⟩
      ·by_cases l1 : lo = 1
       ·subst l1
        generalize Lib.itoa 1 = L at *
        go_enter Tryd.func42, Tryd.ntmps42
        go_wp2_with fail
        refine (HD.out _ HT.out).mono ?_
        rintro e w1 ⟨rfl, hb1⟩
        go_wp2_with fail
        go_ret
        exact ⟨congrArg (fun t => Ending.returned (Value.string t)) (j3 [123] L [125]), hb1⟩
       ·have d0 : (lo == 0) = false := by simpa using l0
        have d1 : (lo == 1) = false := by simpa using l1
        generalize Lib.itoa lo = L at *
        go_enter Tryd.func42, Tryd.ntmps42
        go_wp2_with fail
        refine (HD.out _ HT.out).mono ?_
        rintro e w1 ⟨rfl, hb1⟩
        go_wp2_with fail
        go_ret
        exact ⟨congrArg (fun t => Ending.returned (Value.string t)) (j3 [123] L [125]), hb1⟩
     ·rw [if_neg c5]
      by_cases l0 : lo = 0
      ·subst l0
       have d5 : ((0 : Int) == hi) = false := by simp; omega
       have d6 : (hi == 1) = false := by simp; omega
       generalize Lib.itoa 0 = L at *
       generalize Lib.itoa hi = M at *
       go_enter Tryd.func42, Tryd.ntmps42
       go_wp2_with fail
       refine (HD.out _ HT.out).mono ?_
       rintro e w1 ⟨rfl, hb1⟩
       have HB1 := Lib.hid hb1
       clear hb1
       go_wp2_with fail
       refine (HE.out _ (HT.out.on HB1.out)).mono ?_
       rintro e w2 ⟨rfl, hb2⟩
       have HB2 := Lib.hid (HB1.out.trans (hb2.mono HB1.out.size))
       clear hb2
       go_wp2_with fail
       go_ret
       exact ⟨congrArg (fun t => Ending.returned (Value.string t)) (j5 [123] L [44] M [125]), HB2.out⟩
      ·by_cases l1 : lo = 1
       ·subst l1
        have d5 : ((1 : Int) == hi) = false := by simp; omega
        generalize Lib.itoa 1 = L at *
        generalize Lib.itoa hi = M at *
        go_enter Tryd.func42, Tryd.ntmps42
        go_wp2_with fail
        refine (HD.out _ HT.out).mono ?_
        rintro e w1 ⟨rfl, hb1⟩
        have HB1 := Lib.hid hb1
        clear hb1
        go_wp2_with fail
        refine (HE.out _ (HT.out.on HB1.out)).mono ?_
        rintro e w2 ⟨rfl, hb2⟩
        have HB2 := Lib.hid (HB1.out.trans (hb2.mono HB1.out.size))
        clear hb2
        go_wp2_with fail
        go_ret
        exact ⟨congrArg (fun t => Ending.returned (Value.string t)) (j5 [123] L [44] M [125]), HB2.out⟩
       ·have d0 : (lo == 0) = false := by simpa using l0
        have d1 : (lo == 1) = false := by simpa using l1
        have d5 : (lo == hi) = false := by simpa using c5
        generalize Lib.itoa lo = L at *
        generalize Lib.itoa hi = M at *
        go_enter Tryd.func42, Tryd.ntmps42
        go_wp2_with fail
        refine (HD.out _ HT.out).mono ?_
        rintro e w1 ⟨rfl, hb1⟩
        have HB1 := Lib.hid hb1
        clear hb1
        go_wp2_with fail
        refine (HE.out _ (HT.out.on HB1.out)).mono ?_
        rintro e w2 ⟨rfl, hb2⟩
        have HB2 := Lib.hid (HB1.out.trans (hb2.mono HB1.out.size))
        clear hb2
        go_wp2_with fail
        go_ret
        exact ⟨congrArg (fun t => Ending.returned (Value.string t)) (j5 [123] L [44] M [125]), HB2.out⟩
end Go.Proofs.YtcpaneaiobnhdaaDoor.kit
