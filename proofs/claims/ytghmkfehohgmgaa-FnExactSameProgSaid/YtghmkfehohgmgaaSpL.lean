/-
  Proves FnExactSameProgSaid: for every two programs, impl.SameProg answers as spec.SameProg does, and the law returns true and leaves its arguments as they were. Conditions: none beyond the row's own (its cell 'loops': the arguments' reading comes to an end).
-/
import Derived.Test.YtghmkfehohgmgaaSp1
namespace Go.Proofs.Ytghmkfehohgmgaa.fnExactSameProg
open Go.ChangeShapes Go.WideShapes Go.ChangeAt Go.RowKit
open Go.ChangeMaps (open_string shut_string)
open Go.Proofs.Ytghmkfehohgmgaa.kit
set_option linter.unusedVariables false

theorem laidOutP : laidOutB Try.pinned.checked.prog = true := by kernel_rfl
theorem rules_pos {B : Nat} {w : World} {ts : List RuD} {a : Option Addr} (h : Rules B w ts a) (hn : 0 < ts.length) : 0 < w.heap.size := by
  obtain ⟨ap, cp, ab, cb, ⟨b, o, e, _, hb, _⟩, _⟩ := h 0 hn
  omega
set_option maxRecDepth 100000 in
set_option maxHeartbeats 2000000 in
theorem walk (ts : List RuD) (a : Option Addr) (cap : Nat) (us : List RuD) (a' : Option Addr) (cap' : Nat) (w : World) (hk : Rules 0 w ts a) (hl : ts.length ≤ maxLen) (hk' : Rules 0 w us a') (hl' : us.length ≤ maxLen) :
    Calls Try.prog 3 #[.slice a ts.length cap, .slice a' us.length cap'] w fun e w' => e = .returned (.bool true) ∧ Below w.heap.size w w' := by
  have HK := Lib.hid hk
  have HK' := Lib.hid hk'
  have HZ := Lib.hid (fun W (h : Rules 0 W ts a) => szRuleS_any ts a cap 1048576 W h hl (by omega) (by omega))
  by_cases hb : (RuD.bill ts : Int) ≤ 1048576
  · have HZ2 := Lib.hid (fun W (h : Rules 0 W us a') => szRuleS_any us a' cap' (1048576 - (RuD.bill ts : Int)) W h hl' (by omega) (by omega))
    rw [leftOf_pos hb] at HZ
    have h0 : 0 ≤ 1048576 - (RuD.bill ts : Int) := by omega
    by_cases hb2 : (RuD.bill us : Int) ≤ 1048576 - (RuD.bill ts : Int)
    · rw [leftOf_pos hb2] at HZ2
      have h1 : 0 ≤ 1048576 - (RuD.bill ts : Int) - (RuD.bill us : Int) := by omega
      have k1 : RuD.bill ts ≤ 1048576 := by omega
      have k2 : RuD.bill us ≤ 1048576 := by omega
      have HT := Lib.hid (fun W (h : Rules 0 W ts a) => toRuleS_any ts a cap W h k1)
      have HU := Lib.hid (fun W (h : Rules 0 W us a') => toRuleS_any us a' cap' W h k2)
      have HSP := Lib.hid (fun W x c y d (h : Rules 0 W ts x) (h' : Rules 0 W us y) => specSameProg_any ts us x c y d W h h' k1 k2)
      have HIM := Lib.hid (fun W x c y d B (h : Rules B W ts x) (h' : Rules B W us y) (hB : 0 < ts.length → B ≠ 0) (hBw : B ≤ W.heap.size) => implSameProg_any ts us B x c y d W h h' k1 k2 hB hBw)
      have HE := Lib.hid (fun W x c y d (h : Rules 0 W ts x) (h' : Rules 0 W ts y) => eqRuleS_any ts x c y d W h h' k1)
      have HF := Lib.hid (fun W x c y d (h : Rules 0 W us x) (h' : Rules 0 W us y) => eqRuleS_any us x c y d W h h' k2)
      clear hk hk' hl hl' hb hb2 k1 k2
      generalize RuD.sames ts us = r at *
      generalize (RuD.bill ts : Int) = bt at *
      generalize (RuD.bill us : Int) = bu at *
      go_enter Try.func3, Try.ntmps3
      go_wp2_with fail
      refine (HZ.out _ HK.out).mono ?_
      rintro e w1 ⟨rfl, b1⟩
      have B1 := Lib.hid b1
      clear b1
      go_wp2_with fail
      refine (HZ2.out _ (HK'.out.kept (Nat.le_refl _) B1.out)).mono ?_
      rintro e w2 ⟨rfl, b2⟩
      have B2 := Lib.hid (B1.out.trans (b2.mono B1.out.size))
      clear b2
      go_wp2_with fail
      refine (HT.out _ (HK.out.kept (Nat.le_refl _) B2.out)).mono ?_
      rintro e w3 ⟨a3, c3, rfl, r3, b3⟩
      have B3 := Lib.hid (B2.out.trans (b3.mono B2.out.size))
      have R3 := Lib.hid (r3.mono (Nat.zero_le _))
      clear b3 r3
      go_wp2_with fail
      refine (HU.out _ (HK'.out.kept (Nat.le_refl _) B3.out)).mono ?_
      rintro e w4 ⟨a4, c4, rfl, r4, b4⟩
      have B4 := Lib.hid (B3.out.trans (b4.mono B3.out.size))
      have R4 := Lib.hid (r4.mono (Nat.zero_le _))
      have S4 := Lib.hid (R3.out.kept (Nat.le_refl _) b4)
      have Z4 := Lib.hid (fun h => Nat.lt_of_lt_of_le (rules_pos R3.out h) b4.size)
      clear b4 r4
      go_wp2_with fail
      refine (HSP.out _ a3 c3 a4 c4 S4.out R4.out).mono ?_
      rintro e w5 ⟨rfl, b5⟩
      have B5 := Lib.hid (B4.out.trans (b5.mono B4.out.size))
      have Z5 := Lib.hid (fun h => Nat.lt_of_lt_of_le (Z4.out h) b5.size)
      clear b5
      go_wp2_with fail
      refine (HT.out _ (HK.out.kept (Nat.le_refl _) B5.out)).mono ?_
      rintro e w6 ⟨a6, c6, rfl, r6, b6⟩
      have B6 := Lib.hid (B5.out.trans (b6.mono B5.out.size))
      have R6 := Lib.hid r6
      have Z6 := Lib.hid b6.size
      clear b6 r6
      go_wp2_with fail
      refine (HU.out _ (HK'.out.kept (Nat.le_refl _) B6.out)).mono ?_
      rintro e w7 ⟨a7, c7, rfl, r7, b7⟩
      have B7 := Lib.hid (B6.out.trans (b7.mono B6.out.size))
      have R7 := Lib.hid (r7.mono Z6.out)
      have S7 := Lib.hid (R6.out.kept (Nat.le_refl _) b7)
      have Z7 := Lib.hid (Nat.le_trans Z6.out b7.size)
      clear b7 r7
      go_wp2_with fail
      refine (HIM.out _ a6 c6 a7 c7 w5.heap.size S7.out R7.out (fun h => by have := Z5.out h; omega) Z7.out).mono ?_
      rintro e w8 ⟨rfl, b8⟩
      have B8 := Lib.hid (B7.out.trans (b8.mono B7.out.size))
      have R8 := Lib.hid ((R7.out.mono (Nat.zero_le _)).kept (Nat.le_refl _) b8)
      have S8 := Lib.hid ((S7.out.mono (Nat.zero_le _)).kept (Nat.le_refl _) b8)
      clear b8
      go_wp2_with fail
      refine (HT.out _ (HK.out.kept (Nat.le_refl _) B8.out)).mono ?_
      rintro e w9 ⟨a9, c9, rfl, r9, b9⟩
      have B9 := Lib.hid (B8.out.trans (b9.mono B8.out.size))
      have Q9 := Lib.hid (r9.mono (Nat.zero_le _))
      have R9 := Lib.hid (R8.out.kept (Nat.le_refl _) b9)
      have S9 := Lib.hid (S8.out.kept (Nat.le_refl _) b9)
      clear b9 r9
      go_wp2_with fail
      refine (HE.out _ a6 c6 a9 c9 S9.out Q9.out).mono ?_
      rintro e w10 ⟨rfl, b10⟩
      have B10 := Lib.hid (B9.out.trans (b10.mono B9.out.size))
      have R10 := Lib.hid (R9.out.kept (Nat.le_refl _) b10)
      clear b10
      go_wp2_with fail
      refine (HU.out _ (HK'.out.kept (Nat.le_refl _) B10.out)).mono ?_
      rintro e w11 ⟨a11, c11, rfl, r11, b11⟩
      have B11 := Lib.hid (B10.out.trans (b11.mono B10.out.size))
      have Q11 := Lib.hid (r11.mono (Nat.zero_le _))
      have R11 := Lib.hid (R10.out.kept (Nat.le_refl _) b11)
      clear b11 r11
      go_wp2_with fail
      refine (HF.out _ a7 c7 a11 c11 R11.out Q11.out).mono ?_
      rintro e w12 ⟨rfl, b12⟩
      go_wp2_with fail
      go_ret
      exact ⟨rfl, B11.out.trans (b12.mono B11.out.size)⟩
    · rw [leftOf_neg (by omega)] at HZ2
      clear hb2
      generalize (RuD.bill ts : Int) = bt at *
      go_enter Try.func3, Try.ntmps3
      go_wp2_with fail
      refine (HZ.out _ HK.out).mono ?_
      rintro e w1 ⟨rfl, b1⟩
      have B1 := Lib.hid b1
      clear b1
      go_wp2_with fail
      refine (HZ2.out _ (HK'.out.kept (Nat.le_refl _) B1.out)).mono ?_
      rintro e w2 ⟨rfl, b2⟩
      go_wp2_with fail
      go_ret
      exact ⟨rfl, B1.out.trans (b2.mono B1.out.size)⟩
  · rw [leftOf_neg (by omega)] at HZ
    go_enter Try.func3, Try.ntmps3
    go_wp2_with fail
    refine (HZ.out _ HK.out).mono ?_
    rintro e w1 ⟨rfl, b1⟩
    go_wp2_with fail
    go_ret
    exact ⟨rfl, b1⟩

theorem own : ownKnob Try.prog.godebug = none := by kernel_rfl

set_option maxRecDepth 100000 in
theorem lifted (os : Os) (started : os.Started) (H : Type) (enc : TypeId × Value → H) :
    ReturnsInHanded {} Try.checked os 3 .any (Rows.fnExactSameProgSpec.pre6 enc Try.prog Try.f3 Rows.fnExactSameProgRow.domain false) (Rows.fnExactSameProgSpec.post enc Try.prog Try.f3 false true false false) := by
  refine returnsInHanded_of_change (C := Try.checked) own started (by kernel_rfl) Try.func3
    (ChangeSpec.witness6 (enc := enc) (C := Try.checked) false ⟨#[], #[.slice none 0 0, .slice none 0 0], []⟩ 8 (by kernel_rfl) (by kernel_rfl) (by kernel_rfl) (by kernel_rfl)) ?_
  intro W base args ds gs before hval0 hW hcnd _
  have hval : ∀ (j : Nat) t v, Try.f3.params[j]? = some t → args[j]? = some v → Value.okWide Try.prog W .any base t v := hval0
  have hW' := hW
  obtain ⟨p, q, hA0, hV, rfl, hfz, hnd⟩ := hW
  have hA : DataW.TrodAll enc Try.prog W 0 (fun _ => true) true Try.f3.params.toList args.toList ds p := hA0
  rw [Try.params3] at hA hval
  obtain ⟨v0, vs0, d0, ds0, p0, q0, hargs, rfl, rfl, h0, r0⟩ := trodAll_cons hA
  obtain ⟨v1, vs1, d1, ds1, p1, q1, rfl, rfl, rfl, h1, r1⟩ := trodAll_cons r0
  obtain ⟨rfl, rfl, rfl⟩ := trodAll_nil r1
  obtain rfl : args = #[v0, v1] := by cases args; simp_all
  obtain ⟨rfl, rfl⟩ := trodVars_none hV
  obtain ⟨t0, a0, c0, rfl, hk0, hl0⟩ := open_rules (hval 0 22 v0 rfl rfl) h0
  have hlt0 : ∀ x ∈ p0, x.block < W.heap.size := fun x hx => by simpa using hW'.lt x (by simp [hx])
  obtain ⟨t1, a1, c1, rfl, hk1, hl1⟩ := open_rules (hval 1 22 v1 rfl rfl) h1
  have hlt1 : ∀ x ∈ p1, x.block < W.heap.size := fun x hx => by simpa using hW'.lt x (by simp [hx])
  clear hA0 hval0
  refine (walk t0 a0 c0 t1 a1 c1 W hk0 hl0 hk1 hl1).mono fun e W' ⟨he, bel⟩ => ?_
  subst he
  exact ⟨_, rfl, _, _, _, [], _, [], hW', trodAll_mk1 (shut_bool Try.underlying4 _), (trodAll_cons_mk (Below.trod laidOutP (by kernel_rfl) (of_decide_eq_true (by kernel_rfl)) h0 bel hlt0) (trodAll_cons_mk (Below.trod laidOutP (by kernel_rfl) (of_decide_eq_true (by kernel_rfl)) h1 bel hlt1) trodAll_mk0)), rfl, bel.frame _, fun h => by cases h⟩

theorem over : Rows.fnExactSameProgRow.holds Try.pinned (OpenSpec.ofChange Rows.fnExactSameProgSpec) :=
  OpenClaim.holds_of_wide 3 Try.f3 rfl rfl rfl rfl rfl rfl rfl ⟨rfl, rfl, rfl, rfl, rfl⟩ rfl rfl rfl rfl rfl (by kernel_rfl) Try.func3 (by kernel_rfl)
    (of_decide_eq_true (by kernel_rfl)) (by unfold Func.isWrapper; first | (rw [if_pos (by decide +kernel)]; kernel_rfl) | (rw [if_neg (by decide +kernel)]; exact ⟨rfl, rfl⟩))
    (fun os started H enc _ => lifted os started H enc)

theorem proved : Rows.FnExactSameProgSaid := over
#print axioms proved
end Go.Proofs.Ytghmkfehohgmgaa.fnExactSameProg
