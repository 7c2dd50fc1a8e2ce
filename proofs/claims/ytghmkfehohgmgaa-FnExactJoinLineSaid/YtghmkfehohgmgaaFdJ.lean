/-
  Proves FnExactJoinLineSaid: for every list of texts and every text, impl.JoinLine answers as spec.JoinLine does, and the law returns true and leaves its arguments as they were. Conditions: none beyond the row's own.
-/
import Derived.Test.YtghmkfehohgmgaaFd4
namespace Go.Proofs.Ytghmkfehohgmgaa.fnExactJoinLine
open Go.ChangeShapes Go.WideShapes Go.ChangeAt Go.RowKit
open Go.ChangeMaps (open_string shut_string)
open Go.Proofs.Ytghmkfehohgmgaa.kit
set_option linter.unusedVariables false

set_option maxRecDepth 100000 in
set_option maxHeartbeats 1000000 in
theorem walk (ts : List (List UInt8)) (a : Option Addr) (cap : Nat) (o : ByteArray) (w : World) (hk : Strs w ts a) (hl : ts.length ≤ maxLen) (ho : o.size ≤ maxLen) :
    Calls Try.prog 5 #[.slice a ts.length cap, .string o] w fun e w' => e = .returned (.bool true) ∧ Below w.heap.size w w' := by
  have HK := Lib.hid hk
  have HZ := Lib.hid (fun W (h : Strs W ts a) => szStrs_any ts a cap 1048576 W h hl (by omega) (by omega))
  by_cases co : o.size ≤ 1048576
  · have co2 : ¬ (1048576 : Int) < (o.size : Int) := by omega
    by_cases hb : (billF ts : Int) ≤ 1048576
    · have hl2 : ts.length ≤ 1048576 := by simp only [billF] at hb; omega
      rw [leftF_pos hb] at HZ
      have h0 : 0 ≤ 1048576 - (billF ts : Int) := by omega
      have HT := Lib.hid (fun W (h : Strs W ts a) => toStrs_any ts a cap W h hl2)
      have hn2 : ts.length ≤ 2000000 := by omega
      have HE := Lib.hid (fun W a1 a2 c1 c2 B C (h1 : SlF B W a1 ts.length (fun j => ts.getD j [])) (h2 : SlF C W a2 ts.length (fun j => ts.getD j [])) => eq_any B C a1 a2 c1 c2 ts.length _ W hn2 h1 h2)
      have hj : (joinF ts.length (fun j => ts.getD j []) o.data.toList).length ≤ 140737488355328 := by
        rw [joinF_length, lensF_list]
        have h1 : o.data.toList.length ≤ 1048576 := by simpa using co
        have h2 := Nat.mul_le_mul h1 (show ts.length - 1 ≤ 1048576 by omega)
        simp only [billF] at hb
        omega
      have eo : eS o.data.toList = .string o := by simp [eS]
      have HSP := Lib.hid (fun W a1 c1 B (h1 : SlF B W a1 ts.length (fun j => ts.getD j [])) => specJoin_any B a1 c1 ts.length _ o.data.toList W hn2 hj h1)
      have HIM := Lib.hid (fun W a1 c1 B (hd : Laid ts.length c1 a1 W) (h1 : SlF B W a1 ts.length (fun j => ts.getD j [])) => implJoin_any B a1 c1 ts.length _ o.data.toList W hn2 hj hd h1)
      rw [eo] at HSP HIM
      clear hj eo
      generalize joinF ts.length (fun j => ts.getD j []) o.data.toList = r at HSP HIM
      clear hk hl hb co ho
      unfold eS at HSP HIM
      generalize (⟨r.toArray⟩ : ByteArray) = r at HSP HIM
      generalize (billF ts : Int) = bl at *
      go_enter Try.func5, Try.ntmps5
      go_wp2_with fail
      refine (HZ.out _ HK.out).mono ?_
      rintro e w1 ⟨rfl, b1⟩
      have B1 := Lib.hid b1
      clear b1
      go_wp2_with fail
      refine (HT.out _ (HK.out.kept (Nat.le_refl _) B1.out)).mono ?_
      rintro e w2 ⟨a2, c2, rfl, hk2, hc2, b2⟩
      have B2 := Lib.hid (B1.out.trans (b2.mono B1.out.size))
      have K2 := Lib.hid hk2
      clear b2 hk2 hc2
      go_wp2_with fail
      refine (HSP.out _ a2 c2 _ K2.out).mono ?_
      rintro e w3 ⟨rfl, b3⟩
      have B3 := Lib.hid (B2.out.trans (b3.mono B2.out.size))
      clear b3
      go_wp2_with fail
      refine (HT.out _ (HK.out.kept (Nat.le_refl _) B3.out)).mono ?_
      rintro e w4 ⟨a4, c4, rfl, hk4, hc4, b4⟩
      have B4 := Lib.hid (B3.out.trans (b4.mono B3.out.size))
      have K4 := Lib.hid hk4
      have C4 := Lib.hid hc4
      clear b4 hk4 hc4
      go_wp2_with fail
      refine (HIM.out _ a4 c4 _ C4.out K4.out).mono ?_
      rintro e w5 ⟨rfl, b5⟩
      have B5 := Lib.hid (B4.out.trans (b5.mono B4.out.size))
      have K5 := Lib.hid (K4.out.kept b5)
      clear b5
      go_wp2_with fail
      refine (HT.out _ (HK.out.kept (Nat.le_refl _) B5.out)).mono ?_
      rintro e w6 ⟨a6, c6, rfl, hk6, hc6, b6⟩
      have B6 := Lib.hid (B5.out.trans (b6.mono B5.out.size))
      have K6 := Lib.hid hk6
      have K7 := Lib.hid (K5.out.kept b6)
      clear b6 hk6 hc6
      go_wp2_with fail
      refine (HE.out _ a4 a6 c4 c6 _ _ K7.out K6.out).mono ?_
      rintro e w7 ⟨rfl, b7⟩
      go_wp2_with fail
      go_ret
      exact ⟨rfl, B6.out.trans (b7.mono B6.out.size)⟩
    · rw [leftF_neg (by omega)] at HZ
      go_enter Try.func5, Try.ntmps5
      go_wp2_with fail
      refine (HZ.out _ HK.out).mono ?_
      rintro e w1 ⟨rfl, b1⟩
      go_wp2_with fail
      go_ret
      exact ⟨rfl, b1⟩
  · have co2 : (1048576 : Int) < (o.size : Int) := by omega
    go_enter Try.func5, Try.ntmps5
    go_wp2_with fail
    go_ret
    exact ⟨rfl, Below.refl _ _⟩

theorem own : ownKnob Try.prog.godebug = none := by kernel_rfl

set_option maxRecDepth 100000 in
theorem lifted (os : Os) (started : os.Started) (H : Type) (enc : TypeId × Value → H) :
    ReturnsInHanded {} Try.checked os 5 .any (Rows.fnExactJoinLineSpec.pre6 enc Try.prog Try.f5 Rows.fnExactJoinLineRow.domain false) (Rows.fnExactJoinLineSpec.post enc Try.prog Try.f5 false true false false) := by
  refine returnsInHanded_of_change (C := Try.checked) own started (by kernel_rfl) Try.func5
    (ChangeSpec.witness6 (enc := enc) (C := Try.checked) false ⟨#[], #[.slice none 0 0, .string ⟨#[]⟩], []⟩ 8 (by kernel_rfl) (by kernel_rfl) (by kernel_rfl) (by kernel_rfl)) ?_
  intro W base args ds gs before hval0 hW hcnd _
  have hval : ∀ (j : Nat) t v, Try.f5.params[j]? = some t → args[j]? = some v → Value.okWide Try.prog W .any base t v := hval0
  have hW' := hW
  obtain ⟨p, q, hA0, hV, rfl, hfz, hnd⟩ := hW
  have hA : DataW.TrodAll enc Try.prog W 0 (fun _ => true) true Try.f5.params.toList args.toList ds p := hA0
  rw [Try.params5] at hA hval
  obtain ⟨v0, vs0, d0, ds0, p0, q0, hargs, rfl, rfl, h0, r0⟩ := trodAll_cons hA
  obtain ⟨v1, vs1, d1, ds1, p1, q1, rfl, rfl, rfl, h1, r1⟩ := trodAll_cons r0
  obtain ⟨rfl, rfl, rfl⟩ := trodAll_nil r1
  obtain rfl : args = #[v0, v1] := by cases args; simp_all
  obtain ⟨rfl, rfl⟩ := trodVars_none hV
  obtain ⟨t0, a0, c0, rfl, hk0, hl0⟩ := open_strs (hval 0 28 v0 rfl rfl) h0
  have hlt0 : ∀ x ∈ p0, x.block < W.heap.size := fun x hx => by simpa using hW'.lt x (by simp [hx])
  obtain ⟨s1, rfl, rfl, rfl, hs1⟩ := open_string Try.underlying9 (hval 1 9 v1 rfl rfl) h1
  clear hA0 hval0
  refine (walk t0 a0 c0 s1 W hk0 hl0 hs1).mono fun e W' ⟨he, bel⟩ => ?_
  subst he
  exact ⟨_, rfl, _, _, _, [], _, [], hW', trodAll_mk1 (shut_bool Try.underlying4 _), (trodAll_cons_mk (Below.trod laidOutF (by kernel_rfl) (of_decide_eq_true (by kernel_rfl)) h0 bel hlt0) (trodAll_cons_mk (shut_string Try.underlying9 hs1) trodAll_mk0)), rfl, bel.frame _, fun h => by cases h⟩

theorem over : Rows.fnExactJoinLineRow.holds Try.pinned (OpenSpec.ofChange Rows.fnExactJoinLineSpec) :=
  OpenClaim.holds_of_wide 5 Try.f5 rfl rfl rfl rfl rfl rfl rfl ⟨rfl, rfl, rfl, rfl, rfl⟩ rfl rfl rfl rfl rfl (by kernel_rfl) Try.func5 (by kernel_rfl)
    (of_decide_eq_true (by kernel_rfl)) (by unfold Func.isWrapper; first | (rw [if_pos (by decide +kernel)]; kernel_rfl) | (rw [if_neg (by decide +kernel)]; exact ⟨rfl, rfl⟩))
    (fun os started H enc _ => lifted os started H enc)

theorem proved : Rows.FnExactJoinLineSaid := over
#print axioms proved
end Go.Proofs.Ytghmkfehohgmgaa.fnExactJoinLine
