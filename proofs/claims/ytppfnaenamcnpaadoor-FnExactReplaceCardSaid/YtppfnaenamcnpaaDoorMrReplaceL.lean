/-
  Proves FnExactReplaceCardSaid: for every input the law returns true and leaves its arguments as they were. Conditions: none beyond the card's own (its cell 'loops': the argument's reading comes to an end); the library's table that it lists is tied to the program's text by the given tie.
-/
import Derived.Test.YtppfnaenamcnpaaDoorCards
import Derived.Test.YtppfnaenamcnpaaDoorTie
import Derived.Deep.DeepHandedRow
import Derived.Lay
import Derived.LaidSub
import Derived.ChangeVars
import Derived.OpenVars
import Derived.Test.YtppfnaenamcnpaaDoorMrMi15
import Derived.Test.YtppfnaenamcnpaaDoorMrMr2
set_option linter.unusedVariables false
set_option linter.unusedSimpArgs false
namespace Go.Proofs.YtppfnaenamcnpaaDoor.fnExactReplace
open Go.ChangeShapes Go.WideShapes Go.ChangeAt Go.RowKit
open Go.ChangeMaps (open_string shut_string)
open Go.Proofs.YtppfnaenamcnpaaDoor.kit
theorem own : ownKnob Tryd.prog.godebug = none := by kernel_rfl
theorem table {W : World} (h : laidMet Tryd.prog Rows.fnExactReplaceRow.laid W) : BT W := bt_of h (by kernel_rfl)
theorem repRes_form (r s : ByteArray) (all : Bool) (ps : List (Nat × Nat)) : ∃ (x : ByteArray) (y : Int) (z : Bool), repRes r s all ps = .tuple #[.string x, .int .i64 y, .bool z] := by
 unfold repRes
 split
 · exact ⟨_, _, _, rfl⟩
 · exact ⟨_, _, _, rfl⟩
set_option maxRecDepth 100000 in
set_option maxHeartbeats 8000000 in
theorem walk (t : RT) (a : Option Addr) (cap : Nat) (sr sb : ByteArray) (al : Bool) (w : World) (hk : kit.Kids 0 w t.kids a) (hs : t.set.size ≤ maxLen) (hl : t.kids.length ≤ maxLen) (hsr : sr.size ≤ maxLen) (hsb : sb.size ≤ maxLen) (ht : BT w) :
 Calls Tryd.prog 5 #[reV t a cap, .string sr, .string sb, .bool al] w fun e w' => e = .returned (.bool true) ∧ Below w.heap.size w w' := by
 have HK := Lib.hid hk
 have HSZ := Lib.hid (szRe_any t)
 have HTO := Lib.hid (toRe_any t)
 have HEQ := Lib.hid (eqRe_any t)
 have HSP := Lib.hid (fun (hr : sr.size ≤ 1048576) (hz : sb.size ≤ 1048576) a cap W h1 h2 => specReplace_any t sr sb al a cap W hr hz h2 h1)
 have HIM := Lib.hid (fun (hr : sr.size ≤ 1048576) (hz : sb.size ≤ 1048576) a cap W h1 h2 h3 => callsIn_wide.1 (replace_in 16 (Nat.le_refl _) t sr sb al a cap W hr hz h2 h1 h3))
 have HB := Lib.hid (show ∀ o, Below w.heap.size w (w.alloc o) from fun o => (Below.refl w.heap.size w).alloc (Nat.le_refl _) _)
 have HT := Lib.hid ht
 clear hk ht
 by_cases hzr : sr.size ≤ 1048576
 · have hr0 : (sr.size : Int) ≤ 1048576 := by omega
   have hr1 : decide (1048576 < sr.size) = false := by rw [decide_eq_false_iff_not]; omega
   have hr2 : decide (1048576 < (sr.size : Int)) = false := by rw [decide_eq_false_iff_not]; omega
   by_cases hz : sb.size ≤ 1048576
   · have HSP := Lib.hid (HSP.out hzr hz)
     have HIM := Lib.hid (HIM.out hzr hz)
     have hz0 : (sb.size : Int) ≤ 1048576 := by omega
     have hz1 : decide (1048576 < sb.size) = false := by rw [decide_eq_false_iff_not]; omega
     have hz2 : decide (1048576 < (sb.size : Int)) = false := by rw [decide_eq_false_iff_not]; omega
     clear hz hsb hzr hsr
     by_cases c : RT.cost t ≤ 1048576
     · have hc0 : (RT.cost t : Int) ≤ 1048576 := by omega
       have HCO := Lib.hid c
       have HL := Lib.hid (leftOf_pos hc0)
       obtain ⟨r1, r2, r3, hres⟩ := repRes_form sr sb al (matchesZ (matchZ sb.data.toList t) sb.size)
       rw [hres] at HSP HIM
       clear hres
       obtain ⟨k, s, n, lo, hi, ts⟩ := t
       unfold reV
       simp only [RT.set, RT.kids, RT.kind, RT.neg, RT.low, RT.high] at *
       go_enter Tryd.func5, Tryd.ntmps5
       go_wp2_with fail
       refine (HSZ.out a cap 1048576 _ (HK.out.alloc _) hs hl (by omega) (by omega)).mono ?_
       rintro e w1 ⟨rfl, hb1⟩
       rw [HL.out]
       generalize RT.cost (.node k s n lo hi ts) = co at hc0 ⊢
       have hc2 : ¬ (1048576 - (co : Int) < 0) := by omega
       have BX1 := Lib.hid ((Box.start (k := k) (s := s) (n := n) (lo := lo) (hi := hi) (ts := ts) (a := a) (cap := cap) w 39).step hb1)
       have HB1 := Lib.hid ((HB.out _).trans (hb1.mono (HB.out _).size))
       clear hb1
       obtain ⟨⟨x0, x1, x2, x3, x4, x5⟩, _⟩ := BX1.out
       go_wp2_with fail
       clear x0 x1 x2 x3 x4 x5
       refine (HTO.out a cap _ (HK.out.kept (Nat.le_refl _) HB1.out) HCO.out).mono ?_
       rintro e w2 ⟨a2, cap2, rfl, hk2, hb2⟩
       have BX2 := Lib.hid (BX1.out.step hb2)
       have HB2 := Lib.hid (HB1.out.trans (hb2.mono HB1.out.size))
       have HK2 := Lib.hid hk2
       clear hb2 hk2
       go_wp2_with fail
       refine (HSP.out a2 cap2 _ (HK2.out.mono (Nat.zero_le _)) HCO.out).mono ?_
       rintro e w3 ⟨rfl, hb3⟩
       have BX3 := Lib.hid (BX2.out.step hb3)
       have HB3 := Lib.hid (HB2.out.trans (hb3.mono HB2.out.size))
       clear hb3
       obtain ⟨⟨x0, x1, x2, x3, x4, x5⟩, _⟩ := BX3.out
       go_wp2_with fail
       clear x0 x1 x2 x3 x4 x5
       refine (HTO.out a cap _ (HK.out.kept (Nat.le_refl _) HB3.out) HCO.out).mono ?_
       rintro e w4 ⟨a4, cap4, rfl, hk4, hb4⟩
       have BX4 := Lib.hid (BX3.out.step hb4)
       have HB4 := Lib.hid (HB3.out.trans (hb4.mono HB3.out.size))
       have HK4 := Lib.hid (hk4.mono (Nat.zero_le _))
       have HA4 := Lib.hid (show ∀ o, Below w4.heap.size w4 (w4.alloc o) from fun o => (Below.refl w4.heap.size w4).alloc (Nat.le_refl _) _)
       clear hb4 hk4
       unfold reV
       simp only [RT.set, RT.kids, RT.kind, RT.neg, RT.low, RT.high]
       go_wp2_with fail
       refine (HIM.out a4 cap4 _ (HK4.out.alloc _) HCO.out (HT.out.kept (HB4.out.trans ((HA4.out _).mono HB4.out.size)))).mono ?_
       rintro e w5 ⟨rfl, hb5⟩
       have BX5 := Lib.hid ((BX4.out.step (HA4.out _)).step hb5)
       have BY5 := Lib.hid ((Box.start (k := k) (s := s) (n := n) (lo := lo) (hi := hi) (ts := ts) (a := a4) (cap := cap4) w4 26).step hb5)
       have HB5 := Lib.hid ((HB4.out.trans ((HA4.out _).mono HB4.out.size)).trans (hb5.mono ((HB4.out.trans ((HA4.out _).mono HB4.out.size))).size))
       have HK5 := Lib.hid ((HK4.out.alloc _).kept (Nat.le_refl _) hb5)
       clear hb5
       go_wp2_with fail
       go_region_held3 (fun w' => ((w'.cell? ⟨w.heap.size, 0, none⟩ = some (.int .i64 k) ∧ w'.cell? ⟨w.heap.size, 1, none⟩ = some (.string s) ∧ w'.cell? ⟨w.heap.size, 2, none⟩ = some (.bool n) ∧ w'.cell? ⟨w.heap.size, 3, none⟩ = some (.int .i64 lo) ∧ w'.cell? ⟨w.heap.size, 4, none⟩ = some (.int .i64 hi) ∧ w'.cell? ⟨w.heap.size, 5, none⟩ = some (.slice a ts.length cap)) ∧ (w'.cell? ⟨w4.heap.size, 0, none⟩ = some (.int .i64 k) ∧ w'.cell? ⟨w4.heap.size, 1, none⟩ = some (.string s) ∧ w'.cell? ⟨w4.heap.size, 2, none⟩ = some (.bool n) ∧ w'.cell? ⟨w4.heap.size, 3, none⟩ = some (.int .i64 lo) ∧ w'.cell? ⟨w4.heap.size, 4, none⟩ = some (.int .i64 hi) ∧ w'.cell? ⟨w4.heap.size, 5, none⟩ = some (.slice a4 ts.length cap4))) ∧ (w.heap.size < w'.heap.size ∧ w4.heap.size < w'.heap.size) ∧ Below w5.heap.size w5 w') (first | exact Two6.start BX5.out BY5.out | exact Two6.step (p := w.heap.size) (q := w4.heap.size) (k := k) (s := s) (n := n) (lo := lo) (hi := hi) (ts := ts) (a := a) (cap := cap) (a2 := a4) (cap2 := cap4) (by assumption) (by assumption)) (first | (go_at_call 21; refine (HTO.out a cap _ (HK.out.kept (Nat.le_refl _) HB5.out.drew) HCO.out).mono ?_; rintro e w6 ⟨a6, cap6, rfl, hk6, hb6⟩) | (go_at_call 24; refine (HEQ.out a4 cap4 _ _ _ (HK5.out.drew.kept (Nat.le_refl _) (by assumption)) (kit.Kids.mono (by assumption) (Nat.zero_le _)) HCO.out).mono ?_; rintro e w7 ⟨rfl, hb7⟩))
       go_wp2_with fail
       go_ret
       have hfin := Two6.below (p := w.heap.size) (q := w4.heap.size) (k := k) (s := s) (n := n) (lo := lo) (hi := hi) (ts := ts) (a := a) (cap := cap) (a2 := a4) (cap2 := cap4) (W := w5) (by assumption)
       exact ⟨rfl, HB5.out.trans (hfin.mono HB5.out.size)⟩
     · have hc0 : (1048576 : Int) < (RT.cost t : Nat) := by omega
       have HL := Lib.hid (leftOf_neg hc0)
       obtain ⟨k, s, n, lo, hi, ts⟩ := t
       unfold reV
       simp only [RT.set, RT.kids, RT.kind, RT.neg, RT.low, RT.high] at *
       go_enter Tryd.func5, Tryd.ntmps5
       go_wp2_with fail
       refine (HSZ.out a cap 1048576 _ (HK.out.alloc _) hs hl (by omega) (by omega)).mono ?_
       rintro e w1 ⟨rfl, hb1⟩
       rw [HL.out]
       have HB1 := Lib.hid ((HB.out _).trans (hb1.mono (HB.out _).size))
       clear hb1
       go_wp2_with fail
       go_ret
       exact ⟨rfl, HB1.out⟩
   · have hz0 : 1048576 < (sb.size : Int) := by omega
     have hz1 : decide (1048576 < sb.size) = true := by rw [decide_eq_true_iff]; omega
     have hz2 : decide (1048576 < (sb.size : Int)) = true := by rw [decide_eq_true_iff]; omega
     obtain ⟨k, s, n, lo, hi, ts⟩ := t
     unfold reV
     simp only [RT.set, RT.kids, RT.kind, RT.neg, RT.low, RT.high] at *
     unfold maxLen at hsb hsr
     clear hz hzr
     go_enter Tryd.func5, Tryd.ntmps5
     go_wp2_with fail
     go_ret
     exact ⟨rfl, HB.out _⟩
 · have hr0 : 1048576 < (sr.size : Int) := by omega
   have hr1 : decide (1048576 < sr.size) = true := by rw [decide_eq_true_iff]; omega
   have hr2 : decide (1048576 < (sr.size : Int)) = true := by rw [decide_eq_true_iff]; omega
   obtain ⟨k, s, n, lo, hi, ts⟩ := t
   unfold reV
   simp only [RT.set, RT.kids, RT.kind, RT.neg, RT.low, RT.high] at *
   unfold maxLen at hsb hsr
   clear hzr
   go_enter Tryd.func5, Tryd.ntmps5
   go_wp2_with fail
   go_ret
   exact ⟨rfl, HB.out _⟩
set_option maxRecDepth 100000 in
theorem contract (H : Type) (enc : TypeId × Value → H) (W : World) (base : Nat) (args : Array Value) (ds gs : List (DataW H)) (before : List MemPlace)
 (hval : ∀ (j : Nat) t v, Tryd.f5.params[j]? = some t → args[j]? = some v → Value.okWide Tryd.prog W .any base t v)
 (hW : DataW.Whole enc Tryd.prog Tryd.f5.params.toList Rows.fnExactReplaceSpec.vars false W args.toList ds gs before) (hL : laidMet Tryd.prog Rows.fnExactReplaceRow.laid W) :
 Calls Tryd.prog 5 args W fun e W' => ∃ v, e = .returned v ∧ Rows.fnExactReplaceSpec.post enc Tryd.prog Tryd.f5 false true false false W args v W' := by
 have hW' := hW
 obtain ⟨p, q, hA0, hV, rfl, hfz, hnd⟩ := hW
 have hA : DataW.TrodAll enc Tryd.prog W 0 (fun _ => true) true Tryd.f5.params.toList args.toList ds p := hA0
 rw [Tryd.params5] at hA hval
 obtain ⟨v0, vs0, d0, ds0, p0, q0, hargs, rfl, rfl, h0, r0⟩ := trodAll_cons hA
 obtain ⟨v1, vs1, d1, ds1, p1, q1, rfl, rfl, rfl, h1, r1⟩ := trodAll_cons r0
 obtain ⟨v2, vs2, d2, ds2, p2, q2, rfl, rfl, rfl, h2, r2⟩ := trodAll_cons r1
 obtain ⟨v3, vs3, d3, ds3, p3, q3, rfl, rfl, rfl, h3, r3⟩ := trodAll_cons r2
 obtain ⟨rfl, rfl, rfl⟩ := trodAll_nil r3
 obtain rfl : args = #[v0, v1, v2, v3] := by cases args; simp_all
 obtain ⟨rfl, rfl⟩ := trodVars_none hV
 obtain ⟨t0, a0, c0, rfl, hk0, hs0, hl0⟩ := open_re (hval 0 39 v0 rfl rfl) h0
 have hlt0 : ∀ x ∈ p0, x.block < W.heap.size := fun x hx => by simpa using hW'.lt x (by simp [hx])
 obtain ⟨s1, rfl, rfl, rfl, hs1⟩ := open_string Tryd.underlying9 (hval 1 9 v1 rfl rfl) h1
 obtain ⟨s2, rfl, rfl, rfl, hs2⟩ := open_string Tryd.underlying9 (hval 2 9 v2 rfl rfl) h2
 obtain ⟨a3, rfl, rfl, rfl⟩ := open_bool Tryd.underlying4 (hval 3 4 v3 rfl rfl) h3
 clear hA0
 refine (walk t0 a0 c0 s1 s2 a3 W hk0 hs0 hl0 hs1 hs2 (table hL)).mono fun e W' ⟨he, bel⟩ => ?_
 subst he
 exact ⟨_, rfl, _, _, _, [], _, [], hW', trodAll_mk1 (shut_bool Tryd.underlying4 _), (trodAll_cons_mk (Below.trod laidOutR (by kernel_rfl) (of_decide_eq_true (by kernel_rfl)) h0 bel hlt0) (trodAll_cons_mk (shut_string Tryd.underlying9 hs1) (trodAll_cons_mk (shut_string Tryd.underlying9 hs2) (trodAll_cons_mk (shut_bool Tryd.underlying4 a3) trodAll_mk0)))), rfl, bel.frame _, fun h => by cases h⟩
noncomputable def laidWorld (os : Os) : World := World.laidAll Tryd.prog os Rows.fnExactReplaceRow.laid
theorem laid_met (os : Os) : laidMet Tryd.prog Rows.fnExactReplaceRow.laid ((laidWorld os).forCall (fun _ _ => 0) ⟨#[], #[.agg #[.int .i64 0, .string ⟨#[]⟩, .bool false, .int .i64 0, .int .i64 0, .slice none 0 0], .string ⟨#[]⟩, .string ⟨#[]⟩, .bool false], []⟩).memory :=
 laidMet_laidAll _ (by kernel_rfl) (by kernel_rfl)
theorem reads (os : Os) {H : Type} (enc : TypeId × Value → H) : ∃ places, DataW.whole enc Tryd.prog ((laidWorld os).forCall (fun _ _ => 0) ⟨#[], #[.agg #[.int .i64 0, .string ⟨#[]⟩, .bool false, .int .i64 0, .int .i64 0, .slice none 0 0], .string ⟨#[]⟩, .string ⟨#[]⟩, .bool false], []⟩).memory Tryd.f5.params.toList Rows.fnExactReplaceSpec.vars false #[Value.agg #[.int .i64 0, .string ⟨#[]⟩, .bool false, .int .i64 0, .int .i64 0, .slice none 0 0], .string ⟨#[]⟩, .string ⟨#[]⟩, .bool false].toList 8 = some ([.agg [.lit (.int .i64 0), .lit (.string []), .lit (.bool false), .lit (.int .i64 0), .lit (.int .i64 0), .nil], .lit (.string []), .lit (.string []), .lit (.bool false)], [], places) :=
 ⟨[], by kernel_rfl⟩
set_option maxRecDepth 100000 in
theorem lifted (os : Os) (started : os.Started) (H : Type) (enc : TypeId × Value → H) (F : Stop.Interp) :
 ReturnsInHanded {} Tryd.checked os 5 .any ((OpenSpec.ofChange Rows.fnExactReplaceSpec).preRow enc Tryd.prog Tryd.f5 Rows.fnExactReplaceRow.domain false Rows.fnExactReplaceRow.laid) (((OpenSpec.ofChange Rows.fnExactReplaceSpec).at F).post enc Tryd.prog Tryd.f5 false true false false) := by
 obtain ⟨places, hx⟩ := reads os enc
 refine returnsInHanded_of_row (C := Tryd.checked) (s := OpenSpec.ofChange Rows.fnExactReplaceSpec) own started (by kernel_rfl) Tryd.func5
  (witness_row_at (enc := enc) (C := Tryd.checked) false (laidWorld os) #[.agg #[.int .i64 0, .string ⟨#[]⟩, .bool false, .int .i64 0, .int .i64 0, .slice none 0 0], .string ⟨#[]⟩, .string ⟨#[]⟩, .bool false] (World.laidAll_os _ _ _) (by kernel_rfl) (by kernel_rfl) (by kernel_rfl)
    (OpenSpec.preRow_of_cond 8 hx (by kernel_rfl) (fun k hk => by cases hk) (by kernel_rfl) (laid_met os))) ?_
 intro W base args ds gs before hval hW _ _ _ hL _ _
 exact contract H enc W base args ds gs before hval hW hL
theorem said : Rows.FnExactReplaceSaid :=
 OpenClaim.holds_of_cond 5 Tryd.f5 rfl rfl rfl rfl rfl rfl rfl ⟨rfl, rfl, rfl, rfl, rfl⟩ rfl rfl rfl rfl rfl (by kernel_rfl) Tryd.func5 (by kernel_rfl)
  (of_decide_eq_true (by kernel_rfl)) (by unfold Func.isWrapper; first | (rw [if_pos (by decide +kernel)]; kernel_rfl) | (rw [if_neg (by decide +kernel)]; exact ⟨rfl, rfl⟩))
  (fun os started H enc _ F => by rw [OpenClaim.pre_eq_preRow]; exact lifted os started H enc F)
theorem plain (f : FuncId) (fn : Func) (hf : Tryd.pinned.checked.prog.funcNamed Rows.fnExactReplaceRow.func = some f) (hfn : Tryd.pinned.checked.prog.funcs[f]? = some fn) :
 false = Tryd.pinned.checked.prog.looks [] ∧ ∀ (j : Nat) t, fn.params[j]? = some t → Tryd.pinned.checked.prog.wantsStandIn t = false := by
 obtain rfl : f = 5 := Option.some.inj ((show Tryd.prog.funcNamed Rows.fnExactReplaceRow.func = some 5 by kernel_rfl).symm.trans hf) |>.symm
 obtain rfl : fn = Tryd.f5 := (Option.some.inj (Tryd.func5.symm.trans hfn)).symm
 refine ⟨by kernel_rfl, fun j t ht => ?_⟩
 rw [Tryd.params5] at ht
 have hm := Array.mem_of_getElem? ht
 simp at hm
 rcases hm with rfl | rfl | rfl
 · exact (show Tryd.prog.wantsStandIn 39 = false by kernel_rfl)
 · exact (show Tryd.prog.wantsStandIn 9 = false by kernel_rfl)
 · exact (show Tryd.prog.wantsStandIn 4 = false by kernel_rfl)
theorem card : Rows.FnExactReplaceCardSaid :=
 Claim7.holds_tied_plain_at .later [] _ _ _ _ said (fun _ h => by cases h) (by kernel_rfl) (fun _ h => by cases h) fnExactReplace_row_tie rfl ⟨rfl, rfl⟩ (by kernel_rfl) rfl plain (by kernel_rfl)
#print axioms card
end Go.Proofs.YtppfnaenamcnpaaDoor.fnExactReplace
