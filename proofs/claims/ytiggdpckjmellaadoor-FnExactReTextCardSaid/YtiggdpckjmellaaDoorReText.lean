/-
  Proves FnExactReTextCardSaid: for every input the law returns true and leaves its argument as it was. Conditions: none beyond the card's own (its cell 'loops': the argument's reading comes to an end); the library's tables that it lists are tied to the program's text by the given tie.
-/
import Derived.Test.YtiggdpckjmellaaDoorCards
import Derived.Test.YtiggdpckjmellaaDoorTie
import Derived.Test.YtiggdpckjmellaaDoorTab0
import Derived.Test.YtiggdpckjmellaaDoorRt14
namespace Go.Proofs.YtiggdpckjmellaaDoor.fnExactReText
open Go.ChangeShapes Go.WideShapes Go.ChangeAt Go.RowKit
open Go.ChangeMaps (open_string shut_string)
open Go.Proofs.YtiggdpckjmellaaDoor.kit
set_option linter.unusedVariables false

theorem own : ownKnob Tryd.prog.godebug = none := by kernel_rfl
/-- What the row's list gives: the table's cells hold the powers of ten. -/
theorem table {W : World} (h : laidMet Tryd.prog Rows.fnExactReTextRow.laid W) : Tab W := tab_of h (by kernel_rfl)
set_option maxRecDepth 100000 in
set_option maxHeartbeats 8000000 in
theorem walk (t : RT) (a : Option Addr) (cap : Nat) (w : World) (hk : kit.Kids 0 w t.kids a) (hs : t.set.size ≤ maxLen) (hl : t.kids.length ≤ maxLen) (ht : Tab w) :
    Calls Tryd.prog 6 #[reV t a cap] w fun e w' => e = .returned (.bool true) ∧ Below w.heap.size w w' := by
  have HK := Lib.hid hk
  have HSZ := Lib.hid (szRe_any t)
  have HTO := Lib.hid (toRe_any t)
  have HEQ := Lib.hid (eqRe_any t)
  have HSP := Lib.hid (specReText_any t)
  have HIM := Lib.hid (implReText_any t)
  have HB := Lib.hid (show ∀ o, Below w.heap.size w (w.alloc o) from fun o => (Below.refl w.heap.size w).alloc (Nat.le_refl _) _)
  have HT := Lib.hid ht
  clear hk ht
  by_cases c : RT.cost t ≤ 1048576
  · have hc0 : (RT.cost t : Int) ≤ 1048576 := by omega
    have HCO := Lib.hid c
    have HL := Lib.hid (leftOf_pos hc0)
    generalize (if RT.ok t = true then RT.txt t else []) = res at *
    obtain ⟨k, s, n, lo, hi, ts⟩ := t
    unfold reV
    simp only [RT.set, RT.kids, RT.kind, RT.neg, RT.low, RT.high] at *
    go_enter Tryd.func6, Tryd.ntmps6
    go_wp2_with fail
    refine (HSZ.out a cap 1048576 _ (HK.out.alloc _) hs hl (by omega) (by omega)).mono ?_
    rintro e w1 ⟨rfl, hb1⟩
    rw [HL.out]
    generalize RT.cost (.node k s n lo hi ts) = co at hc0 ⊢
    have hc2 : ¬ (1048576 - (co : Int) < 0) := by omega
    have BX1 := Lib.hid ((Box.start (k := k) (s := s) (n := n) (lo := lo) (hi := hi) (ts := ts) (a := a) (cap := cap) w 53).step hb1)
    have HB1 := Lib.hid ((HB.out _).trans (hb1.mono (HB.out _).size))
    clear hb1
    obtain ⟨⟨x0, x1, x2, x3, x4, x5⟩, _⟩ := BX1.out
    go_wp2_with fail
    clear x0 x1 x2 x3 x4 x5
    refine (HTO.out a cap _ (HK.out.kept (Nat.le_refl _) HB1.out) HCO.out).mono ?_
    rintro e w2 ⟨a2, cap2, rfl, hk2, hb2⟩
    have BX2 := Lib.hid (BX1.out.step hb2)
    have HB2 := Lib.hid (HB1.out.trans (hb2.mono HB1.out.size))
    have HK2 := Lib.hid hk2
    clear hb2 hk2
    go_wp2_with fail
    refine (HSP.out a2 cap2 _ (HK2.out.mono (Nat.zero_le _)) HCO.out).mono ?_
    rintro e w3 ⟨rfl, hb3⟩
    have BX3 := Lib.hid (BX2.out.step hb3)
    have HB3 := Lib.hid (HB2.out.trans (hb3.mono HB2.out.size))
    clear hb3
    obtain ⟨⟨x0, x1, x2, x3, x4, x5⟩, _⟩ := BX3.out
    go_wp2_with fail
    clear x0 x1 x2 x3 x4 x5
    refine (HTO.out a cap _ (HK.out.kept (Nat.le_refl _) HB3.out) HCO.out).mono ?_
    rintro e w4 ⟨a4, cap4, rfl, hk4, hb4⟩
    have BX4 := Lib.hid (BX3.out.step hb4)
    have HB4 := Lib.hid (HB3.out.trans (hb4.mono HB3.out.size))
    have HK4 := Lib.hid (hk4.mono (Nat.zero_le _))
    have HA4 := Lib.hid (show ∀ o, Below w4.heap.size w4 (w4.alloc o) from fun o => (Below.refl w4.heap.size w4).alloc (Nat.le_refl _) _)
    clear hb4 hk4
    unfold reV
    simp only [RT.set, RT.kids, RT.kind, RT.neg, RT.low, RT.high]
    go_wp2_with fail
    refine (HIM.out a4 cap4 _ (HK4.out.alloc _) HCO.out (HT.out.on (HB4.out.trans ((HA4.out _).mono HB4.out.size)))).mono ?_
    rintro e w5 ⟨rfl, hb5⟩
    have BX5 := Lib.hid ((BX4.out.step (HA4.out _)).step hb5)
    have BY5 := Lib.hid ((Box.start (k := k) (s := s) (n := n) (lo := lo) (hi := hi) (ts := ts) (a := a4) (cap := cap4) w4 35).step hb5)
    have HB5 := Lib.hid ((HB4.out.trans ((HA4.out _).mono HB4.out.size)).trans (hb5.mono ((HB4.out.trans ((HA4.out _).mono HB4.out.size))).size))
    have HK5 := Lib.hid ((HK4.out.alloc _).kept (Nat.le_refl _) hb5)
    clear hb5
    go_wp2_with fail
    go_region_held3 (fun w' => ((w'.cell? ⟨w.heap.size, 0, none⟩ = some (.int .i64 k) ∧ w'.cell? ⟨w.heap.size, 1, none⟩ = some (.string s) ∧ w'.cell? ⟨w.heap.size, 2, none⟩ = some (.bool n) ∧ w'.cell? ⟨w.heap.size, 3, none⟩ = some (.int .i64 lo) ∧ w'.cell? ⟨w.heap.size, 4, none⟩ = some (.int .i64 hi) ∧ w'.cell? ⟨w.heap.size, 5, none⟩ = some (.slice a ts.length cap)) ∧ (w'.cell? ⟨w4.heap.size, 0, none⟩ = some (.int .i64 k) ∧ w'.cell? ⟨w4.heap.size, 1, none⟩ = some (.string s) ∧ w'.cell? ⟨w4.heap.size, 2, none⟩ = some (.bool n) ∧ w'.cell? ⟨w4.heap.size, 3, none⟩ = some (.int .i64 lo) ∧ w'.cell? ⟨w4.heap.size, 4, none⟩ = some (.int .i64 hi) ∧ w'.cell? ⟨w4.heap.size, 5, none⟩ = some (.slice a4 ts.length cap4))) ∧ (w.heap.size < w'.heap.size ∧ w4.heap.size < w'.heap.size) ∧ Below w5.heap.size w5 w') (first | exact Two6.start BX5.out BY5.out | exact Two6.step (p := w.heap.size) (q := w4.heap.size) (k := k) (s := s) (n := n) (lo := lo) (hi := hi) (ts := ts) (a := a) (cap := cap) (a2 := a4) (cap2 := cap4) (by assumption) (by assumption)) (first | (go_at_call 48; refine (HTO.out a cap _ (HK.out.kept (Nat.le_refl _) HB5.out.drew) HCO.out).mono ?_; rintro e w6 ⟨a6, cap6, rfl, hk6, hb6⟩) | (go_at_call 49; refine (HEQ.out a4 cap4 _ _ _ (HK5.out.drew.kept (Nat.le_refl _) (by assumption)) (kit.Kids.mono (by assumption) (Nat.zero_le _)) HCO.out).mono ?_; rintro e w7 ⟨rfl, hb7⟩))
    go_wp2_with fail
    go_ret
    have hfin := Two6.below (p := w.heap.size) (q := w4.heap.size) (k := k) (s := s) (n := n) (lo := lo) (hi := hi) (ts := ts) (a := a) (cap := cap) (a2 := a4) (cap2 := cap4) (W := w5) (by assumption)
    exact ⟨rfl, HB5.out.trans (hfin.mono HB5.out.size)⟩
  · have hc0 : (1048576 : Int) < (RT.cost t : Nat) := by omega
    have HL := Lib.hid (leftOf_neg hc0)
    obtain ⟨k, s, n, lo, hi, ts⟩ := t
    unfold reV
    simp only [RT.set, RT.kids, RT.kind, RT.neg, RT.low, RT.high] at *
    go_enter Tryd.func6, Tryd.ntmps6
    go_wp2_with fail
    refine (HSZ.out a cap 1048576 _ (HK.out.alloc _) hs hl (by omega) (by omega)).mono ?_
    rintro e w1 ⟨rfl, hb1⟩
    rw [HL.out]
    have HB1 := Lib.hid ((HB.out _).trans (hb1.mono (HB.out _).size))
    clear hb1
    go_wp2_with fail
    go_ret
    exact ⟨rfl, HB1.out⟩

set_option maxRecDepth 100000 in
theorem contract (H : Type) (enc : TypeId × Value → H) (W : World) (base : Nat) (args : Array Value) (ds gs : List (DataW H)) (before : List MemPlace)
    (hval : ∀ (j : Nat) t v, Tryd.f6.params[j]? = some t → args[j]? = some v → Value.okWide Tryd.prog W .any base t v)
    (hW : DataW.Whole enc Tryd.prog Tryd.f6.params.toList Rows.fnExactReTextSpec.vars false W args.toList ds gs before) (hL : laidMet Tryd.prog Rows.fnExactReTextRow.laid W) :
    Calls Tryd.prog 6 args W fun e W' => ∃ v, e = .returned v ∧ Rows.fnExactReTextSpec.post enc Tryd.prog Tryd.f6 false true false false W args v W' := by
  have hW' := hW
  obtain ⟨p, q, hA0, hV, rfl, hfz, hnd⟩ := hW
  have hA : DataW.TrodAll enc Tryd.prog W 0 (fun _ => true) true Tryd.f6.params.toList args.toList ds p := hA0
  rw [Tryd.params6] at hA hval
  obtain ⟨v0, vs0, d0, ds0, p0, q0, hargs, rfl, rfl, h0, r0⟩ := trodAll_cons hA
  obtain ⟨rfl, rfl, rfl⟩ := trodAll_nil r0
  obtain rfl : args = #[v0] := by cases args; simp_all
  obtain ⟨rfl, rfl⟩ := trodVars_none hV
  obtain ⟨t0, a0, c0, rfl, hk0, hs0, hl0⟩ := open_re (hval 0 53 v0 rfl rfl) h0
  have hlt0 : ∀ x ∈ p0, x.block < W.heap.size := fun x hx => by simpa using hW'.lt x (by simp [hx])
  clear hA0
  refine (walk t0 a0 c0 W hk0 hs0 hl0 (table hL)).mono fun e W' ⟨he, bel⟩ => ?_
  subst he
  exact ⟨_, rfl, _, _, _, [], _, [], hW', trodAll_mk1 (shut_bool Tryd.underlying4 _), (trodAll_cons_mk (Below.trod laidOutR (by kernel_rfl) (of_decide_eq_true (by kernel_rfl)) h0 bel hlt0) trodAll_mk0), rfl, bel.frame _, fun h => by cases h⟩

/-- A world for the witness: the listed variables hold what is listed. -/
noncomputable def laidWorld (os : Os) : World := World.laidAll Tryd.prog os Rows.fnExactReTextRow.laid
theorem laid_met (os : Os) : laidMet Tryd.prog Rows.fnExactReTextRow.laid ((laidWorld os).forCall (fun _ _ => 0) ⟨#[], #[.agg #[.int .i64 0, .string ⟨#[]⟩, .bool false, .int .i64 0, .int .i64 0, .slice none 0 0]], []⟩).memory :=
  laidMet_laidAll _ (by kernel_rfl) (by kernel_rfl)
theorem reads (os : Os) {H : Type} (enc : TypeId × Value → H) : ∃ places, DataW.whole enc Tryd.prog ((laidWorld os).forCall (fun _ _ => 0) ⟨#[], #[.agg #[.int .i64 0, .string ⟨#[]⟩, .bool false, .int .i64 0, .int .i64 0, .slice none 0 0]], []⟩).memory Tryd.f6.params.toList Rows.fnExactReTextSpec.vars false #[Value.agg #[.int .i64 0, .string ⟨#[]⟩, .bool false, .int .i64 0, .int .i64 0, .slice none 0 0]].toList 8 = some ([.agg [.lit (.int .i64 0), .lit (.string []), .lit (.bool false), .lit (.int .i64 0), .lit (.int .i64 0), .nil]], [], places) :=
  ⟨[], by kernel_rfl⟩

set_option maxRecDepth 100000 in
theorem lifted (os : Os) (started : os.Started) (H : Type) (enc : TypeId × Value → H) (F : Stop.Interp) :
    ReturnsInHanded {} Tryd.checked os 6 .any ((OpenSpec.ofChange Rows.fnExactReTextSpec).preRow enc Tryd.prog Tryd.f6 Rows.fnExactReTextRow.domain false Rows.fnExactReTextRow.laid) (((OpenSpec.ofChange Rows.fnExactReTextSpec).at F).post enc Tryd.prog Tryd.f6 false true false false) := by
  obtain ⟨places, hx⟩ := reads os enc
  refine returnsInHanded_of_row (C := Tryd.checked) (s := OpenSpec.ofChange Rows.fnExactReTextSpec) own started (by kernel_rfl) Tryd.func6
    (witness_row_at (enc := enc) (C := Tryd.checked) false (laidWorld os) #[.agg #[.int .i64 0, .string ⟨#[]⟩, .bool false, .int .i64 0, .int .i64 0, .slice none 0 0]] (World.laidAll_os _ _ _) (by kernel_rfl) (by kernel_rfl) (by kernel_rfl)
      (OpenSpec.preRow_of_cond 8 hx (by kernel_rfl) (fun k hk => by cases hk) (by kernel_rfl) (laid_met os))) ?_
  intro W base args ds gs before hval hW _ _ _ hL _ _
  exact contract H enc W base args ds gs before hval hW hL

theorem said : Rows.FnExactReTextSaid :=
  OpenClaim.holds_of_cond 6 Tryd.f6 rfl rfl rfl rfl rfl rfl rfl ⟨rfl, rfl, rfl, rfl, rfl⟩ rfl rfl rfl rfl rfl (by kernel_rfl) Tryd.func6 (by kernel_rfl)
    (of_decide_eq_true (by kernel_rfl)) (by unfold Func.isWrapper; first | (rw [if_pos (by decide +kernel)]; kernel_rfl) | (rw [if_neg (by decide +kernel)]; exact ⟨rfl, rfl⟩))
    (fun os started H enc _ F => by rw [OpenClaim.pre_eq_preRow]; exact lifted os started H enc F)

theorem plain (f : FuncId) (fn : Func) (hf : Tryd.pinned.checked.prog.funcNamed Rows.fnExactReTextRow.func = some f) (hfn : Tryd.pinned.checked.prog.funcs[f]? = some fn) :
    false = Tryd.pinned.checked.prog.looks [] ∧ ∀ (j : Nat) t, fn.params[j]? = some t → Tryd.pinned.checked.prog.wantsStandIn t = false := by
  obtain rfl : f = 6 := Option.some.inj ((show Tryd.prog.funcNamed Rows.fnExactReTextRow.func = some 6 by kernel_rfl).symm.trans hf) |>.symm
  obtain rfl : fn = Tryd.f6 := (Option.some.inj (Tryd.func6.symm.trans hfn)).symm
  refine ⟨by kernel_rfl, fun j t ht => ?_⟩
  rw [Tryd.params6] at ht
  obtain rfl : t = 53 := by simpa using Array.mem_of_getElem? ht
  exact (show Tryd.prog.wantsStandIn 53 = false by kernel_rfl)

theorem card : Rows.FnExactReTextCardSaid :=
  Claim7.holds_tied_plain_at .later [] _ _ _ _ said (fun _ h => by cases h) (by kernel_rfl) (fun _ h => by cases h) fnExactReText_row_tie rfl ⟨rfl, rfl⟩ (by kernel_rfl) rfl plain (by kernel_rfl)
#print axioms card
end Go.Proofs.YtiggdpckjmellaaDoor.fnExactReText
