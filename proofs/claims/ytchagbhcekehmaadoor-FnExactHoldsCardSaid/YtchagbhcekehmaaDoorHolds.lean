/-
  Proves FnExactHoldsCardSaid: for every input, impl.Holds answers as spec.Holds does, and the law returns true and leaves its arguments as they were. Conditions: none beyond the card's own; the library's tables that it lists are tied to the program's text by the given tie, over a pruned copy of the project.
-/
import Derived.Test.YtchagbhcekehmaaDoorCards
import Derived.Test.YtchagbhcekehmaaDoorTie
import Derived.Test.YtchagbhcekehmaaDoorTab0
import Derived.Deep.RegionHeld3
import Derived.Test.YtchagbhcekehmaaDoorHo0
namespace Go.Proofs.YtchagbhcekehmaaDoor.fnExactHolds
open Go.ChangeShapes Go.WideShapes Go.ChangeAt Go.RowKit
open Go.ChangeMaps (open_string shut_string)
open Go.Proofs.YtchagbhcekehmaaDoor.kit
set_option linter.unusedVariables false

theorem own : ownKnob Tryd.prog.godebug = none := by kernel_rfl
/-- What the row's list gives: the table's cells hold the powers of ten. -/
theorem table {W : World} (h : laidMet Tryd.prog Rows.fnExactHoldsRow.laid W) : Tab W := tab_of h (by kernel_rfl)
set_option maxRecDepth 100000 in
set_option maxHeartbeats 4000000 in
theorem walkA (op : ByteArray) (ka : Int) (sa : ByteArray) (na : Int) (kb : Int) (sb : ByteArray) (nb : Int) (w : World) (ha : 1048576 < (sa.size : Int)) (hsa : sa.size ≤ maxLen) (hd : decide (1048576 < op.size) = false) (hd2 : decide ((1048576 : Int) < (op.size : Int)) = false) :
    Calls Tryd.prog 8 #[.string op, .agg #[.int .i64 ka, .string sa, .int .i64 na], .agg #[.int .i64 kb, .string sb, .int .i64 nb]] w fun e w' => e = .returned (.bool true) ∧ Below w.heap.size w w' := by
  go_enter Tryd.func8, Tryd.ntmps8
  go_wp2_with fail
  refine (szVal_out ka sa na 1048576 _ ha (by omega) hsa).mono ?_
  rintro e w1 ⟨rfl, hb1⟩
  go_wp2
  go_ret
  exact ⟨rfl, (((Below.refl _ _).alloc (Nat.le_refl _) _).alloc (by simp) _).trans (hb1.mono (by simp; omega))⟩
set_option maxRecDepth 100000 in
set_option maxHeartbeats 4000000 in
theorem walkB (op : ByteArray) (ka : Int) (sa : ByteArray) (na : Int) (kb : Int) (sb : ByteArray) (nb : Int) (w : World) (ha : (sa.size : Int) ≤ 1048576) (hb : 1048576 - (sa.size : Int) < (sb.size : Int)) (hsb : sb.size ≤ maxLen) (hd : decide (1048576 < op.size) = false) (hd2 : decide ((1048576 : Int) < (op.size : Int)) = false) :
    Calls Tryd.prog 8 #[.string op, .agg #[.int .i64 ka, .string sa, .int .i64 na], .agg #[.int .i64 kb, .string sb, .int .i64 nb]] w fun e w' => e = .returned (.bool true) ∧ Below w.heap.size w w' := by
  have h0 : 0 ≤ 1048576 - (sa.size : Int) := by omega
  go_enter Tryd.func8, Tryd.ntmps8
  go_wp2_with fail
  refine (szVal_in ka sa na 1048576 _ ha (by omega)).mono ?_
  rintro e w1 ⟨rfl, hb1⟩
  have S1 := cvS_step (cvS_start ka na kb nb sa sb w 41 rfl) hb1
  have HS1 := Lib.hid S1
  obtain ⟨⟨c1, c2, c3, c4, c5, c6⟩, T1⟩ := S1
  clear hb1
  have hz1 := T1.2
  go_wp2_with fail
  refine (szVal_out kb sb nb (1048576 - (sa.size : Int)) _ hb h0 hsb).mono ?_
  rintro e w2 ⟨rfl, hb2⟩
  go_wp2
  go_ret
  exact ⟨rfl, T1.1.trans (hb2.mono (by omega))⟩
set_option maxRecDepth 100000 in
set_option maxHeartbeats 4000000 in
theorem walkC (op : ByteArray) (ka : Int) (sa : ByteArray) (na : Int) (kb : Int) (sb : ByteArray) (nb : Int) (w : World) (ha : (sa.size : Int) ≤ 1048576) (hb : (sb.size : Int) ≤ 1048576 - (sa.size : Int)) (ht : Tab w) (hd : decide (1048576 < op.size) = false) (hd2 : decide ((1048576 : Int) < (op.size : Int)) = false) :
    Calls Tryd.prog 8 #[.string op, .agg #[.int .i64 ka, .string sa, .int .i64 na], .agg #[.int .i64 kb, .string sb, .int .i64 nb]] w fun e w' => e = .returned (.bool true) ∧ Below w.heap.size w w' := by
  have h0 : 0 ≤ 1048576 - (sa.size : Int) := by omega
  have h1 : 0 ≤ 1048576 - (sa.size : Int) - (sb.size : Int) := by omega
  have hsa : sa.size ≤ 1048576 := by omega
  have hsb : sb.size ≤ 1048576 := by omega
  have HT := Lib.hid ht
  clear ht
  go_enter Tryd.func8, Tryd.ntmps8
  go_wp2_with fail
  refine (szVal_in ka sa na 1048576 _ ha (by omega)).mono ?_
  rintro e w1 ⟨rfl, hb1⟩
  have S1 := cvS_step (cvS_start ka na kb nb sa sb w 41 rfl) hb1
  have HS1 := Lib.hid S1
  obtain ⟨⟨c1, c2, c3, c4, c5, c6⟩, T1⟩ := S1
  clear hb1
  have hz1 := T1.2
  go_wp2_with fail
  refine (szVal_in kb sb nb (1048576 - (sa.size : Int)) _ hb (by omega)).mono ?_
  rintro e w2 ⟨rfl, hb2⟩
  have HS2 := Lib.hid (cvS_step HS1.out hb2)
  clear c1 c2 c3 c4 c5 c6 T1 HS1 hb2 hz1
  go_wp2_with fail
  have S2 := HS2.out
  go_region_held3 (fun w' => (w'.cell? ⟨w.heap.size, 0, none⟩ = some (.int .i64 ka) ∧ w'.cell? ⟨w.heap.size, 1, none⟩ = some (.string sa) ∧ w'.cell? ⟨w.heap.size, 2, none⟩ = some (.int .i64 na) ∧ w'.cell? ⟨w.heap.size + 1, 0, none⟩ = some (.int .i64 kb) ∧ w'.cell? ⟨w.heap.size + 1, 1, none⟩ = some (.string sb) ∧ w'.cell? ⟨w.heap.size + 1, 2, none⟩ = some (.int .i64 nb)) ∧ TwoV w w') (first | assumption | exact cvS_step (by assumption) (by assumption) | exact cvS_drew (by assumption)) (first | (go_at_call 43; refine (toVal_any _ _ _ _).mono ?_; rintro e w2 ⟨rfl, hb2⟩) | (go_at_call 47; refine (specHo_any _ _ _ _ _ _ _ _ hsa hsb).mono ?_; rintro e w2 ⟨rfl, hb2⟩))
  go_wp2_with fail
  go_region_held3 (fun w' => (w'.cell? ⟨w.heap.size, 0, none⟩ = some (.int .i64 ka) ∧ w'.cell? ⟨w.heap.size, 1, none⟩ = some (.string sa) ∧ w'.cell? ⟨w.heap.size, 2, none⟩ = some (.int .i64 na) ∧ w'.cell? ⟨w.heap.size + 1, 0, none⟩ = some (.int .i64 kb) ∧ w'.cell? ⟨w.heap.size + 1, 1, none⟩ = some (.string sb) ∧ w'.cell? ⟨w.heap.size + 1, 2, none⟩ = some (.int .i64 nb)) ∧ TwoV w w') (first | assumption | exact cvS_step (by assumption) (by assumption) | exact cvS_drew (by assumption)) (first | (go_at_call 43; refine (toVal_any _ _ _ _).mono ?_; rintro e w2 ⟨rfl, hb2⟩) | (go_at_call 48; refine (implHo_any _ _ _ _ _ _ _ _ hsa hsb (HT.out.on (ofTwo (by assumption)))).mono ?_; rintro e w2 ⟨rfl, hb2⟩))
  go_wp2
  go_ret
  exact ⟨rfl, ofTwo (by assumption)⟩
set_option maxRecDepth 100000 in
set_option maxHeartbeats 4000000 in
theorem walk0 (op : ByteArray) (ka : Int) (sa : ByteArray) (na : Int) (kb : Int) (sb : ByteArray) (nb : Int) (w : World) (hop : op.size ≤ maxLen) (ho : 1048576 < op.size) :
    Calls Tryd.prog 8 #[.string op, .agg #[.int .i64 ka, .string sa, .int .i64 na], .agg #[.int .i64 kb, .string sb, .int .i64 nb]] w fun e w' => e = .returned (.bool true) ∧ Below w.heap.size w w' := by
  unfold maxLen at hop
  go_enter Tryd.func8, Tryd.ntmps8
  go_wp2
  go_ret
  exact ⟨rfl, ((Below.refl _ _).alloc (Nat.le_refl _) _).alloc (by simp) _⟩
set_option maxRecDepth 100000 in
set_option maxHeartbeats 4000000 in
theorem walk (op : ByteArray) (ka : Int) (sa : ByteArray) (na : Int) (kb : Int) (sb : ByteArray) (nb : Int) (w : World) (hop : op.size ≤ maxLen) (wka : (Lit.int .i64 ka).wf = true) (hsa : sa.size ≤ maxLen) (wna : (Lit.int .i64 na).wf = true) (wkb : (Lit.int .i64 kb).wf = true) (hsb : sb.size ≤ maxLen) (wnb : (Lit.int .i64 nb).wf = true) (ht : Tab w) :
    Calls Tryd.prog 8 #[.string op, .agg #[.int .i64 ka, .string sa, .int .i64 na], .agg #[.int .i64 kb, .string sb, .int .i64 nb]] w fun e w' => e = .returned (.bool true) ∧ Below w.heap.size w w' := by
  by_cases ho : 1048576 < op.size
  · exact walk0 op ka sa na kb sb nb w hop ho
  have hd : decide (1048576 < op.size) = false := by simpa using ho
  have hd2 : decide ((1048576 : Int) < (op.size : Int)) = false := by simp; omega
  by_cases ha : (sa.size : Int) ≤ 1048576
  · by_cases hb : (sb.size : Int) ≤ 1048576 - (sa.size : Int)
    · exact walkC op ka sa na kb sb nb w ha hb ht hd hd2
    · exact walkB op ka sa na kb sb nb w ha (by omega) hsb hd hd2
  · exact walkA op ka sa na kb sb nb w (by omega) hsa hd hd2

set_option maxRecDepth 100000 in
theorem contract (H : Type) (enc : TypeId × Value → H) (W : World) (base : Nat) (args : Array Value) (ds gs : List (DataW H)) (before : List MemPlace)
    (hval : ∀ (j : Nat) t v, Tryd.f8.params[j]? = some t → args[j]? = some v → Value.okWide Tryd.prog W .any base t v)
    (hW : DataW.Whole enc Tryd.prog Tryd.f8.params.toList Rows.fnExactHoldsSpec.vars false W args.toList ds gs before) (hL : laidMet Tryd.prog Rows.fnExactHoldsRow.laid W) :
    Calls Tryd.prog 8 args W fun e W' => ∃ v, e = .returned v ∧ Rows.fnExactHoldsSpec.post enc Tryd.prog Tryd.f8 false true false false W args v W' := by
  have hW' := hW
  obtain ⟨p, q, hA0, hV, rfl, hfz, hnd⟩ := hW
  have hA : DataW.TrodAll enc Tryd.prog W 0 (fun _ => true) true Tryd.f8.params.toList args.toList ds p := hA0
  rw [Tryd.params8] at hA hval
  obtain ⟨v0, vs0, d0, ds0, p0, q0, hargs, rfl, rfl, h0, r0⟩ := trodAll_cons hA
  obtain ⟨v1, vs1, d1, ds1, p1, q1, rfl, rfl, rfl, h1, r1⟩ := trodAll_cons r0
  obtain ⟨v2, vs2, d2, ds2, p2, q2, rfl, rfl, rfl, h2, r2⟩ := trodAll_cons r1
  obtain ⟨rfl, rfl, rfl⟩ := trodAll_nil r2
  obtain rfl : args = #[v0, v1, v2] := by cases args; simp_all
  obtain ⟨rfl, rfl⟩ := trodVars_none hV
  obtain ⟨s0, rfl, rfl, rfl, hs0⟩ := open_string Tryd.underlying9 (hval 0 9 v0 rfl rfl) h0
  obtain ⟨k1, s1, n1, rfl, rfl, rfl, wk1, hs1, wn1⟩ := open_val (hval 1 41 v1 rfl rfl) h1
  obtain ⟨k2, s2, n2, rfl, rfl, rfl, wk2, hs2, wn2⟩ := open_val (hval 2 41 v2 rfl rfl) h2
  clear hA0
  refine (walk s0 k1 s1 n1 k2 s2 n2 W hs0 wk1 hs1 wn1 wk2 hs2 wn2 (table hL)).mono fun e W' ⟨he, bel⟩ => ?_
  subst he
  exact ⟨_, rfl, _, _, _, [], _, [], hW', trodAll_mk1 (shut_bool Tryd.underlying4 _), (trodAll_cons_mk (shut_string Tryd.underlying9 hs0) (trodAll_cons_mk (shut_val wk1 hs1 wn1) (trodAll_cons_mk (shut_val wk2 hs2 wn2) trodAll_mk0))), rfl, bel.frame _, fun h => by cases h⟩

/-- A world for the witness: the listed variables hold what is listed. -/
noncomputable def laidWorld (os : Os) : World := World.laidAll Tryd.prog os Rows.fnExactHoldsRow.laid
theorem laid_met (os : Os) : laidMet Tryd.prog Rows.fnExactHoldsRow.laid ((laidWorld os).forCall (fun _ _ => 0) ⟨#[], #[.string ⟨#[]⟩, .agg #[.int .i64 0, .string ⟨#[]⟩, .int .i64 0], .agg #[.int .i64 0, .string ⟨#[]⟩, .int .i64 0]], []⟩).memory :=
  laidMet_laidAll _ (by kernel_rfl) (by kernel_rfl)
theorem reads (os : Os) {H : Type} (enc : TypeId × Value → H) : ∃ places, DataW.whole enc Tryd.prog ((laidWorld os).forCall (fun _ _ => 0) ⟨#[], #[.string ⟨#[]⟩, .agg #[.int .i64 0, .string ⟨#[]⟩, .int .i64 0], .agg #[.int .i64 0, .string ⟨#[]⟩, .int .i64 0]], []⟩).memory Tryd.f8.params.toList Rows.fnExactHoldsSpec.vars false #[Value.string ⟨#[]⟩, .agg #[.int .i64 0, .string ⟨#[]⟩, .int .i64 0], .agg #[.int .i64 0, .string ⟨#[]⟩, .int .i64 0]].toList 8 = some ([.lit (.string []), .agg [.lit (.int .i64 0), .lit (.string []), .lit (.int .i64 0)], .agg [.lit (.int .i64 0), .lit (.string []), .lit (.int .i64 0)]], [], places) :=
  ⟨[], by kernel_rfl⟩

set_option maxRecDepth 100000 in
theorem lifted (os : Os) (started : os.Started) (H : Type) (enc : TypeId × Value → H) (F : Stop.Interp) :
    ReturnsInHanded {} Tryd.checked os 8 .any ((OpenSpec.ofChange Rows.fnExactHoldsSpec).preRow enc Tryd.prog Tryd.f8 Rows.fnExactHoldsRow.domain false Rows.fnExactHoldsRow.laid) (((OpenSpec.ofChange Rows.fnExactHoldsSpec).at F).post enc Tryd.prog Tryd.f8 false true false false) := by
  obtain ⟨places, hx⟩ := reads os enc
  refine returnsInHanded_of_row (C := Tryd.checked) (s := OpenSpec.ofChange Rows.fnExactHoldsSpec) own started (by kernel_rfl) Tryd.func8
    (witness_row_at (enc := enc) (C := Tryd.checked) false (laidWorld os) #[.string ⟨#[]⟩, .agg #[.int .i64 0, .string ⟨#[]⟩, .int .i64 0], .agg #[.int .i64 0, .string ⟨#[]⟩, .int .i64 0]] (World.laidAll_os _ _ _) (by kernel_rfl) (by kernel_rfl) (by kernel_rfl)
      (OpenSpec.preRow_of_cond 8 hx (by kernel_rfl) (fun k hk => by cases hk) (by kernel_rfl) (laid_met os))) ?_
  intro W base args ds gs before hval hW _ _ _ hL _ _
  exact contract H enc W base args ds gs before hval hW hL

theorem said : Rows.FnExactHoldsSaid :=
  OpenClaim.holds_of_cond 8 Tryd.f8 rfl rfl rfl rfl rfl rfl rfl ⟨rfl, rfl, rfl, rfl, rfl⟩ rfl rfl rfl rfl rfl (by kernel_rfl) Tryd.func8 (by kernel_rfl)
    (of_decide_eq_true (by kernel_rfl)) (by unfold Func.isWrapper; first | (rw [if_pos (by decide +kernel)]; kernel_rfl) | (rw [if_neg (by decide +kernel)]; exact ⟨rfl, rfl⟩))
    (fun os started H enc _ F => by rw [OpenClaim.pre_eq_preRow]; exact lifted os started H enc F)

theorem plain (f : FuncId) (fn : Func) (hf : Tryd.pinned.checked.prog.funcNamed Rows.fnExactHoldsRow.func = some f) (hfn : Tryd.pinned.checked.prog.funcs[f]? = some fn) :
    true = Tryd.pinned.checked.prog.looks [] ∧ ∀ (j : Nat) t, fn.params[j]? = some t → Tryd.pinned.checked.prog.wantsStandIn t = false := by
  obtain rfl : f = 8 := Option.some.inj ((show Tryd.prog.funcNamed Rows.fnExactHoldsRow.func = some 8 by kernel_rfl).symm.trans hf) |>.symm
  obtain rfl : fn = Tryd.f8 := (Option.some.inj (Tryd.func8.symm.trans hfn)).symm
  refine ⟨by kernel_rfl, fun j t ht => ?_⟩
  rw [Tryd.params8] at ht
  have hm := Array.mem_of_getElem? ht
  simp at hm
  rcases hm with rfl | rfl
  · exact (show Tryd.prog.wantsStandIn 9 = false by kernel_rfl)
  · exact (show Tryd.prog.wantsStandIn 41 = false by kernel_rfl)

theorem card : Rows.FnExactHoldsCardSaid :=
  Claim7.holds_tied_plain_at .later [] _ _ _ _ said (fun _ h => by cases h) (by kernel_rfl) (fun _ h => by cases h) fnExactHolds_row_tie rfl ⟨rfl, rfl⟩ (by kernel_rfl) rfl plain (by kernel_rfl)
#print axioms card
end Go.Proofs.YtchagbhcekehmaaDoor.fnExactHolds
