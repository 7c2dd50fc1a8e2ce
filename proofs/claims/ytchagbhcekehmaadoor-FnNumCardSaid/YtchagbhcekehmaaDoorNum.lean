/-
  Proves FnNumCardSaid: for every code the law returns true and leaves its argument as it was. Conditions: none beyond the card's own; the library's tables that it lists are tied to the program's text by the given tie, over a pruned copy of the project.
-/
import Derived.Test.YtchagbhcekehmaaDoorCards
import Derived.Test.YtchagbhcekehmaaDoorTie
import Derived.Test.YtchagbhcekehmaaDoorTab0
import Derived.Test.YtchagbhcekehmaaDoorFm1
namespace Go.Proofs.YtchagbhcekehmaaDoor.fnNum
open Go.ChangeShapes Go.WideShapes Go.ChangeAt Go.RowKit
open Go.ChangeMaps (open_string shut_string)
open Go.Proofs.YtchagbhcekehmaaDoor.kit
set_option linter.unusedVariables false

theorem own : ownKnob Tryd.prog.godebug = none := by kernel_rfl
/-- What the row's list gives: the table's cells hold the powers of ten. -/
theorem table {W : World} (h : laidMet Tryd.prog Rows.fnNumRow.laid W) : Tab W := tab_of h (by kernel_rfl)
set_option maxRecDepth 100000 in
set_option maxHeartbeats 8000000 in
theorem walk1 (a : Option Addr) (n cap : Nat) (w : World) (hn : n ≤ 1048576) (hc : Code8 w a n) (ht : Tab w) :
    Calls Tryd.prog 4 #[.slice a n cap] w fun e w' => e = .returned (.bool true) ∧ Below w.heap.size w w' := by
  have HC := Lib.hid hc
  have HT := Lib.hid ht
  clear hc ht
  go_enter Tryd.func4, Tryd.ntmps4
  go_wp2_with fail
  refine (big_no a n cap _ hn).mono ?_
  rintro e wq ⟨rfl, rfl⟩
  go_wp2_with fail
  refine (drawPow_any a n cap _ hn HC.out).mono ?_
  rintro e w1 ⟨x, y, hx, hy, rfl, hb⟩
  have B1 := Lib.hid (hb)
  clear hb
  obtain ⟨X, K, CI, CS, CB⟩ := powF x y hy
  have PI := Lib.hid CI
  have PS := Lib.hid CS
  have PB := Lib.hid CB
  obtain ⟨y1, y2⟩ := hy
  clear CI CS CB hx
  go_wp2_with fail
  refine (PI.out _).mono ?_
  rintro e w2 ⟨rfl, hb⟩
  have B2 := Lib.hid (B1.out.trans (hb.mono B1.out.size))
  clear hb B1
  go_wp2_with fail
  refine (PS.out _).mono ?_
  rintro e wq ⟨rfl, rfl⟩
  go_wp2_with fail
  refine (drawWhole_any a n cap _ hn (HC.out.kept B2.out)).mono ?_
  rintro e w3 ⟨z, hz, rfl, hb⟩
  have B3 := Lib.hid (B2.out.trans (hb.mono B2.out.size))
  clear hb B2
  obtain ⟨V, CI, CS, hV⟩ := wholeF z hz
  have WI := Lib.hid CI
  have WS := Lib.hid CS
  clear CI CS hz
  go_wp2_with fail
  refine (drawNumText_any a n cap _ hn (HC.out.kept B3.out)).mono ?_
  rintro e w4 ⟨t, ht, rfl, hb⟩
  have B4 := Lib.hid (B3.out.trans (hb.mono B3.out.size))
  clear hb B3
  obtain ⟨s, TK, alt⟩ := textF t
  have TI := Lib.hid TK.i
  have TS := Lib.hid TK.sp
  have AL := Lib.hid alt
  have hsl := TK.le
  obtain ⟨t1, t2⟩ := ht
  clear TK alt
  go_wp2_with fail
  refine (TI.out _ (HT.out.on B4.out)).mono ?_
  rintro e w5 ⟨rfl, hb⟩
  have B5 := Lib.hid (B4.out.trans (hb.mono B4.out.size))
  clear hb B4
  go_wp2_with fail
  refine (drawReadNum_any a n cap _ hn (HC.out.kept B5.out)).mono ?_
  rintro e w6 ⟨r, hr, rfl, hb⟩
  have B6 := Lib.hid (B5.out.trans (hb.mono B5.out.size))
  clear hb B5
  obtain ⟨m, p, CI, CS, m1, m2, p1⟩ := readF r (by omega)
  have RI := Lib.hid CI
  have RS := Lib.hid CS
  clear CI CS
  go_wp2_with fail
  refine (RI.out _).mono ?_
  rintro e w7 ⟨rfl, hb⟩
  have B7 := Lib.hid (B6.out.trans (hb.mono B6.out.size))
  clear hb B6
  go_wp2_with fail
  refine (RS.out _).mono ?_
  rintro e wq ⟨rfl, rfl⟩
  go_wp2_with fail
  refine (drawLooksNum_any a n cap _ hn (HC.out.kept B7.out)).mono ?_
  rintro e w8 ⟨l, hl, rfl, hb⟩
  have B8 := Lib.hid (B7.out.trans (hb.mono B7.out.size))
  clear hb B7
  obtain ⟨K2, CI, CS⟩ := looksF l (by omega)
  have LI := Lib.hid CI
  have LS := Lib.hid CS
  clear CI CS
  go_wp2_with fail
  refine (WI.out _).mono ?_
  rintro e wq ⟨rfl, rfl⟩
  go_wp2_with fail
  refine (WS.out _).mono ?_
  rintro e wq ⟨rfl, rfl⟩
  go_wp2_with fail
  refine (TS.out _).mono ?_
  rintro e wq ⟨rfl, rfl⟩
  go_wp2_with fail
  refine (LI.out _).mono ?_
  rintro e w9 ⟨rfl, hb⟩
  have B9 := Lib.hid (B8.out.trans (hb.mono B8.out.size))
  clear hb B8
  go_wp2_with fail
  refine (LS.out _).mono ?_
  rintro e wq ⟨rfl, rfl⟩
  cases K
  · skip
    go_wp2_with fail
    refine (WI.out _).mono ?_
    rintro e wq ⟨rfl, rfl⟩
    rcases AL.out with ⟨e0, e1⟩ | ⟨e0, e1, e2⟩
    · rcases e1 with e1 | e1
      · go_wp2
        go_ret
        exact ⟨by simp, B9.out⟩
      · have e3 : decide (1000000000000 < t) = false := by simp; omega
        go_wp2
        go_ret
        exact ⟨by simp, B9.out⟩
    · have CR := Lib.hid e1
      have CL := Lib.hid e2
      clear e1 e2
      go_wp2_with fail
      refine (CR.out _).mono ?_
      rintro e w10 ⟨rfl, hb⟩
      have B10 := Lib.hid (B9.out.trans (hb.mono B9.out.size))
      clear hb B9
      go_wp2_with fail
      refine (CL.out _).mono ?_
      rintro e w11 ⟨rfl, hb⟩
      have B11 := Lib.hid (B10.out.trans (hb.mono B10.out.size))
      clear hb B10
      go_wp2
      go_ret
      exact ⟨by simp, B11.out⟩
  · by_cases hy1 : 1000000 ≤ y
    · skip
      obtain ⟨Z, CP, CM⟩ := PB.out (by trivial) hy1
      have ZP := Lib.hid CP
      have ZM := Lib.hid CM
      clear CP CM PB
      have y3 : -9223372036854775808 ≤ y - 1000000 := by omega
      go_wp2_with fail
      refine (ZP.out _).mono ?_
      rintro e w10 ⟨rfl, hb⟩
      have B10 := Lib.hid (B9.out.trans (hb.mono B9.out.size))
      clear hb B9
      go_wp2_with fail
      refine (ZM.out _).mono ?_
      rintro e w11 ⟨rfl, hb⟩
      have B11 := Lib.hid (B10.out.trans (hb.mono B10.out.size))
      clear hb B10
      go_wp2_with fail
      refine (WI.out _).mono ?_
      rintro e wq ⟨rfl, rfl⟩
      rcases AL.out with ⟨e0, e1⟩ | ⟨e0, e1, e2⟩
      · rcases e1 with e1 | e1
        · go_wp2
          go_ret
          exact ⟨by simp, B11.out⟩
        · have e3 : decide (1000000000000 < t) = false := by simp; omega
          go_wp2
          go_ret
          exact ⟨by simp, B11.out⟩
      · have CR := Lib.hid e1
        have CL := Lib.hid e2
        clear e1 e2
        go_wp2_with fail
        refine (CR.out _).mono ?_
        rintro e w12 ⟨rfl, hb⟩
        have B12 := Lib.hid (B11.out.trans (hb.mono B11.out.size))
        clear hb B11
        go_wp2_with fail
        refine (CL.out _).mono ?_
        rintro e w13 ⟨rfl, hb⟩
        have B13 := Lib.hid (B12.out.trans (hb.mono B12.out.size))
        clear hb B12
        go_wp2
        go_ret
        exact ⟨by simp, B13.out⟩
    · skip
      go_wp2_with fail
      refine (WI.out _).mono ?_
      rintro e wq ⟨rfl, rfl⟩
      rcases AL.out with ⟨e0, e1⟩ | ⟨e0, e1, e2⟩
      · rcases e1 with e1 | e1
        · go_wp2
          go_ret
          exact ⟨by simp, B9.out⟩
        · have e3 : decide (1000000000000 < t) = false := by simp; omega
          go_wp2
          go_ret
          exact ⟨by simp, B9.out⟩
      · have CR := Lib.hid e1
        have CL := Lib.hid e2
        clear e1 e2
        go_wp2_with fail
        refine (CR.out _).mono ?_
        rintro e w10 ⟨rfl, hb⟩
        have B10 := Lib.hid (B9.out.trans (hb.mono B9.out.size))
        clear hb B9
        go_wp2_with fail
        refine (CL.out _).mono ?_
        rintro e w11 ⟨rfl, hb⟩
        have B11 := Lib.hid (B10.out.trans (hb.mono B10.out.size))
        clear hb B10
        go_wp2
        go_ret
        exact ⟨by simp, B11.out⟩
set_option maxRecDepth 100000 in
theorem walk (a : Option Addr) (n cap : Nat) (w : World) (hm : n ≤ maxLen) (hc : Code8 w a n) (ht : Tab w) :
    Calls Tryd.prog 4 #[.slice a n cap] w fun e w' => e = .returned (.bool true) ∧ Below w.heap.size w w' := by
  by_cases hn : n ≤ 1048576
  · exact walk1 a n cap w hn hc ht
  · go_enter Tryd.func4, Tryd.ntmps4
    go_wp2_with fail
    refine (big_yes a n cap _ (by omega)).mono ?_
    rintro e w1 ⟨rfl, rfl⟩
    go_wp2
    go_ret
    exact ⟨rfl, Below.refl _ _⟩

set_option maxRecDepth 100000 in
theorem contract (H : Type) (enc : TypeId × Value → H) (W : World) (base : Nat) (args : Array Value) (ds gs : List (DataW H)) (before : List MemPlace)
    (hval : ∀ (j : Nat) t v, Tryd.f4.params[j]? = some t → args[j]? = some v → Value.okWide Tryd.prog W .any base t v)
    (hW : DataW.Whole enc Tryd.prog Tryd.f4.params.toList Rows.fnNumSpec.vars false W args.toList ds gs before) (hL : laidMet Tryd.prog Rows.fnNumRow.laid W) :
    Calls Tryd.prog 4 args W fun e W' => ∃ v, e = .returned v ∧ Rows.fnNumSpec.post enc Tryd.prog Tryd.f4 false true false false W args v W' := by
  have hW' := hW
  obtain ⟨p, q, hA0, hV, rfl, hfz, hnd⟩ := hW
  have hA : DataW.TrodAll enc Tryd.prog W 0 (fun _ => true) true Tryd.f4.params.toList args.toList ds p := hA0
  rw [Tryd.params4] at hA hval
  obtain ⟨v0, vs0, d0, ds0, p0, q0, hargs, rfl, rfl, h0, r0⟩ := trodAll_cons hA
  obtain ⟨rfl, rfl, rfl⟩ := trodAll_nil r0
  obtain rfl : args = #[v0] := by cases args; simp_all
  obtain ⟨rfl, rfl⟩ := trodVars_none hV
  obtain ⟨a0, n0, c0, rfl, hn0, hc0⟩ := open_code (hval 0 22 v0 rfl rfl) h0
  have hlt0 : ∀ x ∈ p0, x.block < W.heap.size := fun x hx => by simpa using hW'.lt x (by simp [hx])
  clear hA0
  refine (walk a0 n0 c0 W hn0 hc0 (table hL)).mono fun e W' ⟨he, bel⟩ => ?_
  subst he
  exact ⟨_, rfl, _, _, _, [], _, [], hW', trodAll_mk1 (shut_bool Tryd.underlying4 _), (trodAll_cons_mk (Below.trod laidOut (by kernel_rfl) (of_decide_eq_true (by kernel_rfl)) h0 bel hlt0) trodAll_mk0), rfl, bel.frame _, fun h => by cases h⟩

/-- A world for the witness: the listed variables hold what is listed. -/
noncomputable def laidWorld (os : Os) : World := World.laidAll Tryd.prog os Rows.fnNumRow.laid
theorem laid_met (os : Os) : laidMet Tryd.prog Rows.fnNumRow.laid ((laidWorld os).forCall (fun _ _ => 0) ⟨#[], #[.slice none 0 0], []⟩).memory :=
  laidMet_laidAll _ (by kernel_rfl) (by kernel_rfl)
theorem reads (os : Os) {H : Type} (enc : TypeId × Value → H) : ∃ places, DataW.whole enc Tryd.prog ((laidWorld os).forCall (fun _ _ => 0) ⟨#[], #[.slice none 0 0], []⟩).memory Tryd.f4.params.toList Rows.fnNumSpec.vars false #[Value.slice none 0 0].toList 8 = some ([.nil], [], places) :=
  ⟨[], by kernel_rfl⟩

set_option maxRecDepth 100000 in
theorem lifted (os : Os) (started : os.Started) (H : Type) (enc : TypeId × Value → H) (F : Stop.Interp) :
    ReturnsInHanded {} Tryd.checked os 4 .any ((OpenSpec.ofChange Rows.fnNumSpec).preRow enc Tryd.prog Tryd.f4 Rows.fnNumRow.domain false Rows.fnNumRow.laid) (((OpenSpec.ofChange Rows.fnNumSpec).at F).post enc Tryd.prog Tryd.f4 false true false false) := by
  obtain ⟨places, hx⟩ := reads os enc
  refine returnsInHanded_of_row (C := Tryd.checked) (s := OpenSpec.ofChange Rows.fnNumSpec) own started (by kernel_rfl) Tryd.func4
    (witness_row_at (enc := enc) (C := Tryd.checked) false (laidWorld os) #[.slice none 0 0] (World.laidAll_os _ _ _) (by kernel_rfl) (by kernel_rfl) (by kernel_rfl)
      (OpenSpec.preRow_of_cond 8 hx (by kernel_rfl) (fun k hk => by cases hk) (by kernel_rfl) (laid_met os))) ?_
  intro W base args ds gs before hval hW _ _ _ hL _ _
  exact contract H enc W base args ds gs before hval hW hL

theorem said : Rows.FnNumSaid :=
  OpenClaim.holds_of_cond 4 Tryd.f4 rfl rfl rfl rfl rfl rfl rfl ⟨rfl, rfl, rfl, rfl, rfl⟩ rfl rfl rfl rfl rfl (by kernel_rfl) Tryd.func4 (by kernel_rfl)
    (of_decide_eq_true (by kernel_rfl)) (by unfold Func.isWrapper; first | (rw [if_pos (by decide +kernel)]; kernel_rfl) | (rw [if_neg (by decide +kernel)]; exact ⟨rfl, rfl⟩))
    (fun os started H enc _ F => by rw [OpenClaim.pre_eq_preRow]; exact lifted os started H enc F)

theorem plain (f : FuncId) (fn : Func) (hf : Tryd.pinned.checked.prog.funcNamed Rows.fnNumRow.func = some f) (hfn : Tryd.pinned.checked.prog.funcs[f]? = some fn) :
    true = Tryd.pinned.checked.prog.looks [] ∧ ∀ (j : Nat) t, fn.params[j]? = some t → Tryd.pinned.checked.prog.wantsStandIn t = false := by
  obtain rfl : f = 4 := Option.some.inj ((show Tryd.prog.funcNamed Rows.fnNumRow.func = some 4 by kernel_rfl).symm.trans hf) |>.symm
  obtain rfl : fn = Tryd.f4 := (Option.some.inj (Tryd.func4.symm.trans hfn)).symm
  refine ⟨by kernel_rfl, fun j t ht => ?_⟩
  rw [Tryd.params4] at ht
  obtain rfl : t = 22 := by simpa using Array.mem_of_getElem? ht
  exact (show Tryd.prog.wantsStandIn 22 = false by kernel_rfl)

theorem card : Rows.FnNumCardSaid :=
  Claim7.holds_tied_plain_at .later [] _ _ _ _ said (fun _ h => by cases h) (by kernel_rfl) (fun _ h => by cases h) fnNum_row_tie rfl ⟨rfl, rfl⟩ (by kernel_rfl) rfl plain (by kernel_rfl)
#print axioms card
end Go.Proofs.YtchagbhcekehmaaDoor.fnNum
