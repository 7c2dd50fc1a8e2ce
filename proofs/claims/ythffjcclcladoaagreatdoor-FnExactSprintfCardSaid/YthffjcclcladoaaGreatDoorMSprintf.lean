/-
  Proves FnExactSprintfCardSaid: for every form and every list of values, impl.Sprintf answers as spec.Sprintf does, and the law returns true and leaves its arguments as they were. Conditions: none beyond the card's own.
-/
import Derived.Test.YthffjcclcladoaaGreatDoorCards
import Derived.Test.YthffjcclcladoaaGreatDoorTie
import Derived.Test.YthffjcclcladoaaGreatDoorMVl2
import Derived.Test.YthffjcclcladoaaGreatDoorMSy0
namespace Go.Proofs.YthffjcclcladoaaGreatDoor.fnExactSprintf
open Go.ChangeShapes Go.WideShapes Go.ChangeAt Go.RowKit
open Go.ChangeMaps (open_string shut_string)
open Go.Proofs.YthffjcclcladoaaGreatDoor.kit
set_option linter.unusedVariables false
set_option linter.unusedSimpArgs false

theorem own : ownKnob Tryz.prog.godebug = none := by kernel_rfl
/-- What the row's list and the world's shape give: the tables' cells, and the library's longest text. -/
theorem table {W : World} (h : laidMet Tryz.prog Rows.fnExactSprintfRow.laid W) (hsh : W.ShapedOpen Tryz.prog) : Tab W ∧ BT W ∧ ML W := ⟨tab_of h (by kernel_rfl), bt_of h (by kernel_rfl), Tryz.laysM143.s1_3 W hsh⟩
set_option maxRecDepth 100000 in
set_option maxHeartbeats 2000000 in
theorem walk (s : ByteArray) (ts : List VD) (a : Option Addr) (cap : Nat) (w : World) (hs : s.size ≤ maxLen) (hk : Vds w ts a) (hl : ts.length ≤ maxLen) (htb : Tab w ∧ BT w ∧ ML w) :
    Calls Tryz.prog 5 #[.string s, .slice a ts.length cap] w fun e w' => e = .returned (.bool true) ∧ Below w.heap.size w w' := by
  obtain ⟨ht, hbt, hm⟩ := htb
  have HK := Lib.hid hk
  have HT := Lib.hid ht
  have HBT := Lib.hid hbt
  have HM := Lib.hid hm
  clear ht hbt hm
  by_cases hb : 1048576 < s.size
  · clear hk HK
    unfold maxLen at hs
    go_enter Tryz.func5, Tryz.ntmps5
    go_wp2
    go_ret
    exact ⟨rfl, Below.refl _ _⟩
  have hd : decide (1048576 < s.size) = false := by simpa using hb
  by_cases hv : (billV ts : Int) ≤ 1048576
  · have hl2 : ts.length ≤ 1048576 := by simp only [billV] at hv; omega
    have hg : ∀ v ∈ ts, GoodV v := fun v hmem => by
      obtain ⟨i, hi, rfl⟩ := List.getElem_of_mem hmem
      obtain ⟨_, _, _, _, _, _, n1, n2⟩ := hk i hi
      refine ⟨?_, n1, n2⟩
      have h1 := costV_take ts i hi
      have h2 := costV_le ts (i + 1)
      simp only [billV] at hv
      omega
    have S := Lib.hid (fun a cap B W h => specSf_any s ts a cap B W (by omega) hl2 h hg)
    have I := Lib.hid (fun a cap W (hc : ts.length ≤ cap) h t b m => implSf_any s ts a cap W (by omega) hl2 hc h hg t b m)
    have HZ := Lib.hid (fun W (h : Vds W ts a) => szVds_any ts a cap 1048576 W h hl (by omega) (by omega))
    rw [leftV_pos hv] at HZ
    have h0 : 0 ≤ 1048576 - (billV ts : Int) := by omega
    obtain ⟨R, hR⟩ : ∃ R, R = spV (spA s.data.toList ts) := ⟨_, rfl⟩
    obtain ⟨R0, R1, hR2⟩ : ∃ (R0 : ByteArray) (R1 : Bool), spV (spA s.data.toList ts) = .tuple #[.string R0, .bool R1] := ⟨_, _, rfl⟩
    clear hR R
    rw [hR2] at S I
    clear hR2 hk hg hs
    generalize (billV ts : Int) = bl at *
    go_enter Tryz.func5, Tryz.ntmps5
    go_wp2_with fail
    refine (HZ.out _ HK.out).mono ?_
    rintro e w1 ⟨rfl, b1⟩
    have K1 := Lib.hid (HK.out.kept (Nat.le_refl _) b1)
    have B1 := Lib.hid b1
    clear b1
    go_wp2_with fail
    refine (toVds_any ts a cap _ K1.out hl2).mono ?_
    rintro e w2 ⟨a2, c2, rfl, t2, hc2, b2⟩
    have K2 := Lib.hid (K1.out.kept (Nat.le_refl _) b2)
    have B2 := Lib.hid (B1.out.trans (b2.mono B1.out.size))
    have T2 := Lib.hid t2
    clear b2 t2
    go_wp2_with fail
    refine (S.out a2 c2 _ _ T2.out).mono ?_
    rintro e w3 ⟨rfl, b3⟩
    have K3 := Lib.hid (K2.out.kept (Nat.le_refl _) b3)
    have B3 := Lib.hid (B2.out.trans (b3.mono B2.out.size))
    clear b3 T2
    go_wp2_with fail
    refine (toVds_any ts a cap _ K3.out hl2).mono ?_
    rintro e w4 ⟨a4, c4, rfl, t4, hc4, b4⟩
    have K4 := Lib.hid (K3.out.kept (Nat.le_refl _) b4)
    have B4 := Lib.hid (B3.out.trans (b4.mono B3.out.size))
    have T4 := Lib.hid t4
    clear b4 t4
    go_wp2_with fail
    refine (I.out a4 c4 _ hc4 T4.out.row (HT.out.on B4.out) (HBT.out.kept B4.out) (HM.out.on B4.out)).mono ?_
    rintro e w5 ⟨rfl, b5⟩
    have K5 := Lib.hid (K4.out.kept (Nat.le_refl _) b5)
    have T5 := Lib.hid (T4.out.kept b5)
    have B5 := Lib.hid (B4.out.trans (b5.mono B4.out.size))
    clear b5
    cases R1
    all_goals
      go_wp2_with fail
      refine (toVds_any ts a cap _ K5.out hl2).mono ?_
      rintro e w6 ⟨a6, c6, rfl, t6, hc6, b6⟩
      have T6 := Lib.hid t6
      have T7 := Lib.hid (T5.out.kept b6)
      have B6 := Lib.hid (B5.out.trans (b6.mono B5.out.size))
      clear b6 t6
      go_wp2_with fail
      refine (eqVds_any _ _ a4 a6 c4 c6 ts.length _ _ (by omega) T7.out T6.out).mono ?_
      rintro e w7 ⟨rfl, b7⟩
      go_wp2
      go_ret
      exact ⟨rfl, B6.out.trans (b7.mono B6.out.size)⟩
  · have HZ := Lib.hid (fun W (h : Vds W ts a) => szVds_any ts a cap 1048576 W h hl (by omega) (by omega))
    rw [leftV_neg (by omega)] at HZ
    clear hk hs
    go_enter Tryz.func5, Tryz.ntmps5
    go_wp2_with fail
    refine (HZ.out _ HK.out).mono ?_
    rintro e w1 ⟨rfl, b1⟩
    go_wp2
    go_ret
    exact ⟨rfl, b1⟩

set_option maxRecDepth 100000 in
theorem contract (H : Type) (enc : TypeId × Value → H) (W : World) (base : Nat) (args : Array Value) (ds gs : List (DataW H)) (before : List MemPlace)
    (hval : ∀ (j : Nat) t v, Tryz.f5.params[j]? = some t → args[j]? = some v → Value.okWide Tryz.prog W .any base t v)
    (hW : DataW.Whole enc Tryz.prog Tryz.f5.params.toList Rows.fnExactSprintfSpec.vars false W args.toList ds gs before) (hL : laidMet Tryz.prog Rows.fnExactSprintfRow.laid W) (hsh : W.ShapedOpen Tryz.prog) :
    Calls Tryz.prog 5 args W fun e W' => ∃ v, e = .returned v ∧ Rows.fnExactSprintfSpec.post enc Tryz.prog Tryz.f5 false true false false W args v W' := by
  have hW' := hW
  obtain ⟨p, q, hA0, hV, rfl, hfz, hnd⟩ := hW
  have hA : DataW.TrodAll enc Tryz.prog W 0 (fun _ => true) true Tryz.f5.params.toList args.toList ds p := hA0
  rw [Tryz.params5] at hA hval
  obtain ⟨v0, vs0, d0, ds0, p0, q0, hargs, rfl, rfl, h0, r0⟩ := trodAll_cons hA
  obtain ⟨v1, vs1, d1, ds1, p1, q1, rfl, rfl, rfl, h1, r1⟩ := trodAll_cons r0
  obtain ⟨rfl, rfl, rfl⟩ := trodAll_nil r1
  obtain rfl : args = #[v0, v1] := by cases args; simp_all
  obtain ⟨rfl, rfl⟩ := trodVars_none hV
  obtain ⟨s0, rfl, rfl, rfl, hs0⟩ := open_string Tryz.underlying9 (hval 0 9 v0 rfl rfl) h0
  obtain ⟨t1, a1, c1, rfl, hk1, hl1⟩ := open_vds (hval 1 56 v1 rfl rfl) h1
  have hlt1 : ∀ x ∈ p1, x.block < W.heap.size := fun x hx => by simpa using hW'.lt x (by simp [hx])
  clear hA0
  refine (walk s0 t1 a1 c1 W hs0 hk1 hl1 (table hL hsh)).mono fun e W' ⟨he, bel⟩ => ?_
  subst he
  exact ⟨_, rfl, _, _, _, [], _, [], hW', trodAll_mk1 (shut_bool Tryz.underlying4 _), (trodAll_cons_mk (shut_string Tryz.underlying9 hs0) (trodAll_cons_mk (Below.trod laidOutV (by kernel_rfl) (of_decide_eq_true (by kernel_rfl)) h1 bel hlt1) trodAll_mk0)), rfl, bel.frame _, fun h => by cases h⟩

/-- A world for the witness: the listed variables hold what is listed. -/
noncomputable def laidWorld (os : Os) : World := World.laidAll Tryz.prog os Rows.fnExactSprintfRow.laid
theorem laid_met (os : Os) : laidMet Tryz.prog Rows.fnExactSprintfRow.laid ((laidWorld os).forCall (fun _ _ => 0) ⟨#[], #[.string ⟨#[]⟩, .slice none 0 0], []⟩).memory :=
  laidMet_laidAll _ (by kernel_rfl) (by kernel_rfl)
theorem reads (os : Os) {H : Type} (enc : TypeId × Value → H) : ∃ places, DataW.whole enc Tryz.prog ((laidWorld os).forCall (fun _ _ => 0) ⟨#[], #[.string ⟨#[]⟩, .slice none 0 0], []⟩).memory Tryz.f5.params.toList Rows.fnExactSprintfSpec.vars false #[Value.string ⟨#[]⟩, .slice none 0 0].toList 8 = some ([.lit (.string []), .nil], [], places) :=
  ⟨[], by kernel_rfl⟩

set_option maxRecDepth 100000 in
theorem lifted (os : Os) (started : os.Started) (H : Type) (enc : TypeId × Value → H) (F : Stop.Interp) :
    ReturnsInHanded {} Tryz.checked os 5 .any ((OpenSpec.ofChange Rows.fnExactSprintfSpec).preRow enc Tryz.prog Tryz.f5 Rows.fnExactSprintfRow.domain false Rows.fnExactSprintfRow.laid) (((OpenSpec.ofChange Rows.fnExactSprintfSpec).at F).post enc Tryz.prog Tryz.f5 false true false false) := by
  obtain ⟨places, hx⟩ := reads os enc
  refine returnsInHanded_of_row (C := Tryz.checked) (s := OpenSpec.ofChange Rows.fnExactSprintfSpec) own started (by kernel_rfl) Tryz.func5
    (witness_row_at (enc := enc) (C := Tryz.checked) false (laidWorld os) #[.string ⟨#[]⟩, .slice none 0 0] (World.laidAll_os _ _ _) (by kernel_rfl) (by kernel_rfl) (by kernel_rfl)
      (OpenSpec.preRow_of_cond 8 hx (by kernel_rfl) (fun k hk => by cases hk) (by kernel_rfl) (laid_met os))) ?_
  intro W base args ds gs before hval hW _ _ _ hL hsh _
  exact contract H enc W base args ds gs before hval hW hL hsh

theorem said : Rows.FnExactSprintfSaid :=
  OpenClaim.holds_of_cond 5 Tryz.f5 rfl rfl rfl rfl rfl rfl rfl ⟨rfl, rfl, rfl, rfl, rfl⟩ rfl rfl rfl rfl rfl (by kernel_rfl) Tryz.func5 (by kernel_rfl)
    (of_decide_eq_true (by kernel_rfl)) (by unfold Func.isWrapper; first | (rw [if_pos (by decide +kernel)]; kernel_rfl) | (rw [if_neg (by decide +kernel)]; exact ⟨rfl, rfl⟩))
    (fun os started H enc _ F => by rw [OpenClaim.pre_eq_preRow]; exact lifted os started H enc F)

theorem plain (f : FuncId) (fn : Func) (hf : Tryz.pinned.checked.prog.funcNamed Rows.fnExactSprintfRow.func = some f) (hfn : Tryz.pinned.checked.prog.funcs[f]? = some fn) :
    true = Tryz.pinned.checked.prog.looks [] ∧ ∀ (j : Nat) t, fn.params[j]? = some t → Tryz.pinned.checked.prog.wantsStandIn t = false := by
  obtain rfl : f = 5 := Option.some.inj ((show Tryz.prog.funcNamed Rows.fnExactSprintfRow.func = some 5 by kernel_rfl).symm.trans hf) |>.symm
  obtain rfl : fn = Tryz.f5 := (Option.some.inj (Tryz.func5.symm.trans hfn)).symm
  refine ⟨by kernel_rfl, fun j t ht => ?_⟩
  rw [Tryz.params5] at ht
  have hm := Array.mem_of_getElem? ht
  simp at hm
  rcases hm with rfl | rfl
  · exact (show Tryz.prog.wantsStandIn 9 = false by kernel_rfl)
  · exact (show Tryz.prog.wantsStandIn 56 = false by kernel_rfl)

theorem card : Rows.FnExactSprintfCardSaid :=
  Claim7.holds_tied_plain_at .later [] _ _ _ _ said (fun _ h => by cases h) (by kernel_rfl) (fun _ h => by cases h) fnExactSprintf_row_tie rfl ⟨rfl, rfl⟩ (by kernel_rfl) rfl plain (by kernel_rfl)
#print axioms card
end Go.Proofs.YthffjcclcladoaaGreatDoor.fnExactSprintf
