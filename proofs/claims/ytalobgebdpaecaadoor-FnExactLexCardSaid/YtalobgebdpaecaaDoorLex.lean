/-
  Proves FnExactLexCardSaid: for every text, impl.Lex answers as spec.Lex does, its answer is new memory of its own, and the law returns true and leaves its argument as it was. Conditions: none beyond the row's own.
-/
import Derived.Test.YtalobgebdpaecaaDoorCards
import Derived.Test.YtalobgebdpaecaaDoorTie
import Derived.Deep.DeepHandedRow
import Derived.Lay
import Derived.LaidSub
import Derived.Test.YtalobgebdpaecaaDoorRows
import Derived.ChangeVars
import Derived.OpenVars
import Derived.Test.YtalobgebdpaecaaDoorLxA
import Derived.Test.YtalobgebdpaecaaDoorTok3
namespace Go.Proofs.YtalobgebdpaecaaDoor.fnExactLex
open Go.ChangeShapes Go.WideShapes Go.ChangeAt Go.RowKit
open Go.ChangeMaps (open_string shut_string)
open Go.Proofs.YtalobgebdpaecaaDoor.kit
set_option linter.unusedVariables false

theorem own : ownKnob Tryd.prog.godebug = none := by kernel_rfl
/-- What the row's list gives: the table's cells hold the signs. -/
theorem table {W : World} (h : laidMet Tryd.prog Rows.fnExactLexRow.laid W) : Sig W := sig_of h (by kernel_rfl)
/-- The law's own walk. -/
theorem lexB_len (s : ByteArray) : (lexB s).1.length ≤ 4001 := by
  by_cases hb : 4000 < s.size
  · rw [lexB, if_pos hb]; simp
  · rw [lexB, if_neg hb]
    have key : ∀ (f i : Nat) (line : Int) (acc : List kit.Tok), i ≤ s.size → acc.length ≤ i → (lx s f i line acc).1.length ≤ s.size := by
      intro f
      induction f with
      | zero => intro i line acc hi ha; simp only [lx]; omega
      | succ f ih =>
        intro i line acc hi ha
        have hsk := skip_le s i hi
        by_cases h : skipB s i < s.size
        · cases hw : wd s (skipB s i) (divs acc) with
          | none => rw [lx_none h (by omega) hw]; simp
          | some x =>
            have hp := wd_pair h hw
            rw [lx_some h (by omega) hw]
            exact ih _ _ _ hp.2 (by simp; omega)
        · rw [lx_end (by omega) (by omega)]; simp only; omega
    have := key (s.size + 1) 0 1 [] (by omega) (by simp)
    omega
set_option maxRecDepth 100000 in
set_option maxHeartbeats 2000000 in
theorem walk (s : ByteArray) (w : World) (hs : s.size ≤ maxLen) (ht : Sig w) :
    Calls Tryd.prog 4 #[.string s] w fun e w' => e = .returned (.bool true) ∧ Below w.heap.size w w' := by
  by_cases hb : 1048576 < s.size
  · unfold maxLen at hs
    go_enter Tryd.func4, Tryd.ntmps4
    go_wp2
    go_ret
    exact ⟨rfl, Below.refl _ _⟩
  · have hd : decide (1048576 < s.size) = false := by simpa using hb
    clear hs
    have hs : s.size ≤ 1048576 := by omega
    have hlen := lexB_len s
    have HS := Lib.hid (fun W => specLex_any s W hs)
    have HI := Lib.hid (fun W (h : Sig W) => implLex_any s W hs h)
    have HT := Lib.hid ht
    clear ht
    generalize lexB s = r at *
    obtain ⟨xs, q⟩ := r
    have hlen : xs.length ≤ 4001 := hlen
    go_enter Tryd.func4, Tryd.ntmps4
    go_wp2_with fail
    refine (HS.out _).mono ?_
    rintro e w1 ⟨v0, rfl, o0, b1⟩
    obtain ⟨a0, c0, rfl, s0⟩ := o0.tokF
    have S0 := Lib.hid s0
    have G0 := Lib.hid s0
    have B1 := Lib.hid b1
    have z1 := b1.size
    clear o0 s0 b1
    try simp only at *
    go_wp2_with fail
    refine (HI.out _ (HT.out.on B1.out)).mono ?_
    rintro e w2 ⟨v1, rfl, o1, b2⟩
    obtain ⟨a1, c1, rfl, s1⟩ := o1.tokF
    have S0' := Lib.hid (S0.out.kept b2)
    have S1 := Lib.hid s1
    have B2 := Lib.hid (B1.out.trans (b2.mono z1))
    have z2 := b2.size
    clear o1 s1 b2 S0 B1
    try simp only at *
    go_wp2_with fail
    refine (eqToks_any _ _ a1 a0 c1 c0 xs.length _ _ (by omega) S1.out S0'.out).mono ?_
    rintro e w3 ⟨rfl, b3⟩
    have S0 := Lib.hid (S0'.out.kept b3)
    have S1' := Lib.hid (S1.out.kept b3)
    have B3 := Lib.hid (B2.out.trans (b3.mono (Nat.le_trans z1 z2)))
    have z3 := b3.size
    clear b3 S0' S1 B2
    go_wp2_with fail
    refine (markToks_any w1.heap.size a1 c1 xs.length 1 _ _ (by omega) (by omega) (by omega) (by omega) S1'.out).mono ?_
    rintro e w4 ⟨rfl, s4, b4⟩
    have S0' : Hid (TokF w.heap.size w4 a0 xs.length (fun j => xs.getD j default)) := Lib.hid (fun j hj => by
      obtain ⟨g, e1, h1, h2, h3, h4⟩ := G0.out j hj
      have h5 := S0.out j hj
      obtain ⟨g', e1', h1', h2', h3', h4'⟩ := h5
      rw [e1] at e1'; cases e1'
      exact ⟨g, e1, h1, Nat.lt_of_lt_of_le h2' b4.size, h3'.of fun o => b4.cell (p := ⟨g, o, none⟩) h2, fun d hd => (b4.frozen (p := ⟨g, j * 4 + d, none⟩) h2).trans (h4' d hd)⟩)
    have S1 := Lib.hid s4
    have B4 := Lib.hid (B3.out.trans (b4.mono z1))
    have z4 := b4.size
    clear s4 b4 S0 S1' B3
    go_wp2_with fail
    refine (heldToks_any w1.heap.size a1 c1 xs.length 1 _ (by omega) (by omega) (by omega) S1.out).mono ?_
    rintro e w5 ⟨rfl, b5⟩
    have S0 := Lib.hid (S0'.out.kept b5)
    have S1' := Lib.hid (S1.out.kept b5)
    have B5 := Lib.hid (B4.out.trans (b5.mono (by omega)))
    have z5 := b5.size
    clear b5 S0' S1 B4
    go_wp2_with fail
    refine (HI.out _ (HT.out.on B5.out)).mono ?_
    rintro e w6 ⟨v2, rfl, o2, b6⟩
    obtain ⟨a2, c2, rfl, s2⟩ := o2.tokF
    have S0' := Lib.hid (S0.out.kept b6)
    have S1 := Lib.hid (S1'.out.kept b6)
    have S2 := Lib.hid s2
    have B6 := Lib.hid (B5.out.trans (b6.mono (by omega)))
    have z6 := b6.size
    clear o2 s2 b6 S0 S1' B5
    try simp only at *
    go_wp2_with fail
    refine (eqToks_any _ _ a2 a0 c2 c0 xs.length _ _ (by omega) S2.out S0'.out).mono ?_
    rintro e w7 ⟨rfl, b7⟩
    have S1' := Lib.hid (S1.out.kept b7)
    have B7 := Lib.hid (B6.out.trans (b7.mono (by omega)))
    have z7 := b7.size
    clear b7 S0' S1 S2 B6
    go_wp2_with fail
    refine (heldToks_any w1.heap.size a1 c1 xs.length 1 _ (by omega) (by omega) (by omega) S1'.out).mono ?_
    rintro e w8 ⟨rfl, b8⟩
    go_wp2
    go_ret
    exact ⟨rfl, B7.out.trans (b8.mono (by omega))⟩

set_option maxRecDepth 100000 in
theorem contract (H : Type) (enc : TypeId × Value → H) (W : World) (base : Nat) (args : Array Value) (ds gs : List (DataW H)) (before : List MemPlace)
    (hval : ∀ (j : Nat) t v, Tryd.f4.params[j]? = some t → args[j]? = some v → Value.okWide Tryd.prog W .any base t v)
    (hW : DataW.Whole enc Tryd.prog Tryd.f4.params.toList Rows.fnExactLexSpec.vars false W args.toList ds gs before) (hL : laidMet Tryd.prog Rows.fnExactLexRow.laid W) :
    Calls Tryd.prog 4 args W fun e W' => ∃ v, e = .returned v ∧ Rows.fnExactLexSpec.post enc Tryd.prog Tryd.f4 false true false false W args v W' := by
  have hW' := hW
  obtain ⟨p, q, hA0, hV, rfl, hfz, hnd⟩ := hW
  have hA : DataW.TrodAll enc Tryd.prog W 0 (fun _ => true) true Tryd.f4.params.toList args.toList ds p := hA0
  rw [Tryd.params4] at hA hval
  obtain ⟨v0, vs0, d0, ds0, p0, q0, hargs, rfl, rfl, h0, r0⟩ := trodAll_cons hA
  obtain ⟨rfl, rfl, rfl⟩ := trodAll_nil r0
  obtain rfl : args = #[v0] := by cases args; simp_all
  have hV1 : DataW.TrodVars enc Tryd.prog W (fun _ => true) ["loop.example/g00560/impl.signs"] gs q := hV
  obtain ⟨g, t, cs, fuel, d, p', rfl, _, _, _, _, _⟩ := trodVars_one hV1
  obtain ⟨s0, rfl, rfl, rfl, hs0⟩ := open_string Tryd.underlying9 (hval 0 9 v0 rfl rfl) h0
  clear hA0
  refine (walk s0 W hs0 (table hL)).mono fun e W' ⟨he, bel⟩ => ?_
  subst he
  exact ⟨_, rfl, _, _, _, [], _, _, hW', trodAll_mk1 (shut_bool Tryd.underlying4 _), (trodAll_cons_mk (shut_string Tryd.underlying9 hs0) trodAll_mk0), Below.trodVars laidOutT bel (by kernel_rfl) hV1, bel.frame _, fun h => by cases h⟩

/-- A world for the witness: the listed variables hold what is listed. -/
noncomputable def laidWorld (os : Os) : World := World.laidAll Tryd.prog os Rows.fnExactLexRow.laid
theorem laid_met (os : Os) : laidMet Tryd.prog Rows.fnExactLexRow.laid ((laidWorld os).forCall (fun _ _ => 0) ⟨#[], #[.string ⟨#[]⟩], []⟩).memory :=
  laidMet_laidAll _ (by kernel_rfl) (by kernel_rfl)
theorem reads (os : Os) {H : Type} (enc : TypeId × Value → H) : ∃ places, DataW.whole enc Tryd.prog ((laidWorld os).forCall (fun _ _ => 0) ⟨#[], #[.string ⟨#[]⟩], []⟩).memory Tryd.f4.params.toList Rows.fnExactLexSpec.vars false #[Value.string ⟨#[]⟩].toList 8 = some ([.lit (.string [])], [strData signL], places) :=
  ⟨((DataW.whole enc Tryd.prog ((laidWorld os).forCall (fun _ _ => 0) ⟨#[], #[.string ⟨#[]⟩], []⟩).memory Tryd.f4.params.toList Rows.fnExactLexSpec.vars false #[Value.string ⟨#[]⟩].toList 8).map fun x => x.2.2).getD [], by kernel_rfl⟩

set_option maxRecDepth 100000 in
theorem lifted (os : Os) (started : os.Started) (H : Type) (enc : TypeId × Value → H) (F : Stop.Interp) :
    ReturnsInHanded {} Tryd.checked os 4 .any ((OpenSpec.ofChange Rows.fnExactLexSpec).preRow enc Tryd.prog Tryd.f4 Rows.fnExactLexRow.domain false Rows.fnExactLexRow.laid) (((OpenSpec.ofChange Rows.fnExactLexSpec).at F).post enc Tryd.prog Tryd.f4 false true false false) := by
  obtain ⟨places, hx⟩ := reads os enc
  refine returnsInHanded_of_row (C := Tryd.checked) (s := OpenSpec.ofChange Rows.fnExactLexSpec) own started (by kernel_rfl) Tryd.func4
    (witness_row_at (enc := enc) (C := Tryd.checked) false (laidWorld os) #[.string ⟨#[]⟩] (World.laidAll_os _ _ _) (by kernel_rfl) (by kernel_rfl) (by kernel_rfl)
      (OpenSpec.preRow_of_cond 8 hx (by kernel_rfl) (fun k hk => by cases hk) (by kernel_rfl) (laid_met os))) ?_
  intro W base args ds gs before hval hW _ _ _ hL _ _
  exact contract H enc W base args ds gs before hval hW hL

theorem said : Rows.FnExactLexSaid :=
  OpenClaim.holds_of_cond 4 Tryd.f4 rfl rfl rfl rfl rfl rfl rfl ⟨rfl, rfl, rfl, rfl, rfl⟩ rfl rfl rfl rfl rfl (by kernel_rfl) Tryd.func4 (by kernel_rfl)
    (of_decide_eq_true (by kernel_rfl)) (by unfold Func.isWrapper; first | (rw [if_pos (by decide +kernel)]; kernel_rfl) | (rw [if_neg (by decide +kernel)]; exact ⟨rfl, rfl⟩))
    (fun os started H enc _ F => by rw [OpenClaim.pre_eq_preRow]; exact lifted os started H enc F)

theorem plain (f : FuncId) (fn : Func) (hf : Tryd.pinned.checked.prog.funcNamed Rows.fnExactLexRow.func = some f) (hfn : Tryd.pinned.checked.prog.funcs[f]? = some fn) :
    false = Tryd.pinned.checked.prog.looks [] ∧ ∀ (j : Nat) t, fn.params[j]? = some t → Tryd.pinned.checked.prog.wantsStandIn t = false := by
  obtain rfl : f = 4 := Option.some.inj ((show Tryd.prog.funcNamed Rows.fnExactLexRow.func = some 4 by kernel_rfl).symm.trans hf) |>.symm
  obtain rfl : fn = Tryd.f4 := (Option.some.inj (Tryd.func4.symm.trans hfn)).symm
  refine ⟨by kernel_rfl, fun j t ht => ?_⟩
  rw [Tryd.params4] at ht
  obtain rfl : t = 9 := by simpa using Array.mem_of_getElem? ht
  exact (show Tryd.prog.wantsStandIn 9 = false by kernel_rfl)

theorem card : Rows.FnExactLexCardSaid :=
  Claim7.holds_tied_plain_at .later [] _ _ _ _ said (fun _ h => by cases h) (by kernel_rfl) (fun _ h => by cases h) fnExactLex_row_tie rfl ⟨rfl, rfl⟩ (by kernel_rfl) rfl plain (by kernel_rfl)
#print axioms card
end Go.Proofs.YtalobgebdpaecaaDoor.fnExactLex
