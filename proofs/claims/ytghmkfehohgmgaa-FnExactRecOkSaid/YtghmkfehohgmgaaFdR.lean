/-
  Proves FnExactRecOkSaid: for every record, impl.RecOk answers as spec.RecOk does, and the law returns true and leaves its argument as it was. Conditions: none beyond the row's own.
-/
import Derived.Test.YtghmkfehohgmgaaFd3
namespace Go.Proofs.Ytghmkfehohgmgaa.fnExactRecOk
open Go.ChangeShapes Go.WideShapes Go.ChangeAt Go.RowKit
open Go.ChangeMaps (open_string shut_string)
open Go.Proofs.Ytghmkfehohgmgaa.kit
set_option linter.unusedVariables false

set_option maxRecDepth 100000 in
set_option maxHeartbeats 1000000 in
theorem walk (l : List UInt8) (ts : List (List UInt8)) (a : Option Addr) (cap : Nat) (w : World) (hk : Strs w ts a) (hs : l.length ≤ maxLen) (hl : ts.length ≤ maxLen) :
    Calls Try.prog 4 #[recV l a ts.length cap] w fun e w' => e = .returned (.bool true) ∧ Below w.heap.size w w' := by
  have HK := Lib.hid hk
  have HP := Lib.hid (show ∀ o1, Below w.heap.size w (w.alloc o1) from fun o1 => (Below.refl w.heap.size w).alloc (Nat.le_refl _) _)
  have HZ := Lib.hid (fun W (h : Strs W ts a) => szRec_any l ts a cap 1048576 W h hl hs (by omega) (by omega))
  by_cases hb : ((l.length + billF ts : Nat) : Int) ≤ 1048576
  · have hl2 : ts.length ≤ 1048576 := by simp only [billF] at hb; omega
    rw [leftF_pos hb] at HZ
    have h0 : 0 ≤ 1048576 - ((l.length + billF ts : Nat) : Int) := by omega
    have HT := Lib.hid (fun W (h : Strs W ts a) => toRec_any l ts a cap W h hl2)
    have hn2 : ts.length ≤ 2000000 := by omega
    have HE := Lib.hid (fun W a1 a2 c1 c2 B C (h1 : SlF B W a1 ts.length (fun j => ts.getD j [])) (h2 : SlF C W a2 ts.length (fun j => ts.getD j [])) => eqRec_any B C l a1 a2 c1 c2 ts.length _ W hn2 h1 h2)
    have HSP := Lib.hid (fun W a1 c1 B (h1 : SlF B W a1 ts.length (fun j => ts.getD j [])) => specRecOk_any B l a1 c1 ts.length _ W hn2 h1)
    have HIM := Lib.hid (fun W a1 c1 B (h1 : SlF B W a1 ts.length (fun j => ts.getD j [])) => implRecOk_any B l a1 c1 ts.length _ W hn2 h1)
    generalize recOk l ts.length (fun j => ts.getD j []) = r at HSP HIM
    clear hk hl hs hb
    generalize ((l.length + billF ts : Nat) : Int) = bl at *
    unfold recV eS at HT HZ HE HSP HIM ⊢
    generalize (⟨l.toArray⟩ : ByteArray) = s at HT HZ HE HSP HIM ⊢
    go_enter Try.func4, Try.ntmps4
    go_wp2_with fail
    refine (HZ.out _ (HK.out.alloc _)).mono ?_
    rintro e w1 ⟨rfl, b1⟩
    have BX1 := Lib.hid ((Bx2.start (s := s) (a := a) (n := ts.length) (c := cap) w 30).step b1)
    have B1 := Lib.hid ((HP.out _).trans (b1.mono (HP.out _).size))
    clear b1
    obtain ⟨⟨x0, x1⟩, _⟩ := BX1.out
    go_wp2_with fail
    clear x0 x1
    refine (HT.out _ (HK.out.kept (Nat.le_refl _) B1.out)).mono ?_
    rintro e w2 ⟨a2, c2, rfl, hk2, hc2, b2⟩
    have BX2 := Lib.hid (BX1.out.step b2)
    have B2 := Lib.hid (B1.out.trans (b2.mono B1.out.size))
    have K2 := Lib.hid hk2
    clear b2 hk2
    go_wp2_with fail
    refine (HSP.out _ a2 c2 _ K2.out).mono ?_
    rintro e w3 ⟨rfl, b3⟩
    have BX3 := Lib.hid (BX2.out.step b3)
    have B3 := Lib.hid (B2.out.trans (b3.mono B2.out.size))
    clear b3
    obtain ⟨⟨x0, x1⟩, _⟩ := BX3.out
    go_wp2_with fail
    clear x0 x1
    refine (HT.out _ (HK.out.kept (Nat.le_refl _) B3.out)).mono ?_
    rintro e w4 ⟨a4, c4, rfl, hk4, hc4, b4⟩
    have BX4 := Lib.hid (BX3.out.step b4)
    have B4 := Lib.hid (B3.out.trans (b4.mono B3.out.size))
    have K4 := Lib.hid hk4
    have A4 := Lib.hid (show ∀ o, Below w4.heap.size w4 (w4.alloc o) from fun o => (Below.refl w4.heap.size w4).alloc (Nat.le_refl _) _)
    clear b4 hk4
    go_wp2_with fail
    refine (HIM.out _ a4 c4 _ (K4.out.alloc _)).mono ?_
    rintro e w5 ⟨rfl, b5⟩
    have BX5 := Lib.hid ((BX4.out.step (A4.out _)).step b5)
    have BY5 := Lib.hid ((Bx2.start (s := s) (a := a4) (n := ts.length) (c := c4) w4 33).step b5)
    have B5 := Lib.hid ((B4.out.trans ((A4.out _).mono B4.out.size)).trans (b5.mono ((B4.out.trans ((A4.out _).mono B4.out.size))).size))
    have K5 := Lib.hid ((K4.out.alloc _).kept b5)
    clear b5
    go_wp2_with fail
    go_region_held3 (fun w' => ((w'.cell? ⟨w.heap.size, 0, none⟩ = some (.string s) ∧ w'.cell? ⟨w.heap.size, 1, none⟩ = some (.slice a ts.length cap)) ∧ (w'.cell? ⟨w4.heap.size, 0, none⟩ = some (.string s) ∧ w'.cell? ⟨w4.heap.size, 1, none⟩ = some (.slice a4 ts.length c4))) ∧ (w.heap.size < w'.heap.size ∧ w4.heap.size < w'.heap.size) ∧ Below w5.heap.size w5 w') (first | exact Two2.start BX5.out BY5.out | exact Two2.step (p := w.heap.size) (q := w4.heap.size) (s := s) (a := a) (n := ts.length) (c := cap) (s2 := s) (a2 := a4) (n2 := ts.length) (c2 := c4) (by assumption) (by assumption)) (first | (go_at_call 16; refine (HT.out _ (HK.out.kept (Nat.le_refl _) B5.out.drew)).mono ?_; rintro e w6 ⟨a6, c6, rfl, hk6, hc6, b6⟩) | (go_at_call 18; refine (HE.out _ a4 a6 c4 c6 _ _ (K5.out.drew.kept (by assumption)) (by assumption)).mono ?_; rintro e w7 ⟨rfl, b7⟩))
    go_wp2_with fail
    go_ret
    have hfin := Two2.below (p := w.heap.size) (q := w4.heap.size) (s := s) (a := a) (n := ts.length) (c := cap) (s2 := s) (a2 := a4) (n2 := ts.length) (c2 := c4) (W := w5) (by assumption)
    exact ⟨rfl, B5.out.trans (hfin.mono B5.out.size)⟩
  · rw [leftF_neg (by omega)] at HZ
    unfold recV eS at HZ ⊢
    generalize (⟨l.toArray⟩ : ByteArray) = s at HZ ⊢
    go_enter Try.func4, Try.ntmps4
    go_wp2_with fail
    refine (HZ.out _ (HK.out.kept (Nat.le_refl _) (HP.out _))).mono ?_
    rintro e w1 ⟨rfl, b1⟩
    go_wp2_with fail
    go_ret
    exact ⟨rfl, (HP.out _).trans (b1.mono (HP.out _).size)⟩

theorem own : ownKnob Try.prog.godebug = none := by kernel_rfl

set_option maxRecDepth 100000 in
theorem lifted (os : Os) (started : os.Started) (H : Type) (enc : TypeId × Value → H) :
    ReturnsInHanded {} Try.checked os 4 .any (Rows.fnExactRecOkSpec.pre6 enc Try.prog Try.f4 Rows.fnExactRecOkRow.domain false) (Rows.fnExactRecOkSpec.post enc Try.prog Try.f4 false true false false) := by
  refine returnsInHanded_of_change (C := Try.checked) own started (by kernel_rfl) Try.func4
    (ChangeSpec.witness6 (enc := enc) (C := Try.checked) false ⟨#[], #[.agg #[.string ⟨#[]⟩, .slice none 0 0]], []⟩ 8 (by kernel_rfl) (by kernel_rfl) (by kernel_rfl) (by kernel_rfl)) ?_
  intro W base args ds gs before hval0 hW hcnd _
  have hval : ∀ (j : Nat) t v, Try.f4.params[j]? = some t → args[j]? = some v → Value.okWide Try.prog W .any base t v := hval0
  have hW' := hW
  obtain ⟨p, q, hA0, hV, rfl, hfz, hnd⟩ := hW
  have hA : DataW.TrodAll enc Try.prog W 0 (fun _ => true) true Try.f4.params.toList args.toList ds p := hA0
  rw [Try.params4] at hA hval
  obtain ⟨v0, vs0, d0, ds0, p0, q0, hargs, rfl, rfl, h0, r0⟩ := trodAll_cons hA
  obtain ⟨rfl, rfl, rfl⟩ := trodAll_nil r0
  obtain rfl : args = #[v0] := by cases args; simp_all
  obtain ⟨rfl, rfl⟩ := trodVars_none hV
  obtain ⟨l0, t0, a0, c0, rfl, hk0, hs0, hl0⟩ := open_rec (hval 0 30 v0 rfl rfl) h0
  have hlt0 : ∀ x ∈ p0, x.block < W.heap.size := fun x hx => by simpa using hW'.lt x (by simp [hx])
  clear hA0 hval0
  refine (walk l0 t0 a0 c0 W hk0 hs0 hl0).mono fun e W' ⟨he, bel⟩ => ?_
  subst he
  exact ⟨_, rfl, _, _, _, [], _, [], hW', trodAll_mk1 (shut_bool Try.underlying4 _), (trodAll_cons_mk (Below.trod laidOutF (by kernel_rfl) (of_decide_eq_true (by kernel_rfl)) h0 bel hlt0) trodAll_mk0), rfl, bel.frame _, fun h => by cases h⟩

theorem over : Rows.fnExactRecOkRow.holds Try.pinned (OpenSpec.ofChange Rows.fnExactRecOkSpec) :=
  OpenClaim.holds_of_wide 4 Try.f4 rfl rfl rfl rfl rfl rfl rfl ⟨rfl, rfl, rfl, rfl, rfl⟩ rfl rfl rfl rfl rfl (by kernel_rfl) Try.func4 (by kernel_rfl)
    (of_decide_eq_true (by kernel_rfl)) (by unfold Func.isWrapper; first | (rw [if_pos (by decide +kernel)]; kernel_rfl) | (rw [if_neg (by decide +kernel)]; exact ⟨rfl, rfl⟩))
    (fun os started H enc _ => lifted os started H enc)

theorem proved : Rows.FnExactRecOkSaid := over
#print axioms proved
end Go.Proofs.Ytghmkfehohgmgaa.fnExactRecOk
