/-
  Proves FnExactLeastSaid: for every input the law returns true and leaves its argument as it was. Conditions: none beyond the row's own (its cell 'loops': the argument's reading comes to an end).
-/
import Derived.Test.YtiggdpckjmellaaRe12
namespace Go.Proofs.Ytiggdpckjmellaa.fnExactLeast
open Go.ChangeShapes Go.WideShapes Go.ChangeAt Go.RowKit
open Go.ChangeMaps (open_string shut_string)
open Go.Proofs.Ytiggdpckjmellaa.kit
set_option linter.unusedVariables false

set_option maxRecDepth 100000 in
set_option maxHeartbeats 8000000 in
theorem walk (t : RT) (a : Option Addr) (cap : Nat) (w : World) (hk : kit.Kids 0 w t.kids a) (hs : t.set.size ≤ maxLen) (hl : t.kids.length ≤ maxLen) :
    Calls Try.prog 7 #[reV t a cap] w fun e w' => e = .returned (.bool true) ∧ Below w.heap.size w w' := by
  have HK := Lib.hid hk
  have HSZ := Lib.hid (szRe_any t)
  have HTO := Lib.hid (toRe_any t)
  have HEQ := Lib.hid (eqRe_any t)
  have HSP := Lib.hid (specLeast_any t)
  have HIM := Lib.hid (implLeast_any t)
  have HB := Lib.hid (show ∀ o, Below w.heap.size w (w.alloc o) from fun o => (Below.refl w.heap.size w).alloc (Nat.le_refl _) _)
  clear hk
  by_cases c : RT.cost t ≤ 1048576
  · have hc0 : (RT.cost t : Int) ≤ 1048576 := by omega
    have HCO := Lib.hid c
    have HL := Lib.hid (leftOf_pos hc0)
    generalize (if RT.ok t = true then RT.lst t else 0) = res at *
    obtain ⟨k, s, n, lo, hi, ts⟩ := t
    unfold reV
    simp only [RT.set, RT.kids, RT.kind, RT.neg, RT.low, RT.high] at *
    go_enter Try.func7, Try.ntmps7
    go_wp2_with fail
    refine (HSZ.out a cap 1048576 _ (HK.out.alloc _) hs hl (by omega) (by omega)).mono ?_
    rintro e w1 ⟨rfl, hb1⟩
    rw [HL.out]
    generalize RT.cost (.node k s n lo hi ts) = co at hc0 ⊢
    have hc2 : ¬ (1048576 - (co : Int) < 0) := by omega
    have BX1 := Lib.hid ((Box.start (k := k) (s := s) (n := n) (lo := lo) (hi := hi) (ts := ts) (a := a) (cap := cap) w 40).step hb1)
    have HB1 := Lib.hid ((HB.out _).trans (hb1.mono (HB.out _).size))
    clear hb1
    obtain ⟨⟨x0, x1, x2, x3, x4, x5⟩, _⟩ := BX1.out
    go_wp2_with fail
    clear x0 x1 x2 x3 x4 x5
    refine (HTO.out a cap _ (HK.out.kept (Nat.le_refl _) HB1.out) HCO.out).mono ?_
    rintro e w2 ⟨a2, cap2, rfl, hk2, hb2⟩
    have BX2 := Lib.hid (BX1.out.step hb2)
    have HB2 := Lib.hid (HB1.out.trans (hb2.mono HB1.out.size))
    have HK2 := Lib.hid hk2
    clear hb2 hk2
    go_wp2_with fail
    refine (HSP.out a2 cap2 _ (HK2.out.mono (Nat.zero_le _)) HCO.out).mono ?_
    rintro e w3 ⟨rfl, hb3⟩
    have BX3 := Lib.hid (BX2.out.step hb3)
    have HB3 := Lib.hid (HB2.out.trans (hb3.mono HB2.out.size))
    clear hb3
    obtain ⟨⟨x0, x1, x2, x3, x4, x5⟩, _⟩ := BX3.out
    go_wp2_with fail
    clear x0 x1 x2 x3 x4 x5
    refine (HTO.out a cap _ (HK.out.kept (Nat.le_refl _) HB3.out) HCO.out).mono ?_
    rintro e w4 ⟨a4, cap4, rfl, hk4, hb4⟩
    have BX4 := Lib.hid (BX3.out.step hb4)
    have HB4 := Lib.hid (HB3.out.trans (hb4.mono HB3.out.size))
    have HK4 := Lib.hid (hk4.mono (Nat.zero_le _))
    have HA4 := Lib.hid (show ∀ o, Below w4.heap.size w4 (w4.alloc o) from fun o => (Below.refl w4.heap.size w4).alloc (Nat.le_refl _) _)
    clear hb4 hk4
    unfold reV
    simp only [RT.set, RT.kids, RT.kind, RT.neg, RT.low, RT.high]
    go_wp2_with fail
    refine (HIM.out a4 cap4 _ (HK4.out.alloc _) HCO.out).mono ?_
    rintro e w5 ⟨rfl, hb5⟩
    have BX5 := Lib.hid ((BX4.out.step (HA4.out _)).step hb5)
    have BY5 := Lib.hid ((Box.start (k := k) (s := s) (n := n) (lo := lo) (hi := hi) (ts := ts) (a := a4) (cap := cap4) w4 45).step hb5)
    have HB5 := Lib.hid ((HB4.out.trans ((HA4.out _).mono HB4.out.size)).trans (hb5.mono ((HB4.out.trans ((HA4.out _).mono HB4.out.size))).size))
    have HK5 := Lib.hid ((HK4.out.alloc _).kept (Nat.le_refl _) hb5)
    clear hb5
    go_wp2_with fail
    go_region_held3 (fun w' => ((w'.cell? ⟨w.heap.size, 0, none⟩ = some (.int .i64 k) ∧ w'.cell? ⟨w.heap.size, 1, none⟩ = some (.string s) ∧ w'.cell? ⟨w.heap.size, 2, none⟩ = some (.bool n) ∧ w'.cell? ⟨w.heap.size, 3, none⟩ = some (.int .i64 lo) ∧ w'.cell? ⟨w.heap.size, 4, none⟩ = some (.int .i64 hi) ∧ w'.cell? ⟨w.heap.size, 5, none⟩ = some (.slice a ts.length cap)) ∧ (w'.cell? ⟨w4.heap.size, 0, none⟩ = some (.int .i64 k) ∧ w'.cell? ⟨w4.heap.size, 1, none⟩ = some (.string s) ∧ w'.cell? ⟨w4.heap.size, 2, none⟩ = some (.bool n) ∧ w'.cell? ⟨w4.heap.size, 3, none⟩ = some (.int .i64 lo) ∧ w'.cell? ⟨w4.heap.size, 4, none⟩ = some (.int .i64 hi) ∧ w'.cell? ⟨w4.heap.size, 5, none⟩ = some (.slice a4 ts.length cap4))) ∧ (w.heap.size < w'.heap.size ∧ w4.heap.size < w'.heap.size) ∧ Below w5.heap.size w5 w') (first | exact Two6.start BX5.out BY5.out | exact Two6.step (p := w.heap.size) (q := w4.heap.size) (k := k) (s := s) (n := n) (lo := lo) (hi := hi) (ts := ts) (a := a) (cap := cap) (a2 := a4) (cap2 := cap4) (by assumption) (by assumption)) (first | (go_at_call 33; refine (HTO.out a cap _ (HK.out.kept (Nat.le_refl _) HB5.out.drew) HCO.out).mono ?_; rintro e w6 ⟨a6, cap6, rfl, hk6, hb6⟩) | (go_at_call 35; refine (HEQ.out a4 cap4 _ _ _ (HK5.out.drew.kept (Nat.le_refl _) (by assumption)) (kit.Kids.mono (by assumption) (Nat.zero_le _)) HCO.out).mono ?_; rintro e w7 ⟨rfl, hb7⟩))
    go_wp2_with fail
    go_ret
    have hfin := Two6.below (p := w.heap.size) (q := w4.heap.size) (k := k) (s := s) (n := n) (lo := lo) (hi := hi) (ts := ts) (a := a) (cap := cap) (a2 := a4) (cap2 := cap4) (W := w5) (by assumption)
    exact ⟨rfl, HB5.out.trans (hfin.mono HB5.out.size)⟩
  · have hc0 : (1048576 : Int) < (RT.cost t : Nat) := by omega
    have HL := Lib.hid (leftOf_neg hc0)
    obtain ⟨k, s, n, lo, hi, ts⟩ := t
    unfold reV
    simp only [RT.set, RT.kids, RT.kind, RT.neg, RT.low, RT.high] at *
    go_enter Try.func7, Try.ntmps7
    go_wp2_with fail
    refine (HSZ.out a cap 1048576 _ (HK.out.alloc _) hs hl (by omega) (by omega)).mono ?_
    rintro e w1 ⟨rfl, hb1⟩
    rw [HL.out]
    have HB1 := Lib.hid ((HB.out _).trans (hb1.mono (HB.out _).size))
    clear hb1
    go_wp2_with fail
    go_ret
    exact ⟨rfl, HB1.out⟩

theorem own : ownKnob Try.prog.godebug = none := by kernel_rfl

set_option maxRecDepth 100000 in
theorem lifted (os : Os) (started : os.Started) (H : Type) (enc : TypeId × Value → H) :
    ReturnsInHanded {} Try.checked os 7 .any (Rows.fnExactLeastSpec.pre6 enc Try.prog Try.f7 Rows.fnExactLeastRow.domain false) (Rows.fnExactLeastSpec.post enc Try.prog Try.f7 false true false false) := by
  refine returnsInHanded_of_change (C := Try.checked) own started (by kernel_rfl) Try.func7
    (ChangeSpec.witness6 (enc := enc) (C := Try.checked) false ⟨#[], #[.agg #[.int .i64 0, .string ⟨#[]⟩, .bool false, .int .i64 0, .int .i64 0, .slice none 0 0]], []⟩ 8 (by kernel_rfl) (by kernel_rfl) (by kernel_rfl) (by kernel_rfl)) ?_
  intro W base args ds gs before hval0 hW hcnd _
  have hval : ∀ (j : Nat) t v, Try.f7.params[j]? = some t → args[j]? = some v → Value.okWide Try.prog W .any base t v := hval0
  have hW' := hW
  obtain ⟨p, q, hA0, hV, rfl, hfz, hnd⟩ := hW
  have hA : DataW.TrodAll enc Try.prog W 0 (fun _ => true) true Try.f7.params.toList args.toList ds p := hA0
  rw [Try.params7] at hA hval
  obtain ⟨v0, vs0, d0, ds0, p0, q0, hargs, rfl, rfl, h0, r0⟩ := trodAll_cons hA
  obtain ⟨rfl, rfl, rfl⟩ := trodAll_nil r0
  obtain rfl : args = #[v0] := by cases args; simp_all
  obtain ⟨rfl, rfl⟩ := trodVars_none hV
  obtain ⟨t0, a0, c0, rfl, hk0, hs0, hl0⟩ := open_re (hval 0 40 v0 rfl rfl) h0
  have hlt0 : ∀ x ∈ p0, x.block < W.heap.size := fun x hx => by simpa using hW'.lt x (by simp [hx])
  clear hA0 hval0
  refine (walk t0 a0 c0 W hk0 hs0 hl0).mono fun e W' ⟨he, bel⟩ => ?_
  subst he
  exact ⟨_, rfl, _, _, _, [], _, [], hW', trodAll_mk1 (shut_bool Try.underlying4 _), (trodAll_cons_mk (Below.trod laidOutR (by kernel_rfl) (of_decide_eq_true (by kernel_rfl)) h0 bel hlt0) trodAll_mk0), rfl, bel.frame _, fun h => by cases h⟩

theorem over : Rows.fnExactLeastRow.holds Try.pinned (OpenSpec.ofChange Rows.fnExactLeastSpec) :=
  OpenClaim.holds_of_wide 7 Try.f7 rfl rfl rfl rfl rfl rfl rfl ⟨rfl, rfl, rfl, rfl, rfl⟩ rfl rfl rfl rfl rfl (by kernel_rfl) Try.func7 (by kernel_rfl)
    (of_decide_eq_true (by kernel_rfl)) (by unfold Func.isWrapper; first | (rw [if_pos (by decide +kernel)]; kernel_rfl) | (rw [if_neg (by decide +kernel)]; exact ⟨rfl, rfl⟩))
    (fun os started H enc _ => lifted os started H enc)

theorem proved : Rows.FnExactLeastSaid := over
#print axioms proved
end Go.Proofs.Ytiggdpckjmellaa.fnExactLeast
