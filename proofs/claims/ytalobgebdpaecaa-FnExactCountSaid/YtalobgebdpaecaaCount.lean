/-
  Proves FnExactCountSaid: for every list of words and every int, impl.Count answers as spec.Count does, and the law returns true and leaves its arguments as they were. Conditions: none beyond the row's own.
-/
import Derived.Test.YtalobgebdpaecaaCnt0
namespace Go.Proofs.Ytalobgebdpaecaa.fnExactCount
open Go.ChangeShapes Go.WideShapes Go.ChangeAt Go.RowKit
open Go.ChangeMaps (open_string shut_string)
open Go.Proofs.Ytalobgebdpaecaa.kit
set_option linter.unusedVariables false

set_option maxHeartbeats 1000000 in
theorem walk (ts : List Tok) (a : Option Addr) (cap : Nat) (kind : Int) (w : World) (hk : Toks w ts a) (hl : ts.length ≤ maxLen) (wn : (Lit.int .i64 kind).wf = true) :
    Calls Try.prog 6 #[.slice a ts.length cap, .int .i64 kind] w fun e w' => e = .returned (.bool true) ∧ Below w.heap.size w w' := by
  have HK := Lib.hid hk
  clear hk wn
  by_cases hb : (billT ts : Int) ≤ 1048576
  · have hl2 : ts.length ≤ 1048576 := by simp only [billT] at hb; omega
    have HZ := Lib.hid (fun W (h : Toks W ts a) => szToks_any ts a cap 1048576 W h hl (by omega) (by omega))
    rw [leftT_pos hb] at HZ
    have h0 : 0 ≤ 1048576 - (billT ts : Int) := by omega
    generalize (billT ts : Int) = bl at *
    go_enter Try.func6, Try.ntmps6
    go_wp2_with fail
    refine (HZ.out _ HK.out).mono ?_
    rintro e w1 ⟨rfl, b1⟩
    have K1 := Lib.hid (HK.out.kept (Nat.le_refl _) b1)
    have B1 := Lib.hid b1
    clear b1
    go_wp2_with fail
    refine (toToks_any ts a cap _ K1.out hl2).mono ?_
    rintro e w2 ⟨a2, c2, rfl, t2, b2⟩
    have K2 := Lib.hid (K1.out.kept (Nat.le_refl _) b2)
    have B2 := Lib.hid (B1.out.trans (b2.mono B1.out.size))
    have T2 := Lib.hid t2
    clear b2 t2
    go_wp2_with fail
    refine (specCount_any _ a2 c2 ts.length _ kind _ (by omega) T2.out).mono ?_
    rintro e w3 ⟨rfl, b3⟩
    have K3 := Lib.hid (K2.out.kept (Nat.le_refl _) b3)
    have B3 := Lib.hid (B2.out.trans (b3.mono B2.out.size))
    clear b3
    go_wp2_with fail
    refine (toToks_any ts a cap _ K3.out hl2).mono ?_
    rintro e w4 ⟨a4, c4, rfl, t4, b4⟩
    have K4 := Lib.hid (K3.out.kept (Nat.le_refl _) b4)
    have B4 := Lib.hid (B3.out.trans (b4.mono B3.out.size))
    have T4 := Lib.hid t4
    clear b4 t4
    go_wp2_with fail
    refine (implCount_any _ a4 c4 ts.length _ kind _ (by omega) T4.out).mono ?_
    rintro e w5 ⟨rfl, b5⟩
    have K5 := Lib.hid (K4.out.kept (Nat.le_refl _) b5)
    have T5 := Lib.hid (T4.out.kept b5)
    have B5 := Lib.hid (B4.out.trans (b5.mono B4.out.size))
    clear b5
    go_wp2_with fail
    refine (toToks_any ts a cap _ K5.out hl2).mono ?_
    rintro e w6 ⟨a6, c6, rfl, t6, b6⟩
    have T6 := Lib.hid t6
    have T7 := Lib.hid (T5.out.kept b6)
    have B6 := Lib.hid (B5.out.trans (b6.mono B5.out.size))
    clear b6 t6
    go_wp2_with fail
    refine (eqToks_any _ _ a4 a6 c4 c6 ts.length _ _ (by omega) T7.out T6.out).mono ?_
    rintro e w7 ⟨rfl, b7⟩
    go_wp2
    go_ret
    exact ⟨rfl, B6.out.trans (b7.mono B6.out.size)⟩
  · have HZ := Lib.hid (fun W (h : Toks W ts a) => szToks_any ts a cap 1048576 W h hl (by omega) (by omega))
    rw [leftT_neg (by omega)] at HZ
    go_enter Try.func6, Try.ntmps6
    go_wp2_with fail
    refine (HZ.out _ HK.out).mono ?_
    rintro e w1 ⟨rfl, b1⟩
    go_wp2
    go_ret
    exact ⟨rfl, b1⟩

theorem own : ownKnob Try.prog.godebug = none := by kernel_rfl

set_option maxRecDepth 100000 in
theorem lifted (os : Os) (started : os.Started) (H : Type) (enc : TypeId × Value → H) :
    ReturnsInHanded {} Try.checked os 6 .any (Rows.fnExactCountSpec.pre6 enc Try.prog Try.f6 Rows.fnExactCountRow.domain false) (Rows.fnExactCountSpec.post enc Try.prog Try.f6 false true false false) := by
  refine returnsInHanded_of_change (C := Try.checked) own started (by kernel_rfl) Try.func6
    (ChangeSpec.witness6 (enc := enc) (C := Try.checked) false ⟨#[], #[.slice none 0 0, .int .i64 0], []⟩ 8 (by kernel_rfl) (by kernel_rfl) (by kernel_rfl) (by kernel_rfl)) ?_
  intro W base args ds gs before hval0 hW hcnd _
  have hval : ∀ (j : Nat) t v, Try.f6.params[j]? = some t → args[j]? = some v → Value.okWide Try.prog W .any base t v := hval0
  have hW' := hW
  obtain ⟨p, q, hA0, hV, rfl, hfz, hnd⟩ := hW
  have hA : DataW.TrodAll enc Try.prog W 0 (fun _ => true) true Try.f6.params.toList args.toList ds p := hA0
  rw [Try.params6] at hA hval
  obtain ⟨v0, vs0, d0, ds0, p0, q0, hargs, rfl, rfl, h0, r0⟩ := trodAll_cons hA
  obtain ⟨v1, vs1, d1, ds1, p1, q1, rfl, rfl, rfl, h1, r1⟩ := trodAll_cons r0
  obtain ⟨rfl, rfl, rfl⟩ := trodAll_nil r1
  obtain rfl : args = #[v0, v1] := by cases args; simp_all
  obtain ⟨rfl, rfl⟩ := trodVars_none hV
  obtain ⟨t0, a0, c0, rfl, hk0, hl0⟩ := open_toks (hval 0 46 v0 rfl rfl) h0
  have hlt0 : ∀ x ∈ p0, x.block < W.heap.size := fun x hx => by simpa using hW'.lt x (by simp [hx])
  obtain ⟨a1, rfl, rfl, rfl, w1⟩ := open_int Try.underlying3 (hval 1 3 v1 rfl rfl) h1
  clear hA0 hval0
  refine (walk t0 a0 c0 a1 W hk0 hl0 w1).mono fun e W' ⟨he, bel⟩ => ?_
  subst he
  exact ⟨_, rfl, _, _, _, [], _, [], hW', trodAll_mk1 (shut_bool Try.underlying4 _), (trodAll_cons_mk (Below.trod laidOutT (by kernel_rfl) (of_decide_eq_true (by kernel_rfl)) h0 bel hlt0) (trodAll_cons_mk (shut_int Try.underlying3 w1) trodAll_mk0)), rfl, bel.frame _, fun h => by cases h⟩

theorem over : Rows.fnExactCountRow.holds Try.pinned (OpenSpec.ofChange Rows.fnExactCountSpec) :=
  OpenClaim.holds_of_wide 6 Try.f6 rfl rfl rfl rfl rfl rfl rfl ⟨rfl, rfl, rfl, rfl, rfl⟩ rfl rfl rfl rfl rfl (by kernel_rfl) Try.func6 (by kernel_rfl)
    (of_decide_eq_true (by kernel_rfl)) (by unfold Func.isWrapper; first | (rw [if_pos (by decide +kernel)]; kernel_rfl) | (rw [if_neg (by decide +kernel)]; exact ⟨rfl, rfl⟩))
    (fun os started H enc _ => lifted os started H enc)

theorem proved : Rows.FnExactCountSaid := over
#print axioms proved
end Go.Proofs.Ytalobgebdpaecaa.fnExactCount
