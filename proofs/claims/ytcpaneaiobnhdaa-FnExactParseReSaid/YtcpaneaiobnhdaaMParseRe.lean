/-
  Proves FnExactParseReSaid: for every text, impl.ParseRe answers as spec.ParseRe does, its answer is new memory of its own, and the law returns true and leaves its argument as it was. Conditions: none beyond the row's own.
-/
import Derived.Test.YtcpaneaiobnhdaaMPs8
import Derived.Test.YtcpaneaiobnhdaaMPm0
namespace Go.Proofs.Ytcpaneaiobnhdaa.fnExactParseRe
open Go.ChangeShapes Go.WideShapes Go.ChangeAt Go.RowKit
open Go.ChangeMaps (open_string shut_string)
open Go.Proofs.Ytcpaneaiobnhdaa.kit
set_option linter.unusedVariables false

/-- What both parsers answer, in one way. -/
def UPost (T : RT) (fl : Bool) (w : World) (e : Ending) (w' : World) : Prop :=
  Below w.heap.size w w' ∧ ∃ a c F, e = .returned (.tuple #[reV T a c, .bool fl]) ∧ KF w' T.kids a F ∧ (∀ y ∈ F, w.heap.size ≤ y)
theorem uni {w w' : World} {r : Option RT} {e : Ending} (h : ParsePost w r e w') : UPost (r.getD (PR.leaf 0)) r.isSome w e w' := by
  obtain ⟨hb, h⟩ := h
  refine ⟨hb, ?_⟩
  cases r with
  | none => exact ⟨none, 0, [], h, KF.nil _, fun y hy => absurd hy (by simp)⟩
  | some t =>
    obtain ⟨a, c, F, h1, h2, h3, _⟩ := h
    exact ⟨a, c, F, h1, h2, h3⟩
theorem szs_bill : ∀ (N : Nat) (ts : List RT), RT.szs ts ≤ N → RT.szs ts ≤ RT.bill ts := by
  intro N
  induction N with
  | zero => intro ts h; omega
  | succ N ih =>
    intro ts h
    induction ts with
    | nil => simp [RT.szs]
    | cons t ts iht =>
      have h1 := RT.sz_eq t
      have h2 := RT.cost_eq t
      simp only [RT.szs] at h ⊢
      have h3 := ih t.kids (by omega)
      have h4 := iht (by have := RT.sz_pos t; omega)
      simp only [RT.bill, RT.costs, List.length_cons] at *
      omega
theorem cost_getD (s : ByteArray) : RT.cost ((PR.parse s).getD (PR.leaf 0)) ≤ 1048576 := by
  cases h : PR.parse s with
  | none => show RT.cost (PR.leaf 0) ≤ _; rw [PR.cost_leaf]; omega
  | some t => exact (PR.parse_cost h).1
set_option maxRecDepth 100000 in
set_option maxHeartbeats 4000000 in
/-- The law's own walk. -/
theorem walk (s : ByteArray) (w : World) (hs : s.size ≤ maxLen) :
    Calls Try.prog 3 #[.string s] w fun e w' => e = .returned (.bool true) ∧ Below w.heap.size w w' := by
  by_cases hb : 1048576 < s.size
  · unfold maxLen at hs
    go_enter Try.func3, Try.ntmps3
    go_wp2
    go_ret
    exact ⟨rfl, Below.refl _ _⟩
  · have hd : decide (1048576 < s.size) = false := by simpa using hb
    clear hs
    have hs : s.size ≤ 1048576 := by omega
    have HS := Lib.hid (fun W => (specParse_any s W hs).mono (fun _ _ h => uni h))
    have HI := Lib.hid (fun W => (implParse_any s W hs).mono (fun _ _ h => uni h))
    have hco := cost_getD s
    generalize (PR.parse s).getD (PR.leaf 0) = T at *
    generalize (PR.parse s).isSome = fl at *
    have hbl : RT.szs T.kids ≤ 1048576 := by have := szs_bill _ T.kids (Nat.le_refl _); have := RT.cost_eq T; omega
    have HE := Lib.hid (eqRe_any T)
    have hq : ¬ (((1 + 5 * RT.szs T.kids : Nat) : Int) < 0) := by omega
    have hm : 1 + 5 * RT.szs T.kids ≤ 10000000 := by omega
    go_enter Try.func3, Try.ntmps3
    go_wp2_with fail
    refine (HS.out _).mono ?_
    rintro e w1 ⟨b1, a0, c0, F0, rfl, k0, l0⟩
    have BWy := Lib.hid b1.size
    have BW := Lib.hid b1
    have K0 := Lib.hid k0
    have L0 := Lib.hid (k0.lt)
    clear b1 k0 l0 HS
    unfold reV
    have bx : Below w1.heap.size w1 (w1.alloc (.cells #[.int .i64 T.kind, .string T.set, .bool T.neg, .int .i64 T.low, .int .i64 T.high, .slice a0 T.kids.length c0] 24)) := (Below.refl _ _).alloc (Nat.le_refl _) _
    have S0 : Hid (Six (w1.alloc (.cells #[.int .i64 T.kind, .string T.set, .bool T.neg, .int .i64 T.low, .int .i64 T.high, .slice a0 T.kids.length c0] 24)) w1.heap.size T a0 c0) := Lib.hid (six_new rfl rfl)
    have zx : (w1.alloc (.cells #[.int .i64 T.kind, .string T.set, .bool T.neg, .int .i64 T.low, .int .i64 T.high, .slice a0 T.kids.length c0] 24)).heap.size = w1.heap.size + 1 := by simp
    have K0 := Lib.hid (K0.out.kept bx)
    have BW := Lib.hid (BW.out.trans (bx.mono BW.out.size))
    clear bx
    obtain ⟨g0, hg0⟩ : ∃ g, g = w1.heap.size := ⟨_, rfl⟩
    go_wp2_with fail
    rw [← hg0] at S0 ⊢
    generalize w1.alloc (.cells #[.int .i64 T.kind, .string T.set, .bool T.neg, .int .i64 T.low, .int .i64 T.high, .slice a0 T.kids.length c0] 24) = x1 at *
    have BWx : Hid (w.heap.size ≤ g0) := Lib.hid (by rw [hg0]; exact BWy.out)
    have L0 : Hid (∀ y ∈ F0, y < g0) := Lib.hid (fun y hy => by rw [hg0]; exact L0.out y hy)
    have hx1 : g0 < x1.heap.size := by omega
    clear hg0 zx
    refine (HI.out _).mono ?_
    rintro e w2 ⟨b2, a1, c1, F1, rfl, k1, l1⟩
    have z2 := b2.size
    have S0 := Lib.hid (S0.out.kept b2)
    have K0 := Lib.hid (K0.out.kept b2)
    have BW := Lib.hid (BW.out.trans (b2.mono BW.out.size))
    have K1 := Lib.hid k1
    have HL1 := Lib.hid l1
    have HU1 := Lib.hid k1.lt
    clear b2 k1 l1
    obtain ⟨y0, y1, y2, y3, y4, y5, y6⟩ := S0.out.cells
    clear y6
    have hs0 := S0.out.lt
    unfold reV
    have bx : Below w2.heap.size w2 (w2.alloc (.cells #[.int .i64 T.kind, .string T.set, .bool T.neg, .int .i64 T.low, .int .i64 T.high, .slice a1 T.kids.length c1] 24)) := (Below.refl _ _).alloc (Nat.le_refl _) _
    have S1 : Hid (Six (w2.alloc (.cells #[.int .i64 T.kind, .string T.set, .bool T.neg, .int .i64 T.low, .int .i64 T.high, .slice a1 T.kids.length c1] 24)) w2.heap.size T a1 c1) := Lib.hid (six_new rfl rfl)
    have zx : (w2.alloc (.cells #[.int .i64 T.kind, .string T.set, .bool T.neg, .int .i64 T.low, .int .i64 T.high, .slice a1 T.kids.length c1] 24)).heap.size = w2.heap.size + 1 := by simp
    have S0 := Lib.hid (S0.out.kept bx)
    have K0 := Lib.hid (K0.out.kept bx)
    have K1 := Lib.hid (K1.out.kept bx)
    have BW := Lib.hid (BW.out.trans (bx.mono BW.out.size))
    clear bx
    obtain ⟨g1, hg1⟩ : ∃ g, g = w2.heap.size := ⟨_, rfl⟩
    go_wp2_with fail
    rw [← hg1] at S1 ⊢
    generalize w2.alloc (.cells #[.int .i64 T.kind, .string T.set, .bool T.neg, .int .i64 T.low, .int .i64 T.high, .slice a1 T.kids.length c1] 24) = x2 at *
    have HU1 : Hid (g1 ∉ F1) := Lib.hid (fun h => by have := HU1.out _ h; omega)
    have hx2 : x1.heap.size ≤ x2.heap.size := by omega
    clear hg1 zx
    refine (HE.out a1 c1 a0 c0 _ (K1.out.kids (fun _ _ => Nat.zero_le _)) (K0.out.kids (fun _ _ => Nat.zero_le _)) hco).mono ?_
    rintro e w3 ⟨rfl, b3⟩
    clear y0 y1 y2 y3 y4 y5
    clear hs0
    have z3 := b3.size
    have S0 := Lib.hid (S0.out.kept b3)
    have S1 := Lib.hid (S1.out.kept b3)
    have K0 := Lib.hid (K0.out.kept b3)
    have K1 := Lib.hid (K1.out.kept b3)
    have BW := Lib.hid (BW.out.trans (b3.mono BW.out.size))
    clear b3
    obtain ⟨z0, z1, z2, z3, z4, z5, z6⟩ := S1.out.cells
    clear z6
    go_wp2_with fail
    refine (markRe_any T a1 c1 1 F1 _ K1.out (by omega) hm).mono ?_
    rintro e w4 ⟨rfl, k4, o4⟩
    clear z0 z1 z2 z3 z4 z5
    have z4 := o4.size
    have b4 := o4.below (B := x1.heap.size) HL1.out (by omega)
    have S1 : Hid (Six w4 g1 T a1 c1) := Lib.hid ((o4.block g1 S1.out.lt HU1.out).trans S1.out)
    have S0 : Hid (Six w4 g0 T a0 c0) := Lib.hid ((b4.block g0 hx1).trans S0.out)
    have K0 := Lib.hid (K0.out.of (fun y hy => b4.block y (by have := L0.out y hy; omega)))
    have BW0 := Lib.hid (show Below w.heap.size w3 w4 from b4.mono (Nat.le_trans BWx.out (Nat.le_of_lt hx1)))
    have BW := Lib.hid (BW.out.trans BW0.out)
    have K1 := Lib.hid k4
    clear k4 o4 b4 BW0
    obtain ⟨z0, z1, z2, z3, z4, z5, z6⟩ := S1.out.cells
    clear z6
    go_wp2_with fail
    refine (heldRe_any T T.kids a1 c1 1 F1 _ rfl K1.out (by omega) hm).mono ?_
    rintro e w5 ⟨rfl, b5⟩
    clear z0 z1 z2 z3 z4 z5
    have z5 := b5.size
    have S0 := Lib.hid (S0.out.kept b5)
    have S1 := Lib.hid (S1.out.kept b5)
    have K0 := Lib.hid (K0.out.kept b5)
    have K1 := Lib.hid (K1.out.kept b5)
    have BW := Lib.hid (BW.out.trans (b5.mono BW.out.size))
    clear b5
    go_wp2_with fail
    refine (HI.out _).mono ?_
    rintro e w6 ⟨b6, a2, c2, F2, rfl, k2, l2⟩
    have z6 := b6.size
    have S0 := Lib.hid (S0.out.kept b6)
    have S1 := Lib.hid (S1.out.kept b6)
    have K0 := Lib.hid (K0.out.kept b6)
    have K1 := Lib.hid (K1.out.kept b6)
    have BW := Lib.hid (BW.out.trans (b6.mono BW.out.size))
    have K2 := Lib.hid k2
    clear b6 k2 l2
    obtain ⟨y0, y1, y2, y3, y4, y5, y6⟩ := S0.out.cells
    clear y6
    have hs0 := S0.out.lt
    unfold reV
    have bx : Below w6.heap.size w6 (w6.alloc (.cells #[.int .i64 T.kind, .string T.set, .bool T.neg, .int .i64 T.low, .int .i64 T.high, .slice a2 T.kids.length c2] 24)) := (Below.refl _ _).alloc (Nat.le_refl _) _
    have S2 : Hid (Six (w6.alloc (.cells #[.int .i64 T.kind, .string T.set, .bool T.neg, .int .i64 T.low, .int .i64 T.high, .slice a2 T.kids.length c2] 24)) w6.heap.size T a2 c2) := Lib.hid (six_new rfl rfl)
    have zx : (w6.alloc (.cells #[.int .i64 T.kind, .string T.set, .bool T.neg, .int .i64 T.low, .int .i64 T.high, .slice a2 T.kids.length c2] 24)).heap.size = w6.heap.size + 1 := by simp
    have S0 := Lib.hid (S0.out.kept bx)
    have S1 := Lib.hid (S1.out.kept bx)
    have K0 := Lib.hid (K0.out.kept bx)
    have K1 := Lib.hid (K1.out.kept bx)
    have K2 := Lib.hid (K2.out.kept bx)
    have BW := Lib.hid (BW.out.trans (bx.mono BW.out.size))
    clear bx
    obtain ⟨g2, hg2⟩ : ∃ g, g = w6.heap.size := ⟨_, rfl⟩
    go_wp2_with fail
    rw [← hg2] at S2 ⊢
    generalize w6.alloc (.cells #[.int .i64 T.kind, .string T.set, .bool T.neg, .int .i64 T.low, .int .i64 T.high, .slice a2 T.kids.length c2] 24) = x6 at *
    clear hg2 zx
    refine (HE.out a2 c2 a0 c0 _ (K2.out.kids (fun _ _ => Nat.zero_le _)) (K0.out.kids (fun _ _ => Nat.zero_le _)) hco).mono ?_
    rintro e w7 ⟨rfl, b7⟩
    clear y0 y1 y2 y3 y4 y5
    clear hs0
    have S1 := Lib.hid (S1.out.kept b7)
    have K1 := Lib.hid (K1.out.kept b7)
    have BW := Lib.hid (BW.out.trans (b7.mono BW.out.size))
    clear b7 S0 S2 K0 K2
    obtain ⟨z0, z1, z2, z3, z4, z5, z6⟩ := S1.out.cells
    clear z6
    go_wp2_with fail
    refine (heldRe_any T T.kids a1 c1 1 F1 _ rfl K1.out (by omega) hm).mono ?_
    rintro e w8 ⟨rfl, b8⟩
    have BW := Lib.hid (BW.out.trans (b8.mono BW.out.size))
    clear b8
    go_wp2_with fail
    go_ret
    exact ⟨rfl, BW.out⟩

theorem own : ownKnob Try.prog.godebug = none := by kernel_rfl

set_option maxRecDepth 100000 in
theorem lifted (os : Os) (started : os.Started) (H : Type) (enc : TypeId × Value → H) :
    ReturnsInHanded {} Try.checked os 3 .any (Rows.fnExactParseReSpec.pre6 enc Try.prog Try.f3 Rows.fnExactParseReRow.domain false) (Rows.fnExactParseReSpec.post enc Try.prog Try.f3 false true false false) := by
  refine returnsInHanded_of_change (C := Try.checked) own started (by kernel_rfl) Try.func3
    (ChangeSpec.witness6 (enc := enc) (C := Try.checked) false ⟨#[], #[.string ⟨#[]⟩], []⟩ 8 (by kernel_rfl) (by kernel_rfl) (by kernel_rfl) (by kernel_rfl)) ?_
  intro W base args ds gs before hval0 hW hcnd _
  have hval : ∀ (j : Nat) t v, Try.f3.params[j]? = some t → args[j]? = some v → Value.okWide Try.prog W .any base t v := hval0
  have hW' := hW
  obtain ⟨p, q, hA0, hV, rfl, hfz, hnd⟩ := hW
  have hA : DataW.TrodAll enc Try.prog W 0 (fun _ => true) true Try.f3.params.toList args.toList ds p := hA0
  rw [Try.params3] at hA hval
  obtain ⟨v0, vs0, d0, ds0, p0, q0, hargs, rfl, rfl, h0, r0⟩ := trodAll_cons hA
  obtain ⟨rfl, rfl, rfl⟩ := trodAll_nil r0
  obtain rfl : args = #[v0] := by cases args; simp_all
  obtain ⟨rfl, rfl⟩ := trodVars_none hV
  obtain ⟨s0, rfl, rfl, rfl, hs0⟩ := open_string Try.underlying9 (hval 0 9 v0 rfl rfl) h0
  clear hA0 hval0
  refine (walk s0 W hs0).mono fun e W' ⟨he, bel⟩ => ?_
  subst he
  exact ⟨_, rfl, _, _, _, [], _, [], hW', trodAll_mk1 (shut_bool Try.underlying4 _), (trodAll_cons_mk (shut_string Try.underlying9 hs0) trodAll_mk0), rfl, bel.frame _, fun h => by cases h⟩

theorem over : Rows.fnExactParseReRow.holds Try.pinned (OpenSpec.ofChange Rows.fnExactParseReSpec) :=
  OpenClaim.holds_of_wide 3 Try.f3 rfl rfl rfl rfl rfl rfl rfl ⟨rfl, rfl, rfl, rfl, rfl⟩ rfl rfl rfl rfl rfl (by kernel_rfl) Try.func3 (by kernel_rfl)
    (of_decide_eq_true (by kernel_rfl)) (by unfold Func.isWrapper; first | (rw [if_pos (by decide +kernel)]; kernel_rfl) | (rw [if_neg (by decide +kernel)]; exact ⟨rfl, rfl⟩))
    (fun os started H enc _ => lifted os started H enc)

theorem proved : Rows.FnExactParseReSaid := over
#print axioms proved
end Go.Proofs.Ytcpaneaiobnhdaa.fnExactParseRe
