/-
  Proves FnSumsSaid: for every code the law returns true and leaves its argument as it was. Conditions: none beyond the row's own.
-/
import Derived.Test.YtchagbhcekehmaaSm0
import Derived.Outline
namespace Go.Proofs.Ytchagbhcekehmaa.fnSums
open Go.ChangeShapes Go.WideShapes Go.ChangeAt Go.RowKit
open Go.ChangeMaps (open_string shut_string)
open Go.Proofs.Ytchagbhcekehmaa.kit
set_option linter.unusedVariables false

set_option maxRecDepth 100000 in
set_option maxHeartbeats 8000000 in
theorem walk1 (a : Option Addr) (n cap : Nat) (w : World) (hn : n ≤ 1048576) (hc : Code8 w a n) :
    Calls Try.prog 4 #[.slice a n cap] w fun e w' => e = .returned (.bool true) ∧ Below w.heap.size w w' := by
  have HC0 := Lib.hid hc
  clear hc
  go_enter Try.func4, Try.ntmps4
  go_wp2_with fail
  refine (big_no a n cap _ hn).mono ?_
  rintro e w1 ⟨rfl, rfl⟩
  go_wp2_with fail
  refine (drawAdd_any a n cap _ hn HC0.out).mono ?_
  rintro e w1 ⟨a1, b1, hx, hy, rfl, hb⟩
  have HC1 := Lib.hid (HC0.out.kept hb)
  have B1 := Lib.hid (hb)
  clear hb HC0
  have hx := Lib.hid hx
  have hy := Lib.hid hy
  obtain ⟨X1, K1, CI, CS, CB1⟩ := addF a1 b1
  have CI1 := Lib.hid CI
  have CS1 := Lib.hid CS
  have CB1 := Lib.hid CB1
  clear CI CS
  go_wp2_with fail
  refine (CI1.out _).mono ?_
  rintro e wq ⟨rfl, rfl⟩
  go_wp2_with fail
  refine (CS1.out _).mono ?_
  rintro e wq ⟨rfl, rfl⟩
  go_wp2_with fail
  refine (drawSub_any a n cap _ hn HC1.out).mono ?_
  rintro e w2 ⟨c1, d1, hx, hy, rfl, hb⟩
  have HC2 := Lib.hid (HC1.out.kept hb)
  have B2 := Lib.hid (B1.out.trans (hb.mono B1.out.size))
  clear hb HC1 B1
  have hx := Lib.hid hx
  have hy := Lib.hid hy
  obtain ⟨X2, K2, CI, CS⟩ := subF c1 d1
  have CI2 := Lib.hid CI
  have CS2 := Lib.hid CS
  clear CI CS
  go_wp2_with fail
  refine (CI2.out _).mono ?_
  rintro e wq ⟨rfl, rfl⟩
  go_wp2_with fail
  refine (CS2.out _).mono ?_
  rintro e wq ⟨rfl, rfl⟩
  go_wp2_with fail
  refine (drawMul_any a n cap _ hn HC2.out).mono ?_
  rintro e w3 ⟨e1, f1, hx, hy, rfl, hb⟩
  have HC3 := Lib.hid (HC2.out.kept hb)
  have B3 := Lib.hid (B2.out.trans (hb.mono B2.out.size))
  clear hb HC2 B2
  have hx := Lib.hid hx
  have hy := Lib.hid hy
  obtain ⟨X3, K3, CI, CS, CB⟩ := mulF e1 f1
  have CI3 := Lib.hid CI
  have CS3 := Lib.hid CS
  have CT3 := Lib.hid CB
  clear CI CS CB
  go_wp2_with fail
  refine (CI3.out _).mono ?_
  rintro e wm ⟨rfl, hb⟩
  have HC3' := Lib.hid (HC3.out.kept hb)
  have B3' := Lib.hid (B3.out.trans (hb.mono B3.out.size))
  clear hb HC3 B3
  have HC3 := HC3'
  have B3 := B3'
  clear HC3' B3'
  go_wp2_with fail
  refine (CS3.out _).mono ?_
  rintro e wq ⟨rfl, rfl⟩
  go_wp2_with fail
  refine (drawDiv_any a n cap _ hn HC3.out).mono ?_
  rintro e w4 ⟨g1, h1, hx, hy, rfl, hb⟩
  have HC4 := Lib.hid (HC3.out.kept hb)
  have B4 := Lib.hid (B3.out.trans (hb.mono B3.out.size))
  clear hb HC3 B3
  have hx := Lib.hid hx
  have hy := Lib.hid hy
  obtain ⟨X4, K4, CI, CS⟩ := divF g1 h1
  have CI4 := Lib.hid CI
  have CS4 := Lib.hid CS
  clear CI CS
  go_wp2_with fail
  refine (CI4.out _).mono ?_
  rintro e wq ⟨rfl, rfl⟩
  go_wp2_with fail
  refine (CS4.out _).mono ?_
  rintro e wq ⟨rfl, rfl⟩
  go_wp2_with fail
  refine (drawMod_any a n cap _ hn HC4.out).mono ?_
  rintro e w5 ⟨i1, j1, hx, hy, rfl, hb⟩
  have HC5 := Lib.hid (HC4.out.kept hb)
  have B5 := Lib.hid (B4.out.trans (hb.mono B4.out.size))
  clear hb HC4 B4
  have hx := Lib.hid hx
  have hy := Lib.hid hy
  obtain ⟨X5, K5, CI, CS, CM⟩ := modF i1 j1
  have CI5 := Lib.hid CI
  have CS5 := Lib.hid CS
  have CM5 := Lib.hid CM
  clear CI CS CM
  go_wp2_with fail
  refine (CI5.out _).mono ?_
  rintro e wq ⟨rfl, rfl⟩
  go_wp2_with fail
  refine (CS5.out _).mono ?_
  rintro e wq ⟨rfl, rfl⟩
  cases K1
  · skip
    go_wp2_with fail
    refine (CT3.out _).mono ?_
    rintro e wn ⟨rfl, hb⟩
    have B6 := Lib.hid (B5.out.trans (hb.mono B5.out.size))
    clear hb B5
    cases K5
    · go_wp2
      go_ret
      exact ⟨rfl, B6.out⟩
    · obtain ⟨v1, v2, T⟩ := tail_of (CM5.out (by trivial))
      have M := CM5.out (by trivial)
      have ia1 := M.a1
      have ia2 := M.a2
      have jb1 := M.b1
      have jb2 := M.b2
      have jb0 := M.b0
      clear M CM5
      have CW := fun W => implWhole_any ((i1 * 1000000).tdiv j1) W (by omega) (by omega)
      obtain ⟨N, hN⟩ : ∃ N, N = ((i1 * 1000000).tdiv j1).tdiv 1000000 * 1000000 := ⟨_, rfl⟩
      rw [← hN] at T CW
      have CW := Lib.hid CW
      have j0 : (j1 == 0) = false := by simpa using jb0
      obtain ⟨n1, n2, p1, p2, m1, m2, eq, sg, lo, hi⟩ := T
      have E := Lib.hid eq
      clear hN eq jb0
      have E' : (N.tdiv 1000000 * j1 + X5 == i1) = true := by simpa using E.out
      go_wp2_with fail
      refine (CW.out _).mono ?_
      rintro e wz ⟨rfl, rfl⟩
      rcases sg with ⟨s1, s2⟩ | s1 | ⟨s1, s2⟩
      · have z1 : (X5 == 0) = false := by simp; omega
        rcases lo with l1 | l1
        · go_wp2
          go_ret
          exact ⟨by simp, B6.out⟩
        · go_wp2
          go_ret
          exact ⟨by simp, B6.out⟩
      · have z1 : (X5 == 0) = true := by simpa using s1
        have s2 : 0 ≤ X5 := by omega
        clear s1
        rcases hi with l1 | l1
        · go_wp2
          go_ret
          exact ⟨by simp, B6.out⟩
        · go_wp2
          go_ret
          exact ⟨by simp, B6.out⟩
      · have z1 : (X5 == 0) = false := by simp; omega
        rcases hi with l1 | l1
        · go_wp2
          go_ret
          exact ⟨by simp, B6.out⟩
        · go_wp2
          go_ret
          exact ⟨by simp, B6.out⟩
  · go_wp2_with fail
    refine (CB1.out (by trivial) _).mono ?_
    rintro e wk ⟨rfl, rfl⟩
    go_wp2_with fail
    refine (CT3.out _).mono ?_
    rintro e wn ⟨rfl, hb⟩
    have B6 := Lib.hid (B5.out.trans (hb.mono B5.out.size))
    clear hb B5
    cases K5
    · go_wp2
      go_ret
      exact ⟨rfl, B6.out⟩
    · obtain ⟨v1, v2, T⟩ := tail_of (CM5.out (by trivial))
      have M := CM5.out (by trivial)
      have ia1 := M.a1
      have ia2 := M.a2
      have jb1 := M.b1
      have jb2 := M.b2
      have jb0 := M.b0
      clear M CM5
      have CW := fun W => implWhole_any ((i1 * 1000000).tdiv j1) W (by omega) (by omega)
      obtain ⟨N, hN⟩ : ∃ N, N = ((i1 * 1000000).tdiv j1).tdiv 1000000 * 1000000 := ⟨_, rfl⟩
      rw [← hN] at T CW
      have CW := Lib.hid CW
      have j0 : (j1 == 0) = false := by simpa using jb0
      obtain ⟨n1, n2, p1, p2, m1, m2, eq, sg, lo, hi⟩ := T
      have E := Lib.hid eq
      clear hN eq jb0
      have E' : (N.tdiv 1000000 * j1 + X5 == i1) = true := by simpa using E.out
      go_wp2_with fail
      refine (CW.out _).mono ?_
      rintro e wz ⟨rfl, rfl⟩
      rcases sg with ⟨s1, s2⟩ | s1 | ⟨s1, s2⟩
      · have z1 : (X5 == 0) = false := by simp; omega
        rcases lo with l1 | l1
        · go_wp2
          go_ret
          exact ⟨by simp, B6.out⟩
        · go_wp2
          go_ret
          exact ⟨by simp, B6.out⟩
      · have z1 : (X5 == 0) = true := by simpa using s1
        have s2 : 0 ≤ X5 := by omega
        clear s1
        rcases hi with l1 | l1
        · go_wp2
          go_ret
          exact ⟨by simp, B6.out⟩
        · go_wp2
          go_ret
          exact ⟨by simp, B6.out⟩
      · have z1 : (X5 == 0) = false := by simp; omega
        rcases hi with l1 | l1
        · go_wp2
          go_ret
          exact ⟨by simp, B6.out⟩
        · go_wp2
          go_ret
          exact ⟨by simp, B6.out⟩
set_option maxRecDepth 100000 in
theorem walk (a : Option Addr) (n cap : Nat) (w : World) (hm : n ≤ maxLen) (hc : Code8 w a n) :
    Calls Try.prog 4 #[.slice a n cap] w fun e w' => e = .returned (.bool true) ∧ Below w.heap.size w w' := by
  by_cases hn : n ≤ 1048576
  · exact walk1 a n cap w hn hc
  · go_enter Try.func4, Try.ntmps4
    go_wp2_with fail
    refine (big_yes a n cap _ (by omega)).mono ?_
    rintro e w1 ⟨rfl, rfl⟩
    go_wp2
    go_ret
    exact ⟨rfl, Below.refl _ _⟩

theorem own : ownKnob Try.prog.godebug = none := by kernel_rfl

set_option maxRecDepth 100000 in
theorem lifted (os : Os) (started : os.Started) (H : Type) (enc : TypeId × Value → H) :
    ReturnsInHanded {} Try.checked os 4 .any (Rows.fnSumsSpec.pre6 enc Try.prog Try.f4 Rows.fnSumsRow.domain false) (Rows.fnSumsSpec.post enc Try.prog Try.f4 false true false false) := by
  refine returnsInHanded_of_change (C := Try.checked) own started (by kernel_rfl) Try.func4
    (ChangeSpec.witness6 (enc := enc) (C := Try.checked) false ⟨#[], #[.slice none 0 0], []⟩ 8 (by kernel_rfl) (by kernel_rfl) (by kernel_rfl) (by kernel_rfl)) ?_
  intro W base args ds gs before hval0 hW hcnd _
  have hval : ∀ (j : Nat) t v, Try.f4.params[j]? = some t → args[j]? = some v → Value.okWide Try.prog W .any base t v := hval0
  have hW' := hW
  obtain ⟨p, q, hA0, hV, rfl, hfz, hnd⟩ := hW
  have hA : DataW.TrodAll enc Try.prog W 0 (fun _ => true) true Try.f4.params.toList args.toList ds p := hA0
  rw [Try.params4] at hA hval
  obtain ⟨v0, vs0, d0, ds0, p0, q0, hargs, rfl, rfl, h0, r0⟩ := trodAll_cons hA
  obtain ⟨rfl, rfl, rfl⟩ := trodAll_nil r0
  obtain rfl : args = #[v0] := by cases args; simp_all
  obtain ⟨rfl, rfl⟩ := trodVars_none hV
  obtain ⟨a0, n0, c0, rfl, hn0, hc0⟩ := open_code (hval 0 22 v0 rfl rfl) h0
  have hlt0 : ∀ x ∈ p0, x.block < W.heap.size := fun x hx => by simpa using hW'.lt x (by simp [hx])
  clear hA0 hval0
  refine (walk a0 n0 c0 W hn0 hc0).mono fun e W' ⟨he, bel⟩ => ?_
  subst he
  exact ⟨_, rfl, _, _, _, [], _, [], hW', trodAll_mk1 (shut_bool Try.underlying4 _), (trodAll_cons_mk (Below.trod laidOut (by kernel_rfl) (of_decide_eq_true (by kernel_rfl)) h0 bel hlt0) trodAll_mk0), rfl, bel.frame _, fun h => by cases h⟩

theorem over : Rows.fnSumsRow.holds Try.pinned (OpenSpec.ofChange Rows.fnSumsSpec) :=
  OpenClaim.holds_of_wide 4 Try.f4 rfl rfl rfl rfl rfl rfl rfl ⟨rfl, rfl, rfl, rfl, rfl⟩ rfl rfl rfl rfl rfl (by kernel_rfl) Try.func4 (by kernel_rfl)
    (of_decide_eq_true (by kernel_rfl)) (by unfold Func.isWrapper; first | (rw [if_pos (by decide +kernel)]; kernel_rfl) | (rw [if_neg (by decide +kernel)]; exact ⟨rfl, rfl⟩))
    (fun os started H enc _ => lifted os started H enc)

theorem proved : Rows.FnSumsSaid := over
#print axioms proved
end Go.Proofs.Ytchagbhcekehmaa.fnSums
