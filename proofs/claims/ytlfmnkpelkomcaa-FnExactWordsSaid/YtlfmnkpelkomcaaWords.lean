/-
  Proves FnExactWordsSaid: for every input, impl.Words answers as spec.Words does, its answer is new memory of its own, and the law returns true and leaves its arguments as they were. Conditions: none beyond the row's own.
-/
import Derived.Test.YtlfmnkpelkomcaaWrdI
import Derived.Test.YtlfmnkpelkomcaaWrdS
import Derived.Test.YtlfmnkpelkomcaaMark
namespace Go.Proofs.Ytlfmnkpelkomcaa.fnExactWords
open Go.ChangeShapes Go.WideShapes Go.ChangeAt Go.RowKit
open Go.ChangeMaps (open_string shut_string)
open Go.Proofs.Ytlfmnkpelkomcaa.kit
set_option linter.unusedVariables false

set_option maxHeartbeats 1000000 in
theorem walk (s : ByteArray) (w : World) (hs : s.size ≤ maxLen) :
    Calls Try.prog 8 #[.string s] w fun e w' => e = .returned (.bool true) ∧ Below w.heap.size w w' := by
  by_cases hb : 1048576 < s.size
  · unfold maxLen at hs
    go_enter Try.func8, Try.ntmps8
    go_wp2
    go_ret
    exact ⟨rfl, Below.refl _ _⟩
  · have hd : decide (1048576 < s.size) = false := by simpa using hb
    clear hs
    have hs : s.size ≤ 1048576 := by omega
    obtain ⟨xs, hxs⟩ : ∃ xs : List (List UInt8), xs = wordsOf s.data.toList := ⟨_, rfl⟩
    have hlen : xs.length ≤ 1048577 := by rw [hxs]; have := wordsOf_len s.data.toList; simp at this; omega
    have HS := Lib.hid (fun W => specWords_any s W hs)
    have HI := Lib.hid (fun W => implWords_any s W hs)
    rw [← hxs] at HS HI
    clear hxs
    go_enter Try.func8, Try.ntmps8
    go_wp2_with fail
    refine (HS.out _).mono ?_
    rintro e w1 ⟨v0, rfl, o0, b1⟩
    obtain ⟨a0, c0, rfl, s0⟩ := o0.slF
    have S0 := Lib.hid s0
    have G0 := Lib.hid s0
    have B1 := Lib.hid b1
    have z1 := b1.size
    clear o0 s0 b1
    go_wp2_with fail
    refine (HI.out _).mono ?_
    rintro e w2 ⟨v1, rfl, o1, b2⟩
    obtain ⟨a1, c1, rfl, s1⟩ := o1.slF
    have S0' := Lib.hid (S0.out.kept b2)
    have S1 := Lib.hid s1
    have B2 := Lib.hid (B1.out.trans (b2.mono z1))
    have z2 := b2.size
    clear o1 s1 b2 S0 B1
    go_wp2_with fail
    refine (eq_any _ _ a1 a0 c1 c0 xs.length _ _ (by omega) S1.out S0'.out).mono ?_
    rintro e w3 ⟨rfl, b3⟩
    have S0 := Lib.hid (S0'.out.kept b3)
    have S1' := Lib.hid (S1.out.kept b3)
    have B3 := Lib.hid (B2.out.trans (b3.mono (Nat.le_trans z1 z2)))
    have z3 := b3.size
    clear b3 S0' S1 B2
    go_wp2_with fail
    refine (mark_any w1.heap.size a1 c1 xs.length 1 _ _ (by omega) (by omega) (by omega) (by omega) S1'.out).mono ?_
    rintro e w4 ⟨rfl, s4, b4⟩
    have S0' : Hid (SlF w.heap.size w4 a0 xs.length (fun j => xs.getD j [])) := Lib.hid (fun j hj => by
      obtain ⟨g, e1, h1, h2, h3, h4⟩ := G0.out j hj
      have h5 := S0.out j hj
      obtain ⟨g', e1', h1', h2', h3', h4'⟩ := h5
      rw [e1] at e1'; cases e1'
      exact ⟨g, e1, h1, Nat.lt_of_lt_of_le h2' b4.size, (b4.cell (p := ⟨g, j, none⟩) h2).trans h3', (b4.frozen (p := ⟨g, j, none⟩) h2).trans h4'⟩)
    have S1 := Lib.hid s4
    have B4 := Lib.hid (B3.out.trans (b4.mono z1))
    have z4 := b4.size
    clear s4 b4 S0 S1' B3
    go_wp2_with fail
    refine (held_any w1.heap.size a1 c1 xs.length 1 _ (by omega) (by omega) (by omega) S1.out).mono ?_
    rintro e w5 ⟨rfl, b5⟩
    have S0 := Lib.hid (S0'.out.kept b5)
    have S1' := Lib.hid (S1.out.kept b5)
    have B5 := Lib.hid (B4.out.trans (b5.mono (by omega)))
    have z5 := b5.size
    clear b5 S0' S1 B4
    go_wp2_with fail
    refine (HI.out _).mono ?_
    rintro e w6 ⟨v2, rfl, o2, b6⟩
    obtain ⟨a2, c2, rfl, s2⟩ := o2.slF
    have S0' := Lib.hid (S0.out.kept b6)
    have S1 := Lib.hid (S1'.out.kept b6)
    have S2 := Lib.hid s2
    have B6 := Lib.hid (B5.out.trans (b6.mono (by omega)))
    have z6 := b6.size
    clear o2 s2 b6 S0 S1' B5
    go_wp2_with fail
    refine (eq_any _ _ a2 a0 c2 c0 xs.length _ _ (by omega) S2.out S0'.out).mono ?_
    rintro e w7 ⟨rfl, b7⟩
    have S1' := Lib.hid (S1.out.kept b7)
    have B7 := Lib.hid (B6.out.trans (b7.mono (by omega)))
    have z7 := b7.size
    clear b7 S0' S1 S2 B6
    go_wp2_with fail
    refine (held_any w1.heap.size a1 c1 xs.length 1 _ (by omega) (by omega) (by omega) S1'.out).mono ?_
    rintro e w8 ⟨rfl, b8⟩
    go_wp2
    go_ret
    exact ⟨rfl, B7.out.trans (b8.mono (by omega))⟩

theorem own : ownKnob Try.prog.godebug = none := by kernel_rfl

set_option maxRecDepth 100000 in
theorem lifted (os : Os) (started : os.Started) (H : Type) (enc : TypeId × Value → H) :
    ReturnsInHanded {} Try.checked os 8 .any (Rows.fnExactWordsSpec.pre6 enc Try.prog Try.f8 Rows.fnExactWordsRow.domain false) (Rows.fnExactWordsSpec.post enc Try.prog Try.f8 false true false false) := by
  refine returnsInHanded_of_change (C := Try.checked) own started (by kernel_rfl) Try.func8
    (ChangeSpec.witness6 (enc := enc) (C := Try.checked) false ⟨#[], #[.string ⟨#[]⟩], []⟩ 8 (by kernel_rfl) (by kernel_rfl) (by kernel_rfl) (by kernel_rfl)) ?_
  intro W base args ds gs before hval0 hW hcnd _
  have hval : ∀ (j : Nat) t v, Try.f8.params[j]? = some t → args[j]? = some v → Value.okWide Try.prog W .any base t v := hval0
  have hW' := hW
  obtain ⟨p, q, hA0, hV, rfl, hfz, hnd⟩ := hW
  have hA : DataW.TrodAll enc Try.prog W 0 (fun _ => true) true Try.f8.params.toList args.toList ds p := hA0
  rw [Try.params8] at hA hval
  obtain ⟨v0, vs0, d0, ds0, p0, q0, hargs, rfl, rfl, h0, r0⟩ := trodAll_cons hA
  obtain ⟨rfl, rfl, rfl⟩ := trodAll_nil r0
  obtain rfl : args = #[v0] := by cases args; simp_all
  obtain ⟨rfl, rfl⟩ := trodVars_none hV
  obtain ⟨s0, rfl, rfl, rfl, hs0⟩ := open_string Try.underlying9 (hval 0 9 v0 rfl rfl) h0
  clear hA0 hval0
  refine (walk s0 W hs0).mono fun e W' ⟨he, bel⟩ => ?_
  subst he
  exact ⟨_, rfl, _, _, _, [], _, [], hW', trodAll_mk1 (shut_bool Try.underlying4 _), (trodAll_cons_mk (shut_string Try.underlying9 hs0) trodAll_mk0), rfl, bel.frame _, fun h => by cases h⟩

theorem over : Rows.fnExactWordsRow.holds Try.pinned (OpenSpec.ofChange Rows.fnExactWordsSpec) :=
  OpenClaim.holds_of_wide 8 Try.f8 rfl rfl rfl rfl rfl rfl rfl ⟨rfl, rfl, rfl, rfl, rfl⟩ rfl rfl rfl rfl rfl (by kernel_rfl) Try.func8 (by kernel_rfl)
    (of_decide_eq_true (by kernel_rfl)) (by unfold Func.isWrapper; first | (rw [if_pos (by decide +kernel)]; kernel_rfl) | (rw [if_neg (by decide +kernel)]; exact ⟨rfl, rfl⟩))
    (fun os started H enc _ => lifted os started H enc)

theorem proved : Rows.FnExactWordsSaid := over
#print axioms proved
end Go.Proofs.Ytlfmnkpelkomcaa.fnExactWords
