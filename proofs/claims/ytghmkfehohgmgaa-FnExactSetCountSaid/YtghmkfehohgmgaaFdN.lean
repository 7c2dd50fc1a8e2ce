/-
  Proves FnExactSetCountSaid: for every record, int and text, impl.SetCount answers as spec.SetCount does, in memory of its own, and the law returns true and leaves its arguments as they were. Conditions: none beyond the row's own.
-/
import Derived.Test.YtghmkfehohgmgaaFdI
namespace Go.Proofs.Ytghmkfehohgmgaa.fnExactSetCount
open Go.ChangeShapes Go.WideShapes Go.ChangeAt Go.RowKit
open Go.ChangeMaps (open_string shut_string)
open Go.Proofs.Ytghmkfehohgmgaa.kit
set_option linter.unusedVariables false

set_option maxRecDepth 100000 in
set_option maxHeartbeats 4000000 in
theorem walk (l : List UInt8) (ts : List (List UInt8)) (a : Option Addr) (cap : Nat) (i : Int) (ob : ByteArray) (w : World) (hk : Strs w ts a) (hs : l.length ≤ maxLen) (hl : ts.length ≤ maxLen) (wi : (Lit.int .i64 i).wf = true) (wo : ob.size ≤ maxLen) :
    Calls Try.prog 8 #[recV l a ts.length cap, .int .i64 i, .string ob] w fun e w' => e = .returned (.bool true) ∧ Below w.heap.size w w' := by
  have HK := Lib.hid hk
  have HP := Lib.hid (show ∀ o1, Below w.heap.size w (w.alloc o1) from fun o1 => (Below.refl w.heap.size w).alloc (Nat.le_refl _) _)
  have HZ := Lib.hid (fun W (h : Strs W ts a) => szRec_any l ts a cap 1048576 W h hl hs (by omega) (by omega))
  by_cases cs2 : ob.size ≤ 1048576
  · have k2 : ¬ (1048576 : Int) < (ob.size : Int) := by omega
    by_cases hb : ((l.length + billF ts : Nat) : Int) ≤ 1048576
    · have hl2 : ts.length ≤ 1048576 := by simp only [billF] at hb; omega
      rw [leftF_pos hb] at HZ
      have h0 : 0 ≤ 1048576 - ((l.length + billF ts : Nat) : Int) := by omega
      have HT := Lib.hid (fun W (h : Strs W ts a) => toRec_any l ts a cap W h hl2)
      have hn2 : ts.length ≤ 2000000 := by omega
      have hfl : ∀ j, j < ts.length → (ts.getD j []).length ≤ 1048576 := fun j hj => by
        have h1 := lens_mem ts.length (fun j => ts.getD j []) j hj
        rw [lensF_list] at h1
        simp only [billF] at hb
        omega
      have e2 : eS ob.data.toList = .string ob := by simp [eS]
      obtain ⟨L, N, F, q, hN, hsp, him⟩ := setCount_both l ts.length (fun j => ts.getD j []) i ob.data.toList hl2 (by simpa using cs2) hfl
      rw [e2] at hsp him
      clear e2
      have hN2 : N ≤ 2000000 := by omega
      have HSP := Lib.hid (show ∀ W a1 c1 B, Laid ts.length c1 a1 W → SlF B W a1 ts.length (fun j => ts.getD j []) → Calls Try.prog 30 #[recV l a1 ts.length c1, .int .i64 i, .string ob] W fun e w' => ∃ (a' : Option Addr) (c' : Nat), e = .returned (.tuple #[recV L a' N c', .bool q]) ∧ SlF W.heap.size w' a' N F ∧ Below W.heap.size W w' from hsp)
      have HIM := Lib.hid (show ∀ W a1 c1 B, Laid ts.length c1 a1 W → SlF B W a1 ts.length (fun j => ts.getD j []) → Calls Try.prog 31 #[recV l a1 ts.length c1, .int .i64 i, .string ob] W fun e w' => ∃ (a' : Option Addr) (c' : Nat), e = .returned (.tuple #[recV L a' N c', .bool q]) ∧ SlF W.heap.size w' a' N F ∧ Laid N c' a' w' ∧ Below W.heap.size W w' from him)
      have HE := Lib.hid (fun W a1 a2 c1 c2 B C (h1 : SlF B W a1 N F) (h2 : SlF C W a2 N F) => eqRec_any B C L a1 a2 c1 c2 N F W hN2 h1 h2)
      have HEY := Lib.hid (fun W a1 a2 c1 c2 B C (h1 : SlF B W a1 ts.length (fun j => ts.getD j [])) (h2 : SlF C W a2 ts.length (fun j => ts.getD j [])) => eqRec_any B C l a1 a2 c1 c2 ts.length _ W hn2 h1 h2)
      have HMX := Lib.hid (fun W a1 c1 B C (hC : LowF ts.length a1 C) (h1 : SlF B W a1 ts.length (fun j => ts.getD j [])) => markRecMk_any B C l a1 c1 ts.length _ W hn2 hC h1)
      have HMV := Lib.hid (fun W a1 c1 B C (hC : LowF N a1 C) (h1 : SlF B W a1 N F) => markRecMk_any B C L a1 c1 N F W hN2 hC h1)
      have HH := Lib.hid (fun W a1 c1 B (h1 : SlF B W a1 N (fun j => mt (1 + j))) => heldRec1_any B L a1 c1 N W hN2 h1)
      clear hk hl hs hb hsp him hfl hn2 hN2 hN cs2 wi wo
      generalize ((l.length + billF ts : Nat) : Int) = bl at *
      unfold recV eS at HT HZ HE HEY HSP HIM HMX HMV HH ⊢
      generalize (⟨l.toArray⟩ : ByteArray) = s at HT HZ HEY HSP HIM HMX ⊢
      generalize (⟨L.toArray⟩ : ByteArray) = Lb at HE HSP HIM HMV HH
      have P0 := Lib.hid (Wb.new w (.string s) (.slice a ts.length cap) 30)
      have B0 := Lib.hid (HP.out (.cells #[.string s, .slice a ts.length cap] 30))
      go_enter Try.func8, Try.ntmps8
      go_wp2_with fail
      refine (HZ.out _ (HK.out.alloc _)).mono ?_
      rintro e w1 ⟨rfl, b1⟩
      have P1 := Lib.hid (P0.out.step b1)
      have B1 := Lib.hid (B0.out.trans (b1.mono B0.out.size))
      have Z1 := Lib.hid (show w.heap.size + 1 ≤ w1.heap.size from by have := b1.size; simpa using this)
      clear b1
      obtain ⟨u0, v0, _, _, t0⟩ := P1.out
      go_wp2_with fail
      clear u0 v0 t0
      refine (HT.out _ (HK.out.kept (Nat.le_refl _) B1.out)).mono ?_
      rintro e w2 ⟨a2, c2, rfl, k2, d2, b2⟩
      have P2 := Lib.hid (P1.out.step b2)
      have B2 := Lib.hid (B1.out.trans (b2.mono B1.out.size))
      have Z2 := Lib.hid (show w1.heap.size ≤ w2.heap.size from by have := b2.size; simpa using this)
      have K2 := Lib.hid k2
      have D2 := Lib.hid d2
      clear b2 k2 d2
      go_wp2_with fail
      refine (HSP.out _ a2 c2 _ D2.out K2.out).mono ?_
      rintro e w3 ⟨aw, cw, rfl, kw, b3⟩
      have P3 := Lib.hid (P2.out.step b3)
      have B3 := Lib.hid (B2.out.trans (b3.mono B2.out.size))
      have Z3 := Lib.hid (show w2.heap.size ≤ w3.heap.size from by have := b3.size; simpa using this)
      have W0 := Lib.hid (kw)
      have LW := Lib.hid kw.lowF
      clear b3 kw
      have P4 := Lib.hid (P3.out.step ((Below.refl w3.heap.size w3).alloc (Nat.le_refl _) (.cells #[.string Lb, .slice aw N cw] 33)))
      have W1 := Lib.hid (W0.out.kept ((Below.refl w3.heap.size w3).alloc (Nat.le_refl _) (.cells #[.string Lb, .slice aw N cw] 33)))
      have B4 := Lib.hid (B3.out.trans (((Below.refl w3.heap.size w3).alloc (Nat.le_refl _) (.cells #[.string Lb, .slice aw N cw] 33)).mono B3.out.size))
      have X0 := Lib.hid (Wb.new w3 (.string Lb) (.slice aw N cw) 33)
      obtain ⟨u0, v0, _, _, t0⟩ := P4.out
      go_wp2_with fail
      clear u0 v0 t0
      refine (HT.out _ (HK.out.kept (Nat.le_refl _) B4.out)).mono ?_
      rintro e w4 ⟨ax, cx, rfl, kx, dx, b4⟩
      have P5 := Lib.hid (P4.out.step b4)
      have X1 := Lib.hid (X0.out.step b4)
      have W2 := Lib.hid (W1.out.kept b4)
      have B5 := Lib.hid (B4.out.trans (b4.mono B4.out.size))
      have Z4 := Lib.hid (show w3.heap.size + 1 ≤ w4.heap.size from by have := b4.size; simpa using this)
      have Y0 := Lib.hid (kx.mono (B' := w3.heap.size + 1) (by simp))
      have LY := Lib.hid kx.lowF
      have DX := Lib.hid dx
      clear b4 kx dx
      have P6 := Lib.hid (P5.out.step ((Below.refl w4.heap.size w4).alloc (Nat.le_refl _) (.cells #[.string s, .slice ax ts.length cx] 33)))
      have X2 := Lib.hid (X1.out.step ((Below.refl w4.heap.size w4).alloc (Nat.le_refl _) (.cells #[.string s, .slice ax ts.length cx] 33)))
      have W3 := Lib.hid (W2.out.kept ((Below.refl w4.heap.size w4).alloc (Nat.le_refl _) (.cells #[.string s, .slice ax ts.length cx] 33)))
      have Y1 := Lib.hid (Y0.out.kept ((Below.refl w4.heap.size w4).alloc (Nat.le_refl _) (.cells #[.string s, .slice ax ts.length cx] 33)))
      have B6 := Lib.hid (B5.out.trans (((Below.refl w4.heap.size w4).alloc (Nat.le_refl _) (.cells #[.string s, .slice ax ts.length cx] 33)).mono B5.out.size))
      have U0 := Lib.hid (Wb.new w4 (.string s) (.slice ax ts.length cx) 33)
      obtain ⟨u0, v0, _, _, t0⟩ := U0.out
      go_wp2_with fail
      clear u0 v0 t0
      refine (HIM.out _ ax cx _ (DX.out.kept (by simp)) Y1.out).mono ?_
      rintro e w5 ⟨ag, cg, rfl, kg, dg, b5⟩
      have P7 := Lib.hid (P6.out.step b5)
      have X3 := Lib.hid (X2.out.step b5)
      have U1 := Lib.hid (U0.out.step b5)
      have W4 := Lib.hid (W3.out.kept b5)
      have Y2 := Lib.hid (Y1.out.kept b5)
      have B7 := Lib.hid (B6.out.trans (b5.mono B6.out.size))
      have Z5 := Lib.hid (show w4.heap.size + 1 ≤ w5.heap.size from by have := b5.size; simpa using this)
      have V0 := Lib.hid (kg.mono (B' := w4.heap.size + 1) (by simp))
      have LV := Lib.hid kg.lowF
      clear b5 kg dg
      have P8 := Lib.hid (P7.out.step ((Below.refl w5.heap.size w5).alloc (Nat.le_refl _) (.cells #[.string Lb, .slice ag N cg] 33)))
      have X4 := Lib.hid (X3.out.step ((Below.refl w5.heap.size w5).alloc (Nat.le_refl _) (.cells #[.string Lb, .slice ag N cg] 33)))
      have U2 := Lib.hid (U1.out.step ((Below.refl w5.heap.size w5).alloc (Nat.le_refl _) (.cells #[.string Lb, .slice ag N cg] 33)))
      have W5 := Lib.hid (W4.out.kept ((Below.refl w5.heap.size w5).alloc (Nat.le_refl _) (.cells #[.string Lb, .slice ag N cg] 33)))
      have Y3 := Lib.hid (Y2.out.kept ((Below.refl w5.heap.size w5).alloc (Nat.le_refl _) (.cells #[.string Lb, .slice ag N cg] 33)))
      have V1 := Lib.hid (V0.out.kept ((Below.refl w5.heap.size w5).alloc (Nat.le_refl _) (.cells #[.string Lb, .slice ag N cg] 33)))
      have B8 := Lib.hid (B7.out.trans (((Below.refl w5.heap.size w5).alloc (Nat.le_refl _) (.cells #[.string Lb, .slice ag N cg] 33)).mono B7.out.size))
      have T0 := Lib.hid (Wb.new w5 (.string Lb) (.slice ag N cg) 33)
      obtain ⟨u0, v0, _, _, t0⟩ := T0.out
      obtain ⟨u1, v1, _, _, t1⟩ := X4.out
      go_wp2_with fail
      clear u0 v0 t0 u1 v1 t1
      refine (HE.out _ ag aw cg cw _ _ V1.out W5.out).mono ?_
      rintro e w6 ⟨rfl, b6⟩
      have P9 := Lib.hid (P8.out.step b6)
      have X5 := Lib.hid (X4.out.step b6)
      have U3 := Lib.hid (U2.out.step b6)
      have T1 := Lib.hid (T0.out.step b6)
      have W6 := Lib.hid (W5.out.kept b6)
      have Y4 := Lib.hid (Y3.out.kept b6)
      have V2 := Lib.hid (V1.out.kept b6)
      have B9 := Lib.hid (B8.out.trans (b6.mono B8.out.size))
      have Z6 := Lib.hid (show w5.heap.size + 1 ≤ w6.heap.size from by have := b6.size; simpa using this)
      clear b6
      go_wp2_with fail
      go_region_held3 (fun w' => ((w'.cell? ⟨w.heap.size, 0, none⟩ = some (.string s) ∧ w'.cell? ⟨w.heap.size, 1, none⟩ = some (.slice a ts.length cap)) ∧ (w'.cell? ⟨w4.heap.size, 0, none⟩ = some (.string s) ∧ w'.cell? ⟨w4.heap.size, 1, none⟩ = some (.slice ax ts.length cx))) ∧ (w.heap.size < w'.heap.size ∧ w4.heap.size < w'.heap.size) ∧ Below w6.heap.size w6 w') (first | exact Two2.start ⟨⟨P9.out.c0, P9.out.c1⟩, P9.out.lt⟩ ⟨⟨U3.out.c0, U3.out.c1⟩, U3.out.lt⟩ | exact Two2.step (p := w.heap.size) (q := w4.heap.size) (s := s) (a := a) (n := ts.length) (c := cap) (s2 := s) (a2 := ax) (n2 := ts.length) (c2 := cx) (by assumption) (by assumption)) (first | (go_at_call 16; refine (HT.out _ (HK.out.kept (Nat.le_refl _) B9.out.drew)).mono ?_; rintro e w7 ⟨a7, c7, rfl, k7, d7, b7⟩) | (go_at_call 18; refine (HEY.out _ ax a7 cx c7 _ _ (Y4.out.drew.kept (by assumption)) (by assumption)).mono ?_; rintro e w8 ⟨rfl, e8⟩))
      have b8 := Two2.below (p := w.heap.size) (q := w4.heap.size) (s := s) (a := a) (n := ts.length) (c := cap) (s2 := s) (a2 := ax) (n2 := ts.length) (c2 := cx) (W := w6) (w := w8) (by assumption)
      clear e8 b7 k7 d7
      have P10 := Lib.hid (P9.out.step b8)
      have X6 := Lib.hid (X5.out.step b8)
      have U4 := Lib.hid (U3.out.step b8)
      have T2 := Lib.hid (T1.out.step b8)
      have W7 := Lib.hid (W6.out.kept b8)
      have Y5 := Lib.hid (Y4.out.kept b8)
      have V3 := Lib.hid (V2.out.kept b8)
      have B10 := Lib.hid (B9.out.trans (b8.mono B9.out.size))
      have Z8 := Lib.hid (show w6.heap.size ≤ w8.heap.size from by have := b8.size; simpa using this)
      clear b8
      have ZZ := Lib.hid (show w.heap.size + 1 ≤ w1.heap.size ∧ w1.heap.size ≤ w2.heap.size ∧ w2.heap.size ≤ w3.heap.size ∧ w3.heap.size + 1 ≤ w4.heap.size ∧ w4.heap.size + 1 ≤ w5.heap.size ∧ w5.heap.size + 1 ≤ w6.heap.size ∧ w6.heap.size ≤ w8.heap.size from ⟨Z1.out, Z2.out, Z3.out, Z4.out, Z5.out, Z6.out, Z8.out⟩)
      have ZQ := ZZ.out
      clear ZQ
      obtain ⟨u0, v0, _, _, t0⟩ := U4.out
      go_wp2_with fail
      clear u0 v0 t0
      refine (HMX.out _ ax cx _ w4.heap.size LY.out Y5.out).mono ?_
      rintro e w9 ⟨rfl, _, m9⟩
      have P11 := Lib.hid (P10.out.mk' m9 (by have := ZZ.out; omega))
      have X7 := Lib.hid (X6.out.mk' m9 (by have := ZZ.out; omega))
      have U5 := Lib.hid (U4.out.mk' m9 (by have := ZZ.out; omega))
      have T3 := Lib.hid (T2.out.mk' m9 (by have := ZZ.out; omega))
      have W8 := Lib.hid (W7.out.mkOff m9 (.inl ⟨_, LW.out, (by have := ZZ.out; omega)⟩))
      have V4 := Lib.hid (V3.out.mkOff m9 (.inr (by have := ZZ.out; omega)))
      have B11 := Lib.hid (B10.out.trans ((m9.below (by have := ZZ.out; omega)).mono (by have := ZZ.out; omega)))
      have Z9 := Lib.hid m9.size
      clear m9
      have ZY := Lib.hid (show w5.heap.size + 1 ≤ w9.heap.size from by have := ZZ.out; have := Z9.out; omega)
      have hn1 : (0 : Int) ≤ 1 + (ts.length : Int) := by omega
      obtain ⟨u0, v0, _, _, t0⟩ := T3.out
      obtain ⟨u1, v1, _, _, t1⟩ := X7.out
      go_wp2_with fail
      clear u0 v0 t0 u1 v1 t1
      refine (HE.out _ ag aw cg cw _ _ V4.out W8.out).mono ?_
      rintro e w10 ⟨rfl, b10⟩
      have P12 := Lib.hid (P11.out.step b10)
      have X8 := Lib.hid (X7.out.step b10)
      have U6 := Lib.hid (U5.out.step b10)
      have T4 := Lib.hid (T3.out.step b10)
      have W9 := Lib.hid (W8.out.kept b10)
      have V5 := Lib.hid (V4.out.kept b10)
      have B12 := Lib.hid (B11.out.trans (b10.mono B11.out.size))
      have Z10 := Lib.hid (show w9.heap.size ≤ w10.heap.size from by have := b10.size; simpa using this)
      clear b10
      have ZW := Lib.hid (show w5.heap.size + 1 ≤ w10.heap.size from by have := ZY.out; have := Z10.out; omega)
      obtain ⟨u0, v0, _, _, t0⟩ := T4.out
      go_wp2_with fail
      clear u0 v0 t0
      refine (HMV.out _ ag cg _ w5.heap.size LV.out V5.out).mono ?_
      rintro e w11 ⟨rfl, k11, m11⟩
      have P13 := Lib.hid (P12.out.mk' m11 (by have := ZZ.out; have := ZW.out; omega))
      have X9 := Lib.hid (X8.out.mk' m11 (by have := ZZ.out; have := ZW.out; omega))
      have U7 := Lib.hid (U6.out.mk' m11 (by have := ZZ.out; have := ZW.out; omega))
      have T5 := Lib.hid (T4.out.mk' m11 (by have := ZZ.out; have := ZW.out; omega))
      have W10 := Lib.hid (W9.out.mkOff m11 (.inl ⟨_, LW.out, (by have := ZZ.out; have := ZW.out; omega)⟩))
      have B13 := Lib.hid (B12.out.trans ((m11.below (by have := ZZ.out; have := ZW.out; omega)).mono (by have := ZZ.out; have := ZW.out; omega)))
      have M0 := Lib.hid (k11)
      clear m11 k11
      have hn3 : (0 : Int) ≤ 1 + (N : Int) := by omega
      have hn4 : ¬ (1 + (N : Int) < 0) := by omega
      obtain ⟨u0, v0, _, _, t0⟩ := T5.out
      go_wp2_with fail
      clear u0 v0 t0
      refine (HH.out _ ag cg _ M0.out).mono ?_
      rintro e w12 ⟨rfl, b12⟩
      have P14 := Lib.hid (P13.out.step b12)
      have X10 := Lib.hid (X9.out.step b12)
      have U8 := Lib.hid (U7.out.step b12)
      have T6 := Lib.hid (T5.out.step b12)
      have W11 := Lib.hid (W10.out.kept b12)
      have M1 := Lib.hid (M0.out.kept b12)
      have B14 := Lib.hid (B13.out.trans (b12.mono B13.out.size))
      clear b12
      obtain ⟨u0, v0, _, _, t0⟩ := P14.out
      go_wp2_with fail
      clear u0 v0 t0
      refine (HT.out _ (HK.out.kept (Nat.le_refl _) B14.out)).mono ?_
      rintro e w13 ⟨ay, cy, rfl, ky, dy, b13⟩
      have P15 := Lib.hid (P14.out.step b13)
      have X11 := Lib.hid (X10.out.step b13)
      have U9 := Lib.hid (U8.out.step b13)
      have T7 := Lib.hid (T6.out.step b13)
      have W12 := Lib.hid (W11.out.kept b13)
      have M2 := Lib.hid (M1.out.kept b13)
      have B15 := Lib.hid (B14.out.trans (b13.mono B14.out.size))
      have KY := Lib.hid ky
      have DY := Lib.hid dy
      clear b13 ky dy
      go_wp2_with fail
      refine (HIM.out _ ay cy _ DY.out KY.out).mono ?_
      rintro e w14 ⟨ah, ch, rfl, kh, dh, b14⟩
      have P16 := Lib.hid (P15.out.step b14)
      have X12 := Lib.hid (X11.out.step b14)
      have U10 := Lib.hid (U9.out.step b14)
      have T8 := Lib.hid (T7.out.step b14)
      have W13 := Lib.hid (W12.out.kept b14)
      have M3 := Lib.hid (M2.out.kept b14)
      have B16 := Lib.hid (B15.out.trans (b14.mono B15.out.size))
      have H0 := Lib.hid (kh)
      clear b14 kh dh
      have P17 := Lib.hid (P16.out.step ((Below.refl w14.heap.size w14).alloc (Nat.le_refl _) (.cells #[.string Lb, .slice ah N ch] 33)))
      have X13 := Lib.hid (X12.out.step ((Below.refl w14.heap.size w14).alloc (Nat.le_refl _) (.cells #[.string Lb, .slice ah N ch] 33)))
      have U11 := Lib.hid (U10.out.step ((Below.refl w14.heap.size w14).alloc (Nat.le_refl _) (.cells #[.string Lb, .slice ah N ch] 33)))
      have T9 := Lib.hid (T8.out.step ((Below.refl w14.heap.size w14).alloc (Nat.le_refl _) (.cells #[.string Lb, .slice ah N ch] 33)))
      have W14 := Lib.hid (W13.out.kept ((Below.refl w14.heap.size w14).alloc (Nat.le_refl _) (.cells #[.string Lb, .slice ah N ch] 33)))
      have M4 := Lib.hid (M3.out.kept ((Below.refl w14.heap.size w14).alloc (Nat.le_refl _) (.cells #[.string Lb, .slice ah N ch] 33)))
      have H1 := Lib.hid (H0.out.kept ((Below.refl w14.heap.size w14).alloc (Nat.le_refl _) (.cells #[.string Lb, .slice ah N ch] 33)))
      have B17 := Lib.hid (B16.out.trans (((Below.refl w14.heap.size w14).alloc (Nat.le_refl _) (.cells #[.string Lb, .slice ah N ch] 33)).mono B16.out.size))
      have I0 := Lib.hid (Wb.new w14 (.string Lb) (.slice ah N ch) 33)
      obtain ⟨u0, v0, _, _, t0⟩ := I0.out
      obtain ⟨u1, v1, _, _, t1⟩ := X13.out
      go_wp2_with fail
      clear u0 v0 t0 u1 v1 t1
      refine (HE.out _ ah aw ch cw _ _ H1.out W14.out).mono ?_
      rintro e w15 ⟨rfl, b15⟩
      have P18 := Lib.hid (P17.out.step b15)
      have X14 := Lib.hid (X13.out.step b15)
      have U12 := Lib.hid (U11.out.step b15)
      have T10 := Lib.hid (T9.out.step b15)
      have I1 := Lib.hid (I0.out.step b15)
      have W15 := Lib.hid (W14.out.kept b15)
      have M5 := Lib.hid (M4.out.kept b15)
      have H2 := Lib.hid (H1.out.kept b15)
      have B18 := Lib.hid (B17.out.trans (b15.mono B17.out.size))
      clear b15
      obtain ⟨u0, v0, _, _, t0⟩ := T10.out
      go_wp2_with fail
      clear u0 v0 t0
      refine (HH.out _ ag cg _ M5.out).mono ?_
      rintro e w16 ⟨rfl, b16⟩
      have P19 := Lib.hid (P18.out.step b16)
      have X15 := Lib.hid (X14.out.step b16)
      have U13 := Lib.hid (U12.out.step b16)
      have T11 := Lib.hid (T10.out.step b16)
      have I2 := Lib.hid (I1.out.step b16)
      have W16 := Lib.hid (W15.out.kept b16)
      have M6 := Lib.hid (M5.out.kept b16)
      have H3 := Lib.hid (H2.out.kept b16)
      have B19 := Lib.hid (B18.out.trans (b16.mono B18.out.size))
      clear b16
      go_wp2_with fail
      go_ret
      exact ⟨rfl, B19.out⟩
    · rw [leftF_neg (by omega)] at HZ
      unfold recV eS at HZ ⊢
      generalize (⟨l.toArray⟩ : ByteArray) = s at HZ ⊢
      go_enter Try.func8, Try.ntmps8
      go_wp2_with fail
      refine (HZ.out _ (HK.out.kept (Nat.le_refl _) (HP.out _))).mono ?_
      rintro e w1 ⟨rfl, b1⟩
      go_wp2_with fail
      go_ret
      exact ⟨rfl, (HP.out _).trans (b1.mono (HP.out _).size)⟩
  · have k2 : (1048576 : Int) < (ob.size : Int) := by omega
    clear cs2
    unfold recV eS
    go_enter Try.func8, Try.ntmps8
    go_wp2_with fail
    go_ret
    exact ⟨rfl, HP.out _⟩

theorem own : ownKnob Try.prog.godebug = none := by kernel_rfl

set_option maxRecDepth 100000 in
theorem lifted (os : Os) (started : os.Started) (H : Type) (enc : TypeId × Value → H) :
    ReturnsInHanded {} Try.checked os 8 .any (Rows.fnExactSetCountSpec.pre6 enc Try.prog Try.f8 Rows.fnExactSetCountRow.domain false) (Rows.fnExactSetCountSpec.post enc Try.prog Try.f8 false true false false) := by
  refine returnsInHanded_of_change (C := Try.checked) own started (by kernel_rfl) Try.func8
    (ChangeSpec.witness6 (enc := enc) (C := Try.checked) false ⟨#[], #[.agg #[.string ⟨#[]⟩, .slice none 0 0], .int .i64 0, .string ⟨#[]⟩], []⟩ 8 (by kernel_rfl) (by kernel_rfl) (by kernel_rfl) (by kernel_rfl)) ?_
  intro W base args ds gs before hval0 hW hcnd _
  have hval : ∀ (j : Nat) t v, Try.f8.params[j]? = some t → args[j]? = some v → Value.okWide Try.prog W .any base t v := hval0
  have hW' := hW
  obtain ⟨p, q, hA0, hV, rfl, hfz, hnd⟩ := hW
  have hA : DataW.TrodAll enc Try.prog W 0 (fun _ => true) true Try.f8.params.toList args.toList ds p := hA0
  rw [Try.params8] at hA hval
  obtain ⟨v0, vs0, d0, ds0, p0, q0, hargs, rfl, rfl, h0, r0⟩ := trodAll_cons hA
  obtain ⟨v1, vs1, d1, ds1, p1, q1, rfl, rfl, rfl, h1, r1⟩ := trodAll_cons r0
  obtain ⟨v2, vs2, d2, ds2, p2, q2, rfl, rfl, rfl, h2, r2⟩ := trodAll_cons r1
  obtain ⟨rfl, rfl, rfl⟩ := trodAll_nil r2
  obtain rfl : args = #[v0, v1, v2] := by cases args; simp_all
  obtain ⟨rfl, rfl⟩ := trodVars_none hV
  obtain ⟨l0, t0, a0, c0, rfl, hk0, hs0, hl0⟩ := open_rec (hval 0 30 v0 rfl rfl) h0
  have hlt0 : ∀ x ∈ p0, x.block < W.heap.size := fun x hx => by simpa using hW'.lt x (by simp [hx])
  obtain ⟨a1, rfl, rfl, rfl, w1⟩ := open_int Try.underlying3 (hval 1 3 v1 rfl rfl) h1
  obtain ⟨s2, rfl, rfl, rfl, hs2⟩ := open_string Try.underlying9 (hval 2 9 v2 rfl rfl) h2
  clear hA0 hval0
  refine (walk l0 t0 a0 c0 a1 s2 W hk0 hs0 hl0 w1 hs2).mono fun e W' ⟨he, bel⟩ => ?_
  subst he
  exact ⟨_, rfl, _, _, _, [], _, [], hW', trodAll_mk1 (shut_bool Try.underlying4 _), (trodAll_cons_mk (Below.trod laidOutF (by kernel_rfl) (of_decide_eq_true (by kernel_rfl)) h0 bel hlt0) (trodAll_cons_mk (shut_int Try.underlying3 w1) (trodAll_cons_mk (shut_string Try.underlying9 hs2) trodAll_mk0))), rfl, bel.frame _, fun h => by cases h⟩

theorem over : Rows.fnExactSetCountRow.holds Try.pinned (OpenSpec.ofChange Rows.fnExactSetCountSpec) :=
  OpenClaim.holds_of_wide 8 Try.f8 rfl rfl rfl rfl rfl rfl rfl ⟨rfl, rfl, rfl, rfl, rfl⟩ rfl rfl rfl rfl rfl (by kernel_rfl) Try.func8 (by kernel_rfl)
    (of_decide_eq_true (by kernel_rfl)) (by unfold Func.isWrapper; first | (rw [if_pos (by decide +kernel)]; kernel_rfl) | (rw [if_neg (by decide +kernel)]; exact ⟨rfl, rfl⟩))
    (fun os started H enc _ => lifted os started H enc)

theorem proved : Rows.FnExactSetCountSaid := over
#print axioms proved
end Go.Proofs.Ytghmkfehohgmgaa.fnExactSetCount
