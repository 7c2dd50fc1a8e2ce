/-
  Proves FnLexCardSaid: for every code the law on words returns true and leaves its argument as it was: words written one behind the other with blanks between are those words again. Conditions: none beyond the card's own.
-/
import Derived.Test.YtebeoijoljlhiaaGreatDoorCards
import Derived.Test.YtebeoijoljlhiaaGreatDoorTie
import Derived.Test.YtebeoijoljlhiaaGreatDoorMTab0
import Derived.Test.YtebeoijoljlhiaaGreatDoorMLd1
import Derived.Deep.QuietTactic
import Derived.BigQuiet
import Derived.Deep.RegionHeld3
import Derived.ChangeVars
import Derived.OpenVars
import Derived.Test.YtebeoijoljlhiaaGreatDoorMLr3
import Derived.Test.YtebeoijoljlhiaaGreatDoorMTok2
import Derived.Test.YtebeoijoljlhiaaGreatDoorMTt0
import Derived.Test.YtebeoijoljlhiaaGreatDoorMCod
namespace Go.Proofs.YtebeoijoljlhiaaGreatDoor.fnLex
open Go.ChangeShapes Go.WideShapes Go.ChangeAt Go.RowKit
open Go.ChangeMaps (open_string shut_string)
open Go.Proofs.YtebeoijoljlhiaaGreatDoor.kit
set_option linter.unusedVariables false

theorem own : ownKnob Tryz.prog.godebug = none := by kernel_rfl
/-- What the row's list gives: the table's cells hold the powers of ten. -/
theorem table {W : World} (h : laidMet Tryz.prog Rows.fnLexRow.laid W) : Tab W ∧ Sig W := ⟨tab_of h (by kernel_rfl), sig_of h (by kernel_rfl)⟩
/-- What stays while the law's first test is made. -/
structure LwS (wb : World) (P : Nat) (t : kit.Tok) (B : Nat) (a : Option Addr) (n : Nat) (f : Nat → kit.Tok) (W : World) : Prop where
  c : TokC W P 0 t
  l : TokF B W a n f
  bel : Below wb.heap.size wb W
theorem LwS.step {wb : World} {P : Nat} {t : kit.Tok} {B : Nat} {a : Option Addr} {n : Nat} {f : Nat → kit.Tok} {W W' : World} (h : LwS wb P t B a n f W) (hb : Below W.heap.size W W') : LwS wb P t B a n f W' :=
  ⟨h.c.of fun o => hb.cell (p := ⟨P, o, none⟩) (World.block_lt_of_cell? W ⟨P, 0, none⟩ h.c.1), h.l.kept hb, h.bel.trans (hb.mono h.bel.size)⟩
theorem LwS.drew {wb : World} {P : Nat} {t : kit.Tok} {B : Nat} {a : Option Addr} {n : Nat} {f : Nat → kit.Tok} {W : World} (h : LwS wb P t B a n f W) : LwS wb P t B a n f W.drew := h.step ((Below.refl _ _).drew)
theorem LwS.tab {w wb : World} {P : Nat} {t : kit.Tok} {B : Nat} {a : Option Addr} {n : Nat} {f : Nat → kit.Tok} {W : World} (ht : Tab w) (hb : Below w.heap.size w wb) (h : LwS wb P t B a n f W) : Tab W := (ht.on hb).on h.bel
theorem below_drewN (w : World) (n : Nat) : Below w.heap.size w (w.drewN n) := ⟨rfl, rfl, rfl, Nat.le_refl _, fun _ _ => rfl⟩
theorem big_no (a : Option Addr) (n cap : Nat) (w : World) (h : n ≤ 1048576) :
    Calls Tryz.prog 8 #[.slice a n cap] w fun e w' => e = .returned (.bool false) ∧ w = w' := by
  have d1 : decide (1048576 < n) = false := by simp; omega
  have d2 : decide ((1048576 : Int) < (n : Int)) = false := by simp; omega
  go_enter Tryz.func8, Tryz.ntmps8
  go_wp2
  go_ret
  exact ⟨rfl, rfl⟩
theorem big_yes (a : Option Addr) (n cap : Nat) (w : World) (h : 1048576 < n) :
    Calls Tryz.prog 8 #[.slice a n cap] w fun e w' => e = .returned (.bool true) ∧ w = w' := by
  have d1 : decide (1048576 < n) = true := by simp; omega
  have d2 : decide ((1048576 : Int) < (n : Int)) = true := by simp; omega
  go_enter Tryz.func8, Tryz.ntmps8
  go_wp2
  go_ret
  exact ⟨rfl, rfl⟩
set_option maxRecDepth 100000 in
set_option maxHeartbeats 20000000 in
theorem walk1 (a : Option Addr) (n cap : Nat) (w : World) (hn : n ≤ 1048576) (hc : Code8 w a n) (ht : Tab w) (hg : Sig w) :
    Calls Tryz.prog 4 #[.slice a n cap] w fun e w' => e = .returned (.bool true) ∧ Below w.heap.size w w' := by
  have HC := Lib.hid hc
  have HT := Lib.hid ht
  have HG := Lib.hid hg
  clear hc ht hg
  go_enter Tryz.func4, Tryz.ntmps4
  go_wp2_with fail
  refine (big_no a n cap _ hn).mono ?_
  rintro e w0 ⟨rfl, rfl⟩
  go_wp2_with fail
  refine (drawLex_any a n cap _ hn HC.out).mono ?_
  rintro e w1 ⟨s, hs, rfl, b1⟩
  have BL1 := Lib.hid b1
  clear b1
  have GB := Lib.hid (lexB_good s)
  have GA := Lib.hid (lex_again s)
  have GT := Lib.hid (lexB_text s)
  have GS := Lib.hid (lexB_sum s)
  have hlen := lexB_len s
  have CI := Lib.hid (fun W (h : Sig W) => implLex_any s W (by omega) h)
  have CS := Lib.hid (fun W => specLex_any s W (by omega))
  generalize lexB s = r at *
  obtain ⟨xs, q⟩ := r
  have hlen : xs.length ≤ 4001 := hlen
  go_wp2_with fail
  refine (CI.out _ (HG.out.on BL1.out)).mono ?_
  rintro e w2 ⟨v1, rfl, o1, b2⟩
  obtain ⟨a1, c1, rfl, s1⟩ := o1.tokF
  have BL2 := Lib.hid (BL1.out.trans (b2.mono BL1.out.size))
  have S1 := Lib.hid s1
  clear o1 s1 b2
  simp only at *
  go_wp2_with fail
  refine (CS.out _).mono ?_
  rintro e w3 ⟨v0, rfl, o0, b3⟩
  obtain ⟨a0, c0, rfl, s0⟩ := o0.tokF
  have BL3 := Lib.hid (BL2.out.trans (b3.mono BL2.out.size))
  have S1b := Lib.hid (S1.out.kept b3)
  have S0 := Lib.hid s0
  clear o0 s0 b3 S1
  simp only at *
  go_wp2_with fail
  refine (drawIsKey_any a n cap _ hn (HC.out.kept BL3.out)).mono ?_
  rintro e w4 ⟨kk, hkk, rfl, b4⟩
  have BL4 := Lib.hid (BL3.out.trans (b4.mono BL3.out.size))
  have S1 := Lib.hid (S1b.out.kept b4)
  have S0b := Lib.hid (S0.out.kept b4)
  clear b4 S1b S0
  go_wp2_with fail
  refine (drawTok_any a n cap _ hn (HC.out.kept BL4.out)).mono ?_
  rintro e w5 ⟨⟨tk, tt, tn, tl⟩, ht1, hk1, hn1, rfl, b5⟩
  have ht1 : tt.size ≤ 100 := ht1
  have BL5 := Lib.hid (BL4.out.trans (b5.mono BL4.out.size))
  have S1b := Lib.hid (S1.out.kept b5)
  have S0 := Lib.hid (S0b.out.kept b5)
  have CT := Lib.hid (fun W (h : Tab W) => implTt_any ⟨tk, tt, tn, tl⟩ W (by show tt.size ≤ _; omega) h)
  have CT2 := Lib.hid (fun W => specTt_any ⟨tk, tt, tn, tl⟩ W (by show tt.size ≤ _; omega))
  clear b5 S1 S0b hk1 hn1
  have BX := Lib.hid (tokC_new w5 rfl 39 ⟨tk, tt, tn, tl⟩)
  generalize ttx ⟨tk, tt, tn, tl⟩ = tx at *
  unfold kit.Tok.v at *
  have BA := Lib.hid (fun o => (Below.refl w5.heap.size w5).alloc (Nat.le_refl _) o)
  go_wp2_with fail
  refine (drawCount_any a n cap _ hn (HC.out.kept (BL5.out.trans ((BA.out _).mono BL5.out.size)))).mono ?_
  rintro e w6 ⟨v3, ts, kd, o3, hts, hkd, rfl, b6⟩
  obtain ⟨a3, c3, rfl, s3⟩ := o3.tokF
  have S1 := Lib.hid ((S1b.out.kept (BA.out _)).kept b6)
  have S0c := Lib.hid ((S0.out.kept (BA.out _)).kept b6)
  have LS : LwS w6 w5.heap.size ⟨tk, tt, tn, tl⟩ (w5.heap.size + 1) a3 ts.length (fun j => ts.getD j default) w6 := ⟨BX.out.of fun o => b6.cell (p := ⟨w5.heap.size, o, none⟩) (by simp), by simpa using s3, Below.refl _ _⟩
  have BL6 := Lib.hid ((BL5.out.trans ((BA.out _).mono BL5.out.size)).trans (b6.mono (by have := BL5.out.size; simp; omega)))
  clear o3 s3 b6 S1b S0 BX BL1 BL2 BL3 BL4 BL5
  have BL := BL6
  clear BL6
  have AGX : Hid (∀ T : ByteArray, T.data.toList = TX xs → T.size ≤ 4000 → (lexB T).2 = 0 ∧ (lexB T).1.map core = xs.map core) := Lib.hid (by
    by_cases hq : q = 0
    · exact GA.out hq
    · have hx : xs = [] := GB.out.2 hq
      intro T hT hl
      rw [hx] at hT ⊢
      have h := lx_again [] (fun j h => absurd h (by simp)) T hT 0 0 (T.size + 1) 1 [] rfl (Nat.zero_le _) (by simp [TX]) rfl
      rw [show lexB T = lx T (T.size + 1) 0 1 [] from if_neg (by omega)]
      simpa [TX] using h)
  clear GA
  by_cases hq : q = 0
  · have nq : (q == 0) = true := by simpa using hq
    have HQ0 := Lib.hid hq
    clear hq
    go_wp2_with fail
    refine wp_region_held_drew (S := fun w' => LwS w6 w5.heap.size ⟨tk, tt, tn, tl⟩ (w5.heap.size + 1) a3 ts.length (fun j => ts.getD j default) w') (by kernel_rfl) (LwS.drew LS) (fun hHeld => ?_)
    refine wpAnyH_take (i := 0) (v := .slice a1 xs.length c1) rfl (by kernel_rfl) (by kernel_rfl) (by kernel_rfl) (fun _ _ _ h => h) (Or.inl ⟨by kernel_rfl, fun w hSw => by go_simp⟩) (by assumption) ?_
    try simp only [List.getElem_toArray, List.getElem_cons_zero, Act.put, List.setIfInBounds_toArray, List.set_cons_zero, List.set_cons_succ]
    refine wpAnyH_take (i := 1) (v := .int .i64 (xs.length : Int)) rfl (by kernel_rfl) (by kernel_rfl) (by kernel_rfl) (fun _ _ _ h => h) (Or.inl ⟨by kernel_rfl, fun w hSw => by go_simp⟩) (by assumption) ?_
    try simp only [List.getElem_toArray, List.getElem_cons_zero, List.getElem_cons_succ, Act.put, List.setIfInBounds_toArray, List.set_cons_zero, List.set_cons_succ]
    refine wpAnyH_take (i := 2) (v := .slice a0 xs.length c0) rfl (by kernel_rfl) (by kernel_rfl) (by kernel_rfl) (fun _ _ _ h => h) (Or.inl ⟨by kernel_rfl, fun w hSw => by go_simp⟩) (by assumption) ?_
    try simp only [List.getElem_toArray, List.getElem_cons_zero, List.getElem_cons_succ, Act.put, List.setIfInBounds_toArray, List.set_cons_zero, List.set_cons_succ]
    refine wpAnyH_take (i := 3) (v := .int .i64 (xs.length : Int)) rfl (by kernel_rfl) (by kernel_rfl) (by kernel_rfl) (fun _ _ _ h => h) (Or.inl ⟨by kernel_rfl, fun w hSw => by go_simp⟩) (by assumption) ?_
    try simp only [List.getElem_toArray, List.getElem_cons_zero, List.getElem_cons_succ, Act.put, List.setIfInBounds_toArray, List.set_cons_zero, List.set_cons_succ]
    refine wpAnyH_take (i := 4) (v := .bool false) rfl (by kernel_rfl) (by kernel_rfl) (by kernel_rfl) (fun _ _ _ h => h) (Or.inl ⟨by kernel_rfl, fun w hSw => by go_simp⟩) (by assumption) ?_
    try simp only [List.getElem_toArray, List.getElem_cons_zero, List.getElem_cons_succ, Act.put, List.setIfInBounds_toArray, List.set_cons_zero, List.set_cons_succ]
    refine wpAnyH_take (i := 5) (v := .bool false) rfl (by kernel_rfl) (by kernel_rfl) (by kernel_rfl) (fun _ _ _ h => h) (Or.inl ⟨by kernel_rfl, fun w hSw => by go_simp⟩) (by assumption) ?_
    try simp only [List.getElem_toArray, List.getElem_cons_zero, List.getElem_cons_succ, Act.put, List.setIfInBounds_toArray, List.set_cons_zero, List.set_cons_succ]
    refine wpAnyH_take (i := 6) (v := .int .i64 q) rfl (by kernel_rfl) (by kernel_rfl) (by kernel_rfl) (fun _ _ _ h => h) (Or.inl ⟨by kernel_rfl, fun w hSw => by go_simp⟩) (by assumption) ?_
    try simp only [List.getElem_toArray, List.getElem_cons_zero, List.getElem_cons_succ, Act.put, List.setIfInBounds_toArray, List.set_cons_zero, List.set_cons_succ]
    refine wpAnyH_take (i := 7) (v := .int .i64 q) rfl (by kernel_rfl) (by kernel_rfl) (by kernel_rfl) (fun _ _ _ h => h) (Or.inl ⟨by kernel_rfl, fun w hSw => by go_simp⟩) (by assumption) ?_
    try simp only [List.getElem_toArray, List.getElem_cons_zero, List.getElem_cons_succ, Act.put, List.setIfInBounds_toArray, List.set_cons_zero, List.set_cons_succ]
    refine wpAnyH_take (i := 8) (v := .bool false) rfl (by kernel_rfl) (by kernel_rfl) (by kernel_rfl) (fun _ _ _ h => h) (Or.inl ⟨by kernel_rfl, fun w hSw => by go_simp⟩) (by assumption) ?_
    try simp only [List.getElem_toArray, List.getElem_cons_zero, List.getElem_cons_succ, Act.put, List.setIfInBounds_toArray, List.set_cons_zero, List.set_cons_succ]
    refine wpAnyH_take (i := 9) (v := .bool false) rfl (by kernel_rfl) (by kernel_rfl) (by kernel_rfl) (fun _ _ _ h => h) (Or.inl ⟨by kernel_rfl, fun w hSw => by go_simp⟩) (by assumption) ?_
    try simp only [List.getElem_toArray, List.getElem_cons_zero, List.getElem_cons_succ, Act.put, List.setIfInBounds_toArray, List.set_cons_zero, List.set_cons_succ]
    refine wpAnyH_take (i := 10) (v := .bool false) rfl (by kernel_rfl) (by kernel_rfl) (by kernel_rfl) (fun _ _ _ h => h) (Or.inl ⟨by kernel_rfl, fun w hSw => by go_simp⟩) (by assumption) ?_
    try simp only [List.getElem_toArray, List.getElem_cons_zero, List.getElem_cons_succ, Act.put, List.setIfInBounds_toArray, List.set_cons_zero, List.set_cons_succ]
    refine wpAnyH_take (i := 11) (v := .string kk) rfl (by kernel_rfl) (by kernel_rfl) (by kernel_rfl) (fun _ _ _ h => h) (Or.inl ⟨by kernel_rfl, fun w hSw => by go_simp⟩) (by assumption) ?_
    try simp only [List.getElem_toArray, List.getElem_cons_zero, List.getElem_cons_succ, Act.put, List.setIfInBounds_toArray, List.set_cons_zero, List.set_cons_succ]
    refine wpAnyH_take (i := 13) (v := .string kk) rfl (by kernel_rfl) (by kernel_rfl) (by kernel_rfl) (fun _ _ _ h => h) (Or.inl ⟨by kernel_rfl, fun w hSw => by go_simp⟩) (by assumption) ?_
    try simp only [List.getElem_toArray, List.getElem_cons_zero, List.getElem_cons_succ, Act.put, List.setIfInBounds_toArray, List.set_cons_zero, List.set_cons_succ]
    refine wpAnyH_ready (rs := [12]) (by kernel_rfl) (by simp) ?_
    refine AllReadyH.cons rfl (fun K hK => ?_) AllReadyH.nil
    go_simp
    refine (implIsKey_any kk _).mono ?_; rintro e wz ⟨rfl, rfl⟩
    go_wp2_with fail
    refine hK.out _ _ (by assumption) (fun hHeld => ?_)
    clear hK K
    try simp only [List.getElem_toArray, List.getElem_cons_zero, List.getElem_cons_succ, Act.put, List.setIfInBounds_toArray, List.set_cons_zero, List.set_cons_succ]
    refine wpAnyH_ready (rs := [14]) (by kernel_rfl) (by simp) ?_
    refine AllReadyH.cons rfl (fun K hK => ?_) AllReadyH.nil
    go_simp
    refine (specIsKey_any kk _).mono ?_; rintro e wz ⟨rfl, hb⟩
    go_wp2_with fail
    refine hK.out _ _ (LwS.step (by assumption) (by assumption)) (fun hHeld => ?_)
    clear hK K
    try simp only [List.getElem_toArray, List.getElem_cons_zero, List.getElem_cons_succ, Act.put, List.setIfInBounds_toArray, List.set_cons_zero, List.set_cons_succ]
    refine wpAnyH_take (i := 15) (v := .bool false) rfl (by kernel_rfl) (by kernel_rfl) (by kernel_rfl) (fun _ _ _ h => h) (Or.inl ⟨by kernel_rfl, fun w hSw => by go_simp⟩) (by assumption) ?_
    try simp only [List.getElem_toArray, List.getElem_cons_zero, List.getElem_cons_succ, Act.put, List.setIfInBounds_toArray, List.set_cons_zero, List.set_cons_succ]
    refine wpAnyH_take (i := 16) (v := .bool false) rfl (by kernel_rfl) (by kernel_rfl) (by kernel_rfl) (fun _ _ _ h => h) (Or.inl ⟨by kernel_rfl, fun w hSw => by go_simp⟩) (by assumption) ?_
    try simp only [List.getElem_toArray, List.getElem_cons_zero, List.getElem_cons_succ, Act.put, List.setIfInBounds_toArray, List.set_cons_zero, List.set_cons_succ]
    refine wpAnyH_take (i := 17) (v := .bool false) rfl (by kernel_rfl) (by kernel_rfl) (by kernel_rfl) (fun _ _ _ h => h) (Or.inl ⟨by kernel_rfl, fun w hSw => by go_simp⟩) (by assumption) ?_
    try simp only [List.getElem_toArray, List.getElem_cons_zero, List.getElem_cons_succ, Act.put, List.setIfInBounds_toArray, List.set_cons_zero, List.set_cons_succ]
    refine wpAnyH_take (i := 18) (v := .agg #[.int .i64 tk, .string tt, .int .i64 tn, .int .i64 tl]) rfl (by kernel_rfl) (by kernel_rfl) (by kernel_rfl) (fun _ _ _ h => h) (Or.inl ⟨by kernel_rfl, fun w hSw => by obtain ⟨⟨z0, z1, z2, z3⟩, _, _⟩ := hSw; simp only [Nat.zero_add] at z1 z2 z3; go_simp⟩) (by assumption) ?_
    try simp only [List.getElem_toArray, List.getElem_cons_zero, List.getElem_cons_succ, Act.put, List.setIfInBounds_toArray, List.set_cons_zero, List.set_cons_succ]
    refine wpAnyH_take (i := 20) (v := .agg #[.int .i64 tk, .string tt, .int .i64 tn, .int .i64 tl]) rfl (by kernel_rfl) (by kernel_rfl) (by kernel_rfl) (fun _ _ _ h => h) (Or.inl ⟨by kernel_rfl, fun w hSw => by obtain ⟨⟨z0, z1, z2, z3⟩, _, _⟩ := hSw; simp only [Nat.zero_add] at z1 z2 z3; go_simp⟩) (by assumption) ?_
    try simp only [List.getElem_toArray, List.getElem_cons_zero, List.getElem_cons_succ, Act.put, List.setIfInBounds_toArray, List.set_cons_zero, List.set_cons_succ]
    refine wpAnyH_ready (rs := [19]) (by kernel_rfl) (by simp) ?_
    refine AllReadyH.cons rfl (fun K hK => ?_) AllReadyH.nil
    go_simp
    refine (CT.out _ (LwS.tab HT.out BL.out (by assumption))).mono ?_; rintro e wz ⟨rfl, hb⟩
    go_wp2_with fail
    refine hK.out _ _ (LwS.step (by assumption) (by assumption)) (fun hHeld => ?_)
    clear hK K
    try simp only [List.getElem_toArray, List.getElem_cons_zero, List.getElem_cons_succ, Act.put, List.setIfInBounds_toArray, List.set_cons_zero, List.set_cons_succ]
    refine wpAnyH_ready (rs := [21]) (by kernel_rfl) (by simp) ?_
    refine AllReadyH.cons rfl (fun K hK => ?_) AllReadyH.nil
    go_simp
    refine (CT2.out _).mono ?_; rintro e wz ⟨rfl, hb⟩
    go_wp2_with fail
    refine hK.out _ _ (LwS.step (by assumption) (by assumption)) (fun hHeld => ?_)
    clear hK K
    try simp only [List.getElem_toArray, List.getElem_cons_zero, List.getElem_cons_succ, Act.put, List.setIfInBounds_toArray, List.set_cons_zero, List.set_cons_succ]
    refine wpAnyH_take (i := 22) (v := .bool false) rfl (by kernel_rfl) (by kernel_rfl) (by kernel_rfl) (fun _ _ _ h => h) (Or.inl ⟨by kernel_rfl, fun w hSw => by go_simp⟩) (by assumption) ?_
    try simp only [List.getElem_toArray, List.getElem_cons_zero, List.getElem_cons_succ, Act.put, List.setIfInBounds_toArray, List.set_cons_zero, List.set_cons_succ]
    refine wpAnyH_take (i := 23) (v := .bool false) rfl (by kernel_rfl) (by kernel_rfl) (by kernel_rfl) (fun _ _ _ h => h) (Or.inl ⟨by kernel_rfl, fun w hSw => by go_simp⟩) (by assumption) ?_
    try simp only [List.getElem_toArray, List.getElem_cons_zero, List.getElem_cons_succ, Act.put, List.setIfInBounds_toArray, List.set_cons_zero, List.set_cons_succ]
    refine wpAnyH_take (i := 24) (v := .bool false) rfl (by kernel_rfl) (by kernel_rfl) (by kernel_rfl) (fun _ _ _ h => h) (Or.inl ⟨by kernel_rfl, fun w hSw => by go_simp⟩) (by assumption) ?_
    try simp only [List.getElem_toArray, List.getElem_cons_zero, List.getElem_cons_succ, Act.put, List.setIfInBounds_toArray, List.set_cons_zero, List.set_cons_succ]
    refine wpAnyH_take (i := 25) (v := .slice a3 ts.length c3) rfl (by kernel_rfl) (by kernel_rfl) (by kernel_rfl) (fun _ _ _ h => h) (Or.inl ⟨by kernel_rfl, fun w hSw => by go_simp⟩) (by assumption) ?_
    try simp only [List.getElem_toArray, List.getElem_cons_zero, List.getElem_cons_succ, Act.put, List.setIfInBounds_toArray, List.set_cons_zero, List.set_cons_succ]
    refine wpAnyH_take (i := 26) (v := .int .i64 kd) rfl (by kernel_rfl) (by kernel_rfl) (by kernel_rfl) (fun _ _ _ h => h) (Or.inl ⟨by kernel_rfl, fun w hSw => by go_simp⟩) (by assumption) ?_
    try simp only [List.getElem_toArray, List.getElem_cons_zero, List.getElem_cons_succ, Act.put, List.setIfInBounds_toArray, List.set_cons_zero, List.set_cons_succ]
    refine wpAnyH_take (i := 28) (v := .slice a3 ts.length c3) rfl (by kernel_rfl) (by kernel_rfl) (by kernel_rfl) (fun _ _ _ h => h) (Or.inl ⟨by kernel_rfl, fun w hSw => by go_simp⟩) (by assumption) ?_
    try simp only [List.getElem_toArray, List.getElem_cons_zero, List.getElem_cons_succ, Act.put, List.setIfInBounds_toArray, List.set_cons_zero, List.set_cons_succ]
    refine wpAnyH_take (i := 29) (v := .int .i64 kd) rfl (by kernel_rfl) (by kernel_rfl) (by kernel_rfl) (fun _ _ _ h => h) (Or.inl ⟨by kernel_rfl, fun w hSw => by go_simp⟩) (by assumption) ?_
    try simp only [List.getElem_toArray, List.getElem_cons_zero, List.getElem_cons_succ, Act.put, List.setIfInBounds_toArray, List.set_cons_zero, List.set_cons_succ]
    refine wpAnyH_ready (rs := [27]) (by kernel_rfl) (by simp) ?_
    refine AllReadyH.cons rfl (fun K hK => ?_) AllReadyH.nil
    go_simp
    refine (implCount_any _ a3 c3 ts.length _ kd _ (by omega) (LwS.l (by assumption))).mono ?_; rintro e wz ⟨rfl, hb⟩
    go_wp2_with fail
    refine hK.out _ _ (LwS.step (by assumption) (by assumption)) (fun hHeld => ?_)
    clear hK K
    try simp only [List.getElem_toArray, List.getElem_cons_zero, List.getElem_cons_succ, Act.put, List.setIfInBounds_toArray, List.set_cons_zero, List.set_cons_succ]
    refine wpAnyH_ready (rs := [30]) (by kernel_rfl) (by simp) ?_
    refine AllReadyH.cons rfl (fun K hK => ?_) AllReadyH.nil
    go_simp
    refine (specCount_any _ a3 c3 ts.length _ kd _ (by omega) (LwS.l (by assumption))).mono ?_; rintro e wz ⟨rfl, hb⟩
    go_wp2_with fail
    refine hK.out _ _ (LwS.step (by assumption) (by assumption)) (fun hHeld => ?_)
    clear hK K
    try simp only [List.getElem_toArray, List.getElem_cons_zero, List.getElem_cons_succ, Act.put, List.setIfInBounds_toArray, List.set_cons_zero, List.set_cons_succ]
    refine wpAnyH_take (i := 31) (v := .bool false) rfl (by kernel_rfl) (by kernel_rfl) (by kernel_rfl) (fun _ _ _ h => h) (Or.inl ⟨by kernel_rfl, fun w hSw => by go_simp⟩) (by assumption) ?_
    try simp only [List.getElem_toArray, List.getElem_cons_zero, List.getElem_cons_succ, Act.put, List.setIfInBounds_toArray, List.set_cons_zero, List.set_cons_succ]
    refine wpAnyH_take (i := 32) (v := .bool false) rfl (by kernel_rfl) (by kernel_rfl) (by kernel_rfl) (fun _ _ _ h => h) (Or.inl ⟨by kernel_rfl, fun w hSw => by go_simp⟩) (by assumption) ?_
    try simp only [List.getElem_toArray, List.getElem_cons_zero, List.getElem_cons_succ, Act.put, List.setIfInBounds_toArray, List.set_cons_zero, List.set_cons_succ]
    refine wpAnyH_take (i := 33) (v := .bool false) rfl (by kernel_rfl) (by kernel_rfl) (by kernel_rfl) (fun _ _ _ h => h) (Or.inl ⟨by kernel_rfl, fun w hSw => by go_simp⟩) (by assumption) ?_
    try simp only [List.getElem_toArray, List.getElem_cons_zero, List.getElem_cons_succ, Act.put, List.setIfInBounds_toArray, List.set_cons_zero, List.set_cons_succ]
    refine wpAnyH_take (i := 34) (v := .int .i64 q) rfl (by kernel_rfl) (by kernel_rfl) (by kernel_rfl) (fun _ _ _ h => h) (Or.inl ⟨by kernel_rfl, fun w hSw => by go_simp⟩) (by assumption) ?_
    try simp only [List.getElem_toArray, List.getElem_cons_zero, List.getElem_cons_succ, Act.put, List.setIfInBounds_toArray, List.set_cons_zero, List.set_cons_succ]
    refine wpAnyH_take (i := 35) (v := .bool false) rfl (by kernel_rfl) (by kernel_rfl) (by kernel_rfl) (fun _ _ _ h => h) (Or.inl ⟨by kernel_rfl, fun w hSw => by go_simp; exact HQ0.out⟩) (by assumption) ?_
    try simp only [List.getElem_toArray, List.getElem_cons_zero, List.getElem_cons_succ, Act.put, List.setIfInBounds_toArray, List.set_cons_zero, List.set_cons_succ]
    refine wpAnyH_take (i := 36) (v := .bool false) rfl (by kernel_rfl) (by kernel_rfl) (by kernel_rfl) (fun _ _ _ h => h) (Or.inl ⟨by kernel_rfl, fun w hSw => by go_simp⟩) (by assumption) ?_
    try simp only [List.getElem_toArray, List.getElem_cons_zero, List.getElem_cons_succ, Act.put, List.setIfInBounds_toArray, List.set_cons_zero, List.set_cons_succ]
    refine wpAnyH_take (i := 37) (v := undef) rfl (by kernel_rfl) (by kernel_rfl) (by kernel_rfl) (fun _ _ _ h => h) (Or.inr ⟨by kernel_rfl, rfl⟩) (by assumption) ?_
    try simp only [List.getElem_toArray, List.getElem_cons_zero, List.getElem_cons_succ, Act.put, List.setIfInBounds_toArray, List.set_cons_zero, List.set_cons_succ]
    refine wpAnyH_take (i := 38) (v := undef) rfl (by kernel_rfl) (by kernel_rfl) (by kernel_rfl) (fun _ _ _ h => h) (Or.inr ⟨by kernel_rfl, rfl⟩) (by assumption) ?_
    try simp only [List.getElem_toArray, List.getElem_cons_zero, List.getElem_cons_succ, Act.put, List.setIfInBounds_toArray, List.set_cons_zero, List.set_cons_succ]
    refine wpAnyH_take (i := 39) (v := undef) rfl (by kernel_rfl) (by kernel_rfl) (by kernel_rfl) (fun _ _ _ h => h) (Or.inr ⟨by kernel_rfl, rfl⟩) (by assumption) ?_
    try simp only [List.getElem_toArray, List.getElem_cons_zero, List.getElem_cons_succ, Act.put, List.setIfInBounds_toArray, List.set_cons_zero, List.set_cons_succ]
    refine wpAnyH_take (i := 40) (v := .bool false) rfl (by kernel_rfl) (by kernel_rfl) (by kernel_rfl) (fun _ _ _ h => h) (Or.inl ⟨by kernel_rfl, fun w hSw => by go_simp⟩) (by assumption) ?_
    try simp only [List.getElem_toArray, List.getElem_cons_zero, List.getElem_cons_succ, Act.put, List.setIfInBounds_toArray, List.set_cons_zero, List.set_cons_succ]
    refine wpAnyH_take (i := 41) (v := .bool false) rfl (by kernel_rfl) (by kernel_rfl) (by kernel_rfl) (fun _ _ _ h => h) (Or.inl ⟨by kernel_rfl, fun w hSw => by go_simp⟩) (by assumption) ?_
    try simp only [List.getElem_toArray, List.getElem_cons_zero, List.getElem_cons_succ, Act.put, List.setIfInBounds_toArray, List.set_cons_zero, List.set_cons_succ]
    refine wpAnyH_done (by kernel_rfl) ?_ _
    have BF := Lib.hid (BL.out.trans (hHeld.bel.mono BL.out.size))
    have F1 := Lib.hid (S1.out.kept hHeld.bel)
    have F0 := Lib.hid (S0c.out.kept hHeld.bel)
    clear S1 S0c hHeld
    have hTX := TX_len xs
    have hGS : sumS xs ≤ 4000 := GS.out
    go_wp2_with fail
    go_loopw [12, 13] (fun v i wr => ∃ k : Nat, k ≤ xs.length ∧ i = .int .i64 (k : Int) ∧ v = .string ⟨(TX (xs.take k)).toArray⟩ ∧ Below wz.heap.size wz wr) (fun _ i _ => xs.length - (intOf i).toNat)
    case atStart => exact ⟨0, Nat.zero_le _, rfl, rfl, Below.refl _ _⟩
    case round =>
      obtain ⟨k, hk, rfl, rfl, hb⟩ := hrel
      have HB := Lib.hid hb
      have hzz := hb.size
      clear hb
      by_cases hlt : k < xs.length
      · obtain ⟨g, rfl, hg1, hg2, ⟨e0, e1, e2, e3⟩, hg4⟩ := (F1.out.kept HB.out) k hlt
        obtain ⟨g', rfl, hg1', hg2', ⟨d0, d1, d2, d3⟩, hg4'⟩ := (F0.out.kept HB.out) k hlt
        have hT := TX_snoc xs k hlt
        have hb1 := TX_take_le xs (k + 1)
        rw [hT, List.length_append, List.length_append, List.length_singleton] at hb1
        have hmem : (xs.getD k default).s.size ≤ 4000 := GT.out _ (by show xs.getD k default ∈ xs; rw [List.getD_eq_getElem?_getD, List.getElem?_eq_getElem hlt]; exact List.getElem_mem hlt)
        have HE := Lib.hid hT
        clear hT hg4 hg4'
        replace e0 : _ = some (Value.int .i64 (xs.getD k default).k) := e0
        replace e1 : _ = some (Value.string (xs.getD k default).s) := e1
        replace e2 : _ = some (Value.int .i64 (xs.getD k default).n) := e2
        replace e3 : _ = some (Value.int .i64 (xs.getD k default).l) := e3
        replace d0 : _ = some (Value.int .i64 (xs.getD k default).k) := d0
        replace d1 : _ = some (Value.string (xs.getD k default).s) := d1
        replace d2 : _ = some (Value.int .i64 (xs.getD k default).n) := d2
        replace d3 : _ = some (Value.int .i64 (xs.getD k default).l) := d3
        generalize xs.getD k default = t at *
        have CTk := Lib.hid (fun W (h : Tab W) => implTt_any t W (by omega) h)
        have tl4 : (ttx t).data.toList.length = (ttx t).size := by simp
        rw [tl4] at hb1
        generalize ttx t = z at *
        obtain ⟨uk, us, un, ul⟩ := t
        unfold kit.Tok.v at CTk
        simp only at e0 e1 e2 e3 d0 d1 d2 d3 CTk
        generalize TX (xs.take k) = A at *
        have hq1 : ¬ 9223372036854775807 < A.length + z.size := by omega
        have hq2 : ¬ 9223372036854775807 < A.length + z.size + 1 := by omega
        have i0 : (0 : Int) ≤ (k : Int) := by omega
        have i1 : (k : Int) < (xs.length : Int) := by omega
        go_wp2_with fail
        go_quiet (fail)
        go_wp2_with fail
        refine (CTk.out _ (((HT.out.on BF.out).on HB.out).on (below_drewN _ _))).mono ?_
        rintro e wy ⟨rfl, hb2⟩
        have HB2 : Hid (Below wz.heap.size wz wy) := Lib.hid (HB.out.trans (((below_drewN wr _).trans hb2).mono hzz))
        clear hb2
        go_wp2_with fail
        go_roundw
        case rel => exact ⟨k + 1, by omega, by go_num, by rw [HE.out]; exact congrArg Value.string (by apply ByteArray.ext; simp), HB2.out⟩
        case measure => simp [intOf]; omega
      · obtain rfl : k = xs.length := by omega
        rw [List.take_length]
        have hTs : (⟨(TX xs).toArray⟩ : ByteArray).size = (TX xs).length := by simp [ByteArray.size]
        have HG2 := AGX.out ⟨(TX xs).toArray⟩ (by simp)
        obtain ⟨T, hT⟩ : ∃ T : ByteArray, T = ⟨(TX xs).toArray⟩ := ⟨_, rfl⟩
        rw [← hT] at HG2 hTs ⊢
        have hT4 : T.size ≤ 200000 := by omega
        clear hT hTs hTX hGS
        have CI2 := Lib.hid (fun W (h : Sig W) => implLex_any T W (by omega) h)
        generalize lexB T = r at *
        obtain ⟨ys, p⟩ := r
        by_cases hbig : T.size ≤ 4000
        · obtain ⟨q1, q2⟩ := HG2 hbig
          simp only at q1 q2
          subst q1
          have hyl : ys.length = xs.length := by simpa using congrArg List.length q2
          have HQ := Lib.hid q2
          clear q2 HG2
          have d4 : decide (4000 < T.size) = false := by simp; omega
          have d5 : decide ((4000 : Int) < (T.size : Int)) = false := by simp; omega
          go_wp2_with fail
          refine (CI2.out _ ((HG.out.on BF.out).on HB.out)).mono ?_
          rintro e w7 ⟨v4, rfl, o4, b7⟩
          obtain ⟨a4, c4, rfl, s4⟩ := o4.tokF
          simp only at *
          rw [hyl] at s4 ⊢
          have F4 := Lib.hid s4
          have F1b := Lib.hid ((F1.out.kept HB.out).kept b7)
          have HB3 := Lib.hid (BF.out.trans ((HB.out.trans (b7.mono HB.out.size)).mono BF.out.size))
          clear o4 s4 b7
          go_wp2_with fail
          go_loopw [16] (fun i wr2 => ∃ j : Nat, j ≤ xs.length ∧ i = .int .i64 (j : Int) ∧ Below w7.heap.size w7 wr2) (fun i _ => xs.length - (intOf i).toNat)
          case atStart => exact ⟨0, Nat.zero_le _, rfl, Below.refl _ _⟩
          case round =>
            obtain ⟨j, hj, rfl, hb7⟩ := hrel
            have HB4 := Lib.hid hb7
            clear hb7
            by_cases hlt : j < xs.length
            · obtain ⟨g, rfl, hg1, hg2, ⟨e0, e1, e2, e3⟩, hg4⟩ := (F1b.out.kept HB4.out) j hlt
              obtain ⟨g', rfl, hg1', hg2', ⟨d0, d1, d2, d3⟩, hg4'⟩ := (F4.out.kept HB4.out) j hlt
              clear hg4 hg4'
              have hco : core (ys.getD j default) = core (xs.getD j default) := by
                have h1 := congrArg (fun l => l.getD j default) HQ.out
                have l1 : j < ys.length := by omega
                simpa [List.getD_eq_getElem?_getD, List.getElem?_eq_getElem l1, List.getElem?_eq_getElem hlt] using h1
              replace e0 : _ = some (Value.int .i64 (xs.getD j default).k) := e0
              replace e1 : _ = some (Value.string (xs.getD j default).s) := e1
              replace e2 : _ = some (Value.int .i64 (xs.getD j default).n) := e2
              replace d0 : _ = some (Value.int .i64 (ys.getD j default).k) := d0
              replace d1 : _ = some (Value.string (ys.getD j default).s) := d1
              replace d2 : _ = some (Value.int .i64 (ys.getD j default).n) := d2
              clear e3 d3
              generalize xs.getD j default = t at *
              generalize ys.getD j default = u at *
              obtain ⟨uk, us, un, ul⟩ := t
              obtain ⟨vk, vs, vn, vl⟩ := u
              unfold core at hco
              simp only [kit.Tok.mk.injEq] at hco e0 e1 e2 d0 d1 d2
              obtain ⟨rfl, rfl, rfl, _⟩ := hco
              have i0 : (0 : Int) ≤ (j : Int) := by omega
              have i1 : (j : Int) < (xs.length : Int) := by omega
              go_wp2_with fail
              go_quiet (fail)
              go_wp2_with fail
              go_roundw
              case rel => exact ⟨j + 1, by omega, by go_num, HB4.out.trans ((below_drewN _ _).mono HB4.out.size)⟩
              case measure => simp [intOf]; omega
            · obtain rfl : j = xs.length := by omega
              go_wp2_with fail
              go_ret
              exact ⟨rfl, HB3.out.trans (HB4.out.mono HB3.out.size)⟩
        · have d4 : decide (4000 < T.size) = true := by simp; omega
          have d5 : decide ((4000 : Int) < (T.size : Int)) = true := by simp; omega
          clear HG2
          go_wp2_with fail
          refine (CI2.out _ ((HG.out.on BF.out).on HB.out)).mono ?_
          rintro e w7 ⟨v4, rfl, o4, b7⟩
          have HB3 := Lib.hid (BF.out.trans ((HB.out.trans (b7.mono HB.out.size)).mono BF.out.size))
          clear o4 b7
          simp only at *
          go_wp2_with fail
          go_ret
          exact ⟨rfl, HB3.out⟩
  · have nq : (q == 0) = false := by simpa using hq
    have hx0 : xs = [] := GB.out.2 hq
    have hl0 : ¬ (0 : Int) < (xs.length : Int) := by rw [hx0]; decide
    have HX0 := Lib.hid hx0
    clear hx0
    go_wp2_with fail
    refine wp_region_held_drew (S := fun w' => LwS w6 w5.heap.size ⟨tk, tt, tn, tl⟩ (w5.heap.size + 1) a3 ts.length (fun j => ts.getD j default) w') (by kernel_rfl) (LwS.drew LS) (fun hHeld => ?_)
    refine wpAnyH_take (i := 0) (v := .slice a1 xs.length c1) rfl (by kernel_rfl) (by kernel_rfl) (by kernel_rfl) (fun _ _ _ h => h) (Or.inl ⟨by kernel_rfl, fun w hSw => by go_simp⟩) (by assumption) ?_
    try simp only [List.getElem_toArray, List.getElem_cons_zero, Act.put, List.setIfInBounds_toArray, List.set_cons_zero, List.set_cons_succ]
    refine wpAnyH_take (i := 1) (v := .int .i64 (xs.length : Int)) rfl (by kernel_rfl) (by kernel_rfl) (by kernel_rfl) (fun _ _ _ h => h) (Or.inl ⟨by kernel_rfl, fun w hSw => by go_simp⟩) (by assumption) ?_
    try simp only [List.getElem_toArray, List.getElem_cons_zero, List.getElem_cons_succ, Act.put, List.setIfInBounds_toArray, List.set_cons_zero, List.set_cons_succ]
    refine wpAnyH_take (i := 2) (v := .slice a0 xs.length c0) rfl (by kernel_rfl) (by kernel_rfl) (by kernel_rfl) (fun _ _ _ h => h) (Or.inl ⟨by kernel_rfl, fun w hSw => by go_simp⟩) (by assumption) ?_
    try simp only [List.getElem_toArray, List.getElem_cons_zero, List.getElem_cons_succ, Act.put, List.setIfInBounds_toArray, List.set_cons_zero, List.set_cons_succ]
    refine wpAnyH_take (i := 3) (v := .int .i64 (xs.length : Int)) rfl (by kernel_rfl) (by kernel_rfl) (by kernel_rfl) (fun _ _ _ h => h) (Or.inl ⟨by kernel_rfl, fun w hSw => by go_simp⟩) (by assumption) ?_
    try simp only [List.getElem_toArray, List.getElem_cons_zero, List.getElem_cons_succ, Act.put, List.setIfInBounds_toArray, List.set_cons_zero, List.set_cons_succ]
    refine wpAnyH_take (i := 4) (v := .bool false) rfl (by kernel_rfl) (by kernel_rfl) (by kernel_rfl) (fun _ _ _ h => h) (Or.inl ⟨by kernel_rfl, fun w hSw => by go_simp⟩) (by assumption) ?_
    try simp only [List.getElem_toArray, List.getElem_cons_zero, List.getElem_cons_succ, Act.put, List.setIfInBounds_toArray, List.set_cons_zero, List.set_cons_succ]
    refine wpAnyH_take (i := 5) (v := .bool false) rfl (by kernel_rfl) (by kernel_rfl) (by kernel_rfl) (fun _ _ _ h => h) (Or.inl ⟨by kernel_rfl, fun w hSw => by go_simp⟩) (by assumption) ?_
    try simp only [List.getElem_toArray, List.getElem_cons_zero, List.getElem_cons_succ, Act.put, List.setIfInBounds_toArray, List.set_cons_zero, List.set_cons_succ]
    refine wpAnyH_take (i := 6) (v := .int .i64 q) rfl (by kernel_rfl) (by kernel_rfl) (by kernel_rfl) (fun _ _ _ h => h) (Or.inl ⟨by kernel_rfl, fun w hSw => by go_simp⟩) (by assumption) ?_
    try simp only [List.getElem_toArray, List.getElem_cons_zero, List.getElem_cons_succ, Act.put, List.setIfInBounds_toArray, List.set_cons_zero, List.set_cons_succ]
    refine wpAnyH_take (i := 7) (v := .int .i64 q) rfl (by kernel_rfl) (by kernel_rfl) (by kernel_rfl) (fun _ _ _ h => h) (Or.inl ⟨by kernel_rfl, fun w hSw => by go_simp⟩) (by assumption) ?_
    try simp only [List.getElem_toArray, List.getElem_cons_zero, List.getElem_cons_succ, Act.put, List.setIfInBounds_toArray, List.set_cons_zero, List.set_cons_succ]
    refine wpAnyH_take (i := 8) (v := .bool false) rfl (by kernel_rfl) (by kernel_rfl) (by kernel_rfl) (fun _ _ _ h => h) (Or.inl ⟨by kernel_rfl, fun w hSw => by go_simp⟩) (by assumption) ?_
    try simp only [List.getElem_toArray, List.getElem_cons_zero, List.getElem_cons_succ, Act.put, List.setIfInBounds_toArray, List.set_cons_zero, List.set_cons_succ]
    refine wpAnyH_take (i := 9) (v := .bool false) rfl (by kernel_rfl) (by kernel_rfl) (by kernel_rfl) (fun _ _ _ h => h) (Or.inl ⟨by kernel_rfl, fun w hSw => by go_simp⟩) (by assumption) ?_
    try simp only [List.getElem_toArray, List.getElem_cons_zero, List.getElem_cons_succ, Act.put, List.setIfInBounds_toArray, List.set_cons_zero, List.set_cons_succ]
    refine wpAnyH_take (i := 10) (v := .bool false) rfl (by kernel_rfl) (by kernel_rfl) (by kernel_rfl) (fun _ _ _ h => h) (Or.inl ⟨by kernel_rfl, fun w hSw => by go_simp⟩) (by assumption) ?_
    try simp only [List.getElem_toArray, List.getElem_cons_zero, List.getElem_cons_succ, Act.put, List.setIfInBounds_toArray, List.set_cons_zero, List.set_cons_succ]
    refine wpAnyH_take (i := 11) (v := .string kk) rfl (by kernel_rfl) (by kernel_rfl) (by kernel_rfl) (fun _ _ _ h => h) (Or.inl ⟨by kernel_rfl, fun w hSw => by go_simp⟩) (by assumption) ?_
    try simp only [List.getElem_toArray, List.getElem_cons_zero, List.getElem_cons_succ, Act.put, List.setIfInBounds_toArray, List.set_cons_zero, List.set_cons_succ]
    refine wpAnyH_take (i := 13) (v := .string kk) rfl (by kernel_rfl) (by kernel_rfl) (by kernel_rfl) (fun _ _ _ h => h) (Or.inl ⟨by kernel_rfl, fun w hSw => by go_simp⟩) (by assumption) ?_
    try simp only [List.getElem_toArray, List.getElem_cons_zero, List.getElem_cons_succ, Act.put, List.setIfInBounds_toArray, List.set_cons_zero, List.set_cons_succ]
    refine wpAnyH_ready (rs := [12]) (by kernel_rfl) (by simp) ?_
    refine AllReadyH.cons rfl (fun K hK => ?_) AllReadyH.nil
    go_simp
    refine (implIsKey_any kk _).mono ?_; rintro e wz ⟨rfl, rfl⟩
    go_wp2_with fail
    refine hK.out _ _ (by assumption) (fun hHeld => ?_)
    clear hK K
    try simp only [List.getElem_toArray, List.getElem_cons_zero, List.getElem_cons_succ, Act.put, List.setIfInBounds_toArray, List.set_cons_zero, List.set_cons_succ]
    refine wpAnyH_ready (rs := [14]) (by kernel_rfl) (by simp) ?_
    refine AllReadyH.cons rfl (fun K hK => ?_) AllReadyH.nil
    go_simp
    refine (specIsKey_any kk _).mono ?_; rintro e wz ⟨rfl, hb⟩
    go_wp2_with fail
    refine hK.out _ _ (LwS.step (by assumption) (by assumption)) (fun hHeld => ?_)
    clear hK K
    try simp only [List.getElem_toArray, List.getElem_cons_zero, List.getElem_cons_succ, Act.put, List.setIfInBounds_toArray, List.set_cons_zero, List.set_cons_succ]
    refine wpAnyH_take (i := 15) (v := .bool false) rfl (by kernel_rfl) (by kernel_rfl) (by kernel_rfl) (fun _ _ _ h => h) (Or.inl ⟨by kernel_rfl, fun w hSw => by go_simp⟩) (by assumption) ?_
    try simp only [List.getElem_toArray, List.getElem_cons_zero, List.getElem_cons_succ, Act.put, List.setIfInBounds_toArray, List.set_cons_zero, List.set_cons_succ]
    refine wpAnyH_take (i := 16) (v := .bool false) rfl (by kernel_rfl) (by kernel_rfl) (by kernel_rfl) (fun _ _ _ h => h) (Or.inl ⟨by kernel_rfl, fun w hSw => by go_simp⟩) (by assumption) ?_
    try simp only [List.getElem_toArray, List.getElem_cons_zero, List.getElem_cons_succ, Act.put, List.setIfInBounds_toArray, List.set_cons_zero, List.set_cons_succ]
    refine wpAnyH_take (i := 17) (v := .bool false) rfl (by kernel_rfl) (by kernel_rfl) (by kernel_rfl) (fun _ _ _ h => h) (Or.inl ⟨by kernel_rfl, fun w hSw => by go_simp⟩) (by assumption) ?_
    try simp only [List.getElem_toArray, List.getElem_cons_zero, List.getElem_cons_succ, Act.put, List.setIfInBounds_toArray, List.set_cons_zero, List.set_cons_succ]
    refine wpAnyH_take (i := 18) (v := .agg #[.int .i64 tk, .string tt, .int .i64 tn, .int .i64 tl]) rfl (by kernel_rfl) (by kernel_rfl) (by kernel_rfl) (fun _ _ _ h => h) (Or.inl ⟨by kernel_rfl, fun w hSw => by obtain ⟨⟨z0, z1, z2, z3⟩, _, _⟩ := hSw; simp only [Nat.zero_add] at z1 z2 z3; go_simp⟩) (by assumption) ?_
    try simp only [List.getElem_toArray, List.getElem_cons_zero, List.getElem_cons_succ, Act.put, List.setIfInBounds_toArray, List.set_cons_zero, List.set_cons_succ]
    refine wpAnyH_take (i := 20) (v := .agg #[.int .i64 tk, .string tt, .int .i64 tn, .int .i64 tl]) rfl (by kernel_rfl) (by kernel_rfl) (by kernel_rfl) (fun _ _ _ h => h) (Or.inl ⟨by kernel_rfl, fun w hSw => by obtain ⟨⟨z0, z1, z2, z3⟩, _, _⟩ := hSw; simp only [Nat.zero_add] at z1 z2 z3; go_simp⟩) (by assumption) ?_
    try simp only [List.getElem_toArray, List.getElem_cons_zero, List.getElem_cons_succ, Act.put, List.setIfInBounds_toArray, List.set_cons_zero, List.set_cons_succ]
    refine wpAnyH_ready (rs := [19]) (by kernel_rfl) (by simp) ?_
    refine AllReadyH.cons rfl (fun K hK => ?_) AllReadyH.nil
    go_simp
    refine (CT.out _ (LwS.tab HT.out BL.out (by assumption))).mono ?_; rintro e wz ⟨rfl, hb⟩
    go_wp2_with fail
    refine hK.out _ _ (LwS.step (by assumption) (by assumption)) (fun hHeld => ?_)
    clear hK K
    try simp only [List.getElem_toArray, List.getElem_cons_zero, List.getElem_cons_succ, Act.put, List.setIfInBounds_toArray, List.set_cons_zero, List.set_cons_succ]
    refine wpAnyH_ready (rs := [21]) (by kernel_rfl) (by simp) ?_
    refine AllReadyH.cons rfl (fun K hK => ?_) AllReadyH.nil
    go_simp
    refine (CT2.out _).mono ?_; rintro e wz ⟨rfl, hb⟩
    go_wp2_with fail
    refine hK.out _ _ (LwS.step (by assumption) (by assumption)) (fun hHeld => ?_)
    clear hK K
    try simp only [List.getElem_toArray, List.getElem_cons_zero, List.getElem_cons_succ, Act.put, List.setIfInBounds_toArray, List.set_cons_zero, List.set_cons_succ]
    refine wpAnyH_take (i := 22) (v := .bool false) rfl (by kernel_rfl) (by kernel_rfl) (by kernel_rfl) (fun _ _ _ h => h) (Or.inl ⟨by kernel_rfl, fun w hSw => by go_simp⟩) (by assumption) ?_
    try simp only [List.getElem_toArray, List.getElem_cons_zero, List.getElem_cons_succ, Act.put, List.setIfInBounds_toArray, List.set_cons_zero, List.set_cons_succ]
    refine wpAnyH_take (i := 23) (v := .bool false) rfl (by kernel_rfl) (by kernel_rfl) (by kernel_rfl) (fun _ _ _ h => h) (Or.inl ⟨by kernel_rfl, fun w hSw => by go_simp⟩) (by assumption) ?_
    try simp only [List.getElem_toArray, List.getElem_cons_zero, List.getElem_cons_succ, Act.put, List.setIfInBounds_toArray, List.set_cons_zero, List.set_cons_succ]
    refine wpAnyH_take (i := 24) (v := .bool false) rfl (by kernel_rfl) (by kernel_rfl) (by kernel_rfl) (fun _ _ _ h => h) (Or.inl ⟨by kernel_rfl, fun w hSw => by go_simp⟩) (by assumption) ?_
    try simp only [List.getElem_toArray, List.getElem_cons_zero, List.getElem_cons_succ, Act.put, List.setIfInBounds_toArray, List.set_cons_zero, List.set_cons_succ]
    refine wpAnyH_take (i := 25) (v := .slice a3 ts.length c3) rfl (by kernel_rfl) (by kernel_rfl) (by kernel_rfl) (fun _ _ _ h => h) (Or.inl ⟨by kernel_rfl, fun w hSw => by go_simp⟩) (by assumption) ?_
    try simp only [List.getElem_toArray, List.getElem_cons_zero, List.getElem_cons_succ, Act.put, List.setIfInBounds_toArray, List.set_cons_zero, List.set_cons_succ]
    refine wpAnyH_take (i := 26) (v := .int .i64 kd) rfl (by kernel_rfl) (by kernel_rfl) (by kernel_rfl) (fun _ _ _ h => h) (Or.inl ⟨by kernel_rfl, fun w hSw => by go_simp⟩) (by assumption) ?_
    try simp only [List.getElem_toArray, List.getElem_cons_zero, List.getElem_cons_succ, Act.put, List.setIfInBounds_toArray, List.set_cons_zero, List.set_cons_succ]
    refine wpAnyH_take (i := 28) (v := .slice a3 ts.length c3) rfl (by kernel_rfl) (by kernel_rfl) (by kernel_rfl) (fun _ _ _ h => h) (Or.inl ⟨by kernel_rfl, fun w hSw => by go_simp⟩) (by assumption) ?_
    try simp only [List.getElem_toArray, List.getElem_cons_zero, List.getElem_cons_succ, Act.put, List.setIfInBounds_toArray, List.set_cons_zero, List.set_cons_succ]
    refine wpAnyH_take (i := 29) (v := .int .i64 kd) rfl (by kernel_rfl) (by kernel_rfl) (by kernel_rfl) (fun _ _ _ h => h) (Or.inl ⟨by kernel_rfl, fun w hSw => by go_simp⟩) (by assumption) ?_
    try simp only [List.getElem_toArray, List.getElem_cons_zero, List.getElem_cons_succ, Act.put, List.setIfInBounds_toArray, List.set_cons_zero, List.set_cons_succ]
    refine wpAnyH_ready (rs := [27]) (by kernel_rfl) (by simp) ?_
    refine AllReadyH.cons rfl (fun K hK => ?_) AllReadyH.nil
    go_simp
    refine (implCount_any _ a3 c3 ts.length _ kd _ (by omega) (LwS.l (by assumption))).mono ?_; rintro e wz ⟨rfl, hb⟩
    go_wp2_with fail
    refine hK.out _ _ (LwS.step (by assumption) (by assumption)) (fun hHeld => ?_)
    clear hK K
    try simp only [List.getElem_toArray, List.getElem_cons_zero, List.getElem_cons_succ, Act.put, List.setIfInBounds_toArray, List.set_cons_zero, List.set_cons_succ]
    refine wpAnyH_ready (rs := [30]) (by kernel_rfl) (by simp) ?_
    refine AllReadyH.cons rfl (fun K hK => ?_) AllReadyH.nil
    go_simp
    refine (specCount_any _ a3 c3 ts.length _ kd _ (by omega) (LwS.l (by assumption))).mono ?_; rintro e wz ⟨rfl, hb⟩
    go_wp2_with fail
    refine hK.out _ _ (LwS.step (by assumption) (by assumption)) (fun hHeld => ?_)
    clear hK K
    try simp only [List.getElem_toArray, List.getElem_cons_zero, List.getElem_cons_succ, Act.put, List.setIfInBounds_toArray, List.set_cons_zero, List.set_cons_succ]
    refine wpAnyH_take (i := 31) (v := .bool false) rfl (by kernel_rfl) (by kernel_rfl) (by kernel_rfl) (fun _ _ _ h => h) (Or.inl ⟨by kernel_rfl, fun w hSw => by go_simp⟩) (by assumption) ?_
    try simp only [List.getElem_toArray, List.getElem_cons_zero, List.getElem_cons_succ, Act.put, List.setIfInBounds_toArray, List.set_cons_zero, List.set_cons_succ]
    refine wpAnyH_take (i := 32) (v := .bool false) rfl (by kernel_rfl) (by kernel_rfl) (by kernel_rfl) (fun _ _ _ h => h) (Or.inl ⟨by kernel_rfl, fun w hSw => by go_simp⟩) (by assumption) ?_
    try simp only [List.getElem_toArray, List.getElem_cons_zero, List.getElem_cons_succ, Act.put, List.setIfInBounds_toArray, List.set_cons_zero, List.set_cons_succ]
    refine wpAnyH_take (i := 33) (v := .bool false) rfl (by kernel_rfl) (by kernel_rfl) (by kernel_rfl) (fun _ _ _ h => h) (Or.inl ⟨by kernel_rfl, fun w hSw => by go_simp⟩) (by assumption) ?_
    try simp only [List.getElem_toArray, List.getElem_cons_zero, List.getElem_cons_succ, Act.put, List.setIfInBounds_toArray, List.set_cons_zero, List.set_cons_succ]
    refine wpAnyH_take (i := 34) (v := .int .i64 q) rfl (by kernel_rfl) (by kernel_rfl) (by kernel_rfl) (fun _ _ _ h => h) (Or.inl ⟨by kernel_rfl, fun w hSw => by go_simp⟩) (by assumption) ?_
    try simp only [List.getElem_toArray, List.getElem_cons_zero, List.getElem_cons_succ, Act.put, List.setIfInBounds_toArray, List.set_cons_zero, List.set_cons_succ]
    refine wpAnyH_take (i := 35) (v := .bool true) rfl (by kernel_rfl) (by kernel_rfl) (by kernel_rfl) (fun _ _ _ h => h) (Or.inl ⟨by kernel_rfl, fun w hSw => by go_simp⟩) (by assumption) ?_
    try simp only [List.getElem_toArray, List.getElem_cons_zero, List.getElem_cons_succ, Act.put, List.setIfInBounds_toArray, List.set_cons_zero, List.set_cons_succ]
    refine wpAnyH_take (i := 36) (v := .bool true) rfl (by kernel_rfl) (by kernel_rfl) (by kernel_rfl) (fun _ _ _ h => h) (Or.inl ⟨by kernel_rfl, fun w hSw => by go_simp⟩) (by assumption) ?_
    try simp only [List.getElem_toArray, List.getElem_cons_zero, List.getElem_cons_succ, Act.put, List.setIfInBounds_toArray, List.set_cons_zero, List.set_cons_succ]
    refine wpAnyH_take (i := 37) (v := .slice a1 xs.length c1) rfl (by kernel_rfl) (by kernel_rfl) (by kernel_rfl) (fun _ _ _ h => h) (Or.inl ⟨by kernel_rfl, fun w hSw => by go_simp⟩) (by assumption) ?_
    try simp only [List.getElem_toArray, List.getElem_cons_zero, List.getElem_cons_succ, Act.put, List.setIfInBounds_toArray, List.set_cons_zero, List.set_cons_succ]
    refine wpAnyH_take (i := 38) (v := .int .i64 (xs.length : Int)) rfl (by kernel_rfl) (by kernel_rfl) (by kernel_rfl) (fun _ _ _ h => h) (Or.inl ⟨by kernel_rfl, fun w hSw => by go_simp⟩) (by assumption) ?_
    try simp only [List.getElem_toArray, List.getElem_cons_zero, List.getElem_cons_succ, Act.put, List.setIfInBounds_toArray, List.set_cons_zero, List.set_cons_succ]
    refine wpAnyH_take (i := 39) (v := .bool false) rfl (by kernel_rfl) (by kernel_rfl) (by kernel_rfl) (fun _ _ _ h => h) (Or.inl ⟨by kernel_rfl, fun w hSw => by go_simp; exact HX0.out⟩) (by assumption) ?_
    try simp only [List.getElem_toArray, List.getElem_cons_zero, List.getElem_cons_succ, Act.put, List.setIfInBounds_toArray, List.set_cons_zero, List.set_cons_succ]
    refine wpAnyH_take (i := 40) (v := .bool false) rfl (by kernel_rfl) (by kernel_rfl) (by kernel_rfl) (fun _ _ _ h => h) (Or.inl ⟨by kernel_rfl, fun w hSw => by go_simp⟩) (by assumption) ?_
    try simp only [List.getElem_toArray, List.getElem_cons_zero, List.getElem_cons_succ, Act.put, List.setIfInBounds_toArray, List.set_cons_zero, List.set_cons_succ]
    refine wpAnyH_take (i := 41) (v := .bool false) rfl (by kernel_rfl) (by kernel_rfl) (by kernel_rfl) (fun _ _ _ h => h) (Or.inl ⟨by kernel_rfl, fun w hSw => by go_simp⟩) (by assumption) ?_
    try simp only [List.getElem_toArray, List.getElem_cons_zero, List.getElem_cons_succ, Act.put, List.setIfInBounds_toArray, List.set_cons_zero, List.set_cons_succ]
    refine wpAnyH_done (by kernel_rfl) ?_ _
    have BF := Lib.hid (BL.out.trans (hHeld.bel.mono BL.out.size))
    have F1 := Lib.hid (S1.out.kept hHeld.bel)
    have F0 := Lib.hid (S0c.out.kept hHeld.bel)
    clear S1 S0c hHeld
    have hTX := TX_len xs
    have hGS : sumS xs ≤ 4000 := GS.out
    go_wp2_with fail
    go_loopw [12, 13] (fun v i wr => ∃ k : Nat, k ≤ xs.length ∧ i = .int .i64 (k : Int) ∧ v = .string ⟨(TX (xs.take k)).toArray⟩ ∧ Below wz.heap.size wz wr) (fun _ i _ => xs.length - (intOf i).toNat)
    case atStart => exact ⟨0, Nat.zero_le _, rfl, rfl, Below.refl _ _⟩
    case round =>
      obtain ⟨k, hk, rfl, rfl, hb⟩ := hrel
      have HB := Lib.hid hb
      have hzz := hb.size
      clear hb
      by_cases hlt : k < xs.length
      · exact absurd hlt (by have := HX0.out; rw [this]; simp)
      · obtain rfl : k = xs.length := by omega
        rw [List.take_length]
        have hTs : (⟨(TX xs).toArray⟩ : ByteArray).size = (TX xs).length := by simp [ByteArray.size]
        have HG2 := AGX.out ⟨(TX xs).toArray⟩ (by simp)
        obtain ⟨T, hT⟩ : ∃ T : ByteArray, T = ⟨(TX xs).toArray⟩ := ⟨_, rfl⟩
        rw [← hT] at HG2 hTs ⊢
        have hT4 : T.size ≤ 200000 := by omega
        clear hT hTs hTX hGS
        have CI2 := Lib.hid (fun W (h : Sig W) => implLex_any T W (by omega) h)
        generalize lexB T = r at *
        obtain ⟨ys, p⟩ := r
        by_cases hbig : T.size ≤ 4000
        · obtain ⟨q1, q2⟩ := HG2 hbig
          simp only at q1 q2
          subst q1
          have hyl : ys.length = xs.length := by simpa using congrArg List.length q2
          have HQ := Lib.hid q2
          clear q2 HG2
          have d4 : decide (4000 < T.size) = false := by simp; omega
          have d5 : decide ((4000 : Int) < (T.size : Int)) = false := by simp; omega
          go_wp2_with fail
          refine (CI2.out _ ((HG.out.on BF.out).on HB.out)).mono ?_
          rintro e w7 ⟨v4, rfl, o4, b7⟩
          obtain ⟨a4, c4, rfl, s4⟩ := o4.tokF
          simp only at *
          rw [hyl] at s4 ⊢
          have F4 := Lib.hid s4
          have F1b := Lib.hid ((F1.out.kept HB.out).kept b7)
          have HB3 := Lib.hid (BF.out.trans ((HB.out.trans (b7.mono HB.out.size)).mono BF.out.size))
          clear o4 s4 b7
          go_wp2_with fail
          go_loopw [16] (fun i wr2 => ∃ j : Nat, j ≤ xs.length ∧ i = .int .i64 (j : Int) ∧ Below w7.heap.size w7 wr2) (fun i _ => xs.length - (intOf i).toNat)
          case atStart => exact ⟨0, Nat.zero_le _, rfl, Below.refl _ _⟩
          case round =>
            obtain ⟨j, hj, rfl, hb7⟩ := hrel
            have HB4 := Lib.hid hb7
            clear hb7
            by_cases hlt : j < xs.length
            · obtain ⟨g, rfl, hg1, hg2, ⟨e0, e1, e2, e3⟩, hg4⟩ := (F1b.out.kept HB4.out) j hlt
              obtain ⟨g', rfl, hg1', hg2', ⟨d0, d1, d2, d3⟩, hg4'⟩ := (F4.out.kept HB4.out) j hlt
              clear hg4 hg4'
              have hco : core (ys.getD j default) = core (xs.getD j default) := by
                have h1 := congrArg (fun l => l.getD j default) HQ.out
                have l1 : j < ys.length := by omega
                simpa [List.getD_eq_getElem?_getD, List.getElem?_eq_getElem l1, List.getElem?_eq_getElem hlt] using h1
              replace e0 : _ = some (Value.int .i64 (xs.getD j default).k) := e0
              replace e1 : _ = some (Value.string (xs.getD j default).s) := e1
              replace e2 : _ = some (Value.int .i64 (xs.getD j default).n) := e2
              replace d0 : _ = some (Value.int .i64 (ys.getD j default).k) := d0
              replace d1 : _ = some (Value.string (ys.getD j default).s) := d1
              replace d2 : _ = some (Value.int .i64 (ys.getD j default).n) := d2
              clear e3 d3
              generalize xs.getD j default = t at *
              generalize ys.getD j default = u at *
              obtain ⟨uk, us, un, ul⟩ := t
              obtain ⟨vk, vs, vn, vl⟩ := u
              unfold core at hco
              simp only [kit.Tok.mk.injEq] at hco e0 e1 e2 d0 d1 d2
              obtain ⟨rfl, rfl, rfl, _⟩ := hco
              have i0 : (0 : Int) ≤ (j : Int) := by omega
              have i1 : (j : Int) < (xs.length : Int) := by omega
              go_wp2_with fail
              go_quiet (fail)
              go_wp2_with fail
              go_roundw
              case rel => exact ⟨j + 1, by omega, by go_num, HB4.out.trans ((below_drewN _ _).mono HB4.out.size)⟩
              case measure => simp [intOf]; omega
            · obtain rfl : j = xs.length := by omega
              go_wp2_with fail
              go_ret
              exact ⟨rfl, HB3.out.trans (HB4.out.mono HB3.out.size)⟩
        · have d4 : decide (4000 < T.size) = true := by simp; omega
          have d5 : decide ((4000 : Int) < (T.size : Int)) = true := by simp; omega
          clear HG2
          go_wp2_with fail
          refine (CI2.out _ ((HG.out.on BF.out).on HB.out)).mono ?_
          rintro e w7 ⟨v4, rfl, o4, b7⟩
          have HB3 := Lib.hid (BF.out.trans ((HB.out.trans (b7.mono HB.out.size)).mono BF.out.size))
          clear o4 b7
          simp only at *
          go_wp2_with fail
          go_ret
          exact ⟨rfl, HB3.out⟩
set_option maxRecDepth 100000 in
theorem walk (a : Option Addr) (n cap : Nat) (w : World) (hm : n ≤ maxLen) (hc : Code8 w a n) (htg : Tab w ∧ Sig w) :
    Calls Tryz.prog 4 #[.slice a n cap] w fun e w' => e = .returned (.bool true) ∧ Below w.heap.size w w' := by
  by_cases hn : n ≤ 1048576
  · exact walk1 a n cap w hn hc htg.1 htg.2
  · go_enter Tryz.func4, Tryz.ntmps4
    go_wp2_with fail
    refine (big_yes a n cap _ (by omega)).mono ?_
    rintro e w1 ⟨rfl, rfl⟩
    go_wp2
    go_ret
    exact ⟨rfl, Below.refl _ _⟩

set_option maxRecDepth 100000 in
theorem contract (H : Type) (enc : TypeId × Value → H) (W : World) (base : Nat) (args : Array Value) (ds gs : List (DataW H)) (before : List MemPlace)
    (hval : ∀ (j : Nat) t v, Tryz.f4.params[j]? = some t → args[j]? = some v → Value.okWide Tryz.prog W .any base t v)
    (hW : DataW.Whole enc Tryz.prog Tryz.f4.params.toList Rows.fnLexSpec.vars false W args.toList ds gs before) (hL : laidMet Tryz.prog Rows.fnLexRow.laid W) :
    Calls Tryz.prog 4 args W fun e W' => ∃ v, e = .returned v ∧ Rows.fnLexSpec.post enc Tryz.prog Tryz.f4 false true false false W args v W' := by
  have hW' := hW
  obtain ⟨p, q, hA0, hV, rfl, hfz, hnd⟩ := hW
  have hA : DataW.TrodAll enc Tryz.prog W 0 (fun _ => true) true Tryz.f4.params.toList args.toList ds p := hA0
  rw [Tryz.params4] at hA hval
  obtain ⟨v0, vs0, d0, ds0, p0, q0, hargs, rfl, rfl, h0, r0⟩ := trodAll_cons hA
  obtain ⟨rfl, rfl, rfl⟩ := trodAll_nil r0
  obtain rfl : args = #[v0] := by cases args; simp_all
  have hV1 : DataW.TrodVars enc Tryz.prog W (fun _ => true) ["loop.example/g00560/impl.signs"] gs q := hV
  obtain ⟨g, t, cs, fuel, d, p', rfl, _, _, _, _, _⟩ := trodVars_one hV1
  obtain ⟨a0, n0, c0, rfl, hn0, hc0⟩ := open_code (hval 0 22 v0 rfl rfl) h0
  have hlt0 : ∀ x ∈ p0, x.block < W.heap.size := fun x hx => by simpa using hW'.lt x (by simp [hx])
  clear hA0
  refine (walk a0 n0 c0 W hn0 hc0 (table hL)).mono fun e W' ⟨he, bel⟩ => ?_
  subst he
  exact ⟨_, rfl, _, _, _, [], _, _, hW', trodAll_mk1 (shut_bool Tryz.underlying4 _), (trodAll_cons_mk (Below.trod laidOut (by kernel_rfl) (of_decide_eq_true (by kernel_rfl)) h0 bel hlt0) trodAll_mk0), Below.trodVars laidOutT bel (by kernel_rfl) hV1, bel.frame _, fun h => by cases h⟩

/-- A world for the witness: the listed variables hold what is listed. -/
noncomputable def laidWorld (os : Os) : World := World.laidAll Tryz.prog os Rows.fnLexRow.laid
theorem laid_met (os : Os) : laidMet Tryz.prog Rows.fnLexRow.laid ((laidWorld os).forCall (fun _ _ => 0) ⟨#[], #[.slice none 0 0], []⟩).memory :=
  laidMet_laidAll _ (by kernel_rfl) (by kernel_rfl)
theorem reads (os : Os) {H : Type} (enc : TypeId × Value → H) : ∃ places, DataW.whole enc Tryz.prog ((laidWorld os).forCall (fun _ _ => 0) ⟨#[], #[.slice none 0 0], []⟩).memory Tryz.f4.params.toList Rows.fnLexSpec.vars false #[Value.slice none 0 0].toList 8 = some ([.nil], [strData signL], places) :=
  ⟨((DataW.whole enc Tryz.prog ((laidWorld os).forCall (fun _ _ => 0) ⟨#[], #[.slice none 0 0], []⟩).memory Tryz.f4.params.toList Rows.fnLexSpec.vars false #[Value.slice none 0 0].toList 8).map fun x => x.2.2).getD [], by kernel_rfl⟩

set_option maxRecDepth 100000 in
theorem lifted (os : Os) (started : os.Started) (H : Type) (enc : TypeId × Value → H) (F : Stop.Interp) :
    ReturnsInHanded {} Tryz.checked os 4 .any ((OpenSpec.ofChange Rows.fnLexSpec).preRow enc Tryz.prog Tryz.f4 Rows.fnLexRow.domain false Rows.fnLexRow.laid) (((OpenSpec.ofChange Rows.fnLexSpec).at F).post enc Tryz.prog Tryz.f4 false true false false) := by
  obtain ⟨places, hx⟩ := reads os enc
  refine returnsInHanded_of_row (C := Tryz.checked) (s := OpenSpec.ofChange Rows.fnLexSpec) own started (by kernel_rfl) Tryz.func4
    (witness_row_at (enc := enc) (C := Tryz.checked) false (laidWorld os) #[.slice none 0 0] (World.laidAll_os _ _ _) (by kernel_rfl) (by kernel_rfl) (by kernel_rfl)
      (OpenSpec.preRow_of_cond 8 hx (by kernel_rfl) (fun k hk => by cases hk) (by kernel_rfl) (laid_met os))) ?_
  intro W base args ds gs before hval hW _ _ _ hL _ _
  exact contract H enc W base args ds gs before hval hW hL

theorem said : Rows.FnLexSaid :=
  OpenClaim.holds_of_cond 4 Tryz.f4 rfl rfl rfl rfl rfl rfl rfl ⟨rfl, rfl, rfl, rfl, rfl⟩ rfl rfl rfl rfl rfl (by kernel_rfl) Tryz.func4 (by kernel_rfl)
    (of_decide_eq_true (by kernel_rfl)) (by unfold Func.isWrapper; first | (rw [if_pos (by decide +kernel)]; kernel_rfl) | (rw [if_neg (by decide +kernel)]; exact ⟨rfl, rfl⟩))
    (fun os started H enc _ F => by rw [OpenClaim.pre_eq_preRow]; exact lifted os started H enc F)

theorem plain (f : FuncId) (fn : Func) (hf : Tryz.pinned.checked.prog.funcNamed Rows.fnLexRow.func = some f) (hfn : Tryz.pinned.checked.prog.funcs[f]? = some fn) :
    true = Tryz.pinned.checked.prog.looks [] ∧ ∀ (j : Nat) t, fn.params[j]? = some t → Tryz.pinned.checked.prog.wantsStandIn t = false := by
  obtain rfl : f = 4 := Option.some.inj ((show Tryz.prog.funcNamed Rows.fnLexRow.func = some 4 by kernel_rfl).symm.trans hf) |>.symm
  obtain rfl : fn = Tryz.f4 := (Option.some.inj (Tryz.func4.symm.trans hfn)).symm
  refine ⟨by kernel_rfl, fun j t ht => ?_⟩
  rw [Tryz.params4] at ht
  obtain rfl : t = 22 := by simpa using Array.mem_of_getElem? ht
  exact (show Tryz.prog.wantsStandIn 22 = false by kernel_rfl)

theorem card : Rows.FnLexCardSaid :=
  Claim7.holds_tied_plain_at .later [] _ _ _ _ said (fun _ h => by cases h) (by kernel_rfl) (fun _ h => by cases h) fnLex_row_tie rfl ⟨rfl, rfl⟩ (by kernel_rfl) rfl plain (by kernel_rfl)
#print axioms card
end Go.Proofs.YtebeoijoljlhiaaGreatDoor.fnLex
