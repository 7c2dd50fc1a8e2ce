/-
  Contract of the iterator that impl.foundIn makes, over this seat's translation: it hands what FindRe finds, place by place, to whatever loop leaves its memory as it was. Conditions: a text of at most 1048576 bytes, a tree that costs at most so much; the table by which bits are told is there.
-/
import Derived.Test.YtcimhpdpfckgiaaGreatDoorMxMi17
import Derived.Test.YtcimhpdpfckgiaaGreatDoorMxIo0
set_option linter.unusedVariables false
set_option linter.unusedSimpArgs false
open Go.ChangeShapes Go.WideShapes Go.ChangeAt Go.RowKit
namespace Go.Proofs.YtcimhpdpfckgiaaGreatDoor.kit
attribute [local go_sem] Oper.semAt_some
structure FoundE (t : RT) (a : Option Addr) (cap : Nat) (s : ByteArray) (Br Bs : Nat) (W : World) : Prop where
 kids : Kids 0 W t.kids a
 bt : BT W
 rc : ∀ j, W.cell? ⟨Br, j, none⟩ = #[Value.int .i64 t.kind, .string t.set, .bool t.neg, .int .i64 t.low, .int .i64 t.high, .slice a t.kids.length cap][j]?
 sc : W.cell? ⟨Bs, 0, none⟩ = some (.string s)
theorem FoundE.six {t : RT} {a : Option Addr} {cap : Nat} {s : ByteArray} {Br Bs : Nat} {W : World} (h : FoundE t a cap s Br Bs W) :
 W.cell? ⟨Br, 0, none⟩ = some (.int .i64 t.kind) ∧ W.cell? ⟨Br, 1, none⟩ = some (.string t.set) ∧ W.cell? ⟨Br, 2, none⟩ = some (.bool t.neg) ∧ W.cell? ⟨Br, 3, none⟩ = some (.int .i64 t.low) ∧ W.cell? ⟨Br, 4, none⟩ = some (.int .i64 t.high) ∧ W.cell? ⟨Br, 5, none⟩ = some (.slice a t.kids.length cap) ∧ W.cell? ⟨Bs, 0, none⟩ = some (.string s) :=
 ⟨h.rc 0, h.rc 1, h.rc 2, h.rc 3, h.rc 4, h.rc 5, h.sc⟩
def pairV (p : Nat × Nat) : Array Value := #[.int .i64 (p.1 : Int), .int .i64 (p.2 : Int)]
theorem cell_of_keep {W W' : World} {b j : Nat} {v : Value} (h : W'.heap[b]? = W.heap[b]?) (hc : W.cell? ⟨b, j, none⟩ = some v) : W'.cell? ⟨b, j, none⟩ = some v := (cob (a := ⟨b, j, none⟩) h).trans hc
theorem frozen_of_keep {W W' : World} {b j : Nat} {v : Bool} (h : W'.heap[b]? = W.heap[b]?) (hc : W.frozen? ⟨b, j, none⟩ = v) : W'.frozen? ⟨b, j, none⟩ = v := (World.frozen?_of_block (a := ⟨b, j, none⟩) h).trans hc
structure FoundI (B l : Nat) (f : Int) (F : Nat → Prop) (w4 W : World) : Prop where
 yc : W.cell? ⟨B, 0, none⟩ = some (.func (.yield l) #[] #[])
 fc : W.cell? ⟨B + 1, 0, none⟩ = some (.int .i64 f)
 ff : W.frozen? ⟨B + 1, 0, none⟩ = false
 keep : KeepB F w4 W
 size : w4.heap.size ≤ W.heap.size
 mine : ∀ k, B + 2 ≤ k → k < w4.heap.size → W.heap[k]? = w4.heap[k]?
theorem FoundI.same {B l : Nat} {f : Int} {F : Nat → Prop} {w4 W W' : World} (h : FoundI B l f F w4 W) (hF : ∀ k, F k → W'.heap[k]? = W.heap[k]?) (hm : ∀ k, B ≤ k → k < w4.heap.size → W'.heap[k]? = W.heap[k]?) (hs : W.heap.size ≤ W'.heap.size) (hB : B + 2 ≤ w4.heap.size) : FoundI B l f F w4 W' :=
 ⟨cell_of_keep (hm B (Nat.le_refl _) (by omega)) h.yc, cell_of_keep (hm (B + 1) (by omega) (by omega)) h.fc, frozen_of_keep (hm (B + 1) (by omega) (by omega)) h.ff,
  KeepB.trans h.keep hF, Nat.le_trans h.size hs, fun k h1 h2 => (hm k (by omega) h2).trans (h.mine k h1 h2)⟩
theorem FoundI.put {B l : Nat} {f : Int} {F : Nat → Prop} {w4 W : World} (h : FoundI B l f F w4 W) (hF : ∀ k, F k → k < B) (f' : Int) : FoundI B l f' F w4 (W.setCell ⟨B + 1, 0, none⟩ (.int .i64 f')) := by
 have e : ∀ k, k ≠ B + 1 → (W.setCell ⟨B + 1, 0, none⟩ (.int .i64 f')).heap[k]? = W.heap[k]? := fun k hk => Below.heap_setCell _ _ _ _ hk
 exact ⟨cell_of_keep (e B (by omega)) h.yc, World.cell?_setCell_same _ _ _ h.fc, by rw [World.frozen?_setCell]; exact h.ff, KeepB.trans h.keep (fun k hk => e k (by have := hF k hk; omega)), by simpa using h.size, fun k h1 h2 => (e k (by omega)).trans (h.mine k h1 h2)⟩
theorem FoundI.turns {B l m : Nat} {f : Int} {F : Nat → Prop} {w4 W W' : World} (h : FoundI B l f F w4 W) (ht : Turns w4.heap.size m W W') (hF : ∀ k, F k → k < B) (hB : B + 2 ≤ w4.heap.size) : FoundI B l f F w4 W' :=
 h.same (fun k hk => ht.low (by have := hF k hk; omega) (by have := hF k hk; have := h.size; omega)) (fun k h1 h2 => ht.low h2 (Nat.lt_of_lt_of_le h2 h.size)) ht.size hB
theorem below_keep {n : Nat} {A A' : World} {F : Nat → Prop} (h : Below n A A') (hF : ∀ k, F k → k < n) : KeepB F A A' := fun k hk => h.block k (hF k hk)
set_option maxRecDepth 100000 in
set_option maxHeartbeats 4000000 in
theorem found_seq (n : Nat) (hn : 12 ≤ n) (t : RT) (s : ByteArray) (a : Option Addr) (cap Br Bs : Nat) (F : Nat → Prop) (w : World) (hs : s.size ≤ 1048576) (hc : RT.cost t ≤ 1048576)
 (hF : ∀ k, F k → k < w.heap.size) (hFT : F 0) (hE : ∀ W, KeepB F w W → w.heap.size ≤ W.heap.size → FoundE t a cap s Br Bs W) :
 SeqO Fence.wide n Tryz.prog 50 #[.pointer (some ⟨Br, 0, none⟩), .pointer (some ⟨Bs, 0, none⟩)] pairV (KeepB F) (fun ys => ys = foundZ (matchZ s.data.toList t) s.size 0) (fun ys => ∃ rest, foundZ (matchZ s.data.toList t) s.size 0 = ys ++ rest) (NxP s.size (begsL (matchZ s.data.toList t) s.size).length) w := by
 intro l J Jx W hW hJ hJx hY h0
 have hm1 : 1 ≤ n := by omega
 obtain ⟨B, hB⟩ : ∃ B, B = W.heap.size := ⟨_, rfl⟩
 obtain ⟨w2, hw2⟩ : ∃ w2, w2 = (W.alloc (.cells #[.func (.yield l) #[] #[]] 77)).alloc (.cells #[.int .i64 0] 3) := ⟨_, rfl⟩
 have hb2 : Below W.heap.size W w2 := by rw [hw2]; exact ((Below.refl _ W).alloc (Nat.le_refl _) _).alloc (by simp) _
 have hz2 : w2.heap.size = B + 2 := by rw [hw2, hB]; simp
 have y0 : w2.cell? ⟨B, 0, none⟩ = some (.func (.yield l) #[] #[]) := by
  rw [hw2, hB, World.cell?_alloc_past _ _ _ (by simp; try omega), World.cell?_alloc_at _ _ _ _ (by simp)]; rfl
 have y1 : w2.cell? ⟨B + 1, 0, none⟩ = some (.int .i64 0) := by
  rw [hw2, hB, World.cell?_alloc_at _ _ _ _ (by simp)]; rfl
 have g1 : w2.frozen? ⟨B + 1, 0, none⟩ = false := by
  rw [hw2, hB, World.frozen?_alloc_at _ _ _ _ (by simp)]
 have hkW : KeepB F w W := below_keep hW hF
 have hk2 : KeepB F w w2 := hkW.trans (below_keep hb2 (fun k hk => Nat.lt_of_lt_of_le (hF k hk) hW.size))
 have E2 := hE w2 hk2 (Nat.le_trans hW.size hb2.size)
 have hFB : ∀ k, F k → k < B := fun k hk => by rw [hB]; exact Nat.lt_of_lt_of_le (hF k hk) hW.size
 have HBG := qd (beginnings_any t s a cap w2 hs hc E2.kids E2.bt)
 have HMA := qd (fun (X : World) (x : Nat) (hX : FoundE t a cap s Br Bs X) => implMatchAt_any t s (x : Int) a cap X hs hc hX.kids hX.bt)
 have HBI := qd (fun j => begs_iff (s := s) (t := t) j)
 have HE := qd (fun X (hX : KeepB F w2 X) (hz : w2.heap.size ≤ X.heap.size) => hE X (hk2.trans hX) (Nat.le_trans hW.size (Nat.le_trans hb2.size hz)))
 obtain ⟨x0, x1, x2, x3, x4, x5, x6⟩ := E2.six
 rw [hw2] at x0 x1 x2 x3 x4 x5 x6
 have hf1 : Fence.wide.fn 51 := trivial
 have hf2 : Fence.wide.fn 35 := trivial
 have HW2 := qd hw2
 have HB2 := qd (And.intro hb2 (And.intro hz2 hB))
 have HC2 := qd (And.intro y0 (And.intro y1 g1))
 have HFB := qd hFB
 have HFT := qd hFT
 have HJ := qd hJ
 have HJX := qd hJx
 have HY := qd hY
 have H0 := qd h0
 have HS := qd hs
 have HZL := qd (show ∀ j : Nat, j ≤ s.size → 0 ≤ matchZ s.data.toList t (j : Int) → (j : Int) ≤ matchZ s.data.toList t (j : Int) ∧ matchZ s.data.toList t (j : Int) ≤ s.size from matchZ_bd)
 unfold BegsPost at HBG
 generalize matchZ s.data.toList t = Z at *
 clear hw2 hb2 hz2 hB y0 y1 g1 hkW hk2 E2 hFB hFT hJ hJx hY h0 hE hF hW hc hs
 obtain ⟨k, ss, nn, lo, hi, ts⟩ := t
 unfold reV at *
 simp only [RT.kind, RT.set, RT.neg, RT.low, RT.high, RT.kids] at *
 show CallsIn Fence.wide n Tryz.prog 50 #[.func (.yield l) #[] #[], .pointer (some ⟨Br, 0, none⟩), .pointer (some ⟨Bs, 0, none⟩)] W _
 refine callsIn_of_wp_marks Tryz.func50 rfl trivial ?_ rfl
 simp only [Tryz.ntmps50, List.size_toArray, List.length_cons, List.length_nil, Nat.reduceAdd, Nat.reduceSub, Array.replicate_succ, Array.replicate_zero, List.push_toArray, List.append_toArray, List.nil_append, List.cons_append]
 gi_wp2
 rw [← HW2.out]
 refine (callsIn_wide.2 HBG.out).mono ?_
 rintro e w3 ⟨sk5, ws5, a5, c5, rfl, h5a, h5b, h5c, h5e, h5f⟩
 have hf6 : sk5 + ws5.length ≤ 1048576 := by have := h5a.le; have := HS.out; omega
 obtain ⟨n5, hn5⟩ : ∃ n5, n5 = ws5.length := ⟨_, rfl⟩
 obtain ⟨b5, hb5⟩ : ∃ b5, b5 = w3.heap.size := ⟨_, rfl⟩
 obtain ⟨w4, hw4⟩ : ∃ w4, w4 = w3.alloc (.cells #[.int .i64 (sk5 : Int), .slice a5 n5 c5] 68) := ⟨_, rfl⟩
 have hb34 : Below w3.heap.size w3 w4 := by rw [hw4]; exact (Below.refl _ _).alloc (Nat.le_refl _) _
 have hz4 : w4.heap.size = b5 + 1 := by rw [hw4, hb5]; simp
 have hc4 : ∀ j, w4.cell? ⟨b5, j, none⟩ = #[Value.int .i64 (sk5 : Int), .slice a5 n5 c5][j]? := fun j => by rw [hw4, hb5]; exact World.cell?_alloc_at _ _ _ _ rfl
 have hb24 : Below w2.heap.size w2 w4 := h5e.trans (hb34.mono h5e.size)
 have hz24 : w2.heap.size ≤ w4.heap.size := hb24.size
 have hk24 : KeepB F w2 w4 := below_keep hb24 (fun k hk => by have := HFB.out k hk; have := HB2.out.2.1; omega)
 have hT4 : BT w4 := (HE.out w4 hk24 hz24).bt
 have hseq := allp_stops (n - 1) (by omega) b5 sk5 ws5 a5 c5 hf6 h5a.lt (KeepB (SetF b5 a5)) (fun A B h => h) w4 (by omega) (hc4 0) (by rw [← hn5]; exact hc4 1) (h5b.kept hb34) hT4
 have hA5 : ∀ y, a5 = some y → B + 2 ≤ y.block ∧ y.block < b5 := fun y hy => by have := h5f y hy; have := HB2.out.2.1; omega
 have hML : memL sk5 ws5 = begsL Z s.size := begsL_of ((memL_pl ws5 sk5 h5a.lt).congr (fun j => (h5c j).trans (HBI.out j)))
 have hb5l : B + 2 ≤ b5 := by have := h5e.size; have := HB2.out.2.1; omega
 have hI4 : FoundI B l 0 F w4 w4 :=
  ⟨(hb24.cell (p := ⟨B, 0, none⟩) (by have := HB2.out.2.1; show B < _; omega)).trans HC2.out.1, (hb24.cell (p := ⟨B + 1, 0, none⟩) (by have := HB2.out.2.1; show B + 1 < _; omega)).trans HC2.out.2.1, (hb24.frozen (p := ⟨B + 1, 0, none⟩) (by have := HB2.out.2.1; show B + 1 < _; omega)).trans HC2.out.2.2, KeepB.refl _ _, Nat.le_refl _, fun _ _ _ => rfl⟩
 have hbW4 : Below W.heap.size W w4 := HB2.out.1.trans (hb24.mono HB2.out.1.size)
 have HA5 := qd hA5
 have HML := qd hML
 have HL := qd (And.intro hb5l (And.intro hz4 (And.intro hbW4 (And.intro hk24 hz24))))
 have HI4 := qd hI4
 have HW4 := qd hw4
 have HB5 := qd (And.intro hb5 hn5)
 rw [← hn5]
 clear hb34 hz4 hc4 hb24 hT4 hA5 hML h5a h5b h5c h5e h5f hn5 hw4 hb5 hb5l hI4 hbW4 hk24 hz24 HBG x0 x1 x2 x3 x4 x5 x6
 unfold setV
 gi_wp2_with (gi_at_call 35; refine (all_in (n - 1) _ _ _ _ _).mono ?_; rintro e w' ⟨rfl, rfl⟩)
 rw [← HW4.out, ← HB5.out.1]
 obtain ⟨en, hen⟩ : ∃ en : Nat → Nat, en = fun b : Nat => (Z (b : Int)).toNat := ⟨_, rfl⟩
 have HEN := qd hen
 have hJown : ∀ (m : Nat) (J : Nat → List (Nat × Nat) → World → Prop), (∀ m s A A', W.heap.size ≤ m → J m s A → Turns W.heap.size m A A' → J m s A') → W.heap.size ≤ m → ∀ (X Y : World) row s, J m s X → X.grownBy Y row → (∀ r, row = some r → w4.heap.size ≤ r ∧ ∃ o : Obj, X.heap[r]? = some o ∧ o.isCells = false) → J m s Y := fun m J hJ hm X Y row s hs hg hr =>
  hJ m s X Y hm hs (Turns.of_grown hg (fun r e => ⟨Nat.le_trans HL.out.2.2.1.size (hr r e).1, (hr r e).2⟩))
 have hBW : B = W.heap.size := HB2.out.2.2
 have hbm : W.heap.size ≤ b5 + 1 := by have := HL.out.1; omega
 refine wpIn_rangeFunc_ownG rfl hm1 (gf := 48) rfl trivial (enters_of Tryz.func48 (by kernel_rfl) rfl)
  hseq (fun h k => KeepB.trans h k) (fun X l o o' hl _ _ _ => fun k hk => World.putObj_heap_other (by
   have hz := HL.out.2.1
   rcases hk with rfl | rfl | ⟨x, hx, rfl⟩
   · omega
   · have := HFB.out _ HFT.out; have := HL.out.1; omega
   · have := HA5.out x hx; omega)) (Below.refl _ _) (fun _ => rfl)
  (fun (pre : List {x : Nat // x ∈ memL sk5 ws5}) X => J (b5 + 1) (foundSt en (pre.map (·.1)) 0).1 X ∧ FoundI B l ((foundSt en (pre.map (·.1)) 0).2 : Int) F w4 X)
  (fun (c : Code) (pre : List {x : Nat // x ∈ memL sk5 ws5}) (X : World) => c = Code.ret ∧ Jx (b5 + 1) (foundSt en (pre.map (fun y : {x : Nat // x ∈ memL sk5 ws5} => y.1)) 0).1 X)
  (fun pre X Y row hs hg hr => ⟨hJown _ J HJ.out hbm X Y row _ hs.1 hg hr, hs.2.same (fun k hk => hg.block k (by have := HFB.out k hk; have := hs.2.size; have := HL.out; omega) (fun e => by have := (hr k e.symm).1; have := HFB.out k hk; have := HL.out.1; have := HL.out.2.1; omega)) (fun k h1 h2 => hg.block k (Nat.lt_of_lt_of_le h2 hs.2.size) (fun e => by have := (hr k e.symm).1; omega)) hg.size (by have := HL.out.1; have := HL.out.2.1; omega)⟩)
  (fun (c : Code) (pre : List {x : Nat // x ∈ memL sk5 ws5}) X Y row hs hg hr => ⟨hs.1, hJown _ Jx HJX.out hbm X Y row _ hs.2 hg hr⟩)
  ⟨HJ.out _ _ _ _ hbm (H0.out _ hbm) (Turns.of_below HL.out.2.2.1 (Nat.le_refl _)), HI4.out⟩
  (fun x => { tmps := #[.func (.yield l) #[] #[], .pointer (some ⟨Br, 0, none⟩), .pointer (some ⟨Bs, 0, none⟩), .pointer (some ⟨W.heap.size, 0, none⟩), .pointer (some ⟨W.heap.size + 1, 0, none⟩), pV x.1, undef, undef, .agg #[.int .i64 k, .string ss, .bool nn, .int .i64 lo, .int .i64 hi, .slice a ts.length cap], .string s, .agg #[.int .i64 (sk5 : Int), .slice a5 n5 c5], .func (.func 48) #[] #[.pointer (some ⟨b5, 0, none⟩)], pV x.1, undef, undef, undef, undef, undef, undef, undef, undef, undef, undef, undef, undef, undef, undef], defers := [] }) ?assign ?body ?done ?stop
 case assign =>
  intro l' x X K hK
  gi_wp2
  exact hK
 case stop =>
  rintro D' c pre X hD ⟨rest, hr⟩ ⟨rfl, hj⟩ hK
  have HK := qd hK
  have HJ5 := qd hj
  have HPRE := qd (show ∃ rest, foundZ Z s.size 0 = (foundSt en (pre.map (·.1)) 0).1 ++ rest from by
   obtain ⟨q, hq⟩ := foundF_pre en (pre.map (·.1)) rest
   refine ⟨q, ?_⟩
   rw [← hq, ← hr, HML.out, HEN.out]; rfl)
  have HSZ := qd (show b5 + 1 ≤ X.heap.size from by have := (Array.getElem?_eq_some_iff.1 hK).1; have := HL.out.2.1; omega)
  clear hK hj hr hseq
  gi_wp2
  refine ⟨by simp, .inl ⟨_, _, rfl, run_takeDeferred HK.out, ?_⟩⟩
  exact ⟨_, results_none rfl _ _ _, ⟨_, rfl⟩, b5 + 1, hbm, by simpa using HSZ.out, .inr ⟨_, HPRE.out, HJX.out _ _ _ _ hbm HJ5.out (Turns.putOther _ (by have := HL.out.1; have := HL.out.2.1; omega) HK.out rfl)⟩⟩
 case done =>
  rintro D' ys X hD hys ⟨hj, hI⟩ hK
  have HK := qd hK
  have HJ5 := qd hj
  have HALL := qd (show (foundSt en (ys.map (·.1)) 0).1 = foundZ Z s.size 0 from by rw [hys, HML.out, HEN.out]; rfl)
  have HSZ := qd (show b5 + 1 ≤ X.heap.size from by have := hI.size; have := HL.out.2.1; omega)
  clear hK hj hys hseq hI
  gi_wp2
  refine ⟨by simp, .inl ⟨_, _, rfl, run_takeDeferred HK.out, ?_⟩⟩
  exact ⟨_, results_none rfl _ _ _, ⟨_, rfl⟩, b5 + 1, hbm, by simpa using HSZ.out, .inl ⟨_, HALL.out, HJ.out _ _ _ _ hbm HJ5.out (Turns.putOther _ (by have := HL.out.1; have := HL.out.2.1; omega) HK.out rfl)⟩⟩
 case body =>
  rintro l2 pre ⟨x, hx⟩ X ⟨hj, hI⟩ hlt
  simp only
  have hxb : x ≤ s.size ∧ 0 ≤ Z (x : Int) := (begsL_mem Z s.size x).1 (by rw [← HML.out]; exact hx)
  have hz := HZL.out x hxb.1 hxb.2
  have EX := HE.out X (HL.out.2.2.2.1.trans hI.keep) (Nat.le_trans HL.out.2.2.2.2 hI.size)
  obtain ⟨x0, x1, x2, x3, x4, x5, x6⟩ := EX.six
  simp only [RT.kind, RT.set, RT.neg, RT.low, RT.high, RT.kids] at x0 x1 x2 x3 x4 x5
  obtain ⟨pl, hpl⟩ : ∃ pl : List Nat, pl = pre.map (·.1) := ⟨_, rfl⟩
  have hpx : (pre ++ [(⟨x, hx⟩ : {x : Nat // x ∈ memL sk5 ws5})]).map (·.1) = pl ++ [x] := by rw [hpl, List.map_append]; rfl
  have hmem : ∀ b ∈ pl, b ≤ en b := fun b hb => by
   rw [hpl] at hb
   obtain ⟨y, hy, rfl⟩ := List.mem_map.1 hb
   have h := (begsL_mem Z s.size y.1).1 (by rw [← HML.out]; exact y.2)
   have := HZL.out y.1 h.1 h.2
   rw [HEN.out]; show y.1 ≤ (Z (y.1 : Int)).toNat; omega
  have hends := foundSt_ends en pl hmem
  have hlen : (foundSt en pl 0).1.length < (begsL Z s.size).length := Nat.lt_of_le_of_lt (foundSt_len en pl) (by rw [hpl, List.length_map, ← HML.out]; exact hlt)
  have hsn := foundSt_snoc en pl x 0
  rw [← hpl] at hj hI
  obtain ⟨st, hst⟩ : ∃ st, st = foundSt en pl 0 := ⟨_, rfl⟩
  rw [← hst] at hj hI hends hlen hsn
  obtain ⟨acc, f⟩ := st
  simp only at hj hI hends hlen
  have c0 := hI.yc
  have c1 := hI.fc
  have f1 := hI.ff
  rw [hBW] at c0 c1 f1
  have HI := qd hI
  have HJ5 := qd hj
  have HEX := qd EX
  have HNX := qd (And.intro hpx hsn)
  have HXZ := qd (And.intro hxb (And.intro hz (And.intro hends hlen)))
  clear hI hj EX hpx hsn hst hpl hmem hends hlen hxb hz hseq
  unfold pV
  by_cases hxf : x < f
  · have hge : decide ((x : Int) < (f : Int)) = true := by simpa using hxf
    have HST := qd (show foundSt en ((pre ++ [(⟨x, hx⟩ : {x : Nat // x ∈ memL sk5 ws5})]).map (·.1)) 0 = (acc, f) from by
        rw [HNX.out.1, HNX.out.2]; unfold foundStep; rw [if_pos hxf])
    gi_wp2
    exact ⟨below_others (Below.refl _ _) _, KeepB.refl _ _, by rw [HST.out]; exact HJ5.out, by rw [HST.out]; exact HI.out⟩
  · have hge : decide ((x : Int) < (f : Int)) = false := by simpa using hxf
    obtain ⟨zn, hzn⟩ : ∃ zn : Nat, zn = (Z (x : Int)).toNat := ⟨_, rfl⟩
    have hzx : Z (x : Int) = (zn : Int) := by have := HXZ.out.1.2; omega
    have HST := qd (show foundSt en ((pre ++ [(⟨x, hx⟩ : {x : Nat // x ∈ memL sk5 ws5})]).map (·.1)) 0 = (acc ++ [(x, zn)], zn) from by
        rw [HNX.out.1, HNX.out.2]; unfold foundStep; rw [if_neg hxf, HEN.out, hzn])
    have HNP := qd (show NxP s.size (begsL Z s.size).length acc (x, zn) from by
        have h := HXZ.out.2.1
        rw [hzx] at h
        exact ⟨fun y hy => by have := HXZ.out.2.2.1 y hy; show y.2 ≤ x; omega, by show x ≤ zn; omega, by show zn ≤ s.size; omega, HXZ.out.2.2.2⟩)
    have HMX := qd (fun (q : Nat) => (callsIn_wide.2 (HMA.out X x HEX.out) : CallsIn Fence.wide q _ _ _ _ _))
    rw [hzx] at HMX
    have hf9 : (Fence.wide.inRound l2).fn 17 := trivial
    clear hge hzn hzx
    have hge : decide ((x : Int) < (f : Int)) = false := by simpa using hxf
    gi_wp2
    refine ⟨trivial, fun _ => by omega, ?_⟩
    refine (HMX.out _).mono ?_
    rintro e W3 ⟨rfl, hb3⟩
    have hXs := HI.out.size
    have hw4 := HL.out.2.1
    have hbb := HL.out.1
    have hI3 : FoundI B l (f : Int) F w4 W3 := HI.out.same (below_keep hb3 (fun k hk => by have := HFB.out k hk; omega)) (fun k h1 h2 => hb3.block k (by omega)) hb3.size (by omega)
    have hJ3 := HJ.out _ _ _ _ hbm HJ5.out (Turns.of_below (m := b5 + 1) (B := W.heap.size) hb3 (Nat.le_refl _))
    have hz3 : b5 + 1 ≤ W3.heap.size := by have := hb3.size; omega
    have d0 := hI3.yc
    have d1 := hI3.fc
    have g1 := hI3.ff
    rw [hBW] at d0 d1 g1
    obtain ⟨fn, tmps, assign, body, hy, hR⟩ := HY.out (b5 + 1) acc (x, zn) W3 hbm hz3 hJ3 HNP.out
    have HR := qd (fun q => (roundIn_wide hR l2 : RoundIn (Fence.wide.inRound l2) q _ _ _ _ _ _ _ _))
    have HI3 := qd hI3
    have HB3 := qd hb3
    unfold pairV at hy
    simp only at hy
    clear hR hI3 hJ3 hb3 c0 c1 f1 x0 x1 x2 x3 x4 x5 x6 hge hXs hw4 hbb hz3
    gi_wp2
    refine ⟨fun _ => by omega, ?_⟩
    refine (HR.out _).mono ?_
    rintro e W4 ⟨hlv, (⟨rfl, hJ4, hk4⟩ | ⟨rfl, hJx4⟩)⟩
    · have hI4 := HI3.out.same hk4 (fun k h1 h2 => hlv.block k (by omega) (by have := HL.out.2.1; omega)) hlv.others.size (by have := HL.out.1; have := HL.out.2.1; omega)
      have e0 := hI4.yc
      have e1 := hI4.fc
      have k1 := hI4.ff
      rw [hBW] at e0 e1 k1
      have HI5 := qd (hI4.put HFB.out (zn : Int))
      rw [hBW] at HI5
      have HLV := qd hlv
      have HK4 := qd hk4
      have HJ4 := qd hJ4
      clear hI4 hlv hk4 hJ4 d0 d1 g1 hy
      gi_wp2
      have hw4 := HL.out.2.1
      have hbb := HL.out.1
      refine ⟨?_, ?_, ?_, ?_⟩
      · exact ((below_others HB3.out _).trans (KeepsFrom.up HLV.out.others (by omega))).trans ((KeepsOthers.setCell _ _ _).from _)
      · intro k hk
        have hkb : k < X.heap.size ∧ k ≠ W.heap.size + 1 ∧ (F k ∨ (W.heap.size ≤ k ∧ k < b5 + 1)) := by
           have hX := HI.out.size
           rcases hk with rfl | rfl | ⟨y, hy, rfl⟩
           · exact ⟨by omega, by omega, .inr ⟨by omega, by omega⟩⟩
           · have := HFB.out _ HFT.out; exact ⟨by omega, by omega, .inl HFT.out⟩
           · have := HA5.out y hy; exact ⟨by omega, by omega, .inr ⟨by omega, by omega⟩⟩
        refine (Below.heap_setCell _ _ _ _ hkb.2.1).trans (Eq.trans ?_ (HB3.out.block k hkb.1))
        rcases hkb.2.2 with h | ⟨h1, h2⟩
        · exact HK4.out k h
        · exact HLV.out.block k h1 h2
      · rw [HST.out]; exact HJ.out _ _ _ _ hbm HJ4.out (Turns.setCell _ _ (by omega) (by omega))
      · rw [HST.out, hBW]; exact HI5.out
    · have HLV := qd hlv
      have HJX4 := qd hJx4
      clear hlv hJx4 d0 d1 g1 hy
      gi_wp2
      have hw4 := HL.out.2.1
      have hbb := HL.out.1
      exact ⟨(below_others HB3.out _).trans (KeepsFrom.up HLV.out.others (by omega)), rfl, by rw [HST.out]; exact HJX4.out⟩
end Go.Proofs.YtcimhpdpfckgiaaGreatDoor.kit
namespace Go.Proofs.YtcimhpdpfckgiaaGreatDoor.kit
attribute [local go_sem] Oper.semAt_some
theorem foundIn_in (n : Nat) (t : RT) (s : ByteArray) (a : Option Addr) (cap : Nat) (w : World) :
 CallsIn Fence.wide n Tryz.prog 37 #[reV t a cap, .string s] w fun e w' => e = .returned (.func (.func 50) #[] #[.pointer (some ⟨w.heap.size, 0, none⟩), .pointer (some ⟨w.heap.size + 1, 0, none⟩)]) ∧ w' = (w.alloc (.cells #[.int .i64 t.kind, .string t.set, .bool t.neg, .int .i64 t.low, .int .i64 t.high, .slice a t.kids.length cap] 26)).alloc (.cells #[.string s] 9) := by
 obtain ⟨k, ss, nn, lo, hi, ts⟩ := t
 unfold reV
 simp only [RT.kind, RT.set, RT.neg, RT.low, RT.high, RT.kids]
 refine callsIn_of_wp Tryz.func37 rfl trivial ?_ rfl
 simp only [Tryz.ntmps37, List.size_toArray, List.length_cons, List.length_nil, Nat.reduceAdd, Nat.reduceSub, Array.replicate_succ, Array.replicate_zero, List.push_toArray, List.append_toArray, List.nil_append, List.cons_append]
 gi_wp2
 go_ret
 exact ⟨rfl, rfl⟩
theorem FoundE.boxed {t : RT} {a : Option Addr} {cap : Nat} {s : ByteArray} {F : Nat → Prop} {w2 w5 : World} {b : Nat} (hb : b = w2.heap.size) (hE : ∀ X, KeepB F w2 X → w2.heap.size ≤ X.heap.size → Kids 0 X t.kids a ∧ BT X)
 (h5 : w5 = (w2.alloc (.cells #[.int .i64 t.kind, .string t.set, .bool t.neg, .int .i64 t.low, .int .i64 t.high, .slice a t.kids.length cap] 26)).alloc (.cells #[.string s] 9)) (hF : ∀ k, F k → k < b) :
 ∀ X, KeepB (fun k => F k ∨ k = b ∨ k = b + 1) w5 X → w5.heap.size ≤ X.heap.size → FoundE t a cap s b (b + 1) X := fun X hX hz => by
 have hz5 : w5.heap.size = b + 2 := by rw [h5, hb]; simp
 have hb5 : Below w2.heap.size w2 w5 := by rw [h5]; exact ((Below.refl _ _).alloc (Nat.le_refl _) _).alloc (by simp) _
 have h1 := hE X ((below_keep hb5 (fun k hk => by have := hF k hk; omega)).trans (fun k hk => hX k (.inl hk))) (by omega)
 refine ⟨h1.1, h1.2, fun j => ?_, ?_⟩
 · rw [cob (a := ⟨b, j, none⟩) (hX b (.inr (.inl rfl))), h5, hb, World.cell?_alloc_past _ _ _ (by simp), World.cell?_alloc_at _ _ _ _ (by simp)]
 · rw [cob (a := ⟨b + 1, 0, none⟩) (hX (b + 1) (.inr (.inr rfl))), h5, hb, World.cell?_alloc_at _ _ _ _ (by simp)]; rfl
set_option maxRecDepth 100000 in
set_option maxHeartbeats 4000000 in
theorem matches_seq (n : Nat) (hn : 14 ≤ n) (t : RT) (s : ByteArray) (a : Option Addr) (cap Br Bs : Nat) (F : Nat → Prop) (w : World) (hs : s.size ≤ 1048576) (hc : RT.cost t ≤ 1048576)
 (hF : ∀ k, F k → k < w.heap.size) (hFT : F 0) (hE : ∀ W, KeepB F w W → w.heap.size ≤ W.heap.size → FoundE t a cap s Br Bs W) :
 SeqO Fence.wide n Tryz.prog 36 #[.pointer (some ⟨Br, 0, none⟩), .pointer (some ⟨Bs, 0, none⟩)] pairV (KeepB F) (fun ys => ys = matchesZ (matchZ s.data.toList t) s.size) (fun ys => ∃ rest, matchesZ (matchZ s.data.toList t) s.size = ys ++ rest) (NxP s.size (begsL (matchZ s.data.toList t) s.size).length) w := by
 intro l J Jx W hW hJ hJx hY h0
 have hm1 : 1 ≤ n := by omega
 obtain ⟨B, hB⟩ : ∃ B, B = W.heap.size := ⟨_, rfl⟩
 obtain ⟨w2, hw2⟩ : ∃ w2, w2 = (W.alloc (.cells #[.func (.yield l) #[] #[]] 77)).alloc (.cells #[.int .i64 (-1)] 3) := ⟨_, rfl⟩
 have hb2 : Below W.heap.size W w2 := by rw [hw2]; exact ((Below.refl _ W).alloc (Nat.le_refl _) _).alloc (by simp) _
 have hz2 : w2.heap.size = B + 2 := by rw [hw2, hB]; simp
 have y0 : w2.cell? ⟨B, 0, none⟩ = some (.func (.yield l) #[] #[]) := by
  rw [hw2, hB, World.cell?_alloc_past _ _ _ (by simp; try omega), World.cell?_alloc_at _ _ _ _ (by simp)]; rfl
 have y1 : w2.cell? ⟨B + 1, 0, none⟩ = some (.int .i64 (-1)) := by
  rw [hw2, hB, World.cell?_alloc_at _ _ _ _ (by simp)]; rfl
 have g1 : w2.frozen? ⟨B + 1, 0, none⟩ = false := by
  rw [hw2, hB, World.frozen?_alloc_at _ _ _ _ (by simp)]
 have hkW : KeepB F w W := below_keep hW hF
 have hk2 : KeepB F w w2 := hkW.trans (below_keep hb2 (fun k hk => Nat.lt_of_lt_of_le (hF k hk) hW.size))
 have E2 := hE w2 hk2 (Nat.le_trans hW.size hb2.size)
 have hFB : ∀ k, F k → k < B := fun k hk => by rw [hB]; exact Nat.lt_of_lt_of_le (hF k hk) hW.size
 obtain ⟨w5, hw5⟩ : ∃ w5, w5 = (w2.alloc (.cells #[.int .i64 t.kind, .string t.set, .bool t.neg, .int .i64 t.low, .int .i64 t.high, .slice a t.kids.length cap] 26)).alloc (.cells #[.string s] 9) := ⟨_, rfl⟩
 have hz5 : w5.heap.size = B + 4 := by rw [hw5]; simp; omega
 have hb25 : Below w2.heap.size w2 w5 := by rw [hw5]; exact ((Below.refl _ _).alloc (Nat.le_refl _) _).alloc (by simp) _
 have hE5 := FoundE.boxed (b := B + 2) hz2.symm (fun X (hX : KeepB F w2 X) hz => (show Kids 0 X t.kids a ∧ BT X from by have h := hE X (hk2.trans hX) (Nat.le_trans (Nat.le_trans hW.size hb2.size) hz); exact ⟨h.kids, h.bt⟩)) hw5 (fun k hk => by have := hFB k hk; omega)
 have hseq := found_seq (n - 1) (by omega) t s a cap (B + 2) (B + 3) (fun k => F k ∨ k = B + 2 ∨ k = B + 3) w5 hs hc (fun k hk => by rcases hk with hk | rfl | rfl; have := hFB k hk; omega; omega; omega) (.inl hFT) hE5
 have HFI := qd (foundIn_in (n - 1) t s a cap w2)
 rw [← hw5, hz2] at HFI
 have hI5 : FoundI B l (-1) F w5 w5 :=
  ⟨(hb25.cell (p := ⟨B, 0, none⟩) (by show B < _; omega)).trans y0, (hb25.cell (p := ⟨B + 1, 0, none⟩) (by show B + 1 < _; omega)).trans y1, (hb25.frozen (p := ⟨B + 1, 0, none⟩) (by show B + 1 < _; omega)).trans g1, KeepB.refl _ _, Nat.le_refl _, fun _ _ _ => rfl⟩
 obtain ⟨x0, x1, x2, x3, x4, x5, x6⟩ := E2.six
 rw [hw2] at x0 x1 x2 x3 x4 x5 x6
 have hf1 : Fence.wide.fn 37 := trivial
 have HW2 := qd hw2
 have HFB := qd hFB
 have HJ := qd hJ
 have HJX := qd hJx
 have HY := qd hY
 have H0 := qd h0
 have HI5 := qd hI5
 have HL := qd (show w5.heap.size = B + 4 ∧ B = W.heap.size ∧ Below W.heap.size W w5 from ⟨hz5, hB, hb2.trans (hb25.mono hb2.size)⟩)
 generalize matchZ s.data.toList t = Z at *
 have hbz := begsL_len Z s.size
 clear hw2 hb2 hz2 hB y0 y1 g1 hkW hk2 E2 hFB hFT hJ hJx hY h0 hE hF hW hc hs hb25 hE5 hz5 hI5 hw5
 obtain ⟨k, ss, nn, lo, hi, ts⟩ := t
 unfold reV at *
 simp only [RT.kind, RT.set, RT.neg, RT.low, RT.high, RT.kids] at *
 show CallsIn Fence.wide n Tryz.prog 36 #[.func (.yield l) #[] #[], .pointer (some ⟨Br, 0, none⟩), .pointer (some ⟨Bs, 0, none⟩)] W _
 refine callsIn_of_wp_marks Tryz.func36 rfl trivial ?_ rfl
 simp only [Tryz.ntmps36, List.size_toArray, List.length_cons, List.length_nil, Nat.reduceAdd, Nat.reduceSub, Array.replicate_succ, Array.replicate_zero, List.push_toArray, List.append_toArray, List.nil_append, List.cons_append]
 gi_wp2
 rw [← HW2.out]
 refine HFI.out.mono ?_
 rintro e w' ⟨rfl, he⟩
 have he2 := he.symm
 clear he
 subst he2
 clear x0 x1 x2 x3 x4 x5 x6
 gi_wp2
 have hBW : B = W.heap.size := HL.out.2.1
 have hW5 := HL.out.1
 refine wpIn_rangeO rfl hm1 (gf := 50) rfl trivial (enters_of Tryz.func50 (by kernel_rfl) rfl)
  hseq (fun h k => KeepB.trans h k) (fun X o' => fun k hk => World.putObj_heap_other (by rcases hk with hk | rfl | rfl; have := HFB.out k hk; omega; omega; omega)) (Below.refl _ _) (fun _ => rfl)
  (fun m pre X => J m (matchSt pre).1 X ∧ FoundI B l (matchSt pre).2 F w5 X)
  (fun m c pre X => c = Code.ret ∧ Jx m (matchSt pre).1 X)
  (fun m pre X Y hm hs ht => ⟨HJ.out _ _ _ _ (by omega) hs.1 (ht.mono (by omega) (Nat.le_refl _)), hs.2.turns ht HFB.out (by omega)⟩)
  (fun m c pre X Y hm hs ht => ⟨hs.1, HJX.out _ _ _ _ (by omega) hs.2 (ht.mono (by omega) (Nat.le_refl _))⟩)
  (fun m X hm hX => ⟨HJ.out _ _ _ _ (by omega) (H0.out m (by omega)) (Turns.of_below (HL.out.2.2.trans (hX.mono HL.out.2.2.size)) (Nat.le_refl _)), HI5.out.turns (Turns.of_below (m := 0) hX (Nat.le_refl _)) HFB.out (by omega)⟩)
  (fun p => { tmps := #[.func (.yield l) #[] #[], .pointer (some ⟨Br, 0, none⟩), .pointer (some ⟨Bs, 0, none⟩), .pointer (some ⟨W.heap.size, 0, none⟩), .pointer (some ⟨W.heap.size + 1, 0, none⟩), .int .i64 (p.1 : Int), .int .i64 (p.2 : Int), .agg #[.int .i64 k, .string ss, .bool nn, .int .i64 lo, .int .i64 hi, .slice a ts.length cap], .string s, .func (.func 50) #[] #[.pointer (some ⟨W.heap.size + 2, 0, none⟩), .pointer (some ⟨W.heap.size + 2 + 1, 0, none⟩)], .int .i64 (p.1 : Int), .int .i64 (p.2 : Int), undef, undef, undef, undef, undef, undef, undef, undef, undef, undef, undef, undef, undef, undef], defers := [] }) ?assign ?body ?done ?stop
 case assign =>
  intro l' x X K hK
  unfold pairV
  gi_wp2
  exact hK
 case stop =>
  rintro D' m c pre X hm hmX hD hDm ⟨rest, hr⟩ ⟨rfl, hj⟩ hK
  have HK := qd hK
  have HJ5 := qd hj
  have HPRE := qd (show ∃ rest, matchesZ Z s.size = (matchSt pre).1 ++ rest from by
   obtain ⟨q, hq⟩ := matchSt_pre pre rest
   exact ⟨q, by rw [← hq, ← hr]; rfl⟩)
  have HSZ := qd (And.intro hm (And.intro hmX hD))
  clear hK hj hr hseq hmX hDm
  gi_wp2
  refine ⟨by simp, .inl ⟨_, _, rfl, run_takeDeferred HK.out, ?_⟩⟩
  exact ⟨_, results_none rfl _ _ _, ⟨_, rfl⟩, m, by have := HSZ.out; omega, by simpa using HSZ.out.2.1, .inr ⟨_, HPRE.out, HJX.out _ _ _ _ (by have := HSZ.out; omega) HJ5.out (Turns.putOther _ (by have := HSZ.out; omega) HK.out rfl)⟩⟩
 case done =>
  rintro D' m ys X hm hmX hD hDm hys ⟨hj, hI⟩ hK
  have HK := qd hK
  have HJ5 := qd hj
  have HALL := qd (show (matchSt ys).1 = matchesZ Z s.size from by rw [hys]; rfl)
  have HSZ := qd (And.intro hm (And.intro hmX hD))
  clear hK hj hys hseq hI hmX hDm
  gi_wp2
  refine ⟨by simp, .inl ⟨_, _, rfl, run_takeDeferred HK.out, ?_⟩⟩
  exact ⟨_, results_none rfl _ _ _, ⟨_, rfl⟩, m, by have := HSZ.out; omega, by simpa using HSZ.out.2.1, .inl ⟨_, HALL.out, HJ.out _ _ _ _ (by have := HSZ.out; omega) HJ5.out (Turns.putOther _ (by have := HSZ.out; omega) HK.out rfl)⟩⟩
 case body =>
  rintro l2 m pre ⟨b, e⟩ X hm hmX ⟨hj, hI⟩ hnx
  simp only
  have c0 := hI.yc
  have c1 := hI.fc
  have f1 := hI.ff
  rw [hBW] at c0 c1 f1
  have HI := qd hI
  have HJ5 := qd hj
  have HSN := qd (matchSt_snoc pre (b, e))
  have HNP := qd hnx.matches
  have HM := qd (And.intro hm hmX)
  generalize matchSt pre = st at *
  obtain ⟨acc, bh⟩ := st
  simp only at *
  clear hI hj hnx hm hmX hseq
  by_cases hbe : b = e
  · have hbe1 : ((b : Int) == (e : Int)) = true := by rw [beq_iff_eq]; omega
    by_cases hbh : (b : Int) = bh
    · have hbh1 : ((b : Int) == bh) = true := by rw [beq_iff_eq]; exact hbh
      have HST := qd (show matchSt (pre ++ [(b, e)]) = (acc, bh) from by
       rw [HSN.out]; unfold matchStep; rw [if_pos ⟨hbe, hbh⟩])
      clear hbe hbh
      gi_wp2
      exact ⟨KeepsFrom.refl _ _, Leaves.refl _ _ _, ⟨by rw [HST.out]; exact HJ5.out, by rw [HST.out]; exact HI.out⟩, KeepB.refl _ _⟩
    · have hbh1 : ((b : Int) == bh) = false := by rw [beq_eq_false_iff_ne]; exact hbh
      have HST := qd (show matchSt (pre ++ [(b, e)]) = (acc ++ [(b, e)], (e : Int)) from by
       rw [HSN.out]; unfold matchStep; rw [if_neg (fun h => hbh h.2)])
      clear hbe hbh
      obtain ⟨fn, tmps, assign, body, hy, hR⟩ := HY.out m acc (b, e) X (by have := HM.out; omega) HM.out.2 HJ5.out HNP.out
      have HR := qd (fun q => (roundIn_wide hR l2 : RoundIn (Fence.wide.inRound l2) q _ _ _ _ _ _ _ _))
      unfold pairV at hy
      simp only at hy
      clear hR
      gi_wp2
      refine ⟨fun _ => by omega, ?_⟩
      refine (HR.out _).mono ?_
      rintro e' W4 ⟨hlv, (⟨rfl, hJ4, hk4⟩ | ⟨rfl, hJx4⟩)⟩
      · have hI4 := HI.out.same hk4 (fun k h1 h2 => hlv.block k (by omega) (by have := HM.out.1; omega)) hlv.others.size (by omega)
        have e0 := hI4.yc
        have e1 := hI4.fc
        have k1 := hI4.ff
        rw [hBW] at e0 e1 k1
        have HI6 := qd (hI4.put HFB.out (e : Int))
        rw [hBW] at HI6
        have HLV := qd hlv
        have HK4 := qd hk4
        have HJ4 := qd hJ4
        clear hI4 hlv hk4 hJ4 c0 c1 f1 hy
        gi_wp2
        have hm5 := HM.out.1
        have hst : ∀ k, k ≠ W.heap.size + 1 → (W4.setCell ⟨W.heap.size + 1, 0, none⟩ (.int .i64 (e : Int))).heap[k]? = W4.heap[k]? := fun k hk => Below.heap_setCell _ _ _ _ hk
        refine ⟨(KeepsFrom.up HLV.out.others (by omega)).trans ((KeepsOthers.setCell _ _ _).from _), ⟨(KeepsFrom.up HLV.out.others (by omega)).trans ((KeepsOthers.setCell _ _ _).from _), fun k h1 h2 => (hst k (by omega)).trans (HLV.out.block k (by omega) h2)⟩, ⟨?_, ?_⟩, ?_⟩
        · rw [HST.out]; exact HJ.out _ _ _ _ (by omega) HJ4.out (Turns.setCell _ _ (by omega) (by omega))
        · rw [HST.out, hBW]; exact HI6.out
        · intro k hk
          have hne : k ≠ W.heap.size + 1 := by rcases hk with hk | rfl | rfl; have := HFB.out k hk; omega; omega; omega
          refine (hst k hne).trans ?_
          rcases hk with hk | rfl | rfl
          · exact HK4.out k hk
          · exact HLV.out.block _ (by omega) (by omega)
          · exact HLV.out.block _ (by omega) (by omega)
      · have HLV := qd hlv
        have HJX4 := qd hJx4
        clear hlv hJx4 c0 c1 f1 hy
        gi_wp2
        exact ⟨KeepsFrom.up HLV.out.others (by omega), HLV.out.up (by omega) (Nat.le_refl _), rfl, by rw [HST.out]; exact HJX4.out⟩
  · have hbe1 : ((b : Int) == (e : Int)) = false := by rw [beq_eq_false_iff_ne]; omega
    have HST := qd (show matchSt (pre ++ [(b, e)]) = (acc ++ [(b, e)], (e : Int)) from by
        rw [HSN.out]; unfold matchStep; rw [if_neg (fun h => hbe h.1)])
    clear hbe
    obtain ⟨fn, tmps, assign, body, hy, hR⟩ := HY.out m acc (b, e) X (by have := HM.out; omega) HM.out.2 HJ5.out HNP.out
    have HR := qd (fun q => (roundIn_wide hR l2 : RoundIn (Fence.wide.inRound l2) q _ _ _ _ _ _ _ _))
    unfold pairV at hy
    simp only at hy
    clear hR
    gi_wp2
    refine ⟨fun _ => by omega, ?_⟩
    refine (HR.out _).mono ?_
    rintro e' W4 ⟨hlv, (⟨rfl, hJ4, hk4⟩ | ⟨rfl, hJx4⟩)⟩
    · have hI4 := HI.out.same hk4 (fun k h1 h2 => hlv.block k (by omega) (by have := HM.out.1; omega)) hlv.others.size (by omega)
      have e0 := hI4.yc
      have e1 := hI4.fc
      have k1 := hI4.ff
      rw [hBW] at e0 e1 k1
      have HI6 := qd (hI4.put HFB.out (e : Int))
      rw [hBW] at HI6
      have HLV := qd hlv
      have HK4 := qd hk4
      have HJ4 := qd hJ4
      clear hI4 hlv hk4 hJ4 c0 c1 f1 hy
      gi_wp2
      have hm5 := HM.out.1
      have hst : ∀ k, k ≠ W.heap.size + 1 → (W4.setCell ⟨W.heap.size + 1, 0, none⟩ (.int .i64 (e : Int))).heap[k]? = W4.heap[k]? := fun k hk => Below.heap_setCell _ _ _ _ hk
      refine ⟨(KeepsFrom.up HLV.out.others (by omega)).trans ((KeepsOthers.setCell _ _ _).from _), ⟨(KeepsFrom.up HLV.out.others (by omega)).trans ((KeepsOthers.setCell _ _ _).from _), fun k h1 h2 => (hst k (by omega)).trans (HLV.out.block k (by omega) h2)⟩, ⟨?_, ?_⟩, ?_⟩
      · rw [HST.out]; exact HJ.out _ _ _ _ (by omega) HJ4.out (Turns.setCell _ _ (by omega) (by omega))
      · rw [HST.out, hBW]; exact HI6.out
      · intro k hk
        have hne : k ≠ W.heap.size + 1 := by rcases hk with hk | rfl | rfl; have := HFB.out k hk; omega; omega; omega
        refine (hst k hne).trans ?_
        rcases hk with hk | rfl | rfl
        · exact HK4.out k hk
        · exact HLV.out.block _ (by omega) (by omega)
        · exact HLV.out.block _ (by omega) (by omega)
    · have HLV := qd hlv
      have HJX4 := qd hJx4
      clear hlv hJx4 c0 c1 f1 hy
      gi_wp2
      exact ⟨KeepsFrom.up HLV.out.others (by omega), HLV.out.up (by omega) (Nat.le_refl _), rfl, by rw [HST.out]; exact HJX4.out⟩
end Go.Proofs.YtcimhpdpfckgiaaGreatDoor.kit
