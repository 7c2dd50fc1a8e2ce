/-
  Contract of impl.FindRe over this seat's translation. Conditions: a text of at most 1048576 bytes, a tree that costs at most so much; the table by which bits are told is there.
-/
import Derived.Test.YtppfnaenamcnpaaDoorMfMi15
import Derived.Test.YtppfnaenamcnpaaDoorMfMx1
import Derived.Test.YtppfnaenamcnpaaDoorMfMs8
set_option linter.unusedVariables false
set_option linter.unusedSimpArgs false
namespace Go.Proofs.YtppfnaenamcnpaaDoor.kit
open Go.ChangeShapes Go.WideShapes Go.ChangeAt Go.RowKit
attribute [local go_sem] Oper.semAt_some
theorem lastZ_pos {P : Nat → Prop} {L : Nat} (h : ∃ k, P k) (hb : ∀ k, P k → k ≤ L) : 0 ≤ lastZ P := by
 obtain ⟨k, hk⟩ := h
 obtain ⟨m, ⟨hm1, hm2⟩, hmin⟩ := least_ex (R := fun m => P (L - m) ∧ m ≤ L) ⟨L - k, by have := hb k hk; rw [show L - (L - k) = k by omega]; exact hk, by omega⟩
 rw [lastZ_of hm1 (fun i hi => by
  have h1 := hb i hi
  have h2 := hmin (L - i) ⟨by rw [show L - (L - i) = i by omega]; exact hi, by omega⟩
  omega)]
 omega
theorem begs_iff {s : ByteArray} {t : RT} (j : Nat) : (RT.ok t = true ∧ ∃ k, k ≤ s.size ∧ RT.M s.data.toList t j k) ↔ j ≤ s.size ∧ 0 ≤ matchZ s.data.toList t (j : Int) := by
 have hel : s.data.toList.length = s.size := by simp
 constructor
 · rintro ⟨ho, k, hk, hm⟩
   have hjk := RT.M_le s.data.toList t j k hm
   refine ⟨by omega, ?_⟩
   rw [matchZ_in (by omega) ho]
   exact lastZ_pos (L := s.size) ⟨k, hm⟩ (fun q hq => by have := (RT.M_bd s.data.toList t j q hq (by omega)).2; omega)
 · rintro ⟨hj, hz⟩
   cases ho : RT.ok t
   · rw [matchZ_bad ho] at hz; omega
   · refine ⟨rfl, ?_⟩
     rw [matchZ_in (by omega) ho] at hz
     by_cases c : ∃ k, RT.M s.data.toList t j k
     · obtain ⟨k, hk⟩ := c
       exact ⟨k, by have := (RT.M_bd s.data.toList t j k hk (by omega)).2; omega, hk⟩
     · rw [lastZ_none (fun k hk => c ⟨k, hk⟩)] at hz; omega
theorem findZ_first {Z : Int → Int} {n x : Int} (hxn : x ≤ n) (hz : 0 ≤ Z x) : ∀ (d : Nat) (i : Int), 0 ≤ i → i ≤ x → (x - i).toNat = d → (∀ j, i ≤ j → j < x → ¬ 0 ≤ Z j) → findZ Z n i = (x, Z x)
 | 0, i, h0, hix, hd, hno => by
   obtain rfl : i = x := by omega
   exact findZ_hit h0 hxn hz
 | d + 1, i, h0, hix, hd, hno => by
   rw [findZ_next h0 (by omega) (hno i (by omega) (by omega))]
   exact findZ_first hxn hz d (i + 1) (by omega) (by omega) (by omega) (fun j h1 h2 => hno j (by omega) h2)
theorem findZ_none {Z : Int → Int} {n : Int} : ∀ (d : Nat) (i : Int), 0 ≤ i → (n + 1 - i).toNat = d → (∀ j, i ≤ j → j ≤ n → ¬ 0 ≤ Z j) → findZ Z n i = (-1, -1)
 | 0, i, h0, hd, hno => findZ_out (by omega)
 | d + 1, i, h0, hd, hno => by
   rw [findZ_next h0 (by omega) (hno i (by omega) (by omega))]
   exact findZ_none d (i + 1) (by omega) (by omega) (fun j h1 h2 => hno j (by omega) h2)
structure Still (w0 W : World) : Prop where
 os : W.os = w0.os
 tape : W.tape = w0.tape
 output : W.output = w0.output
 size : w0.heap.size ≤ W.heap.size
 block : ∀ k, k < w0.heap.size → W.heap[k]? = w0.heap[k]?
theorem Still.below {w0 W : World} (h : Still w0 W) : Below w0.heap.size w0 W := ⟨h.os, h.tape, h.output, h.size, h.block⟩
theorem Still.own {β : Type} (Pr : β → Prop) (w0 : World) : OwnFrom w0.heap.size (fun s W => Pr s ∧ Still w0 W) := fun s W W' row h hg hrow =>
 ⟨h.1, ⟨hg.os.trans h.2.os, hg.tape.trans h.2.tape, hg.output.trans h.2.output, Nat.le_trans h.2.size hg.size, fun k hk => (hg.block k (Nat.lt_of_lt_of_le hk h.2.size) (fun e => by have := (hrow k e.symm).1; omega)).trans (h.2.block k hk)⟩⟩
structure FindS (p q : Nat) (x z : Int) (w0 W : World) : Prop where
 c1 : W.cell? ⟨p, 0, none⟩ = some (.int .i64 x)
 c2 : W.cell? ⟨q, 0, none⟩ = some (.int .i64 z)
 os : W.os = w0.os
 tape : W.tape = w0.tape
 output : W.output = w0.output
 size : w0.heap.size ≤ W.heap.size
 block : ∀ k, k < w0.heap.size → k ≠ p → k ≠ q → W.heap[k]? = w0.heap[k]?
 lt : p < w0.heap.size ∧ q < w0.heap.size
theorem FindS.put {p q : Nat} {w0 W : World} (h : Below w0.heap.size w0 W) {u v : Value} (hp : W.cell? ⟨p, 0, none⟩ = some u) (hq : W.cell? ⟨q, 0, none⟩ = some v) (hne : p ≠ q) (hlt : p < w0.heap.size ∧ q < w0.heap.size) (x z : Int) :
 FindS p q x z w0 ((W.setCell ⟨p, 0, none⟩ (.int .i64 x)).setCell ⟨q, 0, none⟩ (.int .i64 z)) := by
 have e1 : (W.setCell ⟨p, 0, none⟩ (.int .i64 x)).cell? ⟨q, 0, none⟩ = some v := (World.cell?_setCell_other W _ _ _ (by intro e; injection e with e; exact hne e)).trans hq
 refine ⟨?_, World.cell?_setCell_same _ _ _ e1, h.os, h.tape, h.output, by simp; exact h.size, fun k hk h1 h2 => ((Below.heap_setCell _ _ _ k h2).trans (Below.heap_setCell _ _ _ k h1)).trans (h.block k hk), hlt⟩
 rw [World.cell?_setCell_other _ _ _ _ (by intro e; injection e with e; exact hne e.symm)]
 exact World.cell?_setCell_same W _ _ hp
theorem FindS.own {β : Type} (p q : Nat) (X : β → Int → Int → Prop) (w0 : World) : OwnFrom w0.heap.size (fun s W => ∃ x z, X s x z ∧ FindS p q x z w0 W) := fun s W W' row ⟨x, z, hx, h⟩ hg hrow => by
 have hb : ∀ k, k < w0.heap.size → W'.heap[k]? = W.heap[k]? := fun k hk => hg.block k (Nat.lt_of_lt_of_le hk h.size) (fun e => by have := (hrow k e.symm).1; omega)
 exact ⟨x, z, hx, ⟨(World.cell?_of_block (a := ⟨p, 0, none⟩) (hb p h.lt.1)).trans h.c1, (World.cell?_of_block (a := ⟨q, 0, none⟩) (hb q h.lt.2)).trans h.c2, hg.os.trans h.os, hg.tape.trans h.tape, hg.output.trans h.output, Nat.le_trans h.size hg.size, fun k hk h1 h2 => (hb k hk).trans (h.block k hk h1 h2), h.lt⟩⟩
def FirstP (Z : Int → Int) (i : Int) (l : List Nat) (x z : Int) : Prop := ∃ (m : Nat) (l0 : List Nat), l = l0 ++ [m] ∧ (∀ y ∈ l0, (y : Int) < i) ∧ i ≤ (m : Int) ∧ x = (m : Int) ∧ z = Z (m : Int)
theorem FirstP.find {Z : Int → Int} {n : Nat} {i : Int} {l L rest : List Nat} {x z : Int} (h : FirstP Z i l x z) (h0 : 0 ≤ i) (hL : L = l ++ rest) (hP : PlN L (fun j => j ≤ n ∧ 0 ≤ Z (j : Int))) : findZ Z (n : Int) i = (x, z) := by
 obtain ⟨m, l0, rfl, hl0, him, rfl, rfl⟩ := h
 have hm : m ≤ n ∧ 0 ≤ Z (m : Int) := (hP.2 m).1 (by rw [hL]; simp)
 refine findZ_first (by omega) hm.2 _ i h0 him rfl (fun j h1 h2 hz => ?_)
 obtain ⟨k, rfl⟩ : ∃ k : Nat, j = (k : Int) := ⟨j.toNat, by omega⟩
 have hk : k ∈ L := (hP.2 k).2 ⟨by omega, hz⟩
 have ha := hP.1
 rw [hL, List.append_assoc] at ha hk
 rcases List.mem_append.1 hk with hk | hk
 · have := hl0 k hk; omega
 · have hs := (List.pairwise_append.1 ha).2.1
   simp only [List.singleton_append] at hs hk
   rcases List.mem_cons.1 hk with e | hk
   · omega
   · have := (List.pairwise_cons.1 hs).1 k hk; omega
set_option maxRecDepth 100000 in
set_option maxHeartbeats 4000000 in
theorem findRe_in (mm : Nat) (hm : 12 ≤ mm) (t : RT) (s : ByteArray) (i : Int) (a : Option Addr) (cap : Nat) (w : World) (hs : s.size ≤ 1048576) (hi : 0 ≤ i) (hc : RT.cost t ≤ 1048576) (hk : Kids 0 w t.kids a) (hT : BT w) :
 CallsIn Fence.wide mm Tryd.prog 10 #[reV t a cap, .string s, .int .i64 i] w fun e w' => e = .returned (.tuple #[.int .i64 (findZ (matchZ s.data.toList t) s.size i).1, .int .i64 (findZ (matchZ s.data.toList t) s.size i).2]) ∧ Below w.heap.size w w' := by
 have hm1 : 1 ≤ mm := by omega
 obtain ⟨w2, hw2⟩ : ∃ w2, w2 = ((((w.alloc (.cells #[.int .i64 t.kind, .string t.set, .bool t.neg, .int .i64 t.low, .int .i64 t.high, .slice a t.kids.length cap] 26)).alloc (.cells #[.string s] 9)).alloc (.cells #[.int .i64 i] 3)).alloc (.cells #[.int .i64 0] 3)).alloc (.cells #[.int .i64 0] 3) := ⟨_, rfl⟩
 obtain ⟨b0, hb0⟩ : ∃ b0, b0 = w.heap.size := ⟨_, rfl⟩
 have hb2 : Below w.heap.size w w2 := by rw [hw2]; exact (((((Below.refl _ w).alloc (Nat.le_refl _) _).alloc (by simp) _).alloc (by simp <;> omega) _).alloc (by simp <;> omega) _).alloc (by simp <;> omega) _
 have hz2 : w2.heap.size = b0 + 5 := by rw [hw2, hb0]; simp
 have y0 : ∀ j, w2.cell? ⟨b0, j, none⟩ = #[Value.int .i64 t.kind, .string t.set, .bool t.neg, .int .i64 t.low, .int .i64 t.high, .slice a t.kids.length cap][j]? := fun j => by
  rw [hw2, hb0, World.cell?_alloc_past _ _ _ (by simp; try omega), World.cell?_alloc_past _ _ _ (by simp; try omega), World.cell?_alloc_past _ _ _ (by simp; try omega), World.cell?_alloc_past _ _ _ (by simp; try omega), World.cell?_alloc_at _ _ _ _ (by simp)]
 have y1 : ∀ j, w2.cell? ⟨b0 + 1, j, none⟩ = #[Value.string s][j]? := fun j => by
  rw [hw2, hb0, World.cell?_alloc_past _ _ _ (by simp; try omega), World.cell?_alloc_past _ _ _ (by simp; try omega), World.cell?_alloc_past _ _ _ (by simp; try omega), World.cell?_alloc_at _ _ _ _ (by simp)]
 have y2 : ∀ j, w2.cell? ⟨b0 + 2, j, none⟩ = #[Value.int .i64 i][j]? := fun j => by
  rw [hw2, hb0, World.cell?_alloc_past _ _ _ (by simp; try omega), World.cell?_alloc_past _ _ _ (by simp; try omega), World.cell?_alloc_at _ _ _ _ (by simp)]
 have y3 : ∀ j, w2.cell? ⟨b0 + 3, j, none⟩ = #[Value.int .i64 0][j]? := fun j => by
  rw [hw2, hb0, World.cell?_alloc_past _ _ _ (by simp; try omega), World.cell?_alloc_at _ _ _ _ (by simp)]
 have y4 : ∀ j, w2.cell? ⟨b0 + 4, j, none⟩ = #[Value.int .i64 0][j]? := fun j => by
  rw [hw2, hb0, World.cell?_alloc_at _ _ _ _ (by simp)]
 have g3 : ∀ j, w2.frozen? ⟨b0 + 3, j, none⟩ = false := fun j => by
  rw [hw2, hb0, World.frozen?_alloc_past _ _ _ (by simp; try omega), World.frozen?_alloc_at _ _ _ _ (by simp)]
 have g4 : ∀ j, w2.frozen? ⟨b0 + 4, j, none⟩ = false := fun j => by
  rw [hw2, hb0, World.frozen?_alloc_at _ _ _ _ (by simp)]
 have HBG := Lib.hid (beginnings_any t s a cap w2 hs hc (hk.kept (Nat.le_refl _) hb2) (hT.kept hb2))
 have HMA := Lib.hid (fun (W : World) (x : Nat) (hW : Below w.heap.size w W) => implMatchAt_any t s (x : Int) a cap W hs hc (hk.kept (Nat.le_refl _) hW) (hT.kept hW))
 have HBI := Lib.hid (fun j => begs_iff (s := s) (t := t) j)
 have HY := Lib.hid (And.intro y0 (And.intro y1 (And.intro y2 (And.intro y3 (And.intro y4 (And.intro g3 g4))))))
 have hf1 : Fence.wide.fn 38 := trivial
 have hf2 : Fence.wide.fn 37 := trivial
 have hd0 : decide (i < 0) = false := by rw [decide_eq_false_iff_not]; omega
 have hi0 : ¬ (i < 0) := by omega
 have x5 := y2 0
 have x3 := y0
 have x4 := y1 0
 have z0 := x3 0
 have z1 := x3 1
 have z2 := x3 2
 have z3 := x3 3
 have z4 := x3 4
 have z5 := x3 5
 simp only [List.getElem?_toArray, List.getElem?_cons_succ, List.getElem?_cons_zero] at x5 x4 z0 z1 z2 z3 z4 z5
 have HT := Lib.hid (And.intro hT (And.intro hs hi))
 have HW2 := Lib.hid hw2
 have HB2 := Lib.hid (And.intro hb2 (And.intro hz2 hb0))
 unfold BegsPost at HBG
 generalize matchZ s.data.toList t = Z at *
 clear hw2 hb2 hz2 y0 y1 y2 y3 y4 g3 g4 hk hT x3 hb0 hs hi hc
 obtain ⟨k, ss, n, lo, hi, ts⟩ := t
 unfold reV at *
 simp only [RT.kind, RT.set, RT.neg, RT.low, RT.high, RT.kids] at *
 refine callsIn_of_wp_marks Tryd.func10 rfl trivial ?_ rfl
 simp only [Tryd.ntmps10, List.size_toArray, List.length_cons, List.length_nil, Nat.reduceAdd, Nat.reduceSub, Array.replicate_succ, Array.replicate_zero, List.push_toArray, List.append_toArray, List.nil_append, List.cons_append]
 gi_wp2
 obtain ⟨q4, hq4⟩ : ∃ q4, q4 = b0 + 1 := ⟨_, rfl⟩
 obtain ⟨q5, hq5⟩ : ∃ q5, q5 = b0 + 1 + 1 := ⟨_, rfl⟩
 obtain ⟨q6, hq6⟩ : ∃ q6, q6 = b0 + 1 + 1 + 1 := ⟨_, rfl⟩
 obtain ⟨q7, hq7⟩ : ∃ q7, q7 = b0 + 1 + 1 + 1 + 1 := ⟨_, rfl⟩
 rw [← HW2.out, ← HB2.out.2.2, ← hq7, ← hq6, ← hq5, ← hq4]
 have HQ := Lib.hid (show q4 = b0 + 1 ∧ q5 = b0 + 2 ∧ q6 = b0 + 3 ∧ q7 = b0 + 4 from ⟨hq4, hq5, hq6, hq7⟩)
 clear hq4 hq5 hq6 hq7 x5 x4 z0 z1 z2 z3 z4 z5
 refine (callsIn_wide.2 HBG.out).mono ?_
 rintro e w3 ⟨sk5, ws5, a5, c5, rfl, h5a, h5b, h5c, h5e, h5f⟩
 have hf6 : sk5 + ws5.length ≤ 1048576 := by have := h5a.le; have := HT.out.2.1; omega
 obtain ⟨n5, hn5⟩ : ∃ n5, n5 = ws5.length := ⟨_, rfl⟩
 obtain ⟨b5, hb5⟩ : ∃ b5, b5 = w3.heap.size := ⟨_, rfl⟩
 obtain ⟨w4, hw4⟩ : ∃ w4, w4 = w3.alloc (.cells #[.int .i64 (sk5 : Int), .slice a5 n5 c5] 62) := ⟨_, rfl⟩
 have hb34 : Below w3.heap.size w3 w4 := by rw [hw4]; exact (Below.refl _ _).alloc (Nat.le_refl _) _
 have hz4 : w4.heap.size = b5 + 1 := by rw [hw4, hb5]; simp
 have hc4 : ∀ j, w4.cell? ⟨b5, j, none⟩ = #[Value.int .i64 (sk5 : Int), .slice a5 n5 c5][j]? := fun j => by rw [hw4, hb5]; exact World.cell?_alloc_at _ _ _ _ rfl
 have hb24 : Below w2.heap.size w2 w4 := h5e.trans (hb34.mono h5e.size)
 have hbw4 : Below w.heap.size w w4 := HB2.out.1.trans (hb24.mono HB2.out.1.size)
 have hT4 : BT w4 := HT.out.1.kept hbw4
 have hTL : 0 < w.heap.size := HT.out.1.lt
 have hseq := allp_stops (mm - 1) (by omega) b5 sk5 ws5 a5 c5 hf6 h5a.lt (KeepB (SetF b5 a5)) (fun A B h => h) w4 (by omega) (hc4 0) (by rw [← hn5]; exact hc4 1) (h5b.kept hb34) hT4
 have hA5 : ∀ y, a5 = some y → b0 + 5 ≤ y.block ∧ y.block < b5 := fun y hy => by have := h5f y hy; have := HB2.out.2.1; omega
 have hPL : PlN (memL sk5 ws5) (fun j => j ≤ s.size ∧ 0 ≤ Z (j : Int)) := (memL_pl ws5 sk5 h5a.lt).congr (fun j => (h5c j).trans (HBI.out j))
 have HPL := Lib.hid hPL
 have hb5l : b0 + 5 ≤ b5 := by have := h5e.size; have := HB2.out.2.1; omega
 have H5 := Lib.hid (And.intro hbw4 (And.intro hA5 (And.intro hz4 (And.intro hTL (And.intro hb5l hb24)))))
 have HW4 := Lib.hid hw4
 have HB5 := Lib.hid (And.intro hb5 hn5)
 rw [← hn5]
 clear hb34 hz4 hc4 hb24 hbw4 hT4 hTL hA5 hPL h5a h5b h5c h5e h5f hn5 hw4 hb5 hb5l HBG
 unfold setV
 gi_wp2_with (gi_at_call 37; refine (all_in (mm - 1) _ _ _ _ _).mono ?_; rintro e w' ⟨rfl, rfl⟩)
 rw [← HW4.out, ← HB5.out.1]
 refine wpIn_rangeFunc_ownG rfl hm1 (gf := 63) rfl trivial (enters_of Tryd.func63 (by kernel_rfl) rfl)
  hseq (fun h k => KeepB.trans h k) (fun W l o o' hl _ _ _ => fun k hk => World.putObj_heap_other (by
   have hz := H5.out.2.2.1
   have hb := H5.out.1.size
   rcases hk with rfl | rfl | ⟨x, hx, rfl⟩
   · omega
   · have := H5.out.2.2.2.1; omega
   · have := H5.out.2.1 x hx; omega)) (Below.refl _ _) (fun _ => rfl)
  (fun pre W => (∀ y ∈ pre.map (·.1), ((y : Nat) : Int) < i) ∧ Still w4 W)
  (fun c pre W => c = Code.ret ∧ ∃ x z, FirstP Z i (pre.map (·.1)) x z ∧ FindS q6 q7 x z w4 W)
  (Still.own (fun pre : List {x : Nat // x ∈ memL sk5 ws5} => ∀ y ∈ pre.map (·.1), ((y : Nat) : Int) < i) w4)
  (fun c s W W' row hcx hg hrow => ⟨hcx.1, FindS.own q6 q7 (fun (pre : List {x : Nat // x ∈ memL sk5 ws5}) x z => FirstP Z i (pre.map (·.1)) x z) w4 s W W' row hcx.2 hg hrow⟩)
  ⟨by simp, ⟨rfl, rfl, rfl, Nat.le_refl _, fun _ _ => rfl⟩⟩
  (fun x => { tmps := #[.agg #[.int .i64 k, .string ss, .bool n, .int .i64 lo, .int .i64 hi, .slice a ts.length cap], .string s, .int .i64 i, .pointer (some ⟨b0, 0, none⟩), .pointer (some ⟨q4, 0, none⟩), .pointer (some ⟨q5, 0, none⟩), .pointer (some ⟨q6, 0, none⟩), .pointer (some ⟨q7, 0, none⟩), pV x.1, .int .i64 i, .bool false, .agg #[.int .i64 k, .string ss, .bool n, .int .i64 lo, .int .i64 hi, .slice a ts.length cap], .string s, .agg #[.int .i64 (sk5 : Int), .slice a5 n5 c5], .func (.func 63) #[] #[.pointer (some ⟨b5, 0, none⟩)], pV x.1, undef, undef, undef, undef, undef, undef, undef, undef], defers := [] }) ?assign ?body ?done ?stop
 case assign =>
  intro l x W K hK
  gi_wp2
  exact hK
 case stop =>
  rintro D' c pre W hD ⟨rest, hr⟩ ⟨rfl, x, z, hf, hF⟩ hK
  have HK := Lib.hid hK
  have HF := Lib.hid hF
  have HFP := Lib.hid (hf.find HT.out.2.2 hr HPL.out)
  have c1 := hF.c1
  have c2 := hF.c2
  clear hK hF hf hr hseq
  gi_wp2
  refine ⟨by simp, .inl ⟨_, _, rfl, run_takeDeferred HK.out, ?_⟩⟩
  have hlt := HF.out.lt
  have e1 : (W.putObj D' (.deferred none)).cell? ⟨q6, 0, none⟩ = some (.int .i64 x) := (World.cell?_of_block (a := ⟨q6, 0, none⟩) (World.putObj_heap_other (by show q6 ≠ D'; omega))).trans HF.out.c1
  have e2 : (W.putObj D' (.deferred none)).cell? ⟨q7, 0, none⟩ = some (.int .i64 z) := (World.cell?_of_block (a := ⟨q7, 0, none⟩) (World.putObj_heap_other (by show q7 ≠ D'; omega))).trans HF.out.c2
  refine ⟨.tuple #[.int .i64 x, .int .i64 z], by simp [results, Tryd.results10, go_sem, e1, e2], ?_, ?_⟩
  · rw [HFP.out]
  · have hF := HF.out
    have hbw := H5.out.1
    have hq := HQ.out
    have hb0 := HB2.out.2.2
    have hsz := hbw.size
    exact ⟨hF.os.trans hbw.os, hF.tape.trans hbw.tape, hF.output.trans hbw.output, by have := hF.size; simp; omega, fun j hj => (World.putObj_heap_other (by omega)).trans ((hF.block j (by omega) (by omega) (by omega)).trans (hbw.block j hj))⟩
 case done =>
  rintro D' ys W hD hys ⟨hall, hst⟩ hK
  have HFP := Lib.hid (show findZ Z s.size i = (-1, -1) from findZ_none _ i HT.out.2.2 rfl (fun j h1 h2 hz => by
   obtain ⟨k, rfl⟩ : ∃ k : Nat, j = (k : Int) := ⟨j.toNat, by have := HT.out.2.2; omega⟩
   have hk : k ∈ memL sk5 ws5 := (HPL.out.2 k).2 ⟨by omega, hz⟩
   have := hall k (by rw [hys]; exact hk)
   omega))
  have hbl := H5.out.2.2.2.2.2.trans (hst.below.mono H5.out.2.2.2.2.2.size)
  have e : ∀ q j, q < w2.heap.size → W.cell? ⟨q, j, none⟩ = w2.cell? ⟨q, j, none⟩ := fun q j hq => hbl.cell (p := ⟨q, j, none⟩) hq
  have ef : ∀ q j, q < w2.heap.size → W.frozen? ⟨q, j, none⟩ = w2.frozen? ⟨q, j, none⟩ := fun q j hq => hbl.frozen (p := ⟨q, j, none⟩) hq
  obtain ⟨y0, y1, y2, y3, y4, g3, g4⟩ := HY.out
  obtain ⟨h4, h5, h6, h7⟩ := HQ.out
  have hz2 := HB2.out.2.1
  rw [← h6] at y3 g3
  rw [← h7] at y4 g4
  have c6 : W.cell? ⟨q6, 0, none⟩ = some (.int .i64 0) := (e q6 0 (by omega)).trans (y3 0)
  have c7 : W.cell? ⟨q7, 0, none⟩ = some (.int .i64 0) := (e q7 0 (by omega)).trans (y4 0)
  have f6 := (ef q6 0 (by omega)).trans (g3 0)
  have f7 := (ef q7 0 (by omega)).trans (g4 0)
  have HK := Lib.hid hK
  have HST := Lib.hid hst
  have HC := Lib.hid (And.intro c6 c7)
  have hne : ¬ (q6 = q7) := by omega
  have hne2 : ¬ (q7 = q6) := by omega
  have HF := Lib.hid (FindS.put hst.below c6 c7 hne ⟨by have := H5.out.2.2.2.2.2.size; omega, by have := H5.out.2.2.2.2.2.size; omega⟩ (-1) (-1))
  have HKF := Lib.hid (show ∀ u v, ((W.setCell ⟨q6, 0, none⟩ u).setCell ⟨q7, 0, none⟩ v).heap[D']? = some (Obj.deferred (some [])) from fun u v => ((Below.heap_setCell _ _ _ _ (by have := H5.out.2.2.2.2.2.size; show D' ≠ q7; omega)).trans (Below.heap_setCell _ _ _ _ (by have := H5.out.2.2.2.2.2.size; show D' ≠ q6; omega))).trans hK)
  clear hall hst hK hbl e ef y0 y1 y2 y3 y4 g3 g4 h4 h5 h6 h7 hz2 hys hseq
  gi_wp2
  have hK2 := HKF.out (.int .i64 (-1)) (.int .i64 (-1))
  have hF := HF.out
  generalize (W.setCell ⟨q6, 0, none⟩ (.int .i64 (-1))).setCell ⟨q7, 0, none⟩ (.int .i64 (-1)) = W2 at *
  refine ⟨by simp, .inl ⟨_, _, rfl, run_takeDeferred hK2, ?_⟩⟩
  have hlt := hF.lt
  have e1 : (W2.putObj D' (.deferred none)).cell? ⟨q6, 0, none⟩ = some (.int .i64 (-1)) := (World.cell?_of_block (a := ⟨q6, 0, none⟩) (World.putObj_heap_other (by show q6 ≠ D'; omega))).trans hF.c1
  have e2 : (W2.putObj D' (.deferred none)).cell? ⟨q7, 0, none⟩ = some (.int .i64 (-1)) := (World.cell?_of_block (a := ⟨q7, 0, none⟩) (World.putObj_heap_other (by show q7 ≠ D'; omega))).trans hF.c2
  refine ⟨.tuple #[.int .i64 (-1), .int .i64 (-1)], by simp [results, Tryd.results10, go_sem, e1, e2], ?_, ?_⟩
  · rw [HFP.out]
  · have hbw := H5.out.1
    have hq := HQ.out
    have hb0 := HB2.out.2.2
    have hsz := hbw.size
    exact ⟨hF.os.trans hbw.os, hF.tape.trans hbw.tape, hF.output.trans hbw.output, by have := hF.size; simp; omega, fun j hj => (World.putObj_heap_other (by omega)).trans ((hF.block j (by omega) (by omega) (by omega)).trans (hbw.block j hj))⟩
 case body =>
  rintro l pre ⟨x, hx⟩ W ⟨hpre, hst⟩ hlt
  simp only
  have hbl := H5.out.2.2.2.2.2.trans (hst.below.mono H5.out.2.2.2.2.2.size)
  have e : ∀ q j, q < w2.heap.size → W.cell? ⟨q, j, none⟩ = w2.cell? ⟨q, j, none⟩ := fun q j hq => hbl.cell (p := ⟨q, j, none⟩) hq
  have ef : ∀ q j, q < w2.heap.size → W.frozen? ⟨q, j, none⟩ = w2.frozen? ⟨q, j, none⟩ := fun q j hq => hbl.frozen (p := ⟨q, j, none⟩) hq
  obtain ⟨y0, y1, y2, y3, y4, g3, g4⟩ := HY.out
  obtain ⟨h4, h5, h6, h7⟩ := HQ.out
  have hz2 := HB2.out.2.1
  rw [← h4] at y1
  rw [← h5] at y2
  rw [← h6] at y3 g3
  rw [← h7] at y4 g4
  have c6 : W.cell? ⟨q6, 0, none⟩ = some (.int .i64 0) := (e q6 0 (by omega)).trans (y3 0)
  have c7 : W.cell? ⟨q7, 0, none⟩ = some (.int .i64 0) := (e q7 0 (by omega)).trans (y4 0)
  have c5' : W.cell? ⟨q5, 0, none⟩ = some (.int .i64 i) := (e q5 0 (by omega)).trans (y2 0)
  have c4' : W.cell? ⟨q4, 0, none⟩ = some (.string s) := (e q4 0 (by omega)).trans (y1 0)
  have r0 : W.cell? ⟨b0, 0, none⟩ = some (.int .i64 k) := (e b0 0 (by omega)).trans (y0 0)
  have r1 : W.cell? ⟨b0, 1, none⟩ = some (.string ss) := (e b0 1 (by omega)).trans (y0 1)
  have r2 : W.cell? ⟨b0, 2, none⟩ = some (.bool n) := (e b0 2 (by omega)).trans (y0 2)
  have r3 : W.cell? ⟨b0, 3, none⟩ = some (.int .i64 lo) := (e b0 3 (by omega)).trans (y0 3)
  have r4 : W.cell? ⟨b0, 4, none⟩ = some (.int .i64 hi) := (e b0 4 (by omega)).trans (y0 4)
  have r5 : W.cell? ⟨b0, 5, none⟩ = some (.slice a ts.length cap) := (e b0 5 (by omega)).trans (y0 5)
  have f6 := (ef q6 0 (by omega)).trans (g3 0)
  have f7 := (ef q7 0 (by omega)).trans (g4 0)
  have HST := Lib.hid (And.intro hst (And.intro hpre (And.intro c6 c7)))
  have HBW := Lib.hid (H5.out.1.trans (hst.below.mono H5.out.1.size))
  have HQL := Lib.hid (show q6 < W.heap.size ∧ q7 < W.heap.size ∧ q6 ≠ q7 ∧ q6 < w4.heap.size ∧ q7 < w4.heap.size from by have := hbl.size; have := H5.out.2.2.2.2.2.size; exact ⟨by omega, by omega, by omega, by omega, by omega⟩)
  clear hst hpre hbl e ef y0 y1 y2 y3 y4 g3 g4 h4 h5 h6 h7 hz2 hseq
  unfold pV
  have hne : ¬ (q6 = q7) := HQL.out.2.2.1
  have hne2 : ¬ (q7 = q6) := fun e => HQL.out.2.2.1 e.symm
  by_cases hxi : i ≤ (x : Int)
  · have hge : decide (i ≤ (x : Int)) = true := by simpa using hxi
    have hf9 : (Fence.wide.inRound l).fn 8 := trivial
    have HMX := Lib.hid (show ∀ (q : Nat) (W' : World), Below w.heap.size w W' → CallsIn (Fence.wide.inRound l) q Tryd.prog 8 #[.agg #[.int .i64 k, .string ss, .bool n, .int .i64 lo, .int .i64 hi, .slice a ts.length cap], .string s, .int .i64 (x : Int)] W' fun e w' => e = .returned (.int .i64 (Z (x : Int))) ∧ Below W'.heap.size W' w' from fun q W' hW => (callsIn_wide.2 (HMA.out W' x hW) : CallsIn Fence.wide q _ _ _ _ _))
    gi_wp2
    refine ⟨trivial, fun _ => by omega, ?_⟩
    refine (HMX.out _ W HBW.out).mono ?_
    rintro e W3 ⟨rfl, hb3⟩
    have d6 := (hb3.cell (p := ⟨q6, 0, none⟩) HQL.out.1).trans c6
    have d7 := (hb3.cell (p := ⟨q7, 0, none⟩) HQL.out.2.1).trans c7
    have k6 := (hb3.frozen (p := ⟨q6, 0, none⟩) HQL.out.1).trans f6
    have k7 := (hb3.frozen (p := ⟨q7, 0, none⟩) HQL.out.2.1).trans f7
    have HFS := Lib.hid (FindS.put (HST.out.1.below.trans (hb3.mono HST.out.1.size)) d6 d7 hne ⟨HQL.out.2.2.2.1, HQL.out.2.2.2.2⟩ (x : Int) (Z (x : Int)))
    have HD := Lib.hid (And.intro d6 (And.intro d7 hb3))
    clear hb3 c6 c7 c5' c4' r0 r1 r2 r3 r4 r5 f6 f7
    gi_wp2
    have hF := HFS.out
    have hKF : KeepsFrom w4.heap.size W ((W3.setCell ⟨q6, 0, none⟩ (.int .i64 (x : Int))).setCell ⟨q7, 0, none⟩ (.int .i64 (Z (x : Int)))) := by
        obtain ⟨d6, d7, hb3⟩ := HD.out
        refine ⟨by simp; exact hb3.size, fun k' ob hk1 hk2 hc => ?_⟩
        have hlt' := (Array.getElem?_eq_some_iff.1 hk2).1
        have hk3 := (hb3.block k' hlt').trans hk2
        exact ((Below.heap_setCell _ _ _ k' (fun e => by subst e; rw [cell_isCells (a := ⟨k', 0, none⟩) d7 hk3] at hc; cases hc)).trans (Below.heap_setCell _ _ _ k' (fun e => by subst e; rw [cell_isCells (a := ⟨k', 0, none⟩) d6 hk3] at hc; cases hc))).trans hk3
    exact ⟨hKF, rfl, (x : Int), Z (x : Int), ⟨x, pre.map (·.1), by rw [List.map_append]; rfl, HST.out.2.1, hxi, rfl, rfl⟩, hF⟩
  · have hge : decide (i ≤ (x : Int)) = false := by simpa using hxi
    have HNW := Lib.hid (show ∀ y ∈ (pre ++ [(⟨x, hx⟩ : {x : Nat // x ∈ memL sk5 ws5})]).map (·.1), ((y : Nat) : Int) < i from fun y hy => by
        rw [List.map_append] at hy
        rcases List.mem_append.1 hy with hy | hy
        · exact HST.out.2.1 y hy
        · simp at hy; omega)
    gi_wp2
    exact ⟨below_others (Below.refl _ _) _, KeepB.refl _ _, fun y hy hm => HNW.out y (List.mem_map.2 ⟨⟨y, hy⟩, hm, rfl⟩), HST.out.1⟩
set_option maxRecDepth 100000 in
set_option maxHeartbeats 2000000 in
theorem implFindRe_any (t : RT) (s : ByteArray) (i : Int) (a : Option Addr) (cap : Nat) (w : World) (hs : s.size ≤ 1048576) (hc : RT.cost t ≤ 1048576) (hk : Kids 0 w t.kids a) (hT : BT w) :
 Calls Tryd.prog 10 #[reV t a cap, .string s, .int .i64 i] w fun e w' => e = .returned (.tuple #[.int .i64 (findZ (matchZ s.data.toList t) s.size i).1, .int .i64 (findZ (matchZ s.data.toList t) s.size i).2]) ∧ Below w.heap.size w w' := by
 by_cases h0 : 0 ≤ i
 · exact callsIn_wide.1 (findRe_in 12 (Nat.le_refl _) t s i a cap w hs h0 hc hk hT)
 · rw [findZ_out (by omega)]
   have hd : decide (i < 0) = true := by rw [decide_eq_true_iff]; omega
   have hd0 : i < 0 := by omega
   clear hk hT hc h0
   obtain ⟨k, ss, n, lo, hi, ts⟩ := t
   unfold reV
   simp only [RT.kind, RT.set, RT.neg, RT.low, RT.high, RT.kids]
   have HB := Lib.hid (show ∀ o1 o2 o3 o4 o5, Below w.heap.size w (((((w.alloc o1).alloc o2).alloc o3).alloc o4).alloc o5) from fun o1 o2 o3 o4 o5 => (((((Below.refl _ w).alloc (Nat.le_refl _) _).alloc (by simp) _).alloc (by simp <;> omega) _).alloc (by simp <;> omega) _).alloc (by simp <;> omega) _)
   go_enter Tryd.func10, Tryd.ntmps10
   go_wp2_with fail
   have e1 : ∀ (o1 o2 o3 : Obj) (A B : Array Value) (T1 T2 : TypeId), (((((w.alloc o1).alloc o2).alloc o3).alloc (.cells A T1)).alloc (.cells B T2)).cell? ⟨w.heap.size + 1 + 1 + 1, 0, none⟩ = A[0]? := fun o1 o2 o3 A B T1 T2 => by
    rw [World.cell?_alloc_past _ _ _ (by simp; try omega), World.cell?_alloc_at _ _ _ _ (by simp)]
   have e2 : ∀ (o1 o2 o3 o4 : Obj) (B : Array Value) (T2 : TypeId), (((((w.alloc o1).alloc o2).alloc o3).alloc o4).alloc (.cells B T2)).cell? ⟨w.heap.size + 1 + 1 + 1 + 1, 0, none⟩ = B[0]? := fun o1 o2 o3 o4 B T2 => by
    rw [World.cell?_alloc_at _ _ _ _ (by simp)]
   refine bodyPost_ret (v := .tuple #[.int .i64 (-1), .int .i64 (-1)]) (by simp [results, Tryd.results10, go_sem, e1, e2]) rfl ?_
   exact ⟨rfl, HB.out _ _ _ _ _⟩
end Go.Proofs.YtppfnaenamcnpaaDoor.kit
namespace Go.Proofs.YtppfnaenamcnpaaDoor.kit
open Go.ChangeShapes Go.WideShapes Go.ChangeAt Go.RowKit
theorem findZ_has {Z : Int → Int} {n : Nat} : (∃ j : Nat, j ≤ n ∧ 0 ≤ Z (j : Int)) ↔ 0 ≤ (findZ Z (n : Int) 0).1 := by
 constructor
 · intro h
   obtain ⟨m, ⟨h1, h2⟩, h3⟩ := least_ex (R := fun j => j ≤ n ∧ 0 ≤ Z (j : Int)) h
   rw [findZ_first (x := (m : Int)) (by omega) h2 _ 0 (by omega) (by omega) rfl (fun j a b hz => by
    obtain ⟨k, rfl⟩ : ∃ k : Nat, j = (k : Int) := ⟨j.toNat, by omega⟩
    have := h3 k ⟨by omega, hz⟩
    omega)]
   show (0 : Int) ≤ (m : Int)
   omega
 · intro h
   by_cases c : ∃ j : Nat, j ≤ n ∧ 0 ≤ Z (j : Int)
   · exact c
   · rw [findZ_none _ 0 (by omega) rfl (fun j a b hz => c (by
        obtain ⟨k, rfl⟩ : ∃ k : Nat, j = (k : Int) := ⟨j.toNat, by omega⟩
        exact ⟨k, by omega, hz⟩))] at h
     simp at h
noncomputable def hasZ (s : ByteArray) (t : RT) : Bool := decide (0 ≤ (findZ (matchZ s.data.toList t) (s.size : Int) 0).1)
set_option maxRecDepth 100000 in
set_option maxHeartbeats 2000000 in
theorem specHas_any (t : RT) (s : ByteArray) (a : Option Addr) (cap : Nat) (w : World) (hs : s.size ≤ 1048576) (hc : RT.cost t ≤ 1048576) (hk : Kids 0 w t.kids a) :
 Calls Tryd.prog 15 #[reV t a cap, .string s] w fun e w' => e = .returned (.bool (hasZ s t)) ∧ Below w.heap.size w w' := by
 have HF := Lib.hid (fun W (hW : Below w.heap.size w W) => specFindRe_any t s 0 a cap W hs hc (hk.kept (Nat.le_refl _) hW))
 have HB := Lib.hid (show ∀ o, Below w.heap.size w (w.alloc o) from fun o => (Below.refl w.heap.size w).alloc (Nat.le_refl _) _)
 unfold hasZ
 generalize (findZ (matchZ s.data.toList t) (s.size : Int) 0).1 = f1 at *
 generalize (findZ (matchZ s.data.toList t) (s.size : Int) 0).2 = f2 at *
 obtain ⟨k, ss, n, lo, hi, ts⟩ := t
 unfold reV at *
 simp only [RT.kind, RT.set, RT.neg, RT.low, RT.high, RT.kids] at *
 obtain ⟨⟨x0, x1, x2, x3, x4, x5⟩, _⟩ := Box.start (k := k) (s := ss) (n := n) (lo := lo) (hi := hi) (ts := ts) (a := a) (cap := cap) w 26
 clear hk hs hc
 go_enter Tryd.func15, Tryd.ntmps15
 go_wp2_with fail
 refine (HF.out _ (HB.out _)).mono ?_
 rintro e w2 ⟨rfl, hb2⟩
 clear x0 x1 x2 x3 x4 x5
 have HB2 := Lib.hid ((HB.out _).trans (hb2.mono (HB.out _).size))
 clear hb2
 go_wp2_with fail
 go_ret
 exact ⟨rfl, HB2.out⟩
set_option maxRecDepth 100000 in
set_option maxHeartbeats 2000000 in
theorem implHas_any (t : RT) (s : ByteArray) (a : Option Addr) (cap : Nat) (w : World) (hs : s.size ≤ 1048576) (hc : RT.cost t ≤ 1048576) (hk : Kids 0 w t.kids a) (hT : BT w) :
 Calls Tryd.prog 14 #[reV t a cap, .string s] w fun e w' => e = .returned (.bool (hasZ s t)) ∧ Below w.heap.size w w' := by
 have hs9 : (s.size + 1) / 64 + 1 ≤ 1048576 := by omega
 have HF := Lib.hid (fun W (hW : Below w.heap.size w W) => beginnings_any t s a cap W hs hc (hk.kept (Nat.le_refl _) hW) (hT.kept hW))
 have HB := Lib.hid (show ∀ o, Below w.heap.size w (w.alloc o) from fun o => (Below.refl w.heap.size w).alloc (Nat.le_refl _) _)
 have HI := Lib.hid (fun j => begs_iff (s := s) (t := t) j)
 have HZ := Lib.hid (show hasZ s t = decide (0 ≤ (findZ (matchZ s.data.toList t) (s.size : Int) 0).1) from rfl)
 have HE := Lib.hid (findZ_has (Z := matchZ s.data.toList t) (n := s.size))
 unfold BegsPost at HF
 generalize hasZ s t = hz at *
 generalize matchZ s.data.toList t = Z at *
 obtain ⟨k, ss, n, lo, hi, ts⟩ := t
 unfold reV at *
 simp only [RT.kind, RT.set, RT.neg, RT.low, RT.high, RT.kids] at *
 obtain ⟨⟨x0, x1, x2, x3, x4, x5⟩, _⟩ := Box.start (k := k) (s := ss) (n := n) (lo := lo) (hi := hi) (ts := ts) (a := a) (cap := cap) w 26
 clear hk hs hc hT
 go_enter Tryd.func14, Tryd.ntmps14
 go_wp2_with fail
 refine (HF.out _ (HB.out _)).mono ?_
 rintro e w2 ⟨sk, ws, a', c', rfl, h1, h2, h3, h4, h5⟩
 clear x0 x1 x2 x3 x4 x5
 have HB2 := Lib.hid ((HB.out _).trans (h4.mono (HB.out _).size))
 have HN := Lib.hid (show (!(decide (ws.length = 0))) = hz from by
  rw [HZ.out]
  by_cases c : ws = []
  · subst c
    have hn : ¬ 0 ≤ (findZ Z (s.size : Int) 0).1 := fun h => by
        obtain ⟨j, h6, h7⟩ := HE.out.2 h
        exact memS_nil _ _ ((h3 j).2 ((HI.out j).2 ⟨h6, h7⟩))
    simp [hn]
  · have hp : 0 ≤ (findZ Z (s.size : Int) 0).1 := by
        refine HE.out.1 ?_
        by_cases d : ∃ j, memS sk ws j
        · obtain ⟨j, hj⟩ := d
          exact ⟨j, (HI.out j).1 ((h3 j).1 hj)⟩
        · exact absurd (h1.none (fun j hj => d ⟨j, hj⟩)) c
    have : ws.length ≠ 0 := fun e => c (List.length_eq_zero_iff.1 e)
    simp [hp, this])
 have HM := Lib.hid (setEmpty_any sk a' ws.length c' w2 (by have := h1.le; omega))
 obtain ⟨nn, hnn⟩ : ∃ nn, nn = ws.length := ⟨_, rfl⟩
 rw [← hnn] at HM HN ⊢
 clear h1 h2 h3 h4 h5 hnn
 unfold setV at HM ⊢
 go_wp2_with fail
 refine HM.out.mono ?_
 rintro e w3 ⟨rfl, hb3⟩
 have HB3 := Lib.hid (HB2.out.trans (hb3.mono HB2.out.size))
 clear hb3 HM
 generalize decide (nn = 0) = d0 at *
 go_wp2_with fail
 go_ret
 exact ⟨by rw [← HN.out]; simp [*], HB3.out⟩
end Go.Proofs.YtppfnaenamcnpaaDoor.kit
namespace Go.Proofs.YtppfnaenamcnpaaDoor.kit
theorem lastZ_cases {P : Nat → Prop} {L : Nat} (hb : ∀ k, P k → k ≤ L) : (lastZ P = -1 ∧ ∀ k, ¬ P k) ∨ ∃ m, P m ∧ (∀ k, P k → k ≤ m) ∧ lastZ P = (m : Int) := by
 by_cases h : ∃ k, P k
 · obtain ⟨k, hk⟩ := h
   obtain ⟨m, ⟨hm1, hm2⟩, hmin⟩ := least_ex (R := fun m => P (L - m) ∧ m ≤ L) ⟨L - k, by have := hb k hk; rw [show L - (L - k) = k by omega]; exact hk, by omega⟩
   have hmax : ∀ i, P i → i ≤ L - m := fun i hi => by
    have h1 := hb i hi
    have h2 := hmin (L - i) ⟨by rw [show L - (L - i) = i by omega]; exact hi, by omega⟩
    omega
   exact .inr ⟨L - m, hm1, hmax, lastZ_of hm1 hmax⟩
 · exact .inl ⟨lastZ_none (fun j hj => h ⟨j, hj⟩), fun k hk => h ⟨k, hk⟩⟩
theorem lastZ_or {P Q : Nat → Prop} {L : Nat} (hp : ∀ k, P k → k ≤ L) (hq : ∀ k, Q k → k ≤ L) : lastZ (fun k => P k ∨ Q k) = max (lastZ P) (lastZ Q) := by
 rcases lastZ_cases hp with ⟨e1, n1⟩ | ⟨m1, h1, g1, e1⟩ <;> rcases lastZ_cases hq with ⟨e2, n2⟩ | ⟨m2, h2, g2, e2⟩
 · rw [e1, e2, lastZ_none (fun j hj => hj.elim (n1 j) (n2 j))]; rfl
 · rw [e1, e2, lastZ_of (j := m2) (.inr h2) (fun i hi => hi.elim (fun x => absurd x (n1 i)) (g2 i))]; omega
 · rw [e1, e2, lastZ_of (j := m1) (.inl h1) (fun i hi => hi.elim (g1 i) (fun x => absurd x (n2 i)))]; omega
 · rw [e1, e2]
   by_cases c : m1 ≤ m2
   · rw [lastZ_of (j := m2) (.inr h2) (fun i hi => hi.elim (fun x => by have := g1 i x; omega) (g2 i))]; omega
   · rw [lastZ_of (j := m1) (.inl h1) (fun i hi => hi.elim (g1 i) (fun x => by have := g2 i x; omega))]; omega
theorem M_le_len {l : List UInt8} {t : RT} {i k : Nat} (hi : i ≤ l.length) (h : RT.M l t i k) : k ≤ l.length := (RT.M_bd l t i k h hi).2
theorem matchZ_alt {l : List UInt8} {x y : RT} {ss : ByteArray} {n : Bool} {lo hi : Int} {i : Nat} (hi' : i ≤ l.length) (ho : RT.ok (.node 4 ss n lo hi [x, y]) = true) (hx : RT.ok x = true) (hy : RT.ok y = true) :
 matchZ l (.node 4 ss n lo hi [x, y]) (i : Int) = max (matchZ l x (i : Int)) (matchZ l y (i : Int)) := by
 rw [matchZ_in hi' ho, matchZ_in hi' hx, matchZ_in hi' hy, ← lastZ_or (L := l.length) (fun k h => M_le_len hi' h) (fun k h => M_le_len hi' h)]
 exact congrArg lastZ (funext fun k => propext (RT.M_alt l ss n lo hi x y i k))
theorem matchZ_cat0 {l : List UInt8} {x : RT} {ss s0 : ByteArray} {n n0 : Bool} {lo hi lo0 hi0 : Int} {i : Nat} (hi' : i ≤ l.length) (ho : RT.ok (.node 3 ss n lo hi [.node 0 s0 n0 lo0 hi0 [], x]) = true) (hx : RT.ok x = true) :
 matchZ l (.node 3 ss n lo hi [.node 0 s0 n0 lo0 hi0 [], x]) (i : Int) = matchZ l x (i : Int) := by
 rw [matchZ_in hi' ho, matchZ_in hi' hx]
 refine congrArg lastZ (funext fun k => propext ?_)
 rw [RT.M_cat]
 constructor
 · rintro ⟨m, h1, h2⟩
   rw [RT.M_none] at h1
   subst h1; exact h2
 · intro h; exact ⟨i, (RT.M_none _ _ _ _ _ _ _ _).2 rfl, h⟩
theorem matchZ_maybe {l : List UInt8} {x : RT} {ss : ByteArray} {n : Bool} {i : Nat} (hi' : i ≤ l.length) (ho : RT.ok (.node 5 ss n 0 1 [x]) = true) (hx : RT.ok x = true) :
 matchZ l (.node 5 ss n 0 1 [x]) (i : Int) = max (matchZ l x (i : Int)) (i : Int) := by
 rw [matchZ_in hi' ho, matchZ_in hi' hx]
 have e : (fun k => RT.M l (.node 5 ss n 0 1 [x]) i k) = fun k => RT.M l x i k ∨ k = i := funext fun k => propext (by
  rw [RT.M_many]
  constructor
  · rintro ⟨q, h1, h2, h3⟩
    have : q = 0 ∨ q = 1 := by omega
    rcases this with rfl | rfl
    · exact .inr (show i = k from h3).symm
    · exact .inl ((rpow_one _ _ _).1 h3)
  · rintro (h | rfl)
    · exact ⟨1, by omega, .inr (by omega), (rpow_one _ _ _).2 h⟩
    · exact ⟨0, by omega, .inr (by omega), rfl⟩)
 rw [e, lastZ_or (L := l.length) (fun k h => M_le_len hi' h) (fun k h => by omega), lastZ_of (P := fun k => k = i) (j := i) rfl (fun k h => by omega)]
theorem findF_spec {Z : Int → Int} {n : Int} : ∀ (f : Nat) (i : Int), 0 ≤ (findF Z n f i).1 → 0 ≤ i ∧ i ≤ (findF Z n f i).1 ∧ (findF Z n f i).1 ≤ n ∧ (findF Z n f i).2 = Z (findF Z n f i).1 ∧ 0 ≤ Z (findF Z n f i).1 ∧ ∀ j, i ≤ j → j < (findF Z n f i).1 → ¬ 0 ≤ Z j
 | 0, i, h => by simp [findF] at h
 | f + 1, i, h => by
   unfold findF at h ⊢
   by_cases c : 0 ≤ i ∧ i ≤ n
   · rw [if_pos c] at h ⊢
     by_cases d : 0 ≤ Z i
     · rw [if_pos d]
       exact ⟨c.1, Int.le_refl _, c.2, rfl, d, fun j a b => by simp only at b; omega⟩
     · rw [if_neg d] at h ⊢
       obtain ⟨h1, h2, h3, h4, h5, h6⟩ := findF_spec f (i + 1) h
       refine ⟨c.1, by omega, h3, h4, h5, fun j a b => ?_⟩
       by_cases e : j = i
       · rw [e]; exact d
       · exact h6 j (by omega) b
   · rw [if_neg c] at h; simp at h
theorem findZ_spec {Z : Int → Int} {n i : Int} (h : 0 ≤ (findZ Z n i).1) : 0 ≤ i ∧ i ≤ (findZ Z n i).1 ∧ (findZ Z n i).1 ≤ n ∧ (findZ Z n i).2 = Z (findZ Z n i).1 ∧ 0 ≤ Z (findZ Z n i).1 ∧ ∀ j, i ≤ j → j < (findZ Z n i).1 → ¬ 0 ≤ Z j := findF_spec _ i h
end Go.Proofs.YtppfnaenamcnpaaDoor.kit
