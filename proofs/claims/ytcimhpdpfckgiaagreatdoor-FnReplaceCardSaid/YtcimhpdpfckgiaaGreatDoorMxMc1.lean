/-
  Contract of impl.Matches over this seat's translation. Conditions: a text of at most 1048576 bytes, a tree that costs at most so much; the table by which bits are told is there.
-/
import Derived.Test.YtcimhpdpfckgiaaGreatDoorMxIo1
import Derived.Test.YtcimhpdpfckgiaaGreatDoorMxMc0
import Derived.Test.YtcimhpdpfckgiaaGreatDoorMxMs8
set_option linter.unusedVariables false
set_option linter.unusedSimpArgs false
open Go.ChangeShapes Go.WideShapes Go.ChangeAt Go.RowKit
namespace Go.Proofs.YtcimhpdpfckgiaaGreatDoor.kit
attribute [local go_sem] Oper.semAt_some
theorem matchesIn_in (n : Nat) (t : RT) (s : ByteArray) (a : Option Addr) (cap : Nat) (w : World) :
 CallsIn Fence.wide n Tryz.prog 19 #[reV t a cap, .string s] w fun e w' => e = .returned (.func (.func 36) #[] #[.pointer (some ⟨w.heap.size, 0, none⟩), .pointer (some ⟨w.heap.size + 1, 0, none⟩)]) ∧ w' = (w.alloc (.cells #[.int .i64 t.kind, .string t.set, .bool t.neg, .int .i64 t.low, .int .i64 t.high, .slice a t.kids.length cap] 26)).alloc (.cells #[.string s] 9) := by
 obtain ⟨k, ss, nn, lo, hi, ts⟩ := t
 unfold reV
 simp only [RT.kind, RT.set, RT.neg, RT.low, RT.high, RT.kids]
 refine callsIn_of_wp Tryz.func19 rfl trivial ?_ rfl
 simp only [Tryz.ntmps19, List.size_toArray, List.length_cons, List.length_nil, Nat.reduceAdd, Nat.reduceSub, Array.replicate_succ, Array.replicate_zero, List.push_toArray, List.append_toArray, List.nil_append, List.cons_append]
 gi_wp2
 go_ret
 exact ⟨rfl, rfl⟩
theorem OwnPr.turns {B B' m : Nat} {W W' : World} {v : Value} {ps : List (Nat × Nat)} (h : OwnPr B W v ps) (hb : ∀ g, v.ownBlock = some g → g < B' ∨ m ≤ g) (ht : Turns B' m W W') : OwnPr B W' v ps := by
 obtain ⟨h1, h2⟩ := h
 rcases h2 with ⟨rfl, h0⟩ | ⟨g, cap, cur, rfl, hbg, hg, hr⟩
 · exact ⟨h1, .inl ⟨rfl, h0⟩⟩
 · exact ⟨h1, .inr ⟨g, cap, cur, rfl, hbg, ht.block g _ hg (by rcases hb g rfl with h | h; exact .inl h; exact .inr ⟨h, rfl⟩), hr⟩⟩
theorem Turns.below {B0 B m : Nat} {w W W' : World} (h : Below B0 w W) (ht : Turns B m W W') (hB : B0 ≤ B) (hz : B0 ≤ w.heap.size) : Below B0 w W' :=
 ⟨ht.os.trans h.os, ht.tape.trans h.tape, ht.output.trans h.output, Nat.le_trans h.size ht.size, fun k hk => (ht.low (by omega) (by have := h.size; omega)).trans (h.block k hk)⟩
structure PairI (B0 b g0 m : Nat) (w : World) (ps : List (Nat × Nat)) (W : World) : Prop where
 ex : ∃ v, Boxed W b 29 v ∧ OwnPr B0 W v ps ∧ ∀ g, v.ownBlock = some g → g = g0 ∨ m ≤ g
 bel : Below B0 w W
theorem PairI.turns {B0 b g0 B m : Nat} {w W W' : World} {ps : List (Nat × Nat)} (h : PairI B0 b g0 m w ps W) (ht : Turns B m W W') (hb : b < B) (hg : g0 < B) (hB : B0 ≤ B) (hz : B0 ≤ w.heap.size) : PairI B0 b g0 m w ps W' := by
 obtain ⟨⟨v, h1, h2, h3⟩, h4⟩ := h
 exact ⟨⟨v, ht.block _ _ h1 (.inl hb), h2.turns (fun g hgv => by rcases h3 g hgv with rfl | h; exact .inl hg; exact .inr h) ht, h3⟩, ht.below h4 hB hz⟩
set_option maxRecDepth 100000 in
set_option maxHeartbeats 4000000 in
theorem matches_in (n : Nat) (hn : 16 ≤ n) (t : RT) (s : ByteArray) (a : Option Addr) (cap : Nat) (w : World) (hs : s.size ≤ 1048576) (hc : RT.cost t ≤ 1048576) (hk : Kids 0 w t.kids a) (hT : BT w) :
 CallsIn Fence.wide n Tryz.prog 6 #[reV t a cap, .string s] w fun e w' => ∃ v, e = .returned v ∧ OwnPr w.heap.size w' v (matchesZ (matchZ s.data.toList t) s.size) ∧ Below w.heap.size w w' := by
 have hm1 : 1 ≤ n := by omega
 obtain ⟨B, hB⟩ : ∃ B, B = w.heap.size := ⟨_, rfl⟩
 obtain ⟨w2, hw2⟩ : ∃ w2, w2 = ((w.alloc (.cells #[.int .i64 t.kind, .string t.set, .bool t.neg, .int .i64 t.low, .int .i64 t.high, .slice a t.kids.length cap] 26)).alloc (.cells #[] 40)).alloc (.cells #[.slice (some ⟨w.heap.size + 1, 0, none⟩) 0 0] 29) := ⟨_, rfl⟩
 have hb2 : Below w.heap.size w w2 := by rw [hw2]; exact (((Below.refl _ w).alloc (Nat.le_refl _) _).alloc (by simp) _).alloc (by simp <;> omega) _
 have hz2 : w2.heap.size = B + 3 := by rw [hw2, hB]; simp
 obtain ⟨w5, hw5⟩ : ∃ w5, w5 = (w2.alloc (.cells #[.int .i64 t.kind, .string t.set, .bool t.neg, .int .i64 t.low, .int .i64 t.high, .slice a t.kids.length cap] 26)).alloc (.cells #[.string s] 9) := ⟨_, rfl⟩
 have hz5 : w5.heap.size = B + 5 := by rw [hw5]; simp; omega
 have hb25 : Below w2.heap.size w2 w5 := by rw [hw5]; exact ((Below.refl _ _).alloc (Nat.le_refl _) _).alloc (by simp) _
 have hE5 := FoundE.boxed (F := fun k => k < B) (b := B + 3) (s := s) (cap := cap) hz2.symm (fun X (hX : KeepB (fun k => k < B) w2 X) hz => (show Kids 0 X t.kids a ∧ BT X from by
  have e : ∀ k, k < w.heap.size → X.heap[k]? = w.heap[k]? := fun k hk' => (hX k (by omega)).trans (hb2.block k hk')
  exact ⟨hk.of (by omega) (fun b o _ hb => cob (a := ⟨b, o, none⟩) (e b hb)), hT.of (e _ hT.lt)⟩)) hw5 (fun k hk => by omega)
 have hseq := matches_seq (n - 1) (by omega) t s a cap (B + 3) (B + 4) (fun k => k < B ∨ k = B + 3 ∨ k = B + 4) w5 hs hc (fun k hk => by rcases hk with hk | rfl | rfl <;> omega) (.inl (by have := hT.lt; omega)) hE5
 have HFI := qd (matchesIn_in (n - 1) t s a cap w2)
 rw [← hw5, hz2] at HFI
 have hx2 : Boxed w2 (B + 2) 29 (.slice (some ⟨B + 1, 0, none⟩) 0 0) := by
  have h := Boxed.new ((w.alloc (.cells #[.int .i64 t.kind, .string t.set, .bool t.neg, .int .i64 t.low, .int .i64 t.high, .slice a t.kids.length cap] 26)).alloc (.cells #[] 40)) 29 (.slice (some ⟨w.heap.size + 1, 0, none⟩) 0 0)
  rw [← hw2, World.size_alloc, World.size_alloc, ← hB] at h; exact h
 have ho2 : OwnPr B w2 (.slice (some ⟨B + 1, 0, none⟩) 0 0) [] := by
  have h := ownPr_start (B := B) (w := w.alloc (.cells #[.int .i64 t.kind, .string t.set, .bool t.neg, .int .i64 t.low, .int .i64 t.high, .slice a t.kids.length cap] 26)) (by simp; omega)
  rw [World.size_alloc, ← hB] at h
  have h2 := h.kept (w' := w2) (by rw [hw2]; exact (Below.refl _ _).alloc (Nat.le_refl _) _)
  exact h2
 have hP5 : ∀ m, PairI B (B + 2) (B + 1) m w [] w5 := fun m =>
  ⟨⟨_, (hb25.block _ hx2.lt).trans hx2, ho2.kept hb25, fun g hg => by simp only [Value.ownBlock] at hg; injection hg with hg; exact .inl hg.symm⟩, by rw [hB]; exact hb2.trans (hb25.mono hb2.size)⟩
 have hf1 : Fence.wide.fn 19 := trivial
 have HW2 := qd hw2
 have HP5 := qd hP5
 have hbz := begsL_len (matchZ s.data.toList t) s.size
 have HL := qd (show w5.heap.size = B + 5 ∧ B = w.heap.size ∧ (begsL (matchZ s.data.toList t) s.size).length ≤ 1048577 from ⟨hz5, hB, by omega⟩)
 generalize matchZ s.data.toList t = Z at *
 clear hw2 hb2 hz2 hB hc hs hb25 hE5 hz5 hP5 hw5 hx2 ho2 hk hT hbz
 obtain ⟨k, ss, nn, lo, hi, ts⟩ := t
 unfold reV at *
 simp only [RT.kind, RT.set, RT.neg, RT.low, RT.high, RT.kids] at *
 refine callsIn_of_wp_marks Tryz.func6 rfl trivial ?_ rfl
 simp only [Tryz.ntmps6, List.size_toArray, List.length_cons, List.length_nil, Nat.reduceAdd, Nat.reduceSub, Array.replicate_succ, Array.replicate_zero, List.push_toArray, List.append_toArray, List.nil_append, List.cons_append]
 gi_wp2
 rw [← HW2.out]
 refine HFI.out.mono ?_
 rintro e w' ⟨rfl, he⟩
 have he2 := he.symm
 clear he
 subst he2
 gi_wp2
 have hBW : B = w.heap.size := HL.out.2.1
 have hW5 := HL.out.1
 refine wpIn_rangeO rfl hm1 (gf := 36) rfl trivial (enters_of Tryz.func36 (by kernel_rfl) rfl)
  hseq (fun h k => KeepB.trans h k) (fun X o' => fun k hk => World.putObj_heap_other (by rcases hk with hk | rfl | rfl <;> omega)) (Below.refl _ _) (fun _ => rfl)
  (fun m pre X => PairI B (B + 2) (B + 1) m w pre X)
  (fun m c pre X => False)
  (fun m pre X Y hm hs ht => hs.turns ht (by omega) (by omega) (by omega) (by omega))
  (fun m c pre X Y hm hs ht => hs)
  (fun m X hm hX => (HP5.out m).turns (Turns.of_below (B := w5.heap.size) (m := m) hX (Nat.le_refl _)) (by omega) (by omega) (by omega) (by omega))
  (fun p => { tmps := #[.agg #[.int .i64 k, .string ss, .bool nn, .int .i64 lo, .int .i64 hi, .slice a ts.length cap], .string s, .pointer (some ⟨w.heap.size, 0, none⟩), undef, .slice none 0 0, .pointer (some ⟨w.heap.size + 1 + 1, 0, none⟩), .int .i64 (p.1 : Int), .int .i64 (p.2 : Int), .slice (some ⟨w.heap.size + 1, 0, none⟩) 0 0, .agg #[.int .i64 k, .string ss, .bool nn, .int .i64 lo, .int .i64 hi, .slice a ts.length cap], .string s, .func (.func 36) #[] #[.pointer (some ⟨w.heap.size + 3, 0, none⟩), .pointer (some ⟨w.heap.size + 3 + 1, 0, none⟩)], .int .i64 (p.1 : Int), .int .i64 (p.2 : Int), undef, undef, undef, undef, undef, undef, undef], defers := [] }) ?assign ?body ?done ?stop
 case assign =>
  intro l' x X K hK
  unfold pairV
  gi_wp2
  exact hK
 case stop =>
  rintro D' m c pre X hm hmX hD hDm _ h _
  exact h.elim
 case done =>
  rintro D' m ys X hm hmX hD hDm hys ⟨⟨v, hv, ho, hg⟩, hbel⟩ hK
  obtain ⟨a', cap', rfl, _⟩ := ho.look
  have hc := hv.cell
  rw [hBW] at hc
  have HK := qd hK
  have HO := qd (show OwnPr w.heap.size (X.putObj D' (.deferred none)) (.slice a' ys.length cap') (matchesZ Z s.size) from by rw [← hys, ← hBW]; exact ownsRow_putObj ho _ hK rfl)
  have HBL := qd (show Below w.heap.size w (X.putObj D' (.deferred none)) from by rw [← hBW]; exact (Turns.putObj (B := w5.heap.size) (m := m) X _ hD hDm).below hbel (by omega) (by omega))
  clear hK hv ho hg hbel hseq hys
  gi_wp2
  refine ⟨by simp, .inl ⟨_, _, rfl, run_takeDeferred HK.out, ?_⟩⟩
  exact ⟨_, results_tmp rfl _ _ _, .slice a' ys.length cap', rfl, HO.out, HBL.out⟩
 case body =>
  rintro l2 m pre ⟨b, e⟩ X hm hmX ⟨⟨v, hv, ho, hg⟩, hbel⟩ hnx
  simp only
  have hc := hv.cell
  have hpl : pre.length + 1 ≤ 1099511627776 := by have := hnx.2.2.2; have := HL.out.2.2; omega
  rw [hBW] at hc
  have hBX : B ≤ X.heap.size := by omega
  have HX := qd (And.intro hm (And.intro hmX (And.intro hg hbel)))
  have HV := qd (And.intro hv ho)
  clear hg hbel hnx hseq hv ho
  gi_wp2_with (gi_at_builtin; refine wpIn_append_pair rfl _ _ rfl B v pre rfl (HV.out.2.kept ((Below.refl _ _).alloc (Nat.le_refl _) _)) X.heap.size 1 (b, e) rfl (by rw [World.cell?_alloc_at _ _ _ _ (by simp)]; rfl) (by rw [World.cell?_alloc_at _ _ _ _ (by simp)]; rfl) hpl (by simp; omega) ?_; intro v' w1 ho1 hg1 hb1; obtain ⟨g', cap', rfl⟩ := ownsRow_succ (show w1.ownsRow B 40 2 v' (pre.length + 1) (prVals (pre ++ [(b, e)])) from by have h := ho1; unfold OwnPr at h; rwa [List.length_append] at h); obtain ⟨hv1, hv2, hr2, hk2, hb2⟩ := HV.out.1.appended (by decide) HV.out.2 hBX (by omega) ho1 hg1; rw [hBW] at hv1 hv2 hr2 hk2 hb2; have hc1 := hv1.cell; have hf1 := hv1.frozen)
  obtain ⟨hm', hmX', hg', hbel'⟩ := HX.out
  have hst : ∀ k, k ≠ w.heap.size + 2 → k < X.heap.size → v.ownBlock ≠ some k → (w1.setCell ⟨w.heap.size + 2, 0, none⟩ (.slice (some ⟨g', 0, none⟩) (pre.length + 1) cap')).heap[k]? = X.heap[k]? := fun k h1 h2 h3 =>
   (Below.heap_setCell _ _ _ _ h1).trans ((hg1.block k (by simp; omega) (fun e => h3 e.symm)).trans (Below.heap_alloc _ _ _ h2))
  have hro : ∀ k, k ≠ B + 1 → k < m → v.ownBlock ≠ some k := fun k h1 h2 e => by rcases hg' k e with h | h <;> omega
  refine ⟨hk2.from _, ⟨hk2.from _, fun k h1 h2 => hst k (by omega) (by omega) (hro k (by omega) h2)⟩, ⟨⟨_, by rw [hBW]; exact hv2, ?_, ?_⟩, ?_⟩, ?_⟩
  · rw [hBW]
    show World.ownsRow _ _ _ 2 _ (pre ++ [(b, e)]).length (prVals (pre ++ [(b, e)]))
    exact hr2
  · intro g hgv
    rcases hb1 g hgv with h | h
    · exact hg' g h
    · right; simp at h; omega
  · rw [hBW] at hbel' ⊢
    exact hbel'.trans (hb2.mono (Nat.le_refl _))
  · intro k hk
    rcases hk with hk | rfl | rfl
    · exact hst k (by omega) (by omega) (hro k (by omega) (by omega))
    · exact hst _ (by omega) (by omega) (hro _ (by omega) (by omega))
    · exact hst _ (by omega) (by omega) (hro _ (by omega) (by omega))
end Go.Proofs.YtcimhpdpfckgiaaGreatDoor.kit
namespace Go.Proofs.YtcimhpdpfckgiaaGreatDoor.kit
theorem implMatches_any (t : RT) (s : ByteArray) (a : Option Addr) (cap : Nat) (w : World) (hs : s.size ≤ 1048576) (hc : RT.cost t ≤ 1048576) (hk : Kids 0 w t.kids a) (hT : BT w) :
 Calls Tryz.prog 6 #[reV t a cap, .string s] w fun e w' => ∃ v, e = .returned v ∧ OwnPr w.heap.size w' v (matchesZ (matchZ s.data.toList t) s.size) ∧ Below w.heap.size w w' :=
 callsIn_wide.1 (matches_in 16 (Nat.le_refl _) t s a cap w hs hc hk hT)
theorem matchRest_nil {Z : Int → Int} {n i : Nat} {acc : List (Nat × Nat)} {last : Int} (h : foundZ Z n i = []) (hw : ((foundZ Z n i).foldl matchStep (acc, last)).1 = matchesZ Z n) : acc = matchesZ Z n := by
 rw [h] at hw; exact hw
theorem matchStep_no {s : List (Nat × Nat) × Int} {p : Nat × Nat} (h : p.1 = p.2 ∧ (p.1 : Int) = s.2) : matchStep s p = s := by unfold matchStep; rw [if_pos h]
theorem matchStep_yes {s : List (Nat × Nat) × Int} {p : Nat × Nat} (h : ¬ (p.1 = p.2 ∧ (p.1 : Int) = s.2)) : matchStep s p = (s.1 ++ [p], (p.2 : Int)) := by unfold matchStep; rw [if_neg h]
theorem foundZ_out {Z : Int → Int} {n i : Nat} (h : n < i) : foundZ Z n i = [] := foundF_none _ _ _ (fun b hb => by have := ((begsL_mem Z n b).1 hb).1; omega)
theorem Box.below {p : Nat} {k : Int} {s : ByteArray} {n : Bool} {lo hi : Int} {ts : List RT} {a : Option Addr} {cap : Nat} {w w' : World} (h : Box p k s n lo hi ts a cap w) (hb : Below (p + 1) w w') : Box p k s n lo hi ts a cap w' := by
 obtain ⟨⟨h0, h1, h2, h3, h4, h5⟩, q⟩ := h
 have e : ∀ j, w'.cell? ⟨p, j, none⟩ = w.cell? ⟨p, j, none⟩ := fun j => cob (a := ⟨p, j, none⟩) (hb.block p (Nat.lt_succ_self p))
 exact ⟨⟨(e _).trans h0, (e _).trans h1, (e _).trans h2, (e _).trans h3, (e _).trans h4, (e _).trans h5⟩, Nat.lt_of_lt_of_le q hb.size⟩
set_option maxRecDepth 100000 in
set_option maxHeartbeats 2000000 in
theorem specMatches_any (t : RT) (s : ByteArray) (a : Option Addr) (cap : Nat) (w : World) (hs : s.size ≤ 1048576) (hc : RT.cost t ≤ 1048576) (hk : Kids 0 w t.kids a) :
 Calls Tryz.prog 7 #[reV t a cap, .string s] w fun e w' => ∃ v, e = .returned v ∧ OwnPr w.heap.size w' v (matchesZ (matchZ s.data.toList t) s.size) ∧ Below w.heap.size w w' := by
 have HK := qd hk
 have HM := qd (fun W (j : Nat) h => specFindRe_any t s (j : Int) a cap W hs hc h)
 have hsm : (s.size : Int) ≤ 1048576 := by omega
 have HB := qd (show ∀ o, Below w.heap.size w (w.alloc o) from fun o => (Below.refl w.heap.size w).alloc (Nat.le_refl _) _)
 have HZL := qd (show ∀ j : Nat, j ≤ s.size → 0 ≤ matchZ s.data.toList t (j : Int) → (j : Int) ≤ matchZ s.data.toList t (j : Int) ∧ matchZ s.data.toList t (j : Int) ≤ s.size from matchZ_bd)
 generalize matchZ s.data.toList t = Z at *
 have HNX := qd (fun i => foundZ_next (fun j h1 h2 => (HZL.out j h1 h2).1) i)
 clear hk hs
 obtain ⟨k, ss, n, lo, hi, ts⟩ := t
 unfold reV
 simp only [RT.set, RT.kids, RT.kind, RT.neg, RT.low, RT.high, reV] at *
 have HBX0 := qd (Box.start (k := k) (s := ss) (n := n) (lo := lo) (hi := hi) (ts := ts) (a := a) (cap := cap) w 26)
 have HO0 := qd (show ∀ o, OwnPr (w.heap.size + 1) ((w.alloc o).alloc (.cells #[] 40)) (.slice (some ⟨w.heap.size + 1, 0, none⟩) 0 0) [] from fun o => by
  have h := ownPr_start (B := w.heap.size + 1) (w := w.alloc o) (by simp)
  rw [World.size_alloc] at h; exact h)
 go_enter Tryz.func7, Tryz.ntmps7
 go_wp2_with fail
 go_loopg [5, 6, 7] (s.size + 1) (fun gg vo vl vi wr => ∃ (a' : Option Addr) (cap' : Nat) (acc : List (Nat × Nat)) (last : Int) (i : Nat), vo = .slice a' acc.length cap' ∧ vl = .int .i64 last ∧ vi = .int .i64 (i : Int) ∧ gg = s.size + 1 - i ∧ i ≤ s.size + 1 ∧ acc.length ≤ i ∧ OwnPr (w.heap.size + 1) wr (.slice a' acc.length cap') acc ∧ ((foundZ Z s.size i).foldl matchStep (acc, last)).1 = matchesZ Z s.size ∧ Box w.heap.size k ss n lo hi ts a cap wr ∧ Below w.heap.size w wr)
 case atStart => exact ⟨_, _, [], -1, 0, rfl, rfl, rfl, rfl, Nat.zero_le _, Nat.le_refl _, HO0.out _, rfl, HBX0.out.step ((Below.refl _ _).alloc (Nat.le_refl _) _), (HB.out _).alloc (by simp) _⟩
 case round =>
  obtain ⟨a', cap', acc, last, i, rfl, rfl, rfl, hgk, hi1, hai, ho, hfz, hbx, hbe⟩ := hrel
  have HGK := qd hgk
  have HFZ := qd hfz
  have HBX := qd hbx
  have HBE := qd hbe
  have HO := qd ho
  clear hgk hfz hbx hbe ho
  obtain ⟨⟨x0, x1, x2, x3, x4, x5⟩, _⟩ := HBX.out
  obtain ⟨la, hla⟩ : ∃ la, la = acc.length := ⟨_, rfl⟩
  have HLA := qd hla
  rw [← hla] at hai HO ⊢
  clear hla
  by_cases h1 : i ≤ s.size
  · have h1' : (i : Int) ≤ (s.size : Int) := by omega
    rcases HNX.out i with ⟨e1, e2⟩ | ⟨b, hb1, hb2, hb3, hb4, hb5⟩
    · have HM1 := qd (fun W h => HM.out W i h)
      rw [e1] at HM1
      have HEND := qd (matchRest_nil e2 HFZ.out)
      clear e1 e2
      go_wp2_with fail
      refine (HM1.out _ (HK.out.kept (Nat.le_refl _) HBE.out)).mono ?_
      rintro e w2 ⟨rfl, hb2⟩
      have HB2 := qd hb2
      clear hb2
      go_wp2_with fail
      go_ret
      refine ⟨_, rfl, ?_, HBE.out.trans (HB2.out.mono HBE.out.size)⟩
      have h := (HO.out.kept HB2.out).mono (B' := w.heap.size) (by omega)
      rw [HLA.out, HEND.out] at h
      rw [HLA.out, HEND.out]
      exact h
    · have hz := HZL.out b hb2 hb4
      obtain ⟨zn, hzn⟩ : ∃ zn : Nat, zn = (Z (b : Int)).toNat := ⟨_, rfl⟩
      have hzx : Z (b : Int) = (zn : Int) := by omega
      have HM1 := qd (fun W h => HM.out W i h)
      rw [hb3, hzx] at HM1
      rw [← hzn] at hb5
      have HF5 := qd hb5
      have hzb : b ≤ zn ∧ zn ≤ s.size := by omega
      clear hb3 hb4 hb5 hz hzn hzx
      go_wp2_with fail
      refine (HM1.out _ (HK.out.kept (Nat.le_refl _) HBE.out)).mono ?_
      rintro e w2 ⟨rfl, hw2⟩
      have HB2 := qd (HBE.out.trans (hw2.mono HBE.out.size))
      have HX2 := qd (HBX.out.step hw2)
      have HO2 := qd (HO.out.kept hw2)
      have hbn : ¬ ((b : Int) < 0) := by omega
      have hbn2 : decide ((b : Int) < 0) = false := by rw [decide_eq_false_iff_not]; exact hbn
      clear hw2 x0 x1 x2 x3 x4 x5 HM1
      by_cases hbz : zn = b
      · subst hbz
        have hltd : decide ((zn : Int) < (zn : Int)) = false := by rw [decide_eq_false_iff_not]; omega
        have heq : ((zn : Int) == (zn : Int)) = true := by rw [beq_iff_eq]
        have hw : IntKind.i64.wrap ((zn : Int) + 1) = (zn : Int) + 1 := by rw [IntKind.wrap_i64]; omega
        by_cases hbl : (zn : Int) = last
        · have hbe : ((zn : Int) != last) = false := by simp [hbl]
          have HBL := qd hbl
          clear hbl
          go_wp2_with fail
          go_roundg (s.size + 1 - (zn + 1))
          case rel =>
           refine ⟨a', cap', acc, last, zn + 1, by rw [HLA.out], rfl, by go_num, rfl, by omega, by have := HLA.out; omega, by rw [← HLA.out]; exact HO2.out, ?_, HX2.out, HB2.out⟩
           have h := HFZ.out
           rw [HF5.out, List.foldl_cons, matchStep_no (s := (acc, last)) (p := (zn, zn)) ⟨rfl, HBL.out⟩] at h
           simpa using h
          case measure => have := HGK.out; omega
        · have hbe : ((zn : Int) != last) = true := by rw [bne_iff_ne]; exact hbl
          have HBL := qd hbl
          clear hbl
          go_wp2_with (at_builtin; refine wp_append_pair rfl _ _ rfl (w.heap.size + 1) (.slice a' la cap') acc rfl (HO2.out.kept ((Below.refl _ _).alloc (Nat.le_refl _) _)) w2.heap.size 1 (zn, zn) rfl (by rw [World.cell?_alloc_at _ _ _ _ (by simp)]; rfl) (by rw [World.cell?_alloc_at _ _ _ _ (by simp)]; rfl) (by have := HLA.out; omega) (by have := HX2.out.2; simp; omega) ?_; intro v3 w3 ho3 hg3 hb3; obtain ⟨a3, cap3, rfl, _⟩ := ho3.look; have hB3 := qd (show Below (w.heap.size + 1) w2 w3 from Below.grown ((Below.refl _ _).alloc HX2.out.2 _) hg3 (by have := HX2.out.2; simp; omega) (fun q hq => (HO2.out.lt q hq).1)); have HO3 := qd ho3; clear ho3 hg3 hb3; obtain ⟨l3, hl3⟩ : ∃ l3, l3 = (acc ++ [(zn, zn)]).length := ⟨_, rfl⟩; have HL3 := qd hl3; rw [← hl3] at HO3 ⊢; clear hl3)
          go_roundg (s.size + 1 - (zn + 1))
          case rel =>
           refine ⟨a3, cap3, acc ++ [(zn, zn)], (zn : Int), (zn + 1), by rw [HL3.out], rfl, by go_num, rfl, by omega, by rw [List.length_append]; have := HLA.out; simp; omega, by rw [← HL3.out]; exact HO3.out, ?_, HX2.out.below hB3.out, HB2.out.trans (hB3.out.mono (by omega))⟩
           have h := HFZ.out
           rw [HF5.out, List.foldl_cons, matchStep_yes (s := (acc, last)) (p := (zn, zn)) (fun h => HBL.out h.2)] at h
           simpa using h
          case measure => have := HGK.out; omega
      · have hlt : (b : Int) < (zn : Int) := by omega
        have hltd : decide ((b : Int) < (zn : Int)) = true := by rw [decide_eq_true_iff]; exact hlt
        have heq : ((zn : Int) == (b : Int)) = false := by rw [beq_eq_false_iff_ne]; omega
        go_wp2_with (at_builtin; refine wp_append_pair rfl _ _ rfl (w.heap.size + 1) (.slice a' la cap') acc rfl (HO2.out.kept ((Below.refl _ _).alloc (Nat.le_refl _) _)) w2.heap.size 1 (b, zn) rfl (by rw [World.cell?_alloc_at _ _ _ _ (by simp)]; rfl) (by rw [World.cell?_alloc_at _ _ _ _ (by simp)]; rfl) (by have := HLA.out; omega) (by have := HX2.out.2; simp; omega) ?_; intro v3 w3 ho3 hg3 hb3; obtain ⟨a3, cap3, rfl, _⟩ := ho3.look; have hB3 := qd (show Below (w.heap.size + 1) w2 w3 from Below.grown ((Below.refl _ _).alloc HX2.out.2 _) hg3 (by have := HX2.out.2; simp; omega) (fun q hq => (HO2.out.lt q hq).1)); have HO3 := qd ho3; clear ho3 hg3 hb3; obtain ⟨l3, hl3⟩ : ∃ l3, l3 = (acc ++ [(b, zn)]).length := ⟨_, rfl⟩; have HL3 := qd hl3; rw [← hl3] at HO3 ⊢; clear hl3)
        go_roundg (s.size + 1 - zn)
        case rel =>
         refine ⟨a3, cap3, acc ++ [(b, zn)], (zn : Int), zn, by rw [HL3.out], rfl, by go_num, rfl, by omega, by rw [List.length_append]; have := HLA.out; simp; omega, by rw [← HL3.out]; exact HO3.out, ?_, HX2.out.below hB3.out, HB2.out.trans (hB3.out.mono (by omega))⟩
         have h := HFZ.out
         rw [HF5.out, List.foldl_cons, matchStep_yes (s := (acc, last)) (p := (b, zn)) (fun h => hbz h.1.symm), if_neg hbz] at h
         exact h
        case measure => have := HGK.out; omega
  · have HEND := qd (matchRest_nil (foundZ_out (by omega)) HFZ.out)
    have h1' : ¬ (i : Int) ≤ (s.size : Int) := by omega
    go_wp2_with fail
    go_ret
    refine ⟨_, rfl, ?_, HBE.out⟩
    have h := HO.out.mono (B' := w.heap.size) (by omega)
    rw [HLA.out, HEND.out] at h
    rw [HLA.out, HEND.out]
    exact h
end Go.Proofs.YtcimhpdpfckgiaaGreatDoor.kit
