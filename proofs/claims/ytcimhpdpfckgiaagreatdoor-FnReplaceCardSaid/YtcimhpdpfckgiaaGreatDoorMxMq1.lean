/-
  A loop over a set that gathers a set: what it keeps. Contract of bytePart's pass over this seat's translation. Conditions: each theorem names its own.
-/
import Derived.Test.YtcimhpdpfckgiaaGreatDoorMxMx1
import Derived.Test.YtcimhpdpfckgiaaGreatDoorShelf
import Derived.Lib.IndexAny
import Derived.Deep.RegionHeld3
set_option linter.unusedVariables false
namespace Go.Proofs.YtcimhpdpfckgiaaGreatDoor.kit
open Go.ChangeShapes Go.WideShapes Go.ChangeAt Go.RowKit Go.Shelf
attribute [local go_sem] Oper.semAt_some
theorem cell_isCells {w : World} {a : Addr} {v : Value} {o : Obj} (h : w.cell? a = some v) (ho : w.heap[a.block]? = some o) : o.isCells = true := by
 unfold World.cell? at h
 rw [ho] at h
 cases o <;> simp_all [Obj.isCells]
theorem SetAt.rowCells {B q o sk : Nat} {ws : List Nat} {r : Option Nat} {w : World} (h : SetAt B q o sk ws r w) {k : Nat} (hk : r = some k) {ob : Obj} (ho : w.heap[k]? = some ob) : ob.isCells = true := by
 obtain ⟨a, c, _, hw, hr⟩ := h.c1
 rcases hw.2 with ⟨hv, _⟩ | ⟨g, cap, cur, hv, _, hg, _⟩
 · rw [hv] at hr; rw [← hr] at hk; simp [Value.ownBlock] at hk
 · rw [hv] at hr; rw [← hr] at hk
   simp only [Value.ownBlock, Option.some.injEq] at hk
   subst hk
   rw [hg] at ho
   cases ho; rfl
structure Gat (B q N : Nat) (M : Nat → Prop) (w0 W : World) : Prop where
 ex : ∃ sk ws r, SetAt B q 0 sk ws r W ∧ SetB N sk ws ∧ (∀ j, memS sk ws j ↔ M j) ∧ SetChg q 0 none r w0 W
 lt : q < w0.heap.size
theorem Gat.own {β : Type} (B q N : Nat) (M : β → Nat → Prop) (w0 : World) : OwnFrom w0.heap.size (fun s W => Gat B q N (M s) w0 W) := fun s W W' row h hg hrow => by
 obtain ⟨⟨sk, ws, r, h1, h2, h3, h4⟩, hq⟩ := h
 have hb : ∀ k, k < W.heap.size → (∀ ob, W.heap[k]? = some ob → ob.isCells = true) → W'.heap[k]? = W.heap[k]? := fun k hk hc => hg.block k hk (fun e => by
  obtain ⟨_, ob, ho, hn⟩ := hrow k e.symm
  have := hc ob ho; rw [hn] at this; cases this)
 have hqb := hb q h1.lt (fun ob ho => cell_isCells (a := ⟨q, 0, none⟩) h1.c0 ho)
 refine ⟨⟨sk, ws, r, h1.keep hqb (fun k hk => hb k (h1.rlt k hk).2 (fun ob ho => h1.rowCells hk ho)), h2, h3, ?_⟩, hq⟩
 exact ⟨hg.os.trans h4.os, hg.tape.trans h4.tape, hg.output.trans h4.output, Nat.le_trans h4.size hg.size, fun k hk e1 e2 => (hg.block k (Nat.lt_of_lt_of_le hk h4.size) (fun e => by have := (hrow k e.symm).1; omega)).trans (h4.block k hk e1 e2),
  fun j e1 e2 => (cob (a := ⟨q, j, none⟩) hqb).trans (h4.cell j e1 e2), fun j => (World.frozen?_of_block (a := ⟨q, j, none⟩) hqb).trans (h4.frozen j), h4.row⟩
theorem SetChg.others {B q o sk : Nat} {ws : List Nat} {r r' : Option Nat} {w w' : World} (h : SetChg q o r r' w w') (hs : SetAt B q o sk ws r w) (D : Nat) : KeepsFrom D w w' :=
 ⟨h.size, fun k ob _ hk hc => (h.block k (Array.getElem?_eq_some_iff.1 hk).1 (fun e => by subst e; rw [cell_isCells (a := ⟨k, o, none⟩) hs.c0 hk] at hc; cases hc) (fun e => by rw [hs.rowCells e.symm hk] at hc; cases hc)).trans hk⟩
theorem Gat.keep {B q N : Nat} {M : Nat → Prop} {w0 W : World} (h : Gat B q N M w0 W) (k : Nat) (hk : k < w0.heap.size) (hq : k ≠ q) : W.heap[k]? = w0.heap[k]? := by
 obtain ⟨⟨sk, ws, r, h1, h2, h3, h4⟩, _⟩ := h
 exact h4.block k hk hq (by simp)
def takesB (bs : ByteArray) (n : Bool) (b : UInt8) : Bool := bs.data.toList.contains b != n
def byteN (s : List UInt8) (back : Bool) (bs : ByteArray) (n : Bool) (i j : Nat) : Prop := ∃ b, stepN s back i = some (b, j) ∧ takesB bs n b = true
theorem Gat.congr {B q N : Nat} {M M' : Nat → Prop} {w0 W : World} (h : Gat B q N M w0 W) (e : ∀ j, M j ↔ M' j) : Gat B q N M' w0 W := by
 obtain ⟨⟨sk, ws, r, h1, h2, h3, h4⟩, hq⟩ := h
 exact ⟨⟨sk, ws, r, h1, h2, fun j => (h3 j).trans (e j), h4⟩, hq⟩
theorem Gat.step {B q N : Nat} {M : Nat → Prop} {w0 W W' : World} (h : Gat B q N M w0 W) (hb : Below W.heap.size W W') : Gat B q N M w0 W' := by
 obtain ⟨⟨sk, ws, r, h1, h2, h3, h4⟩, hq⟩ := h
 exact ⟨⟨sk, ws, r, h1.kept hb, h2, h3, h4.trans (.of_below h1.lt hb)⟩, hq⟩
theorem below_others {W W' : World} (h : Below W.heap.size W W') (D : Nat) : KeepsFrom D W W' := ⟨h.size, fun k ob _ hk _ => (h.block k (Array.getElem?_eq_some_iff.1 hk).1).trans hk⟩
theorem byteN_snoc (s : List UInt8) (back : Bool) (bs : ByteArray) (n : Bool) (xs : List Nat) (x j : Nat) : img (byteN s back bs n) (· ∈ xs) j ∨ (∃ b, stepN s back x = some (b, j) ∧ takesB bs n b = true) ↔ img (byteN s back bs n) (· ∈ xs ++ [x]) j := by
 unfold img byteN
 constructor
 · rintro (⟨i, h1, h2⟩ | h)
   · exact ⟨i, by simp [h1], h2⟩
   · exact ⟨x, by simp, h⟩
 · rintro ⟨i, h1, h2⟩
   rcases List.mem_append.1 h1 with h | h
   · exact .inl ⟨i, h, h2⟩
   · rw [List.mem_singleton] at h; subst h; exact .inr h2
theorem stepN_bd (s : List UInt8) (back : Bool) (i : Nat) (b : UInt8) (j : Nat) (h : stepN s back i = some (b, j)) : j ≤ s.length := by
 unfold stepN at h
 split at h
 · split at h
   · cases h
   · simp only [Option.some.injEq, Prod.mk.injEq] at h; omega
 · split at h
   · simp only [Option.some.injEq, Prod.mk.injEq] at h; omega
   · cases h
set_option maxRecDepth 100000 in
set_option maxHeartbeats 1000000 in
theorem passB_in (m : Nat) (hm : 8 ≤ m) (N p : Nat) (s : ByteArray) (back : Bool) (bs : ByteArray) (nt : Bool) (sk : Nat) (ws : List Nat) (a : Option Addr) (c : Nat) (w : World) (hp : p < w.heap.size) (h0 : w.cell? ⟨p, 0, none⟩ = some (.string s)) (h1 : w.cell? ⟨p, 1, none⟩ = some (.bool back))
 (h7 : w.cell? ⟨p, 7, none⟩ = some (.string bs)) (h8 : w.cell? ⟨p, 8, none⟩ = some (.bool nt)) (hb : SetB N sk ws) (hN : N ≤ 1048576) (hs : s.size ≤ 1048576) (hL : (s.size + 1) / 64 < N) (hw : WordsAt w ws a) (hT : BT w) (hin : ∀ j, memS sk ws j → j ≤ s.size) (ha : ∀ x, a = some x → x.block < w.heap.size) :
 CallsIn Fence.wide m Tryz.prog 99 #[.pointer (some ⟨p, 0, none⟩), setV sk a ws.length c] w (PassSet N a (img (byteN s.data.toList back bs nt) (memS sk ws)) w) := by
 have hm1 : 1 ≤ m := by omega
 have hle := hb.le
 obtain ⟨n, hn⟩ : ∃ n, n = ws.length := ⟨_, rfl⟩
 have HN := qd hn
 rw [← hn]
 obtain ⟨w5, hw5⟩ : ∃ w5, w5 = ((((w.alloc (.cells #[.pointer (some ⟨p, 0, none⟩)] 113)).alloc (.cells #[.int .i64 (sk : Int), .slice a n c] 68)).alloc (.cells #[.int .i64 0, .slice none 0 0] 68)).alloc (.cells #[.int .i64 0, .slice none 0 0] 68)).alloc (.cells #[.int .i64 (sk : Int), .slice a n c] 68) := ⟨_, rfl⟩
 have hz5 : w5.heap.size = w.heap.size + 5 := by rw [hw5]; simp
 have hb5 : Below w.heap.size w w5 := by rw [hw5]; exact (((((Below.refl _ w).alloc (Nat.le_refl _) _).alloc (by simp) _).alloc (by simp; omega) _).alloc (by simp; omega) _).alloc (by simp; omega) _
 have y0 : w5.cell? ⟨w.heap.size, 0, none⟩ = some (.pointer (some ⟨p, 0, none⟩)) := by
  rw [hw5, World.cell?_alloc_past _ _ _ (by simp; try omega), World.cell?_alloc_past _ _ _ (by simp; try omega), World.cell?_alloc_past _ _ _ (by simp; try omega), World.cell?_alloc_past _ _ _ (by simp; try omega), World.cell?_alloc_at _ _ _ _ rfl]; rfl
 have y2 : ∀ j, w5.cell? ⟨w.heap.size + 2, j, none⟩ = #[Value.int .i64 0, .slice none 0 0][j]? := fun j => by
  rw [hw5, World.cell?_alloc_past _ _ _ (by simp; try omega), World.cell?_alloc_past _ _ _ (by simp; try omega), World.cell?_alloc_at _ _ _ _ (by simp)]
 have g2 : ∀ j, w5.frozen? ⟨w.heap.size + 2, j, none⟩ = false := fun j => by
  rw [hw5, World.frozen?_alloc_past _ _ _ (by simp; try omega), World.frozen?_alloc_past _ _ _ (by simp; try omega), World.frozen?_alloc_at _ _ _ _ (by simp)]
 have y4 : ∀ j, w5.cell? ⟨w.heap.size + 4, j, none⟩ = #[Value.int .i64 (sk : Int), .slice a n c][j]? := fun j => by
  rw [hw5, World.cell?_alloc_at _ _ _ _ (by simp)]
 have hs5 : SetAt (w.heap.size + 5) (w.heap.size + 3) 0 0 [] none w5 := by
  have h := SetAt.new (((w.alloc (.cells #[.pointer (some ⟨p, 0, none⟩)] 113)).alloc (.cells #[.int .i64 (sk : Int), .slice a n c] 68)).alloc (.cells #[.int .i64 0, .slice none 0 0] 68)) 68
  have h2 := h.kept ((Below.refl _ _).alloc (Nat.le_refl _) (.cells #[.int .i64 (sk : Int), .slice a n c] 68))
  rw [← hw5] at h2
  obtain ⟨k0, ⟨a', c', k1, k2, k3⟩, k4, k5, k6⟩ := h2
  simp only [World.size_alloc] at k0 k1 k4 k5 k6
  refine ⟨k0, ⟨a', c', k1, ?_, k3⟩, k4, k5, k6⟩
  rcases k2.2 with k7 | ⟨g, cap, cur, hv, _⟩
  · exact ⟨k2.1, .inl k7⟩
  · rw [hv] at k3; simp [Value.ownBlock] at k3
 have hG0 : Gat (w.heap.size + 5) (w.heap.size + 3) N (img (byteN s.data.toList back bs nt) (· ∈ ([] : List Nat))) w5 w5 := ⟨⟨0, [], none, hs5, SetB.nil _ _ (by omega), fun j => by simp [memS_nil, img], .of_below hs5.lt (Below.refl _ _)⟩, by omega⟩
 have x0 := y4 0
 have x1 := y4 1
 simp only [List.getElem?_toArray, List.getElem?_cons_succ, List.getElem?_cons_zero] at x0 x1
 rw [hn] at x1
 have hseq := all_stops (m - 1) (by omega) (w.heap.size + 4) sk ws a c (by omega) hb.lt (KeepB (SetF (w.heap.size + 4) a)) (fun A B h => h) w5 (by omega) x0 x1 (hw.kept hb5) (hT.kept hb5)
 have hf : Fence.wide.fn 35 := trivial
 have HP := qd hp
 have HH := qd (show w.cell? ⟨p, 0, none⟩ = some (.string s) ∧ w.cell? ⟨p, 1, none⟩ = some (.bool back) ∧ w.cell? ⟨p, 7, none⟩ = some (.string bs) ∧ w.cell? ⟨p, 8, none⟩ = some (.bool nt) from ⟨h0, h1, h7, h8⟩)
 have HW5 := qd hw5
 have HZ5 := qd hz5
 have HB5 := qd hb5
 have HY0 := qd y0
 have HY2 := qd y2
 have HG2 := qd g2
 have HG0 := qd hG0
 have HPL := qd (memL_pl ws sk hb.lt)
 have HIN := qd hin
 have HA := qd ha
 have HLL := qd (show (s.size + 1) / 64 < N ∧ N ≤ 1048576 ∧ s.size ≤ 1048576 by omega)
 have HTG := qd (hT.lt)
 clear h0 h1 h7 h8 hb hw hw5 hz5 hb5 y0 y2 g2 y4 hs5 hG0 x0 x1 hn hin ha hT hL hs hN hle
 unfold setV
 refine callsIn_of_wp_marks Tryz.func99 rfl trivial ?_ rfl
 simp only [Tryz.ntmps99, List.size_toArray, List.length_cons, List.length_nil, Nat.reduceAdd, Nat.reduceSub, Array.replicate_succ, Array.replicate_zero, List.push_toArray, List.append_toArray, List.nil_append, List.cons_append]
 gi_wp2_with (gi_at_call 35; refine (all_in (m - 1) _ _ _ _ _).mono ?_; rintro e w' ⟨rfl, rfl⟩)
 rw [← HW5.out]
 refine wpIn_rangeFunc_ownG rfl hm1 (gf := 48) rfl trivial (enters_of Tryz.func48 (by kernel_rfl) rfl)
  hseq (fun h k => KeepB.trans h k) (fun W l o o' hl _ _ _ => fun k hk => World.putObj_heap_other (by
   have := HZ5.out
   rcases hk with rfl | rfl | ⟨x, hx, rfl⟩
   · omega
   · have := HTG.out; omega
   · have := HA.out x hx; omega)) (Below.refl _ _) (fun _ => rfl)
  (fun pre W => Gat (w.heap.size + 5) (w.heap.size + 3) N (img (byteN s.data.toList back bs nt) (· ∈ pre.map (·.1))) w5 W)
  (fun _ _ _ => False)
  (Gat.own _ _ _ (fun pre : List {x : Nat // x ∈ memL sk ws} => img (byteN s.data.toList back bs nt) (· ∈ pre.map (·.1))) w5)
  (fun _ _ _ _ _ hs _ _ => hs)
  HG0.out
  (fun x => { tmps := #[.pointer (some ⟨p, 0, none⟩), .agg #[.int .i64 (sk : Int), .slice a n c], .pointer (some ⟨w.heap.size, 0, none⟩), .pointer (some ⟨w.heap.size + 1, 0, none⟩), .pointer (some ⟨w.heap.size + 1 + 1, 0, none⟩), .pointer (some ⟨w.heap.size + 1 + 1 + 1, 0, none⟩), pV x.1, undef, undef, undef, .agg #[.int .i64 0, .slice none 0 0], .agg #[.int .i64 (sk : Int), .slice a n c], .func (.func 48) #[] #[.pointer (some ⟨w.heap.size + 1 + 1 + 1 + 1, 0, none⟩)], pV x.1, undef, undef, undef, undef, undef, undef, undef, undef, undef, undef, undef, undef, undef, undef, undef, undef, undef, undef, undef, undef, undef, undef, undef, undef, undef, undef, undef, undef, undef], defers := [] }) ?assign ?body ?done ?stop
 case assign =>
  intro l x W K hK
  gi_wp2
  exact hK
 case stop =>
  rintro D c pre W _ _ h _
  exact h.elim
 case done =>
  rintro D ys W hD hys hG hK
  rw [hys] at hG
  have hk2 := hG.keep (w.heap.size + 2) (by rw [HZ5.out]; omega) (by omega)
  have t0 := (cob (a := ⟨w.heap.size + 2, 0, none⟩) hk2).trans (HY2.out 0)
  have t1 := (cob (a := ⟨w.heap.size + 2, 1, none⟩) hk2).trans (HY2.out 1)
  have u0 := (World.frozen?_of_block (a := ⟨w.heap.size + 2, 0, none⟩) hk2).trans (HG2.out 0)
  have u1 := (World.frozen?_of_block (a := ⟨w.heap.size + 2, 1, none⟩) hk2).trans (HG2.out 1)
  simp only [List.getElem?_toArray, List.getElem?_cons_succ, List.getElem?_cons_zero] at t0 t1
  obtain ⟨⟨sk9, ws9, r9, s9, b9, m9, c9⟩, hq9⟩ := hG
  obtain ⟨a9, c9', k1, hv9, hr9⟩ := s9.words
  have k0 := s9.c0
  simp only [Nat.zero_add] at k1
  obtain ⟨n9, hn9⟩ : ∃ n9, n9 = ws9.length := ⟨_, rfl⟩
  rw [← hn9] at k1
  have HN9 := qd hn9
  have HV9 := qd hv9
  have HR9 := qd (show ∀ x, a9 = some x → w.heap.size + 5 ≤ x.block ∧ x.block ≠ D from fun x hx => ⟨(s9.rlt _ (hr9 x hx)).1, fun e => by
   have := s9.rowCells (hr9 x hx) (by rw [e]; exact hK); cases this⟩)
  have B9 := qd b9
  have M9 := qd m9
  have C9 := qd c9
  have hD5 : w.heap.size + 5 ≤ D := by rw [← HZ5.out]; exact hD
  have HK := qd (show ∀ u v, ((W.setCell ⟨w.heap.size + 1 + 1, 0, none⟩ u).setCell ⟨w.heap.size + 1 + 1, 1, none⟩ v).heap[D]? = some (Obj.deferred (some [])) from fun u v => ((Below.heap_setCell _ _ _ _ (by show D ≠ w.heap.size + 1 + 1; omega)).trans (Below.heap_setCell _ _ _ _ (by show D ≠ w.heap.size + 1 + 1; omega))).trans hK)
  have HD := qd hD5
  have HBW := qd (show Below w.heap.size w W from HB5.out.trans ⟨c9.os, c9.tape, c9.output, c9.size, fun k hk => c9.block k (by rw [HZ5.out]; omega) (by omega) (by simp)⟩)
  obtain ⟨z0, z1⟩ := two_put W (w.heap.size + 1 + 1) t0 t1 (.int .i64 (sk9 : Int)) (.slice a9 n9 c9')
  have HZZ := qd (show _ ∧ _ from ⟨z0, z1⟩)
  clear hv9 hn9 s9 b9 m9 c9 hk2 hD hr9 hD5 hK z0 z1
  gi_wp2
  have hKf := HK.out (.int .i64 (sk9 : Int)) (.slice a9 n9 c9')
  refine ⟨by simp, .inl ⟨_, _, rfl, run_takeDeferred hKf, ?_⟩⟩
  have hput : ∀ k, k ≠ D → (((W.setCell ⟨w.heap.size + 1 + 1, 0, none⟩ (.int .i64 (sk9 : Int))).setCell ⟨w.heap.size + 1 + 1, 1, none⟩ (.slice a9 n9 c9')).putObj D (.deferred none)).heap[k]? = ((W.setCell ⟨w.heap.size + 1 + 1, 0, none⟩ (.int .i64 (sk9 : Int))).setCell ⟨w.heap.size + 1 + 1, 1, none⟩ (.slice a9 n9 c9')).heap[k]? := fun k hk => World.putObj_heap_other hk
  have q0 := (cob (a := ⟨w.heap.size + 1 + 1, 0, none⟩) (hput _ (by have := HD.out; show w.heap.size + 1 + 1 ≠ D; omega))).trans HZZ.out.1
  have q1 := (cob (a := ⟨w.heap.size + 1 + 1, 1, none⟩) (hput _ (by have := HD.out; show w.heap.size + 1 + 1 ≠ D; omega))).trans HZZ.out.2
  refine ⟨.agg #[.int .i64 (sk9 : Int), .slice a9 n9 c9'], by simp [results, Tryz.results99, go_sem, q0, q1], PassSet.of sk9 ws9 a9 c9' (by rw [HN9.out]; rfl) ?_ B9.out ?_ (fun x hx => .inr (by have := (HR9.out x hx).1; omega)) (fun j => ?_)⟩
  · have h1 := (HBW.out.setCell (p := ⟨w.heap.size + 1 + 1, 0, none⟩) (by show w.heap.size ≤ w.heap.size + 1 + 1; omega) (.int .i64 (sk9 : Int))).setCell (p := ⟨w.heap.size + 1 + 1, 1, none⟩) (by show w.heap.size ≤ w.heap.size + 1 + 1; omega) (.slice a9 n9 c9')
    exact h1.trans ⟨rfl, rfl, rfl, by simp, fun k hk => hput k (by have := HD.out; omega)⟩
  · refine (((HV9.out.put (w.heap.size + 1 + 1) 0 _ (fun x hx => by have := (HR9.out x hx).1; omega)).put (w.heap.size + 1 + 1) 1 _ (fun x hx => by have := (HR9.out x hx).1; omega))).keep (fun x hx => hput _ (HR9.out x hx).2)
  · rw [M9.out]
    exact ⟨fun ⟨i, h1, h2⟩ => ⟨i, (HPL.out.2 i).1 h1, h2⟩, fun ⟨i, h1, h2⟩ => ⟨i, (HPL.out.2 i).2 h1, h2⟩⟩
 case body =>
  rintro l pre ⟨x, hx⟩ W hG hlt
  simp only
  have hxs := HIN.out x ((HPL.out.2 x).1 hx)
  have hkk : ∀ k, k < w.heap.size + 5 → k ≠ w.heap.size + 3 → W.heap[k]? = w5.heap[k]? := fun k h1 h2 => hG.keep k (by rw [HZ5.out]; exact h1) h2
  have hold : ∀ k, k < w.heap.size → W.heap[k]? = w.heap[k]? := fun k h => (hkk k (by omega) (by omega)).trans (HB5.out.block k h)
  have y0 := (cob (a := ⟨w.heap.size, 0, none⟩) (hkk w.heap.size (by omega) (by omega))).trans HY0.out
  have p0 := (cob (a := ⟨p, 0, none⟩) (hold p HP.out)).trans HH.out.1
  have p1 := (cob (a := ⟨p, 1, none⟩) (hold p HP.out)).trans HH.out.2.1
  have p7 := (cob (a := ⟨p, 7, none⟩) (hold p HP.out)).trans HH.out.2.2.1
  have p8 := (cob (a := ⟨p, 8, none⟩) (hold p HP.out)).trans HH.out.2.2.2
  have hWz : w.heap.size + 5 ≤ W.heap.size := by
   obtain ⟨⟨_, _, _, _, _, _, h⟩, _⟩ := hG
   have := h.size; rw [HZ5.out] at this; exact this
  have HG := qd hG
  have hfs : (Fence.wide.inRound l).fn 88 := trivial
  have hfi : Fence.wide.fn 100 := trivial
  have hfa : (Fence.wide.inRound l).fn 47 := trivial
  have HST := qd (show ∀ (k : Nat) (W' : World), CallsIn (Fence.wide.inRound l) k Tryz.prog 88 #[.agg #[.string s, .bool back], .int .i64 (x : Int)] W' fun e w' => e = .returned (stepV (stepN s.data.toList back x)) ∧ Below W'.heap.size W' w' from fun k W' => (callsIn_wide.2 (step_any s back x W' HLL.out.2.2 (by have := HLL.out.2.2; omega)) : CallsIn Fence.wide k _ _ _ _ _))
  have HKP := qd (show ∀ W', (∀ k, k < w.heap.size + 5 → k ≠ w.heap.size + 3 → W'.heap[k]? = W.heap[k]?) → KeepB (SetF (w.heap.size + 4) a) W W' from fun W' h k hk => by
   rcases hk with rfl | rfl | ⟨y, hy, rfl⟩
   · exact h _ (by omega) (by omega)
   · exact h _ (by have := HTG.out; omega) (by have := HTG.out; omega)
   · exact h _ (by have := HA.out y hy; omega) (by have := HA.out y hy; omega))
  have HX := qd (show x ≤ s.size ∧ s.size ≤ 1048576 from ⟨hxs, HLL.out.2.2⟩)
  clear hkk hold hlt hseq hxs hG
  obtain ⟨res, hres⟩ : ∃ res, res = stepN s.data.toList back x := ⟨_, rfl⟩
  rw [← hres] at HST
  have HRES := qd hres
  clear hres
  unfold pV
  have HIM := qd (fun j => byteN_snoc s.data.toList back bs nt (pre.map (·.1)) x j)
  rw [← HRES.out] at HIM
  cases res with
  | none =>
    have HNX := qd (show ∀ W', Gat (w.heap.size + 5) (w.heap.size + 3) N (img (byteN s.data.toList back bs nt) (· ∈ pre.map (·.1))) w5 W' → Gat (w.heap.size + 5) (w.heap.size + 3) N (img (byteN s.data.toList back bs nt) (· ∈ (pre ++ [(⟨x, hx⟩ : {x : Nat // x ∈ memL sk ws})]).map (·.1))) w5 W' from fun W' h => h.congr (fun j => by rw [List.map_append]; exact ⟨fun h' => (HIM.out j).1 (.inl h'), fun h' => ((HIM.out j).2 h').elim id (fun ⟨b, e, _⟩ => by cases e)⟩))
    clear HIM
    unfold stepV at HST
    gi_wp2
    refine ⟨trivial, fun _ => by omega, ?_⟩
    refine (HST.out _ _).mono ?_
    rintro e w' ⟨rfl, hb1⟩
    have HB1 := qd hb1
    have q0 := (hb1.cell (p := ⟨w.heap.size, 0, none⟩) (by simp; omega)).trans y0
    clear hb1
    gi_wp2
    refine wpIn_region_quiet_round l rfl (by kernel_rfl) (by kernel_rfl) (by kernel_rfl) ?_
    repeat (gi_big_quiet_step (fail))
    refine wpQuietIn_nil ?_
    intro _ hw9
    obtain ⟨nq, hw8⟩ := hw9
    subst hw8
    gi_wp2
    exact ⟨below_others (HB1.out.trans (below_drew0 _ nq _)) _, HKP.out _ (fun k h1 h2 => HB1.out.block k (by omega)), HNX.out _ (HG.out.step (HB1.out.trans (below_drew0 _ nq _)))⟩
  | some bj =>
    obtain ⟨b, j⟩ := bj
    have HI := qd (show ∀ (k : Nat) (W' : World), CallsIn Fence.wide k Tryz.prog 100 #[.string bs, .int .u8 (b.toNat : Int)] W' fun e w' => e = .returned (.int .i64 (Lib.indexByte bs.data.toList b)) ∧ w' = W' from fun k W' => callsIn_wide.2 (by
        have := Tryz.strings_IndexByte bs (b.toNat : Int) W'
        rwa [show ((b.toNat : Int)).toNat.toUInt8 = b by simp] at this))
    have hidx : decide (0 ≤ Lib.indexByte bs.data.toList b) = bs.data.toList.contains b := by
        exact (Lib.contains_iff_indexByte _ _).symm
    have HJB := qd (stepN_bd s.data.toList back x b j HRES.out.symm)
    unfold stepV at HST
    generalize Lib.indexByte bs.data.toList b = z at *
    cases htk : takesB bs nt b with
    | false =>
      have hne : (decide (0 ≤ z) == nt) = true := by
       have h : (decide (0 ≤ z) != nt) = false := by rw [hidx]; exact htk
       simpa [bne] using h
      have HNX := qd (show ∀ W', Gat (w.heap.size + 5) (w.heap.size + 3) N (img (byteN s.data.toList back bs nt) (· ∈ pre.map (·.1))) w5 W' → Gat (w.heap.size + 5) (w.heap.size + 3) N (img (byteN s.data.toList back bs nt) (· ∈ (pre ++ [(⟨x, hx⟩ : {x : Nat // x ∈ memL sk ws})]).map (·.1))) w5 W' from fun W' h => h.congr (fun j => by rw [List.map_append]; exact ⟨fun h' => (HIM.out j).1 (.inl h'), fun h' => ((HIM.out j).2 h').elim id (fun ⟨b', e, h2⟩ => by cases e; rw [htk] at h2; cases h2)⟩))
      clear HIM hidx htk
      gi_wp2
      refine ⟨trivial, fun _ => by omega, ?_⟩
      refine (HST.out _ _).mono ?_
      rintro e w' ⟨rfl, hb1⟩
      have HB1 := qd hb1
      have q0 := (hb1.cell (p := ⟨w.heap.size, 0, none⟩) (by simp; omega)).trans y0
      have q7 := (hb1.cell (p := ⟨p, 7, none⟩) (by have := HP.out; simp; omega)).trans p7
      have q8 := (hb1.cell (p := ⟨p, 8, none⟩) (by have := HP.out; simp; omega)).trans p8
      clear hb1
      gi_wp2
      refine wpIn_region_quiet_round l rfl (by kernel_rfl) (by kernel_rfl) (by kernel_rfl) ?_
      repeat (gi_big_quiet_step (exact ⟨fun _ => by omega, CallsIn.quiet_of_same (HI.out _ _)⟩))
      refine wpQuietIn_nil ?_
      intro _ hw9
      obtain ⟨nq, hw8⟩ := hw9
      subst hw8
      gi_wp2
      exact ⟨below_others (HB1.out.trans (below_drew0 _ nq _)) _, HKP.out _ (fun k h1 h2 => HB1.out.block k (by omega)), HNX.out _ (HG.out.step (HB1.out.trans (below_drew0 _ nq _)))⟩
    | true =>
      have hne : (decide (0 ≤ z) == nt) = false := by
       have h : (decide (0 ≤ z) != nt) = true := by rw [hidx]; exact htk
       simpa [bne] using h
      have HNX := qd (show ∀ W', Gat (w.heap.size + 5) (w.heap.size + 3) N (fun y => img (byteN s.data.toList back bs nt) (· ∈ pre.map (·.1)) y ∨ y = j) w5 W' → Gat (w.heap.size + 5) (w.heap.size + 3) N (img (byteN s.data.toList back bs nt) (· ∈ (pre ++ [(⟨x, hx⟩ : {x : Nat // x ∈ memL sk ws})]).map (·.1))) w5 W' from fun W' h => h.congr (fun y => by
       rw [List.map_append]
       exact (or_congr_right ⟨fun e => by subst e; exact ⟨b, rfl, htk⟩, fun ⟨b', e, _⟩ => by cases e; rfl⟩).trans (HIM.out y)))
      obtain ⟨⟨sk9, ws9, r9, s9, b9, m9, c9⟩, hq9⟩ := HG.out
      have HADD := qd (show ∀ (k : Nat) (W' : World), Below W.heap.size W W' → CallsIn (Fence.wide.inRound l) k Tryz.prog 47 #[.pointer (some ⟨w.heap.size + 3, 0, none⟩), .int .i64 (j : Int)] W' (GrowPost (w.heap.size + 5) (w.heap.size + 3) 0 sk9 ws9 r9 N (fun y => memS sk9 ws9 y ∨ y = j) W') from fun k W' hW => (callsIn_wide.2 (add_any (w.heap.size + 5) (w.heap.size + 3) 0 sk9 ws9 r9 N j W' (s9.kept hW) b9 HLL.out.2.1 (by
       have h1 := HJB.out
       have h2 := HLL.out.1
       rw [show s.data.toList.length = s.size by simp] at h1
       omega) (Nat.le_trans hWz hW.size)) : CallsIn Fence.wide k _ _ _ _ _))
      have S9 := qd s9
      have M9 := qd m9
      have C9 := qd c9
      clear HIM hidx htk s9 b9 m9 c9
      gi_wp2
      refine ⟨trivial, fun _ => by omega, ?_⟩
      refine (HST.out _ _).mono ?_
      rintro e w' ⟨rfl, hb1⟩
      have HB1 := qd hb1
      have q0 := (hb1.cell (p := ⟨w.heap.size, 0, none⟩) (by simp; omega)).trans y0
      have q7 := (hb1.cell (p := ⟨p, 7, none⟩) (by have := HP.out; simp; omega)).trans p7
      have q8 := (hb1.cell (p := ⟨p, 8, none⟩) (by have := HP.out; simp; omega)).trans p8
      clear hb1
      gi_wp2
      refine wpIn_region_quiet_round l rfl (by kernel_rfl) (by kernel_rfl) (by kernel_rfl) ?_
      repeat (gi_big_quiet_step (exact ⟨fun _ => by omega, CallsIn.quiet_of_same (HI.out _ _)⟩))
      refine wpQuietIn_nil ?_
      intro _ hw9
      obtain ⟨nq, hw8⟩ := hw9
      subst hw8
      gi_wp2
      refine ⟨trivial, fun _ => by omega, ?_⟩
      refine (HADD.out _ _ (HB1.out.trans (below_drew0 _ nq _))).mono ?_
      rintro e w7 ⟨⟨_, rfl⟩, sk7, ws7, r7, s7, c7, b7, m7⟩
      have B7 := qd (HB1.out.trans (below_drew0 _ nq W.heap.size))
      have S7 := qd s7
      have C7 := qd c7
      have BB7 := qd b7
      have M7 := qd m7
      clear s7 c7 b7 m7
      gi_wp2
      have hchg := SetChg.trans (.of_below (o := 0) (r := r9) S9.out.lt B7.out) C7.out
      refine ⟨hchg.others S9.out _, HKP.out _ (fun k h1 h2 => hchg.block k (by omega) h2 (fun e => by have := S9.out.rlt k e.symm; omega)), HNX.out _ ⟨⟨sk7, ws7, r7, S7.out, BB7.out, fun y => by rw [M7.out, M9.out], C9.out.trans hchg⟩, hq9⟩⟩
theorem passB_any (N p : Nat) (s : ByteArray) (back : Bool) (bs : ByteArray) (nt : Bool) (sk : Nat) (ws : List Nat) (a : Option Addr) (c : Nat) (w : World) (hp : p < w.heap.size) (h0 : w.cell? ⟨p, 0, none⟩ = some (.string s)) (h1 : w.cell? ⟨p, 1, none⟩ = some (.bool back))
 (h7 : w.cell? ⟨p, 7, none⟩ = some (.string bs)) (h8 : w.cell? ⟨p, 8, none⟩ = some (.bool nt)) (hb : SetB N sk ws) (hN : N ≤ 1048576) (hs : s.size ≤ 1048576) (hL : (s.size + 1) / 64 < N) (hw : WordsAt w ws a) (hT : BT w) (hin : ∀ j, memS sk ws j → j ≤ s.size) (ha : ∀ x, a = some x → x.block < w.heap.size) :
 Calls Tryz.prog 99 #[.pointer (some ⟨p, 0, none⟩), setV sk a ws.length c] w (PassSet N a (img (byteN s.data.toList back bs nt) (memS sk ws)) w) :=
 callsIn_wide.1 (passB_in 8 (Nat.le_refl _) N p s back bs nt sk ws a c w hp h0 h1 h7 h8 hb hN hs hL hw hT hin ha)
end Go.Proofs.YtcimhpdpfckgiaaGreatDoor.kit
namespace Go.Proofs.YtcimhpdpfckgiaaGreatDoor.kit
open Go.ChangeShapes Go.WideShapes Go.ChangeAt Go.RowKit Go.Shelf
attribute [local go_sem] Oper.semAt_some
def KeepC (P : List Nat) (A B : World) : Prop := ∀ k o, A.heap[k]? = some o → o.isCells = true → k ∉ P → B.heap[k]? = some o
theorem KeepC.refl (P : List Nat) (A : World) : KeepC P A A := fun _ _ h _ _ => h
theorem KeepC.trans {P : List Nat} {A B C : World} (h : KeepC P A B) (k : KeepC P B C) : KeepC P A C := fun j o h1 h2 h3 => k j o (h j o h1 h2 h3) h2 h3
theorem KeepC.of_below {P : List Nat} {A B : World} (h : Below A.heap.size A B) : KeepC P A B := fun k o h1 _ _ => (h.block k (Array.getElem?_eq_some_iff.1 h1).1).trans h1
theorem KeepC.cell {P : List Nat} {A B : World} (h : KeepC P A B) {a : Addr} {v : Value} (hc : A.cell? a = some v) (hn : a.block ∉ P) : B.cell? a = some v := by
 have hlt := World.block_lt_of_cell? A a hc
 obtain ⟨o, ho⟩ : ∃ o, A.heap[a.block]? = some o := ⟨_, Array.getElem?_eq_getElem hlt⟩
 have := h a.block o ho (cell_isCells hc ho) hn
 exact (cob (this.trans ho.symm)).trans hc
theorem PartsAt.keepC {P : List Nat} {A B : World} {T : Nat → TypeId} {ps : List Nat} {a : Option Addr} (h : PartsAt A T ps a) (hk : KeepC P A B) (hn : ∀ x, a = some x → x.block ∉ P) : PartsAt B T ps a := fun i hi => by
 obtain ⟨g, e, h1⟩ := h i hi
 exact ⟨g, e, hk.cell h1 (hn ⟨g, 0, none⟩ e)⟩
theorem netS_alloc {Bs nb : Nat} {u v x : Value} {w : World} (h : w.cell? ⟨Bs, 0, none⟩ = some u ∧ w.cell? ⟨nb, 2, none⟩ = some v ∧ w.cell? ⟨nb, 3, none⟩ = some x) (o : Obj) : (w.alloc o).cell? ⟨Bs, 0, none⟩ = some u ∧ (w.alloc o).cell? ⟨nb, 2, none⟩ = some v ∧ (w.alloc o).cell? ⟨nb, 3, none⟩ = some x := by
 have hb := (Below.refl w.heap.size w).alloc (Nat.le_refl _) o
 obtain ⟨h1, h2, h3⟩ := h
 exact ⟨(hb.cell (p := ⟨Bs, 0, none⟩) (World.block_lt_of_cell? w ⟨Bs, 0, none⟩ h1)).trans h1, (hb.cell (p := ⟨nb, 2, none⟩) (World.block_lt_of_cell? w ⟨nb, 2, none⟩ h2)).trans h2, (hb.cell (p := ⟨nb, 3, none⟩) (World.block_lt_of_cell? w ⟨nb, 3, none⟩ h3)).trans h3⟩
def two (ps ls : List Nat) (i : Nat) : List Nat := if i = 0 then ps else ls
def ahead (ps ls : List Nat) (i : Nat) : List Nat := if i = 0 then [] else if i = 1 then ps else ps ++ ls
theorem ahead_next (ps ls : List Nat) (i : Nat) (h : i < 2) : ahead ps ls (i + 1) = ahead ps ls i ++ two ps ls i := by
 rcases (show i = 0 ∨ i = 1 by omega) with rfl | rfl <;> simp [ahead, two]
theorem ahead_in (ps ls : List Nat) (i : Nat) (h : i < 2) : ∃ r, ps ++ ls = ahead ps ls i ++ two ps ls i ++ r := by
 rcases (show i = 0 ∨ i = 1 by omega) with rfl | rfl
 · exact ⟨ls, by simp [ahead, two]⟩
 · exact ⟨[], by simp [ahead, two]⟩
set_option maxRecDepth 100000 in
set_option maxHeartbeats 1000000 in
theorem allN1_in (n : Nat) (hn : 2 ≤ n) (l Bs nb : Nat) (P : List Nat) (T : Nat → TypeId) (ps ls : List Nat) (aa : Nat → Option Addr) (cc : Nat → Nat) (hPn : nb ∉ P) (haa : ∀ i x, aa i = some x → x.block ∉ P) (hBs : Bs ∉ P) (hl1 : ps.length ≤ 1048576) (hl2 : ls.length ≤ 1048576) (J Jx : List Nat → World → Prop)
 (hY : ∀ pre x W, x ∈ ps ++ ls → J pre W → pre.length < (ps ++ ls).length → YieldAt Fence.wide (n - 1) Tryz.prog l #[partV (T x) x] W fun e W' =>
   (e = .returned (.bool true) ∧ J (pre ++ [x]) W' ∧ KeepC P W W') ∨ (e = .returned (.bool false) ∧ Jx (pre ++ [x]) W'))
 (hJd : ∀ pre W, J pre W → J pre W.drew) (hJa : ∀ pre W o, J pre W → J pre (W.alloc o))
 (W : World) (hb : W.cell? ⟨Bs, 0, none⟩ = some (.pointer (some ⟨nb, 0, none⟩))) (h2 : W.cell? ⟨nb, 2, none⟩ = some (.slice (aa 0) ps.length (cc 0))) (h3 : W.cell? ⟨nb, 3, none⟩ = some (.slice (aa 1) ls.length (cc 1)))
 (hp : PartsAt W T ps (aa 0)) (hq : PartsAt W T ls (aa 1)) (h0 : J [] W) (hPl : ∀ p ∈ P, p < W.heap.size) :
 CallsIn Fence.wide n Tryz.prog 59 #[.func (.yield l) #[] #[], .pointer (some ⟨Bs, 0, none⟩)] W fun e W' => (∃ v, e = .returned v) ∧
  ((∃ ys, ys = ps ++ ls ∧ J ys W') ∨ (∃ pre, True ∧ Jx pre W')) := by
 have HY := qd hY
 have HJ := qd hJd
 have HP := qd (show ∀ i, PartsAt W T (two ps ls i) (aa (if i = 0 then 0 else 1)) from fun i => by
  unfold two
  by_cases c : i = 0
  · rw [if_pos c, if_pos c]; exact hp
  · rw [if_neg c, if_neg c]; exact hq)
 obtain ⟨n0, hn0⟩ : ∃ n0, n0 = ps.length := ⟨_, rfl⟩
 obtain ⟨n1, hn1⟩ : ∃ n1, n1 = ls.length := ⟨_, rfl⟩
 have HN0 := qd hn0
 have HN1 := qd hn1
 rw [← hn0] at h2
 rw [← hn1] at h3
 have HJa := qd hJa
 have HAA := qd haa
 have HPL := qd hPl
 have H00 := qd h0
 clear hY hJd hp hq hn0 hn1 hJa haa hPl h0
 refine callsIn_of_wp Tryz.func59 rfl trivial ?_ rfl
 simp only [Tryz.ntmps59, List.size_toArray, List.length_cons, List.length_nil, Nat.reduceAdd, Nat.reduceSub, Array.replicate_succ, Array.replicate_zero, List.push_toArray, List.append_toArray, List.nil_append, List.cons_append]
 gi_wp2
 refine wpIn_wide.2 ?_
 go_region_held3 (fun w' => w'.cell? ⟨Bs, 0, none⟩ = some (.pointer (some ⟨nb, 0, none⟩)) ∧ w'.cell? ⟨nb, 2, none⟩ = some (.slice (aa 0) n0 (cc 0)) ∧ w'.cell? ⟨nb, 3, none⟩ = some (.slice (aa 1) n1 (cc 1))) (first | assumption | exact ⟨hb, h2, h3⟩ | exact netS_alloc ⟨hb, h2, h3⟩ _) (fail)
 have HLb := qd (show W.heap.size ∉ P from fun m => by have := HPL.out _ m; omega)
 obtain ⟨W1, hW1⟩ : ∃ W1, W1 = (W.alloc (.cells #[.slice (aa 0) n0 (cc 0), .slice (aa 1) n1 (cc 1)] 88)).drew := ⟨_, rfl⟩
 have HL := qd (show ∀ i, i < 2 → W1.cell? ⟨W.heap.size, i, none⟩ = some (.slice (aa i) (two ps ls i).length (cc i)) from fun i hi => by
  rw [hW1]
  have e := World.cell?_alloc_at (w := W) #[Value.slice (aa 0) n0 (cc 0), .slice (aa 1) n1 (cc 1)] 88 W.heap.size i rfl
  rcases (show i = 0 ∨ i = 1 by omega) with rfl | rfl
  · exact e.trans (by rw [HN0.out]; rfl)
  · exact e.trans (by rw [HN1.out]; rfl))
 have HJ1 := qd (show J [] W1 from by rw [hW1]; exact HJ.out _ _ (HJa.out _ _ _ H00.out))
 have HPW := qd (show ∀ i, i < 2 → PartsAt W1 T (two ps ls i) (aa i) from fun i hi => by
  rw [hW1]
  have hk : KeepC P W (W.alloc (.cells #[.slice (aa 0) n0 (cc 0), .slice (aa 1) n1 (cc 1)] 88)).drew := KeepC.of_below ((Below.refl _ W).alloc (Nat.le_refl _) _).drew
  have h := HP.out i
  rcases (show i = 0 ∨ i = 1 by omega) with rfl | rfl
  · exact h.keepC hk (HAA.out 0)
  · exact h.keepC hk (HAA.out 1))
 rw [← hW1]
 have HW1 := qd hW1
 have HTL := qd (show ∀ i, (two ps ls i).length ≤ 1048576 from fun i => by unfold two; split <;> assumption)
 clear hW1 hb h2 h3 hl1 hl2
 gi_wp2
 gi_loopw [17] (fun iv wr => ∃ i : Nat, i ≤ 2 ∧ iv = .int .i64 (i : Int) ∧ J (ahead ps ls i) wr ∧ KeepC P W1 wr) (fun iv _ => 2 - (intOf iv).toNat)
 case atStart => exact ⟨0, by omega, rfl, HJ1.out, KeepC.refl _ _⟩
 case round =>
  obtain ⟨i, hi, rfl, hJi, hKi⟩ := hrel
  have HJi := qd hJi
  have HKi := qd hKi
  clear hJi hKi
  by_cases hlt : i < 2
  · have d0 := HKi.out.cell (HL.out i hlt) HLb.out
    have HPi := qd (HPW.out i hlt)
    have HNX := qd (ahead_next ps ls i hlt)
    obtain ⟨rest, hrest⟩ := ahead_in ps ls i hlt
    have HRS := qd hrest
    have hal := HAA.out i
    have HTi := qd (HTL.out i)
    generalize aa i = ai at *
    generalize cc i = ci at *
    generalize two ps ls i = L at *
    generalize ahead ps ls i = pr at *
    obtain ⟨m, hm⟩ : ∃ m, m = L.length := ⟨_, rfl⟩
    rw [← hm] at d0
    have HM := qd hm
    have HAL := qd hal
    have j0 : (0 : Int) ≤ (i : Int) := by omega
    have j1 : (i : Int) < 2 := by omega
    have HI := qd (show i + 1 ≤ 2 by omega)
    clear hm hal hrest hi
    gi_wp2
    gi_loopw [23] (fun kv wq => ∃ k : Nat, k ≤ m ∧ kv = .int .i64 (k : Int) ∧ J (pr ++ L.take k) wq ∧ KeepC P W1 wq) (fun kv _ => m - (intOf kv).toNat)
    case atStart => exact ⟨0, Nat.zero_le _, rfl, by simpa using HJi.out, HKi.out⟩
    case round =>
        obtain ⟨k, hk, rfl, hJk, hKk⟩ := hrel
        have HJk := qd hJk
        have HKk := qd hKk
        clear hJk hKk
        by_cases hkl : k < m
        · have hkL : k < L.length := by have := HM.out; omega
          obtain ⟨g, hg, d1⟩ := (HPi.out.keepC HKk.out HAL.out) k hkL
          have hg' : ai = some ⟨g, 0, none⟩ := hg
          subst hg'
          have HTK := qd (List.take_succ_eq_append_getElem hkL)
          have HMEM := qd (show L[k] ∈ ps ++ ls from by rw [HRS.out, List.mem_append, List.mem_append]; exact .inl (.inr (List.getElem_mem hkL)))
          have HLEN := qd (show (pr ++ L.take k).length < (ps ++ ls).length from by
           rw [HRS.out]; simp only [List.length_append, List.length_take]; omega)
          generalize L[k] = q at *
          obtain ⟨fn, tmps, assign, body, hy, hR⟩ := HY.out (pr ++ L.take k) q wr HMEM.out HJk.out HLEN.out
          have HR := qd hR
          have k0 : (0 : Int) ≤ (k : Int) := by omega
          have k1 : (k : Int) < (m : Int) := by omega
          have HK := qd (show k + 1 ≤ m ∧ m ≤ 1048576 from ⟨by omega, by rw [HM.out]; exact HTi.out⟩)
          have hk8 : (k : Int) ≤ 1048576 := by have := HK.out; omega
          clear hR hkL hk hg
          unfold partV at hy d1
          generalize T q = tq at *
          gi_wp2
          refine ⟨fun _ => by omega, ?_⟩
          refine HR.out.mono ?_
          rintro e W3 (⟨rfl, hJ3, hk3⟩ | ⟨rfl, hJx3⟩)
          · have HJ3 := qd hJ3
            have HK3 := qd hk3
            clear hJ3 hk3
            gi_wp2
            refine ⟨⟨k + 1, HK.out.1, by go_num, by rw [HTK.out, ← List.append_assoc]; exact HJ3.out, HKk.out.trans HK3.out⟩, ?_⟩
            simp [intOf]; have := HK.out; omega
          · have HX3 := qd hJx3
            clear hJx3
            gi_wp2
            refine bodyPost_ret (results_none rfl _ _ _) rfl ?_
            first | exact ⟨⟨_, rfl⟩, .inr ⟨_, HX3.out⟩⟩ | exact ⟨⟨_, rfl⟩, .inr ⟨_, trivial, HX3.out⟩⟩
        · obtain rfl : k = m := by omega
          have HNJ := qd (show J (pr ++ L) wr from by have h := HJk.out; rw [List.take_of_length_le (by have := HM.out; omega)] at h; exact h)
          gi_wp2
          refine ⟨⟨i + 1, HI.out, by go_num, by rw [HNX.out]; exact HNJ.out, HKk.out⟩, ?_⟩
          simp [intOf]; have := HI.out; omega
  · obtain rfl : i = 2 := by omega
    have HNJ := qd (show J (ps ++ ls) wr from by have h := HJi.out; simpa [ahead] using h)
    gi_wp2
    go_end0
    first | exact ⟨⟨_, rfl⟩, .inl HNJ.out⟩ | exact ⟨⟨_, rfl⟩, .inl ⟨_, rfl, HNJ.out⟩⟩
theorem allN_in (n : Nat) (nb : Nat) (w : World) :
 CallsIn Fence.wide n Tryz.prog 46 #[.pointer (some ⟨nb, 0, none⟩)] w fun e w' => e = .returned (.func (.func 59) #[] #[.pointer (some ⟨w.heap.size, 0, none⟩)]) ∧ w' = w.alloc (.cells #[.pointer (some ⟨nb, 0, none⟩)] 69) := by
 refine callsIn_of_wp Tryz.func46 rfl trivial ?_ rfl
 simp only [Tryz.ntmps46, List.size_toArray, List.length_cons, List.length_nil, Nat.reduceAdd, Nat.reduceSub, Array.replicate_succ, Array.replicate_zero, List.push_toArray, List.append_toArray, List.nil_append, List.cons_append]
 gi_wp2
 go_ret
 exact ⟨rfl, rfl⟩
theorem allN_stops (n : Nat) (hn : 2 ≤ n) (Bs nb : Nat) (P : List Nat) (T : Nat → TypeId) (ps ls : List Nat) (aa : Nat → Option Addr) (cc : Nat → Nat) (hPn : nb ∉ P) (haa : ∀ i x, aa i = some x → x.block ∉ P ∧ x.block < Bs) (hBs : Bs ∉ P) (hl1 : ps.length ≤ 1048576) (hl2 : ls.length ≤ 1048576) (w : World) (hz : Bs < w.heap.size) (hzn : nb < w.heap.size)
 (hb : w.cell? ⟨Bs, 0, none⟩ = some (.pointer (some ⟨nb, 0, none⟩))) (h2 : w.cell? ⟨nb, 2, none⟩ = some (.slice (aa 0) ps.length (cc 0))) (h3 : w.cell? ⟨nb, 3, none⟩ = some (.slice (aa 1) ls.length (cc 1)))
 (hp : PartsAt w T ps (aa 0)) (hq : PartsAt w T ls (aa 1)) (hPl : ∀ p ∈ P, p < w.heap.size) :
 SeqStopsK Fence.wide n Tryz.prog 59 #[.pointer (some ⟨Bs, 0, none⟩)] (fun x : {x : Nat // x ∈ ps ++ ls} => #[partV (T x.1) x.1]) (KeepC P) (fun ys => ys.map (·.1) = ps ++ ls) (fun _ => True) (ps ++ ls).length w := fun l J Jx W hW hJ _ hY h0 => by
 have hc : ∀ b o, b < w.heap.size → W.cell? ⟨b, o, none⟩ = w.cell? ⟨b, o, none⟩ := fun b o h => hW.cell (p := ⟨b, o, none⟩) h
 refine (allN1_in n hn l Bs nb P T ps ls aa cc hPn (fun i x h => (haa i x h).1) hBs hl1 hl2 (fun pre W => ∃ pre' : List {x : Nat // x ∈ ps ++ ls}, pre'.map (·.1) = pre ∧ J pre' W) (fun pre W => ∃ pre' : List {x : Nat // x ∈ ps ++ ls}, pre'.map (·.1) = pre ∧ Jx pre' W) ?_
  (fun pre W ⟨pre', e, h⟩ => ⟨pre', e, hJ pre' W W.drew none h ⟨rfl, rfl, rfl, Nat.le_refl _, fun _ _ _ => rfl⟩ (fun r e => by cases e)⟩) (fun pre W o ⟨pre', e, h⟩ => ⟨pre', e, hJ pre' W (W.alloc o) none h (World.grownBy_alloc W o none) (fun r e => by cases e)⟩)
  W ((hc Bs 0 hz).trans hb) ((hc nb 2 hzn).trans h2) ((hc nb 3 hzn).trans h3) (hp.keep (fun x hx => hW.block _ (Nat.lt_trans (haa 0 x hx).2 hz))) (hq.keep (fun x hx => hW.block _ (Nat.lt_trans (haa 1 x hx).2 hz))) ⟨[], rfl, h0⟩ (fun p hp => Nat.lt_of_lt_of_le (hPl p hp) hW.size)).mono ?_
 · rintro pre x W' hx ⟨pre', e, h⟩ hlen
   obtain ⟨fn, tmps, assign, body, hy, hR⟩ := hY pre' ⟨x, hx⟩ W' h (by rw [← List.length_map (·.1), e]; exact hlen)
   refine ⟨fn, tmps, assign, body, hy, hR.mono ?_⟩
   rintro en W2 (⟨he, h2, h3⟩ | ⟨he, h2⟩)
   · exact .inl ⟨he, ⟨_, by rw [List.map_append, e]; rfl, h2⟩, h3⟩
   · exact .inr ⟨he, ⟨_, by rw [List.map_append, e]; rfl, h2⟩⟩
 · rintro en W' ⟨hv, h⟩
   refine ⟨hv, ?_⟩
   rcases h with ⟨ys, hys, pre', e, h⟩ | ⟨pre, _, pre', _, h⟩
   · exact .inl ⟨pre', e.trans hys, h⟩
   · exact .inr ⟨pre', trivial, h⟩
end Go.Proofs.YtcimhpdpfckgiaaGreatDoor.kit
namespace Go.Proofs.YtcimhpdpfckgiaaGreatDoor.kit
open Go.ChangeShapes Go.WideShapes Go.ChangeAt Go.RowKit Go.Shelf
attribute [local go_sem] Oper.semAt_some
def NextPost (T : Nat → TypeId) (ps : List Nat) (σ : St) (w : World) (e : Ending) (w' : World) : Prop :=
 Below w.heap.size w w' ∧ ((e = .returned .nilIface ∧ ∀ p ∈ ps, (σ.wws p).length = 0) ∨ ∃ p ∈ ps, e = .returned (partV (T p) p) ∧ (σ.wws p).length ≠ 0)
theorem NextPost.none {T : Nat → TypeId} {ps : List Nat} {σ : St} {w w' : World} {e : Ending} (h : Below w.heap.size w w') (he : e = .returned .nilIface) (hn : ∀ p ∈ ps, (σ.wws p).length = 0) : NextPost T ps σ w e w' := ⟨h, .inl ⟨he, hn⟩⟩
theorem NextPost.some {T : Nat → TypeId} {ps : List Nat} {σ : St} {w w' : World} {e : Ending} (h : Below w.heap.size w w') (p : Nat) (hp : p ∈ ps) (he : e = .returned (partV (T p) p)) (hn : (σ.wws p).length ≠ 0) : NextPost T ps σ w e w' := ⟨h, .inr ⟨p, hp, he, hn⟩⟩
theorem KeepC.putObj (P : List Nat) {W : World} {l : Nat} {o : Obj} (o' : Obj) (hl : W.heap[l]? = some o) (ho : o.isCells = false) : KeepC P W (W.putObj l o') := fun k x h1 h2 _ => by
 have hk : k ≠ l := fun e => by subst e; rw [hl] at h1; cases h1; rw [ho] at h2; cases h2
 exact (World.putObj_heap_other hk).trans h1
structure NxI (σ : St) (w5 : World) (pre : List Nat) (W : World) : Prop where
 below : Below w5.heap.size w5 W
 none : ∀ p ∈ pre, (σ.wws p).length = 0
theorem NxI.own {α : Type} (σ : St) (w5 : World) (f : List α → List Nat) : OwnFrom w5.heap.size (fun s W => NxI σ w5 (f s) W) := fun s W W' row h hg hrow =>
 ⟨h.below.trans ⟨hg.os, hg.tape, hg.output, hg.size, fun k hk => hg.block k (Nat.lt_of_lt_of_le hk h.below.size) (fun e => by have := (hrow k e.symm).1; omega)⟩, h.none⟩
structure NxX (T : Nat → TypeId) (ps : List Nat) (σ : St) (w w5 : World) (r : Nat) (W : World) : Prop where
 below : Below w.heap.size w W
 size : w5.heap.size ≤ W.heap.size
 ex : ∃ p ∈ ps, W.cell? ⟨r, 0, none⟩ = some (partV (T p) p) ∧ (σ.wws p).length ≠ 0
theorem NxX.own {α : Type} (T : Nat → TypeId) (ps : List Nat) (σ : St) (w w5 : World) (r : Nat) (h5 : w.heap.size ≤ w5.heap.size) (hr : r < w5.heap.size) (c c' : Code) : OwnFrom w5.heap.size (fun (_ : List α) W => c = c' ∧ NxX T ps σ w w5 r W) := fun s W W' row h hg hrow => by
 obtain ⟨hc, hb, hs, p, hp, h1, h2⟩ := h
 have hk : ∀ k, k < w5.heap.size → W'.heap[k]? = W.heap[k]? := fun k hk => hg.block k (Nat.lt_of_lt_of_le hk hs) (fun e => by have := (hrow k e.symm).1; omega)
 exact ⟨hc, hb.trans ⟨hg.os, hg.tape, hg.output, hg.size, fun k hk' => hk k (Nat.lt_of_lt_of_le hk' h5)⟩, Nat.le_trans hs hg.size, p, hp, (cob (a := ⟨r, 0, none⟩) (hk r hr)).trans h1, h2⟩
set_option maxRecDepth 100000 in
set_option maxHeartbeats 1000000 in
theorem next_in (m : Nat) (hm : 8 ≤ m) (B N nb : Nat) (T : Nat → TypeId) (ps ls : List Nat) (aa : Nat → Option Addr) (cc : Nat → Nat) (σ : St) (w : World) (hT : ∀ q ∈ ps ++ ls, PartT (T q)) (hσ : StOk B N (ps ++ ls) σ w) (hN : N ≤ 1048576) (hl1 : ps.length ≤ 1048576) (hl2 : ls.length ≤ 1048576) (hnb : nb < w.heap.size)
 (haa : ∀ i x, aa i = some x → x.block < w.heap.size) (h2 : w.cell? ⟨nb, 2, none⟩ = some (.slice (aa 0) ps.length (cc 0))) (h3 : w.cell? ⟨nb, 3, none⟩ = some (.slice (aa 1) ls.length (cc 1))) (hp : PartsAt w T ps (aa 0)) (hq : PartsAt w T ls (aa 1)) :
 CallsIn Fence.wide m Tryz.prog 45 #[.pointer (some ⟨nb, 0, none⟩)] w (NextPost T (ps ++ ls) σ w) := by
 have hm1 : 1 ≤ m := by omega
 obtain ⟨w5, hw5⟩ : ∃ w5, w5 = (w.alloc (.cells #[.nilIface] 94)).alloc (.cells #[.pointer (some ⟨nb, 0, none⟩)] 69) := ⟨_, rfl⟩
 have hz5 : w5.heap.size = w.heap.size + 2 := by rw [hw5]; simp
 have hb5 : Below w.heap.size w w5 := by rw [hw5]; exact ((Below.refl _ w).alloc (Nat.le_refl _) _).alloc (by simp) _
 have y0 : w5.cell? ⟨w.heap.size, 0, none⟩ = some .nilIface := by rw [hw5, World.cell?_alloc_past _ _ _ (by simp), World.cell?_alloc_at _ _ _ _ rfl]; rfl
 have g0 : w5.frozen? ⟨w.heap.size, 0, none⟩ = false := by rw [hw5, World.frozen?_alloc_past _ _ _ (by simp), World.frozen?_alloc_at _ _ _ _ rfl]
 have y1 : w5.cell? ⟨w.heap.size + 1, 0, none⟩ = some (.pointer (some ⟨nb, 0, none⟩)) := by rw [hw5, World.cell?_alloc_at _ _ _ _ (by simp)]; rfl
 have hseq := allN_stops (m - 1) (by omega) (w.heap.size + 1) nb [] T ps ls aa cc (by simp) (fun i x h => ⟨by simp, by have := haa i x h; omega⟩) (by simp) hl1 hl2 w5 (by omega) (by omega) y1 ((hb5.cell (p := ⟨nb, 2, none⟩) hnb).trans h2) ((hb5.cell (p := ⟨nb, 3, none⟩) hnb).trans h3)
  (hp.keep (fun x hx => hb5.block _ (haa 0 x hx))) (hq.keep (fun x hx => hb5.block _ (haa 1 x hx))) (fun p h => by cases h)
 have hf : Fence.wide.fn 46 := trivial
 have HT := qd hT
 have HS := qd (hσ.kept hb5)
 have HW5 := qd hw5
 have HZ5 := qd hz5
 have HB5 := qd hb5
 have HY0 := qd y0
 have HG0 := qd g0
 have HN := qd hN
 clear hT hσ hw5 hz5 hb5 y0 g0 y1 h2 h3 hp hq haa hl1 hl2 hN hnb
 refine callsIn_of_wp_marks Tryz.func45 rfl trivial ?_ rfl
 simp only [Tryz.ntmps45, List.size_toArray, List.length_cons, List.length_nil, Nat.reduceAdd, Nat.reduceSub, Array.replicate_succ, Array.replicate_zero, List.push_toArray, List.append_toArray, List.nil_append, List.cons_append]
 gi_wp2_with (gi_at_call 46; refine (allN_in (m - 1) _ _).mono ?_; rintro e w' ⟨rfl, rfl⟩)
 rw [← HW5.out]
 refine wpIn_rangeFunc_ownG rfl hm1 (gf := 59) rfl trivial (enters_of Tryz.func59 (by kernel_rfl) rfl)
  hseq (fun h k => KeepC.trans h k) (fun W l o o' hl h1 h2 _ => KeepC.putObj _ o' h1 h2) (Below.refl _ _) (fun _ => rfl)
  (fun pre W => NxI σ w5 (pre.map (·.1)) W)
  (fun c _ W => c = .ret ∧ NxX T (ps ++ ls) σ w w5 w.heap.size W)
  (NxI.own σ w5 _)
  (fun c => NxX.own T _ σ w w5 _ HB5.out.size (by rw [HZ5.out]; omega) c .ret)
  ⟨Below.refl _ _, fun p h => by cases h⟩
  (fun x => { tmps := #[.pointer (some ⟨nb, 0, none⟩), undef, .pointer (some ⟨w.heap.size, 0, none⟩), partV (T x.1) x.1, .pointer (some ⟨nb, 0, none⟩), .func (.func 59) #[] #[.pointer (some ⟨w.heap.size + 1, 0, none⟩)], partV (T x.1) x.1, undef, undef, undef], defers := [] }) ?assign ?body ?done ?stop
 case assign =>
  intro l x W K hK
  gi_wp2
  exact hK
 case body =>
  rintro l pre ⟨x, hx⟩ W hI hlt
  simp only
  have hWS := HS.out.kept hI.below
  have s0 := hWS.fw x hx
  have hlen := (hWS.sw x hx).le
  have hme := fun W => meth_waits (HT.out x hx) x W
  have HC := qd (show ∀ (k : Nat) (W' : World), Below W.heap.size W W' → CallsIn (Fence.wide.inRound l) k Tryz.prog 94 #[.pointer (some ⟨x, 0, none⟩)] W' fun e w' => e = .returned (.bool (!decide ((σ.wws x).length = 0))) ∧ Below W'.heap.size W' w' from fun k W' hW => (callsIn_wide.2 (waits_any B x (σ.wsk x) (σ.wws x) (σ.wr x) W' (s0.kept hW) (by have := HN.out; omega)) : CallsIn Fence.wide k _ _ _ _ _))
  have hWz : w.heap.size < W.heap.size := by have := hI.below.size; have := HZ5.out; omega
  have c0 := (hI.below.cell (p := ⟨w.heap.size, 0, none⟩) (by rw [HZ5.out]; show w.heap.size < _; omega)).trans HY0.out
  have f0 := (hI.below.frozen (p := ⟨w.heap.size, 0, none⟩) (by rw [HZ5.out]; show w.heap.size < _; omega)).trans HG0.out
  have HI := qd hI
  have HX := qd hx
  obtain ⟨n, hn⟩ : ∃ n, n = (σ.wws x).length := ⟨_, rfl⟩
  rw [← hn] at HC
  have HN0 := qd hn
  clear hn hI hWS s0 hlen hseq hlt
  unfold partV
  generalize hTx : T x = tx at *
  have HTX := qd hTx
  clear hTx
  by_cases hz : n = 0
  · subst hz
    gi_wp2
    refine ⟨trivial, fun _ => by omega, ?_⟩
    refine (HC.out _ _ (Below.refl _ _)).mono ?_
    rintro e w' ⟨rfl, hb1⟩
    have HB1 := qd hb1
    clear hb1
    gi_wp2
    exact ⟨below_others HB1.out _, KeepC.of_below HB1.out, HI.out.below.trans (HB1.out.mono HI.out.below.size), fun p hp => by
        rw [List.map_append, List.mem_append] at hp
        rcases hp with hp | hp
        · exact HI.out.none p hp
        · simp at hp; subst hp; exact HN0.out.symm⟩
  · have hzb : decide (n = 0) = false := by simp [hz]
    have HZB := qd hz
    clear hz
    gi_wp2
    refine ⟨trivial, fun _ => by omega, ?_⟩
    refine (HC.out _ _ (Below.refl _ _)).mono ?_
    rintro e w' ⟨rfl, hb1⟩
    have HB1 := qd hb1
    have c1 := (hb1.cell (p := ⟨w.heap.size, 0, none⟩) hWz).trans c0
    have f1 := (hb1.frozen (p := ⟨w.heap.size, 0, none⟩) hWz).trans f0
    clear hb1
    gi_wp2
    refine ⟨⟨by simpa using HB1.out.size, fun k ob hk h1 h2 => ?_⟩, rfl, ⟨((HB5.out.trans (HI.out.below.mono HB5.out.size)).trans (HB1.out.mono (by omega))).setCell (p := ⟨w.heap.size, 0, none⟩) (Nat.le_refl _) _, ?_, x, HX.out, ?_, by rw [← HN0.out]; exact HZB.out⟩⟩
    · have h3 := (HB1.out.block k (Array.getElem?_eq_some_iff.1 h1).1).trans h1
      refine (Below.heap_setCell _ _ _ _ ?_).trans h3
      show k ≠ w.heap.size
      have := HZ5.out
      omega
    · have h1 := HI.out.below.size
      have h2 := HB1.out.size
      simp only [World.size_setCell]; omega
    · rw [HTX.out]
      exact World.cell?_setCell_same _ _ _ c1
 case done =>
  rintro D ys W hD hys hI hK
  rw [hys] at hI
  have c0 := (hI.below.cell (p := ⟨w.heap.size, 0, none⟩) (by rw [HZ5.out]; show w.heap.size < _; omega)).trans HY0.out
  have f0 := (hI.below.frozen (p := ⟨w.heap.size, 0, none⟩) (by rw [HZ5.out]; show w.heap.size < _; omega)).trans HG0.out
  have HI := qd hI
  have HD := qd (show w.heap.size + 2 ≤ D by rw [← HZ5.out]; exact hD)
  have HK := qd hK
  clear hI hD hK hseq
  gi_wp2
  have hput : ∀ k, k ≠ D → ((W.setCell ⟨w.heap.size, 0, none⟩ .nilIface).putObj D (.deferred none)).heap[k]? = (W.setCell ⟨w.heap.size, 0, none⟩ .nilIface).heap[k]? := fun k hk => World.putObj_heap_other hk
  refine ⟨by simp, .inl ⟨_, _, rfl, run_takeDeferred ((Below.heap_setCell _ _ _ _ (by have := HD.out; show D ≠ w.heap.size; omega)).trans HK.out), ?_⟩⟩
  have q0 := (cob (a := ⟨w.heap.size, 0, none⟩) (hput _ (by have := HD.out; show w.heap.size ≠ D; omega))).trans (World.cell?_setCell_same _ _ _ c0)
  refine ⟨.nilIface, by simp [results, Tryz.results45, go_sem, q0], NextPost.none ?_ rfl HI.out.none⟩
  exact ((HB5.out.trans (HI.out.below.mono HB5.out.size)).setCell (p := ⟨w.heap.size, 0, none⟩) (Nat.le_refl _) _).trans ⟨rfl, rfl, rfl, by simp, fun k hk => hput k (by have := HD.out; omega)⟩
 case stop =>
  rintro D c pre W hD _ ⟨rfl, hX⟩ hK
  have HD := qd (show w.heap.size + 2 ≤ D by rw [← HZ5.out]; exact hD)
  have HK := qd hK
  have HX := qd hX
  clear hD hK hX hseq
  gi_wp2
  obtain ⟨p, hp, c1, hn⟩ := HX.out.ex
  have hput : ∀ k, k ≠ D → (W.putObj D (.deferred none)).heap[k]? = W.heap[k]? := fun k hk => World.putObj_heap_other hk
  refine ⟨by simp, .inl ⟨_, _, rfl, run_takeDeferred HK.out, ?_⟩⟩
  have q0 := (cob (a := ⟨w.heap.size, 0, none⟩) (hput _ (by have := HD.out; show w.heap.size ≠ D; omega))).trans c1
  refine ⟨partV (T p) p, by simp [results, Tryz.results45, go_sem, q0], NextPost.some ?_ p hp rfl hn⟩
  exact HX.out.below.trans ⟨rfl, rfl, rfl, by simp, fun k hk => hput k (by have := HD.out; omega)⟩
theorem next_any (B N nb : Nat) (T : Nat → TypeId) (ps ls : List Nat) (aa : Nat → Option Addr) (cc : Nat → Nat) (σ : St) (w : World) (hT : ∀ q ∈ ps ++ ls, PartT (T q)) (hσ : StOk B N (ps ++ ls) σ w) (hN : N ≤ 1048576) (hl1 : ps.length ≤ 1048576) (hl2 : ls.length ≤ 1048576) (hnb : nb < w.heap.size)
 (haa : ∀ i x, aa i = some x → x.block < w.heap.size) (h2 : w.cell? ⟨nb, 2, none⟩ = some (.slice (aa 0) ps.length (cc 0))) (h3 : w.cell? ⟨nb, 3, none⟩ = some (.slice (aa 1) ls.length (cc 1))) (hp : PartsAt w T ps (aa 0)) (hq : PartsAt w T ls (aa 1)) :
 Calls Tryz.prog 45 #[.pointer (some ⟨nb, 0, none⟩)] w (NextPost T (ps ++ ls) σ w) :=
 callsIn_wide.1 (next_in 8 (Nat.le_refl _) B N nb T ps ls aa cc σ w hT hσ hN hl1 hl2 hnb haa h2 h3 hp hq)
end Go.Proofs.YtcimhpdpfckgiaaGreatDoor.kit
namespace Go.Proofs.YtcimhpdpfckgiaaGreatDoor.kit
open Go.ChangeShapes Go.WideShapes Go.ChangeAt Go.RowKit
structure GuestChg (F : Nat → Prop) (w w' : World) : Prop where
 os : w'.os = w.os
 tape : w'.tape = w.tape
 output : w'.output = w.output
 size : w.heap.size ≤ w'.heap.size
 block : ∀ k, k < w.heap.size → ¬ F k → w'.heap[k]? = w.heap[k]?
theorem GuestChg.of_below {F : Nat → Prop} {w w' : World} (h : Below w.heap.size w w') : GuestChg F w w' := ⟨h.os, h.tape, h.output, h.size, fun k hk _ => h.block k hk⟩
theorem GuestChg.trans {F G : Nat → Prop} {w w1 w2 : World} (h : GuestChg F w w1) (h' : GuestChg G w1 w2) (hG : ∀ k, G k → F k ∨ w.heap.size ≤ k) : GuestChg F w w2 :=
 ⟨h'.os.trans h.os, h'.tape.trans h.tape, h'.output.trans h.output, Nat.le_trans h.size h'.size, fun k hk hn => (h'.block k (Nat.lt_of_lt_of_le hk h.size) (fun g => (hG k g).elim hn (fun x => by omega))).trans (h.block k hk hn)⟩
def PassPost (N : Nat) (a : Option Addr) (F : Nat → Prop) (M : Nat → Prop) (Ok : (Nat → Prop) → World → Prop) (w : World) (e : Ending) (w' : World) : Prop :=
 ∃ sk' ws' a' c' F', e = .returned (setV sk' a' ws'.length c') ∧ SetB N sk' ws' ∧ WordsAt w' ws' a' ∧ (∀ j, memS sk' ws' j ↔ M j) ∧ Ok F' w' ∧ (∀ k, F' k → F k ∨ w.heap.size ≤ k) ∧ GuestChg F w w' ∧
   ∀ x, a' = some x → a = some x ∨ F' x.block ∨ w.heap.size ≤ x.block
structure PassOk (K N L p fp : Nat) (T : TypeId) (R : Nat → Nat → Prop) (Ok : (Nat → Prop) → World → Prop) : Prop where
 meth : ∀ w, (method 276 T (.pointer (some ⟨p, 0, none⟩)) "loop.example/g00560/impl.pass").run Tryz.prog w = .ok (fp, .pointer (some ⟨p, 0, none⟩)) w
 enter : ∀ args w, (callFunc fp args).run Tryz.prog w = .ok (.enter fp args) w
 bd : ∀ i j, i ≤ L → R i j → j ≤ L
 lt : ∀ F w k, Ok F w → F k → K ≤ k ∧ k < w.heap.size
 keep : ∀ F w w', Ok F w → w.heap.size ≤ w'.heap.size → (∀ k, k < K ∨ F k → w'.heap[k]? = w.heap[k]?) → (∀ j, j < 2 ∨ 5 < j → w'.cell? ⟨p, j, none⟩ = w.cell? ⟨p, j, none⟩) → Ok F w'
 call : ∀ F w sk ws a c, Ok F w → ¬ F p → SetB N sk ws → WordsAt w ws a → (∀ j, memS sk ws j → j ≤ L) → (∀ x, a = some x → x.block < w.heap.size ∧ ¬ F x.block ∧ x.block ≠ p) →
  Calls Tryz.prog fp #[.pointer (some ⟨p, 0, none⟩), setV sk a ws.length c] w (PassPost N a F (img R (memS sk ws)) Ok w)
def OkE (p : Nat) (kind : Int) (s : ByteArray) (F : Nat → Prop) (w : World) : Prop := (∀ k, ¬ F k) ∧ p < w.heap.size ∧ w.cell? ⟨p, 0, none⟩ = some (.string s) ∧ w.cell? ⟨p, 7, none⟩ = some (.int .i64 kind)
theorem PassPost.of {N : Nat} {a : Option Addr} {F : Nat → Prop} {M : Nat → Prop} {Ok : (Nat → Prop) → World → Prop} {w w' : World} {e : Ending} (h : PassSet N a M w e w') (hO : Ok F w') : PassPost N a F M Ok w e w' := by
 obtain ⟨sk', ws', a', c', he, hb, hs, hw, hl, hm⟩ := h
 exact ⟨sk', ws', a', c', F, he, hs, hw, hm, hO, fun k hk => .inl hk, .of_below hb, fun x hx => (hl x hx).imp id .inr⟩
structure Nt where
 ps : List Nat
 ls : List Nat
 f : Nat
 z : Nat
 T : Nat → TypeId
 fp : Nat → Nat
 R : Nat → Nat → Nat → Prop
 E : Nat → List Nat
 Ok : Nat → (Nat → Prop) → World → Prop
 aa : Nat → Option Addr
 cc : Nat → Nat
 aq : Nat → Option Addr
 cq : Nat → Nat
def Nt.P (D : Nt) : List Nat := D.ps ++ D.ls
structure NtFix (K N L B nb : Nat) (D : Nt) : Prop where
 pass : ∀ p ∈ D.P, PassOk K N L p (D.fp p) (D.T p) (D.R p) (D.Ok p)
 T : ∀ p ∈ D.P, PartT (D.T p)
 E : ∀ p ∈ D.P, ∀ q ∈ D.E p, q ∈ D.P
 l1 : D.ps.length ≤ 1048576
 l2 : D.ls.length ≤ 1048576
 lE : ∀ p ∈ D.P, (D.E p).length ≤ 1048576
 f : D.f ∈ D.P
 z : D.z ∈ D.P
 nb : K ≤ nb ∧ nb < B ∧ nb ∉ D.P
 P : ∀ p ∈ D.P, K ≤ p
 aa : ∀ i x, D.aa i = some x → K ≤ x.block ∧ x.block < B ∧ x.block ∉ D.P
 aq : ∀ p ∈ D.P, ∀ x, D.aq p = some x → K ≤ x.block ∧ x.block < B ∧ x.block ∉ D.P
 N : N ≤ 1048576
def Nt.fix (D : Nt) (nb k : Nat) : Prop := k = nb ∨ (∃ i x, D.aa i = some x ∧ k = x.block) ∨ ∃ p ∈ D.P, ∃ x, D.aq p = some x ∧ k = x.block
structure NtAt (K N L B nb : Nat) (D : Nt) (σ : St) (Fs : Nat → Nat → Prop) (w : World) : Prop where
 st : StOk B N D.P σ w
 size : B ≤ w.heap.size
 c2 : w.cell? ⟨nb, 2, none⟩ = some (.slice (D.aa 0) D.ps.length (D.cc 0))
 c3 : w.cell? ⟨nb, 3, none⟩ = some (.slice (D.aa 1) D.ls.length (D.cc 1))
 c4 : w.cell? ⟨nb, 4, none⟩ = some (partV (D.T D.f) D.f)
 c5 : w.cell? ⟨nb, 5, none⟩ = some (.pointer (some ⟨D.z, 0, none⟩))
 r2 : PartsAt w D.T D.ps (D.aa 0)
 r3 : PartsAt w D.T D.ls (D.aa 1)
 c6 : ∀ p ∈ D.P, w.cell? ⟨p, 6, none⟩ = some (.slice (D.aq p) (D.E p).length (D.cq p))
 r6 : ∀ p ∈ D.P, PartsAt w D.T (D.E p) (D.aq p)
 ok : ∀ p ∈ D.P, D.Ok p (Fs p) w
 off : ∀ p ∈ D.P, ∀ k, Fs p k → k ∉ D.P ∧ ¬ D.fix nb k ∧ ¬ StRow D.P σ k
 two : ∀ p ∈ D.P, ∀ q ∈ D.P, p ≠ q → ∀ k, Fs p k → ¬ Fs q k
def Nt.own (D : Nt) (nb : Nat) (σ : St) (Fs : Nat → Nat → Prop) (k : Nat) : Prop := D.fix nb k ∨ k ∈ D.P ∨ StRow D.P σ k ∨ ∃ p ∈ D.P, Fs p k
theorem NtFix.off {K N L B nb : Nat} {D : Nt} (h : NtFix K N L B nb D) {k : Nat} (hk : D.fix nb k) : K ≤ k ∧ k < B ∧ k ∉ D.P := by
 rcases hk with rfl | ⟨i, x, hx, rfl⟩ | ⟨p, hp, x, hx, rfl⟩
 · exact h.nb
 · exact h.aa i x hx
 · exact h.aq p hp x hx
theorem NtAt.ownlt {K N L B nb : Nat} {D : Nt} {σ : St} {Fs : Nat → Nat → Prop} {w : World} (h : NtAt K N L B nb D σ Fs w) (hf : NtFix K N L B nb D) (hKB : K ≤ B) {k : Nat} (hk : D.own nb σ Fs k) : K ≤ k ∧ k < w.heap.size := by
 have hs := h.size
 rcases hk with hk | hk | hk | ⟨p, hp, hk⟩
 · have := hf.off hk; omega
 · have := hf.P k hk; have := (h.st.fw k hk).lt; omega
 · have := h.st.row hk; omega
 · exact (hf.pass p hp).lt _ _ k (h.ok p hp) hk
theorem NtAt.keep {K N L B nb : Nat} {D : Nt} {σ : St} {Fs : Nat → Nat → Prop} {w w' : World} (h : NtAt K N L B nb D σ Fs w) (hf : NtFix K N L B nb D) (hz : w.heap.size ≤ w'.heap.size) (hk : ∀ k, k < K ∨ D.own nb σ Fs k → w'.heap[k]? = w.heap[k]?) : NtAt K N L B nb D σ Fs w' where
 st := h.st.keep (fun p hp => hk p (.inr (.inr (.inl hp)))) (fun k hr => hk k (.inr (.inr (.inr (.inl hr)))))
 size := Nat.le_trans h.size hz
 c2 := (cob (a := ⟨nb, 2, none⟩) (hk nb (.inr (.inl (.inl rfl))))).trans h.c2
 c3 := (cob (a := ⟨nb, 3, none⟩) (hk nb (.inr (.inl (.inl rfl))))).trans h.c3
 c4 := (cob (a := ⟨nb, 4, none⟩) (hk nb (.inr (.inl (.inl rfl))))).trans h.c4
 c5 := (cob (a := ⟨nb, 5, none⟩) (hk nb (.inr (.inl (.inl rfl))))).trans h.c5
 r2 := h.r2.keep (fun x hx => hk _ (.inr (.inl (.inr (.inl ⟨0, x, hx, rfl⟩)))))
 r3 := h.r3.keep (fun x hx => hk _ (.inr (.inl (.inr (.inl ⟨1, x, hx, rfl⟩)))))
 c6 := fun p hp => (cob (a := ⟨p, 6, none⟩) (hk p (.inr (.inr (.inl hp))))).trans (h.c6 p hp)
 r6 := fun p hp => (h.r6 p hp).keep (fun x hx => hk _ (.inr (.inl (.inr (.inr ⟨p, hp, x, hx, rfl⟩)))))
 ok := fun p hp => (hf.pass p hp).keep _ _ _ (h.ok p hp) hz (fun k hF => hk k (hF.imp id (fun hF => .inr (.inr (.inr ⟨p, hp, hF⟩))))) (fun j _ => cob (a := ⟨p, j, none⟩) (hk p (.inr (.inr (.inl hp)))))
 off := h.off
 two := h.two
theorem NtAt.turn {K N L B nb : Nat} {D : Nt} {σ σ' : St} {Fs : Nat → Nat → Prop} {w w' : World} (h : NtAt K N L B nb D σ Fs w) (hf : NtFix K N L B nb D) (hKB : K ≤ B) (hs : StOk B N D.P σ' w') (hc : StChg D.P σ σ' w w') : NtAt K N L B nb D σ' Fs w' := by
 have hrow : ∀ k, k < B → ¬ StRow D.P σ k := fun k hk hr => by have := h.st.row hr; omega
 have hsz := h.size
 have hfix : ∀ k, D.fix nb k → w'.heap[k]? = w.heap[k]? := fun k hk => by
  have := hf.off hk
  exact hc.block k (by omega) this.2.2 (hrow k this.2.1)
 have hK : ∀ k, k < K → w'.heap[k]? = w.heap[k]? := fun k hk => hc.block k (by omega) (fun m => by have := hf.P k m; omega) (hrow k (by omega))
 refine ⟨hs, Nat.le_trans hsz hc.size, ?_, ?_, ?_, ?_, ?_, ?_, ?_, ?_, ?_, ?_, h.two⟩
 · exact (cob (a := ⟨nb, 2, none⟩) (hfix nb (.inl rfl))).trans h.c2
 · exact (cob (a := ⟨nb, 3, none⟩) (hfix nb (.inl rfl))).trans h.c3
 · exact (cob (a := ⟨nb, 4, none⟩) (hfix nb (.inl rfl))).trans h.c4
 · exact (cob (a := ⟨nb, 5, none⟩) (hfix nb (.inl rfl))).trans h.c5
 · exact h.r2.keep (fun x hx => hfix _ (.inr (.inl ⟨0, x, hx, rfl⟩)))
 · exact h.r3.keep (fun x hx => hfix _ (.inr (.inl ⟨1, x, hx, rfl⟩)))
 · exact fun p hp => (hc.cell p hp 6 (by omega)).trans (h.c6 p hp)
 · exact fun p hp => (h.r6 p hp).keep (fun x hx => hfix _ (.inr (.inr ⟨p, hp, x, hx, rfl⟩)))
 · intro p hp
   refine (hf.pass p hp).keep _ _ _ (h.ok p hp) hc.size (fun k hk => ?_) (fun j hj => hc.cell p hp j hj)
   rcases hk with hk | hk
   · exact hK k hk
   · have ho := h.off p hp k hk
     exact hc.block k ((hf.pass p hp).lt _ _ k (h.ok p hp) hk).2 ho.1 ho.2.2
 · intro p hp k hk
   have ho := h.off p hp k hk
   refine ⟨ho.1, ho.2.1, fun hr => ?_⟩
   rcases hc.row k hr with x | x
   · exact ho.2.2 x
   · have := ((hf.pass p hp).lt _ _ k (h.ok p hp) hk).2; omega
def updF (Fs : Nat → Nat → Prop) (p : Nat) (F : Nat → Prop) (q : Nat) : Nat → Prop := if q = p then F else Fs q
theorem updF_at (Fs : Nat → Nat → Prop) (p : Nat) (F : Nat → Prop) : updF Fs p F p = F := if_pos rfl
theorem updF_off (Fs : Nat → Nat → Prop) {p q : Nat} (F : Nat → Prop) (h : q ≠ p) : updF Fs p F q = Fs q := if_neg h
theorem NtAt.guest {K N L B nb : Nat} {D : Nt} {σ : St} {Fs : Nat → Nat → Prop} {w w' : World} (h : NtAt K N L B nb D σ Fs w) (hf : NtFix K N L B nb D) (hKB : K ≤ B) {p : Nat} (hp : p ∈ D.P) {F : Nat → Prop} (hc : GuestChg (Fs p) w w') (ho : D.Ok p F w') (hF : ∀ k, F k → Fs p k ∨ w.heap.size ≤ k) : NtAt K N L B nb D σ (updF Fs p F) w' := by
 have hsz := h.size
 have hfix : ∀ k, D.fix nb k → w'.heap[k]? = w.heap[k]? := fun k hk => by
  have := hf.off hk
  exact hc.block k (by omega) (fun e => (h.off p hp k e).2.1 hk)
 have hK : ∀ k, k < K → w'.heap[k]? = w.heap[k]? := fun k hk => hc.block k (by omega) (fun e => by have := (hf.pass p hp).lt _ _ k (h.ok p hp) e; omega)
 have hP : ∀ q ∈ D.P, w'.heap[q]? = w.heap[q]? := fun q hq => hc.block q (h.st.fw q hq).lt (fun e => (h.off p hp q e).1 hq)
 have hR : ∀ k, StRow D.P σ k → w'.heap[k]? = w.heap[k]? := fun k hk => hc.block k (h.st.row hk).2 (fun e => (h.off p hp k e).2.2 hk)
 have hlt : ∀ q ∈ D.P, ∀ k, Fs q k → k < w.heap.size := fun q hq k hk => ((hf.pass q hq).lt _ _ k (h.ok q hq) hk).2
 refine ⟨h.st.keep hP hR, Nat.le_trans hsz hc.size, ?_, ?_, ?_, ?_, ?_, ?_, ?_, ?_, ?_, ?_, ?_⟩
 · exact (cob (a := ⟨nb, 2, none⟩) (hfix nb (.inl rfl))).trans h.c2
 · exact (cob (a := ⟨nb, 3, none⟩) (hfix nb (.inl rfl))).trans h.c3
 · exact (cob (a := ⟨nb, 4, none⟩) (hfix nb (.inl rfl))).trans h.c4
 · exact (cob (a := ⟨nb, 5, none⟩) (hfix nb (.inl rfl))).trans h.c5
 · exact h.r2.keep (fun x hx => hfix _ (.inr (.inl ⟨0, x, hx, rfl⟩)))
 · exact h.r3.keep (fun x hx => hfix _ (.inr (.inl ⟨1, x, hx, rfl⟩)))
 · exact fun q hq => (cob (a := ⟨q, 6, none⟩) (hP q hq)).trans (h.c6 q hq)
 · exact fun q hq => (h.r6 q hq).keep (fun x hx => hfix _ (.inr (.inr ⟨q, hq, x, hx, rfl⟩)))
 · intro q hq
   by_cases c : q = p
   · subst c; rw [updF_at]; exact ho
   · rw [updF_off _ _ c]
     refine (hf.pass q hq).keep _ _ _ (h.ok q hq) hc.size (fun k hk => ?_) (fun j _ => cob (a := ⟨q, j, none⟩) (hP q hq))
     rcases hk with hk | hk
     · exact hK k hk
     · exact hc.block k (hlt q hq k hk) (h.two q hq p hp c k hk)
 · intro q hq k hk
   by_cases c : q = p
   · subst c
     rw [updF_at] at hk
     rcases hF k hk with x | x
     · exact h.off q hq k x
     · exact ⟨fun m => by have := (h.st.fw k m).lt; omega, fun m => by have := hf.off m; omega, fun m => by have := h.st.row m; omega⟩
   · rw [updF_off _ _ c] at hk
     exact h.off q hq k hk
 · intro x hx y hy hxy k hk
   by_cases c : x = p
   · subst c
     have d : y ≠ x := fun e => hxy e.symm
     rw [updF_at] at hk
     rw [updF_off _ _ d]
     rcases hF k hk with a | a
     · exact h.two x hx y hy hxy k a
     · intro e; have := hlt y hy k e; omega
   · rw [updF_off _ _ c] at hk
     by_cases d : y = p
     · subst d
       rw [updF_at]
       intro e
       rcases hF k e with a | a
       · exact h.two x hx y hy hxy k hk a
       · have := hlt x hx k hk; omega
     · rw [updF_off _ _ d]
       exact h.two x hx y hy hxy k hk
structure NtChg (nb : Nat) (D : Nt) (σ σ' : St) (Fs Fs' : Nat → Nat → Prop) (w w' : World) : Prop where
 chg : GuestChg (D.own nb σ Fs) w w'
 own : ∀ k, D.own nb σ' Fs' k → D.own nb σ Fs k ∨ w.heap.size ≤ k
theorem NtChg.trans {nb : Nat} {D : Nt} {σ σ1 σ2 : St} {Fs Fs1 Fs2 : Nat → Nat → Prop} {w w1 w2 : World} (h : NtChg nb D σ σ1 Fs Fs1 w w1) (h' : NtChg nb D σ1 σ2 Fs1 Fs2 w1 w2) : NtChg nb D σ σ2 Fs Fs2 w w2 :=
 ⟨h.chg.trans h'.chg h.own, fun k hk => (h'.own k hk).elim (h.own k) (fun x => .inr (Nat.le_trans h.chg.size x))⟩
theorem NtChg.below {nb : Nat} {D : Nt} {σ : St} {Fs : Nat → Nat → Prop} {w w' : World} (h : Below w.heap.size w w') : NtChg nb D σ σ Fs Fs w w' := ⟨.of_below h, fun k hk => .inl hk⟩
theorem NtChg.turn {nb : Nat} {D : Nt} {σ σ' : St} {Fs : Nat → Nat → Prop} {w w' : World} (h : StChg D.P σ σ' w w') : NtChg nb D σ σ' Fs Fs w w' :=
 ⟨⟨h.os, h.tape, h.output, h.size, fun k hk hn => h.block k hk (fun m => hn (.inr (.inl m))) (fun m => hn (.inr (.inr (.inl m))))⟩, fun k hk => by
   rcases hk with hk | hk | hk | hk
   · exact .inl (.inl hk)
   · exact .inl (.inr (.inl hk))
   · exact (h.row k hk).imp (fun x => .inr (.inr (.inl x))) id
   · exact .inl (.inr (.inr (.inr hk)))⟩
theorem NtChg.guest {nb : Nat} {D : Nt} {σ : St} {Fs : Nat → Nat → Prop} {w w' : World} {p : Nat} (hp : p ∈ D.P) {F : Nat → Prop} (hc : GuestChg (Fs p) w w') (hF : ∀ k, F k → Fs p k ∨ w.heap.size ≤ k) : NtChg nb D σ σ Fs (updF Fs p F) w w' :=
 ⟨⟨hc.os, hc.tape, hc.output, hc.size, fun k hk hn => hc.block k hk (fun m => hn (.inr (.inr (.inr ⟨p, hp, m⟩))))⟩, fun k hk => by
   rcases hk with hk | hk | hk | ⟨q, hq, hk⟩
   · exact .inl (.inl hk)
   · exact .inl (.inr (.inl hk))
   · exact .inl (.inr (.inr (.inl hk)))
   · by_cases c : q = p
     · subst c
       rw [updF_at] at hk
       exact (hF k hk).imp (fun x => .inr (.inr (.inr ⟨q, hq, x⟩))) id
     · rw [updF_off _ _ c] at hk
       exact .inl (.inr (.inr (.inr ⟨q, hq, hk⟩)))⟩
end Go.Proofs.YtcimhpdpfckgiaaGreatDoor.kit
namespace Go.Proofs.YtcimhpdpfckgiaaGreatDoor.kit
open Go.ChangeShapes Go.WideShapes Go.ChangeAt Go.RowKit
def wayE (kind : Int) (L i j : Nat) : Prop := i = j ∧ emptyN kind L i
theorem PassSet.congr {N : Nat} {a : Option Addr} {M M' : Nat → Prop} {w w' : World} {e : Ending} (h : PassSet N a M w e w') (hM : ∀ j, M j ↔ M' j) : PassSet N a M' w e w' := by
 obtain ⟨sk, ws, a', c, he, hb, hs, hw, hl, hm⟩ := h
 exact ⟨sk, ws, a', c, he, hb, hs, hw, hl, fun j => (hm j).trans (hM j)⟩
theorem okE (K N p : Nat) (kind : Int) (s : ByteArray) (hN : N ≤ 1048576) (hL : s.size / 64 < N) : PassOk K N s.size p 92 87 (wayE kind s.size) (OkE p kind s) where
 meth := me_pass p
 enter := enters_of Tryz.func92 (by kernel_rfl) rfl
 bd := fun i j hi h => by obtain ⟨rfl, _⟩ := h; exact hi
 lt := fun F w k h hk => absurd hk (h.1 k)
 keep := fun F w w' h hz hk hc => ⟨h.1, Nat.lt_of_lt_of_le h.2.1 hz, (hc 0 (by omega)).trans h.2.2.1, (hc 7 (by omega)).trans h.2.2.2⟩
 call := fun F w sk ws a c h _ hb hw hin ha => by
  obtain ⟨h1, h2, h3, h4⟩ := h
  refine (passE_any N p kind s sk ws a c w h2 h3 h4 hb hN hL hw).mono ?_
  intro e w' hp
  have hp2 := hp.congr (M' := img (wayE kind s.size) (memS sk ws)) (fun j => ⟨fun ⟨x, y⟩ => ⟨j, x, rfl, y⟩, fun ⟨i, x, e, y⟩ => by subst e; exact ⟨x, y⟩⟩)
  obtain ⟨_, _, _, _, _, hb', _⟩ := hp
  exact PassPost.of hp2 ⟨h1, Nat.lt_of_lt_of_le h2 hb'.size, (hb'.cell (p := ⟨p, 0, none⟩) h2).trans h3, (hb'.cell (p := ⟨p, 7, none⟩) h2).trans h4⟩
def OkB (p : Nat) (s : ByteArray) (back : Bool) (bs : ByteArray) (nt : Bool) (F : Nat → Prop) (w : World) : Prop :=
 (∀ k, ¬ F k) ∧ p < w.heap.size ∧ w.cell? ⟨p, 0, none⟩ = some (.string s) ∧ w.cell? ⟨p, 1, none⟩ = some (.bool back) ∧ w.cell? ⟨p, 7, none⟩ = some (.string bs) ∧ w.cell? ⟨p, 8, none⟩ = some (.bool nt) ∧ BT w
theorem okB (K N p : Nat) (s : ByteArray) (back : Bool) (bs : ByteArray) (nt : Bool) (hN : N ≤ 1048576) (hs : s.size ≤ 1048576) (hL : (s.size + 1) / 64 < N) (hK : 0 < K) : PassOk K N s.size p 99 113 (byteN s.data.toList back bs nt) (OkB p s back bs nt) where
 meth := mb_pass p
 enter := enters_of Tryz.func99 (by kernel_rfl) rfl
 bd := fun i j hi h => by
  obtain ⟨b, h1, _⟩ := h
  have := stepN_bd _ _ _ _ _ h1
  rwa [show s.data.toList.length = s.size by simp] at this
 lt := fun F w k h hk => absurd hk (h.1 k)
 keep := fun F w w' h hz hk hc => ⟨h.1, Nat.lt_of_lt_of_le h.2.1 hz, (hc 0 (by omega)).trans h.2.2.1, (hc 1 (by omega)).trans h.2.2.2.1, (hc 7 (by omega)).trans h.2.2.2.2.1, (hc 8 (by omega)).trans h.2.2.2.2.2.1, h.2.2.2.2.2.2.of (hk _ (.inl hK))⟩
 call := fun F w sk ws a c h _ hb hw hin ha => by
  obtain ⟨h1, h2, h3, h4, h5, h6, h7⟩ := h
  refine (passB_any N p s back bs nt sk ws a c w h2 h3 h4 h5 h6 hb hN hs hL hw h7 hin (fun x hx => (ha x hx).1)).mono ?_
  intro e w' hp
  obtain ⟨_, _, _, _, _, hb', _⟩ := id hp
  exact PassPost.of hp ⟨h1, Nat.lt_of_lt_of_le h2 hb'.size, (hb'.cell (p := ⟨p, 0, none⟩) h2).trans h3, (hb'.cell (p := ⟨p, 1, none⟩) h2).trans h4, (hb'.cell (p := ⟨p, 7, none⟩) h2).trans h5, (hb'.cell (p := ⟨p, 8, none⟩) h2).trans h6, h7.kept hb'⟩
end Go.Proofs.YtcimhpdpfckgiaaGreatDoor.kit
namespace Go.Proofs.YtcimhpdpfckgiaaGreatDoor.kit
open Go.ChangeShapes Go.WideShapes Go.ChangeAt Go.RowKit
structure RunI (K N L B nb : Nat) (D : Nt) (M : Nat → Prop) (σ0 : St) (Fs0 : Nat → Nat → Prop) (w0 : World) (σ : St) (Fs : Nat → Nat → Prop) (w : World) : Prop where
 lie : NtAt K N L B nb D σ Fs w
 chg : NtChg nb D σ0 σ Fs0 Fs w0 w
 net : NetN D.R D.E D.f M (fun p j => p ∈ D.P ∧ σ.begun p j) (fun p j => p ∈ D.P ∧ σ.waits p j)
 bd : ∀ p ∈ D.P, ∀ j, σ.begun p j ∨ σ.waits p j → j ≤ L
 dj : ∀ p ∈ D.P, ∀ j, σ.waits p j → ¬ σ.begun p j
structure MidI (K N L B nb : Nat) (D : Nt) (M : Nat → Prop) (σ0 : St) (Fs0 : Nat → Nat → Prop) (w0 : World) (p : Nat) (σ σ1 : St) (Fs : Nat → Nat → Prop) (w : World) : Prop where
 lie : NtAt K N L B nb D σ1 Fs w
 chg : NtChg nb D σ0 σ1 Fs0 Fs w0 w
 net : NetN D.R D.E D.f M (fun p j => p ∈ D.P ∧ σ.begun p j) (fun p j => p ∈ D.P ∧ σ.waits p j)
 bd : ∀ p ∈ D.P, ∀ j, σ.begun p j ∨ σ.waits p j → j ≤ L
 dj : ∀ p ∈ D.P, ∀ j, σ.waits p j → ¬ σ.begun p j
 sw : SetB N (σ.wsk p) (σ.wws p)
 b1 : ∀ q ∈ D.P, ∀ j, σ1.begun q j ↔ σ.begun q j ∨ (q = p ∧ σ.waits p j)
 w1 : ∀ q ∈ D.P, ∀ j, σ1.waits q j ↔ σ.waits q j ∧ q ≠ p
theorem NtAt.kept {K N L B nb : Nat} {D : Nt} {σ : St} {Fs : Nat → Nat → Prop} {w w' : World} (h : NtAt K N L B nb D σ Fs w) (hf : NtFix K N L B nb D) (hKB : K ≤ B) (hb : Below w.heap.size w w') : NtAt K N L B nb D σ Fs w' :=
 h.keep hf hb.size (fun k hk => hb.block k (by
  have := h.size
  rcases hk with hk | hk
  · omega
  · exact (h.ownlt hf hKB hk).2))
theorem RunI.kept {K N L B nb : Nat} {D : Nt} {M : Nat → Prop} {σ0 σ : St} {Fs0 Fs : Nat → Nat → Prop} {w0 w w' : World} (h : RunI K N L B nb D M σ0 Fs0 w0 σ Fs w) (hf : NtFix K N L B nb D) (hKB : K ≤ B) (hb : Below w.heap.size w w') : RunI K N L B nb D M σ0 Fs0 w0 σ Fs w' :=
 ⟨h.lie.kept hf hKB hb, h.chg.trans (.below hb), h.net, h.bd, h.dj⟩
theorem MidI.kept {K N L B nb : Nat} {D : Nt} {M : Nat → Prop} {σ0 σ σ1 : St} {Fs0 Fs : Nat → Nat → Prop} {w0 w w' : World} {p : Nat} (h : MidI K N L B nb D M σ0 Fs0 w0 p σ σ1 Fs w) (hf : NtFix K N L B nb D) (hKB : K ≤ B) (hb : Below w.heap.size w w') : MidI K N L B nb D M σ0 Fs0 w0 p σ σ1 Fs w' :=
 ⟨h.lie.kept hf hKB hb, h.chg.trans (.below hb), h.net, h.bd, h.dj, h.sw, h.b1, h.w1⟩
def BegPost (K N L B nb : Nat) (D : Nt) (M : Nat → Prop) (σ0 : St) (Fs0 : Nat → Nat → Prop) (w0 : World) (p : Nat) (σ : St) (Fs : Nat → Nat → Prop) (e : Ending) (w1 : World) : Prop :=
 ∃ a c σ1, e = .returned (setV (σ.wsk p) a (σ.wws p).length c) ∧ MidI K N L B nb D M σ0 Fs0 w0 p σ σ1 Fs w1 ∧ WordsAt w1 (σ.wws p) a ∧ ∀ x, a = some x → x.block < w1.heap.size ∧ x.block ∉ D.P ∧ ¬ StRow D.P σ1 x.block ∧ ∀ q ∈ D.P, ¬ Fs q x.block
theorem begin_run {K N L B nb : Nat} {D : Nt} {M : Nat → Prop} {σ0 σ : St} {Fs0 Fs : Nat → Nat → Prop} {w0 w : World} (h : RunI K N L B nb D M σ0 Fs0 w0 σ Fs w) (hf : NtFix K N L B nb D) (hKB : K ≤ B) {p : Nat} (hp : p ∈ D.P) :
 Calls Tryz.prog 90 #[.pointer (some ⟨p, 0, none⟩)] w (BegPost K N L B nb D M σ0 Fs0 w0 p σ Fs) := by
 have hs := h.lie.st
 refine (begin_any B p (σ.wsk p) (σ.wws p) (σ.wr p) (σ.bsk p) (σ.bws p) (σ.br p) N w (hs.fw p hp) (hs.fb p hp) (hs.sw p hp) (hs.sb p hp) hf.N h.lie.size (hs.dx p hp p hp)).mono ?_
 rintro e w1 ⟨a, c, he, hw, ha, h4, sk', ws', r', h5, h6, h7, h8, h9⟩
 have hrl := fun k hk => (hs.fw p hp).rlt k hk
 have hbl := fun k hk => (hs.fb p hp).rlt k hk
 have hu := hs.upd hp h9 (fun k hk => .inr hk) h4 h5 (SetB.nil N 0 (by omega)) h6 (fun k hk => by cases hk) h8 (fun k hk => by cases hk)
 refine ⟨a, c, _, he, ⟨h.lie.turn hf hKB hu.1 hu.2, h.chg.trans (.turn hu.2), h.net, h.bd, h.dj, hs.sw p hp, fun q hq j => ?_, fun q hq j => ?_⟩, hw, fun x hx => ?_⟩
 · by_cases d : q = p
   · subst d
     rw [(σ.upd_at q 0 [] none sk' ws' r' j).2, h7]
     simp [St.waits, St.begun]
   · rw [(σ.upd_off d 0 [] none sk' ws' r' j).2]
     simp [d]
 · by_cases d : q = p
   · subst d
     rw [(σ.upd_at q 0 [] none sk' ws' r' j).1]
     simp [memS_nil]
   · rw [(σ.upd_off d 0 [] none sk' ws' r' j).1]
     simp [d]
 · have hk := ha x hx
   refine ⟨Nat.lt_of_lt_of_le (hrl _ hk).2 h9.size, fun m => by have := hs.lt _ m; have := hrl _ hk; omega, ?_, fun q hq hF => (h.lie.off q hq _ hF).2.2 ⟨p, hp, .inl hk⟩⟩
   rintro ⟨q, hq, hr⟩
   by_cases d : q = p
   · subst d
     simp only [St.upd, if_true] at hr
     rcases hr with hr | hr
     · cases hr
     · rcases h8 _ hr with y | y
       · exact hs.dx q hq q hq _ hk y
       · have := hrl _ hk; omega
   · simp only [St.upd, if_neg d] at hr
     rcases hr with hr | hr
     · exact hs.dw q hq p hp d _ hr hk
     · exact hs.dx p hp q hq _ hk hr
def PasPost (K N L B nb : Nat) (D : Nt) (M : Nat → Prop) (σ0 : St) (Fs0 : Nat → Nat → Prop) (w0 : World) (p : Nat) (σ σ1 : St) (e : Ending) (w2 : World) : Prop :=
 ∃ sk ws a c Fs2, e = .returned (setV sk a ws.length c) ∧ MidI K N L B nb D M σ0 Fs0 w0 p σ σ1 Fs2 w2 ∧ SetB N sk ws ∧ WordsAt w2 ws a ∧ (∀ j, memS sk ws j ↔ img (D.R p) (σ.waits p) j) ∧ ∀ x, a = some x → x.block ∉ D.P ∧ ¬ StRow D.P σ1 x.block
theorem pass_run {K N L B nb : Nat} {D : Nt} {M : Nat → Prop} {σ0 σ σ1 : St} {Fs0 Fs : Nat → Nat → Prop} {w0 w : World} {p : Nat} (h : MidI K N L B nb D M σ0 Fs0 w0 p σ σ1 Fs w) (hf : NtFix K N L B nb D) (hKB : K ≤ B) (hp : p ∈ D.P)
 (a : Option Addr) (c : Nat) (hw : WordsAt w (σ.wws p) a) (ha : ∀ x, a = some x → x.block < w.heap.size ∧ x.block ∉ D.P ∧ ¬ StRow D.P σ1 x.block ∧ ∀ q ∈ D.P, ¬ Fs q x.block) :
 Calls Tryz.prog (D.fp p) #[.pointer (some ⟨p, 0, none⟩), setV (σ.wsk p) a (σ.wws p).length c] w (PasPost K N L B nb D M σ0 Fs0 w0 p σ σ1) := by
 refine ((hf.pass p hp).call (Fs p) w (σ.wsk p) (σ.wws p) a c (h.lie.ok p hp) (fun e => (h.lie.off p hp p e).1 hp) h.sw hw (fun j hj => h.bd p hp j (.inr hj)) (fun x hx => ⟨(ha x hx).1, (ha x hx).2.2.2 p hp, fun e => (ha x hx).2.1 (e ▸ hp)⟩)).mono ?_
 rintro e w2 ⟨sk', ws', a', c', F', he, hb, hw', hm, ho, hF, hc, hl⟩
 have hg := h.lie.guest hf hKB hp hc ho hF
 refine ⟨sk', ws', a', c', updF Fs p F', he, ⟨hg, h.chg.trans (.guest hp hc hF), h.net, h.bd, h.dj, h.sw, h.b1, h.w1⟩, hb, hw', hm, fun x hx => ?_⟩
 rcases hl x hx with y | y | y
 · exact ⟨(ha x y).2.1, (ha x y).2.2.1⟩
 · have := hg.off p hp x.block (by rw [updF_at]; exact y)
   exact ⟨this.1, this.2.2⟩
 · exact ⟨fun m => by have := (h.lie.st.fw _ m).lt; omega, fun m => by have := h.lie.st.row m; omega⟩
def TelPost (K N L B nb : Nat) (D : Nt) (M : Nat → Prop) (σ0 : St) (Fs0 : Nat → Nat → Prop) (w0 : World) (p : Nat) (σ : St) (e : Ending) (w3 : World) : Prop :=
 (∃ v, e = .returned v) ∧ ∃ σ3 Fs3, RunI K N L B nb D M σ0 Fs0 w0 σ3 Fs3 w3 ∧ ∀ q ∈ D.P, ∀ j, σ3.begun q j ↔ σ.begun q j ∨ (q = p ∧ σ.waits p j)
theorem tell_run {K N L B nb : Nat} {D : Nt} {M : Nat → Prop} {σ0 σ σ1 : St} {Fs0 Fs : Nat → Nat → Prop} {w0 w : World} {p : Nat} (h : MidI K N L B nb D M σ0 Fs0 w0 p σ σ1 Fs w) (hf : NtFix K N L B nb D) (hKB : K ≤ B) (hp : p ∈ D.P)
 (sk : Nat) (ws : List Nat) (a : Option Addr) (c : Nat) (hb : SetB N sk ws) (hw : WordsAt w ws a) (hm : ∀ j, memS sk ws j ↔ img (D.R p) (σ.waits p) j) (ha : ∀ x, a = some x → x.block ∉ D.P ∧ ¬ StRow D.P σ1 x.block) :
 Calls Tryz.prog 93 #[.pointer (some ⟨p, 0, none⟩), setV sk a ws.length c] w (TelPost K N L B nb D M σ0 Fs0 w0 p σ) := by
 refine (tell_any B N D.P σ1 D.T p (D.E p) (D.aq p) (D.cq p) sk ws a c w h.lie.st hp (hf.E p hp) hf.T (hf.lE p hp) (h.lie.c6 p hp) (h.lie.r6 p hp) (fun x hx => (hf.aq p hp x hx).2) hb hf.N h.lie.size hw ha).mono ?_
 rintro e w3 ⟨hv, σ3, h1, h2, h3, h4⟩
 have hbg : ∀ q ∈ D.P, ∀ j, σ3.begun q j ↔ σ.begun q j ∨ (q = p ∧ σ.waits p j) := fun q hq j => (h3 q hq j).trans (h.b1 q hq j)
 refine ⟨hv, σ3, Fs, ⟨h.lie.turn hf hKB h1 h2, h.chg.trans (.turn h2), ?_, ?_, ?_⟩, hbg⟩
 · refine h.net.turn p (fun q j => ?_) (fun q j => ?_)
   · constructor
     · rintro ⟨hq, hb⟩
       rcases (hbg q hq j).1 hb with x | ⟨rfl, x⟩
       · exact .inl ⟨hq, x⟩
       · exact .inr ⟨rfl, hp, x⟩
     · rintro (⟨hq, x⟩ | ⟨rfl, _, x⟩)
       · exact ⟨hq, (hbg q hq j).2 (.inl x)⟩
       · exact ⟨hp, (hbg q hp j).2 (.inr ⟨rfl, x⟩)⟩
   · have hi : ∀ j, img (D.R p) (fun i => p ∈ D.P ∧ σ.waits p i) j ↔ img (D.R p) (σ.waits p) j := fun j => ⟨fun ⟨i, x, y⟩ => ⟨i, x.2, y⟩, fun ⟨i, x, y⟩ => ⟨i, ⟨hp, x⟩, y⟩⟩
     rw [hi]
     constructor
     · rintro ⟨hq, hx⟩
       rcases (h4 q hq j).1 hx with x | ⟨x, y, z⟩
       · have := (h.w1 q hq j).1 x
         exact .inl ⟨⟨hq, this.1⟩, this.2⟩
       · exact .inr ⟨x, (hm j).1 y, fun b => z ((h3 q hq j).1 b.2)⟩
     · rintro (⟨⟨hq, x⟩, y⟩ | ⟨x, y, z⟩)
       · exact ⟨hq, (h4 q hq j).2 (.inl ((h.w1 q hq j).2 ⟨x, y⟩))⟩
       · have hq := hf.E p hp q x
         exact ⟨hq, (h4 q hq j).2 (.inr ⟨x, (hm j).2 y, fun b => z ⟨hq, (h3 q hq j).2 b⟩⟩)⟩
 · intro q hq j hj
   rcases hj with hj | hj
   · rcases (hbg q hq j).1 hj with x | ⟨_, x⟩
     · exact h.bd q hq j (.inl x)
     · exact h.bd p hp j (.inr x)
   · rcases (h4 q hq j).1 hj with x | ⟨_, x, _⟩
     · exact h.bd q hq j (.inr ((h.w1 q hq j).1 x).1)
     · obtain ⟨i, y, z⟩ := (hm j).1 x
       exact (hf.pass p hp).bd i j (h.bd p hp i (.inr y)) z
 · intro q hq j hj hb
   rcases (h4 q hq j).1 hj with x | ⟨_, _, x⟩
   · have y := (h.w1 q hq j).1 x
     rcases (hbg q hq j).1 hb with z | ⟨z, _⟩
     · exact h.dj q hq j y.1 z
     · exact y.2 z
   · exact x ((h3 q hq j).1 hb)
end Go.Proofs.YtcimhpdpfckgiaaGreatDoor.kit
namespace Go.Proofs.YtcimhpdpfckgiaaGreatDoor.kit
open Go.ChangeShapes Go.WideShapes Go.ChangeAt Go.RowKit
theorem least_ex {R : Nat → Prop} (h : ∃ m, R m) : ∃ m, R m ∧ ∀ k, R k → m ≤ k := by
 obtain ⟨m, hm⟩ := h
 induction m using Nat.strongRecOn with
 | ind m ih =>
   by_cases c : ∃ k, k < m ∧ R k
   · obtain ⟨k, h1, h2⟩ := c; exact ih k h1 h2
   · exact ⟨m, hm, fun k hk => Nat.le_of_not_lt (fun hl => c ⟨k, hl, hk⟩)⟩
open Classical in
noncomputable def least (R : Nat → Prop) : Nat := if h : ∃ m, R m then (least_ex h).choose else 0
theorem least_of {R : Nat → Prop} (h : ∃ m, R m) : R (least R) := by
 unfold least; rw [dif_pos h]; exact (least_ex h).choose_spec.1
theorem least_le {R : Nat → Prop} {m : Nat} (h : R m) : least R ≤ m := by
 unfold least; rw [dif_pos ⟨m, h⟩]; exact (least_ex ⟨m, h⟩).choose_spec.2 m h
theorem NetN.congr {R : Nat → Nat → Nat → Prop} {E : Nat → List Nat} {f : Nat} {P : Nat → Prop} {b b' w w' : Nat → Nat → Prop} (h : NetN R E f P b w) (hb : ∀ p j, b p j ↔ b' p j) (hw : ∀ p j, w p j ↔ w' p j) : NetN R E f P b' w' := by
 have e1 : b = b' := by funext p j; exact propext (hb p j)
 have e2 : w = w' := by funext p j; exact propext (hw p j)
 subst e1; subst e2; exact h
def St.rest (σ : St) (P : List Nat) : Prop := ∀ p ∈ P, ∀ j, ¬ σ.waits p j ∧ ¬ σ.begun p j
theorem start_run {K N L B nb : Nat} {D : Nt} {σ : St} {Fs : Nat → Nat → Prop} {w : World} (h : NtAt K N L B nb D σ Fs w) (hf : NtFix K N L B nb D) (hKB : K ≤ B) (hr : σ.rest D.P) (sk : Nat) (ws : List Nat) (a : Option Addr) (c : Nat) (hb : SetB N sk ws) (hw : WordsAt w ws a) (hL : ∀ j, memS sk ws j → j ≤ L) (w0 : World) (h0 : Below w0.heap.size w0 w) (hz : w0.heap.size = w.heap.size) :
 Calls Tryz.prog 89 #[.pointer (some ⟨D.f, 0, none⟩), setV sk a ws.length c] w fun e w' => (∃ v, e = .returned v) ∧ ∃ σ', RunI K N L B nb D (memS sk ws) σ Fs w0 σ' Fs w' := by
 refine (awaitP_any B N D.P σ D.f sk ws a c w h.st hf.f hb hf.N h.size hw).mono ?_
 rintro e w' ⟨hv, σ', h1, h2, h3, h4⟩
 have hbg : ∀ p ∈ D.P, ∀ j, ¬ σ'.begun p j := fun p hp j x => (hr p hp j).2 ((h3 p hp j).1 x)
 have hwt : ∀ p ∈ D.P, ∀ j, σ'.waits p j ↔ p = D.f ∧ memS sk ws j := fun p hp j => (h4 p hp j).trans ⟨fun x => x.elim (fun y => absurd y (hr p hp j).1) (fun y => ⟨y.1, y.2.1⟩), fun x => .inr ⟨x.1, x.2, (hr p hp j).2⟩⟩
 refine ⟨hv, σ', h.turn hf hKB h1 h2, (NtChg.below h0).trans (.turn h2), ?_, ?_, fun p hp j _ x => hbg p hp j x⟩
 · refine NetN.first.congr (fun p j => ⟨False.elim, fun x => hbg p x.1 j x.2⟩) (fun p j => ⟨fun x => ?_, fun x => (hwt p x.1 j).1 x.2⟩)
   have hp : p ∈ D.P := x.1 ▸ hf.f
   exact ⟨hp, (hwt p hp j).2 x⟩
 · intro p hp j hj
   rcases hj with x | x
   · exact absurd x (hbg p hp j)
   · exact hL j ((hwt p hp j).1 x).2
def NxV (D : Nt) (σ : St) (iv : Value) : Prop := (iv = .nilIface ∧ ∀ p ∈ D.P, ∀ j, ¬ σ.waits p j) ∨ ∃ p ∈ D.P, iv = partV (D.T p) p ∧ ∃ j, σ.waits p j
theorem next_run {K N L B nb : Nat} {D : Nt} {M : Nat → Prop} {σ0 σ : St} {Fs0 Fs : Nat → Nat → Prop} {w0 w : World} (h : RunI K N L B nb D M σ0 Fs0 w0 σ Fs w) (hf : NtFix K N L B nb D) (hKB : K ≤ B) :
 Calls Tryz.prog 45 #[.pointer (some ⟨nb, 0, none⟩)] w fun e w' => ∃ iv, e = .returned iv ∧ NxV D σ iv ∧ RunI K N L B nb D M σ0 Fs0 w0 σ Fs w' := by
 have hz := h.lie.size
 refine (next_any B N nb D.T D.ps D.ls D.aa D.cc σ w hf.T h.lie.st hf.N hf.l1 hf.l2 (by have := hf.nb; omega) (fun i x hx => by have := hf.aa i x hx; omega) h.lie.c2 h.lie.c3 h.lie.r2 h.lie.r3).mono ?_
 rintro e w' ⟨hb, hv⟩
 have hk := h.kept hf hKB hb
 rcases hv with ⟨he, hn⟩ | ⟨p, hp, he, hn⟩
 · refine ⟨_, he, .inl ⟨rfl, fun p hp j hj => ?_⟩, hk⟩
   have e0 : σ.wws p = [] := List.eq_nil_iff_length_eq_zero.2 (hn p hp)
   unfold St.waits at hj
   rw [e0] at hj
   exact memS_nil _ _ hj
 · refine ⟨_, he, .inr ⟨p, hp, rfl, ?_⟩, hk⟩
   rcases (h.lie.st.sw p hp).some with x | ⟨j, x⟩
   · rw [x] at hn; exact absurd rfl hn
   · exact ⟨j, x⟩
theorem RunI.done {K N L B nb : Nat} {D : Nt} {M : Nat → Prop} {σ0 σ : St} {Fs0 Fs : Nat → Nat → Prop} {w0 w : World} (h : RunI K N L B nb D M σ0 Fs0 w0 σ Fs w) (hf : NtFix K N L B nb D) (hn : ∀ p ∈ D.P, ∀ j, ¬ σ.waits p j) (j : Nat) : σ.begun D.z j ↔ ∃ i, M i ∧ PathN D.R D.E D.f i D.z j := by
 rw [← h.net.done (fun p j x => hn p x.1 j x.2)]
 exact ⟨fun x => ⟨hf.z, x⟩, fun x => x.2⟩
noncomputable def leftN (L : Nat) (D : Nt) (σ : St) : Nat := D.P.length * (L + 1) - sumN L D.P (fun p j => p ∈ D.P ∧ σ.begun p j)
theorem leftN_lt {L : Nat} {D : Nt} {σ σ3 : St} {p : Nat} (hp : p ∈ D.P) (h : ∀ q ∈ D.P, ∀ j, σ3.begun q j ↔ σ.begun q j ∨ (q = p ∧ σ.waits p j)) (hw : ∃ j, σ.waits p j ∧ j ≤ L ∧ ¬ σ.begun p j) : leftN L D σ3 < leftN L D σ := by
 obtain ⟨j, h1, h2, h3⟩ := hw
 have a := sumN_lt L (B := fun p j => p ∈ D.P ∧ σ.begun p j) (C := fun p j => p ∈ D.P ∧ σ3.begun p j) (fun q i x => ⟨x.1, (h q x.1 i).2 (.inl x.2)⟩) p ⟨j, h2, ⟨hp, (h p hp j).2 (.inr ⟨rfl, h1⟩)⟩, fun x => h3 x.2⟩ D.P hp
 have b := sumN_le L (fun p j => p ∈ D.P ∧ σ3.begun p j) D.P
 unfold leftN; omega
def RelE (K N L B nb : Nat) (D : Nt) (M : Nat → Prop) (σ0 : St) (Fs0 : Nat → Nat → Prop) (w0 : World) (iv : Value) (w : World) (m : Nat) : Prop :=
 ∃ σ Fs, RunI K N L B nb D M σ0 Fs0 w0 σ Fs w ∧ NxV D σ iv ∧ m = leftN L D σ
end Go.Proofs.YtcimhpdpfckgiaaGreatDoor.kit
namespace Go.Proofs.YtcimhpdpfckgiaaGreatDoor.kit
open Go.ChangeShapes Go.WideShapes Go.ChangeAt Go.RowKit Go.Shelf
theorem forgetP_any (p : Nat) (w : World) (u v : Value) (h4 : w.cell? ⟨p, 4, none⟩ = some u) (h5 : w.cell? ⟨p, 5, none⟩ = some v) (f4 : w.frozen? ⟨p, 4, none⟩ = false) (f5 : w.frozen? ⟨p, 5, none⟩ = false) :
 Calls Tryz.prog 91 #[.pointer (some ⟨p, 0, none⟩)] w fun e w' => (∃ v, e = .returned v) ∧ w' = (w.setCell ⟨p, 4, none⟩ (.int .i64 0)).setCell ⟨p, 5, none⟩ (.slice none 0 0) := by
 go_enter Tryz.func91, Tryz.ntmps91
 go_wp2_with fail
 go_end0
 exact ⟨⟨_, rfl⟩, rfl⟩
structure FgI (P : List Nat) (w7 : World) (pre : List Nat) (W : World) : Prop where
 os : W.os = w7.os
 tape : W.tape = w7.tape
 output : W.output = w7.output
 size : w7.heap.size ≤ W.heap.size
 block : ∀ k, k < w7.heap.size → k ∉ P → W.heap[k]? = w7.heap[k]?
 cell : ∀ p ∈ P, ∀ j, j < 4 ∨ 5 < j → W.cell? ⟨p, j, none⟩ = w7.cell? ⟨p, j, none⟩
 frozen : ∀ p ∈ P, ∀ j, W.frozen? ⟨p, j, none⟩ = w7.frozen? ⟨p, j, none⟩
 gone : ∀ p ∈ P, p ∈ pre → W.cell? ⟨p, 4, none⟩ = some (.int .i64 0) ∧ W.cell? ⟨p, 5, none⟩ = some (.slice none 0 0)
 here : ∀ p ∈ P, p ∉ pre → W.cell? ⟨p, 4, none⟩ = w7.cell? ⟨p, 4, none⟩ ∧ W.cell? ⟨p, 5, none⟩ = w7.cell? ⟨p, 5, none⟩
theorem FgI.start (P : List Nat) (w7 : World) : FgI P w7 [] w7 :=
 ⟨rfl, rfl, rfl, Nat.le_refl _, fun _ _ _ => rfl, fun _ _ _ _ => rfl, fun _ _ _ => rfl, fun _ _ h => (by cases h), fun _ _ _ => ⟨rfl, rfl⟩⟩
theorem FgI.grown {P : List Nat} {w7 W W' : World} {pre : List Nat} (h : FgI P w7 pre W) (hP : ∀ p ∈ P, p < w7.heap.size) (ho : W'.os = W.os) (ht : W'.tape = W.tape) (hu : W'.output = W.output) (hz : W.heap.size ≤ W'.heap.size) (hk : ∀ k, k < w7.heap.size → W'.heap[k]? = W.heap[k]?) : FgI P w7 pre W' :=
 have hc : ∀ p ∈ P, ∀ j, W'.cell? ⟨p, j, none⟩ = W.cell? ⟨p, j, none⟩ := fun p m j => cob (a := ⟨p, j, none⟩) (hk p (hP p m))
 ⟨ho.trans h.os, ht.trans h.tape, hu.trans h.output, Nat.le_trans h.size hz, fun k a b => (hk k a).trans (h.block k a b), fun p m j hj => (hc p m j).trans (h.cell p m j hj),
   fun p m j => (World.frozen?_of_block (a := ⟨p, j, none⟩) (hk p (hP p m))).trans (h.frozen p m j), fun p m x => ⟨(hc p m 4).trans (h.gone p m x).1, (hc p m 5).trans (h.gone p m x).2⟩,
   fun p m x => ⟨(hc p m 4).trans (h.here p m x).1, (hc p m 5).trans (h.here p m x).2⟩⟩
theorem FgI.own {α : Type} (P : List Nat) (w7 : World) (hP : ∀ p ∈ P, p < w7.heap.size) (f : List α → List Nat) : OwnFrom w7.heap.size (fun s W => FgI P w7 (f s) W) := fun s W W' row h hg hrow =>
 h.grown hP hg.os hg.tape hg.output hg.size (fun k hk => hg.block k (Nat.lt_of_lt_of_le hk h.size) (fun e => by have := (hrow k e.symm).1; omega))
theorem FgI.cells {B N : Nat} {P : List Nat} {σ : St} {w7 W : World} {pre : List Nat} (h : FgI P w7 pre W) (hs : StOk B N P σ w7) {x : Nat} (hx : x ∈ P) :
 ∃ u v, W.cell? ⟨x, 4, none⟩ = some u ∧ W.cell? ⟨x, 5, none⟩ = some v ∧ W.frozen? ⟨x, 4, none⟩ = false ∧ W.frozen? ⟨x, 5, none⟩ = false := by
 have hb := hs.fb x hx
 have f4 := (h.frozen x hx 4).trans hb.f0
 have f5 := (h.frozen x hx 5).trans hb.f1
 by_cases c : x ∈ pre
 · exact ⟨_, _, (h.gone x hx c).1, (h.gone x hx c).2, f4, f5⟩
 · obtain ⟨a, d, e, _, _⟩ := hb.c1
   exact ⟨_, _, (h.here x hx c).1.trans hb.c0, (h.here x hx c).2.trans e, f4, f5⟩
theorem forgot_heap (W : World) (x k : Nat) (hk : k ≠ x) : ((W.setCell ⟨x, 4, none⟩ (.int .i64 0)).setCell ⟨x, 5, none⟩ (.slice none 0 0)).heap[k]? = W.heap[k]? :=
 (Below.heap_setCell _ _ _ _ hk).trans (Below.heap_setCell _ _ _ _ hk)
theorem FgI.step {P : List Nat} {w7 W : World} {pre : List Nat} (h : FgI P w7 pre W) {x : Nat} (hx : x ∈ P) {u v : Value} (h4 : W.cell? ⟨x, 4, none⟩ = some u) (h5 : W.cell? ⟨x, 5, none⟩ = some v) :
 FgI P w7 (pre ++ [x]) ((W.setCell ⟨x, 4, none⟩ (.int .i64 0)).setCell ⟨x, 5, none⟩ (.slice none 0 0)) := by
 have hc : ∀ p, p ≠ x → ∀ j, ((W.setCell ⟨x, 4, none⟩ (.int .i64 0)).setCell ⟨x, 5, none⟩ (.slice none 0 0)).cell? ⟨p, j, none⟩ = W.cell? ⟨p, j, none⟩ := fun p hp j => cob (a := ⟨p, j, none⟩) (forgot_heap W x p hp)
 have hj : ∀ j, j ≠ 4 → j ≠ 5 → ((W.setCell ⟨x, 4, none⟩ (.int .i64 0)).setCell ⟨x, 5, none⟩ (.slice none 0 0)).cell? ⟨x, j, none⟩ = W.cell? ⟨x, j, none⟩ := fun j a b => by
  rw [World.cell?_setCell_other _ _ _ _ (by intro e; injection e with _ e; omega), World.cell?_setCell_other _ _ _ _ (by intro e; injection e with _ e; omega)]
 have q4 : ((W.setCell ⟨x, 4, none⟩ (.int .i64 0)).setCell ⟨x, 5, none⟩ (.slice none 0 0)).cell? ⟨x, 4, none⟩ = some (.int .i64 0) := by
  rw [World.cell?_setCell_other _ _ _ _ (by intro e; injection e with _ e; omega)]
  exact World.cell?_setCell_same _ _ _ h4
 have q5 : ((W.setCell ⟨x, 4, none⟩ (.int .i64 0)).setCell ⟨x, 5, none⟩ (.slice none 0 0)).cell? ⟨x, 5, none⟩ = some (.slice none 0 0) := by
  have e5 : (W.setCell ⟨x, 4, none⟩ (.int .i64 0)).cell? ⟨x, 5, none⟩ = some v := by
   rw [World.cell?_setCell_other _ _ _ _ (by intro e; injection e with _ e; omega)]; exact h5
  exact World.cell?_setCell_same _ _ _ e5
 refine ⟨h.os, h.tape, h.output, by simpa using h.size, fun k a b => (forgot_heap W x k (fun e => b (e ▸ hx))).trans (h.block k a b), fun p m j hjj => ?_, fun p m j => ?_, fun p m hp => ?_, fun p m hp => ?_⟩
 · by_cases c : p = x
   · subst c; exact (hj j (by omega) (by omega)).trans (h.cell p m j hjj)
   · exact (hc p c j).trans (h.cell p m j hjj)
 · rw [World.frozen?_setCell, World.frozen?_setCell]; exact h.frozen p m j
 · by_cases c : p = x
   · subst c; exact ⟨q4, q5⟩
   · have : p ∈ pre := by rw [List.mem_append] at hp; rcases hp with hp | hp; · exact hp
                          · simp at hp; exact absurd hp c
     exact ⟨(hc p c 4).trans (h.gone p m this).1, (hc p c 5).trans (h.gone p m this).2⟩
 · have c : p ≠ x := fun e => hp (by rw [e]; simp)
   have d : p ∉ pre := fun e => hp (by simp [e])
   exact ⟨(hc p c 4).trans (h.here p m d).1, (hc p c 5).trans (h.here p m d).2⟩
def St.fgt (σ : St) : St := { σ with bsk := fun _ => 0, bws := fun _ => [], br := fun _ => none }
theorem FgI.done {B N : Nat} {P : List Nat} {σ : St} {w7 W : World} {pre : List Nat} (h : FgI P w7 pre W) (hs : StOk B N P σ w7) (hpre : ∀ p ∈ P, p ∈ pre) : StOk B N P σ.fgt W ∧ StChg P σ σ.fgt w7 W := by
 have hnP : ∀ k, B ≤ k → k ∉ P := fun k hk m => by have := hs.lt k m; omega
 refine ⟨⟨fun p m => ?_, fun p m => ?_, hs.sw, fun p m => SetB.nil N 0 (Nat.zero_le _), hs.lt, hs.dw, fun _ _ _ _ _ k hk => (by cases hk), fun _ _ _ _ k _ hk => (by cases hk)⟩, ?_⟩
 · exact (hs.fw p m).keep2 (fun j hj => h.cell p m j (by omega)) (h.frozen p m) (fun k hk => by
    have := (hs.fw p m).rlt k hk
    exact h.block k this.2 (hnP k this.1))
 · have hb := hs.fb p m
   have g := h.gone p m (hpre p m)
   exact ⟨g.1, ⟨none, 0, g.2, World.ownsRow_nil _ _ _ _, rfl⟩, (h.frozen p m 4).trans hb.f0, (h.frozen p m 5).trans hb.f1, by simp [St.fgt]⟩
 · refine ⟨h.os, h.tape, h.output, h.size, fun k a b _ => h.block k a b, fun p m j hj => ?_, h.frozen, fun k hk => ?_⟩
   · by_cases c : j < 4
     · exact h.cell p m j (.inl c)
     · exact h.cell p m j (.inr (by omega))
   · obtain ⟨p, m, hk | hk⟩ := hk
     · exact .inl ⟨p, m, .inl hk⟩
     · cases hk
theorem St.fgt_rest {σ : St} {P : List Nat} (hn : ∀ p ∈ P, ∀ j, ¬ σ.waits p j) : σ.fgt.rest P := fun p m j => ⟨hn p m j, memS_nil _ _⟩
theorem fgt_row {σ : St} {P : List Nat} {k : Nat} (h : StRow P σ.fgt k) : StRow P σ k := by
 obtain ⟨p, m, hk | hk⟩ := h
 · exact ⟨p, m, .inl hk⟩
 · cases hk
theorem fgt_own {nb : Nat} {D : Nt} {σ : St} {Fs : Nat → Nat → Prop} {k : Nat} (h : D.own nb σ.fgt Fs k) : D.own nb σ Fs k := by
 rcases h with h | h | h | h
 · exact .inl h
 · exact .inr (.inl h)
 · exact .inr (.inr (.inl (fgt_row h)))
 · exact .inr (.inr (.inr h))
def EndsPost (K N L B nb : Nat) (D : Nt) (M : Nat → Prop) (σ : St) (Fs : Nat → Nat → Prop) (w : World) (e : Ending) (w' : World) : Prop :=
 ∃ sk' ws' a' c' σ' Fs', e = .returned (setV sk' a' ws'.length c') ∧ SetB N sk' ws' ∧ WordsAt w' ws' a' ∧ (∀ j, memS sk' ws' j ↔ ∃ i, M i ∧ PathN D.R D.E D.f i D.z j) ∧ NtAt K N L B nb D σ' Fs' w' ∧ σ'.rest D.P ∧ NtChg nb D σ σ' Fs Fs' w w' ∧
   (∀ j, memS sk' ws' j → j ≤ L) ∧ ∀ x, a' = some x → x.block < w'.heap.size ∧ ¬ D.own nb σ' Fs' x.block ∧ (D.own nb σ Fs x.block ∨ w.heap.size ≤ x.block)
theorem ends_close {K N L B nb : Nat} {D : Nt} {M : Nat → Prop} {σ0 σ : St} {Fs0 Fs : Nat → Nat → Prop} {w w0 wr w7 W W' : World} {t4 : Nat} (h0 : NtAt K N L B nb D σ0 Fs0 w) (hf : NtFix K N L B nb D) (hKB : K ≤ B) (hb0 : Below w.heap.size w w0) (ht1 : w.heap.size ≤ t4) (ht2 : t4 < w0.heap.size)
 (h : RunI K N L B nb D M σ0 Fs0 w0 σ Fs wr) (hn : ∀ p ∈ D.P, ∀ j, ¬ σ.waits p j) (h7 : Below wr.heap.size wr w7) {pre : List Nat} (hF : FgI D.P w7 pre W) (hpre : ∀ p ∈ D.P, p ∈ pre)
 (ho : W'.os = W.os) (ht : W'.tape = W.tape) (hu : W'.output = W.output) (hz : W.heap.size ≤ W'.heap.size) (hk : ∀ k, k < w7.heap.size → k ≠ t4 → W'.heap[k]? = W.heap[k]?)
 {a : Option Addr} {c : Nat} (hc : wr.cell? ⟨D.z, 5, none⟩ = some (.slice a (σ.bws D.z).length c)) (hw : WordsAt wr (σ.bws D.z) a) (ha : ∀ x, a = some x → σ.br D.z = some x.block) :
 EndsPost K N L B nb D M σ0 Fs0 w (.returned (setV (σ.bsk D.z) a (σ.bws D.z).length c)) W' := by
 have hl7 := h.lie.kept hf hKB h7
 have hd := hF.done hl7.st hpre
 have hlW := hl7.turn hf hKB hd.1 hd.2
 have hlt7 : ∀ k, D.own nb σ Fs k → k < w7.heap.size := fun k hk => (hl7.ownlt hf hKB hk).2
 have hw0 := h.chg.chg.size
 have h7z := h7.size
 have hBw := h0.size
 have hne : ∀ k, D.own nb σ Fs k → k ≠ t4 := fun k hk e => by
  rcases h.chg.own k hk with x | x
  · have := (h0.ownlt hf hKB x).2; omega
  · omega
 have hlW' : NtAt K N L B nb D σ.fgt Fs W' := hlW.keep hf hz (fun k hx => by
  rcases hx with hx | hx
  · exact hk k (by omega) (by omega)
  · exact hk k (hlt7 k (fgt_own hx)) (hne k (fgt_own hx)))
 have hrow : ∀ x, a = some x → D.own nb σ Fs x.block := fun x hx => .inr (.inr (.inl ⟨D.z, hf.z, .inr (ha x hx)⟩))
 have hrz : ∀ x, a = some x → B ≤ x.block ∧ x.block < wr.heap.size := fun x hx => (h.lie.st.fb D.z hf.z).rlt _ (ha x hx)
 have hnP : ∀ k, B ≤ k → k ∉ D.P := fun k hk m => by have := h.lie.st.lt k m; omega
 have hblk : ∀ x, a = some x → W'.heap[x.block]? = wr.heap[x.block]? := fun x hx => by
  have r := hrz x hx
  exact ((hk _ (hlt7 _ (hrow x hx)) (hne _ (hrow x hx))).trans (hF.block _ (hlt7 _ (hrow x hx)) (hnP _ r.1))).trans (h7.block _ r.2)
 refine ⟨_, _, a, c, σ.fgt, Fs, rfl, h.lie.st.sb D.z hf.z, hw.keep hblk, fun j => h.done hf hn j, hlW', St.fgt_rest hn, ?_, fun j hj => h.bd D.z hf.z j (.inl hj), fun x hx => ⟨?_, ?_, ?_⟩⟩
 · refine ⟨⟨?_, ?_, ?_, ?_, ?_⟩, ?_⟩
   · exact ho.trans (hF.os.trans (h7.os.trans (h.chg.chg.os.trans hb0.os)))
   · exact ht.trans (hF.tape.trans (h7.tape.trans (h.chg.chg.tape.trans hb0.tape)))
   · exact hu.trans (hF.output.trans (h7.output.trans (h.chg.chg.output.trans hb0.output)))
   · have := hF.size; have := hb0.size; omega
   · intro k hkw hno
     have hb0z := hb0.size
     have hkP : k ∉ D.P := fun m => hno (.inr (.inl m))
     have e1 := hk k (by omega) (by omega)
     have e2 := hF.block k (by omega) hkP
     have e3 := h7.block k (by omega)
     have e4 := h.chg.chg.block k (by omega) hno
     have e5 := hb0.block k hkw
     exact e1.trans (e2.trans (e3.trans (e4.trans e5)))
   · intro k hx
     rcases h.chg.own k (fgt_own hx) with x | x
     · exact .inl x
     · exact .inr (Nat.le_trans hb0.size x)
 · have := (hrz x hx).2; have := hF.size; omega
 · have r := hrz x hx
   rintro (y | y | y | ⟨p, hp, y⟩)
   · have := hf.off y; omega
   · exact hnP _ r.1 y
   · obtain ⟨p, m, y | y⟩ := y
     · exact h.lie.st.dx p m D.z hf.z _ y (ha x hx)
     · cases y
   · exact (h.lie.off p hp _ y).2.2 ⟨D.z, hf.z, .inr (ha x hx)⟩
 · rcases h.chg.own _ (hrow x hx) with y | y
   · exact .inl y
   · exact .inr (Nat.le_trans hb0.size y)
end Go.Proofs.YtcimhpdpfckgiaaGreatDoor.kit
namespace Go.Proofs.YtcimhpdpfckgiaaGreatDoor.kit
open Go.ChangeShapes Go.WideShapes Go.ChangeAt Go.RowKit Go.Shelf
attribute [local go_sem] Oper.semAt_some
def onlyOn (R : Act → World → Prop) : Exit → Act → World → Prop
 | .normal, a, w => R a w
 | _, _, _ => False
theorem onlyOn_to {Q : Exit → Act → World → Prop} : ∀ e a w, onlyOn (fun a w => Q .normal a w) e a w → Q e a w
 | .normal, _, _, h => h
 | .ret, _, _, h => h.elim
 | .exit _, _, _, h => h.elim
 | .goto _, _, _, h => h.elim
 | .panic _, _, _, h => h.elim
 | .outgrown, _, _, h => h.elim
theorem na_e_pass (p : Nat) (w : World) : (nilAhead 276 87 (.pointer (some ⟨p, 0, none⟩)) "loop.example/g00560/impl.pass").run Tryz.prog w = .ok (some false) w := by kernel_rfl
theorem na_b_pass (p : Nat) (w : World) : (nilAhead 276 113 (.pointer (some ⟨p, 0, none⟩)) "loop.example/g00560/impl.pass").run Tryz.prog w = .ok (some false) w := by kernel_rfl
theorem na_m_pass (p : Nat) (w : World) : (nilAhead 276 129 (.pointer (some ⟨p, 0, none⟩)) "loop.example/g00560/impl.pass").run Tryz.prog w = .ok (some false) w := by kernel_rfl
theorem na_e_tell (p : Nat) (w : World) : (nilAhead 276 87 (.pointer (some ⟨p, 0, none⟩)) "loop.example/g00560/impl.tell").run Tryz.prog w = .ok (some false) w := by kernel_rfl
theorem na_b_tell (p : Nat) (w : World) : (nilAhead 276 113 (.pointer (some ⟨p, 0, none⟩)) "loop.example/g00560/impl.tell").run Tryz.prog w = .ok (some false) w := by kernel_rfl
theorem na_m_tell (p : Nat) (w : World) : (nilAhead 276 129 (.pointer (some ⟨p, 0, none⟩)) "loop.example/g00560/impl.tell").run Tryz.prog w = .ok (some false) w := by kernel_rfl
theorem nil_pass {T : TypeId} (h : PartT T) (p : Nat) (w : World) : (nilAhead 276 T (.pointer (some ⟨p, 0, none⟩)) "loop.example/g00560/impl.pass").run Tryz.prog w = .ok (some false) w := by
 rcases h with rfl | rfl | rfl
 · exact na_e_pass p w
 · exact na_b_pass p w
 · exact na_m_pass p w
theorem nil_tell {T : TypeId} (h : PartT T) (p : Nat) (w : World) : (nilAhead 276 T (.pointer (some ⟨p, 0, none⟩)) "loop.example/g00560/impl.tell").run Tryz.prog w = .ok (some false) w := by
 rcases h with rfl | rfl | rfl
 · exact na_e_tell p w
 · exact na_b_tell p w
 · exact na_m_tell p w
set_option maxRecDepth 100000 in
set_option maxHeartbeats 1000000 in
theorem ends_in (m : Nat) (hm : 8 ≤ m) {K N L B nb : Nat} {D : Nt} {σ : St} {Fs : Nat → Nat → Prop} {w : World} (h : NtAt K N L B nb D σ Fs w) (hf : NtFix K N L B nb D) (hKB : K ≤ B) (hr : σ.rest D.P) (sk : Nat) (ws : List Nat) (a : Option Addr) (c : Nat) (hb : SetB N sk ws) (hw : WordsAt w ws a) (hL : ∀ j, memS sk ws j → j ≤ L) :
 CallsIn Fence.wide m Tryz.prog 33 #[.pointer (some ⟨nb, 0, none⟩), setV sk a ws.length c] w (EndsPost K N L B nb D (memS sk ws) σ Fs w) := by
 have hm1 : 1 ≤ m := by omega
 obtain ⟨n, hn⟩ : ∃ n, n = ws.length := ⟨_, rfl⟩
 have HN := qd hn
 obtain ⟨w2, hw2⟩ : ∃ w2, w2 = (w.alloc (.cells #[.int .i64 (sk : Int), .slice a n c] 68)).alloc (.cells #[.int .i64 0, .slice none 0 0] 68) := ⟨_, rfl⟩
 have hb2 : Below w.heap.size w w2 := by rw [hw2]; exact ((Below.refl _ w).alloc (Nat.le_refl _) _).alloc (by simp) _
 have hz2 : w2.heap.size = w.heap.size + 2 := by rw [hw2]; simp
 have x0 : ∀ j, w2.cell? ⟨w.heap.size, j, none⟩ = #[Value.int .i64 (sk : Int), .slice a n c][j]? := fun j => by
  rw [hw2, World.cell?_alloc_past _ _ _ (by simp), World.cell?_alloc_at _ _ _ _ rfl]
 have x1 : ∀ j, w2.cell? ⟨w.heap.size + 1, j, none⟩ = #[Value.int .i64 0, .slice none 0 0][j]? := fun j => by
  rw [hw2, World.cell?_alloc_at _ _ _ _ (by simp)]
 have h2 := h.kept hf hKB hb2
 have HC := qd (fun (W : World) (hW : Below w2.heap.size w2 W) (hz : w2.heap.size = W.heap.size) => start_run (h2.kept hf hKB hW) hf hKB hr sk ws a c hb ((hw.kept hb2).kept hW) hL w2 hW hz)
 rw [← hn] at HC ⊢
 have c4 := h2.c4
 have c5 := h2.c5
 have y0 := x0 0
 have y1 := x0 1
 simp only [List.getElem?_toArray, List.getElem?_cons_succ, List.getElem?_cons_zero] at y0 y1
 have hme := fun W => meth_await (hf.T _ hf.f) D.f W
 have HF := qd hf
 have HKB := qd hKB
 have HW2 := qd hw2
 have HZ2 := qd hz2
 have HB2 := qd hb2
 have HX0 := qd x0
 have HX1 := qd x1
 have HLS := qd h
 have HFZ := qd (show ∀ j, w2.frozen? ⟨w.heap.size + 1, j, none⟩ = false from fun j => by rw [hw2, World.frozen?_alloc_at _ _ _ _ (by simp)])
 clear hw2 hz2 hb2 x0 x1 hn h hf hKB hr hb hw hL h2
 unfold setV partV at *
 generalize hTf : D.T D.f = tf at *
 generalize hDf : D.f = df at *
 refine callsIn_of_wp_marks Tryz.func33 rfl trivial ?_ rfl
 simp only [Tryz.ntmps33, List.size_toArray, List.length_cons, List.length_nil, Nat.reduceAdd, Nat.reduceSub, Array.replicate_succ, Array.replicate_zero, List.push_toArray, List.append_toArray, List.nil_append, List.cons_append]
 gi_wp2
 rw [← HW2.out]
 refine wpIn_wide.2 ?_
 go_still_tail 5, (by kernel_rfl)
 change wpList _ _ _ _ _ w2.drew
 go_wp2_with fail
 refine (HC.out _ (Below.refl _ w2).drew rfl).mono ?_
 rintro e3 w3 ⟨⟨_, rfl⟩, σ3, h3⟩
 have H3 := qd h3
 have hfn : Fence.wide.fn 45 := trivial
 have HNX := qd (fun (k : Nat) (σ4 : St) (Fs4 : Nat → Nat → Prop) (W : World) (h4 : RunI K N L B nb D (memS sk ws) σ Fs w2 σ4 Fs4 W) => (callsIn_wide.2 (next_run h4 HF.out HKB.out) : CallsIn Fence.wide k _ _ _ _ _))
 clear h3 c4 c5 y0 y1
 go_wp2_with fail
 gi_wp2_with (gi_at_call 45; refine (HNX.out _ _ _ _ H3.out).mono ?_; rintro e4 w4 ⟨iv, rfl, v4, h4⟩; have V4 := qd v4; have H4 := qd h4; clear v4 h4)
 gi_loopw [5] (fun iv wr => ∃ k, RelE K N L B nb D (memS sk ws) σ Fs w2 iv wr k) (fun iv wr => least (RelE K N L B nb D (memS sk ws) σ Fs w2 iv wr))
 case atStart => exact ⟨_, _, _, H4.out, V4.out, rfl⟩
 case round =>
  have hl := least_of hrel
  obtain ⟨σr, Fsr, hI, hV, hm⟩ := hl
  have HI := qd hI
  have HM := qd hm
  clear hrel hI hm
  rcases hV with ⟨rfl, hn⟩ | ⟨p, hp, rfl, hj⟩
  · have HNW := qd hn
    clear hn
    obtain ⟨az, cz, z5, hwz, haz⟩ := (HI.out.lie.st.fb D.z HF.out.z).words
    have z4 := (HI.out.lie.st.fb D.z HF.out.z).c0
    have d5 := HI.out.lie.c5
    have HWZ := qd hwz
    have HAZ := qd haz
    have HZ5 := qd z5
    have hsz := HI.out.lie.size
    have hzr : w2.heap.size ≤ wr.heap.size := HI.out.chg.chg.size
    obtain ⟨nz, hnz⟩ : ∃ nz, nz = (σr.bws D.z).length := ⟨_, rfl⟩
    obtain ⟨skz, hskz⟩ : ∃ skz, skz = σr.bsk D.z := ⟨_, rfl⟩
    rw [← hnz] at z5
    rw [← hskz] at z4
    have HNZ := qd hnz
    have HSKZ := qd hskz
    obtain ⟨w7, hw7⟩ : ∃ w7, w7 = (wr.alloc (.cells #[.int .i64 (skz : Int), .slice az nz cz] 68)).alloc (.cells #[.pointer (some ⟨nb, 0, none⟩)] 69) := ⟨_, rfl⟩
    have hb7 : Below wr.heap.size wr w7 := by rw [hw7]; exact ((Below.refl _ wr).alloc (Nat.le_refl _) _).alloc (by simp) _
    have hz7 : w7.heap.size = wr.heap.size + 2 := by rw [hw7]; simp
    have y6 : ∀ j, w7.cell? ⟨wr.heap.size, j, none⟩ = #[Value.int .i64 (skz : Int), .slice az nz cz][j]? := fun j => by
        rw [hw7, World.cell?_alloc_past _ _ _ (by simp), World.cell?_alloc_at _ _ _ _ rfl]
    have y7 : w7.cell? ⟨wr.heap.size + 1, 0, none⟩ = some (.pointer (some ⟨nb, 0, none⟩)) := by rw [hw7, World.cell?_alloc_at _ _ _ _ (by simp)]; rfl
    have hl7 := HI.out.lie.kept HF.out HKB.out hb7
    have hP7 : ∀ p ∈ D.P, p < wr.heap.size := fun p hp => (HI.out.lie.st.fw p hp).lt
    have hnbz := HF.out.nb
    have hseq := allN_stops (m - 1) (by omega) (wr.heap.size + 1) nb D.P D.T D.ps D.ls D.aa D.cc hnbz.2.2 (fun i x h => ⟨(HF.out.aa i x h).2.2, by have := (HF.out.aa i x h).2.1; omega⟩) (fun m => by have := hP7 _ m; omega) HF.out.l1 HF.out.l2 w7 (by omega) (by omega) y7 hl7.c2 hl7.c3 hl7.r2 hl7.r3 (fun p hp => by have := hP7 p hp; omega)
    have hfa : Fence.wide.fn 46 := trivial
    have t4no : ¬ D.own nb σ Fs (w.heap.size + 1) := fun e => by have := (HLS.out.ownlt HF.out HKB.out e).2; omega
    have hwr4 : ∀ j, wr.cell? ⟨w.heap.size + 1, j, none⟩ = #[Value.int .i64 0, .slice none 0 0][j]? := fun j => by
        rw [← HX1.out j]
        exact cob (a := ⟨w.heap.size + 1, j, none⟩) (HI.out.chg.chg.block (w.heap.size + 1) (by have := HZ2.out; omega) t4no)
    have hfr4 : ∀ j, wr.frozen? ⟨w.heap.size + 1, j, none⟩ = false := fun j => by
        rw [World.frozen?_of_block (a := ⟨w.heap.size + 1, j, none⟩) (HI.out.chg.chg.block (w.heap.size + 1) (by have := HZ2.out; omega) t4no)]
        exact HFZ.out j
    have h4P : w.heap.size + 1 ∉ D.P := fun m => t4no (.inr (.inl m))
    have h6P : wr.heap.size ∉ D.P := fun m => by have := hP7 _ m; omega
    have HW4 := qd hwr4
    have HFR4 := qd hfr4
    have HW7 := qd hw7
    have HZ7 := qd hz7
    have HB7 := qd hb7
    have HY6 := qd y6
    have HL7 := qd hl7
    have HP7 := qd hP7
    have H4P := qd h4P
    have H6P := qd h6P
    have HZR := qd (show w.heap.size + 2 ≤ wr.heap.size by have := HZ2.out; omega)
    clear hnz hskz hw7 hz7 hb7 y6 y7 hl7 hP7 hnbz t4no hwr4 hfr4 h4P h6P hwz haz hsz hzr
    generalize hDz : D.z = dz at *
    have HDZ := qd hDz
    clear hDz
    gi_wp2_with (gi_at_call 46; refine (allN_in (m - 1) _ _).mono ?_; rintro e w' ⟨rfl, rfl⟩)
    rw [← HW7.out]
    refine wpIn_rangeFunc_ownG rfl hm1 (gf := 59) rfl trivial (enters_of Tryz.func59 (by kernel_rfl) rfl)
        hseq (fun h k => KeepC.trans h k) (fun W l o o' hl h1 h2 _ => KeepC.putObj _ o' h1 h2) (Below.refl _ _) (fun _ => rfl)
        (fun pre W => FgI D.P w7 (pre.map (·.1)) W)
        (fun c _ W => False)
        (FgI.own D.P w7 (fun p hp => by have := HP7.out p hp; have := HZ7.out; omega) _)
        (fun c _ _ _ _ h _ _ => h)
        (FgI.start _ _)
        ?a1 ?assign ?body ?done ?stop
    case assign =>
        intro l x W K hK
        gi_wp2
        exact hK
    case body =>
        rintro l pre ⟨x, hx⟩ W hI hlt
        simp only
        obtain ⟨u, v, q4, q5, f4, f5⟩ := hI.cells HL7.out.st hx
        have hme := fun W => meth_forget (HF.out.T x hx) x W
        have HC := qd (fun (k : Nat) => (callsIn_wide.2 (forgetP_any x W u v q4 q5 f4 f5) : CallsIn Fence.wide k _ _ _ _ _))
        have HCI := qd (show ∀ k, CallsIn (Fence.wide.inRound l) k Tryz.prog 91 #[.pointer (some ⟨x, 0, none⟩)] W fun e w' => (∃ v, e = .returned v) ∧ w' = (W.setCell ⟨x, 4, none⟩ (.int .i64 0)).setCell ⟨x, 5, none⟩ (.slice none 0 0) from HC.out)
        have HST := qd (hI.step hx q4 q5)
        have HX := qd hx
        have HXL := qd (show x < w7.heap.size by have := HP7.out x hx; have := HZ7.out; omega)
        clear HC hI hlt hseq q4 q5 f4 f5
        unfold partV
        generalize D.T x = tx at *
        gi_wp2
        refine ⟨trivial, fun _ => by omega, ?_⟩
        refine (HCI.out _).mono ?_
        rintro e w' ⟨⟨_, rfl⟩, rfl⟩
        gi_wp2
        refine ⟨⟨by simp, fun k ob hk h1 _ => (forgot_heap W x k (fun e => by have := HXL.out; omega)).trans h1⟩, fun k ob h1 _ h3 => (forgot_heap W x k (fun e => h3 (e ▸ HX.out))).trans h1, ?_⟩
        show FgI D.P w7 (List.map (fun x => x.val) (pre ++ [⟨x, hx⟩])) _
        rw [List.map_append]
        exact HST.out
    case done =>
        rintro D1 ys W hD hys hI hK
        rw [hys] at hI
        have hz7 := HZ7.out
        have hzr := HZR.out
        have b4 := hI.block (w.heap.size + 1) (by omega) H4P.out
        have b6 := hI.block wr.heap.size (by omega) H6P.out
        have p4 := fun j => (cob (a := ⟨w.heap.size + 1, j, none⟩) b4).trans ((HB7.out.cell (p := ⟨w.heap.size + 1, j, none⟩) (by show w.heap.size + 1 < _; omega)).trans (HW4.out j))
        have r4 := fun j => (World.frozen?_of_block (a := ⟨w.heap.size + 1, j, none⟩) b4).trans ((HB7.out.frozen (p := ⟨w.heap.size + 1, j, none⟩) (by show w.heap.size + 1 < _; omega)).trans (HFR4.out j))
        have p6 := fun j => (cob (a := ⟨wr.heap.size, j, none⟩) b6).trans (HY6.out j)
        have c40 := p4 0
        have c41 := p4 1
        have c60 := p6 0
        have c61 := p6 1
        simp only [List.getElem?_toArray, List.getElem?_cons_succ, List.getElem?_cons_zero] at c40 c41 c60 c61
        have f40 := r4 0
        have f41 := r4 1
        have hne : ¬ wr.heap.size = w.heap.size + 1 := by omega
        have HI' := qd hI
        have HD := qd hD
        have HK := qd hK
        clear hI hD hK hseq b4 b6 p4 r4 p6 hys
        gi_wp2
        obtain ⟨W1, hW1⟩ : ∃ W1, W1 = ((W.setCell ⟨w.heap.size + 1, 0, none⟩ (.int .i64 (skz : Int))).setCell ⟨w.heap.size + 1, 1, none⟩ (.slice az nz cz)) := ⟨_, rfl⟩
        have hoth : ∀ k, k ≠ w.heap.size + 1 → W1.heap[k]? = W.heap[k]? := fun k hk => by
         rw [hW1]; exact (Below.heap_setCell _ _ _ _ hk).trans (Below.heap_setCell _ _ _ _ hk)
        have q0 : W1.cell? ⟨w.heap.size + 1, 0, none⟩ = some (.int .i64 (skz : Int)) := by
         rw [hW1, World.cell?_setCell_other _ _ _ _ (by intro e; injection e with _ e; omega)]
         exact World.cell?_setCell_same _ _ _ c40
        have q1 : W1.cell? ⟨w.heap.size + 1, 1, none⟩ = some (.slice az nz cz) := by
         rw [hW1]
         have e5 : (W.setCell ⟨w.heap.size + 1, 0, none⟩ (.int .i64 (skz : Int))).cell? ⟨w.heap.size + 1, 1, none⟩ = some (.slice none 0 0) := by
          rw [World.cell?_setCell_other _ _ _ _ (by intro e; injection e with _ e; omega)]; exact c41
         exact World.cell?_setCell_same _ _ _ e5
        have hz1 : W1.heap.size = W.heap.size := by rw [hW1]; simp
        have ho1 : W1.os = W.os ∧ W1.tape = W.tape ∧ W1.output = W.output := by rw [hW1]; exact ⟨rfl, rfl, rfl⟩
        rw [← hW1]
        clear hW1 c40 c41 c60 c61 f40 f41
        have hD9 := HD.out
        have hput : ∀ k, k ≠ D1 → (W1.putObj D1 (.deferred none)).heap[k]? = W1.heap[k]? := fun k hk => World.putObj_heap_other hk
        refine ⟨by simp, .inl ⟨_, _, rfl, run_takeDeferred ((hoth D1 (by omega)).trans HK.out), ?_⟩⟩
        have p0 := (cob (a := ⟨w.heap.size + 1, 0, none⟩) (hput _ (by show w.heap.size + 1 ≠ D1; omega))).trans q0
        have p1 := (cob (a := ⟨w.heap.size + 1, 1, none⟩) (hput _ (by show w.heap.size + 1 ≠ D1; omega))).trans q1
        refine ⟨setV skz az nz cz, by simp [results, Tryz.results33, go_sem, setV, p0, p1], ?_⟩
        have E := ends_close (a := az) (c := cz) (W' := W1.putObj D1 (.deferred none)) (t4 := w.heap.size + 1) HLS.out HF.out HKB.out HB2.out (Nat.le_succ _) (by have := HZ2.out; omega) HI.out HNW.out HB7.out HI'.out (fun p hp => hp) ho1.1 ho1.2.1 ho1.2.2 (by simp [hz1])
         (fun k hk h4 => (hput k (by omega)).trans (hoth k h4)) (by rw [HDZ.out]; exact HZ5.out) (by rw [HDZ.out]; exact HWZ.out) (by rw [HDZ.out]; exact HAZ.out)
        rw [HDZ.out, ← HNZ.out, ← HSKZ.out] at E
        exact E
    case stop =>
        rintro _ _ _ _ _ _ h
        exact h.elim
  · have HP := qd hp
    have HJ := qd hj
    have hm1 := fun W => meth_begin (HF.out.T p hp) p W
    have hm2 := fun W => (HF.out.pass p hp).meth W
    have hen := (HF.out.pass p hp).enter
    have hn2 := fun W => nil_pass (HF.out.T p hp) p W
    have hn3 := fun W => nil_tell (HF.out.T p hp) p W
    have hm3 := fun W => meth_tell (HF.out.T p hp) p W
    have HBG := qd (fun (W : World) (hW : Below wr.heap.size wr W) => begin_run (HI.out.kept HF.out HKB.out hW) HF.out HKB.out hp)
    have HPS := qd (fun (σ1 : St) (Fs1 : Nat → Nat → Prop) (W : World) (h1 : MidI K N L B nb D (memS sk ws) σ Fs w2 p σr σ1 Fs1 W) => pass_run h1 HF.out HKB.out hp)
    have HTL := qd (fun (σ1 : St) (Fs1 : Nat → Nat → Prop) (W : World) (h1 : MidI K N L B nb D (memS sk ws) σ Fs w2 p σr σ1 Fs1 W) => tell_run h1 HF.out HKB.out hp)
    unfold partV
    generalize hTp : D.T p = tp at *
    generalize hFp : D.fp p = fpp at *
    clear hp hj
    gi_wp2
    refine wpIn_wide.2 ?_
    refine wp_mono ?_ onlyOn_to
    unfold setV at HPS HTL
    go_region_with (first
        | (go_at_call 90; refine (HBG.out _ (Below.refl _ wr).drew).mono ?_; rintro e5 w5 ⟨a5, c5, σ5, rfl, h5, hw5, ha5⟩; have H5 := qd h5; have W5 := qd hw5; have A5 := qd ha5; clear h5 hw5 ha5; unfold setV)
        | (go_at_call 93; refine (HTL.out σ5 Fs6 w6 H6.out sk6 ws6 a6 c6 B6.out W6.out M6.out F6.out).mono ?_; rintro e7 w7 ⟨⟨_, rfl⟩, σ7, Fs7, h7, hb7⟩; have H7 := qd h7; have B7 := qd hb7; clear h7 hb7)
        | (refine (HPS.out σ5 Fsr w5 H5.out a5 c5 W5.out A5.out).mono ?_; rintro e6 w6 ⟨sk6, ws6, a6, c6, Fs6, rfl, h6, b6, hw6, m6, f6⟩; have H6 := qd h6; have B6 := qd b6; have W6 := qd hw6; have M6 := qd m6; have F6 := qd f6; clear h6 b6 hw6 m6 f6; unfold setV))
    all_goals
        dsimp only [onlyOn]
        gi_wp2_with (gi_at_call 45; refine (HNX.out _ _ _ _ H7.out).mono ?_; rintro e8 w8 ⟨iv8, rfl, v8, h8⟩; have V8 := qd v8; have H8 := qd h8; clear v8 h8)
        refine ⟨⟨_, _, _, H8.out, V8.out, rfl⟩, ?_⟩
        refine Nat.lt_of_le_of_lt (least_le (R := RelE K N L B nb D (memS sk ws) σ Fs w2 _ _) ⟨_, _, H8.out, V8.out, rfl⟩) ?_
        obtain ⟨j, hj⟩ := HJ.out
        exact Nat.lt_of_lt_of_eq (leftN_lt HP.out B7.out ⟨j, hj, HI.out.bd p HP.out j (.inr hj), HI.out.dj p HP.out j hj⟩) HM.out.symm
theorem ends_any {K N L B nb : Nat} {D : Nt} {σ : St} {Fs : Nat → Nat → Prop} {w : World} (h : NtAt K N L B nb D σ Fs w) (hf : NtFix K N L B nb D) (hKB : K ≤ B) (hr : σ.rest D.P) (sk : Nat) (ws : List Nat) (a : Option Addr) (c : Nat) (hb : SetB N sk ws) (hw : WordsAt w ws a) (hL : ∀ j, memS sk ws j → j ≤ L) :
 Calls Tryz.prog 33 #[.pointer (some ⟨nb, 0, none⟩), setV sk a ws.length c] w (EndsPost K N L B nb D (memS sk ws) σ Fs w) :=
 callsIn_wide.1 (ends_in 8 (Nat.le_refl _) h hf hKB hr sk ws a c hb hw hL)
end Go.Proofs.YtcimhpdpfckgiaaGreatDoor.kit
namespace Go.Proofs.YtcimhpdpfckgiaaGreatDoor.kit
open Go.ChangeShapes Go.WideShapes Go.ChangeAt Go.RowKit Go.Shelf
def KidPost (N L : Nat) (F : Nat → Prop) (M : Nat → Prop) (Ok : (Nat → Prop) → World → Prop) (w : World) (e : Ending) (w' : World) : Prop :=
 ∃ sk' ws' a' c' F', e = .returned (setV sk' a' ws'.length c') ∧ SetB N sk' ws' ∧ WordsAt w' ws' a' ∧ (∀ j, memS sk' ws' j ↔ M j) ∧ (∀ j, memS sk' ws' j → j ≤ L) ∧ Ok F' w' ∧ (∀ k, F' k → F k ∨ w.heap.size ≤ k) ∧ GuestChg F w w' ∧
   ∀ x, a' = some x → x.block < w'.heap.size ∧ ¬ F' x.block ∧ (F x.block ∨ w.heap.size ≤ x.block)
structure KidOk (K N L nb : Nat) (R : Nat → Nat → Prop) (Ok : (Nat → Prop) → World → Prop) : Prop where
 n9 : N ≤ 1048576
 lt : ∀ F w k, Ok F w → F k → K ≤ k ∧ k < w.heap.size
 keep : ∀ F w w', Ok F w → w.heap.size ≤ w'.heap.size → (∀ k, k < K ∨ F k → w'.heap[k]? = w.heap[k]?) → Ok F w'
 call : ∀ F w sk ws a c, Ok F w → SetB N sk ws → WordsAt w ws a → (∀ j, memS sk ws j → j ≤ L) →
  Calls Tryz.prog 33 #[.pointer (some ⟨nb, 0, none⟩), setV sk a ws.length c] w (KidPost N L F (img R (memS sk ws)) Ok w)
theorem KidOk.kept {K N L nb : Nat} {R : Nat → Nat → Prop} {Ok : (Nat → Prop) → World → Prop} (h : KidOk K N L nb R Ok) {F : Nat → Prop} {w w' : World} (ho : Ok F w) (hK : K ≤ w.heap.size) (hb : Below w.heap.size w w') : Ok F w' :=
 h.keep F w w' ho hb.size (fun k hk => hb.block k (by
  rcases hk with hk | hk
  · omega
  · exact (h.lt F w k ho hk).2))
def OkN (K N L B nb : Nat) (D : Nt) (F : Nat → Prop) (w : World) : Prop := ∃ σ Fs, NtAt K N L B nb D σ Fs w ∧ σ.rest D.P ∧ ∀ k, F k ↔ D.own nb σ Fs k
theorem NtFix.kid {K N L B nb : Nat} {D : Nt} (hf : NtFix K N L B nb D) (hKB : K ≤ B) : KidOk K N L nb (fun i j => PathN D.R D.E D.f i D.z j) (OkN K N L B nb D) where
 n9 := hf.N
 lt := fun F w k ⟨σ, Fs, h1, h2, h3⟩ hk => h1.ownlt hf hKB ((h3 k).1 hk)
 keep := fun F w w' ⟨σ, Fs, h1, h2, h3⟩ hz hk => ⟨σ, Fs, h1.keep hf hz (fun k hx => hk k (hx.imp id (h3 k).2)), h2, h3⟩
 call := fun F w sk ws a c ⟨σ, Fs, h1, h2, h3⟩ hb hw hL => by
  refine (ends_any h1 hf hKB h2 sk ws a c hb hw hL).mono ?_
  rintro e w' ⟨sk', ws', a', c', σ', Fs', he, g1, g2, g3, g4, g5, g6, g7, g8⟩
  refine ⟨sk', ws', a', c', fun k => D.own nb σ' Fs' k, he, g1, g2, g3, g7, ⟨σ', Fs', g4, g5, fun k => Iff.rfl⟩, fun k hk => (g6.own k hk).imp (h3 k).2 id, ⟨g6.chg.os, g6.chg.tape, g6.chg.output, g6.chg.size, fun k hk hn => g6.chg.block k hk (fun x => hn ((h3 k).2 x))⟩, fun x hx => ?_⟩
  obtain ⟨y1, y2, y3⟩ := g8 x hx
  exact ⟨y1, y2, y3.imp (h3 _).2 id⟩
structure Sb (w : World) (b sk : Nat) (a : Option Addr) (n c : Nat) : Prop where
 c0 : w.cell? ⟨b, 0, none⟩ = some (.int .i64 (sk : Int))
 c1 : w.cell? ⟨b, 1, none⟩ = some (.slice a n c)
 f0 : w.frozen? ⟨b, 0, none⟩ = false
 f1 : w.frozen? ⟨b, 1, none⟩ = false
theorem Sb.lt {w : World} {b sk : Nat} {a : Option Addr} {n c : Nat} (h : Sb w b sk a n c) : b < w.heap.size := World.block_lt_of_cell? w ⟨b, 0, none⟩ h.c0
theorem Sb.keep {w w' : World} {b sk : Nat} {a : Option Addr} {n c : Nat} (h : Sb w b sk a n c) (hb : w'.heap[b]? = w.heap[b]?) : Sb w' b sk a n c :=
 ⟨(cob (a := ⟨b, 0, none⟩) hb).trans h.c0, (cob (a := ⟨b, 1, none⟩) hb).trans h.c1, (World.frozen?_of_block (a := ⟨b, 0, none⟩) hb).trans h.f0, (World.frozen?_of_block (a := ⟨b, 1, none⟩) hb).trans h.f1⟩
theorem Sb.made (w : World) (sk : Nat) (a : Option Addr) (n c : Nat) : Sb (w.alloc (.cells #[.int .i64 (sk : Int), .slice a n c] 68)) w.heap.size sk a n c := by
 have hc := fun j => World.cell?_alloc_at (w := w) #[Value.int .i64 (sk : Int), .slice a n c] 68 w.heap.size j rfl
 exact ⟨hc 0, hc 1, World.frozen?_alloc_at _ _ _ _ rfl, World.frozen?_alloc_at _ _ _ _ rfl⟩
def set2 (w : World) (b sk : Nat) (a : Option Addr) (n c : Nat) : World := (w.setCell ⟨b, 0, none⟩ (.int .i64 (sk : Int))).setCell ⟨b, 1, none⟩ (.slice a n c)
theorem set2_heap (w : World) (b sk : Nat) (a : Option Addr) (n c k : Nat) (hk : k ≠ b) : (set2 w b sk a n c).heap[k]? = w.heap[k]? :=
 (Below.heap_setCell _ _ _ _ hk).trans (Below.heap_setCell _ _ _ _ hk)
theorem set2_size (w : World) (b sk : Nat) (a : Option Addr) (n c : Nat) : (set2 w b sk a n c).heap.size = w.heap.size := by simp [set2]
theorem Sb.put {w : World} {b sk : Nat} {a : Option Addr} {n c : Nat} (h : Sb w b sk a n c) (sk' : Nat) (a' : Option Addr) (n' c' : Nat) : Sb (set2 w b sk' a' n' c') b sk' a' n' c' := by
 obtain ⟨y0, y1⟩ := two_put w b h.c0 h.c1 (.int .i64 (sk' : Int)) (.slice a' n' c')
 exact ⟨y0, y1, by rw [set2, World.frozen?_setCell, World.frozen?_setCell]; exact h.f0, by rw [set2, World.frozen?_setCell, World.frozen?_setCell]; exact h.f1⟩
end Go.Proofs.YtcimhpdpfckgiaaGreatDoor.kit
namespace Go.Proofs.YtcimhpdpfckgiaaGreatDoor.kit
open Go.ChangeShapes Go.WideShapes Go.ChangeAt Go.RowKit Go.Shelf
theorem GuestChg.cell {F : Nat → Prop} {w w' : World} (h : GuestChg F w w') {b j : Nat} (hb : b < w.heap.size) (hn : ¬ F b) : w'.cell? ⟨b, j, none⟩ = w.cell? ⟨b, j, none⟩ := cob (a := ⟨b, j, none⟩) (h.block b hb hn)
theorem newbox {F : Nat → Prop} {wr w5 : World} (h : GuestChg F (wr.alloc (.cells #[.int .i64 0, .slice none 0 0] 68)).drew w5) (hn : ¬ F wr.heap.size) :
 w5.cell? ⟨wr.heap.size, 0, none⟩ = some (.int .i64 0) ∧ w5.cell? ⟨wr.heap.size, 1, none⟩ = some (.slice none 0 0) ∧ w5.frozen? ⟨wr.heap.size, 0, none⟩ = false ∧ w5.frozen? ⟨wr.heap.size, 1, none⟩ = false := by
 have hb := h.block wr.heap.size (by simp) hn
 have hc := fun j => World.cell?_alloc_at (w := wr) #[Value.int .i64 0, .slice none 0 0] 68 wr.heap.size j rfl
 refine ⟨(cob (a := ⟨wr.heap.size, 0, none⟩) hb).trans (hc 0), (cob (a := ⟨wr.heap.size, 1, none⟩) hb).trans (hc 1), (World.frozen?_of_block (a := ⟨wr.heap.size, 0, none⟩) hb).trans ?_, (World.frozen?_of_block (a := ⟨wr.heap.size, 1, none⟩) hb).trans ?_⟩
 · exact World.frozen?_alloc_at _ _ _ _ rfl
 · exact World.frozen?_alloc_at _ _ _ _ rfl
structure LowI (K N L : Nat) (Ok : (Nat → Prop) → World → Prop) (F : Nat → Prop) (w : World) (M : Nat → Prop) (wr : World) (sk : Nat) (ws : List Nat) (a : Option Addr) (c : Nat) (F' : Nat → Prop) : Prop where
 s : SetB N sk ws
 at' : WordsAt wr ws a
 m : ∀ j, memS sk ws j ↔ M j
 l : ∀ j, memS sk ws j → j ≤ L
 ok : Ok F' wr
 own : ∀ k, F' k → F k ∨ w.heap.size + 2 ≤ k
 chg : GuestChg F w wr
 bx : Sb wr w.heap.size sk a ws.length c
 r0 : wr.cell? ⟨w.heap.size + 1, 0, none⟩ = some (.int .i64 0)
 r1 : wr.cell? ⟨w.heap.size + 1, 1, none⟩ = some (.slice none 0 0)
 rf : ∀ j, wr.frozen? ⟨w.heap.size + 1, j, none⟩ = false
 z : w.heap.size + 2 ≤ wr.heap.size
 off : ∀ x, a = some x → x.block < wr.heap.size ∧ ¬ F' x.block ∧ (x.block < w.heap.size ∨ w.heap.size + 2 ≤ x.block)
def LowPost (N L : Nat) (F : Nat → Prop) (M : Nat → Prop) (Ok : (Nat → Prop) → World → Prop) (w : World) (e : Ending) (w' : World) : Prop :=
 ∃ sk' ws' a' c' F', e = .returned (setV sk' a' ws'.length c') ∧ SetB N sk' ws' ∧ WordsAt w' ws' a' ∧ (∀ j, memS sk' ws' j ↔ M j) ∧ (∀ j, memS sk' ws' j → j ≤ L) ∧ Ok F' w' ∧ (∀ k, F' k → F k ∨ w.heap.size ≤ k) ∧ GuestChg F w w' ∧
   ∀ x, a' = some x → x.block < w'.heap.size ∧ ¬ F' x.block
structure LowM (K N L : Nat) (Ok : (Nat → Prop) → World → Prop) (F : Nat → Prop) (w : World) (M M5 : Nat → Prop) (W : World) (sk : Nat) (ws : List Nat) (a : Option Addr) (c b5 sk5 : Nat) (ws5 : List Nat) (a5 : Option Addr) (c5 : Nat) (F5 : Nat → Prop) : Prop where
 i : LowI K N L Ok F w M W sk ws a c F5
 s5 : SetB N sk5 ws5
 at5 : WordsAt W ws5 a5
 m5 : ∀ j, memS sk5 ws5 j ↔ M5 j
 l5 : ∀ j, memS sk5 ws5 j → j ≤ L
 b5 : Sb W b5 sk5 a5 ws5.length c5
 off5 : ∀ x, a5 = some x → x.block < W.heap.size ∧ ¬ F5 x.block ∧ (x.block < w.heap.size ∨ w.heap.size + 2 ≤ x.block)
theorem LowI.keep {K N L nb : Nat} {R : Nat → Nat → Prop} {Ok : (Nat → Prop) → World → Prop} (hk : KidOk K N L nb R Ok) {F F' : Nat → Prop} {w wr W : World} {M : Nat → Prop} {sk : Nat} {ws : List Nat} {a : Option Addr} {c : Nat} (h : LowI K N L Ok F w M wr sk ws a c F') (hK : K ≤ w.heap.size)
 (ho : W.os = wr.os) (ht : W.tape = wr.tape) (hu : W.output = wr.output) (hz : wr.heap.size ≤ W.heap.size) (hb : ∀ k, k < wr.heap.size → W.heap[k]? = wr.heap[k]?) : LowI K N L Ok F w M W sk ws a c F' :=
 have hz0 := h.z
 ⟨h.s, h.at'.keepLt (fun x _ hx => hb _ hx), h.m, h.l, hk.keep _ _ _ h.ok hz (fun k hx => hb k (by
   rcases hx with hx | hx
   · omega
   · exact (hk.lt _ _ _ h.ok hx).2)), h.own, ⟨ho.trans h.chg.os, ht.trans h.chg.tape, hu.trans h.chg.output, Nat.le_trans h.chg.size hz, fun k hx hn => (hb k (by omega)).trans (h.chg.block k hx hn)⟩, h.bx.keep (hb _ h.bx.lt),
   (cob (a := ⟨w.heap.size + 1, 0, none⟩) (hb (w.heap.size + 1) (by omega))).trans h.r0, (cob (a := ⟨w.heap.size + 1, 1, none⟩) (hb (w.heap.size + 1) (by omega))).trans h.r1, fun j => (World.frozen?_of_block (a := ⟨w.heap.size + 1, j, none⟩) (hb (w.heap.size + 1) (by omega))).trans (h.rf j), by omega, fun x hx => ⟨by have := (h.off x hx).1; omega, (h.off x hx).2⟩⟩
theorem LowM.keep {K N L nb : Nat} {R : Nat → Nat → Prop} {Ok : (Nat → Prop) → World → Prop} (hk : KidOk K N L nb R Ok) {F F5 : Nat → Prop} {w wr W : World} {M M5 : Nat → Prop} {sk : Nat} {ws : List Nat} {a : Option Addr} {c b5 sk5 : Nat} {ws5 : List Nat} {a5 : Option Addr} {c5 : Nat} (h : LowM K N L Ok F w M M5 wr sk ws a c b5 sk5 ws5 a5 c5 F5) (hK : K ≤ w.heap.size)
 (hb : Below wr.heap.size wr W) : LowM K N L Ok F w M M5 W sk ws a c b5 sk5 ws5 a5 c5 F5 :=
 ⟨h.i.keep hk hK hb.os hb.tape hb.output hb.size (fun k hx => hb.block k hx), h.s5, h.at5.kept hb, h.m5, h.l5, h.b5.keep (hb.block _ h.b5.lt), fun x hx => ⟨by have := (h.off5 x hx).1; have := hb.size; omega, (h.off5 x hx).2⟩⟩
theorem low_mid {K N L nb : Nat} {R : Nat → Nat → Prop} {Ok : (Nat → Prop) → World → Prop} (hk : KidOk K N L nb R Ok) {F F' F5 : Nat → Prop} {w wr W w5 W6 : World} {M : Nat → Prop} {sk : Nat} {ws : List Nat} {a : Option Addr} {c b5 sk5 : Nat} {ws5 : List Nat} {a5 : Option Addr} {c5 : Nat} (h : LowI K N L Ok F w M wr sk ws a c F') (hK : K ≤ w.heap.size) (h0 : Ok F w)
 (hW : Below wr.heap.size wr W) (s5 : SetB N sk5 ws5) (v5 : WordsAt w5 ws5 a5) (m5 : ∀ j, memS sk5 ws5 j ↔ img R (memS sk ws) j) (l5 : ∀ j, memS sk5 ws5 j → j ≤ L) (o5 : Ok F5 w5) (i5 : ∀ k, F5 k → F' k ∨ W.heap.size ≤ k) (g5 : GuestChg F' W w5) (f5 : ∀ x, a5 = some x → x.block < w5.heap.size ∧ ¬ F5 x.block ∧ (F' x.block ∨ W.heap.size ≤ x.block))
 (e : Nat) (he : wr.heap.size ≤ e) (he2 : e < W.heap.size ∨ w5.heap.size ≤ e) (ho : W6.os = w5.os) (ht : W6.tape = w5.tape) (hu : W6.output = w5.output) (hz : w5.heap.size ≤ W6.heap.size) (h6 : ∀ k, k < w5.heap.size → k ≠ e → W6.heap[k]? = w5.heap[k]?) (hb5 : Sb W6 b5 sk5 a5 ws5.length c5) :
 LowM K N L Ok F w M (img R M) W6 sk ws a c b5 sk5 ws5 a5 c5 F5 := by
 have hzr := h.z
 have hWz := hW.size
 have h5z := g5.size
 have hlt' : ∀ k, F' k → K ≤ k ∧ k < wr.heap.size := fun k hx => hk.lt _ _ _ h.ok hx
 have hF0 : ∀ k, F k → k < w.heap.size := fun k hx => (hk.lt _ _ _ h0 hx).2
 have hold : ∀ k, k < wr.heap.size → ¬ F' k → W6.heap[k]? = wr.heap[k]? := fun k hx hn =>
  (h6 k (by omega) (by omega)).trans ((g5.block k (by omega) hn).trans (hW.block k hx))
 have hF5 : ∀ k, F5 k → W6.heap[k]? = w5.heap[k]? := fun k hx => by
  have hl := (hk.lt _ _ _ o5 hx).2
  refine h6 k hl ?_
  rcases i5 k hx with y | y
  · have := (hlt' k y).2; omega
  · omega
 have hown : ∀ k, F' k → F k ∨ w.heap.size + 2 ≤ k := h.own
 have n0 : ¬ F' w.heap.size := fun x => by
  rcases hown _ x with y | y
  · have := hF0 _ y; omega
  · omega
 have n1 : ¬ F' (w.heap.size + 1) := fun x => by
  rcases hown _ x with y | y
  · have := hF0 _ y; omega
  · omega
 have b0 := hold w.heap.size (by omega) n0
 have b1 := hold (w.heap.size + 1) (by omega) n1
 refine ⟨⟨h.s, h.at'.keepLt (fun x hx hl => hold _ hl (h.off x hx).2.1), h.m, h.l, ?_, ?_, ?_, h.bx.keep b0, (cob (a := ⟨w.heap.size + 1, 0, none⟩) b1).trans h.r0, (cob (a := ⟨w.heap.size + 1, 1, none⟩) b1).trans h.r1, fun j => (World.frozen?_of_block (a := ⟨w.heap.size + 1, j, none⟩) b1).trans (h.rf j), by omega, fun x hx => ⟨by have := (h.off x hx).1; omega, fun y => ?_, (h.off x hx).2.2⟩⟩, s5, ?_, fun j => (m5 j).trans ⟨fun ⟨i, x, y⟩ => ⟨i, (h.m i).1 x, y⟩, fun ⟨i, x, y⟩ => ⟨i, (h.m i).2 x, y⟩⟩, l5, hb5, fun x hx => ⟨by have := (f5 x hx).1; omega, (f5 x hx).2.1, ?_⟩⟩
 · exact hk.keep _ _ _ o5 hz (fun k hx => by
    rcases hx with hx | hx
    · exact h6 k (by omega) (by omega)
    · exact hF5 k hx)
 · intro k hx
   rcases i5 k hx with y | y
   · exact hown k y
   · exact .inr (by omega)
 · refine ⟨ho.trans (g5.os.trans (hW.os.trans h.chg.os)), ht.trans (g5.tape.trans (hW.tape.trans h.chg.tape)), hu.trans (g5.output.trans (hW.output.trans h.chg.output)), by have := h.chg.size; omega, fun k hx hn => ?_⟩
   have hn' : ¬ F' k := fun y => by
    rcases hown k y with z | z
    · exact hn z
    · omega
   exact (hold k (by omega) hn').trans (h.chg.block k hx hn)
 · rcases i5 _ y with z | z
   · exact (h.off x hx).2.1 z
   · have := (h.off x hx).1; omega
 · refine v5.keepLt (fun x hx hl => h6 _ hl ?_)
   rcases (f5 x hx).2.2 with y | y
   · have := (hlt' _ y).2; omega
   · omega
 · rcases (f5 x hx).2.2 with y | y
   · rcases hown _ y with z | z
     · exact .inl (hF0 _ z)
     · exact .inr z
   · exact .inr (by omega)
theorem LowM.next {K N L nb : Nat} {R : Nat → Nat → Prop} {Ok : (Nat → Prop) → World → Prop} (hk : KidOk K N L nb R Ok) {F F5 : Nat → Prop} {w W : World} {M M5 : Nat → Prop} {sk : Nat} {ws : List Nat} {a : Option Addr} {c b5 sk5 : Nat} {ws5 : List Nat} {a5 : Option Addr} {c5 : Nat} (h : LowM K N L Ok F w M M5 W sk ws a c b5 sk5 ws5 a5 c5 F5) (hK : K ≤ w.heap.size) (h0 : Ok F w) :
 LowI K N L Ok F w M5 (set2 W w.heap.size sk5 a5 ws5.length c5) sk5 ws5 a5 c5 F5 := by
 have hb := fun k hx => set2_heap W w.heap.size sk5 a5 ws5.length c5 k hx
 have hz := set2_size W w.heap.size sk5 a5 ws5.length c5
 have hzr := h.i.z
 have hF0 : ∀ k, F k → k < w.heap.size := fun k hx => (hk.lt _ _ _ h0 hx).2
 refine ⟨h.s5, h.at5.keepLt (fun x hx _ => hb _ (by have := (h.off5 x hx).2.2; omega)), h.m5, h.l5, hk.keep _ _ _ h.i.ok (by omega) (fun k hx => hb k ?_), h.i.own, ⟨h.i.chg.os, h.i.chg.tape, h.i.chg.output, by have := h.i.chg.size; omega, fun k hx hn => (hb k (by omega)).trans (h.i.chg.block k hx hn)⟩, h.i.bx.put sk5 a5 ws5.length c5,
  (cob (a := ⟨w.heap.size + 1, 0, none⟩) (hb _ (by show w.heap.size + 1 ≠ _; omega))).trans h.i.r0, (cob (a := ⟨w.heap.size + 1, 1, none⟩) (hb _ (by show w.heap.size + 1 ≠ _; omega))).trans h.i.r1, fun j => (World.frozen?_of_block (a := ⟨w.heap.size + 1, j, none⟩) (hb _ (by show w.heap.size + 1 ≠ _; omega))).trans (h.i.rf j), by omega, fun x hx => ⟨by have := (h.off5 x hx).1; omega, (h.off5 x hx).2⟩⟩
 rcases hx with hx | hx
 · omega
 · rcases h.i.own k hx with y | y
   · have := hF0 k y; omega
   · omega
theorem LowI.stop {K N L nb : Nat} {R : Nat → Nat → Prop} {Ok : (Nat → Prop) → World → Prop} (hk : KidOk K N L nb R Ok) {F F' : Nat → Prop} {w W : World} {M M' : Nat → Prop} {sk : Nat} {ws : List Nat} {a : Option Addr} {c : Nat} (h : LowI K N L Ok F w M W sk ws a c F') (hK : K ≤ w.heap.size) (h0 : Ok F w) (hM : ∀ j, M j ↔ M' j) :
 LowPost N L F M' Ok w (.returned (setV sk a ws.length c)) (set2 W (w.heap.size + 1) sk a ws.length c) := by
 have hb := fun k hx => set2_heap W (w.heap.size + 1) sk a ws.length c k hx
 have hz := set2_size W (w.heap.size + 1) sk a ws.length c
 have hzr := h.z
 have hF0 : ∀ k, F k → k < w.heap.size := fun k hx => (hk.lt _ _ _ h0 hx).2
 refine ⟨sk, ws, a, c, F', rfl, h.s, h.at'.keepLt (fun x hx _ => hb _ (by have := (h.off x hx).2.2; omega)), fun j => (h.m j).trans (hM j), h.l, hk.keep _ _ _ h.ok (by omega) (fun k hx => hb k ?_), fun k hx => (h.own k hx).imp id (fun y => by omega), ⟨h.chg.os, h.chg.tape, h.chg.output, by have := h.chg.size; omega, fun k hx hn => (hb k (by omega)).trans (h.chg.block k hx hn)⟩, fun x hx => ⟨by have := (h.off x hx).1; omega, (h.off x hx).2.1⟩⟩
 rcases hx with hx | hx
 · omega
 · rcases h.own k hx with y | y
   · have := hF0 k y; omega
   · omega
theorem LowI.congr {K N L : Nat} {Ok : (Nat → Prop) → World → Prop} {F F' : Nat → Prop} {w W : World} {M M' : Nat → Prop} {sk : Nat} {ws : List Nat} {a : Option Addr} {c : Nat} (h : LowI K N L Ok F w M W sk ws a c F') (hM : ∀ j, M j ↔ M' j) : LowI K N L Ok F w M' W sk ws a c F' :=
 ⟨h.s, h.at', fun j => (h.m j).trans (hM j), h.l, h.ok, h.own, h.chg, h.bx, h.r0, h.r1, h.rf, h.z, h.off⟩
set_option maxRecDepth 100000 in
set_option maxHeartbeats 2000000 in
theorem low_any {K N L nb : Nat} {R : Nat → Nat → Prop} {Ok : (Nat → Prop) → World → Prop} (hk : KidOk K N L nb R Ok) (p lo : Nat) (F : Nat → Prop) (w : World) (sk : Nat) (ws : List Nat) (a : Option Addr) (c : Nat) (hlo : lo ≤ 9) (hK : K ≤ w.heap.size) (ho : Ok F w) (hp : p < w.heap.size) (hFp : ¬ F p)
 (c7 : w.cell? ⟨p, 7, none⟩ = some (.pointer (some ⟨nb, 0, none⟩))) (c8 : w.cell? ⟨p, 8, none⟩ = some (.int .i64 (lo : Int))) (hb : SetB N sk ws) (hw : WordsAt w ws a) (hL : ∀ j, memS sk ws j → j ≤ L) (ha : ∀ x, a = some x → x.block < w.heap.size ∧ ¬ F x.block) :
 Calls Tryz.prog 106 #[.pointer (some ⟨p, 0, none⟩), setV sk a ws.length c] w (LowPost N L F (img (rpow R lo) (memS sk ws)) Ok w) := by
 obtain ⟨n, hn⟩ : ∃ n, n = ws.length := ⟨_, rfl⟩
 obtain ⟨w2, hw2⟩ : ∃ w2, w2 = (w.alloc (.cells #[.int .i64 (sk : Int), .slice a n c] 68)).alloc (.cells #[.int .i64 0, .slice none 0 0] 68) := ⟨_, rfl⟩
 have hb2 : Below w.heap.size w w2 := by rw [hw2]; exact ((Below.refl _ w).alloc (Nat.le_refl _) _).alloc (by simp) _
 have hz2 : w2.heap.size = w.heap.size + 2 := by rw [hw2]; simp
 have s3 : Sb w2 w.heap.size sk a n c := by
  rw [hw2]; exact (Sb.made w sk a n c).keep (Below.heap_alloc _ _ _ (by simp))
 have x1 : ∀ j, w2.cell? ⟨w.heap.size + 1, j, none⟩ = #[Value.int .i64 0, .slice none 0 0][j]? := fun j => by
  rw [hw2, World.cell?_alloc_at _ _ _ _ (by simp)]
 have g1 : ∀ j, w2.frozen? ⟨w.heap.size + 1, j, none⟩ = false := fun j => by
  rw [hw2, World.frozen?_alloc_at _ _ _ _ (by simp)]
 have HI0 := qd (show LowI K N L Ok F w (img (rpow R 0) (memS sk ws)) w2 sk ws a c F from
  ⟨hb, hw.kept hb2, fun j => ⟨fun h => ⟨j, h, rfl⟩, fun ⟨i, h, e⟩ => by have e : i = j := e; subst e; exact h⟩, hL, hk.kept ho hK hb2, fun k h => .inl h, .of_below hb2, by rw [← hn]; exact s3, x1 0, x1 1, g1, by omega, fun x hx => ⟨by have := (ha x hx).1; omega, (ha x hx).2, .inl (ha x hx).1⟩⟩)
 have d8 := (hb2.cell (p := ⟨p, 8, none⟩) hp).trans c8
 rw [hw2] at d8
 have C7 := qd c7
 have HK := qd hk
 have HKW := qd hK
 have HFP := qd hFp
 have HP := qd hp
 have HOK := qd ho
 have HW2 := qd hw2
 have HZ2 := qd hz2
 clear hk c7 c8 hK ho hFp hb hw hL ha s3 x1 g1 hb2 hz2 hw2
 rw [← hn]
 have HN := qd hn
 clear hn
 unfold setV
 go_enter Tryz.func106, Tryz.ntmps106
 go_wp2_with fail
 rw [← HW2.out]
 clear d8
 go_loopw [10] (fun iv wr => ∃ (k : Nat) (sk' : Nat) (ws' : List Nat) (a' : Option Addr) (c' : Nat) (F' : Nat → Prop), k ≤ lo ∧ iv = .int .i64 (k : Int) ∧ LowI K N L Ok F w (img (rpow R k) (memS sk ws)) wr sk' ws' a' c' F') (fun iv _ => lo - (intOf iv).toNat)
 case atStart => exact ⟨0, sk, ws, a, c, F, Nat.zero_le _, rfl, HI0.out⟩
 case round =>
  obtain ⟨k, sk', ws', a', c', F', hkl, rfl, hI⟩ := hrel
  have HI := qd hI
  have e7 := (hI.chg.cell HP.out HFP.out (j := 7)).trans C7.out
  obtain ⟨n', hn'⟩ : ∃ n', n' = ws'.length := ⟨_, rfl⟩
  obtain ⟨b0, b1, bf0, bf1⟩ := hI.bx
  rw [← hn'] at b1
  have HN' := qd hn'
  have hzr := hI.z
  have HKC := qd (fun (W : World) (hW : Below wr.heap.size wr W) => HK.out.call F' W sk' ws' a' c' (HK.out.kept hI.ok (by have := HKW.out; omega) hW) hI.s (hI.at'.kept hW) hI.l)
  rw [← hn'] at HKC
  have hpz : p < wr.heap.size := by have := HP.out; omega
  have hbz : w.heap.size < wr.heap.size := by omega
  have hFp' : ¬ F' p := fun e => by
   rcases hI.own p e with x | x
   · exact HFP.out x
   · have := HP.out; omega
  have hFb : ¬ F' w.heap.size := fun e => by
   rcases hI.own _ e with x | x
   · have := (HK.out.lt F w _ HOK.out x).2; omega
   · omega
  have hFr : ¬ F' (w.heap.size + 1) := fun e => by
   rcases hI.own _ e with x | x
   · have := (HK.out.lt F w _ HOK.out x).2; omega
   · omega
  have HS := qd (show ∀ W : World, W.heap[p]? = wr.heap[p]? → W.heap[w.heap.size]? = wr.heap[w.heap.size]? → (W.cell? ⟨p, 7, none⟩ = some (.pointer (some ⟨nb, 0, none⟩)) ∧ W.cell? ⟨w.heap.size, 0, none⟩ = some (.int .i64 (sk' : Int)) ∧ W.cell? ⟨w.heap.size, 1, none⟩ = some (.slice a' n' c')) from fun W h1 h2 =>
   ⟨(cob (a := ⟨p, 7, none⟩) h1).trans e7, (cob (a := ⟨w.heap.size, 0, none⟩) h2).trans b0, (cob (a := ⟨w.heap.size, 1, none⟩) h2).trans b1⟩)
  have HFN := qd (show ¬ F' wr.heap.size from fun e => by have := (HK.out.lt F' wr _ hI.ok e).2; omega)
  clear hI hn'
  by_cases hlt : k < lo
  · unfold setV at HKC
    go_wp2_with fail
    refine wp_region_held_drew (S := (fun w' => w'.cell? ⟨p, 7, none⟩ = some (.pointer (some ⟨nb, 0, none⟩)) ∧ w'.cell? ⟨w.heap.size, 0, none⟩ = some (.int .i64 (sk' : Int)) ∧ w'.cell? ⟨w.heap.size, 1, none⟩ = some (.slice a' n' c'))) (by kernel_rfl) (HS.out _ rfl rfl) (fun hHeld => ?_)
    refine tkA 0 ?_
    try simp only [nmA, Act.put]
    refine tkA 1 ?_
    try simp only [nmA, Act.put]
    refine tkA 2 ?_
    try simp only [nmA, Act.put]
    refine tkA 3 ?_
    try simp only [nmA, Act.put]
    refine tkA 4 ?_
    try simp only [nmA, Act.put]
    refine wpAnyH_ready (rs := [5, 6]) (by kernel_rfl) (by simp) ?_
    refine AllReadyH.cons rfl (fun K hK => ?_) (AllReadyH.cons rfl (fun K hK => ?_) AllReadyH.nil)
    · go_simp
      refine (HKC.out _ ((Below.refl _ wr).drew)).mono ?_
      rintro e5 w5 ⟨sk5, ws5, a5, c5, F5, rfl, s5, v5, m5, l5, o5, i5, g5, f5⟩
      have HG := qd g5
      unfold setV
      refine hK.out _ _ (HS.out _ (g5.block p (by first | exact hpz | simpa using hpz) hFp') (g5.block w.heap.size (by first | exact hbz | simpa using hbz) hFb)) (fun hHeld => ?_)
      clear hK K
      try simp only [nmA, Act.put]
      refine rdA 6 (fun K hK => ?_)
      go_simp
      refine hK.out _ _ (HS.out _ ((Below.heap_alloc _ _ _ (Nat.lt_of_lt_of_le hpz g5.size)).trans (g5.block p hpz hFp')) ((Below.heap_alloc _ _ _ (Nat.lt_of_lt_of_le hbz g5.size)).trans (g5.block w.heap.size hbz hFb))) (fun hHeld => ?_)
      clear hK K
      try simp only [nmA, Act.put]
      refine rdA 7 (fun K hK => ?_)
      go_simp
      refine hK.out _ _ (HS.out _ ((Below.heap_alloc _ _ _ (Nat.lt_of_lt_of_le hpz g5.size)).trans (g5.block p hpz hFp')) ((Below.heap_alloc _ _ _ (Nat.lt_of_lt_of_le hbz g5.size)).trans (g5.block w.heap.size hbz hFb))) (fun hHeld => ?_)
      clear hK K
      try simp only [nmA, Act.put]
      refine wpAnyH_done (by kernel_rfl) ?_ _
      have LM := qd (low_mid (W6 := w5.alloc (.cells #[.int .i64 (sk5 : Int), .slice a5 ws5.length c5] 68)) (b5 := w5.heap.size) HK.out HI.out HKW.out HOK.out ((Below.refl _ wr).drew) s5 v5 m5 l5 o5 i5 HG.out f5 (w5.heap.size) (by have := HG.out.size; simpa using this) (by first | exact .inr (Nat.le_refl _) | simp) rfl rfl rfl (by simp) (fun k hk hne => Below.heap_alloc _ _ _ hk) (Sb.made _ _ _ _ _))
      clear s5 v5 m5 l5 o5 i5 g5 f5 HG
      generalize (w5.alloc (.cells #[.int .i64 (sk5 : Int), .slice a5 ws5.length c5] 68)) = W6 at *
      generalize w5.heap.size = B5 at *
      have HSM := qd (fun (W : World) (hW : Below W6.heap.size W6 W) => same_any N sk5 ws5 a5 c5 sk' ws' a' c' W HK.out.n9 LM.out.s5 LM.out.i.s (LM.out.at5.kept hW) (LM.out.i.at'.kept hW))
      have r50 := LM.out.b5.c0
      have r51 := LM.out.b5.c1
      have r30 := LM.out.i.bx.c0
      have r31 := LM.out.i.bx.c1
      have HSB := qd (sameB_mem (sk := sk5) (ws := ws5) (sk2 := sk') (vs := ws'))
      obtain ⟨n5, hn5⟩ : ∃ n5, n5 = ws5.length := ⟨_, rfl⟩
      rw [← HN'.out] at r31
      rw [← hn5] at r51
      rw [← HN'.out, ← hn5] at HSM
      have HN5 := qd hn5
      rw [← hn5]
      clear hn5
      cases hsb : sameB sk5 ws5 sk' ws'
      · rw [hsb] at HSM
        clear HSB hsb
        unfold setV at HSM
        go_wp2_with fail
        refine (HSM.out _ (Below.refl _ _)).mono ?_
        rintro e7 w7 ⟨rfl, hb7⟩
        have L7 := qd (LM.out.keep HK.out HKW.out hb7)
        clear r50 r51 r30 r31
        have r50 := L7.out.b5.c0
        have r51 := L7.out.b5.c1
        have r30 := L7.out.i.bx.c0
        have r31 := L7.out.i.bx.c1
        have rf0 := L7.out.i.bx.f0
        have rf1 := L7.out.i.bx.f1
        rw [← HN5.out] at r51
        rw [← HN'.out] at r31
        have HNX := qd (L7.out.next HK.out HKW.out HOK.out)
        rw [← HN5.out] at HNX
        clear hb7
        go_wp2_with fail
        go_roundw
        case rel => exact ⟨k + 1, sk5, ws5, a5, c5, F5, by omega, by go_num, HNX.out.congr (fun j => (img_pow_succ R (memS sk ws) k j).symm)⟩
        case measure => simp [intOf]; omega
      · rw [hsb] at HSM
        have HEQ := qd (HSB.out hsb)
        clear HSB hsb
        unfold setV at HSM
        go_wp2_with fail
        refine (HSM.out _ (Below.refl _ _)).mono ?_
        rintro e7 w7 ⟨rfl, hb7⟩
        have L7 := qd (LM.out.keep HK.out HKW.out hb7)
        clear r50 r51 r30 r31
        have r30 := L7.out.i.bx.c0
        have r31 := L7.out.i.bx.c1
        have r40 := L7.out.i.r0
        have r41 := L7.out.i.r1
        have rf0 := L7.out.i.rf 0
        have rf1 := L7.out.i.rf 1
        rw [← HN'.out] at r31
        have HST := qd (L7.out.i.stop (M' := img (rpow R lo) (memS sk ws)) HK.out HKW.out HOK.out (fun j => (low_early R (memS sk ws) k lo (by omega) (fun j => ⟨fun x => (L7.out.i.m j).1 ((HEQ.out j).1 ((L7.out.m5 j).2 x)), fun x => (L7.out.m5 j).1 ((HEQ.out j).2 ((L7.out.i.m j).2 x))⟩) j).symm))
        rw [← HN'.out] at HST
        clear hb7
        obtain ⟨y0, y1⟩ := two_put w7 (w.heap.size + 1) r40 r41 (.int .i64 (sk' : Int)) (.slice a' n' c')
        go_wp2_with fail
        exact bodyPost_ret (v := .agg #[.int .i64 (sk' : Int), .slice a' n' c']) (by simp [results, Tryz.results106, go_sem, y0, y1]) rfl HST.out
    · go_simp
      refine hK.out _ _ (HS.out _ (Below.heap_alloc _ _ _ hpz) (Below.heap_alloc _ _ _ hbz)) (fun hHeld => ?_)
      clear hK K
      try simp only [nmA, Act.put]
      refine rdA 5 (fun K hK => ?_)
      go_simp
      refine (HKC.out _ (((Below.refl _ wr).alloc (Nat.le_refl _) _).drew)).mono ?_
      rintro e5 w5 ⟨sk5, ws5, a5, c5, F5, rfl, s5, v5, m5, l5, o5, i5, g5, f5⟩
      have HG := qd g5
      unfold setV
      refine hK.out _ _ (HS.out _ ((g5.block p (by simp; omega) hFp').trans (Below.heap_alloc _ _ _ hpz)) ((g5.block w.heap.size (by simp; omega) hFb).trans (Below.heap_alloc _ _ _ hbz))) (fun hHeld => ?_)
      clear hK K
      try simp only [nmA, Act.put]
      obtain ⟨q50, q51, q5f, q5g⟩ := newbox g5 HFN.out
      refine rdA 7 (fun K hK => ?_)
      go_simp
      refine hK.out _ _ (HS.out _ ((set2_heap w5 wr.heap.size sk5 a5 ws5.length c5 p (by omega)).trans ((g5.block p (by simp; omega) hFp').trans (Below.heap_alloc _ _ _ hpz))) ((set2_heap w5 wr.heap.size sk5 a5 ws5.length c5 w.heap.size (by omega)).trans ((g5.block w.heap.size (by simp; omega) hFb).trans (Below.heap_alloc _ _ _ hbz)))) (fun hHeld => ?_)
      clear hK K
      try simp only [nmA, Act.put]
      refine wpAnyH_done (by kernel_rfl) ?_ _
      have LM := qd (low_mid (W6 := (w5.setCell ⟨wr.heap.size, 0, none⟩ (.int .i64 (sk5 : Int))).setCell ⟨wr.heap.size, 1, none⟩ (.slice a5 ws5.length c5)) (b5 := wr.heap.size) HK.out HI.out HKW.out HOK.out (((Below.refl _ wr).alloc (Nat.le_refl _) _).drew) s5 v5 m5 l5 o5 i5 HG.out f5 (wr.heap.size) (Nat.le_refl _) (by simp) rfl rfl rfl (by simp) (fun k hk hne => set2_heap w5 wr.heap.size sk5 a5 ws5.length c5 k hne) (Sb.put ⟨q50, q51, q5f, q5g⟩ _ _ _ _))
      clear s5 v5 m5 l5 o5 i5 g5 f5 HG
      generalize ((w5.setCell ⟨wr.heap.size, 0, none⟩ (.int .i64 (sk5 : Int))).setCell ⟨wr.heap.size, 1, none⟩ (.slice a5 ws5.length c5)) = W6 at *
      generalize wr.heap.size = B5 at *
      have HSM := qd (fun (W : World) (hW : Below W6.heap.size W6 W) => same_any N sk5 ws5 a5 c5 sk' ws' a' c' W HK.out.n9 LM.out.s5 LM.out.i.s (LM.out.at5.kept hW) (LM.out.i.at'.kept hW))
      have r50 := LM.out.b5.c0
      have r51 := LM.out.b5.c1
      have r30 := LM.out.i.bx.c0
      have r31 := LM.out.i.bx.c1
      have HSB := qd (sameB_mem (sk := sk5) (ws := ws5) (sk2 := sk') (vs := ws'))
      obtain ⟨n5, hn5⟩ : ∃ n5, n5 = ws5.length := ⟨_, rfl⟩
      rw [← HN'.out] at r31
      rw [← hn5] at r51
      rw [← HN'.out, ← hn5] at HSM
      have HN5 := qd hn5
      rw [← hn5]
      clear hn5
      cases hsb : sameB sk5 ws5 sk' ws'
      · rw [hsb] at HSM
        clear HSB hsb
        unfold setV at HSM
        go_wp2_with fail
        refine (HSM.out _ (Below.refl _ _)).mono ?_
        rintro e7 w7 ⟨rfl, hb7⟩
        have L7 := qd (LM.out.keep HK.out HKW.out hb7)
        clear r50 r51 r30 r31
        have r50 := L7.out.b5.c0
        have r51 := L7.out.b5.c1
        have r30 := L7.out.i.bx.c0
        have r31 := L7.out.i.bx.c1
        have rf0 := L7.out.i.bx.f0
        have rf1 := L7.out.i.bx.f1
        rw [← HN5.out] at r51
        rw [← HN'.out] at r31
        have HNX := qd (L7.out.next HK.out HKW.out HOK.out)
        rw [← HN5.out] at HNX
        clear hb7
        go_wp2_with fail
        go_roundw
        case rel => exact ⟨k + 1, sk5, ws5, a5, c5, F5, by omega, by go_num, HNX.out.congr (fun j => (img_pow_succ R (memS sk ws) k j).symm)⟩
        case measure => simp [intOf]; omega
      · rw [hsb] at HSM
        have HEQ := qd (HSB.out hsb)
        clear HSB hsb
        unfold setV at HSM
        go_wp2_with fail
        refine (HSM.out _ (Below.refl _ _)).mono ?_
        rintro e7 w7 ⟨rfl, hb7⟩
        have L7 := qd (LM.out.keep HK.out HKW.out hb7)
        clear r50 r51 r30 r31
        have r30 := L7.out.i.bx.c0
        have r31 := L7.out.i.bx.c1
        have r40 := L7.out.i.r0
        have r41 := L7.out.i.r1
        have rf0 := L7.out.i.rf 0
        have rf1 := L7.out.i.rf 1
        rw [← HN'.out] at r31
        have HST := qd (L7.out.i.stop (M' := img (rpow R lo) (memS sk ws)) HK.out HKW.out HOK.out (fun j => (low_early R (memS sk ws) k lo (by omega) (fun j => ⟨fun x => (L7.out.i.m j).1 ((HEQ.out j).1 ((L7.out.m5 j).2 x)), fun x => (L7.out.m5 j).1 ((HEQ.out j).2 ((L7.out.i.m j).2 x))⟩) j).symm))
        rw [← HN'.out] at HST
        clear hb7
        obtain ⟨y0, y1⟩ := two_put w7 (w.heap.size + 1) r40 r41 (.int .i64 (sk' : Int)) (.slice a' n' c')
        go_wp2_with fail
        exact bodyPost_ret (v := .agg #[.int .i64 (sk' : Int), .slice a' n' c']) (by simp [results, Tryz.results106, go_sem, y0, y1]) rfl HST.out
  · obtain rfl : k = lo := by omega
    have HST := qd (HI.out.stop (M' := img (rpow R k) (memS sk ws)) HK.out HKW.out HOK.out (fun j => Iff.rfl))
    rw [← HN'.out] at HST
    have r40 := HI.out.r0
    have r41 := HI.out.r1
    have rf0 := HI.out.rf 0
    have rf1 := HI.out.rf 1
    obtain ⟨y0, y1⟩ := two_put wr (w.heap.size + 1) r40 r41 (.int .i64 (sk' : Int)) (.slice a' n' c')
    clear HKC HS
    go_wp2_with fail
    exact bodyPost_ret (v := .agg #[.int .i64 (sk' : Int), .slice a' n' c']) (by simp [results, Tryz.results106, go_sem, y0, y1]) rfl HST.out
end Go.Proofs.YtcimhpdpfckgiaaGreatDoor.kit
namespace Go.Proofs.YtcimhpdpfckgiaaGreatDoor.kit
open Go.ChangeShapes Go.WideShapes Go.ChangeAt Go.RowKit Go.Shelf
structure HiS (K N L : Nat) (Ok : (Nat → Prop) → World → Prop) (F : Nat → Prop) (w : World) (A Fr : Nat → Prop) (wr : World) (bA bF skA : Nat) (wsA : List Nat) (rA : Option Nat) (skF : Nat) (wsF : List Nat) (aF : Option Addr) (cF : Nat) (F' : Nat → Prop) : Prop where
 pos : (bA = w.heap.size + 2 ∧ bF = w.heap.size + 3) ∨ (bA = w.heap.size + 3 ∧ bF = w.heap.size + 2)
 sA : SetAt (w.heap.size + 4) bA 0 skA wsA rA wr
 nA : SetB N skA wsA
 mA : ∀ j, memS skA wsA j ↔ A j
 lA : ∀ j, A j → j ≤ L
 bx : Sb wr bF skF aF wsF.length cF
 nF : SetB N skF wsF
 atF : WordsAt wr wsF aF
 mF : ∀ j, memS skF wsF j ↔ Fr j
 lF : ∀ j, Fr j → j ≤ L
 ok : Ok F' wr
 own : ∀ k, F' k → F k ∨ w.heap.size + 4 ≤ k
 chg : GuestChg F w wr
 r0 : wr.cell? ⟨w.heap.size + 1, 0, none⟩ = some (.int .i64 0)
 r1 : wr.cell? ⟨w.heap.size + 1, 1, none⟩ = some (.slice none 0 0)
 rf : ∀ j, wr.frozen? ⟨w.heap.size + 1, j, none⟩ = false
 z : w.heap.size + 4 ≤ wr.heap.size
 rF : ∀ k, rA = some k → ¬ F' k
 off : wsF ≠ [] → ∀ x, aF = some x → x.block < wr.heap.size ∧ ¬ F' x.block ∧ (x.block < w.heap.size ∨ w.heap.size + 4 ≤ x.block) ∧ rA ≠ some x.block
theorem HiS.own' {K N L nb : Nat} {R : Nat → Nat → Prop} {Ok : (Nat → Prop) → World → Prop} (hk : KidOk K N L nb R Ok) {F F' : Nat → Prop} {w wr : World} {A Fr : Nat → Prop} {bA bF skA skF : Nat} {wsA wsF : List Nat} {rA : Option Nat} {aF : Option Addr} {cF : Nat} (h : HiS K N L Ok F w A Fr wr bA bF skA wsA rA skF wsF aF cF F') (h0 : Ok F w) {k : Nat} (hx : F' k) : (k < w.heap.size ∨ w.heap.size + 4 ≤ k) ∧ k < wr.heap.size ∧ k ≠ bA ∧ k ≠ bF := by
 have h1 := (hk.lt _ _ _ h.ok hx).2
 have hp := h.pos
 rcases h.own k hx with y | y
 · have := (hk.lt _ _ _ h0 y).2
   exact ⟨.inl this, h1, by omega, by omega⟩
 · exact ⟨.inr y, h1, by omega, by omega⟩
theorem HiS.congr {K N L : Nat} {Ok : (Nat → Prop) → World → Prop} {F F' : Nat → Prop} {w wr : World} {A Fr A' Fr' : Nat → Prop} {bA bF skA skF : Nat} {wsA wsF : List Nat} {rA : Option Nat} {aF : Option Addr} {cF : Nat} (h : HiS K N L Ok F w A Fr wr bA bF skA wsA rA skF wsF aF cF F') (hA : ∀ j, A j ↔ A' j) (hF : ∀ j, Fr j ↔ Fr' j) : HiS K N L Ok F w A' Fr' wr bA bF skA wsA rA skF wsF aF cF F' :=
 { h with mA := fun j => (h.mA j).trans (hA j), lA := fun j x => h.lA j ((hA j).2 x), mF := fun j => (h.mF j).trans (hF j), lF := fun j x => h.lF j ((hF j).2 x) }
theorem HiS.kept {K N L nb : Nat} {R : Nat → Nat → Prop} {Ok : (Nat → Prop) → World → Prop} (hk : KidOk K N L nb R Ok) {F F' : Nat → Prop} {w wr W : World} {A Fr : Nat → Prop} {bA bF skA skF : Nat} {wsA wsF : List Nat} {rA : Option Nat} {aF : Option Addr} {cF : Nat} (h : HiS K N L Ok F w A Fr wr bA bF skA wsA rA skF wsF aF cF F') (hK : K ≤ w.heap.size) (hb : Below wr.heap.size wr W) : HiS K N L Ok F w A Fr W bA bF skA wsA rA skF wsF aF cF F' :=
 have hz := h.z
 have hsz := hb.size
 { h with
   sA := h.sA.kept hb
   bx := h.bx.keep (hb.block _ h.bx.lt)
   atF := h.atF.kept hb
   ok := hk.kept h.ok (by omega) hb
   chg := ⟨hb.os.trans h.chg.os, hb.tape.trans h.chg.tape, hb.output.trans h.chg.output, by have := h.chg.size; omega, fun k hx hn => (hb.block k (by omega)).trans (h.chg.block k hx hn)⟩
   r0 := (hb.cell (p := ⟨w.heap.size + 1, 0, none⟩) (by show w.heap.size + 1 < _; omega)).trans h.r0
   r1 := (hb.cell (p := ⟨w.heap.size + 1, 1, none⟩) (by show w.heap.size + 1 < _; omega)).trans h.r1
   rf := fun j => (hb.frozen (p := ⟨w.heap.size + 1, j, none⟩) (by show w.heap.size + 1 < _; omega)).trans (h.rf j)
   z := by omega
   off := fun hn x hx => ⟨by have := (h.off hn x hx).1; omega, (h.off hn x hx).2⟩ }
theorem HiS.joinNil {K N L nb : Nat} {R : Nat → Nat → Prop} {Ok : (Nat → Prop) → World → Prop} (hk : KidOk K N L nb R Ok) {F F' : Nat → Prop} {w wr W : World} {A Fr : Nat → Prop} {bA bF skA skF : Nat} {wsA wsF : List Nat} {rA : Option Nat} {aF : Option Addr} {cF : Nat} (h : HiS K N L Ok F w A Fr wr bA bF skA wsA rA skF wsF aF cF F') (hK : K ≤ w.heap.size) (hb : Below wr.heap.size wr W) (hn : wsF = []) : HiS K N L Ok F w (fun j => A j ∨ Fr j) Fr W bA bF skA wsA rA skF wsF aF cF F' :=
 (h.kept hk hK hb).congr (fun j => ⟨.inl, fun x => x.elim id (fun y => by have := (h.mF j).2 y; rw [hn] at this; exact absurd this (memS_nil _ _))⟩) (fun j => Iff.rfl)
theorem HiS.join {K N L nb : Nat} {R : Nat → Nat → Prop} {Ok : (Nat → Prop) → World → Prop} (hk : KidOk K N L nb R Ok) {F F' : Nat → Prop} {w wr w' : World} {A Fr : Nat → Prop} {bA bF skA skF : Nat} {wsA wsF : List Nat} {rA : Option Nat} {aF : Option Addr} {cF : Nat} (h : HiS K N L Ok F w A Fr wr bA bF skA wsA rA skF wsF aF cF F') (hK : K ≤ w.heap.size) (h0 : Ok F w) (hne : wsF ≠ [])
 {sk' : Nat} {ws' : List Nat} {r' : Option Nat} (h1 : SetAt (w.heap.size + 4) bA 0 sk' ws' r' w') (h2 : SetChg bA 0 rA r' wr w') (h3 : SetB N sk' ws') (h4 : ∀ j, memS sk' ws' j ↔ memS skA wsA j ∨ memS skF wsF j) :
 HiS K N L Ok F w (fun j => A j ∨ Fr j) Fr w' bA bF sk' ws' r' skF wsF aF cF F' := by
 have hz := h.z
 have hsz := h2.size
 have hp := h.pos
 have hrl : ∀ k, rA = some k → w.heap.size + 4 ≤ k := fun k hx => (h.sA.rlt k hx).1
 have hb : ∀ k, k < wr.heap.size → k ≠ bA → rA ≠ some k → w'.heap[k]? = wr.heap[k]? := fun k a b c => h2.block k a b (fun e => c e.symm)
 have hlow : ∀ k, k < w.heap.size + 4 → k ≠ bA → w'.heap[k]? = wr.heap[k]? := fun k a b => hb k (by omega) b (fun e => by have := hrl k e; omega)
 refine { h with sA := h1, nA := h3, mA := fun j => (h4 j).trans (or_congr (h.mA j) (h.mF j)), lA := fun j x => x.elim (h.lA j) (h.lF j), bx := h.bx.keep (hlow _ (by omega) (by omega)), atF := ?_, ok := ?_, chg := ⟨h2.os.trans h.chg.os, h2.tape.trans h.chg.tape, h2.output.trans h.chg.output, by have := h.chg.size; omega, fun k hx hn => (hlow k (by omega) (by omega)).trans (h.chg.block k hx hn)⟩, r0 := ?_, r1 := ?_, rf := ?_, z := by omega, rF := ?_, off := ?_ }
 · exact h.atF.keepLt (fun x hx hl => hb _ hl (by have := (h.off hne x hx).2.2.1; omega) (h.off hne x hx).2.2.2)
 · refine hk.keep _ _ _ h.ok hsz (fun k hx => ?_)
   rcases hx with hx | hx
   · exact hlow k (by omega) (by omega)
   · have := h.own' hk h0 hx
     exact hb k this.2.1 this.2.2.1 (fun e => h.rF k e hx)
 · exact (cob (a := ⟨w.heap.size + 1, 0, none⟩) (hlow (w.heap.size + 1) (by omega) (by omega))).trans h.r0
 · exact (cob (a := ⟨w.heap.size + 1, 1, none⟩) (hlow (w.heap.size + 1) (by omega) (by omega))).trans h.r1
 · exact fun j => (World.frozen?_of_block (a := ⟨w.heap.size + 1, j, none⟩) (hlow (w.heap.size + 1) (by omega) (by omega))).trans (h.rf j)
 · intro k hx hF
   rcases h2.row k hx with y | y
   · exact h.rF k y hF
   · have := (h.own' hk h0 hF).2.1; omega
 · intro _ x hx
   obtain ⟨o1, o2, o3, o4⟩ := h.off hne x hx
   refine ⟨by omega, o2, o3, fun e => ?_⟩
   rcases h2.row _ e with y | y
   · exact o4 y
   · omega
theorem HiS.next {K N L nb : Nat} {R : Nat → Nat → Prop} {Ok : (Nat → Prop) → World → Prop} (hk : KidOk K N L nb R Ok) {F F' F5 : Nat → Prop} {w wr W w5 w6 : World} {A Fr : Nat → Prop} {bA bF skA skF : Nat} {wsA wsF : List Nat} {rA : Option Nat} {aF : Option Addr} {cF : Nat} (h : HiS K N L Ok F w A Fr wr bA bF skA wsA rA skF wsF aF cF F') (hK : K ≤ w.heap.size) (h0 : Ok F w)
 (hW : Below wr.heap.size wr W) {sk5 : Nat} {ws5 : List Nat} (m5 : ∀ j, memS sk5 ws5 j ↔ img R (memS skF wsF) j) (l5 : ∀ j, memS sk5 ws5 j → j ≤ L) (o5 : Ok F5 w5) (i5 : ∀ k, F5 k → F' k ∨ W.heap.size ≤ k) (g5 : GuestChg F' W w5)
 {sk6 : Nat} {ws6 : List Nat} {a6 : Option Addr} {c6 : Nat} (b6 : Below w5.heap.size w5 w6) (s6 : SetB N sk6 ws6) (v6 : WordsAt w6 ws6 a6) (l6 : ∀ x, a6 = some x → w5.heap.size ≤ x.block) (m6 : ∀ j, memS sk6 ws6 j ↔ memS sk5 ws5 j ∧ ¬ memS skA wsA j) :
 HiS K N L Ok F w A (fun j => img R Fr j ∧ ¬ A j) (set2 w6 bF sk6 a6 ws6.length c6) bA bF skA wsA rA sk6 ws6 a6 c6 F5 := by
 have hz := h.z
 have hWz := hW.size
 have h5z := g5.size
 have h6z := b6.size
 have hp := h.pos
 have hs2 := set2_size w6 bF sk6 a6 ws6.length c6
 have hrl : ∀ k, rA = some k → w.heap.size + 4 ≤ k ∧ k < wr.heap.size := h.sA.rlt
 have h26 : ∀ k, k ≠ bF → (set2 w6 bF sk6 a6 ws6.length c6).heap[k]? = w6.heap[k]? := fun k hx => set2_heap w6 bF sk6 a6 ws6.length c6 k hx
 have hold6 : ∀ k, k < wr.heap.size → ¬ F' k → w6.heap[k]? = wr.heap[k]? := fun k hx hn =>
  (b6.block k (by omega)).trans ((g5.block k (by omega) hn).trans (hW.block k hx))
 have hold : ∀ k, k < wr.heap.size → ¬ F' k → k ≠ bF → (set2 w6 bF sk6 a6 ws6.length c6).heap[k]? = wr.heap[k]? := fun k hx hn hb => (h26 k hb).trans (hold6 k hx hn)
 have nF : ∀ k, w.heap.size ≤ k → k < w.heap.size + 4 → ¬ F' k := fun k a b x => by
  have := (h.own' hk h0 x).1; omega
 have hF5 : ∀ k, F5 k → k < w5.heap.size ∧ k ≠ bF := fun k hx => by
  refine ⟨(hk.lt _ _ _ o5 hx).2, ?_⟩
  rcases i5 k hx with y | y
  · exact (h.own' hk h0 y).2.2.2
  · omega
 refine { pos := hp, sA := ?_, nA := h.nA, mA := h.mA, lA := h.lA, bx := ?_, nF := s6, atF := ?_, mF := fun j => (m6 j).trans (and_congr ((m5 j).trans ⟨fun ⟨i, x, y⟩ => ⟨i, (h.mF i).1 x, y⟩, fun ⟨i, x, y⟩ => ⟨i, (h.mF i).2 x, y⟩⟩) (not_congr (h.mA j))), lF := ?_, ok := ?_, own := ?_, chg := ?_, r0 := ?_, r1 := ?_, rf := ?_, z := by omega, rF := ?_, off := ?_ }
 · exact h.sA.keep (hold bA h.sA.lt (nF bA (by omega) (by omega)) (by omega)) (fun k hx => hold k (hrl k hx).2 (h.rF k hx) (by have := (hrl k hx).1; omega))
 · exact (h.bx.keep (hold6 bF h.bx.lt (nF bF (by omega) (by omega)))).put _ _ _ _
 · exact v6.keepLt (fun x hx _ => h26 _ (by have := l6 x hx; omega))
 · rintro j ⟨x, _⟩
   exact l5 j ((m5 j).2 (by obtain ⟨i, y, t⟩ := x; exact ⟨i, (h.mF i).2 y, t⟩))
 · refine hk.keep _ _ _ o5 (by omega) (fun k hx => ?_)
   rcases hx with hx | hx
   · exact (h26 k (by omega)).trans (b6.block k (by omega))
   · exact (h26 k (hF5 k hx).2).trans (b6.block k (hF5 k hx).1)
 · intro k hx
   rcases i5 k hx with y | y
   · exact h.own k y
   · exact .inr (by omega)
 · refine ⟨b6.os.trans (g5.os.trans (hW.os.trans h.chg.os)), b6.tape.trans (g5.tape.trans (hW.tape.trans h.chg.tape)), b6.output.trans (g5.output.trans (hW.output.trans h.chg.output)), by have := h.chg.size; omega, fun k hx hn => ?_⟩
   have hn' : ¬ F' k := fun y => by
    rcases h.own k y with t | t
    · exact hn t
    · omega
   exact (hold k (by omega) hn' (by omega)).trans (h.chg.block k hx hn)
 · exact (cob (a := ⟨w.heap.size + 1, 0, none⟩) (hold (w.heap.size + 1) (by omega) (nF _ (by omega) (by omega)) (by omega))).trans h.r0
 · exact (cob (a := ⟨w.heap.size + 1, 1, none⟩) (hold (w.heap.size + 1) (by omega) (nF _ (by omega) (by omega)) (by omega))).trans h.r1
 · exact fun j => (World.frozen?_of_block (a := ⟨w.heap.size + 1, j, none⟩) (hold (w.heap.size + 1) (by omega) (nF _ (by omega) (by omega)) (by omega))).trans (h.rf j)
 · intro k hx hF
   rcases i5 k hF with y | y
   · exact h.rF k hx y
   · have := (hrl k hx).2; omega
 · intro hn x hx
   have a1 := l6 x hx
   have a2 : x.block < w6.heap.size := by
    obtain ⟨b, e, h1, _⟩ := v6 0 (List.length_pos_iff.2 hn)
    rw [hx] at e; injection e with e; rw [e]; exact h1
   refine ⟨by omega, fun y => by have := (hF5 _ y).1; omega, .inr (by omega), fun e => by have := (hrl _ e).2; omega⟩
def HighPost (N L : Nat) (F : Nat → Prop) (M : Nat → Prop) (Ok : (Nat → Prop) → World → Prop) (w : World) (e : Ending) (w' : World) : Prop :=
 ∃ sk' ws' a' c' F', e = .returned (setV sk' a' ws'.length c') ∧ SetB N sk' ws' ∧ WordsAt w' ws' a' ∧ (∀ j, memS sk' ws' j ↔ M j) ∧ (∀ j, memS sk' ws' j → j ≤ L) ∧ Ok F' w' ∧ (∀ k, F' k → F k ∨ w.heap.size ≤ k) ∧ GuestChg F w w' ∧
   ∀ x, a' = some x → x.block < w'.heap.size ∧ ¬ F' x.block ∧ w.heap.size ≤ x.block
theorem HiS.stop {K N L nb : Nat} {R : Nat → Nat → Prop} {Ok : (Nat → Prop) → World → Prop} (hk : KidOk K N L nb R Ok) {F F' : Nat → Prop} {w W : World} {A Fr M : Nat → Prop} {bA bF skA skF : Nat} {wsA wsF : List Nat} {rA : Option Nat} {aF aA : Option Addr} {cF cA : Nat} (h : HiS K N L Ok F w A Fr W bA bF skA wsA rA skF wsF aF cF F') (hK : K ≤ w.heap.size) (h0 : Ok F w) (hM : ∀ j, A j ↔ M j)
 (hw : WordsAt W wsA aA) (ha : ∀ x, aA = some x → rA = some x.block) :
 HighPost N L F M Ok w (.returned (setV skA aA wsA.length cA)) (set2 W (w.heap.size + 1) skA aA wsA.length cA) := by
 have hb := fun k hx => set2_heap W (w.heap.size + 1) skA aA wsA.length cA k hx
 have hz := set2_size W (w.heap.size + 1) skA aA wsA.length cA
 have hzr := h.z
 have hrl : ∀ k, rA = some k → w.heap.size + 4 ≤ k ∧ k < W.heap.size := h.sA.rlt
 refine ⟨skA, wsA, aA, cA, F', rfl, h.nA, hw.keepLt (fun x hx _ => hb _ (by have := (hrl _ (ha x hx)).1; omega)), fun j => (h.mA j).trans (hM j), fun j x => h.lA j ((h.mA j).1 x), hk.keep _ _ _ h.ok (by omega) (fun k hx => hb k ?_), fun k hx => (h.own k hx).imp id (fun y => by omega), ⟨h.chg.os, h.chg.tape, h.chg.output, by have := h.chg.size; omega, fun k hx hn => (hb k (by omega)).trans (h.chg.block k hx hn)⟩, fun x hx => ⟨by have := (hrl _ (ha x hx)).2; omega, h.rF _ (ha x hx), by have := (hrl _ (ha x hx)).1; omega⟩⟩
 rcases hx with hx | hx
 · omega
 · have := (h.own' hk h0 hx).1; omega
theorem joinNil_any (q o sk2 : Nat) (a2 : Option Addr) (c2 : Nat) (w : World) :
 Calls Tryz.prog 95 #[.pointer (some ⟨q, o, none⟩), setV sk2 a2 0 c2] w fun e w' => (∃ v, e = .returned v) ∧ Below w.heap.size w w' := by
 have HC := qd (show ∀ W, Calls Tryz.prog 68 #[setV sk2 a2 0 c2] W fun e w' => e = .returned (.bool true) ∧ Below W.heap.size W w' from fun W => (setEmpty_any sk2 a2 0 c2 W (by omega)).mono (fun e w' h => h))
 have HB := qd (show ∀ o, Below w.heap.size w (w.alloc o) from fun o => (Below.refl _ w).alloc (Nat.le_refl _) o)
 unfold setV at *
 go_enter Tryz.func95, Tryz.ntmps95
 go_wp2_with fail
 refine (HC.out _).mono ?_
 rintro e w1 ⟨rfl, hb⟩
 have HB1 := qd ((HB.out _).trans (hb.mono (by simp)))
 clear hb
 go_wp2_with fail
 exact bodyPost_ret (results_none rfl _ _ _) rfl ⟨⟨_, rfl⟩, HB1.out⟩
end Go.Proofs.YtcimhpdpfckgiaaGreatDoor.kit
namespace Go.Proofs.YtcimhpdpfckgiaaGreatDoor.kit
open Go.ChangeShapes Go.WideShapes Go.ChangeAt Go.RowKit Go.Shelf
theorem hi_start {K N L nb : Nat} {R : Nat → Nat → Prop} {Ok : (Nat → Prop) → World → Prop} (hk : KidOk K N L nb R Ok) {F : Nat → Prop} {w w2 w3 : World} {sk : Nat} {ws : List Nat} {a : Option Addr} {c bA bF : Nat} (hK : K ≤ w.heap.size) (ho : Ok F w) (hb : SetB N sk ws) (hw : WordsAt w ws a) (hL : ∀ j, memS sk ws j → j ≤ L) (ha : ∀ x, a = some x → x.block < w.heap.size ∧ ¬ F x.block)
 (hb2 : Below w.heap.size w w2) (hz2 : w2.heap.size = w.heap.size + 2) (x1 : ∀ j, w2.cell? ⟨w.heap.size + 1, j, none⟩ = #[Value.int .i64 0, .slice none 0 0][j]?) (g1 : ∀ j, w2.frozen? ⟨w.heap.size + 1, j, none⟩ = false)
 (pos : (bA = w.heap.size + 2 ∧ bF = w.heap.size + 3) ∨ (bA = w.heap.size + 3 ∧ bF = w.heap.size + 2)) (h3 : Below w2.heap.size w2 w3) (hz3 : w.heap.size + 4 ≤ w3.heap.size) (sA : Sb w3 bA 0 none 0 0) (sF : Sb w3 bF sk a ws.length c) :
 HiS K N L Ok F w (fun _ => False) (memS sk ws) w3 bA bF 0 [] none sk ws a c F where
 pos := pos
 sA := ⟨sA.c0, ⟨none, 0, sA.c1, World.ownsRow_nil _ _ _ _, rfl⟩, sA.f0, sA.f1, by simp⟩
 nA := SetB.nil N 0 (Nat.zero_le _)
 mA := fun j => ⟨fun x => memS_nil _ _ x, False.elim⟩
 lA := fun j x => x.elim
 bx := sF
 nF := hb
 atF := (hw.kept hb2).kept h3
 mF := fun j => Iff.rfl
 lF := hL
 ok := hk.kept ho hK (hb2.trans (h3.mono hb2.size))
 own := fun k x => .inl x
 chg := .of_below (hb2.trans (h3.mono hb2.size))
 r0 := (h3.cell (p := ⟨w.heap.size + 1, 0, none⟩) (by show w.heap.size + 1 < _; omega)).trans (x1 0)
 r1 := (h3.cell (p := ⟨w.heap.size + 1, 1, none⟩) (by show w.heap.size + 1 < _; omega)).trans (x1 1)
 rf := fun j => (h3.frozen (p := ⟨w.heap.size + 1, j, none⟩) (by show w.heap.size + 1 < _; omega)).trans (g1 j)
 z := hz3
 rF := fun k x => by cases x
 off := fun _ x hx => ⟨by have := (ha x hx).1; omega, (ha x hx).2, .inl (ha x hx).1, by simp⟩
theorem hi_box1 (w2 : World) (m : Nat) (hz : w2.heap.size = m) (sk : Nat) (a : Option Addr) (n c : Nat) :
 Sb ((w2.alloc (.cells #[.int .i64 0, .slice none 0 0] 68)).alloc (.cells #[.int .i64 (sk : Int), .slice a n c] 68)).drew m 0 none 0 0 ∧ Sb ((w2.alloc (.cells #[.int .i64 0, .slice none 0 0] 68)).alloc (.cells #[.int .i64 (sk : Int), .slice a n c] 68)).drew (m + 1) sk a n c := by
 subst hz
 refine ⟨Sb.keep (Sb.made w2 0 none 0 0) (Below.heap_alloc _ _ _ (by simp)), ?_⟩
 have h := Sb.made (w2.alloc (.cells #[.int .i64 0, .slice none 0 0] 68)) sk a n c
 rw [World.size_alloc] at h
 exact h.keep rfl
theorem hi_box2 (w2 : World) (m : Nat) (hz : w2.heap.size = m) (sk : Nat) (a : Option Addr) (n c : Nat) :
 Sb ((w2.alloc (.cells #[.int .i64 (sk : Int), .slice a n c] 68)).alloc (.cells #[.int .i64 0, .slice none 0 0] 68)).drew (m + 1) 0 none 0 0 ∧ Sb ((w2.alloc (.cells #[.int .i64 (sk : Int), .slice a n c] 68)).alloc (.cells #[.int .i64 0, .slice none 0 0] 68)).drew m sk a n c := by
 subst hz
 refine ⟨?_, Sb.keep (Sb.made w2 sk a n c) (Below.heap_alloc _ _ _ (by simp))⟩
 have h := Sb.made (w2.alloc (.cells #[.int .i64 (sk : Int), .slice a n c] 68)) 0 none 0 0
 rw [World.size_alloc] at h
 exact h.keep rfl
def JoinPost (K N L : Nat) (Ok : (Nat → Prop) → World → Prop) (F : Nat → Prop) (w : World) (A Fr : Nat → Prop) (bA bF skF : Nat) (wsF : List Nat) (aF : Option Addr) (cF : Nat) (F' : Nat → Prop) (e : Ending) (w' : World) : Prop :=
 (∃ v, e = .returned v) ∧ ∃ skA wsA rA, HiS K N L Ok F w (fun j => A j ∨ Fr j) Fr w' bA bF skA wsA rA skF wsF aF cF F'
theorem hi_join {K N L nb : Nat} {R : Nat → Nat → Prop} {Ok : (Nat → Prop) → World → Prop} (hk : KidOk K N L nb R Ok) {F F' : Nat → Prop} {w wr : World} {A Fr : Nat → Prop} {bA bF skA skF : Nat} {wsA wsF : List Nat} {rA : Option Nat} {aF : Option Addr} {cF : Nat} (h : HiS K N L Ok F w A Fr wr bA bF skA wsA rA skF wsF aF cF F') (hK : K ≤ w.heap.size) (h0 : Ok F w) :
 Calls Tryz.prog 95 #[.pointer (some ⟨bA, 0, none⟩), setV skF aF wsF.length cF] wr (JoinPost K N L Ok F w A Fr bA bF skF wsF aF cF F') := by
 by_cases hn : wsF = []
 · have hc := joinNil_any bA 0 skF aF cF wr
   have hl : wsF.length = 0 := by rw [hn]; rfl
   rw [hl]
   refine hc.mono ?_
   rintro e w' ⟨hv, hb⟩
   exact ⟨hv, skA, wsA, rA, h.joinNil hk hK hb hn⟩
 · have hz := h.z
   refine (join_any (w.heap.size + 4) bA 0 skA wsA rA N skF wsF aF cF wr h.sA h.nA h.nF hk.n9 h.atF (fun p hp => ⟨by have := (h.off hn p hp).2.2.1; have := h.pos; omega, (h.off hn p hp).2.2.2⟩) hz).mono ?_
   rintro e w' ⟨hv, sk', ws', r', g1, g2, g3, g4⟩
   exact ⟨hv, sk', ws', r', h.join hk hK h0 hn g1 g2 g3 g4⟩
set_option maxRecDepth 100000 in
set_option maxHeartbeats 12000000 in
theorem high_any {K N L nb : Nat} {R : Nat → Nat → Prop} {Ok : (Nat → Prop) → World → Prop} (hk : KidOk K N L nb R Ok) (p lo hi : Nat) (F : Nat → Prop) (w : World) (sk : Nat) (ws : List Nat) (a : Option Addr) (c : Nat) (hlo : lo ≤ hi) (hhi : hi ≤ 9) (hK : K ≤ w.heap.size) (ho : Ok F w) (hp : p < w.heap.size) (hFp : ¬ F p)
 (c7 : w.cell? ⟨p, 7, none⟩ = some (.pointer (some ⟨nb, 0, none⟩))) (c8 : w.cell? ⟨p, 8, none⟩ = some (.int .i64 (lo : Int))) (c9 : w.cell? ⟨p, 9, none⟩ = some (.int .i64 (hi : Int))) (hb : SetB N sk ws) (hw : WordsAt w ws a) (hL : ∀ j, memS sk ws j → j ≤ L) (ha : ∀ x, a = some x → x.block < w.heap.size ∧ ¬ F x.block) :
 Calls Tryz.prog 105 #[.pointer (some ⟨p, 0, none⟩), setV sk a ws.length c] w (HighPost N L F (untilN R (memS sk ws) (hi - lo)) Ok w) := by
 obtain ⟨n, hn⟩ : ∃ n, n = ws.length := ⟨_, rfl⟩
 obtain ⟨w2, hw2⟩ : ∃ w2, w2 = (w.alloc (.cells #[.int .i64 (sk : Int), .slice a n c] 68)).alloc (.cells #[.int .i64 0, .slice none 0 0] 68) := ⟨_, rfl⟩
 have hb2 : Below w.heap.size w w2 := by rw [hw2]; exact ((Below.refl _ w).alloc (Nat.le_refl _) _).alloc (by simp) _
 have hz2 : w2.heap.size = w.heap.size + 2 := by rw [hw2]; simp
 have s3 : Sb w2 w.heap.size sk a n c := by
  rw [hw2]; exact (Sb.made w sk a n c).keep (Below.heap_alloc _ _ _ (by simp))
 have x1 : ∀ j, w2.cell? ⟨w.heap.size + 1, j, none⟩ = #[Value.int .i64 0, .slice none 0 0][j]? := fun j => by
  rw [hw2, World.cell?_alloc_at _ _ _ _ (by simp)]
 have g1 : ∀ j, w2.frozen? ⟨w.heap.size + 1, j, none⟩ = false := fun j => by
  rw [hw2, World.frozen?_alloc_at _ _ _ _ (by simp)]
 have HW2 := qd hw2
 obtain ⟨s30, s31, _, _⟩ := s3
 have HS := qd (show ∀ W : World, W.heap[w.heap.size]? = w2.heap[w.heap.size]? → (W.cell? ⟨w.heap.size, 0, none⟩ = some (.int .i64 (sk : Int)) ∧ W.cell? ⟨w.heap.size, 1, none⟩ = some (.slice a n c)) from fun W h =>
  ⟨(cob (a := ⟨w.heap.size, 0, none⟩) h).trans s30, (cob (a := ⟨w.heap.size, 1, none⟩) h).trans s31⟩)
 rw [← hn]
 have HN := qd hn
 have HB2 := qd hb2
 have HX1 := qd x1
 have HG1 := qd g1
 have HZ2 := qd hz2
 have HKO := qd hk
 have HKK := qd hK
 have HOK := qd ho
 have HSB := qd hb
 have HWA := qd hw
 have HLL := qd hL
 have HAA := qd ha
 have HFP := qd hFp
 have HP := qd hp
 have C7 := qd c7
 have C8 := qd c8
 have C9 := qd c9
 clear hn hw2 hb2 x1 g1 hk hK ho hb hw hL ha hFp c7 c8 c9
 unfold setV
 go_enter Tryz.func105, Tryz.ntmps105
 go_wp2_with fail
 rw [← HW2.out]
 refine wp_region_held_drew (S := (fun w' => w'.cell? ⟨w.heap.size, 0, none⟩ = some (.int .i64 (sk : Int)) ∧ w'.cell? ⟨w.heap.size, 1, none⟩ = some (.slice a n c))) (by kernel_rfl) (HS.out _ rfl) (fun hHeld => ?_)
 refine tkA 0 ?_
 try simp only [nmA, Act.put]
 refine tkA 1 ?_
 try simp only [nmA, Act.put]
 refine wpAnyH_ready (rs := [2, 3]) (by kernel_rfl) (by simp) ?_
 refine AllReadyH.cons rfl (fun K hK => ?_) (AllReadyH.cons rfl (fun K hK => ?_) AllReadyH.nil)
 · go_simp
   refine hK.out _ _ (HS.out _ (Below.heap_alloc _ _ _ (by omega))) (fun hHeld => ?_)
   clear hK K
   try simp only [nmA, Act.put]
   refine rdA 3 (fun K hK => ?_)
   go_simp
   refine hK.out _ _ (HS.out _ ((Below.heap_alloc _ _ _ (by simp; omega)).trans (Below.heap_alloc _ _ _ (by omega)))) (fun hHeld => ?_)
   clear hK K
   try simp only [nmA, Act.put]
   refine rdA 4 (fun K hK => ?_)
   go_simp
   refine hK.out _ _ (HS.out _ ((Below.heap_alloc _ _ _ (by simp; omega)).trans (Below.heap_alloc _ _ _ (by omega)))) (fun hHeld => ?_)
   clear hK K
   try simp only [nmA, Act.put]
   refine rdA 5 (fun K hK => ?_)
   go_simp
   refine hK.out _ _ (HS.out _ ((Below.heap_alloc _ _ _ (by simp; omega)).trans (Below.heap_alloc _ _ _ (by omega)))) (fun hHeld => ?_)
   clear hK K
   try simp only [nmA, Act.put]
   refine wpAnyH_done (by kernel_rfl) ?_ _
   have HST := qd (hi_start (w3 := ((w2.alloc (.cells #[.int .i64 0, .slice none 0 0] 68)).alloc (.cells #[.int .i64 (sk : Int), .slice a n c] 68)).drew) (bA := (w.heap.size + 2)) (bF := (w.heap.size + 2 + 1)) HKO.out HKK.out HOK.out HSB.out HWA.out HLL.out HAA.out HB2.out HZ2.out HX1.out HG1.out (by omega) (((Below.refl _ w2).alloc (Nat.le_refl _) _).alloc (by simp) _).drew (by simp [HZ2.out]) (by exact (hi_box1 w2 (w.heap.size + 2) HZ2.out sk a n c).1) (by rw [← HN.out]; exact (hi_box1 w2 (w.heap.size + 2) HZ2.out sk a n c).2))
   have k30 := HS.out ((w2.alloc (.cells #[.int .i64 0, .slice none 0 0] 68)).alloc (.cells #[.int .i64 (sk : Int), .slice a n c] 68)).drew ((Below.heap_alloc _ _ _ (by simp; omega)).trans (Below.heap_alloc _ _ _ (by omega)))
   generalize ((w2.alloc (.cells #[.int .i64 0, .slice none 0 0] 68)).alloc (.cells #[.int .i64 (sk : Int), .slice a n c] 68)).drew = w3 at *
   generalize hBF : (w.heap.size + 2 + 1) = bF at *
   generalize hBA : (w.heap.size + 2) = bA at *
   clear hBA hBF
   have HJ := qd (hi_join HKO.out HST.out HKK.out HOK.out)
   rw [← HN.out] at HJ
   unfold setV at HJ
   obtain ⟨k30, k31⟩ := k30
   go_wp2_with fail
   refine HJ.out.mono ?_
   rintro e w4 ⟨⟨_, rfl⟩, skA, wsA, rA, h4⟩
   have H4 := qd (h4.congr (A' := memS sk ws) (Fr' := memS sk ws) (fun j => ⟨fun x => x.elim False.elim id, .inr⟩) (fun j => Iff.rfl))
   have d8 := (h4.chg.cell HP.out HFP.out (j := 8)).trans C8.out
   clear h4 k30 k31 HST HJ HS hHeld
   go_wp2_with fail
   clear d8
   go_loopw [7] (fun tv wr => ∃ (s skA : Nat) (wsA : List Nat) (rA : Option Nat) (skF : Nat) (wsF : List Nat) (aF : Option Addr) (cF : Nat) (F' : Nat → Prop) (A Fr : Nat → Prop), lo ≤ s ∧ s ≤ hi ∧ tv = .int .i64 (s : Int) ∧ HiS K N L Ok F w A Fr wr bA bF skA wsA rA skF wsF aF cF F' ∧ HighN R (memS sk ws) (s - lo) A Fr) (fun tv _ => hi - (intOf tv).toNat)
   case atStart => exact ⟨lo, skA, wsA, rA, sk, ws, a, c, F, _, _, Nat.le_refl _, hlo, rfl, H4.out, by rw [Nat.sub_self]; exact HighN.start _ _⟩
   case round =>
    obtain ⟨s, skA, wsA, rA, skF, wsF, aF, cF, F', A, Fr, hs1, hs2, rfl, hI, hH⟩ := hrel
    have HI := qd hI
    have HH := qd hH
    have d9 := (hI.chg.cell HP.out HFP.out (j := 9)).trans C9.out
    clear hI hH
    by_cases hlt : s < hi
    · have b0 := HI.out.bx.c0
      have b1 := HI.out.bx.c1
      obtain ⟨nF, hnF⟩ : ∃ nF, nF = wsF.length := ⟨_, rfl⟩
      rw [← hnF] at b1
      have HNF := qd hnF
      have hle := HI.out.nF.le
      have hn9 := HKO.out.n9
      have HEM := qd (fun W => setEmpty_any skF aF nF cF W (by omega))
      unfold setV at HEM
      clear hle hn9 hnF
      by_cases hn0 : nF = 0
      · have HMM := qd (show ∀ j, A j ↔ untilN R (memS sk ws) (hi - lo) j from fun j => by
         have h := HH.out.still (fun j x => by
          have := (HI.out.mF j).2 x
          rw [List.length_eq_zero_iff.1 (HNF.out.symm.trans hn0)] at this
          exact memS_nil _ _ this) (hi - s) j
         rw [show s - lo + (hi - s) = hi - lo by omega] at h
         exact h.symm)
        subst hn0
        have hd0 : decide ((0 : Nat) = 0) = true := rfl
        rw [hd0] at HEM
        clear hd0
        go_wp2_with fail
        refine (HEM.out _).mono ?_
        rintro e WW ⟨rfl, hb5⟩
        have HZ := qd (HI.out.kept HKO.out HKK.out hb5)
        clear hb5 b0 b1 d9
        obtain ⟨aA, cA, zz1, hwA, haA⟩ := HZ.out.sA.words
        have zz0 := HZ.out.sA.c0
        have r40 := HZ.out.r0
        have r41 := HZ.out.r1
        have rf0 := HZ.out.rf 0
        have rf1 := HZ.out.rf 1
        have HST := qd (HZ.out.stop (cA := cA) HKO.out HKK.out HOK.out HMM.out hwA haA)
        obtain ⟨nA, hnA⟩ : ∃ nA, nA = wsA.length := ⟨_, rfl⟩
        rw [← hnA] at zz1 HST
        obtain ⟨y0, y1⟩ := two_put WW (w.heap.size + 1) r40 r41 (.int .i64 (skA : Int)) (.slice aA nA cA)
        clear hwA haA hnA
        go_wp2_with fail
        exact bodyPost_ret (v := .agg #[.int .i64 (skA : Int), .slice aA nA cA]) (by simp [results, Tryz.results105, go_sem, y0, y1]) rfl HST.out
      · have hd0 : decide (nF = 0) = false := by simp [hn0]
        rw [hd0] at HEM
        have HNE := qd (show wsF ≠ [] from fun e => hn0 (by rw [HNF.out, e]; rfl))
        clear hd0
        go_wp2_with fail
        refine (HEM.out _).mono ?_
        rintro e w5 ⟨rfl, hb5⟩
        have H5 := qd (HI.out.kept HKO.out HKK.out hb5)
        clear hb5 b0 b1 d9
        have d7 := (H5.out.chg.cell HP.out HFP.out (j := 7)).trans C7.out
        have b0 := H5.out.bx.c0
        have b1 := H5.out.bx.c1
        rw [← HNF.out] at b1
        obtain ⟨aA, cA, za1, hwA, haA⟩ := H5.out.sA.words
        have za0 := H5.out.sA.c0
        obtain ⟨nA, hnA⟩ : ∃ nA, nA = wsA.length := ⟨_, rfl⟩
        rw [← hnA] at za1
        have HNA := qd hnA
        have HKC := qd (fun (W : World) (hW : Below w5.heap.size w5 W) => HKO.out.call F' W skF wsF aF cF (HKO.out.kept H5.out.ok (by have := H5.out.z; have := HKK.out; omega) hW) H5.out.nF (H5.out.atF.kept hW) (fun j x => H5.out.lF j ((H5.out.mF j).1 x)))
        have nFA : ¬ F' bA := fun x => (H5.out.own' HKO.out HOK.out x).2.2.1 rfl
        have nFF : ¬ F' bF := fun x => (H5.out.own' HKO.out HOK.out x).2.2.2 rfl
        have hltA := H5.out.sA.lt
        have hltF := H5.out.bx.lt
        have HA0 := qd (show ∀ w7, GuestChg F' w5.drew w7 → w7.cell? ⟨bA, 0, none⟩ = some (.int .i64 (skA : Int)) ∧ w7.cell? ⟨bA, 1, none⟩ = some (.slice aA nA cA) from fun w7 g => ⟨(g.cell hltA nFA).trans za0, (g.cell hltA nFA).trans za1⟩)
        have HWO := qd (fun (sk7 : Nat) (ws7 : List Nat) (a7 : Option Addr) (c7 : Nat) (w7 : World) (g : GuestChg F' w5.drew w7) (s7 : SetB N sk7 ws7) (v7 : WordsAt w7 ws7 a7) => without_any N sk7 ws7 a7 c7 skA wsA aA cA w7 HKO.out.n9 s7 v7 H5.out.nA (hwA.keepLt (fun x hx hl => g.block _ hl (H5.out.rF _ (haA x hx)))))
        have HF0 := qd (show ∀ w7 w8, GuestChg F' w5.drew w7 → Below w7.heap.size w7 w8 → Sb w8 bF skF aF wsF.length cF from fun w7 w8 g hb => (H5.out.bx.keep ((hb.block _ (Nat.lt_of_lt_of_le hltF g.size)).trans (g.block _ hltF nFF))))
        rw [← HNA.out] at HWO
        rw [← HNF.out] at HKC HF0
        unfold setV at HKC HWO
        clear hnA hwA haA nFA nFF hltA hltF
        go_wp2_with fail
        go_region_with (first
         | (go_at_call 33; refine (HKC.out _ (Below.refl _ w5).drew).mono ?_; rintro e7 w7 ⟨sk7, ws7, a7, c7, F7, rfl, s7, v7, m7, l7, o7, i7, g7, f7⟩; obtain ⟨qa0, qa1⟩ := HA0.out _ g7; have S7 := qd s7; have V7 := qd v7; have M7 := qd m7; have L7 := qd l7; have O7 := qd o7; have I7 := qd i7; have G7 := qd g7; clear s7 v7 m7 l7 o7 i7 g7 f7; unfold setV)
         | (go_at_call 96; refine (HWO.out sk7 ws7 a7 c7 w7 G7.out S7.out V7.out).mono ?_; rintro e8 w8 ⟨sk8, ws8, a8, c8, rfl, b8, s8, v8, l8, m8⟩; obtain ⟨qf0, qf1, qff, qfg⟩ := HF0.out _ _ G7.out b8; have B8 := qd b8; have S8 := qd s8; have V8 := qd v8; have L8 := qd l8; have M8 := qd m8; clear b8 s8 v8 l8 m8; unfold setV))
        all_goals
         have HX := qd (H5.out.next (c6 := c8) HKO.out HKK.out HOK.out (Below.refl _ w5).drew M7.out L7.out O7.out I7.out G7.out B8.out S8.out V8.out L8.out M8.out)
         unfold set2 at HX
         obtain ⟨n8, hn8⟩ : ∃ n8, n8 = ws8.length := ⟨_, rfl⟩
         rw [← hn8] at HX ⊢
         have HN8 := qd hn8
         clear hn8 b0 b1 d7 za0 za1 qa0 qa1 qf0 qf1 qff qfg HA0 HWO HF0 HKC
         generalize ((w8.setCell ⟨bF, 0, none⟩ (.int .i64 (sk8 : Int))).setCell ⟨bF, 1, none⟩ (.slice a8 n8 c8)) = W9 at *
         have b0 := HX.out.bx.c0
         have b1 := HX.out.bx.c1
         rw [← HN8.out] at b1
         have HJ := qd (hi_join HKO.out HX.out HKK.out HOK.out)
         rw [← HN8.out] at HJ
         unfold setV at HJ
         go_wp2_with fail
         refine HJ.out.mono ?_
         rintro e w10 ⟨⟨_, rfl⟩, skB, wsB, rB, h10⟩
         have H10 := qd h10
         clear h10 b0 b1 HJ
         go_wp2_with fail
         go_roundw
         case rel => exact ⟨s + 1, skB, wsB, rB, sk8, ws8, a8, c8, F7, _, _, by omega, by omega, by go_num, H10.out, by rw [show s + 1 - lo = (s - lo) + 1 by omega]; exact HH.out.next (fun j => Iff.rfl) (fun j => Iff.rfl)⟩
         case measure => simp [intOf]; omega
    · obtain rfl : s = hi := by omega
      have HMM := qd (show ∀ j, A j ↔ untilN R (memS sk ws) (s - lo) j from fun j => HH.out.eq j)
      have HZ := HI
      obtain ⟨WW, hWW⟩ : ∃ WW, WW = wr := ⟨_, rfl⟩
      rw [← hWW] at HZ d9 ⊢
      clear hWW HI
      obtain ⟨aA, cA, zz1, hwA, haA⟩ := HZ.out.sA.words
      have zz0 := HZ.out.sA.c0
      have r40 := HZ.out.r0
      have r41 := HZ.out.r1
      have rf0 := HZ.out.rf 0
      have rf1 := HZ.out.rf 1
      have HST := qd (HZ.out.stop (cA := cA) HKO.out HKK.out HOK.out HMM.out hwA haA)
      obtain ⟨nA, hnA⟩ : ∃ nA, nA = wsA.length := ⟨_, rfl⟩
      rw [← hnA] at zz1 HST
      obtain ⟨y0, y1⟩ := two_put WW (w.heap.size + 1) r40 r41 (.int .i64 (skA : Int)) (.slice aA nA cA)
      clear hwA haA hnA
      go_wp2_with fail
      exact bodyPost_ret (v := .agg #[.int .i64 (skA : Int), .slice aA nA cA]) (by simp [results, Tryz.results105, go_sem, y0, y1]) rfl HST.out
 · go_simp
   refine hK.out _ _ (HS.out _ (Below.heap_alloc _ _ _ (by omega))) (fun hHeld => ?_)
   clear hK K
   try simp only [nmA, Act.put]
   refine rdA 2 (fun K hK => ?_)
   go_simp
   refine hK.out _ _ (HS.out _ ((Below.heap_alloc _ _ _ (by simp; omega)).trans (Below.heap_alloc _ _ _ (by omega)))) (fun hHeld => ?_)
   clear hK K
   try simp only [nmA, Act.put]
   refine rdA 4 (fun K hK => ?_)
   go_simp
   refine hK.out _ _ (HS.out _ ((Below.heap_alloc _ _ _ (by simp; omega)).trans (Below.heap_alloc _ _ _ (by omega)))) (fun hHeld => ?_)
   clear hK K
   try simp only [nmA, Act.put]
   refine rdA 5 (fun K hK => ?_)
   go_simp
   refine hK.out _ _ (HS.out _ ((Below.heap_alloc _ _ _ (by simp; omega)).trans (Below.heap_alloc _ _ _ (by omega)))) (fun hHeld => ?_)
   clear hK K
   try simp only [nmA, Act.put]
   refine wpAnyH_done (by kernel_rfl) ?_ _
   have HST := qd (hi_start (w3 := ((w2.alloc (.cells #[.int .i64 (sk : Int), .slice a n c] 68)).alloc (.cells #[.int .i64 0, .slice none 0 0] 68)).drew) (bA := (w.heap.size + 2 + 1)) (bF := (w.heap.size + 2)) HKO.out HKK.out HOK.out HSB.out HWA.out HLL.out HAA.out HB2.out HZ2.out HX1.out HG1.out (by omega) (((Below.refl _ w2).alloc (Nat.le_refl _) _).alloc (by simp) _).drew (by simp [HZ2.out]) (by exact (hi_box2 w2 (w.heap.size + 2) HZ2.out sk a n c).1) (by rw [← HN.out]; exact (hi_box2 w2 (w.heap.size + 2) HZ2.out sk a n c).2))
   have k30 := HS.out ((w2.alloc (.cells #[.int .i64 (sk : Int), .slice a n c] 68)).alloc (.cells #[.int .i64 0, .slice none 0 0] 68)).drew ((Below.heap_alloc _ _ _ (by simp; omega)).trans (Below.heap_alloc _ _ _ (by omega)))
   generalize ((w2.alloc (.cells #[.int .i64 (sk : Int), .slice a n c] 68)).alloc (.cells #[.int .i64 0, .slice none 0 0] 68)).drew = w3 at *
   generalize hBF : (w.heap.size + 2 + 1) = bA at *
   generalize hBA : (w.heap.size + 2) = bF at *
   clear hBA hBF
   have HJ := qd (hi_join HKO.out HST.out HKK.out HOK.out)
   rw [← HN.out] at HJ
   unfold setV at HJ
   obtain ⟨k30, k31⟩ := k30
   go_wp2_with fail
   refine HJ.out.mono ?_
   rintro e w4 ⟨⟨_, rfl⟩, skA, wsA, rA, h4⟩
   have H4 := qd (h4.congr (A' := memS sk ws) (Fr' := memS sk ws) (fun j => ⟨fun x => x.elim False.elim id, .inr⟩) (fun j => Iff.rfl))
   have d8 := (h4.chg.cell HP.out HFP.out (j := 8)).trans C8.out
   clear h4 k30 k31 HST HJ HS hHeld
   go_wp2_with fail
   clear d8
   go_loopw [7] (fun tv wr => ∃ (s skA : Nat) (wsA : List Nat) (rA : Option Nat) (skF : Nat) (wsF : List Nat) (aF : Option Addr) (cF : Nat) (F' : Nat → Prop) (A Fr : Nat → Prop), lo ≤ s ∧ s ≤ hi ∧ tv = .int .i64 (s : Int) ∧ HiS K N L Ok F w A Fr wr bA bF skA wsA rA skF wsF aF cF F' ∧ HighN R (memS sk ws) (s - lo) A Fr) (fun tv _ => hi - (intOf tv).toNat)
   case atStart => exact ⟨lo, skA, wsA, rA, sk, ws, a, c, F, _, _, Nat.le_refl _, hlo, rfl, H4.out, by rw [Nat.sub_self]; exact HighN.start _ _⟩
   case round =>
    obtain ⟨s, skA, wsA, rA, skF, wsF, aF, cF, F', A, Fr, hs1, hs2, rfl, hI, hH⟩ := hrel
    have HI := qd hI
    have HH := qd hH
    have d9 := (hI.chg.cell HP.out HFP.out (j := 9)).trans C9.out
    clear hI hH
    by_cases hlt : s < hi
    · have b0 := HI.out.bx.c0
      have b1 := HI.out.bx.c1
      obtain ⟨nF, hnF⟩ : ∃ nF, nF = wsF.length := ⟨_, rfl⟩
      rw [← hnF] at b1
      have HNF := qd hnF
      have hle := HI.out.nF.le
      have hn9 := HKO.out.n9
      have HEM := qd (fun W => setEmpty_any skF aF nF cF W (by omega))
      unfold setV at HEM
      clear hle hn9 hnF
      by_cases hn0 : nF = 0
      · have HMM := qd (show ∀ j, A j ↔ untilN R (memS sk ws) (hi - lo) j from fun j => by
         have h := HH.out.still (fun j x => by
          have := (HI.out.mF j).2 x
          rw [List.length_eq_zero_iff.1 (HNF.out.symm.trans hn0)] at this
          exact memS_nil _ _ this) (hi - s) j
         rw [show s - lo + (hi - s) = hi - lo by omega] at h
         exact h.symm)
        subst hn0
        have hd0 : decide ((0 : Nat) = 0) = true := rfl
        rw [hd0] at HEM
        clear hd0
        go_wp2_with fail
        refine (HEM.out _).mono ?_
        rintro e WW ⟨rfl, hb5⟩
        have HZ := qd (HI.out.kept HKO.out HKK.out hb5)
        clear hb5 b0 b1 d9
        obtain ⟨aA, cA, zz1, hwA, haA⟩ := HZ.out.sA.words
        have zz0 := HZ.out.sA.c0
        have r40 := HZ.out.r0
        have r41 := HZ.out.r1
        have rf0 := HZ.out.rf 0
        have rf1 := HZ.out.rf 1
        have HST := qd (HZ.out.stop (cA := cA) HKO.out HKK.out HOK.out HMM.out hwA haA)
        obtain ⟨nA, hnA⟩ : ∃ nA, nA = wsA.length := ⟨_, rfl⟩
        rw [← hnA] at zz1 HST
        obtain ⟨y0, y1⟩ := two_put WW (w.heap.size + 1) r40 r41 (.int .i64 (skA : Int)) (.slice aA nA cA)
        clear hwA haA hnA
        go_wp2_with fail
        exact bodyPost_ret (v := .agg #[.int .i64 (skA : Int), .slice aA nA cA]) (by simp [results, Tryz.results105, go_sem, y0, y1]) rfl HST.out
      · have hd0 : decide (nF = 0) = false := by simp [hn0]
        rw [hd0] at HEM
        have HNE := qd (show wsF ≠ [] from fun e => hn0 (by rw [HNF.out, e]; rfl))
        clear hd0
        go_wp2_with fail
        refine (HEM.out _).mono ?_
        rintro e w5 ⟨rfl, hb5⟩
        have H5 := qd (HI.out.kept HKO.out HKK.out hb5)
        clear hb5 b0 b1 d9
        have d7 := (H5.out.chg.cell HP.out HFP.out (j := 7)).trans C7.out
        have b0 := H5.out.bx.c0
        have b1 := H5.out.bx.c1
        rw [← HNF.out] at b1
        obtain ⟨aA, cA, za1, hwA, haA⟩ := H5.out.sA.words
        have za0 := H5.out.sA.c0
        obtain ⟨nA, hnA⟩ : ∃ nA, nA = wsA.length := ⟨_, rfl⟩
        rw [← hnA] at za1
        have HNA := qd hnA
        have HKC := qd (fun (W : World) (hW : Below w5.heap.size w5 W) => HKO.out.call F' W skF wsF aF cF (HKO.out.kept H5.out.ok (by have := H5.out.z; have := HKK.out; omega) hW) H5.out.nF (H5.out.atF.kept hW) (fun j x => H5.out.lF j ((H5.out.mF j).1 x)))
        have nFA : ¬ F' bA := fun x => (H5.out.own' HKO.out HOK.out x).2.2.1 rfl
        have nFF : ¬ F' bF := fun x => (H5.out.own' HKO.out HOK.out x).2.2.2 rfl
        have hltA := H5.out.sA.lt
        have hltF := H5.out.bx.lt
        have HA0 := qd (show ∀ w7, GuestChg F' w5.drew w7 → w7.cell? ⟨bA, 0, none⟩ = some (.int .i64 (skA : Int)) ∧ w7.cell? ⟨bA, 1, none⟩ = some (.slice aA nA cA) from fun w7 g => ⟨(g.cell hltA nFA).trans za0, (g.cell hltA nFA).trans za1⟩)
        have HWO := qd (fun (sk7 : Nat) (ws7 : List Nat) (a7 : Option Addr) (c7 : Nat) (w7 : World) (g : GuestChg F' w5.drew w7) (s7 : SetB N sk7 ws7) (v7 : WordsAt w7 ws7 a7) => without_any N sk7 ws7 a7 c7 skA wsA aA cA w7 HKO.out.n9 s7 v7 H5.out.nA (hwA.keepLt (fun x hx hl => g.block _ hl (H5.out.rF _ (haA x hx)))))
        have HF0 := qd (show ∀ w7 w8, GuestChg F' w5.drew w7 → Below w7.heap.size w7 w8 → Sb w8 bF skF aF wsF.length cF from fun w7 w8 g hb => (H5.out.bx.keep ((hb.block _ (Nat.lt_of_lt_of_le hltF g.size)).trans (g.block _ hltF nFF))))
        rw [← HNA.out] at HWO
        rw [← HNF.out] at HKC HF0
        unfold setV at HKC HWO
        clear hnA hwA haA nFA nFF hltA hltF
        go_wp2_with fail
        go_region_with (first
         | (go_at_call 33; refine (HKC.out _ (Below.refl _ w5).drew).mono ?_; rintro e7 w7 ⟨sk7, ws7, a7, c7, F7, rfl, s7, v7, m7, l7, o7, i7, g7, f7⟩; obtain ⟨qa0, qa1⟩ := HA0.out _ g7; have S7 := qd s7; have V7 := qd v7; have M7 := qd m7; have L7 := qd l7; have O7 := qd o7; have I7 := qd i7; have G7 := qd g7; clear s7 v7 m7 l7 o7 i7 g7 f7; unfold setV)
         | (go_at_call 96; refine (HWO.out sk7 ws7 a7 c7 w7 G7.out S7.out V7.out).mono ?_; rintro e8 w8 ⟨sk8, ws8, a8, c8, rfl, b8, s8, v8, l8, m8⟩; obtain ⟨qf0, qf1, qff, qfg⟩ := HF0.out _ _ G7.out b8; have B8 := qd b8; have S8 := qd s8; have V8 := qd v8; have L8 := qd l8; have M8 := qd m8; clear b8 s8 v8 l8 m8; unfold setV))
        all_goals
         have HX := qd (H5.out.next (c6 := c8) HKO.out HKK.out HOK.out (Below.refl _ w5).drew M7.out L7.out O7.out I7.out G7.out B8.out S8.out V8.out L8.out M8.out)
         unfold set2 at HX
         obtain ⟨n8, hn8⟩ : ∃ n8, n8 = ws8.length := ⟨_, rfl⟩
         rw [← hn8] at HX ⊢
         have HN8 := qd hn8
         clear hn8 b0 b1 d7 za0 za1 qa0 qa1 qf0 qf1 qff qfg HA0 HWO HF0 HKC
         generalize ((w8.setCell ⟨bF, 0, none⟩ (.int .i64 (sk8 : Int))).setCell ⟨bF, 1, none⟩ (.slice a8 n8 c8)) = W9 at *
         have b0 := HX.out.bx.c0
         have b1 := HX.out.bx.c1
         rw [← HN8.out] at b1
         have HJ := qd (hi_join HKO.out HX.out HKK.out HOK.out)
         rw [← HN8.out] at HJ
         unfold setV at HJ
         go_wp2_with fail
         refine HJ.out.mono ?_
         rintro e w10 ⟨⟨_, rfl⟩, skB, wsB, rB, h10⟩
         have H10 := qd h10
         clear h10 b0 b1 HJ
         go_wp2_with fail
         go_roundw
         case rel => exact ⟨s + 1, skB, wsB, rB, sk8, ws8, a8, c8, F7, _, _, by omega, by omega, by go_num, H10.out, by rw [show s + 1 - lo = (s - lo) + 1 by omega]; exact HH.out.next (fun j => Iff.rfl) (fun j => Iff.rfl)⟩
         case measure => simp [intOf]; omega
    · obtain rfl : s = hi := by omega
      have HMM := qd (show ∀ j, A j ↔ untilN R (memS sk ws) (s - lo) j from fun j => HH.out.eq j)
      have HZ := HI
      obtain ⟨WW, hWW⟩ : ∃ WW, WW = wr := ⟨_, rfl⟩
      rw [← hWW] at HZ d9 ⊢
      clear hWW HI
      obtain ⟨aA, cA, zz1, hwA, haA⟩ := HZ.out.sA.words
      have zz0 := HZ.out.sA.c0
      have r40 := HZ.out.r0
      have r41 := HZ.out.r1
      have rf0 := HZ.out.rf 0
      have rf1 := HZ.out.rf 1
      have HST := qd (HZ.out.stop (cA := cA) HKO.out HKK.out HOK.out HMM.out hwA haA)
      obtain ⟨nA, hnA⟩ : ∃ nA, nA = wsA.length := ⟨_, rfl⟩
      rw [← hnA] at zz1 HST
      obtain ⟨y0, y1⟩ := two_put WW (w.heap.size + 1) r40 r41 (.int .i64 (skA : Int)) (.slice aA nA cA)
      clear hwA haA hnA
      go_wp2_with fail
      exact bodyPost_ret (v := .agg #[.int .i64 (skA : Int), .slice aA nA cA]) (by simp [results, Tryz.results105, go_sem, y0, y1]) rfl HST.out
end Go.Proofs.YtcimhpdpfckgiaaGreatDoor.kit
