/-
  A loop over a set that gathers a set: what it keeps. Contract of bytePart's pass over this seat's translation. Conditions: each theorem names its own.
-/
import Derived.Test.YtppfnaenamcnpaaDoorMuMx1
import Derived.Test.YtppfnaenamcnpaaDoorShelf
import Derived.Lib.IndexAny
set_option linter.unusedVariables false
namespace Go.Proofs.YtppfnaenamcnpaaDoor.kit
open Go.ChangeShapes Go.WideShapes Go.ChangeAt Go.RowKit Go.Shelf
attribute [local go_sem] Oper.semAt_some
theorem cell_isCells {w : World} {a : Addr} {v : Value} {o : Obj} (h : w.cell? a = some v) (ho : w.heap[a.block]? = some o) : o.isCells = true := by
 unfold World.cell? at h
 rw [ho] at h
 cases o <;> simp_all [Obj.isCells]
theorem SetAt.rowCells {B q o sk : Nat} {ws : List Nat} {r : Option Nat} {w : World} (h : SetAt B q o sk ws r w) {k : Nat} (hk : r = some k) {ob : Obj} (ho : w.heap[k]? = some ob) : ob.isCells = true := by
 obtain ⟨a, c, _, hw, hr⟩ := h.c1
 rcases hw.2 with ⟨hv, _⟩ | ⟨g, cap, cur, hv, _, hg, _⟩
 · rw [hv] at hr; rw [← hr] at hk; simp [Value.ownBlock] at hk
 · rw [hv] at hr; rw [← hr] at hk
   simp only [Value.ownBlock, Option.some.injEq] at hk
   subst hk
   rw [hg] at ho
   cases ho; rfl
structure Gat (B q N : Nat) (M : Nat → Prop) (w0 W : World) : Prop where
 ex : ∃ sk ws r, SetAt B q 0 sk ws r W ∧ SetB N sk ws ∧ (∀ j, memS sk ws j ↔ M j) ∧ SetChg q 0 none r w0 W
 lt : q < w0.heap.size
theorem Gat.own {β : Type} (B q N : Nat) (M : β → Nat → Prop) (w0 : World) : OwnFrom w0.heap.size (fun s W => Gat B q N (M s) w0 W) := fun s W W' row h hg hrow => by
 obtain ⟨⟨sk, ws, r, h1, h2, h3, h4⟩, hq⟩ := h
 have hb : ∀ k, k < W.heap.size → (∀ ob, W.heap[k]? = some ob → ob.isCells = true) → W'.heap[k]? = W.heap[k]? := fun k hk hc => hg.block k hk (fun e => by
  obtain ⟨_, ob, ho, hn⟩ := hrow k e.symm
  have := hc ob ho; rw [hn] at this; cases this)
 have hqb := hb q h1.lt (fun ob ho => cell_isCells (a := ⟨q, 0, none⟩) h1.c0 ho)
 refine ⟨⟨sk, ws, r, h1.keep hqb (fun k hk => hb k (h1.rlt k hk).2 (fun ob ho => h1.rowCells hk ho)), h2, h3, ?_⟩, hq⟩
 exact ⟨hg.os.trans h4.os, hg.tape.trans h4.tape, hg.output.trans h4.output, Nat.le_trans h4.size hg.size, fun k hk e1 e2 => (hg.block k (Nat.lt_of_lt_of_le hk h4.size) (fun e => by have := (hrow k e.symm).1; omega)).trans (h4.block k hk e1 e2),
  fun j e1 e2 => (World.cell?_of_block (a := ⟨q, j, none⟩) hqb).trans (h4.cell j e1 e2), fun j => (World.frozen?_of_block (a := ⟨q, j, none⟩) hqb).trans (h4.frozen j), h4.row⟩
theorem SetChg.others {B q o sk : Nat} {ws : List Nat} {r r' : Option Nat} {w w' : World} (h : SetChg q o r r' w w') (hs : SetAt B q o sk ws r w) (D : Nat) : KeepsFrom D w w' :=
 ⟨h.size, fun k ob _ hk hc => (h.block k (Array.getElem?_eq_some_iff.1 hk).1 (fun e => by subst e; rw [cell_isCells (a := ⟨k, o, none⟩) hs.c0 hk] at hc; cases hc) (fun e => by rw [hs.rowCells e.symm hk] at hc; cases hc)).trans hk⟩
theorem Gat.keep {B q N : Nat} {M : Nat → Prop} {w0 W : World} (h : Gat B q N M w0 W) (k : Nat) (hk : k < w0.heap.size) (hq : k ≠ q) : W.heap[k]? = w0.heap[k]? := by
 obtain ⟨⟨sk, ws, r, h1, h2, h3, h4⟩, _⟩ := h
 exact h4.block k hk hq (by simp)
def takesB (bs : ByteArray) (n : Bool) (b : UInt8) : Bool := bs.data.toList.contains b != n
def byteN (s : List UInt8) (back : Bool) (bs : ByteArray) (n : Bool) (i j : Nat) : Prop := ∃ b, stepN s back i = some (b, j) ∧ takesB bs n b = true
theorem Gat.congr {B q N : Nat} {M M' : Nat → Prop} {w0 W : World} (h : Gat B q N M w0 W) (e : ∀ j, M j ↔ M' j) : Gat B q N M' w0 W := by
 obtain ⟨⟨sk, ws, r, h1, h2, h3, h4⟩, hq⟩ := h
 exact ⟨⟨sk, ws, r, h1, h2, fun j => (h3 j).trans (e j), h4⟩, hq⟩
theorem Gat.step {B q N : Nat} {M : Nat → Prop} {w0 W W' : World} (h : Gat B q N M w0 W) (hb : Below W.heap.size W W') : Gat B q N M w0 W' := by
 obtain ⟨⟨sk, ws, r, h1, h2, h3, h4⟩, hq⟩ := h
 exact ⟨⟨sk, ws, r, h1.kept hb, h2, h3, h4.trans (.of_below h1.lt hb)⟩, hq⟩
theorem below_others {W W' : World} (h : Below W.heap.size W W') (D : Nat) : KeepsFrom D W W' := ⟨h.size, fun k ob _ hk _ => (h.block k (Array.getElem?_eq_some_iff.1 hk).1).trans hk⟩
theorem byteN_snoc (s : List UInt8) (back : Bool) (bs : ByteArray) (n : Bool) (xs : List Nat) (x j : Nat) : img (byteN s back bs n) (· ∈ xs) j ∨ (∃ b, stepN s back x = some (b, j) ∧ takesB bs n b = true) ↔ img (byteN s back bs n) (· ∈ xs ++ [x]) j := by
 unfold img byteN
 constructor
 · rintro (⟨i, h1, h2⟩ | h)
   · exact ⟨i, by simp [h1], h2⟩
   · exact ⟨x, by simp, h⟩
 · rintro ⟨i, h1, h2⟩
   rcases List.mem_append.1 h1 with h | h
   · exact .inl ⟨i, h, h2⟩
   · rw [List.mem_singleton] at h; subst h; exact .inr h2
theorem stepN_bd (s : List UInt8) (back : Bool) (i : Nat) (b : UInt8) (j : Nat) (h : stepN s back i = some (b, j)) : j ≤ s.length := by
 unfold stepN at h
 split at h
 · split at h
   · cases h
   · simp only [Option.some.injEq, Prod.mk.injEq] at h; omega
 · split at h
   · simp only [Option.some.injEq, Prod.mk.injEq] at h; omega
   · cases h
set_option maxRecDepth 100000 in
set_option maxHeartbeats 1000000 in
theorem passB_in (m : Nat) (hm : 8 ≤ m) (N p : Nat) (s : ByteArray) (back : Bool) (bs : ByteArray) (nt : Bool) (sk : Nat) (ws : List Nat) (a : Option Addr) (c : Nat) (w : World) (hp : p < w.heap.size) (h0 : w.cell? ⟨p, 0, none⟩ = some (.string s)) (h1 : w.cell? ⟨p, 1, none⟩ = some (.bool back))
 (h7 : w.cell? ⟨p, 7, none⟩ = some (.string bs)) (h8 : w.cell? ⟨p, 8, none⟩ = some (.bool nt)) (hb : SetB N sk ws) (hN : N ≤ 1048576) (hs : s.size ≤ 1048576) (hL : (s.size + 1) / 64 < N) (hw : WordsAt w ws a) (hT : BT w) (hin : ∀ j, memS sk ws j → j ≤ s.size) (ha : ∀ x, a = some x → x.block < w.heap.size) :
 CallsIn Fence.wide m Tryd.prog 113 #[.pointer (some ⟨p, 0, none⟩), setV sk a ws.length c] w (PassSet N a (img (byteN s.data.toList back bs nt) (memS sk ws)) w) := by
 have hm1 : 1 ≤ m := by omega
 have hle := hb.le
 obtain ⟨n, hn⟩ : ∃ n, n = ws.length := ⟨_, rfl⟩
 have HN := Lib.hid hn
 rw [← hn]
 obtain ⟨w5, hw5⟩ : ∃ w5, w5 = ((((w.alloc (.cells #[.pointer (some ⟨p, 0, none⟩)] 133)).alloc (.cells #[.int .i64 (sk : Int), .slice a n c] 62)).alloc (.cells #[.int .i64 0, .slice none 0 0] 62)).alloc (.cells #[.int .i64 0, .slice none 0 0] 62)).alloc (.cells #[.int .i64 (sk : Int), .slice a n c] 62) := ⟨_, rfl⟩
 have hz5 : w5.heap.size = w.heap.size + 5 := by rw [hw5]; simp
 have hb5 : Below w.heap.size w w5 := by rw [hw5]; exact (((((Below.refl _ w).alloc (Nat.le_refl _) _).alloc (by simp) _).alloc (by simp; omega) _).alloc (by simp; omega) _).alloc (by simp; omega) _
 have y0 : w5.cell? ⟨w.heap.size, 0, none⟩ = some (.pointer (some ⟨p, 0, none⟩)) := by
  rw [hw5, World.cell?_alloc_past _ _ _ (by simp; try omega), World.cell?_alloc_past _ _ _ (by simp; try omega), World.cell?_alloc_past _ _ _ (by simp; try omega), World.cell?_alloc_past _ _ _ (by simp; try omega), World.cell?_alloc_at _ _ _ _ rfl]; rfl
 have y2 : ∀ j, w5.cell? ⟨w.heap.size + 2, j, none⟩ = #[Value.int .i64 0, .slice none 0 0][j]? := fun j => by
  rw [hw5, World.cell?_alloc_past _ _ _ (by simp; try omega), World.cell?_alloc_past _ _ _ (by simp; try omega), World.cell?_alloc_at _ _ _ _ (by simp)]
 have g2 : ∀ j, w5.frozen? ⟨w.heap.size + 2, j, none⟩ = false := fun j => by
  rw [hw5, World.frozen?_alloc_past _ _ _ (by simp; try omega), World.frozen?_alloc_past _ _ _ (by simp; try omega), World.frozen?_alloc_at _ _ _ _ (by simp)]
 have y4 : ∀ j, w5.cell? ⟨w.heap.size + 4, j, none⟩ = #[Value.int .i64 (sk : Int), .slice a n c][j]? := fun j => by
  rw [hw5, World.cell?_alloc_at _ _ _ _ (by simp)]
 have hs5 : SetAt (w.heap.size + 5) (w.heap.size + 3) 0 0 [] none w5 := by
  have h := SetAt.new (((w.alloc (.cells #[.pointer (some ⟨p, 0, none⟩)] 133)).alloc (.cells #[.int .i64 (sk : Int), .slice a n c] 62)).alloc (.cells #[.int .i64 0, .slice none 0 0] 62)) 62
  have h2 := h.kept ((Below.refl _ _).alloc (Nat.le_refl _) (.cells #[.int .i64 (sk : Int), .slice a n c] 62))
  rw [← hw5] at h2
  obtain ⟨k0, ⟨a', c', k1, k2, k3⟩, k4, k5, k6⟩ := h2
  simp only [World.size_alloc] at k0 k1 k4 k5 k6
  refine ⟨k0, ⟨a', c', k1, ?_, k3⟩, k4, k5, k6⟩
  rcases k2.2 with k7 | ⟨g, cap, cur, hv, _⟩
  · exact ⟨k2.1, .inl k7⟩
  · rw [hv] at k3; simp [Value.ownBlock] at k3
 have hG0 : Gat (w.heap.size + 5) (w.heap.size + 3) N (img (byteN s.data.toList back bs nt) (· ∈ ([] : List Nat))) w5 w5 := ⟨⟨0, [], none, hs5, SetB.nil _ _ (by omega), fun j => by simp [memS_nil, img], .of_below hs5.lt (Below.refl _ _)⟩, by omega⟩
 have x0 := y4 0
 have x1 := y4 1
 simp only [List.getElem?_toArray, List.getElem?_cons_succ, List.getElem?_cons_zero] at x0 x1
 rw [hn] at x1
 have hseq := all_stops (m - 1) (by omega) (w.heap.size + 4) sk ws a c (by omega) hb.lt (KeepB (SetF (w.heap.size + 4) a)) (fun A B h => h) w5 (by omega) x0 x1 (hw.kept hb5) (hT.kept hb5)
 have hf : Fence.wide.fn 37 := trivial
 have HP := Lib.hid hp
 have HH := Lib.hid (show w.cell? ⟨p, 0, none⟩ = some (.string s) ∧ w.cell? ⟨p, 1, none⟩ = some (.bool back) ∧ w.cell? ⟨p, 7, none⟩ = some (.string bs) ∧ w.cell? ⟨p, 8, none⟩ = some (.bool nt) from ⟨h0, h1, h7, h8⟩)
 have HW5 := Lib.hid hw5
 have HZ5 := Lib.hid hz5
 have HB5 := Lib.hid hb5
 have HY0 := Lib.hid y0
 have HY2 := Lib.hid y2
 have HG2 := Lib.hid g2
 have HG0 := Lib.hid hG0
 have HPL := Lib.hid (memL_pl ws sk hb.lt)
 have HIN := Lib.hid hin
 have HA := Lib.hid ha
 have HLL := Lib.hid (show (s.size + 1) / 64 < N ∧ N ≤ 1048576 ∧ s.size ≤ 1048576 by omega)
 have HTG := Lib.hid (hT.lt)
 clear h0 h1 h7 h8 hb hw hw5 hz5 hb5 y0 y2 g2 y4 hs5 hG0 x0 x1 hn hin ha hT hL hs hN hle
 unfold setV
 refine callsIn_of_wp_marks Tryd.func113 rfl trivial ?_ rfl
 simp only [Tryd.ntmps113, List.size_toArray, List.length_cons, List.length_nil, Nat.reduceAdd, Nat.reduceSub, Array.replicate_succ, Array.replicate_zero, List.push_toArray, List.append_toArray, List.nil_append, List.cons_append]
 gi_wp2_with (gi_at_call 37; refine (all_in (m - 1) _ _ _ _ _).mono ?_; rintro e w' ⟨rfl, rfl⟩)
 rw [← HW5.out]
 refine wpIn_rangeFunc_ownG rfl hm1 (gf := 63) rfl trivial (enters_of Tryd.func63 (by kernel_rfl) rfl)
  hseq (fun h k => KeepB.trans h k) (fun W l o o' hl _ _ _ => fun k hk => World.putObj_heap_other (by
   have := HZ5.out
   rcases hk with rfl | rfl | ⟨x, hx, rfl⟩
   · omega
   · have := HTG.out; omega
   · have := HA.out x hx; omega)) (Below.refl _ _) (fun _ => rfl)
  (fun pre W => Gat (w.heap.size + 5) (w.heap.size + 3) N (img (byteN s.data.toList back bs nt) (· ∈ pre.map (·.1))) w5 W)
  (fun _ _ _ => False)
  (Gat.own _ _ _ (fun pre : List {x : Nat // x ∈ memL sk ws} => img (byteN s.data.toList back bs nt) (· ∈ pre.map (·.1))) w5)
  (fun _ _ _ _ _ hs _ _ => hs)
  HG0.out
  (fun x => { tmps := #[.pointer (some ⟨p, 0, none⟩), .agg #[.int .i64 (sk : Int), .slice a n c], .pointer (some ⟨w.heap.size, 0, none⟩), .pointer (some ⟨w.heap.size + 1, 0, none⟩), .pointer (some ⟨w.heap.size + 1 + 1, 0, none⟩), .pointer (some ⟨w.heap.size + 1 + 1 + 1, 0, none⟩), pV x.1, undef, undef, undef, .agg #[.int .i64 0, .slice none 0 0], .agg #[.int .i64 (sk : Int), .slice a n c], .func (.func 63) #[] #[.pointer (some ⟨w.heap.size + 1 + 1 + 1 + 1, 0, none⟩)], pV x.1, undef, undef, undef, undef, undef, undef, undef, undef, undef, undef, undef, undef, undef, undef, undef, undef, undef, undef, undef, undef, undef, undef, undef, undef, undef, undef, undef, undef, undef], defers := [] }) ?assign ?body ?done ?stop
 case assign =>
  intro l x W K hK
  gi_wp2
  exact hK
 case stop =>
  rintro D c pre W _ _ h _
  exact h.elim
 case done =>
  rintro D ys W hD hys hG hK
  rw [hys] at hG
  have hk2 := hG.keep (w.heap.size + 2) (by rw [HZ5.out]; omega) (by omega)
  have t0 := (World.cell?_of_block (a := ⟨w.heap.size + 2, 0, none⟩) hk2).trans (HY2.out 0)
  have t1 := (World.cell?_of_block (a := ⟨w.heap.size + 2, 1, none⟩) hk2).trans (HY2.out 1)
  have u0 := (World.frozen?_of_block (a := ⟨w.heap.size + 2, 0, none⟩) hk2).trans (HG2.out 0)
  have u1 := (World.frozen?_of_block (a := ⟨w.heap.size + 2, 1, none⟩) hk2).trans (HG2.out 1)
  simp only [List.getElem?_toArray, List.getElem?_cons_succ, List.getElem?_cons_zero] at t0 t1
  obtain ⟨⟨sk9, ws9, r9, s9, b9, m9, c9⟩, hq9⟩ := hG
  obtain ⟨a9, c9', k1, hv9, hr9⟩ := s9.words
  have k0 := s9.c0
  simp only [Nat.zero_add] at k1
  obtain ⟨n9, hn9⟩ : ∃ n9, n9 = ws9.length := ⟨_, rfl⟩
  rw [← hn9] at k1
  have HN9 := Lib.hid hn9
  have HV9 := Lib.hid hv9
  have HR9 := Lib.hid (show ∀ x, a9 = some x → w.heap.size + 5 ≤ x.block ∧ x.block ≠ D from fun x hx => ⟨(s9.rlt _ (hr9 x hx)).1, fun e => by
   have := s9.rowCells (hr9 x hx) (by rw [e]; exact hK); cases this⟩)
  have B9 := Lib.hid b9
  have M9 := Lib.hid m9
  have C9 := Lib.hid c9
  have hD5 : w.heap.size + 5 ≤ D := by rw [← HZ5.out]; exact hD
  have HK := Lib.hid (show ∀ u v, ((W.setCell ⟨w.heap.size + 1 + 1, 0, none⟩ u).setCell ⟨w.heap.size + 1 + 1, 1, none⟩ v).heap[D]? = some (Obj.deferred (some [])) from fun u v => ((Below.heap_setCell _ _ _ _ (by show D ≠ w.heap.size + 1 + 1; omega)).trans (Below.heap_setCell _ _ _ _ (by show D ≠ w.heap.size + 1 + 1; omega))).trans hK)
  have HD := Lib.hid hD5
  have HBW := Lib.hid (show Below w.heap.size w W from HB5.out.trans ⟨c9.os, c9.tape, c9.output, c9.size, fun k hk => c9.block k (by rw [HZ5.out]; omega) (by omega) (by simp)⟩)
  obtain ⟨z0, z1⟩ := two_put W (w.heap.size + 1 + 1) t0 t1 (.int .i64 (sk9 : Int)) (.slice a9 n9 c9')
  have HZZ := Lib.hid (show _ ∧ _ from ⟨z0, z1⟩)
  clear hv9 hn9 s9 b9 m9 c9 hk2 hD hr9 hD5 hK z0 z1
  gi_wp2
  have hKf := HK.out (.int .i64 (sk9 : Int)) (.slice a9 n9 c9')
  refine ⟨by simp, .inl ⟨_, _, rfl, run_takeDeferred hKf, ?_⟩⟩
  have hput : ∀ k, k ≠ D → (((W.setCell ⟨w.heap.size + 1 + 1, 0, none⟩ (.int .i64 (sk9 : Int))).setCell ⟨w.heap.size + 1 + 1, 1, none⟩ (.slice a9 n9 c9')).putObj D (.deferred none)).heap[k]? = ((W.setCell ⟨w.heap.size + 1 + 1, 0, none⟩ (.int .i64 (sk9 : Int))).setCell ⟨w.heap.size + 1 + 1, 1, none⟩ (.slice a9 n9 c9')).heap[k]? := fun k hk => World.putObj_heap_other hk
  have q0 := (World.cell?_of_block (a := ⟨w.heap.size + 1 + 1, 0, none⟩) (hput _ (by have := HD.out; show w.heap.size + 1 + 1 ≠ D; omega))).trans HZZ.out.1
  have q1 := (World.cell?_of_block (a := ⟨w.heap.size + 1 + 1, 1, none⟩) (hput _ (by have := HD.out; show w.heap.size + 1 + 1 ≠ D; omega))).trans HZZ.out.2
  refine ⟨.agg #[.int .i64 (sk9 : Int), .slice a9 n9 c9'], by simp [results, Tryd.results113, go_sem, q0, q1], PassSet.of sk9 ws9 a9 c9' (by rw [HN9.out]; rfl) ?_ B9.out ?_ (fun x hx => .inr (by have := (HR9.out x hx).1; omega)) (fun j => ?_)⟩
  · have h1 := (HBW.out.setCell (p := ⟨w.heap.size + 1 + 1, 0, none⟩) (by show w.heap.size ≤ w.heap.size + 1 + 1; omega) (.int .i64 (sk9 : Int))).setCell (p := ⟨w.heap.size + 1 + 1, 1, none⟩) (by show w.heap.size ≤ w.heap.size + 1 + 1; omega) (.slice a9 n9 c9')
    exact h1.trans ⟨rfl, rfl, rfl, by simp, fun k hk => hput k (by have := HD.out; omega)⟩
  · refine (((HV9.out.put (w.heap.size + 1 + 1) 0 _ (fun x hx => by have := (HR9.out x hx).1; omega)).put (w.heap.size + 1 + 1) 1 _ (fun x hx => by have := (HR9.out x hx).1; omega))).keep (fun x hx => hput _ (HR9.out x hx).2)
  · rw [M9.out]
    exact ⟨fun ⟨i, h1, h2⟩ => ⟨i, (HPL.out.2 i).1 h1, h2⟩, fun ⟨i, h1, h2⟩ => ⟨i, (HPL.out.2 i).2 h1, h2⟩⟩
 case body =>
  rintro l pre ⟨x, hx⟩ W hG hlt
  simp only
  have hxs := HIN.out x ((HPL.out.2 x).1 hx)
  have hkk : ∀ k, k < w.heap.size + 5 → k ≠ w.heap.size + 3 → W.heap[k]? = w5.heap[k]? := fun k h1 h2 => hG.keep k (by rw [HZ5.out]; exact h1) h2
  have hold : ∀ k, k < w.heap.size → W.heap[k]? = w.heap[k]? := fun k h => (hkk k (by omega) (by omega)).trans (HB5.out.block k h)
  have y0 := (World.cell?_of_block (a := ⟨w.heap.size, 0, none⟩) (hkk w.heap.size (by omega) (by omega))).trans HY0.out
  have p0 := (World.cell?_of_block (a := ⟨p, 0, none⟩) (hold p HP.out)).trans HH.out.1
  have p1 := (World.cell?_of_block (a := ⟨p, 1, none⟩) (hold p HP.out)).trans HH.out.2.1
  have p7 := (World.cell?_of_block (a := ⟨p, 7, none⟩) (hold p HP.out)).trans HH.out.2.2.1
  have p8 := (World.cell?_of_block (a := ⟨p, 8, none⟩) (hold p HP.out)).trans HH.out.2.2.2
  have hWz : w.heap.size + 5 ≤ W.heap.size := by
   obtain ⟨⟨_, _, _, _, _, _, h⟩, _⟩ := hG
   have := h.size; rw [HZ5.out] at this; exact this
  have HG := Lib.hid hG
  have hfs : (Fence.wide.inRound l).fn 102 := trivial
  have hfi : Fence.wide.fn 114 := trivial
  have hfa : (Fence.wide.inRound l).fn 62 := trivial
  have HST := Lib.hid (show ∀ (k : Nat) (W' : World), CallsIn (Fence.wide.inRound l) k Tryd.prog 102 #[.agg #[.string s, .bool back], .int .i64 (x : Int)] W' fun e w' => e = .returned (stepV (stepN s.data.toList back x)) ∧ Below W'.heap.size W' w' from fun k W' => (callsIn_wide.2 (step_any s back x W' HLL.out.2.2 (by have := HLL.out.2.2; omega)) : CallsIn Fence.wide k _ _ _ _ _))
  have HKP := Lib.hid (show ∀ W', (∀ k, k < w.heap.size + 5 → k ≠ w.heap.size + 3 → W'.heap[k]? = W.heap[k]?) → KeepB (SetF (w.heap.size + 4) a) W W' from fun W' h k hk => by
   rcases hk with rfl | rfl | ⟨y, hy, rfl⟩
   · exact h _ (by omega) (by omega)
   · exact h _ (by have := HTG.out; omega) (by have := HTG.out; omega)
   · exact h _ (by have := HA.out y hy; omega) (by have := HA.out y hy; omega))
  have HX := Lib.hid (show x ≤ s.size ∧ s.size ≤ 1048576 from ⟨hxs, HLL.out.2.2⟩)
  clear hkk hold hlt hseq hxs hG
  obtain ⟨res, hres⟩ : ∃ res, res = stepN s.data.toList back x := ⟨_, rfl⟩
  rw [← hres] at HST
  have HRES := Lib.hid hres
  clear hres
  unfold pV
  have HIM := Lib.hid (fun j => byteN_snoc s.data.toList back bs nt (pre.map (·.1)) x j)
  rw [← HRES.out] at HIM
  cases res with
  | none =>
    have HNX := Lib.hid (show ∀ W', Gat (w.heap.size + 5) (w.heap.size + 3) N (img (byteN s.data.toList back bs nt) (· ∈ pre.map (·.1))) w5 W' → Gat (w.heap.size + 5) (w.heap.size + 3) N (img (byteN s.data.toList back bs nt) (· ∈ (pre ++ [(⟨x, hx⟩ : {x : Nat // x ∈ memL sk ws})]).map (·.1))) w5 W' from fun W' h => h.congr (fun j => by rw [List.map_append]; exact ⟨fun h' => (HIM.out j).1 (.inl h'), fun h' => ((HIM.out j).2 h').elim id (fun ⟨b, e, _⟩ => by cases e)⟩))
    clear HIM
    unfold stepV at HST
    gi_wp2
    refine ⟨trivial, fun _ => by omega, ?_⟩
    refine (HST.out _ _).mono ?_
    rintro e w' ⟨rfl, hb1⟩
    have HB1 := Lib.hid hb1
    have q0 := (hb1.cell (p := ⟨w.heap.size, 0, none⟩) (by simp; omega)).trans y0
    clear hb1
    gi_wp2
    refine wpIn_region_quiet_round l rfl (by kernel_rfl) (by kernel_rfl) (by kernel_rfl) ?_
    repeat (gi_big_quiet_step (fail))
    refine wpQuietIn_nil ?_
    intro _ hw9
    obtain ⟨nq, hw8⟩ := hw9
    subst hw8
    gi_wp2
    exact ⟨below_others (HB1.out.trans (below_drew0 _ nq _)) _, HKP.out _ (fun k h1 h2 => HB1.out.block k (by omega)), HNX.out _ (HG.out.step (HB1.out.trans (below_drew0 _ nq _)))⟩
  | some bj =>
    obtain ⟨b, j⟩ := bj
    have HI := Lib.hid (show ∀ (k : Nat) (W' : World), CallsIn Fence.wide k Tryd.prog 114 #[.string bs, .int .u8 (b.toNat : Int)] W' fun e w' => e = .returned (.int .i64 (Lib.indexByte bs.data.toList b)) ∧ w' = W' from fun k W' => callsIn_wide.2 (by
        have := Tryd.strings_IndexByte bs (b.toNat : Int) W'
        rwa [show ((b.toNat : Int)).toNat.toUInt8 = b by simp] at this))
    have hidx : decide (0 ≤ Lib.indexByte bs.data.toList b) = bs.data.toList.contains b := by
        exact (Lib.contains_iff_indexByte _ _).symm
    have HJB := Lib.hid (stepN_bd s.data.toList back x b j HRES.out.symm)
    unfold stepV at HST
    generalize Lib.indexByte bs.data.toList b = z at *
    cases htk : takesB bs nt b with
    | false =>
      have hne : (decide (0 ≤ z) == nt) = true := by
       have h : (decide (0 ≤ z) != nt) = false := by rw [hidx]; exact htk
       simpa [bne] using h
      have HNX := Lib.hid (show ∀ W', Gat (w.heap.size + 5) (w.heap.size + 3) N (img (byteN s.data.toList back bs nt) (· ∈ pre.map (·.1))) w5 W' → Gat (w.heap.size + 5) (w.heap.size + 3) N (img (byteN s.data.toList back bs nt) (· ∈ (pre ++ [(⟨x, hx⟩ : {x : Nat // x ∈ memL sk ws})]).map (·.1))) w5 W' from fun W' h => h.congr (fun j => by rw [List.map_append]; exact ⟨fun h' => (HIM.out j).1 (.inl h'), fun h' => ((HIM.out j).2 h').elim id (fun ⟨b', e, h2⟩ => by cases e; rw [htk] at h2; cases h2)⟩))
      clear HIM hidx htk
      gi_wp2
      refine ⟨trivial, fun _ => by omega, ?_⟩
      refine (HST.out _ _).mono ?_
      rintro e w' ⟨rfl, hb1⟩
      have HB1 := Lib.hid hb1
      have q0 := (hb1.cell (p := ⟨w.heap.size, 0, none⟩) (by simp; omega)).trans y0
      have q7 := (hb1.cell (p := ⟨p, 7, none⟩) (by have := HP.out; simp; omega)).trans p7
      have q8 := (hb1.cell (p := ⟨p, 8, none⟩) (by have := HP.out; simp; omega)).trans p8
      clear hb1
      gi_wp2
      refine wpIn_region_quiet_round l rfl (by kernel_rfl) (by kernel_rfl) (by kernel_rfl) ?_
      repeat (gi_big_quiet_step (exact ⟨fun _ => by omega, CallsIn.quiet_of_same (HI.out _ _)⟩))
      refine wpQuietIn_nil ?_
      intro _ hw9
      obtain ⟨nq, hw8⟩ := hw9
      subst hw8
      gi_wp2
      exact ⟨below_others (HB1.out.trans (below_drew0 _ nq _)) _, HKP.out _ (fun k h1 h2 => HB1.out.block k (by omega)), HNX.out _ (HG.out.step (HB1.out.trans (below_drew0 _ nq _)))⟩
    | true =>
      have hne : (decide (0 ≤ z) == nt) = false := by
       have h : (decide (0 ≤ z) != nt) = true := by rw [hidx]; exact htk
       simpa [bne] using h
      have HNX := Lib.hid (show ∀ W', Gat (w.heap.size + 5) (w.heap.size + 3) N (fun y => img (byteN s.data.toList back bs nt) (· ∈ pre.map (·.1)) y ∨ y = j) w5 W' → Gat (w.heap.size + 5) (w.heap.size + 3) N (img (byteN s.data.toList back bs nt) (· ∈ (pre ++ [(⟨x, hx⟩ : {x : Nat // x ∈ memL sk ws})]).map (·.1))) w5 W' from fun W' h => h.congr (fun y => by
       rw [List.map_append]
       exact (or_congr_right ⟨fun e => by subst e; exact ⟨b, rfl, htk⟩, fun ⟨b', e, _⟩ => by cases e; rfl⟩).trans (HIM.out y)))
      obtain ⟨⟨sk9, ws9, r9, s9, b9, m9, c9⟩, hq9⟩ := HG.out
      have HADD := Lib.hid (show ∀ (k : Nat) (W' : World), Below W.heap.size W W' → CallsIn (Fence.wide.inRound l) k Tryd.prog 62 #[.pointer (some ⟨w.heap.size + 3, 0, none⟩), .int .i64 (j : Int)] W' (GrowPost (w.heap.size + 5) (w.heap.size + 3) 0 sk9 ws9 r9 N (fun y => memS sk9 ws9 y ∨ y = j) W') from fun k W' hW => (callsIn_wide.2 (add_any (w.heap.size + 5) (w.heap.size + 3) 0 sk9 ws9 r9 N j W' (s9.kept hW) b9 HLL.out.2.1 (by
       have h1 := HJB.out
       have h2 := HLL.out.1
       rw [show s.data.toList.length = s.size by simp] at h1
       omega) (Nat.le_trans hWz hW.size)) : CallsIn Fence.wide k _ _ _ _ _))
      have S9 := Lib.hid s9
      have M9 := Lib.hid m9
      have C9 := Lib.hid c9
      clear HIM hidx htk s9 b9 m9 c9
      gi_wp2
      refine ⟨trivial, fun _ => by omega, ?_⟩
      refine (HST.out _ _).mono ?_
      rintro e w' ⟨rfl, hb1⟩
      have HB1 := Lib.hid hb1
      have q0 := (hb1.cell (p := ⟨w.heap.size, 0, none⟩) (by simp; omega)).trans y0
      have q7 := (hb1.cell (p := ⟨p, 7, none⟩) (by have := HP.out; simp; omega)).trans p7
      have q8 := (hb1.cell (p := ⟨p, 8, none⟩) (by have := HP.out; simp; omega)).trans p8
      clear hb1
      gi_wp2
      refine wpIn_region_quiet_round l rfl (by kernel_rfl) (by kernel_rfl) (by kernel_rfl) ?_
      repeat (gi_big_quiet_step (exact ⟨fun _ => by omega, CallsIn.quiet_of_same (HI.out _ _)⟩))
      refine wpQuietIn_nil ?_
      intro _ hw9
      obtain ⟨nq, hw8⟩ := hw9
      subst hw8
      gi_wp2
      refine ⟨trivial, fun _ => by omega, ?_⟩
      refine (HADD.out _ _ (HB1.out.trans (below_drew0 _ nq _))).mono ?_
      rintro e w7 ⟨⟨_, rfl⟩, sk7, ws7, r7, s7, c7, b7, m7⟩
      have B7 := Lib.hid (HB1.out.trans (below_drew0 _ nq W.heap.size))
      have S7 := Lib.hid s7
      have C7 := Lib.hid c7
      have BB7 := Lib.hid b7
      have M7 := Lib.hid m7
      clear s7 c7 b7 m7
      gi_wp2
      have hchg := SetChg.trans (.of_below (o := 0) (r := r9) S9.out.lt B7.out) C7.out
      refine ⟨hchg.others S9.out _, HKP.out _ (fun k h1 h2 => hchg.block k (by omega) h2 (fun e => by have := S9.out.rlt k e.symm; omega)), HNX.out _ ⟨⟨sk7, ws7, r7, S7.out, BB7.out, fun y => by rw [M7.out, M9.out], C9.out.trans hchg⟩, hq9⟩⟩
theorem passB_any (N p : Nat) (s : ByteArray) (back : Bool) (bs : ByteArray) (nt : Bool) (sk : Nat) (ws : List Nat) (a : Option Addr) (c : Nat) (w : World) (hp : p < w.heap.size) (h0 : w.cell? ⟨p, 0, none⟩ = some (.string s)) (h1 : w.cell? ⟨p, 1, none⟩ = some (.bool back))
 (h7 : w.cell? ⟨p, 7, none⟩ = some (.string bs)) (h8 : w.cell? ⟨p, 8, none⟩ = some (.bool nt)) (hb : SetB N sk ws) (hN : N ≤ 1048576) (hs : s.size ≤ 1048576) (hL : (s.size + 1) / 64 < N) (hw : WordsAt w ws a) (hT : BT w) (hin : ∀ j, memS sk ws j → j ≤ s.size) (ha : ∀ x, a = some x → x.block < w.heap.size) :
 Calls Tryd.prog 113 #[.pointer (some ⟨p, 0, none⟩), setV sk a ws.length c] w (PassSet N a (img (byteN s.data.toList back bs nt) (memS sk ws)) w) :=
 callsIn_wide.1 (passB_in 8 (Nat.le_refl _) N p s back bs nt sk ws a c w hp h0 h1 h7 h8 hb hN hs hL hw hT hin ha)
end Go.Proofs.YtppfnaenamcnpaaDoor.kit
