/-
  Contract of net.lay over this seat's translation, at trees with kids. Conditions: each theorem names its own.
-/
import Derived.Test.YtcimhpdpfckgiaaGreatDoorMxMi4
import Derived.Test.YtcimhpdpfckgiaaGreatDoorMxMs8
import Derived.Deep.RegionHeld3
set_option linter.unusedVariables false
set_option linter.unusedSimpArgs false
open Go.ChangeShapes Go.WideShapes Go.ChangeAt Go.RowKit
namespace Go.Proofs.YtcimhpdpfckgiaaGreatDoor.kit
theorem hcA {W v : World} {m bk c o : Nat} {x0 x1 x2 x3 x4 x5 x6 x7 x8 x9 x10 x11 x12 x13 x14 x15 x16 x17 x18 x19 : Option Value} (hE : ∀ q, (q = m ∨ q = c ∨ q = bk) → v.heap[q]? = W.heap[q]?) (hHeld : W.cell? ⟨m, 5, none⟩ = x0 ∧ W.cell? ⟨bk, o, none⟩ = x1 ∧ W.cell? ⟨bk, o + 1, none⟩ = x2 ∧ W.cell? ⟨bk, o + 2, none⟩ = x3 ∧ W.cell? ⟨bk, o + 3, none⟩ = x4 ∧ W.cell? ⟨bk, o + 4, none⟩ = x5 ∧ W.cell? ⟨bk, o + 5, none⟩ = x6 ∧ W.cell? ⟨bk, o + 6, none⟩ = x7 ∧ W.cell? ⟨bk, o + 7, none⟩ = x8 ∧ W.cell? ⟨bk, o + 8, none⟩ = x9 ∧ W.cell? ⟨bk, o + 9, none⟩ = x10 ∧ W.cell? ⟨bk, o + 10, none⟩ = x11 ∧ W.cell? ⟨bk, o + 11, none⟩ = x12 ∧ W.cell? ⟨c, 0, none⟩ = x13 ∧ W.cell? ⟨c, 1, none⟩ = x14 ∧ W.cell? ⟨c, 2, none⟩ = x15 ∧ W.cell? ⟨c, 3, none⟩ = x16 ∧ W.cell? ⟨c, 4, none⟩ = x17 ∧ W.cell? ⟨c, 5, none⟩ = x18 ∧ W.cell? ⟨c, 6, none⟩ = x19) : v.cell? ⟨m, 5, none⟩ = x0 ∧ v.cell? ⟨bk, o, none⟩ = x1 ∧ v.cell? ⟨bk, o + 1, none⟩ = x2 ∧ v.cell? ⟨bk, o + 2, none⟩ = x3 ∧ v.cell? ⟨bk, o + 3, none⟩ = x4 ∧ v.cell? ⟨bk, o + 4, none⟩ = x5 ∧ v.cell? ⟨bk, o + 5, none⟩ = x6 ∧ v.cell? ⟨bk, o + 6, none⟩ = x7 ∧ v.cell? ⟨bk, o + 7, none⟩ = x8 ∧ v.cell? ⟨bk, o + 8, none⟩ = x9 ∧ v.cell? ⟨bk, o + 9, none⟩ = x10 ∧ v.cell? ⟨bk, o + 10, none⟩ = x11 ∧ v.cell? ⟨bk, o + 11, none⟩ = x12 ∧ v.cell? ⟨c, 0, none⟩ = x13 ∧ v.cell? ⟨c, 1, none⟩ = x14 ∧ v.cell? ⟨c, 2, none⟩ = x15 ∧ v.cell? ⟨c, 3, none⟩ = x16 ∧ v.cell? ⟨c, 4, none⟩ = x17 ∧ v.cell? ⟨c, 5, none⟩ = x18 ∧ v.cell? ⟨c, 6, none⟩ = x19 :=
 ⟨(cob (a := ⟨m, 5, none⟩) (hE m (.inl rfl))).trans hHeld.1, (cob (a := ⟨bk, o, none⟩) (hE bk (.inr (.inr rfl)))).trans hHeld.2.1, (cob (a := ⟨bk, o + 1, none⟩) (hE bk (.inr (.inr rfl)))).trans hHeld.2.2.1, (cob (a := ⟨bk, o + 2, none⟩) (hE bk (.inr (.inr rfl)))).trans hHeld.2.2.2.1, (cob (a := ⟨bk, o + 3, none⟩) (hE bk (.inr (.inr rfl)))).trans hHeld.2.2.2.2.1, (cob (a := ⟨bk, o + 4, none⟩) (hE bk (.inr (.inr rfl)))).trans hHeld.2.2.2.2.2.1, (cob (a := ⟨bk, o + 5, none⟩) (hE bk (.inr (.inr rfl)))).trans hHeld.2.2.2.2.2.2.1, (cob (a := ⟨bk, o + 6, none⟩) (hE bk (.inr (.inr rfl)))).trans hHeld.2.2.2.2.2.2.2.1, (cob (a := ⟨bk, o + 7, none⟩) (hE bk (.inr (.inr rfl)))).trans hHeld.2.2.2.2.2.2.2.2.1, (cob (a := ⟨bk, o + 8, none⟩) (hE bk (.inr (.inr rfl)))).trans hHeld.2.2.2.2.2.2.2.2.2.1, (cob (a := ⟨bk, o + 9, none⟩) (hE bk (.inr (.inr rfl)))).trans hHeld.2.2.2.2.2.2.2.2.2.2.1, (cob (a := ⟨bk, o + 10, none⟩) (hE bk (.inr (.inr rfl)))).trans hHeld.2.2.2.2.2.2.2.2.2.2.2.1, (cob (a := ⟨bk, o + 11, none⟩) (hE bk (.inr (.inr rfl)))).trans hHeld.2.2.2.2.2.2.2.2.2.2.2.2.1, (cob (a := ⟨c, 0, none⟩) (hE c (.inr (.inl rfl)))).trans hHeld.2.2.2.2.2.2.2.2.2.2.2.2.2.1, (cob (a := ⟨c, 1, none⟩) (hE c (.inr (.inl rfl)))).trans hHeld.2.2.2.2.2.2.2.2.2.2.2.2.2.2.1, (cob (a := ⟨c, 2, none⟩) (hE c (.inr (.inl rfl)))).trans hHeld.2.2.2.2.2.2.2.2.2.2.2.2.2.2.2.1, (cob (a := ⟨c, 3, none⟩) (hE c (.inr (.inl rfl)))).trans hHeld.2.2.2.2.2.2.2.2.2.2.2.2.2.2.2.2.1, (cob (a := ⟨c, 4, none⟩) (hE c (.inr (.inl rfl)))).trans hHeld.2.2.2.2.2.2.2.2.2.2.2.2.2.2.2.2.2.1, (cob (a := ⟨c, 5, none⟩) (hE c (.inr (.inl rfl)))).trans hHeld.2.2.2.2.2.2.2.2.2.2.2.2.2.2.2.2.2.2.1, (cob (a := ⟨c, 6, none⟩) (hE c (.inr (.inl rfl)))).trans hHeld.2.2.2.2.2.2.2.2.2.2.2.2.2.2.2.2.2.2.2⟩
theorem LayR.base {K N C nb m : Nat} {s : ByteArray} {back : Bool} {D D2 : Nt} {Fs Fs2 : Nat → Nat → Prop} {F F2 : Nat → Prop} {w0 w V : World} (h : LayR K N C nb s back D Fs F w D2 Fs2 F2 V m) (h0 : NtL K N s.size C nb s back D Fs F w) (hKC : K ≤ C) (hKw : K ≤ w.heap.size) (hB : Below K w0 w) : Below K w0 V :=
 ⟨h.g.os.trans hB.os, h.g.tape.trans hB.tape, h.g.output.trans hB.output, Nat.le_trans hB.size h.g.size, fun k hk => (h.g.block k (by omega) (fun f => by have := (h0.hF k f).1; omega)).trans (hB.block k hk)⟩
theorem Free.keep {P : Nat → Prop} {D2 D3 : Nt} {Fs2 Fs3 : Nat → Nat → Prop} {F2 F3 : Nat → Prop} {V V' : World} (hf : Free D2 D3 Fs2 Fs3 F2 F3 V V') (hz : V.heap.size ≤ V'.heap.size) (h : ∀ q, P q → q < V.heap.size ∧ ¬ D2.ownL Fs2 F2 q) : (∀ q, P q → q < V'.heap.size ∧ ¬ D3.ownL Fs3 F3 q) ∧ ∀ q, P q → V'.heap[q]? = V.heap[q]? :=
 ⟨fun q hq => ⟨Nat.lt_of_lt_of_le (h q hq).1 hz, (hf q (h q hq).1 (h q hq).2).1⟩, fun q hq => (hf q (h q hq).1 (h q hq).2).2⟩
set_option maxRecDepth 100000 in
set_option maxHeartbeats 2000000 in
theorem layK5 (K N : Nat) (s : ByteArray) (back : Bool) (w0 : World) (env : LayEnv K N s w0) (x : RT) (hx : layOne K N s back w0 x) (ss : ByteArray) (n : Bool) (lo hi : Int) : layOne K N s back w0 (.node 5 ss n lo hi [x]) := by
 intro hg C nb D Fs F a cap b w hKC h hb hB hk hl
 have hm := RT.own_many (RT.good_own hg)
 have hgx := RT.good_kids hg x (by simp [RT.kids])
 have hKw : K ≤ w.heap.size := by rw [← env.k0]; exact hB.size
 have HC : Hid (∀ W, Below w.heap.size w W → Calls Tryz.prog 58 #[.pointer (some ⟨nb, 0, none⟩), reV (.node 5 ss n lo hi [x]) a cap, partV (D.T b) b] W (LayPost K N C nb s back D Fs F (.node 5 ss n lo hi [x]) b w)) := qd (fun W hW => by
  obtain ⟨l, rfl⟩ : ∃ l : Nat, lo = (l : Int) := ⟨lo.toNat, by omega⟩
  rcases hm.2 with rfl | ⟨h1, h2⟩
  · exact (addLoopA K N s back w0 env x hx hgx ss n l (max l 1) ⟨by omega, rfl⟩ C nb D Fs F a cap b W hKC (h.kept hKC hW) hb (hB.trans (hW.mono hKw)) hk hl).mono (fun e w' hp => hp.of_below hW)
  · obtain ⟨hh, rfl⟩ : ∃ hh : Nat, hi = (hh : Int) := ⟨hi.toNat, by omega⟩
    exact (addLoopB K N s back w0 env x hx hgx ss n l hh ⟨by omega, by omega⟩ C nb D Fs F a cap b W hKC (h.kept hKC hW) hb (hB.trans (hW.mono hKw)) hk hl).mono (fun e w' hp => hp.of_below hW))
 have c0 := h.c0
 have c1 := h.c1
 have hnl := h.hn.2.1
 have HB := qd (fun o p => below2a w o p)
 clear hB h env hm hgx hKw hx hk hl
 unfold partV reV at *
 simp only [RT.kind, RT.set, RT.neg, RT.low, RT.high, RT.kids, List.length_cons, List.length_nil, Nat.zero_add] at *
 obtain ⟨⟨x0, x1, x2, x3, x4, x5⟩, _⟩ := Box.start (k := 5) (s := ss) (n := n) (lo := lo) (hi := hi) (ts := [x]) (a := a) (cap := cap) w 26
 go_enter Tryz.func44, Tryz.ntmps44
 go_wp2_with fail
 refine (HC.out ((w.alloc _).alloc _) (HB.out _ _)).mono ?_
 rintro e w2 ⟨D', Fs', F', p, rfl, hrest⟩
 have HR := qd hrest
 clear hrest
 unfold partV
 go_wp2_with fail
 go_ret
 exact ⟨D', Fs', F', p, rfl, HR.out⟩
set_option maxRecDepth 100000 in
set_option maxHeartbeats 8000000 in
theorem layK3f (K N : Nat) (s : ByteArray) (w0 : World) (env : LayEnv K N s w0) (x y : RT) (hx : layOne K N s false w0 x) (hy : layOne K N s false w0 y) (ss : ByteArray) (n : Bool) (lo hi : Int) : layOne K N s false w0 (.node 3 ss n lo hi [x, y]) := by
 intro hg C nb D Fs F a cap b w hKC h hb hB hk hl
 have hgx := RT.good_kids hg x (by simp [RT.kids])
 have hgy := RT.good_kids hg y (by simp [RT.kids])
 have hKw : K ≤ w.heap.size := by rw [← env.k0]; exact hB.size
 have hsz : RT.sz (.node 3 ss n lo hi [x, y]) = 1 + (RT.sz x + RT.sz y) := by simp [RT.sz, RT.szs]
 replace hk : Kids 0 w0 [x, y] a := hk
 obtain ⟨ax, cx, hex, hkx⟩ := hk.elem 0 (by simp)
 obtain ⟨ay, cy, hey, hky⟩ := hk.elem 1 (by simp)
 simp only [List.getElem_cons_zero, List.getElem_cons_succ] at hex hkx hey hky
 obtain ⟨bk, o, rfl, _, hbl, ex0, ex1, ex2, ex3, ex4, ex5, _, _⟩ := hex
 obtain ⟨bk2, o2, e2, _, _, ey0, ey1, ey2, ey3, ey4, ey5, _, _⟩ := hey
 cases e2
 have hbk : bk < K := by rw [← env.k0]; exact hbl
 obtain ⟨m, hm⟩ : ∃ m, m = w.heap.size := ⟨_, rfl⟩
 obtain ⟨c, hc⟩ : ∃ c, c = w.heap.size + 1 := ⟨_, rfl⟩
 obtain ⟨W, hW⟩ : ∃ W, W = (w.alloc (.cells #[.int .i64 3, .string ss, .bool n, .int .i64 lo, .int .i64 hi, .slice (some ⟨bk, o, none⟩) 2 cap] 26)).alloc (.cells #[.string s, .bool false, .int .i64 0, .slice none 0 0, .int .i64 0, .slice none 0 0, .slice none 0 0] 90) := ⟨_, rfl⟩
 have hbW : Below w.heap.size w W := by rw [hW]; exact below2a w _ _
 have hzW : W.heap.size = w.heap.size + 2 := by rw [hW]; simp
 have xm : ∀ j, W.cell? ⟨m, j, none⟩ = #[Value.int .i64 3, .string ss, .bool n, .int .i64 lo, .int .i64 hi, .slice (some ⟨bk, o, none⟩) 2 cap][j]? := fun j => by
  rw [hW, hm, cob (a := ⟨w.heap.size, j, none⟩) (Below.heap_alloc _ _ _ (by simp))]
  exact World.cell?_alloc_at _ _ _ _ rfl
 have xc : ∀ j, W.cell? ⟨c, j, none⟩ = #[Value.string s, .bool false, .int .i64 0, .slice none 0 0, .int .i64 0, .slice none 0 0, .slice none 0 0][j]? := fun j => by
  rw [hW, hc]; exact World.cell?_alloc_at _ _ _ _ (by simp)
 have xb : ∀ j, W.cell? ⟨bk, j, none⟩ = w0.cell? ⟨bk, j, none⟩ := fun j => (hbW.cell (p := ⟨bk, j, none⟩) (by show bk < _; omega)).trans (hB.cell (p := ⟨bk, j, none⟩) hbk)
 have HX := qd (fun (V : World) (D2 : Nt) (Fs2 : Nat → Nat → Prop) (F2 : Nat → Prop) (q b2 : Nat) (hR : LayR K N C nb s false D Fs F w D2 Fs2 F2 V q) (hq : q ≤ RT.sz y) (hb2 : b2 ∈ D2.P) => hx hgx C nb D2 Fs2 F2 ax cx b2 V hKC hR.n hb2 (hR.base h hKC hKw hB) hkx (by have := hR.x.l; omega))
 have HY := qd (fun (V : World) (D2 : Nt) (Fs2 : Nat → Nat → Prop) (F2 : Nat → Prop) (q b2 : Nat) (hR : LayR K N C nb s false D Fs F w D2 Fs2 F2 V q) (hq : q ≤ RT.sz x) (hb2 : b2 ∈ D2.P) => hy hgy C nb D2 Fs2 F2 ay cy b2 V hKC hR.n hb2 (hR.base h hKC hKw hB) hky (by have := hR.x.l; omega))
 have hR0 := qd ((LayR.start h hKC hbW).below hKC (Below.refl _ W).drew)
 have hQ0 := qd (show ∀ q, (q = m ∨ q = c ∨ q = bk) → q < W.drew.heap.size ∧ ¬ D.ownL Fs F q from fun q hq => by
  have hzd : W.drew.heap.size = W.heap.size := rfl
  rcases hq with rfl | rfl | rfl
  · exact ⟨by omega, fun o => by have := (h.ownlt o).2; omega⟩
  · exact ⟨by omega, fun o => by have := (h.ownlt o).2; omega⟩
  · exact ⟨by omega, fun o => by have := (h.ownlt o).1; omega⟩)
 have HG := qd (And.intro hKC (And.intro hb (And.intro env.n9 (And.intro env.ln (And.intro hl (And.intro hsz h))))))
 have HZ := qd (And.intro hm (And.intro hc (And.intro hzW hW)))
 simp only [Nat.zero_mul, Nat.add_zero, Nat.one_mul, Nat.add_assoc, Nat.reduceAdd] at ex0 ex1 ex2 ex3 ex4 ex5 ey0 ey1 ey2 ey3 ey4 ey5
 have HS0 := qd (show (fun w' : World => w'.cell? ⟨m, 5, none⟩ = some (.slice (some ⟨bk, o, none⟩) 2 cap) ∧ w'.cell? ⟨bk, o, none⟩ = some (.int .i64 x.kind) ∧ w'.cell? ⟨bk, o + 1, none⟩ = some (.string x.set) ∧ w'.cell? ⟨bk, o + 2, none⟩ = some (.bool x.neg) ∧ w'.cell? ⟨bk, o + 3, none⟩ = some (.int .i64 x.low) ∧ w'.cell? ⟨bk, o + 4, none⟩ = some (.int .i64 x.high) ∧ w'.cell? ⟨bk, o + 5, none⟩ = some (.slice ax x.kids.length cx) ∧ w'.cell? ⟨bk, o + 6, none⟩ = some (.int .i64 y.kind) ∧ w'.cell? ⟨bk, o + 7, none⟩ = some (.string y.set) ∧ w'.cell? ⟨bk, o + 8, none⟩ = some (.bool y.neg) ∧ w'.cell? ⟨bk, o + 9, none⟩ = some (.int .i64 y.low) ∧ w'.cell? ⟨bk, o + 10, none⟩ = some (.int .i64 y.high) ∧ w'.cell? ⟨bk, o + 11, none⟩ = some (.slice ay y.kids.length cy) ∧ w'.cell? ⟨c, 0, none⟩ = some (.string s) ∧ w'.cell? ⟨c, 1, none⟩ = some (.bool false) ∧ w'.cell? ⟨c, 2, none⟩ = some (.int .i64 0) ∧ w'.cell? ⟨c, 3, none⟩ = some (.slice none 0 0) ∧ w'.cell? ⟨c, 4, none⟩ = some (.int .i64 0) ∧ w'.cell? ⟨c, 5, none⟩ = some (.slice none 0 0) ∧ w'.cell? ⟨c, 6, none⟩ = some (.slice none 0 0)) W.drew from ⟨xm 5, (xb _).trans ex0, (xb _).trans ex1, (xb _).trans ex2, (xb _).trans ex3, (xb _).trans ex4, (xb _).trans ex5, (xb _).trans ey0, (xb _).trans ey1, (xb _).trans ey2, (xb _).trans ey3, (xb _).trans ey4, (xb _).trans ey5, xc 0, xc 1, xc 2, xc 3, xc 4, xc 5, xc 6⟩)
 have HPO := qd (show ∀ e w', LayPost K N C nb s false D Fs F (.node 3 ss n lo hi [x, y]) b w e w' → LayPost K N C nb s false D Fs F (.node 3 ss n lo hi [x, y]) b w e w' from fun e w' h => h)
 have HFIN := qd (fun (D2 : Nt) (Fs2 : Nat → Nat → Prop) (F2 : Nat → Prop) (V : World) (q p : Nat) (hR : LayR K N C nb s false D Fs F w D2 Fs2 F2 V q) (hq : q ≤ RT.sz x + RT.sz y) (hl : LayP D2.P s.data.toList D2.R D2.E D2.z false (.node 3 ss n lo hi [x, y]) p b) => hR.post (t := .node 3 ss n lo hi [x, y]) (by omega) hl)
 generalize LayPost K N C nb s false D Fs F (.node 3 ss n lo hi [x, y]) b w = Q at *
 have c0 := h.c0
 have c1 := h.c1
 have hnl := h.hn.2.1
 obtain ⟨⟨x0, x1, x2, x3, x4, x5⟩, _⟩ := Box.start (k := 3) (s := ss) (n := n) (lo := lo) (hi := hi) (ts := [x, y]) (a := some ⟨bk, o, none⟩) (cap := cap) w 26
 simp only [List.length_cons, List.length_nil, Nat.zero_add, Nat.reduceAdd] at x5
 clear xm xc xb ex0 ex1 ex2 ex3 ex4 ex5 ey0 ey1 ey2 ey3 ey4 ey5 hB h env hKw hbl hbk hl hsz hbW hzW hW hm hc hx hy hgx hgy hg hk hkx hky hb hKC
 obtain ⟨kx, sx, nx, lox, hix, tsx⟩ := x
 obtain ⟨ky, sy, ny, loy, hiy, tsy⟩ := y
 unfold reV partV at *
 simp only [RT.kind, RT.set, RT.neg, RT.low, RT.high, RT.kids, List.length_cons, List.length_nil, Nat.zero_add, Nat.reduceAdd] at *
 go_enter Tryz.func44, Tryz.ntmps44
 go_wp2_with fail
 rw [← HZ.out.2.2.2, ← HZ.out.2.1, ← HZ.out.1]
 refine wp_region_held_drew (S := (fun w' : World => w'.cell? ⟨m, 5, none⟩ = some (.slice (some ⟨bk, o, none⟩) 2 cap) ∧ w'.cell? ⟨bk, o, none⟩ = some (.int .i64 kx) ∧ w'.cell? ⟨bk, o + 1, none⟩ = some (.string sx) ∧ w'.cell? ⟨bk, o + 2, none⟩ = some (.bool nx) ∧ w'.cell? ⟨bk, o + 3, none⟩ = some (.int .i64 lox) ∧ w'.cell? ⟨bk, o + 4, none⟩ = some (.int .i64 hix) ∧ w'.cell? ⟨bk, o + 5, none⟩ = some (.slice ax tsx.length cx) ∧ w'.cell? ⟨bk, o + 6, none⟩ = some (.int .i64 ky) ∧ w'.cell? ⟨bk, o + 7, none⟩ = some (.string sy) ∧ w'.cell? ⟨bk, o + 8, none⟩ = some (.bool ny) ∧ w'.cell? ⟨bk, o + 9, none⟩ = some (.int .i64 loy) ∧ w'.cell? ⟨bk, o + 10, none⟩ = some (.int .i64 hiy) ∧ w'.cell? ⟨bk, o + 11, none⟩ = some (.slice ay tsy.length cy) ∧ w'.cell? ⟨c, 0, none⟩ = some (.string s) ∧ w'.cell? ⟨c, 1, none⟩ = some (.bool false) ∧ w'.cell? ⟨c, 2, none⟩ = some (.int .i64 0) ∧ w'.cell? ⟨c, 3, none⟩ = some (.slice none 0 0) ∧ w'.cell? ⟨c, 4, none⟩ = some (.int .i64 0) ∧ w'.cell? ⟨c, 5, none⟩ = some (.slice none 0 0) ∧ w'.cell? ⟨c, 6, none⟩ = some (.slice none 0 0))) (by kernel_rfl) HS0.out (fun hHeld => ?_)
 refine tkA 0 ?_
 try simp only [nmA, Act.put]
 refine tkA 1 ?_
 try simp only [nmA, Act.put]
 refine tkA 2 ?_
 try simp only [nmA, Act.put]
 refine tkA 3 ?_
 try simp only [nmA, Act.put]
 refine tkA 4 ?_
 try simp only [nmA, Act.put]
 refine tkA 5 ?_
 try simp only [nmA, Act.put]
 refine tkA 6 ?_
 try simp only [nmA, Act.put]
 refine tkA 7 ?_
 try simp only [nmA, Act.put]
 refine tkA 8 ?_
 try simp only [nmA, Act.put]
 refine tkA 9 ?_
 try simp only [nmA, Act.put]
 refine tkA 10 ?_
 try simp only [nmA, Act.put]
 refine rdA 11 (fun K hK => ?_)
 go_simp
 refine (HY.out _ D Fs F 0 b hR0.out (Nat.zero_le _) (HG.out.2.1)).mono ?_
 rintro e w2 hp
 obtain ⟨D2, Fs2, F2, p2, rfl, hr, hxx, hll, hff⟩ := hR0.out.lay hp
 have hkk := hff.keep (P := fun q => q = m ∨ q = c ∨ q = bk) (by obtain ⟨_, _, _, _, _, _, _, _, hg, _⟩ := hp; exact hg.size) hQ0.out
 have hZ2 := qd (by obtain ⟨_, _, _, _, _, _, _, _, hg, _⟩ := hp; exact hg.size)
 have hR2 := qd hr
 have hX2 := qd hxx
 have hL2 := qd hll
 have hF2 := qd hff
 have hQ2 := qd hkk.1
 have hE := hkk.2
 clear hp hr hxx hll hff hkk
 unfold partV
 go_wp2_with fail
 refine hK.out _ _ (hcA hE hHeld) (fun hHeld => ?_)
 clear hK K hE
 try simp only [nmA, Act.put]
 refine rdA 12 (fun K hK => ?_)
 go_simp
 refine (HX.out _ D2 Fs2 F2 (0 + RT.sz (.node ky sy ny loy hiy tsy)) p2 hR2.out (by omega) (hL2.out.first)).mono ?_
 rintro e w3 hp
 obtain ⟨D3, Fs3, F3, p3, rfl, hr, hxx, hll, hff⟩ := hR2.out.lay hp
 have hkk := hff.keep (P := fun q => q = m ∨ q = c ∨ q = bk) (by obtain ⟨_, _, _, _, _, _, _, _, hg, _⟩ := hp; exact hg.size) hQ2.out
 have hZ3 := qd (by obtain ⟨_, _, _, _, _, _, _, _, hg, _⟩ := hp; exact hg.size)
 have hR3 := qd hr
 have hX3 := qd hxx
 have hL3 := qd hll
 have hF3 := qd hff
 have hQ3 := qd hkk.1
 have hE := hkk.2
 clear hp hr hxx hll hff hkk
 unfold partV
 go_wp2_with fail
 refine hK.out _ _ (hcA hE hHeld) (fun hHeld => ?_)
 clear hK K hE
 try simp only [nmA, Act.put]
 refine tkA 13 ?_
 try simp only [nmA, Act.put]
 refine wpAnyH_done (by kernel_rfl) ?_ _
 go_wp2_with fail
 try go_ret
 exact HFIN.out D3 Fs3 F3 w3 _ p3 hR3.out (by omega) (.cat ss n lo hi _ _ p3 p2 b hL3.out (hX3.out.lay hL2.out))
set_option maxRecDepth 100000 in
set_option maxHeartbeats 8000000 in
theorem layK3b (K N : Nat) (s : ByteArray) (w0 : World) (env : LayEnv K N s w0) (x y : RT) (hx : layOne K N s true w0 x) (hy : layOne K N s true w0 y) (ss : ByteArray) (n : Bool) (lo hi : Int) : layOne K N s true w0 (.node 3 ss n lo hi [x, y]) := by
 intro hg C nb D Fs F a cap b w hKC h hb hB hk hl
 have hgx := RT.good_kids hg x (by simp [RT.kids])
 have hgy := RT.good_kids hg y (by simp [RT.kids])
 have hKw : K ≤ w.heap.size := by rw [← env.k0]; exact hB.size
 have hsz : RT.sz (.node 3 ss n lo hi [x, y]) = 1 + (RT.sz x + RT.sz y) := by simp [RT.sz, RT.szs]
 replace hk : Kids 0 w0 [x, y] a := hk
 obtain ⟨ax, cx, hex, hkx⟩ := hk.elem 0 (by simp)
 obtain ⟨ay, cy, hey, hky⟩ := hk.elem 1 (by simp)
 simp only [List.getElem_cons_zero, List.getElem_cons_succ] at hex hkx hey hky
 obtain ⟨bk, o, rfl, _, hbl, ex0, ex1, ex2, ex3, ex4, ex5, _, _⟩ := hex
 obtain ⟨bk2, o2, e2, _, _, ey0, ey1, ey2, ey3, ey4, ey5, _, _⟩ := hey
 cases e2
 have hbk : bk < K := by rw [← env.k0]; exact hbl
 obtain ⟨m, hm⟩ : ∃ m, m = w.heap.size := ⟨_, rfl⟩
 obtain ⟨c, hc⟩ : ∃ c, c = w.heap.size + 1 := ⟨_, rfl⟩
 obtain ⟨W, hW⟩ : ∃ W, W = (w.alloc (.cells #[.int .i64 3, .string ss, .bool n, .int .i64 lo, .int .i64 hi, .slice (some ⟨bk, o, none⟩) 2 cap] 26)).alloc (.cells #[.string s, .bool true, .int .i64 0, .slice none 0 0, .int .i64 0, .slice none 0 0, .slice none 0 0] 90) := ⟨_, rfl⟩
 have hbW : Below w.heap.size w W := by rw [hW]; exact below2a w _ _
 have hzW : W.heap.size = w.heap.size + 2 := by rw [hW]; simp
 have xm : ∀ j, W.cell? ⟨m, j, none⟩ = #[Value.int .i64 3, .string ss, .bool n, .int .i64 lo, .int .i64 hi, .slice (some ⟨bk, o, none⟩) 2 cap][j]? := fun j => by
  rw [hW, hm, cob (a := ⟨w.heap.size, j, none⟩) (Below.heap_alloc _ _ _ (by simp))]
  exact World.cell?_alloc_at _ _ _ _ rfl
 have xc : ∀ j, W.cell? ⟨c, j, none⟩ = #[Value.string s, .bool true, .int .i64 0, .slice none 0 0, .int .i64 0, .slice none 0 0, .slice none 0 0][j]? := fun j => by
  rw [hW, hc]; exact World.cell?_alloc_at _ _ _ _ (by simp)
 have xb : ∀ j, W.cell? ⟨bk, j, none⟩ = w0.cell? ⟨bk, j, none⟩ := fun j => (hbW.cell (p := ⟨bk, j, none⟩) (by show bk < _; omega)).trans (hB.cell (p := ⟨bk, j, none⟩) hbk)
 have HX := qd (fun (V : World) (D2 : Nt) (Fs2 : Nat → Nat → Prop) (F2 : Nat → Prop) (q b2 : Nat) (hR : LayR K N C nb s true D Fs F w D2 Fs2 F2 V q) (hq : q ≤ RT.sz y) (hb2 : b2 ∈ D2.P) => hx hgx C nb D2 Fs2 F2 ax cx b2 V hKC hR.n hb2 (hR.base h hKC hKw hB) hkx (by have := hR.x.l; omega))
 have HY := qd (fun (V : World) (D2 : Nt) (Fs2 : Nat → Nat → Prop) (F2 : Nat → Prop) (q b2 : Nat) (hR : LayR K N C nb s true D Fs F w D2 Fs2 F2 V q) (hq : q ≤ RT.sz x) (hb2 : b2 ∈ D2.P) => hy hgy C nb D2 Fs2 F2 ay cy b2 V hKC hR.n hb2 (hR.base h hKC hKw hB) hky (by have := hR.x.l; omega))
 have hR0 := qd ((LayR.start h hKC hbW).below hKC (Below.refl _ W).drew)
 have hQ0 := qd (show ∀ q, (q = m ∨ q = c ∨ q = bk) → q < W.drew.heap.size ∧ ¬ D.ownL Fs F q from fun q hq => by
  have hzd : W.drew.heap.size = W.heap.size := rfl
  rcases hq with rfl | rfl | rfl
  · exact ⟨by omega, fun o => by have := (h.ownlt o).2; omega⟩
  · exact ⟨by omega, fun o => by have := (h.ownlt o).2; omega⟩
  · exact ⟨by omega, fun o => by have := (h.ownlt o).1; omega⟩)
 have HG := qd (And.intro hKC (And.intro hb (And.intro env.n9 (And.intro env.ln (And.intro hl (And.intro hsz h))))))
 have HZ := qd (And.intro hm (And.intro hc (And.intro hzW hW)))
 simp only [Nat.zero_mul, Nat.add_zero, Nat.one_mul, Nat.add_assoc, Nat.reduceAdd] at ex0 ex1 ex2 ex3 ex4 ex5 ey0 ey1 ey2 ey3 ey4 ey5
 have HS0 := qd (show (fun w' : World => w'.cell? ⟨m, 5, none⟩ = some (.slice (some ⟨bk, o, none⟩) 2 cap) ∧ w'.cell? ⟨bk, o, none⟩ = some (.int .i64 x.kind) ∧ w'.cell? ⟨bk, o + 1, none⟩ = some (.string x.set) ∧ w'.cell? ⟨bk, o + 2, none⟩ = some (.bool x.neg) ∧ w'.cell? ⟨bk, o + 3, none⟩ = some (.int .i64 x.low) ∧ w'.cell? ⟨bk, o + 4, none⟩ = some (.int .i64 x.high) ∧ w'.cell? ⟨bk, o + 5, none⟩ = some (.slice ax x.kids.length cx) ∧ w'.cell? ⟨bk, o + 6, none⟩ = some (.int .i64 y.kind) ∧ w'.cell? ⟨bk, o + 7, none⟩ = some (.string y.set) ∧ w'.cell? ⟨bk, o + 8, none⟩ = some (.bool y.neg) ∧ w'.cell? ⟨bk, o + 9, none⟩ = some (.int .i64 y.low) ∧ w'.cell? ⟨bk, o + 10, none⟩ = some (.int .i64 y.high) ∧ w'.cell? ⟨bk, o + 11, none⟩ = some (.slice ay y.kids.length cy) ∧ w'.cell? ⟨c, 0, none⟩ = some (.string s) ∧ w'.cell? ⟨c, 1, none⟩ = some (.bool true) ∧ w'.cell? ⟨c, 2, none⟩ = some (.int .i64 0) ∧ w'.cell? ⟨c, 3, none⟩ = some (.slice none 0 0) ∧ w'.cell? ⟨c, 4, none⟩ = some (.int .i64 0) ∧ w'.cell? ⟨c, 5, none⟩ = some (.slice none 0 0) ∧ w'.cell? ⟨c, 6, none⟩ = some (.slice none 0 0)) W.drew from ⟨xm 5, (xb _).trans ex0, (xb _).trans ex1, (xb _).trans ex2, (xb _).trans ex3, (xb _).trans ex4, (xb _).trans ex5, (xb _).trans ey0, (xb _).trans ey1, (xb _).trans ey2, (xb _).trans ey3, (xb _).trans ey4, (xb _).trans ey5, xc 0, xc 1, xc 2, xc 3, xc 4, xc 5, xc 6⟩)
 have HPO := qd (show ∀ e w', LayPost K N C nb s true D Fs F (.node 3 ss n lo hi [x, y]) b w e w' → LayPost K N C nb s true D Fs F (.node 3 ss n lo hi [x, y]) b w e w' from fun e w' h => h)
 have HFIN := qd (fun (D2 : Nt) (Fs2 : Nat → Nat → Prop) (F2 : Nat → Prop) (V : World) (q p : Nat) (hR : LayR K N C nb s true D Fs F w D2 Fs2 F2 V q) (hq : q ≤ RT.sz x + RT.sz y) (hl : LayP D2.P s.data.toList D2.R D2.E D2.z true (.node 3 ss n lo hi [x, y]) p b) => hR.post (t := .node 3 ss n lo hi [x, y]) (by omega) hl)
 generalize LayPost K N C nb s true D Fs F (.node 3 ss n lo hi [x, y]) b w = Q at *
 have c0 := h.c0
 have c1 := h.c1
 have hnl := h.hn.2.1
 obtain ⟨⟨x0, x1, x2, x3, x4, x5⟩, _⟩ := Box.start (k := 3) (s := ss) (n := n) (lo := lo) (hi := hi) (ts := [x, y]) (a := some ⟨bk, o, none⟩) (cap := cap) w 26
 simp only [List.length_cons, List.length_nil, Nat.zero_add, Nat.reduceAdd] at x5
 clear xm xc xb ex0 ex1 ex2 ex3 ex4 ex5 ey0 ey1 ey2 ey3 ey4 ey5 hB h env hKw hbl hbk hl hsz hbW hzW hW hm hc hx hy hgx hgy hg hk hkx hky hb hKC
 obtain ⟨kx, sx, nx, lox, hix, tsx⟩ := x
 obtain ⟨ky, sy, ny, loy, hiy, tsy⟩ := y
 unfold reV partV at *
 simp only [RT.kind, RT.set, RT.neg, RT.low, RT.high, RT.kids, List.length_cons, List.length_nil, Nat.zero_add, Nat.reduceAdd] at *
 go_enter Tryz.func44, Tryz.ntmps44
 go_wp2_with fail
 rw [← HZ.out.2.2.2, ← HZ.out.2.1, ← HZ.out.1]
 refine wp_region_held_drew (S := (fun w' : World => w'.cell? ⟨m, 5, none⟩ = some (.slice (some ⟨bk, o, none⟩) 2 cap) ∧ w'.cell? ⟨bk, o, none⟩ = some (.int .i64 kx) ∧ w'.cell? ⟨bk, o + 1, none⟩ = some (.string sx) ∧ w'.cell? ⟨bk, o + 2, none⟩ = some (.bool nx) ∧ w'.cell? ⟨bk, o + 3, none⟩ = some (.int .i64 lox) ∧ w'.cell? ⟨bk, o + 4, none⟩ = some (.int .i64 hix) ∧ w'.cell? ⟨bk, o + 5, none⟩ = some (.slice ax tsx.length cx) ∧ w'.cell? ⟨bk, o + 6, none⟩ = some (.int .i64 ky) ∧ w'.cell? ⟨bk, o + 7, none⟩ = some (.string sy) ∧ w'.cell? ⟨bk, o + 8, none⟩ = some (.bool ny) ∧ w'.cell? ⟨bk, o + 9, none⟩ = some (.int .i64 loy) ∧ w'.cell? ⟨bk, o + 10, none⟩ = some (.int .i64 hiy) ∧ w'.cell? ⟨bk, o + 11, none⟩ = some (.slice ay tsy.length cy) ∧ w'.cell? ⟨c, 0, none⟩ = some (.string s) ∧ w'.cell? ⟨c, 1, none⟩ = some (.bool true) ∧ w'.cell? ⟨c, 2, none⟩ = some (.int .i64 0) ∧ w'.cell? ⟨c, 3, none⟩ = some (.slice none 0 0) ∧ w'.cell? ⟨c, 4, none⟩ = some (.int .i64 0) ∧ w'.cell? ⟨c, 5, none⟩ = some (.slice none 0 0) ∧ w'.cell? ⟨c, 6, none⟩ = some (.slice none 0 0))) (by kernel_rfl) HS0.out (fun hHeld => ?_)
 refine tkA 0 ?_
 try simp only [nmA, Act.put]
 refine tkA 1 ?_
 try simp only [nmA, Act.put]
 refine tkA 2 ?_
 try simp only [nmA, Act.put]
 refine tkA 3 ?_
 try simp only [nmA, Act.put]
 refine tkA 4 ?_
 try simp only [nmA, Act.put]
 refine tkA 5 ?_
 try simp only [nmA, Act.put]
 refine tkA 6 ?_
 try simp only [nmA, Act.put]
 refine tkA 7 ?_
 try simp only [nmA, Act.put]
 refine tkA 8 ?_
 try simp only [nmA, Act.put]
 refine tkA 9 ?_
 try simp only [nmA, Act.put]
 refine tkA 10 ?_
 try simp only [nmA, Act.put]
 refine rdA 11 (fun K hK => ?_)
 go_simp
 refine (HX.out _ D Fs F 0 b hR0.out (Nat.zero_le _) (HG.out.2.1)).mono ?_
 rintro e w2 hp
 obtain ⟨D2, Fs2, F2, p2, rfl, hr, hxx, hll, hff⟩ := hR0.out.lay hp
 have hkk := hff.keep (P := fun q => q = m ∨ q = c ∨ q = bk) (by obtain ⟨_, _, _, _, _, _, _, _, hg, _⟩ := hp; exact hg.size) hQ0.out
 have hZ2 := qd (by obtain ⟨_, _, _, _, _, _, _, _, hg, _⟩ := hp; exact hg.size)
 have hR2 := qd hr
 have hX2 := qd hxx
 have hL2 := qd hll
 have hF2 := qd hff
 have hQ2 := qd hkk.1
 have hE := hkk.2
 clear hp hr hxx hll hff hkk
 unfold partV
 go_wp2_with fail
 refine hK.out _ _ (hcA hE hHeld) (fun hHeld => ?_)
 clear hK K hE
 try simp only [nmA, Act.put]
 refine rdA 12 (fun K hK => ?_)
 go_simp
 refine (HY.out _ D2 Fs2 F2 (0 + RT.sz (.node kx sx nx lox hix tsx)) p2 hR2.out (by omega) (hL2.out.first)).mono ?_
 rintro e w3 hp
 obtain ⟨D3, Fs3, F3, p3, rfl, hr, hxx, hll, hff⟩ := hR2.out.lay hp
 have hkk := hff.keep (P := fun q => q = m ∨ q = c ∨ q = bk) (by obtain ⟨_, _, _, _, _, _, _, _, hg, _⟩ := hp; exact hg.size) hQ2.out
 have hZ3 := qd (by obtain ⟨_, _, _, _, _, _, _, _, hg, _⟩ := hp; exact hg.size)
 have hR3 := qd hr
 have hX3 := qd hxx
 have hL3 := qd hll
 have hF3 := qd hff
 have hQ3 := qd hkk.1
 have hE := hkk.2
 clear hp hr hxx hll hff hkk
 unfold partV
 go_wp2_with fail
 refine hK.out _ _ (hcA hE hHeld) (fun hHeld => ?_)
 clear hK K hE
 try simp only [nmA, Act.put]
 refine tkA 13 ?_
 try simp only [nmA, Act.put]
 refine wpAnyH_done (by kernel_rfl) ?_ _
 go_wp2_with fail
 try go_ret
 exact HFIN.out D3 Fs3 F3 w3 _ p3 hR3.out (by omega) (.cat ss n lo hi _ _ p3 p2 b hL3.out (hX3.out.lay hL2.out))
theorem below_drewA (W : World) (o : Obj) : Below W.drew.heap.size W.drew (W.alloc o).drew :=
 have h : Below W.heap.size W (W.alloc o) := (Below.refl _ W).alloc (Nat.le_refl _) o
 ⟨rfl, rfl, rfl, h.size, h.block⟩
set_option maxRecDepth 100000 in
set_option maxHeartbeats 8000000 in
theorem layK4 (K N : Nat) (s : ByteArray) (back : Bool) (w0 : World) (env : LayEnv K N s w0) (x y : RT) (hx : layOne K N s back w0 x) (hy : layOne K N s back w0 y) (ss : ByteArray) (n : Bool) (lo hi : Int) : layOne K N s back w0 (.node 4 ss n lo hi [x, y]) := by
 intro hg C nb D Fs F a cap b w hKC h hb hB hk hl
 have hgx := RT.good_kids hg x (by simp [RT.kids])
 have hgy := RT.good_kids hg y (by simp [RT.kids])
 have hKw : K ≤ w.heap.size := by rw [← env.k0]; exact hB.size
 have hsz : RT.sz (.node 4 ss n lo hi [x, y]) = 1 + (RT.sz x + RT.sz y) := by simp [RT.sz, RT.szs]
 replace hk : Kids 0 w0 [x, y] a := hk
 obtain ⟨ax, cx, hex, hkx⟩ := hk.elem 0 (by simp)
 obtain ⟨ay, cy, hey, hky⟩ := hk.elem 1 (by simp)
 simp only [List.getElem_cons_zero, List.getElem_cons_succ] at hex hkx hey hky
 obtain ⟨bk, o, rfl, _, hbl, ex0, ex1, ex2, ex3, ex4, ex5, _, _⟩ := hex
 obtain ⟨bk2, o2, e2, _, _, ey0, ey1, ey2, ey3, ey4, ey5, _, _⟩ := hey
 cases e2
 have hbk : bk < K := by rw [← env.k0]; exact hbl
 obtain ⟨m, hm⟩ : ∃ m, m = w.heap.size := ⟨_, rfl⟩
 obtain ⟨c, hc⟩ : ∃ c, c = w.heap.size + 1 := ⟨_, rfl⟩
 obtain ⟨W, hW⟩ : ∃ W, W = (w.alloc (.cells #[.int .i64 4, .string ss, .bool n, .int .i64 lo, .int .i64 hi, .slice (some ⟨bk, o, none⟩) 2 cap] 26)).alloc (.cells #[.string s, .bool back, .int .i64 0, .slice none 0 0, .int .i64 0, .slice none 0 0, .slice none 0 0] 90) := ⟨_, rfl⟩
 have hbW : Below w.heap.size w W := by rw [hW]; exact below2a w _ _
 have hzW : W.heap.size = w.heap.size + 2 := by rw [hW]; simp
 have xm : ∀ j, W.cell? ⟨m, j, none⟩ = #[Value.int .i64 4, .string ss, .bool n, .int .i64 lo, .int .i64 hi, .slice (some ⟨bk, o, none⟩) 2 cap][j]? := fun j => by
  rw [hW, hm, cob (a := ⟨w.heap.size, j, none⟩) (Below.heap_alloc _ _ _ (by simp))]
  exact World.cell?_alloc_at _ _ _ _ rfl
 have xc : ∀ j, W.cell? ⟨c, j, none⟩ = #[Value.string s, .bool back, .int .i64 0, .slice none 0 0, .int .i64 0, .slice none 0 0, .slice none 0 0][j]? := fun j => by
  rw [hW, hc]; exact World.cell?_alloc_at _ _ _ _ (by simp)
 have xb : ∀ j, W.cell? ⟨bk, j, none⟩ = w0.cell? ⟨bk, j, none⟩ := fun j => (hbW.cell (p := ⟨bk, j, none⟩) (by show bk < _; omega)).trans (hB.cell (p := ⟨bk, j, none⟩) hbk)
 have HX := qd (fun (V : World) (D2 : Nt) (Fs2 : Nat → Nat → Prop) (F2 : Nat → Prop) (q b2 : Nat) (hR : LayR K N C nb s back D Fs F w D2 Fs2 F2 V q) (hq : q ≤ RT.sz y) (hb2 : b2 ∈ D2.P) => hx hgx C nb D2 Fs2 F2 ax cx b2 V hKC hR.n hb2 (hR.base h hKC hKw hB) hkx (by have := hR.x.l; omega))
 have HY := qd (fun (V : World) (D2 : Nt) (Fs2 : Nat → Nat → Prop) (F2 : Nat → Prop) (q b2 : Nat) (hR : LayR K N C nb s back D Fs F w D2 Fs2 F2 V q) (hq : q ≤ RT.sz x) (hb2 : b2 ∈ D2.P) => hy hgy C nb D2 Fs2 F2 ay cy b2 V hKC hR.n hb2 (hR.base h hKC hKw hB) hky (by have := hR.x.l; omega))
 have hR0 := qd ((LayR.start h hKC hbW).below hKC (Below.refl _ W).drew)
 have hQ0 := qd (show ∀ q, (q = m ∨ q = c ∨ q = bk) → q < W.drew.heap.size ∧ ¬ D.ownL Fs F q from fun q hq => by
  have hzd : W.drew.heap.size = W.heap.size := rfl
  rcases hq with rfl | rfl | rfl
  · exact ⟨by omega, fun o => by have := (h.ownlt o).2; omega⟩
  · exact ⟨by omega, fun o => by have := (h.ownlt o).2; omega⟩
  · exact ⟨by omega, fun o => by have := (h.ownlt o).1; omega⟩)
 have HG := qd (And.intro hKC (And.intro hb (And.intro env.n9 (And.intro env.ln (And.intro hl (And.intro hsz h))))))
 have HZ := qd (And.intro hm (And.intro hc (And.intro hzW hW)))
 simp only [Nat.zero_mul, Nat.add_zero, Nat.one_mul, Nat.add_assoc, Nat.reduceAdd] at ex0 ex1 ex2 ex3 ex4 ex5 ey0 ey1 ey2 ey3 ey4 ey5
 have HS0 := qd (show (fun w' : World => w'.cell? ⟨m, 5, none⟩ = some (.slice (some ⟨bk, o, none⟩) 2 cap) ∧ w'.cell? ⟨bk, o, none⟩ = some (.int .i64 x.kind) ∧ w'.cell? ⟨bk, o + 1, none⟩ = some (.string x.set) ∧ w'.cell? ⟨bk, o + 2, none⟩ = some (.bool x.neg) ∧ w'.cell? ⟨bk, o + 3, none⟩ = some (.int .i64 x.low) ∧ w'.cell? ⟨bk, o + 4, none⟩ = some (.int .i64 x.high) ∧ w'.cell? ⟨bk, o + 5, none⟩ = some (.slice ax x.kids.length cx) ∧ w'.cell? ⟨bk, o + 6, none⟩ = some (.int .i64 y.kind) ∧ w'.cell? ⟨bk, o + 7, none⟩ = some (.string y.set) ∧ w'.cell? ⟨bk, o + 8, none⟩ = some (.bool y.neg) ∧ w'.cell? ⟨bk, o + 9, none⟩ = some (.int .i64 y.low) ∧ w'.cell? ⟨bk, o + 10, none⟩ = some (.int .i64 y.high) ∧ w'.cell? ⟨bk, o + 11, none⟩ = some (.slice ay y.kids.length cy) ∧ w'.cell? ⟨c, 0, none⟩ = some (.string s) ∧ w'.cell? ⟨c, 1, none⟩ = some (.bool back) ∧ w'.cell? ⟨c, 2, none⟩ = some (.int .i64 0) ∧ w'.cell? ⟨c, 3, none⟩ = some (.slice none 0 0) ∧ w'.cell? ⟨c, 4, none⟩ = some (.int .i64 0) ∧ w'.cell? ⟨c, 5, none⟩ = some (.slice none 0 0) ∧ w'.cell? ⟨c, 6, none⟩ = some (.slice none 0 0)) W.drew from ⟨xm 5, (xb _).trans ex0, (xb _).trans ex1, (xb _).trans ex2, (xb _).trans ex3, (xb _).trans ex4, (xb _).trans ex5, (xb _).trans ey0, (xb _).trans ey1, (xb _).trans ey2, (xb _).trans ey3, (xb _).trans ey4, (xb _).trans ey5, xc 0, xc 1, xc 2, xc 3, xc 4, xc 5, xc 6⟩)
 have HPO := qd (show ∀ e w', LayPost K N C nb s back D Fs F (.node 4 ss n lo hi [x, y]) b w e w' → LayPost K N C nb s back D Fs F (.node 4 ss n lo hi [x, y]) b w e w' from fun e w' h => h)
 have HXb := qd (fun (V : World) (D2 : Nt) (Fs2 : Nat → Nat → Prop) (F2 : Nat → Prop) (q : Nat) (hR : LayR K N C nb s back D Fs F w D2 Fs2 F2 V q) (hq : q ≤ RT.sz y) => (show Calls Tryz.prog 44 #[.pointer (some ⟨nb, 0, none⟩), reV x ax cx, partV (D.T b) b] V (LayPost K N C nb s back D2 Fs2 F2 x b V) from by
  have h := HX.out V D2 Fs2 F2 q b hR hq (hR.x.P b hb)
  rw [hR.x.T b hb] at h
  exact h))
 have HYb := qd (fun (V : World) (D2 : Nt) (Fs2 : Nat → Nat → Prop) (F2 : Nat → Prop) (q : Nat) (hR : LayR K N C nb s back D Fs F w D2 Fs2 F2 V q) (hq : q ≤ RT.sz x) => (show Calls Tryz.prog 44 #[.pointer (some ⟨nb, 0, none⟩), reV y ay cy, partV (D.T b) b] V (LayPost K N C nb s back D2 Fs2 F2 y b V) from by
  have h := HY.out V D2 Fs2 F2 q b hR hq (hR.x.P b hb)
  rw [hR.x.T b hb] at h
  exact h))
 clear HX HY
 have HALT := qd (fun (D2 : Nt) (Fs2 : Nat → Nat → Prop) (F2 : Nat → Prop) (V : World) (q p1 p2 p pr : Nat) (hR : LayR K N C nb s back D Fs F w D2 Fs2 F2 V q) (hq : q ≤ RT.sz x + RT.sz y) (hl1 : LayP D2.P s.data.toList D2.R D2.E D2.z back x p1 b) (hl2 : LayP D2.P s.data.toList D2.R D2.E D2.z back y p2 b) (hp : OwnB C D2 Fs2 F2 V p) (hr : OwnB C D2 Fs2 F2 V pr) (hne : pr ≠ p) (hpw : w.heap.size ≤ p) (hrw : w.heap.size ≤ pr) (bp : BoxIs V p #[.string s, .bool back, .int .i64 0, .slice none 0 0, .int .i64 0, .slice none 0 0, .slice none 0 0, .int .i64 0]) (br : BoxIs V pr #[partV (D2.T p1) p1, partV (D2.T p2) p2]) =>
  (altCall (ss := ss) (n := n) (lo := lo) (hi := hi) h hR hKC env.n9 (by have := env.ln; omega) (by omega) (by have := hR.x.l; omega) hl1 hl2 hp hr hne hpw hrw bp br).mono (fun e w' hh => (show (∃ v, e = .returned v) ∧ LayPost K N C nb s back D Fs F (.node 4 ss n lo hi [x, y]) b w e w' ∧ ∀ q, q < V.heap.size → ¬ F2 q → q ≠ p → w'.heap[q]? = V.heap[q]? from by
    obtain ⟨D', _, _, p', he, _⟩ := hh.1
    exact ⟨⟨_, he⟩, hh.1, hh.2⟩)))
 generalize LayPost K N C nb s back D Fs F (.node 4 ss n lo hi [x, y]) b w = Q at *
 have c0 := h.c0
 have c1 := h.c1
 have hnl := h.hn.2.1
 obtain ⟨⟨x0, x1, x2, x3, x4, x5⟩, _⟩ := Box.start (k := 4) (s := ss) (n := n) (lo := lo) (hi := hi) (ts := [x, y]) (a := some ⟨bk, o, none⟩) (cap := cap) w 26
 simp only [List.length_cons, List.length_nil, Nat.zero_add, Nat.reduceAdd] at x5
 clear xm xc xb ex0 ex1 ex2 ex3 ex4 ex5 ey0 ey1 ey2 ey3 ey4 ey5 hB h env hKw hbl hbk hl hsz hbW hzW hW hm hc hx hy hgx hgy hg hk hkx hky hb hKC
 obtain ⟨kx, sx, nx, lox, hix, tsx⟩ := x
 obtain ⟨ky, sy, ny, loy, hiy, tsy⟩ := y
 unfold reV partV at *
 simp only [RT.kind, RT.set, RT.neg, RT.low, RT.high, RT.kids, List.length_cons, List.length_nil, Nat.zero_add, Nat.reduceAdd] at *
 go_enter Tryz.func44, Tryz.ntmps44
 go_wp2_with fail
 rw [← HZ.out.2.2.2, ← HZ.out.2.1, ← HZ.out.1]
 refine wp_region_held_drew (S := (fun w' : World => w'.cell? ⟨m, 5, none⟩ = some (.slice (some ⟨bk, o, none⟩) 2 cap) ∧ w'.cell? ⟨bk, o, none⟩ = some (.int .i64 kx) ∧ w'.cell? ⟨bk, o + 1, none⟩ = some (.string sx) ∧ w'.cell? ⟨bk, o + 2, none⟩ = some (.bool nx) ∧ w'.cell? ⟨bk, o + 3, none⟩ = some (.int .i64 lox) ∧ w'.cell? ⟨bk, o + 4, none⟩ = some (.int .i64 hix) ∧ w'.cell? ⟨bk, o + 5, none⟩ = some (.slice ax tsx.length cx) ∧ w'.cell? ⟨bk, o + 6, none⟩ = some (.int .i64 ky) ∧ w'.cell? ⟨bk, o + 7, none⟩ = some (.string sy) ∧ w'.cell? ⟨bk, o + 8, none⟩ = some (.bool ny) ∧ w'.cell? ⟨bk, o + 9, none⟩ = some (.int .i64 loy) ∧ w'.cell? ⟨bk, o + 10, none⟩ = some (.int .i64 hiy) ∧ w'.cell? ⟨bk, o + 11, none⟩ = some (.slice ay tsy.length cy) ∧ w'.cell? ⟨c, 0, none⟩ = some (.string s) ∧ w'.cell? ⟨c, 1, none⟩ = some (.bool back) ∧ w'.cell? ⟨c, 2, none⟩ = some (.int .i64 0) ∧ w'.cell? ⟨c, 3, none⟩ = some (.slice none 0 0) ∧ w'.cell? ⟨c, 4, none⟩ = some (.int .i64 0) ∧ w'.cell? ⟨c, 5, none⟩ = some (.slice none 0 0) ∧ w'.cell? ⟨c, 6, none⟩ = some (.slice none 0 0))) (by kernel_rfl) HS0.out (fun hHeld => ?_)
 refine tkA 0 ?_
 try simp only [nmA, Act.put]
 refine tkA 1 ?_
 try simp only [nmA, Act.put]
 refine tkA 2 ?_
 try simp only [nmA, Act.put]
 refine tkA 5 ?_
 try simp only [nmA, Act.put]
 refine tkA 6 ?_
 try simp only [nmA, Act.put]
 refine tkA 7 ?_
 try simp only [nmA, Act.put]
 refine tkA 8 ?_
 try simp only [nmA, Act.put]
 refine tkA 9 ?_
 try simp only [nmA, Act.put]
 refine tkA 10 ?_
 try simp only [nmA, Act.put]
 refine tkA 12 ?_
 try simp only [nmA, Act.put]
 refine tkA 13 ?_
 try simp only [nmA, Act.put]
 refine tkA 14 ?_
 try simp only [nmA, Act.put]
 refine tkA 15 ?_
 try simp only [nmA, Act.put]
 refine tkA 16 ?_
 try simp only [nmA, Act.put]
 refine tkA 17 ?_
 try simp only [nmA, Act.put]
 refine wpAnyH_ready (rs := [3, 11]) (by kernel_rfl) (by simp) ?_
 refine AllReadyH.cons rfl (fun K hK => ?_) (AllReadyH.cons rfl (fun K hK => ?_) AllReadyH.nil)
 · go_simp
   obtain ⟨v1, hv⟩ : ∃ v : World, v = (W.alloc (.cells #[.string s, .bool back, .int .i64 0, .slice none 0 0, .int .i64 0, .slice none 0 0, .slice none 0 0, .int .i64 0] 92)).drew := ⟨_, rfl⟩
   rw [← hv]
   have hbv : Below W.drew.heap.size W.drew v1 := by rw [hv]; exact below_drewA _ _
   have hzv : v1.heap.size = W.drew.heap.size + 1 := by rw [hv]; simp
   have HBX := qd (show BoxIs v1 W.heap.size #[.string s, .bool back, .int .i64 0, .slice none 0 0, .int .i64 0, .slice none 0 0, .slice none 0 0, .int .i64 0] ∧ w.heap.size ≤ W.heap.size ∧ (∀ q, (q = m ∨ q = c ∨ q = bk) → q ≠ W.heap.size) ∧ OwnB C D Fs F v1 W.heap.size from ⟨by rw [hv]; exact (BoxIs.made W #[.string s, .bool back, .int .i64 0, .slice none 0 0, .int .i64 0, .slice none 0 0, .slice none 0 0, .int .i64 0] _).keep rfl, hR0.out.g.size, fun q hq => by have := (hQ0.out q hq).1; have hzd : W.drew.heap.size = W.heap.size := rfl; omega, OwnB.made hR0.out.n (Nat.le_refl _) (by have hzd : W.drew.heap.size = W.heap.size := rfl; omega)⟩)
   have hRv1 := qd (hR0.out.below HG.out.1 hbv)
   have hQv1 := qd (show ∀ q, (q = m ∨ q = c ∨ q = bk) → q < v1.heap.size ∧ ¬ D.ownL Fs F q from fun q hq => ⟨by have := (hQ0.out q hq).1; omega, (hQ0.out q hq).2⟩)
   have hE : ∀ q, (q = m ∨ q = c ∨ q = bk) → v1.heap[q]? = W.drew.heap[q]? := fun q hq => hbv.block q (hQ0.out q hq).1
   refine hK.out _ _ (hcA hE hHeld) (fun hHeld => ?_)
   clear hK K hE hv hbv hzv
   try simp only [nmA, Act.put]
   refine tkA 4 ?_
   try simp only [nmA, Act.put]
   refine rdA 11 (fun K hK => ?_)
   go_simp
   refine (HXb.out _ D Fs F 0 hRv1.out (Nat.zero_le _)).mono ?_
   rintro e w2 hp
   obtain ⟨D2, Fs2, F2, p2, rfl, hr, hxx, hll, hff⟩ := hRv1.out.lay hp
   have hzz : _ ≤ w2.heap.size := (by obtain ⟨_, _, _, _, _, _, _, _, hg, _⟩ := hp; exact hg.size)
   have hkk := hff.keep (P := fun q => q = m ∨ q = c ∨ q = bk) hzz hQv1.out
   have hbp := hff W.heap.size HBX.out.2.2.2.lt HBX.out.2.2.2.no
   have HBY := qd (show BoxIs w2 W.heap.size #[.string s, .bool back, .int .i64 0, .slice none 0 0, .int .i64 0, .slice none 0 0, .slice none 0 0, .int .i64 0] ∧ w.heap.size ≤ W.heap.size ∧ (∀ q, (q = m ∨ q = c ∨ q = bk) → q ≠ W.heap.size) ∧ OwnB C D2 Fs2 F2 w2 W.heap.size from ⟨HBX.out.1.keep hbp.2, HBX.out.2.1, HBX.out.2.2.1, HBX.out.2.2.2.lay hff hzz⟩)
   clear HBX hbp
   have HBX := HBY
   clear HBY
   have hR2 := qd hr
   have hX2 := qd hxx
   have hL2 := qd hll
   have hQ2 := qd hkk.1
   have hE := hkk.2
   clear hp hr hxx hll hff hkk hzz
   unfold partV
   go_wp2_with fail
   refine hK.out _ _ (hcA hE hHeld) (fun hHeld => ?_)
   clear hK K hE
   try simp only [nmA, Act.put]
   refine rdA 18 (fun K hK => ?_)
   go_simp
   refine (HYb.out _ D2 Fs2 F2 (0 + RT.sz (.node kx sx nx lox hix tsx)) hR2.out (by omega)).mono ?_
   rintro e w3 hp
   obtain ⟨D3, Fs3, F3, p3, rfl, hr, hxx, hll, hff⟩ := hR2.out.lay hp
   have hzz : _ ≤ w3.heap.size := (by obtain ⟨_, _, _, _, _, _, _, _, hg, _⟩ := hp; exact hg.size)
   have hkk := hff.keep (P := fun q => q = m ∨ q = c ∨ q = bk) hzz hQ2.out
   have hbp := hff W.heap.size HBX.out.2.2.2.lt HBX.out.2.2.2.no
   have HBY := qd (show BoxIs w3 W.heap.size #[.string s, .bool back, .int .i64 0, .slice none 0 0, .int .i64 0, .slice none 0 0, .slice none 0 0, .int .i64 0] ∧ w.heap.size ≤ W.heap.size ∧ (∀ q, (q = m ∨ q = c ∨ q = bk) → q ≠ W.heap.size) ∧ OwnB C D3 Fs3 F3 w3 W.heap.size from ⟨HBX.out.1.keep hbp.2, HBX.out.2.1, HBX.out.2.2.1, HBX.out.2.2.2.lay hff hzz⟩)
   clear HBX hbp
   have HBX := HBY
   clear HBY
   have hR3 := qd hr
   have hX3 := qd hxx
   have hL3 := qd hll
   have hQ3 := qd hkk.1
   have hE := hkk.2
   clear hp hr hxx hll hff hkk hzz
   unfold partV
   go_wp2_with fail
   refine hK.out _ _ (hcA hE hHeld) (fun hHeld => ?_)
   clear hK K hE
   try simp only [nmA, Act.put]
   refine rdA 19 (fun K hK => ?_)
   go_simp
   obtain ⟨v4, hv⟩ : ∃ v : World, v = w3.alloc (.cells #[.iface (D2.T p2) (.pointer (some ⟨p2, 0, none⟩)), .iface (D3.T p3) (.pointer (some ⟨p3, 0, none⟩))] 94) := ⟨_, rfl⟩
   rw [← hv]
   have hbv : Below w3.heap.size w3 v4 := by rw [hv]; exact (Below.refl _ _).alloc (Nat.le_refl _) _
   have hzv : v4.heap.size = w3.heap.size + 1 := by rw [hv]; simp
   have HRW := qd (show BoxIs v4 w3.heap.size #[.iface (D3.T p2) (.pointer (some ⟨p2, 0, none⟩)), .iface (D3.T p3) (.pointer (some ⟨p3, 0, none⟩))] ∧ w.heap.size ≤ w3.heap.size ∧ OwnB C D3 Fs3 F3 v4 w3.heap.size from ⟨by rw [hX3.out.T p2 hL2.out.first, hv]; exact BoxIs.made w3 _ _, hR3.out.g.size, OwnB.made hR3.out.n (Nat.le_refl _) (by omega)⟩)
   have hRv4 := qd (hR3.out.below HG.out.1 hbv)
   have hQv4 := qd (show ∀ q, (q = m ∨ q = c ∨ q = bk) → q < v4.heap.size ∧ ¬ D3.ownL Fs3 F3 q from fun q hq => ⟨by have := (hQ3.out q hq).1; omega, (hQ3.out q hq).2⟩)
   have hE : ∀ q, (q = m ∨ q = c ∨ q = bk) → v4.heap[q]? = w3.heap[q]? := fun q hq => hbv.block q (hQ3.out q hq).1
   have hbp := hbv.block W.heap.size HBX.out.2.2.2.lt
   have HBY := qd (show BoxIs v4 W.heap.size #[.string s, .bool back, .int .i64 0, .slice none 0 0, .int .i64 0, .slice none 0 0, .slice none 0 0, .int .i64 0] ∧ w.heap.size ≤ W.heap.size ∧ (∀ q, (q = m ∨ q = c ∨ q = bk) → q ≠ W.heap.size) ∧ OwnB C D3 Fs3 F3 v4 W.heap.size from ⟨HBX.out.1.keep hbp, HBX.out.2.1, HBX.out.2.2.1, HBX.out.2.2.2.below (by omega)⟩)
   have HNE := qd (show w3.heap.size ≠ W.heap.size from fun e => by have := HBX.out.2.2.2.lt; omega)
   clear HBX hbp
   have HBX := HBY
   clear HBY
   refine hK.out _ _ (hcA hE hHeld) (fun hHeld => ?_)
   clear hK K hE hv hbv hzv
   try simp only [nmA, Act.put]
   refine rdA 20 (fun K hK => ?_)
   go_simp
   refine (HALT.out D3 Fs3 F3 v4 ((0 + RT.sz (.node kx sx nx lox hix tsx)) + RT.sz (.node ky sy ny loy hiy tsy)) p2 p3 W.heap.size w3.heap.size hRv4.out (by omega) (hX3.out.lay hL2.out) hL3.out HBX.out.2.2.2 HRW.out.2.2 HNE.out HBX.out.2.1 HRW.out.2.1 HBX.out.1 HRW.out.1).mono ?_
   rintro e w9 ⟨⟨v9, rfl⟩, hq9, hE9⟩
   have HQ9 := qd hq9
   have hE : ∀ q, (q = m ∨ q = c ∨ q = bk) → w9.heap[q]? = v4.heap[q]? := fun q hq => hE9 q (hQv4.out q hq).1 (fun f => (hQv4.out q hq).2 (.inl f)) (HBX.out.2.2.1 q hq)
   clear hq9 hE9
   go_wp2_with fail
   refine hK.out _ _ (hcA hE hHeld) (fun hHeld => ?_)
   clear hK K hE
   try simp only [nmA, Act.put]
   refine tkA 21 ?_
   try simp only [nmA, Act.put]
   refine wpAnyH_done (by kernel_rfl) ?_ _
   go_wp2_with fail
   try go_ret
   exact HQ9.out
 · go_simp
   refine (HXb.out _ D Fs F 0 hR0.out (Nat.zero_le _)).mono ?_
   rintro e w2 hp
   obtain ⟨D2, Fs2, F2, p2, rfl, hr, hxx, hll, hff⟩ := hR0.out.lay hp
   have hzz : _ ≤ w2.heap.size := (by obtain ⟨_, _, _, _, _, _, _, _, hg, _⟩ := hp; exact hg.size)
   have hkk := hff.keep (P := fun q => q = m ∨ q = c ∨ q = bk) hzz hQ0.out
   have hR2 := qd hr
   have hX2 := qd hxx
   have hL2 := qd hll
   have hQ2 := qd hkk.1
   have hE := hkk.2
   clear hp hr hxx hll hff hkk hzz
   unfold partV
   go_wp2_with fail
   refine hK.out _ _ (hcA hE hHeld) (fun hHeld => ?_)
   clear hK K hE
   try simp only [nmA, Act.put]
   refine wpAnyH_ready (rs := [3, 18]) (by kernel_rfl) (by simp) ?_
   refine AllReadyH.cons rfl (fun K hK => ?_) (AllReadyH.cons rfl (fun K hK => ?_) AllReadyH.nil)
   · go_simp
     obtain ⟨v1, hv⟩ : ∃ v : World, v = w2.alloc (.cells #[.string s, .bool back, .int .i64 0, .slice none 0 0, .int .i64 0, .slice none 0 0, .slice none 0 0, .int .i64 0] 92) := ⟨_, rfl⟩
     rw [← hv]
     have hbv : Below w2.heap.size w2 v1 := by rw [hv]; exact (Below.refl _ _).alloc (Nat.le_refl _) _
     have hzv : v1.heap.size = w2.heap.size + 1 := by rw [hv]; simp
     have HBX := qd (show BoxIs v1 w2.heap.size #[.string s, .bool back, .int .i64 0, .slice none 0 0, .int .i64 0, .slice none 0 0, .slice none 0 0, .int .i64 0] ∧ w.heap.size ≤ w2.heap.size ∧ (∀ q, (q = m ∨ q = c ∨ q = bk) → q ≠ w2.heap.size) ∧ OwnB C D2 Fs2 F2 v1 w2.heap.size from ⟨by rw [hv]; exact (BoxIs.made w2 #[.string s, .bool back, .int .i64 0, .slice none 0 0, .int .i64 0, .slice none 0 0, .slice none 0 0, .int .i64 0] _).keep rfl, hR2.out.g.size, fun q hq => by have := (hQ2.out q hq).1; have hzd : w2.heap.size = w2.heap.size := rfl; omega, OwnB.made hR2.out.n (Nat.le_refl _) (by have hzd : w2.heap.size = w2.heap.size := rfl; omega)⟩)
     have hRv1 := qd (hR2.out.below HG.out.1 hbv)
     have hQv1 := qd (show ∀ q, (q = m ∨ q = c ∨ q = bk) → q < v1.heap.size ∧ ¬ D2.ownL Fs2 F2 q from fun q hq => ⟨by have := (hQ2.out q hq).1; omega, (hQ2.out q hq).2⟩)
     have hE : ∀ q, (q = m ∨ q = c ∨ q = bk) → v1.heap[q]? = w2.heap[q]? := fun q hq => hbv.block q (hQ2.out q hq).1
     refine hK.out _ _ (hcA hE hHeld) (fun hHeld => ?_)
     clear hK K hE hv hbv hzv
     try simp only [nmA, Act.put]
     refine tkA 4 ?_
     try simp only [nmA, Act.put]
     refine rdA 18 (fun K hK => ?_)
     go_simp
     refine (HYb.out _ D2 Fs2 F2 (0 + RT.sz (.node kx sx nx lox hix tsx)) hRv1.out (by omega)).mono ?_
     rintro e w3 hp
     obtain ⟨D3, Fs3, F3, p3, rfl, hr, hxx, hll, hff⟩ := hRv1.out.lay hp
     have hzz : _ ≤ w3.heap.size := (by obtain ⟨_, _, _, _, _, _, _, _, hg, _⟩ := hp; exact hg.size)
     have hkk := hff.keep (P := fun q => q = m ∨ q = c ∨ q = bk) hzz hQv1.out
     have hbp := hff w2.heap.size HBX.out.2.2.2.lt HBX.out.2.2.2.no
     have HBY := qd (show BoxIs w3 w2.heap.size #[.string s, .bool back, .int .i64 0, .slice none 0 0, .int .i64 0, .slice none 0 0, .slice none 0 0, .int .i64 0] ∧ w.heap.size ≤ w2.heap.size ∧ (∀ q, (q = m ∨ q = c ∨ q = bk) → q ≠ w2.heap.size) ∧ OwnB C D3 Fs3 F3 w3 w2.heap.size from ⟨HBX.out.1.keep hbp.2, HBX.out.2.1, HBX.out.2.2.1, HBX.out.2.2.2.lay hff hzz⟩)
     clear HBX hbp
     have HBX := HBY
     clear HBY
     have hR3 := qd hr
     have hX3 := qd hxx
     have hL3 := qd hll
     have hQ3 := qd hkk.1
     have hE := hkk.2
     clear hp hr hxx hll hff hkk hzz
     unfold partV
     go_wp2_with fail
     refine hK.out _ _ (hcA hE hHeld) (fun hHeld => ?_)
     clear hK K hE
     try simp only [nmA, Act.put]
     refine rdA 19 (fun K hK => ?_)
     go_simp
     obtain ⟨v4, hv⟩ : ∃ v : World, v = w3.alloc (.cells #[.iface (D2.T p2) (.pointer (some ⟨p2, 0, none⟩)), .iface (D3.T p3) (.pointer (some ⟨p3, 0, none⟩))] 94) := ⟨_, rfl⟩
     rw [← hv]
     have hbv : Below w3.heap.size w3 v4 := by rw [hv]; exact (Below.refl _ _).alloc (Nat.le_refl _) _
     have hzv : v4.heap.size = w3.heap.size + 1 := by rw [hv]; simp
     have HRW := qd (show BoxIs v4 w3.heap.size #[.iface (D3.T p2) (.pointer (some ⟨p2, 0, none⟩)), .iface (D3.T p3) (.pointer (some ⟨p3, 0, none⟩))] ∧ w.heap.size ≤ w3.heap.size ∧ OwnB C D3 Fs3 F3 v4 w3.heap.size from ⟨by rw [hX3.out.T p2 hL2.out.first, hv]; exact BoxIs.made w3 _ _, hR3.out.g.size, OwnB.made hR3.out.n (Nat.le_refl _) (by omega)⟩)
     have hRv4 := qd (hR3.out.below HG.out.1 hbv)
     have hQv4 := qd (show ∀ q, (q = m ∨ q = c ∨ q = bk) → q < v4.heap.size ∧ ¬ D3.ownL Fs3 F3 q from fun q hq => ⟨by have := (hQ3.out q hq).1; omega, (hQ3.out q hq).2⟩)
     have hE : ∀ q, (q = m ∨ q = c ∨ q = bk) → v4.heap[q]? = w3.heap[q]? := fun q hq => hbv.block q (hQ3.out q hq).1
     have hbp := hbv.block w2.heap.size HBX.out.2.2.2.lt
     have HBY := qd (show BoxIs v4 w2.heap.size #[.string s, .bool back, .int .i64 0, .slice none 0 0, .int .i64 0, .slice none 0 0, .slice none 0 0, .int .i64 0] ∧ w.heap.size ≤ w2.heap.size ∧ (∀ q, (q = m ∨ q = c ∨ q = bk) → q ≠ w2.heap.size) ∧ OwnB C D3 Fs3 F3 v4 w2.heap.size from ⟨HBX.out.1.keep hbp, HBX.out.2.1, HBX.out.2.2.1, HBX.out.2.2.2.below (by omega)⟩)
     have HNE := qd (show w3.heap.size ≠ w2.heap.size from fun e => by have := HBX.out.2.2.2.lt; omega)
     clear HBX hbp
     have HBX := HBY
     clear HBY
     refine hK.out _ _ (hcA hE hHeld) (fun hHeld => ?_)
     clear hK K hE hv hbv hzv
     try simp only [nmA, Act.put]
     refine rdA 20 (fun K hK => ?_)
     go_simp
     refine (HALT.out D3 Fs3 F3 v4 ((0 + RT.sz (.node kx sx nx lox hix tsx)) + RT.sz (.node ky sy ny loy hiy tsy)) p2 p3 w2.heap.size w3.heap.size hRv4.out (by omega) (hX3.out.lay hL2.out) hL3.out HBX.out.2.2.2 HRW.out.2.2 HNE.out HBX.out.2.1 HRW.out.2.1 HBX.out.1 HRW.out.1).mono ?_
     rintro e w9 ⟨⟨v9, rfl⟩, hq9, hE9⟩
     have HQ9 := qd hq9
     have hE : ∀ q, (q = m ∨ q = c ∨ q = bk) → w9.heap[q]? = v4.heap[q]? := fun q hq => hE9 q (hQv4.out q hq).1 (fun f => (hQv4.out q hq).2 (.inl f)) (HBX.out.2.2.1 q hq)
     clear hq9 hE9
     go_wp2_with fail
     refine hK.out _ _ (hcA hE hHeld) (fun hHeld => ?_)
     clear hK K hE
     try simp only [nmA, Act.put]
     refine tkA 21 ?_
     try simp only [nmA, Act.put]
     refine wpAnyH_done (by kernel_rfl) ?_ _
     go_wp2_with fail
     try go_ret
     exact HQ9.out
   · go_simp
     refine (HYb.out _ D2 Fs2 F2 (0 + RT.sz (.node kx sx nx lox hix tsx)) hR2.out (by omega)).mono ?_
     rintro e w3 hp
     obtain ⟨D3, Fs3, F3, p3, rfl, hr, hxx, hll, hff⟩ := hR2.out.lay hp
     have hzz : _ ≤ w3.heap.size := (by obtain ⟨_, _, _, _, _, _, _, _, hg, _⟩ := hp; exact hg.size)
     have hkk := hff.keep (P := fun q => q = m ∨ q = c ∨ q = bk) hzz hQ2.out
     have hR3 := qd hr
     have hX3 := qd hxx
     have hL3 := qd hll
     have hQ3 := qd hkk.1
     have hE := hkk.2
     clear hp hr hxx hll hff hkk hzz
     unfold partV
     go_wp2_with fail
     refine hK.out _ _ (hcA hE hHeld) (fun hHeld => ?_)
     clear hK K hE
     try simp only [nmA, Act.put]
     refine wpAnyH_ready (rs := [3, 19]) (by kernel_rfl) (by simp) ?_
     refine AllReadyH.cons rfl (fun K hK => ?_) (AllReadyH.cons rfl (fun K hK => ?_) AllReadyH.nil)
     · go_simp
       obtain ⟨v1, hv⟩ : ∃ v : World, v = w3.alloc (.cells #[.string s, .bool back, .int .i64 0, .slice none 0 0, .int .i64 0, .slice none 0 0, .slice none 0 0, .int .i64 0] 92) := ⟨_, rfl⟩
       rw [← hv]
       have hbv : Below w3.heap.size w3 v1 := by rw [hv]; exact (Below.refl _ _).alloc (Nat.le_refl _) _
       have hzv : v1.heap.size = w3.heap.size + 1 := by rw [hv]; simp
       have HBX := qd (show BoxIs v1 w3.heap.size #[.string s, .bool back, .int .i64 0, .slice none 0 0, .int .i64 0, .slice none 0 0, .slice none 0 0, .int .i64 0] ∧ w.heap.size ≤ w3.heap.size ∧ (∀ q, (q = m ∨ q = c ∨ q = bk) → q ≠ w3.heap.size) ∧ OwnB C D3 Fs3 F3 v1 w3.heap.size from ⟨by rw [hv]; exact (BoxIs.made w3 #[.string s, .bool back, .int .i64 0, .slice none 0 0, .int .i64 0, .slice none 0 0, .slice none 0 0, .int .i64 0] _).keep rfl, hR3.out.g.size, fun q hq => by have := (hQ3.out q hq).1; have hzd : w3.heap.size = w3.heap.size := rfl; omega, OwnB.made hR3.out.n (Nat.le_refl _) (by have hzd : w3.heap.size = w3.heap.size := rfl; omega)⟩)
       have hRv1 := qd (hR3.out.below HG.out.1 hbv)
       have hQv1 := qd (show ∀ q, (q = m ∨ q = c ∨ q = bk) → q < v1.heap.size ∧ ¬ D3.ownL Fs3 F3 q from fun q hq => ⟨by have := (hQ3.out q hq).1; omega, (hQ3.out q hq).2⟩)
       have hE : ∀ q, (q = m ∨ q = c ∨ q = bk) → v1.heap[q]? = w3.heap[q]? := fun q hq => hbv.block q (hQ3.out q hq).1
       refine hK.out _ _ (hcA hE hHeld) (fun hHeld => ?_)
       clear hK K hE hv hbv hzv
       try simp only [nmA, Act.put]
       refine tkA 4 ?_
       try simp only [nmA, Act.put]
       refine rdA 19 (fun K hK => ?_)
       go_simp
       obtain ⟨v4, hv⟩ : ∃ v : World, v = v1.alloc (.cells #[.iface (D2.T p2) (.pointer (some ⟨p2, 0, none⟩)), .iface (D3.T p3) (.pointer (some ⟨p3, 0, none⟩))] 94) := ⟨_, rfl⟩
       rw [← hv]
       have hbv : Below v1.heap.size v1 v4 := by rw [hv]; exact (Below.refl _ _).alloc (Nat.le_refl _) _
       have hzv : v4.heap.size = v1.heap.size + 1 := by rw [hv]; simp
       have HRW := qd (show BoxIs v4 v1.heap.size #[.iface (D3.T p2) (.pointer (some ⟨p2, 0, none⟩)), .iface (D3.T p3) (.pointer (some ⟨p3, 0, none⟩))] ∧ w.heap.size ≤ v1.heap.size ∧ OwnB C D3 Fs3 F3 v4 v1.heap.size from ⟨by rw [hX3.out.T p2 hL2.out.first, hv]; exact BoxIs.made v1 _ _, hRv1.out.g.size, OwnB.made hRv1.out.n (Nat.le_refl _) (by omega)⟩)
       have hRv4 := qd (hRv1.out.below HG.out.1 hbv)
       have hQv4 := qd (show ∀ q, (q = m ∨ q = c ∨ q = bk) → q < v4.heap.size ∧ ¬ D3.ownL Fs3 F3 q from fun q hq => ⟨by have := (hQv1.out q hq).1; omega, (hQv1.out q hq).2⟩)
       have hE : ∀ q, (q = m ∨ q = c ∨ q = bk) → v4.heap[q]? = v1.heap[q]? := fun q hq => hbv.block q (hQv1.out q hq).1
       have hbp := hbv.block w3.heap.size HBX.out.2.2.2.lt
       have HBY := qd (show BoxIs v4 w3.heap.size #[.string s, .bool back, .int .i64 0, .slice none 0 0, .int .i64 0, .slice none 0 0, .slice none 0 0, .int .i64 0] ∧ w.heap.size ≤ w3.heap.size ∧ (∀ q, (q = m ∨ q = c ∨ q = bk) → q ≠ w3.heap.size) ∧ OwnB C D3 Fs3 F3 v4 w3.heap.size from ⟨HBX.out.1.keep hbp, HBX.out.2.1, HBX.out.2.2.1, HBX.out.2.2.2.below (by omega)⟩)
       have HNE := qd (show v1.heap.size ≠ w3.heap.size from fun e => by have := HBX.out.2.2.2.lt; omega)
       clear HBX hbp
       have HBX := HBY
       clear HBY
       refine hK.out _ _ (hcA hE hHeld) (fun hHeld => ?_)
       clear hK K hE hv hbv hzv
       try simp only [nmA, Act.put]
       refine rdA 20 (fun K hK => ?_)
       go_simp
       refine (HALT.out D3 Fs3 F3 v4 ((0 + RT.sz (.node kx sx nx lox hix tsx)) + RT.sz (.node ky sy ny loy hiy tsy)) p2 p3 w3.heap.size v1.heap.size hRv4.out (by omega) (hX3.out.lay hL2.out) hL3.out HBX.out.2.2.2 HRW.out.2.2 HNE.out HBX.out.2.1 HRW.out.2.1 HBX.out.1 HRW.out.1).mono ?_
       rintro e w9 ⟨⟨v9, rfl⟩, hq9, hE9⟩
       have HQ9 := qd hq9
       have hE : ∀ q, (q = m ∨ q = c ∨ q = bk) → w9.heap[q]? = v4.heap[q]? := fun q hq => hE9 q (hQv4.out q hq).1 (fun f => (hQv4.out q hq).2 (.inl f)) (HBX.out.2.2.1 q hq)
       clear hq9 hE9
       go_wp2_with fail
       refine hK.out _ _ (hcA hE hHeld) (fun hHeld => ?_)
       clear hK K hE
       try simp only [nmA, Act.put]
       refine tkA 21 ?_
       try simp only [nmA, Act.put]
       refine wpAnyH_done (by kernel_rfl) ?_ _
       go_wp2_with fail
       try go_ret
       exact HQ9.out
     · go_simp
       obtain ⟨v4, hv⟩ : ∃ v : World, v = w3.alloc (.cells #[.iface (D2.T p2) (.pointer (some ⟨p2, 0, none⟩)), .iface (D3.T p3) (.pointer (some ⟨p3, 0, none⟩))] 94) := ⟨_, rfl⟩
       rw [← hv]
       have hbv : Below w3.heap.size w3 v4 := by rw [hv]; exact (Below.refl _ _).alloc (Nat.le_refl _) _
       have hzv : v4.heap.size = w3.heap.size + 1 := by rw [hv]; simp
       have HRW := qd (show BoxIs v4 w3.heap.size #[.iface (D3.T p2) (.pointer (some ⟨p2, 0, none⟩)), .iface (D3.T p3) (.pointer (some ⟨p3, 0, none⟩))] ∧ w.heap.size ≤ w3.heap.size ∧ OwnB C D3 Fs3 F3 v4 w3.heap.size from ⟨by rw [hX3.out.T p2 hL2.out.first, hv]; exact BoxIs.made w3 _ _, hR3.out.g.size, OwnB.made hR3.out.n (Nat.le_refl _) (by omega)⟩)
       have hRv4 := qd (hR3.out.below HG.out.1 hbv)
       have hQv4 := qd (show ∀ q, (q = m ∨ q = c ∨ q = bk) → q < v4.heap.size ∧ ¬ D3.ownL Fs3 F3 q from fun q hq => ⟨by have := (hQ3.out q hq).1; omega, (hQ3.out q hq).2⟩)
       have hE : ∀ q, (q = m ∨ q = c ∨ q = bk) → v4.heap[q]? = w3.heap[q]? := fun q hq => hbv.block q (hQ3.out q hq).1
       refine hK.out _ _ (hcA hE hHeld) (fun hHeld => ?_)
       clear hK K hE hv hbv hzv
       try simp only [nmA, Act.put]
       refine rdA 3 (fun K hK => ?_)
       go_simp
       obtain ⟨v1, hv⟩ : ∃ v : World, v = v4.alloc (.cells #[.string s, .bool back, .int .i64 0, .slice none 0 0, .int .i64 0, .slice none 0 0, .slice none 0 0, .int .i64 0] 92) := ⟨_, rfl⟩
       rw [← hv]
       have hbv : Below v4.heap.size v4 v1 := by rw [hv]; exact (Below.refl _ _).alloc (Nat.le_refl _) _
       have hzv : v1.heap.size = v4.heap.size + 1 := by rw [hv]; simp
       have HBX := qd (show BoxIs v1 v4.heap.size #[.string s, .bool back, .int .i64 0, .slice none 0 0, .int .i64 0, .slice none 0 0, .slice none 0 0, .int .i64 0] ∧ w.heap.size ≤ v4.heap.size ∧ (∀ q, (q = m ∨ q = c ∨ q = bk) → q ≠ v4.heap.size) ∧ OwnB C D3 Fs3 F3 v1 v4.heap.size from ⟨by rw [hv]; exact (BoxIs.made v4 #[.string s, .bool back, .int .i64 0, .slice none 0 0, .int .i64 0, .slice none 0 0, .slice none 0 0, .int .i64 0] _).keep rfl, hRv4.out.g.size, fun q hq => by have := (hQv4.out q hq).1; have hzd : v4.heap.size = v4.heap.size := rfl; omega, OwnB.made hRv4.out.n (Nat.le_refl _) (by have hzd : v4.heap.size = v4.heap.size := rfl; omega)⟩)
       have hRv1 := qd (hRv4.out.below HG.out.1 hbv)
       have hQv1 := qd (show ∀ q, (q = m ∨ q = c ∨ q = bk) → q < v1.heap.size ∧ ¬ D3.ownL Fs3 F3 q from fun q hq => ⟨by have := (hQv4.out q hq).1; omega, (hQv4.out q hq).2⟩)
       have hE : ∀ q, (q = m ∨ q = c ∨ q = bk) → v1.heap[q]? = v4.heap[q]? := fun q hq => hbv.block q (hQv4.out q hq).1
       have HRV := qd (show BoxIs v1 w3.heap.size #[.iface (D3.T p2) (.pointer (some ⟨p2, 0, none⟩)), .iface (D3.T p3) (.pointer (some ⟨p3, 0, none⟩))] ∧ w.heap.size ≤ w3.heap.size ∧ OwnB C D3 Fs3 F3 v1 w3.heap.size from ⟨HRW.out.1.keep (hbv.block _ HRW.out.2.2.lt), HRW.out.2.1, HRW.out.2.2.below (by omega)⟩)
       have HNE := qd (show w3.heap.size ≠ v4.heap.size from fun e => by have := HRW.out.2.2.lt; omega)
       clear HRW
       have HRW := HRV
       clear HRV
       refine hK.out _ _ (hcA hE hHeld) (fun hHeld => ?_)
       clear hK K hE hv hbv hzv
       try simp only [nmA, Act.put]
       refine tkA 4 ?_
       try simp only [nmA, Act.put]
       refine rdA 20 (fun K hK => ?_)
       go_simp
       refine (HALT.out D3 Fs3 F3 v1 ((0 + RT.sz (.node kx sx nx lox hix tsx)) + RT.sz (.node ky sy ny loy hiy tsy)) p2 p3 v4.heap.size w3.heap.size hRv1.out (by omega) (hX3.out.lay hL2.out) hL3.out HBX.out.2.2.2 HRW.out.2.2 HNE.out HBX.out.2.1 HRW.out.2.1 HBX.out.1 HRW.out.1).mono ?_
       rintro e w9 ⟨⟨v9, rfl⟩, hq9, hE9⟩
       have HQ9 := qd hq9
       have hE : ∀ q, (q = m ∨ q = c ∨ q = bk) → w9.heap[q]? = v1.heap[q]? := fun q hq => hE9 q (hQv1.out q hq).1 (fun f => (hQv1.out q hq).2 (.inl f)) (HBX.out.2.2.1 q hq)
       clear hq9 hE9
       go_wp2_with fail
       refine hK.out _ _ (hcA hE hHeld) (fun hHeld => ?_)
       clear hK K hE
       try simp only [nmA, Act.put]
       refine tkA 21 ?_
       try simp only [nmA, Act.put]
       refine wpAnyH_done (by kernel_rfl) ?_ _
       go_wp2_with fail
       try go_ret
       exact HQ9.out
theorem layOne_of (K N : Nat) (s : ByteArray) (back : Bool) (w0 : World) (env : LayEnv K N s w0) {t : RT} (h : ∀ u ∈ t.kids, layOne K N s back w0 u) : layOne K N s back w0 t := by
 intro hg
 have ho := RT.good_own hg
 obtain ⟨k, ss, n, lo, hi, ts⟩ := t
 rcases RT.own_shape ho with ⟨hk0, rfl⟩ | ⟨hk0, x, y, rfl⟩ | ⟨rfl, x, rfl⟩
 · rcases hk0 with rfl | rfl | rfl | rfl | rfl
   · exact layE K N s back w0 env 0 (.inl rfl) ss n lo hi hg
   · exact layB1 K N s back w0 env ss n lo hi hg
   · exact layE K N s back w0 env 6 (.inr (.inl rfl)) ss n lo hi hg
   · exact layE K N s back w0 env 7 (.inr (.inr rfl)) ss n lo hi hg
   · exact layB2 K N s back w0 env ss n lo hi hg
 · have hx := h x (by simp [RT.kids])
   have hy := h y (by simp [RT.kids])
   rcases hk0 with rfl | rfl
   · cases back
     · exact layK3f K N s w0 env x y hx hy ss n lo hi hg
     · exact layK3b K N s w0 env x y hx hy ss n lo hi hg
   · exact layK4 K N s back w0 env x y hx hy ss n lo hi hg
 · exact layK5 K N s back w0 env x (h x (by simp [RT.kids])) ss n lo hi hg
theorem layAll (K N : Nat) (s : ByteArray) (back : Bool) (w0 : World) (env : LayEnv K N s w0) : ∀ (M : Nat) (t : RT), RT.sz t ≤ M → layOne K N s back w0 t := by
 intro M
 induction M with
 | zero => intro t h; have := RT.sz_pos t; omega
 | succ M ih => intro t h; exact layOne_of K N s back w0 env fun u hu => ih u (by have := RT.sz_kid t u hu; omega)
theorem layNet_all (K N : Nat) (s : ByteArray) (back : Bool) (w0 : World) (env : LayEnv K N s w0) (t : RT) (hg : RT.good t) (hl : 1 + RT.sz t ≤ 1048576) (a : Option Addr) (cap : Nat) (w : World) (hB : Below K w0 w) (hk : Kids 0 w0 t.kids a) :
 Calls Tryz.prog 32 #[.agg #[.string s, .bool back], reV t a cap] w (NetPost K N s back t w) :=
 layNet_any K N s back w0 env t (layAll K N s back w0 env _ t (Nat.le_refl _)) hg hl a cap w hB hk
def AskPost (N : Nat) (s : ByteArray) (back : Bool) (t : RT) (M : Nat → Prop) (w : World) (e : Ending) (w' : World) : Prop :=
 ∃ sk' ws' a' c', e = .returned (setV sk' a' ws'.length c') ∧ SetB N sk' ws' ∧ WordsAt w' ws' a' ∧ (∀ j, memS sk' ws' j ↔ img (dirT back (RT.M s.data.toList t)) M j) ∧ (∀ j, memS sk' ws' j → j ≤ s.size) ∧ Below w.heap.size w w' ∧ ∀ x, a' = some x → w.heap.size ≤ x.block ∧ x.block < w'.heap.size
theorem net_asked {K N : Nat} {s : ByteArray} {back : Bool} {t : RT} {w w1 W : World} {nb f : Nat} {D : Nt} {Fs : Nat → Nat → Prop} {F : Nat → Prop} (hN : N ≤ 1048576) (hn : NtL K N s.size w.heap.size nb s back D Fs F w1) (hf : f ∈ D.P) (h4 : w1.cell? ⟨nb, 4, none⟩ = some (partV (D.T f) f)) (hl : LayP D.P s.data.toList D.R D.E D.z back t f D.z) (hE : D.E D.z = []) (hlen : D.P.length ≤ 1048576) (hKw : K ≤ w.heap.size)
 (hb : Below w.heap.size w w1) (hW : Below w1.heap.size w1 W) (sk : Nat) (ws : List Nat) (a : Option Addr) (c : Nat) (hs : SetB N sk ws) (hw : WordsAt W ws a) (hL : ∀ j, memS sk ws j → j ≤ s.size) :
 Calls Tryz.prog 33 #[.pointer (some ⟨nb, 0, none⟩), setV sk a ws.length c] W (AskPost N s back t (memS sk ws) w) := by
 have hnW := hn.kept hKw hW
 obtain ⟨a2, c2, a3, c3, hz⟩ := hnW.done hKw hN hlen hf ((hW.cell (p := ⟨nb, 4, none⟩) hn.hn.2.1).trans h4)
 have hkid := (hz.fix.kid (by have := hnW.hn; omega)).congr (fun i j => hl.lay.leads.end hE i j)
 have hown : ∀ k, (D.done f a2 c2 a3 c3).own nb zeroSt Fs k → w.heap.size ≤ k := fun k hk => (hnW.ownlt (hz.own k hk)).1
 have hzz := hb.size
 have hzw := hW.size
 refine (hkid.call _ W sk ws a c ⟨zeroSt, Fs, hz.at', hz.rest, fun k => Iff.rfl⟩ hs hw hL).mono ?_
 rintro e w' ⟨sk', ws', a', c', F', he, h1, h2, h3, h4', h5, h6, h7, h8⟩
 refine ⟨sk', ws', a', c', he, h1, h2, h3, h4', ⟨h7.os.trans (hW.os.trans hb.os), h7.tape.trans (hW.tape.trans hb.tape), h7.output.trans (hW.output.trans hb.output), by have := h7.size; omega, fun k hk => (h7.block k (by omega) (fun x => by have := hown k x; omega)).trans ((hW.block k (by omega)).trans (hb.block k hk))⟩, fun x hx => ?_⟩
 obtain ⟨y1, _, y3⟩ := h8 x hx
 exact ⟨y3.elim (fun y => hown _ y) (fun y => by omega), y1⟩
end Go.Proofs.YtcimhpdpfckgiaaGreatDoor.kit
namespace Go.Proofs.YtcimhpdpfckgiaaGreatDoor.kit
attribute [local go_sem] Oper.semAt_some
structure EndI (q : Nat) (v : Int) (w0 W : World) : Prop where
 c : W.cell? ⟨q, 0, none⟩ = some (.int .i64 v)
 f : W.frozen? ⟨q, 0, none⟩ = false
 os : W.os = w0.os
 tape : W.tape = w0.tape
 output : W.output = w0.output
 size : w0.heap.size ≤ W.heap.size
 block : ∀ k, k < w0.heap.size → k ≠ q → W.heap[k]? = w0.heap[k]?
 lt : q < w0.heap.size
theorem EndI.own {β : Type} (q : Nat) (v : β → Int) (w0 : World) : OwnFrom w0.heap.size (fun s W => EndI q (v s) w0 W) := fun s W W' row h hg hrow => by
 have hq : W'.heap[q]? = W.heap[q]? := hg.block q (Nat.lt_of_lt_of_le h.lt h.size) (fun e => by have := (hrow q e.symm).1; have := h.lt; omega)
 exact ⟨(cob (a := ⟨q, 0, none⟩) hq).trans h.c, (World.frozen?_of_block (a := ⟨q, 0, none⟩) hq).trans h.f, hg.os.trans h.os, hg.tape.trans h.tape, hg.output.trans h.output, Nat.le_trans h.size hg.size, fun k hk hn => (hg.block k (Nat.lt_of_lt_of_le hk h.size) (fun e => by have := (hrow k e.symm).1; omega)).trans (h.block k hk hn), h.lt⟩
theorem EndI.others {q : Nat} {v : Int} {w0 W : World} (h : EndI q v w0 W) (u : Value) (D : Nat) : KeepsFrom D W (W.setCell ⟨q, 0, none⟩ u) :=
 ⟨by simp, fun k ob _ hk hc => (Below.heap_setCell W _ _ k (fun e => by subst e; rw [cell_isCells (a := ⟨k, 0, none⟩) h.c hk] at hc; cases hc)).trans hk⟩
theorem EndI.put {q : Nat} {v : Int} {w0 W : World} (h : EndI q v w0 W) (v' : Int) : EndI q v' w0 (W.setCell ⟨q, 0, none⟩ (.int .i64 v')) :=
 ⟨World.cell?_setCell_same W _ _ h.c, by rw [World.frozen?_setCell]; exact h.f, h.os, h.tape, h.output, by simp; exact h.size, fun k hk hn => (Below.heap_setCell W _ _ k hn).trans (h.block k hk hn), h.lt⟩
def lastN (l : List Nat) : Int := match l.getLast? with | some x => (x : Int) | none => -1
theorem lastN_snoc (l : List Nat) (x : Nat) : lastN (l ++ [x]) = (x : Int) := by simp [lastN]
theorem lastN_Z {l : List Nat} {P : Nat → Prop} (h : PlN l P) : lastN l = lastZ P := by
 unfold lastN
 cases e : l.getLast? with
 | none =>
   have hl : l = [] := by simpa using e
   rw [lastZ_none]
   intro j hj
   have := (h.2 j).2 hj
   rw [hl] at this; cases this
 | some x =>
   have hne : l ≠ [] := fun c => by rw [c] at e; cases e
   have hx : l.getLast hne = x := by
    rw [List.getLast?_eq_some_getLast hne] at e
    exact Option.some.inj e
   have := h.last hne
   rw [hx] at this
   exact (lastZ_of this.1 this.2).symm
theorem RT.right_sz : ∀ (M : Nat) (t : RT), RT.sz t ≤ M → ∀ (deep left k : Int), RT.right t deep left = some k → k = RT.sz t := by
 intro M
 induction M with
 | zero => intro t h; have := RT.sz_pos t; omega
 | succ M ih =>
   intro t h deep left k hk
   obtain ⟨kd, ss, n, lo, hi, ts⟩ := t
   rw [RT.right] at hk
   simp only [RT.sz] at h ⊢
   split at hk
   · cases hk
   · have key : ∀ (l : List RT) (i : Nat) (n m : Int), RT.szs l ≤ M → RT.rights l i deep left n = some m → m = n + RT.szs l := by
        intro l
        induction l with
        | nil => intro i n m _ e; simp only [RT.rights, Option.some.injEq] at e; simp [RT.szs]; omega
        | cons u l ihl =>
          intro i n m hl e
          simp only [RT.szs] at hl ⊢
          rw [RT.rights] at e
          split at e
          · cases e
          · rename_i k' hk'
            have h1 := ih u (by omega) _ _ _ hk'
            have h2 := ihl (i + 1) (n + k') m (by omega) e
            omega
     have := key ts 0 1 k (by omega) hk
     omega
theorem RT.ok_sz {t : RT} (h : RT.ok t = true) : RT.sz t ≤ 200 := by
 rw [← RT.right_ok] at h
 obtain ⟨k, hk⟩ := Option.isSome_iff_exists.1 h
 have h1 := RT.right_sz _ t (Nat.le_refl _) _ _ _ hk
 have h2 := RT.right_range t 12 200 k (by omega) hk
 omega
set_option maxRecDepth 100000 in
set_option maxHeartbeats 4000000 in
theorem matchAt_in (mm : Nat) (hm : 8 ≤ mm) (t : RT) (s : ByteArray) (i : Nat) (a : Option Addr) (cap : Nat) (w : World) (hs : s.size ≤ 1048576) (hi : i ≤ s.size) (hc : RT.cost t ≤ 1048576) (hok : RT.ok t = true) (hk : Kids 0 w t.kids a) (hT : BT w) :
 CallsIn Fence.wide mm Tryz.prog 17 #[reV t a cap, .string s, .int .i64 (i : Int)] w fun e w' => e = .returned (.int .i64 (matchZ s.data.toList t (i : Int))) ∧ Below w.heap.size w w' := by
 have hm1 : 1 ≤ mm := by omega
 have hg := RT.ok_good hok
 have hsz := RT.ok_sz hok
 obtain ⟨N, hN⟩ : ∃ N, N = (s.size + 1) / 64 + 1 := ⟨_, rfl⟩
 have env : LayEnv w.heap.size N s w := ⟨by omega, hs, by omega, hT.lt, hT, rfl⟩
 have HO := qd (fun W (hW : Below w.heap.size w W) => implReOk_any t a cap W (hk.kept (Nat.le_refl _) hW) hc)
 rw [hok] at HO
 have HL := qd (fun (W : World) (hW : Below w.heap.size w W) => layNet_all w.heap.size N s false w env t hg (by omega) a cap W hW hk)
 have HP := qd (fun (W : World) => places_any N i i W env.n9 (by omega) (by omega))
 have HB := qd (show ∀ o, Below w.heap.size w (w.alloc o) from fun o => (Below.refl w.heap.size w).alloc (Nat.le_refl _) _)
 have hi0 : (0 : Int) ≤ (i : Int) := by omega
 have hi1 : (i : Int) ≤ (s.size : Int) := by omega
 have hd0 : decide ((i : Int) < 0) = false := by rw [decide_eq_false_iff_not]; omega
 have hd1 : decide (s.size < i) = false := by rw [decide_eq_false_iff_not]; omega
 have hf1 : Fence.wide.fn 31 := trivial
 have hf2 : Fence.wide.fn 32 := trivial
 have hf3 : Fence.wide.fn 34 := trivial
 have hf4 : Fence.wide.fn 33 := trivial
 have hf5 : Fence.wide.fn 35 := trivial
 have HEN := qd (And.intro env.n9 (And.intro hs (And.intro hi (And.intro hsz (And.intro hN (And.intro hT hok))))))
 clear hT hN hok hc hsz hs hi hg env
 obtain ⟨k, ss, n, lo, hi, ts⟩ := t
 unfold reV at *
 simp only [RT.kind, RT.set, RT.neg, RT.low, RT.high, RT.kids] at *
 have HBX := qd (Box.start (k := k) (s := ss) (n := n) (lo := lo) (hi := hi) (ts := ts) (a := a) (cap := cap) w 26)
 obtain ⟨⟨x0, x1, x2, x3, x4, x5⟩, _⟩ := HBX.out
 clear hk
 refine callsIn_of_wp_marks Tryz.func17 rfl trivial ?_ rfl
 simp only [Tryz.ntmps17, List.size_toArray, List.length_cons, List.length_nil, Nat.reduceAdd, Nat.reduceSub, Array.replicate_succ, Array.replicate_zero, List.push_toArray, List.append_toArray, List.nil_append, List.cons_append]
 gi_wp2_with (gi_at_call 31; refine (callsIn_wide.2 (HO.out _ (HB.out _))).mono ?_; rintro e w1 ⟨rfl, hb1⟩; have HB1 := qd ((HB.out _).trans (hb1.mono (HB.out _).size)); have HX1 := qd (HBX.out.step hb1); clear hb1 x0 x1 x2 x3 x4 x5; obtain ⟨⟨x0, x1, x2, x3, x4, x5⟩, _⟩ := HX1.out)
 obtain ⟨w2, hw2⟩ : ∃ w2, w2 = w1.alloc (.cells #[.int .i64 (-1)] 3) := ⟨_, rfl⟩
 obtain ⟨q, hq⟩ : ∃ q, q = w1.heap.size := ⟨_, rfl⟩
 have hb12 : Below w1.heap.size w1 w2 := by rw [hw2]; exact (Below.refl _ _).alloc (Nat.le_refl _) _
 have HB2 := qd (HB1.out.trans (hb12.mono HB1.out.size))
 have HX2 := qd (HX1.out.step hb12)
 have HQ := qd (show w2.heap.size = q + 1 ∧ w2.cell? ⟨q, 0, none⟩ = some (.int .i64 (-1)) ∧ w2.frozen? ⟨q, 0, none⟩ = false ∧ w.heap.size ≤ q from ⟨by rw [hw2, hq]; simp, by rw [hw2, hq]; exact cell_one w1 _ _, by rw [hw2, hq]; exact World.frozen?_alloc_at _ _ _ _ rfl, by rw [hq]; exact HB1.out.size⟩)
 rw [← hw2, ← hq]
 clear hw2 hb12 HB1 HX1 x0 x1 x2 x3 x4 x5 hq
 refine (callsIn_wide.2 (HL.out w2 HB2.out)).mono ?_
 rintro e w3 ⟨nb, D, Fs, F, f, rfl, hn, hf, h4, hl, hE, hln, hb3⟩
 have HNN := qd (And.intro hn (And.intro hf (And.intro h4 (And.intro hl (And.intro hE hln)))))
 have HB3 := qd hb3
 clear hn hf h4 hl hE hln hb3 HL
 gi_wp2_with (gi_at_call 34; refine (callsIn_wide.2 (HP.out w3)).mono ?_; rintro e w4 ⟨sk, ws, aw, cw, rfl, hb4, hsb, hwa, hal, hmm⟩; have HP4 := qd (And.intro hb4 (And.intro hsb (And.intro hwa hmm))); clear hb4 hsb hwa hal hmm; unfold setV)
 have HA := qd (net_asked HEN.out.1 HNN.out.1 HNN.out.2.1 HNN.out.2.2.1 HNN.out.2.2.2.1 HNN.out.2.2.2.2.1 (by have := HNN.out.2.2.2.2.2; have := HEN.out.2.2.2.1; omega) HB2.out.size HB3.out HP4.out.1 sk ws aw cw HP4.out.2.1 HP4.out.2.2.1 (fun j hj => by have := (HP4.out.2.2.2 j).1 hj; have := HEN.out.2.2.1; omega))
 unfold setV at HA
 refine (callsIn_wide.2 HA.out).mono ?_
 rintro e w5 ⟨sk5, ws5, a5, c5, rfl, h5a, h5b, h5c, h5d, h5e, h5f⟩
 have hf6 : sk5 + ws5.length ≤ 1048576 := by have := h5a.le; have := HEN.out.1; omega
 obtain ⟨n5, hn5⟩ : ∃ n5, n5 = ws5.length := ⟨_, rfl⟩
 obtain ⟨b5, hb5⟩ : ∃ b5, b5 = w5.heap.size := ⟨_, rfl⟩
 obtain ⟨w6, hw6⟩ : ∃ w6, w6 = w5.alloc (.cells #[.int .i64 (sk5 : Int), .slice a5 n5 c5] 68) := ⟨_, rfl⟩
 have hb56 : Below w5.heap.size w5 w6 := by rw [hw6]; exact (Below.refl _ _).alloc (Nat.le_refl _) _
 have hz6 : w6.heap.size = b5 + 1 := by rw [hw6, hb5]; simp
 have hc6 : ∀ j, w6.cell? ⟨b5, j, none⟩ = #[Value.int .i64 (sk5 : Int), .slice a5 n5 c5][j]? := fun j => by rw [hw6, hb5]; exact World.cell?_alloc_at _ _ _ _ rfl
 have hb26 : Below w2.heap.size w2 w6 := h5e.trans (hb56.mono h5e.size)
 have hq2 := HQ.out
 have cq6 := (hb26.cell (p := ⟨q, 0, none⟩) (by show q < _; omega)).trans hq2.2.1
 have fq6 := (hb26.frozen (p := ⟨q, 0, none⟩) (by show q < _; omega)).trans hq2.2.2.1
 have hT6 : BT w6 := HEN.out.2.2.2.2.2.1.of ((hb26.block _ (by have := HEN.out.2.2.2.2.2.1.lt; have := HB2.out.size; omega)).trans (HB2.out.block _ HEN.out.2.2.2.2.2.1.lt))
 have hTL := HEN.out.2.2.2.2.2.1.lt
 have hseq := all_stops (mm - 1) (by omega) b5 sk5 ws5 a5 c5 hf6 h5a.lt (KeepB (SetF b5 a5)) (fun A B h => h) w6 (by omega) (hc6 0) (by rw [← hn5]; exact hc6 1) (h5b.kept hb56) hT6
 have hA5 : ∀ y, a5 = some y → q + 1 ≤ y.block ∧ y.block < b5 := fun y hy => by have := h5f y hy; omega
 have HPL := qd (memL_pl ws5 sk5 h5a.lt)
 have HI0 := qd (show EndI q (lastN []) w6 w6 from ⟨cq6, fq6, rfl, rfl, rfl, Nat.le_refl _, fun _ _ _ => rfl, by have := hb26.size; omega⟩)
 have H5 := qd (And.intro h5c (And.intro (HB2.out.trans (hb26.mono HB2.out.size)) (And.intro hA5 (And.intro hz6 (And.intro hTL (And.intro hb26.size hq2))))))
 have HW6 := qd hw6
 have hqb : q + 1 ≤ b5 := by have := h5e.size; omega
 have HB5 := qd (And.intro hb5 (And.intro hn5 hqb))
 rw [← hn5]
 clear hb56 hz6 hc6 hb26 hq2 cq6 fq6 hT6 hTL hA5 h5a h5b h5c h5d h5e h5f hn5 hw6 hb5 hqb
 unfold setV
 gi_wp2_with (gi_at_call 35; refine (all_in (mm - 1) _ _ _ _ _).mono ?_; rintro e w' ⟨rfl, rfl⟩)
 rw [← HW6.out, ← HB5.out.1]
 refine wpIn_rangeFunc_ownG rfl hm1 (gf := 48) rfl trivial (enters_of Tryz.func48 (by kernel_rfl) rfl)
  hseq (fun h k => KeepB.trans h k) (fun W l o o' hl _ _ _ => fun k hk => World.putObj_heap_other (by
   have hz := H5.out.2.2.2.1
   rcases hk with rfl | rfl | ⟨x, hx, rfl⟩
   · omega
   · have := H5.out.2.2.2.2.1; have := H5.out.2.2.2.2.2.1; have := H5.out.2.2.2.2.2.2.1; have := H5.out.2.2.2.2.2.2.2.2.2; omega
   · have := H5.out.2.2.1 x hx; omega)) (Below.refl _ _) (fun _ => rfl)
  (fun pre W => EndI q (lastN (pre.map (·.1))) w6 W)
  (fun _ _ _ => False)
  (EndI.own q (fun pre : List {x : Nat // x ∈ memL sk5 ws5} => lastN (pre.map (·.1))) w6)
  (fun _ _ _ _ _ hs _ _ => hs)
  HI0.out
  (fun x => { tmps := #[.agg #[.int .i64 k, .string ss, .bool n, .int .i64 lo, .int .i64 hi, .slice a ts.length cap], .string s, .int .i64 (i : Int), .pointer (some ⟨w.heap.size, 0, none⟩), undef, undef, .int .i64 0, .pointer (some ⟨q, 0, none⟩), pV x.1, .int .i64 (i : Int), .bool false, .bool false, .int .i64 (i : Int), .string s, .int .i64 (s.size : Int), .bool false, .bool false, .bool false, .agg #[.int .i64 k, .string ss, .bool n, .int .i64 lo, .int .i64 hi, .slice a ts.length cap], .bool true, .bool false, .bool false, .string s, .agg #[.string s, .bool false], .agg #[.int .i64 k, .string ss, .bool n, .int .i64 lo, .int .i64 hi, .slice a ts.length cap], .pointer (some ⟨nb, 0, none⟩), .int .i64 (i : Int), .int .i64 (i : Int), .agg #[.int .i64 (sk : Int), .slice aw ws.length cw], .agg #[.int .i64 (sk5 : Int), .slice a5 n5 c5], .func (.func 48) #[] #[.pointer (some ⟨b5, 0, none⟩)], pV x.1, undef, undef], defers := [] }) ?assign ?body ?done ?stop
 case assign =>
  intro l x W K hK
  gi_wp2
  exact hK
 case stop =>
  rintro D c pre W _ _ h _
  exact h.elim
 case done =>
  rintro D' ys W hD hys hG hK
  rw [hys] at hG
  have cq := hG.c
  have HG := qd hG
  have HK := qd hK
  have HV := qd (lastN_Z HPL.out)
  clear hG hK hys
  generalize lastN (memL sk5 ws5) = v at *
  gi_wp2
  refine ⟨by simp, .inl ⟨_, _, rfl, run_takeDeferred HK.out, ?_⟩⟩
  refine ⟨.int .i64 v, by simp [results, Tryz.results17, go_sem], ?_⟩
  have hM : (fun j => memS sk5 ws5 j) = fun j => RT.M s.data.toList (.node k ss n lo hi ts) i j := funext fun j => propext ((H5.out.1 j).trans ⟨fun ⟨x, h1, h2⟩ => by
   have := (HP4.out.2.2.2 x).1 h1
   obtain rfl : x = i := by omega
   exact h2, fun h => ⟨i, (HP4.out.2.2.2 i).2 ⟨Nat.le_refl _, Nat.le_refl _⟩, h⟩⟩)
  refine ⟨?_, ?_⟩
  · rw [matchZ_in (by have := HEN.out.2.2.1; simpa using this) HEN.out.2.2.2.2.2.2, HV.out]
    exact congrArg (fun P => Ending.returned (.int .i64 (lastZ P))) hM
  · have hb := H5.out.2.1
    have hG := HG.out
    have hqw := H5.out.2.2.2.2.2.2.2.2.2
    exact ⟨hG.os.trans hb.os, hG.tape.trans hb.tape, hG.output.trans hb.output, by have := hG.size; have := hb.size; simp; omega, fun j hj => (World.putObj_heap_other (by have := hb.size; omega)).trans ((hG.block j (by have := hb.size; omega) (by omega)).trans (hb.block j hj))⟩
 case body =>
  rintro l pre ⟨x, hx⟩ W hG hlt
  simp only
  have cq := hG.c
  have fq := hG.f
  have HG := qd hG
  have HKP := qd (show KeepB (SetF b5 a5) W (W.setCell ⟨q, 0, none⟩ (pV x)) from fun k hk => Below.heap_setCell W _ _ k (by
   have hz := H5.out.2.2.2.1
   show k ≠ q
   rcases hk with rfl | rfl | ⟨y, hy, rfl⟩
   · have := HB5.out.2.2; omega
   · have := H5.out.2.2.2.2.1; have := H5.out.2.2.2.2.2.2.2.2.2; omega
   · have := H5.out.2.2.1 y hy; omega))
  clear hG hseq
  unfold pV at *
  gi_wp2
  refine ⟨HG.out.others _ _, HKP.out, ?_⟩
  show EndI q (lastN ((pre ++ [(⟨x, hx⟩ : {x : Nat // x ∈ memL sk5 ws5})]).map (·.1))) w6 _
  rw [List.map_append, List.map_singleton, lastN_snoc]
  exact HG.out.put _
set_option maxRecDepth 100000 in
set_option maxHeartbeats 2000000 in
theorem implMatchAt_any (t : RT) (s : ByteArray) (i : Int) (a : Option Addr) (cap : Nat) (w : World) (hs : s.size ≤ 1048576) (hc : RT.cost t ≤ 1048576) (hk : Kids 0 w t.kids a) (hT : BT w) :
 Calls Tryz.prog 17 #[reV t a cap, .string s, .int .i64 i] w fun e w' => e = .returned (.int .i64 (matchZ s.data.toList t i)) ∧ Below w.heap.size w w' := by
 have HB := qd (show ∀ o, Below w.heap.size w (w.alloc o) from fun o => (Below.refl w.heap.size w).alloc (Nat.le_refl _) _)
 by_cases hin : 0 ≤ i ∧ i ≤ s.size
 · obtain ⟨m, rfl⟩ : ∃ m : Nat, i = (m : Int) := ⟨i.toNat, by omega⟩
   cases hok : RT.ok t
   · have HZ := qd (matchZ_bad (l := s.data.toList) (i := (m : Int)) hok)
     have HO := qd (fun W (hW : Below w.heap.size w W) => implReOk_any t a cap W (hk.kept (Nat.le_refl _) hW) hc)
     rw [hok] at HO
     have hd0 : decide ((m : Int) < 0) = false := by rw [decide_eq_false_iff_not]; omega
     have hd1 : decide (s.size < m) = false := by rw [decide_eq_false_iff_not]; omega
     have hi0 : (0 : Int) ≤ (m : Int) := by omega
     have hi1 : (m : Int) ≤ (s.size : Int) := by omega
     clear hok hk hT
     obtain ⟨k, ss, n, lo, hi, ts⟩ := t
     unfold reV at *
     simp only [RT.kind, RT.set, RT.neg, RT.low, RT.high, RT.kids] at *
     have HBX := qd (Box.start (k := k) (s := ss) (n := n) (lo := lo) (hi := hi) (ts := ts) (a := a) (cap := cap) w 26)
     obtain ⟨⟨x0, x1, x2, x3, x4, x5⟩, _⟩ := HBX.out
     go_enter Tryz.func17, Tryz.ntmps17
     go_wp2_with (go_at_call 31; refine (HO.out _ (HB.out _)).mono ?_; rintro e w1 ⟨rfl, hb1⟩)
     go_ret
     exact ⟨by rw [HZ.out]; rfl, (HB.out _).trans (hb1.mono (HB.out _).size)⟩
   · exact callsIn_wide.1 (matchAt_in 8 (Nat.le_refl _) t s m a cap w hs (by omega) hc hok hk hT)
 · have HZ := qd (matchZ_out (l := s.data.toList) (t := t) (i := i) (by simpa using hin))
   generalize matchZ s.data.toList t i = z at *
   clear hk hT hc
   obtain ⟨k, ss, n, lo, hi, ts⟩ := t
   unfold reV
   simp only [RT.kind, RT.set, RT.neg, RT.low, RT.high, RT.kids]
   by_cases h0 : i < 0
   · have hd0 : decide (i < 0) = true := by simpa using h0
     clear hin
     go_enter Tryz.func17, Tryz.ntmps17
     go_wp2_with fail
     go_ret
     exact ⟨by rw [HZ.out]; rfl, HB.out _⟩
   · have hd0 : decide (i < 0) = false := by simpa using h0
     have hgt : (s.size : Int) < i := by omega
     have hd1 : decide ((s.size : Int) < i) = true := by simpa using hgt
     clear hin h0
     go_enter Tryz.func17, Tryz.ntmps17
     go_wp2_with fail
     go_ret
     exact ⟨by rw [HZ.out]; rfl, HB.out _⟩
end Go.Proofs.YtcimhpdpfckgiaaGreatDoor.kit
