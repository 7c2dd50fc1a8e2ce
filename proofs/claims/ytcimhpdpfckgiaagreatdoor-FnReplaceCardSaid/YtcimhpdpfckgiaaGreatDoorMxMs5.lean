/-
  Contract of spec.l04Step over this seat's translation, at what has kids and at what means nothing. Conditions: each theorem names its own.
-/
import Derived.Test.YtcimhpdpfckgiaaGreatDoorMxMs4
import Derived.Test.YtcimhpdpfckgiaaGreatDoorMxKit
set_option linter.unusedVariables false
set_option linter.unusedSimpArgs false
open Go.ChangeShapes Go.WideShapes Go.ChangeAt Go.RowKit
namespace Go.Proofs.YtcimhpdpfckgiaaGreatDoor.kit
def StPost (s : ByteArray) (xs : List Nat) (w : World) (R : Nat → Nat → Prop) (e : Ending) (w' : World) : Prop := ∃ v' ys, e = .returned v' ∧ PRow w' ys s.size v' ∧ (∀ j, j ∈ ys ↔ ∃ i, i ∈ xs ∧ R i j) ∧ Below w.heap.size w w'
theorem StPost.of {s : ByteArray} {xs ys : List Nat} {w w' : World} {R : Nat → Nat → Prop} {v' : Value} (h1 : PRow w' ys s.size v') (h2 : ∀ j, j ∈ ys ↔ ∃ i, i ∈ xs ∧ R i j) (h3 : Below w.heap.size w w') : StPost s xs w R (.returned v') w' := ⟨v', ys, rfl, h1, h2, h3⟩
def stOne (t : RT) : Prop := RT.good t → ∀ (s : ByteArray) (a : Option Addr) (cap : Nat) (w : World) (xs : List Nat) (v : Value), s.size ≤ 1048576 → Kids 0 w t.kids a → PRow w xs s.size v →
 Calls Tryz.prog 54 #[reV t a cap, .string s, v] w (StPost s xs w (RT.M s.data.toList t))
theorem stOne.step {t : RT} (h : stOne t) (hg : RT.good t) {s : ByteArray} (hs : s.size ≤ 1048576) {w : World} {a : Option Addr} {cap : Nat} (hk : Kids 0 w t.kids a) : KStep w s t.kind t.set t.neg t.low t.high a t.kids.length cap (RT.M s.data.toList t) :=
 ⟨fun W v xs hW hp => (h hg s a cap W xs v hs (hk.kept (Nat.le_refl _) hW) hp).mono fun e w' hq => hq⟩
theorem below_two (w : World) (o p : Obj) : Below w.heap.size w ((w.alloc o).alloc p) := ((Below.refl w.heap.size w).alloc (Nat.le_refl _) _).alloc (by simp) _
set_option maxRecDepth 100000 in
set_option maxHeartbeats 2000000 in
theorem stK0 (ss : ByteArray) (n : Bool) (lo hi : Int) (s : ByteArray) (a : Option Addr) (cap : Nat) (w : World) (xs : List Nat) (v : Value) (hs : s.size ≤ 1048576) (hx : PRow w xs s.size v) :
 Calls Tryz.prog 54 #[.agg #[.int .i64 0, .string ss, .bool n, .int .i64 lo, .int .i64 hi, .slice a 0 cap], .string s, v] w (StPost s xs w (RT.M s.data.toList (.node 0 ss n lo hi []))) := by
 have HX := qd (fun o p => hx.kept (below_two w o p))
 have HM := qd (show ∀ j, j ∈ xs ↔ ∃ i, i ∈ xs ∧ RT.M s.data.toList (.node 0 ss n lo hi []) i j from fun j => by
  simp only [RT.M_none]
  exact ⟨fun h => ⟨j, h, rfl⟩, fun ⟨i, h, e⟩ => e ▸ h⟩)
 clear hx
 go_enter Tryz.func54, Tryz.ntmps54
 go_wp2_with fail
 go_ret
 exact StPost.of (HX.out _ _) HM.out (below_two w _ _)
set_option maxRecDepth 100000 in
set_option maxHeartbeats 2000000 in
theorem stK5 (ss : ByteArray) (n : Bool) (lo hi : Int) (xx : RT) (s : ByteArray) (a : Option Addr) (cap : Nat) (w : World) (xs : List Nat) (v : Value) (hs : s.size ≤ 1048576) (hlo : 0 ≤ lo ∧ lo ≤ 9) (hhi : hi = -1 ∨ (lo ≤ hi ∧ hi ≤ 9)) (h : stOne xx) (hg : RT.good xx) (hk : Kids 0 w [xx] a) (hx : PRow w xs s.size v) :
 Calls Tryz.prog 54 #[.agg #[.int .i64 5, .string ss, .bool n, .int .i64 lo, .int .i64 hi, .slice a 1 cap], .string s, v] w (StPost s xs w (RT.M s.data.toList (.node 5 ss n lo hi [xx]))) := by
 have HC := qd (fun o p => many_any ss n lo hi xx s xs v a cap ((w.alloc o).alloc p) (RT.M s.data.toList xx) (hk.kept (Nat.le_refl _) (below_two w o p)) hs hlo hhi (hx.kept (below_two w o p)) (fun ax cx hkx => h.step hg hs hkx))
 have HM := qd (show ∀ i j, RT.M s.data.toList (.node 5 ss n lo hi [xx]) i j ↔ often (RT.M s.data.toList xx) lo hi i j from fun i j => RT.M_many _ _ _ _ _ _ _ _)
 have HBX := qd (fun p => (Box.start (k := 5) (s := ss) (n := n) (lo := lo) (hi := hi) (ts := [xx]) (a := a) (cap := cap) w 26).step ((Below.refl _ _).alloc (Nat.le_refl _) p))
 clear hk hx hlo hhi h hg
 generalize RT.M s.data.toList (.node 5 ss n lo hi [xx]) = R at *
 obtain ⟨⟨x0, x1, x2, x3, x4, x5⟩, _⟩ := HBX.out (.cells #[] 3)
 go_enter Tryz.func54, Tryz.ntmps54
 go_wp2_with fail
 refine (HC.out _ _).mono ?_
 rintro e w2 ⟨v2, ys, rfl, hp, hy, hb⟩
 have HP := qd hp
 have HY := qd hy
 have HBB := qd ((below_two w _ _).trans (hb.mono (below_two w _ _).size))
 clear hp hy hb x0 x1 x2 x3 x4 x5
 go_wp2_with fail
 go_ret
 exact StPost.of HP.out (fun j => (HY.out j).trans ⟨fun ⟨i, a, b⟩ => ⟨i, a, (HM.out i j).2 b⟩, fun ⟨i, a, b⟩ => ⟨i, a, (HM.out i j).1 b⟩⟩) HBB.out
set_option maxRecDepth 100000 in
set_option maxHeartbeats 4000000 in
theorem stK3 (ss : ByteArray) (n : Bool) (lo hi : Int) (xx xy : RT) (s : ByteArray) (a : Option Addr) (cap : Nat) (w : World) (xs : List Nat) (v : Value) (hs : s.size ≤ 1048576) (hx : stOne xx) (hy : stOne xy) (hgx : RT.good xx) (hgy : RT.good xy) (hk : Kids 0 w [xx, xy] a) (hp : PRow w xs s.size v) :
 Calls Tryz.prog 54 #[.agg #[.int .i64 3, .string ss, .bool n, .int .i64 lo, .int .i64 hi, .slice a 2 cap], .string s, v] w (StPost s xs w (RT.M s.data.toList (.node 3 ss n lo hi [xx, xy]))) := by
 obtain ⟨ax, cx, hex, hkx⟩ := hk.elem 0 (by simp)
 obtain ⟨ay, cy, hey, hky⟩ := hk.elem 1 (by simp)
 simp only [List.getElem_cons_zero, List.getElem_cons_succ] at hex hkx hey hky
 obtain ⟨b, o, rfl, _, hbl, ex0, ex1, ex2, ex3, ex4, ex5, _, _⟩ := hex
 obtain ⟨b2, o2, e2, _, _, ey0, ey1, ey2, ey3, ey4, ey5, _, _⟩ := hey
 cases e2
 have HKX := qd (hx.step (cap := cx) hgx hs hkx)
 have HKY := qd (hy.step (cap := cy) hgy hs hky)
 have HM := qd (show ∀ i j, RT.M s.data.toList (.node 3 ss n lo hi [xx, xy]) i j ↔ ∃ m, RT.M s.data.toList xx i m ∧ RT.M s.data.toList xy m j from fun i j => RT.M_cat _ _ _ _ _ _ _ _ _)
 generalize RT.M s.data.toList (.node 3 ss n lo hi [xx, xy]) = R at *
 generalize RT.M s.data.toList xx = Rx at *
 generalize RT.M s.data.toList xy = Ry at *
 obtain ⟨kx, sx, nx, lox, hix, tsx⟩ := xx
 obtain ⟨ky, sy, ny, loy, hiy, tsy⟩ := xy
 simp only [RT.kind, RT.set, RT.neg, RT.low, RT.high, RT.kids, reV, Nat.zero_mul, Nat.add_zero, Nat.one_mul, Nat.add_assoc, Nat.reduceAdd] at *
 have HF := qd (fun W (hW : Below w.heap.size w W) => hp.kept hW)
 have HS0 := qd (show ∀ p, CellsAre ((w.alloc (.cells #[.int .i64 3, .string ss, .bool n, .int .i64 lo, .int .i64 hi, .slice (some ⟨b, o, none⟩) 2 cap] 26)).alloc p).drew [(w.heap.size, 5, .slice (some ⟨b, o, none⟩) 2 cap), (b, o, .int .i64 kx), (b, o + 1, .string sx), (b, o + 2, .bool nx), (b, o + 3, .int .i64 lox), (b, o + 4, .int .i64 hix), (b, o + 5, .slice ax tsx.length cx), (b, o + 6, .int .i64 ky), (b, o + 7, .string sy), (b, o + 8, .bool ny), (b, o + 9, .int .i64 loy), (b, o + 10, .int .i64 hiy), (b, o + 11, .slice ay tsy.length cy)] ∧ Below w.heap.size w ((w.alloc (.cells #[.int .i64 3, .string ss, .bool n, .int .i64 lo, .int .i64 hi, .slice (some ⟨b, o, none⟩) 2 cap] 26)).alloc p).drew from fun p => by
  have hb2 := below_two w (.cells #[.int .i64 3, .string ss, .bool n, .int .i64 lo, .int .i64 hi, .slice (some ⟨b, o, none⟩) 2 cap] 26) p
  have ec : ∀ j, ((w.alloc (.cells #[.int .i64 3, .string ss, .bool n, .int .i64 lo, .int .i64 hi, .slice (some ⟨b, o, none⟩) 2 cap] 26)).alloc p).cell? ⟨b, j, none⟩ = w.cell? ⟨b, j, none⟩ := fun j => hb2.cell (p := ⟨b, j, none⟩) hbl
  have hbx := ((Box.start (k := 3) (s := ss) (n := n) (lo := lo) (hi := hi) (ts := [.node kx sx nx lox hix tsx, .node ky sy ny loy hiy tsy]) (a := some ⟨b, o, none⟩) (cap := cap) w 26).step ((Below.refl _ _).alloc (Nat.le_refl _) p)).1
  exact ⟨CellsAre.drew _ ⟨hbx.2.2.2.2.2, (ec _).trans ex0, (ec _).trans ex1, (ec _).trans ex2, (ec _).trans ex3, (ec _).trans ex4, (ec _).trans ex5, (ec _).trans ey0, (ec _).trans ey1, (ec _).trans ey2, (ec _).trans ey3, (ec _).trans ey4, (ec _).trans ey5, trivial⟩, hb2.drew⟩)
 have HBX := qd (fun p => (Box.start (k := 3) (s := ss) (n := n) (lo := lo) (hi := hi) (ts := [.node kx sx nx lox hix tsx, .node ky sy ny loy hiy tsy]) (a := some ⟨b, o, none⟩) (cap := cap) w 26).step ((Below.refl _ _).alloc (Nat.le_refl _) p))
 obtain ⟨⟨x0, x1, x2, x3, x4, x5⟩, _⟩ := HBX.out (.cells #[] 3)
 clear hx hy hkx hky hgx hgy hp hk ex0 ex1 ex2 ex3 ex4 ex5 ey0 ey1 ey2 ey3 ey4 ey5 x1 x2 x3 x4 x5
 go_enter Tryz.func54, Tryz.ntmps54
 go_wp2_with fail
 refine wp_region_held_drew (S := (fun w' => (w'.cell? ⟨w.heap.size, 5, none⟩ = some (.slice (some ⟨b, o, none⟩) 2 cap) ∧ w'.cell? ⟨b, o, none⟩ = some (.int .i64 kx) ∧ w'.cell? ⟨b, o + 1, none⟩ = some (.string sx) ∧ w'.cell? ⟨b, o + 2, none⟩ = some (.bool nx) ∧ w'.cell? ⟨b, o + 3, none⟩ = some (.int .i64 lox) ∧ w'.cell? ⟨b, o + 4, none⟩ = some (.int .i64 hix) ∧ w'.cell? ⟨b, o + 5, none⟩ = some (.slice ax tsx.length cx) ∧ w'.cell? ⟨b, o + 6, none⟩ = some (.int .i64 ky) ∧ w'.cell? ⟨b, o + 7, none⟩ = some (.string sy) ∧ w'.cell? ⟨b, o + 8, none⟩ = some (.bool ny) ∧ w'.cell? ⟨b, o + 9, none⟩ = some (.int .i64 loy) ∧ w'.cell? ⟨b, o + 10, none⟩ = some (.int .i64 hiy) ∧ w'.cell? ⟨b, o + 11, none⟩ = some (.slice ay tsy.length cy) ∧ True) ∧ Below w.heap.size w w')) (by kernel_rfl) (HS0.out _) (fun hHeld => ?_)
 refine tkA 0 ?_
 try simp only [nmA, Act.put]
 refine tkA 1 ?_
 try simp only [nmA, Act.put]
 refine tkA 2 ?_
 try simp only [nmA, Act.put]
 refine tkA 3 ?_
 try simp only [nmA, Act.put]
 refine tkA 4 ?_
 try simp only [nmA, Act.put]
 refine tkA 5 ?_
 try simp only [nmA, Act.put]
 refine tkA 6 ?_
 try simp only [nmA, Act.put]
 refine tkA 7 ?_
 try simp only [nmA, Act.put]
 refine tkA 8 ?_
 try simp only [nmA, Act.put]
 refine tkA 9 ?_
 try simp only [nmA, Act.put]
 refine tkA 10 ?_
 try simp only [nmA, Act.put]
 refine rdA 11 (fun K hK => ?_)
 go_simp
 refine (HKX.out.call _ _ _ hHeld.2 (HF.out _ hHeld.2)).mono ?_
 rintro e w2 ⟨v2, z2, rfl, hp2, hz2, hb2⟩
 go_wp2_with fail
 refine hK.out _ _ (Held.step (W := w) (l := [(w.heap.size, 5, .slice (some ⟨b, o, none⟩) 2 cap), (b, o, .int .i64 kx), (b, o + 1, .string sx), (b, o + 2, .bool nx), (b, o + 3, .int .i64 lox), (b, o + 4, .int .i64 hix), (b, o + 5, .slice ax tsx.length cx), (b, o + 6, .int .i64 ky), (b, o + 7, .string sy), (b, o + 8, .bool ny), (b, o + 9, .int .i64 loy), (b, o + 10, .int .i64 hiy), (b, o + 11, .slice ay tsy.length cy)]) hHeld hb2) (fun hHeld => ?_)
 clear hK K
 try simp only [nmA, Act.put]
 refine rdA 12 (fun K hK => ?_)
 go_simp
 refine (HKY.out.call _ _ _ hHeld.2 (hp2)).mono ?_
 rintro e w3 ⟨v3, z3, rfl, hp3, hz3, hb3⟩
 go_wp2_with fail
 refine hK.out _ _ (Held.step (W := w) (l := [(w.heap.size, 5, .slice (some ⟨b, o, none⟩) 2 cap), (b, o, .int .i64 kx), (b, o + 1, .string sx), (b, o + 2, .bool nx), (b, o + 3, .int .i64 lox), (b, o + 4, .int .i64 hix), (b, o + 5, .slice ax tsx.length cx), (b, o + 6, .int .i64 ky), (b, o + 7, .string sy), (b, o + 8, .bool ny), (b, o + 9, .int .i64 loy), (b, o + 10, .int .i64 hiy), (b, o + 11, .slice ay tsy.length cy)]) hHeld hb3) (fun hHeld => ?_)
 clear hK K
 try simp only [nmA, Act.put]
 refine tkA 13 ?_
 try simp only [nmA, Act.put]
 refine wpAnyH_done (by kernel_rfl) ?_ _
 have HE := qd hHeld.2
 go_wp2_with fail
 go_ret
 refine StPost.of hp3 (fun j => ?_) HE.out
 rw [hz3]
 exact ⟨fun ⟨m, a, c⟩ => by obtain ⟨i, a1, a2⟩ := (hz2 m).1 a; exact ⟨i, a1, (HM.out i j).2 ⟨m, a2, c⟩⟩, fun ⟨i, a, c⟩ => by obtain ⟨m, c1, c2⟩ := (HM.out i j).1 c; exact ⟨m, (hz2 m).2 ⟨i, a, c1⟩, c2⟩⟩
set_option maxRecDepth 100000 in
set_option maxHeartbeats 4000000 in
theorem stK4 (ss : ByteArray) (n : Bool) (lo hi : Int) (xx xy : RT) (s : ByteArray) (a : Option Addr) (cap : Nat) (w : World) (xs : List Nat) (v : Value) (hs : s.size ≤ 1048576) (hx : stOne xx) (hy : stOne xy) (hgx : RT.good xx) (hgy : RT.good xy) (hk : Kids 0 w [xx, xy] a) (hp : PRow w xs s.size v) :
 Calls Tryz.prog 54 #[.agg #[.int .i64 4, .string ss, .bool n, .int .i64 lo, .int .i64 hi, .slice a 2 cap], .string s, v] w (StPost s xs w (RT.M s.data.toList (.node 4 ss n lo hi [xx, xy]))) := by
 obtain ⟨ax, cx, hex, hkx⟩ := hk.elem 0 (by simp)
 obtain ⟨ay, cy, hey, hky⟩ := hk.elem 1 (by simp)
 simp only [List.getElem_cons_zero, List.getElem_cons_succ] at hex hkx hey hky
 obtain ⟨b, o, rfl, _, hbl, ex0, ex1, ex2, ex3, ex4, ex5, _, _⟩ := hex
 obtain ⟨b2, o2, e2, _, _, ey0, ey1, ey2, ey3, ey4, ey5, _, _⟩ := hey
 cases e2
 have HKX := qd (hx.step (cap := cx) hgx hs hkx)
 have HKY := qd (hy.step (cap := cy) hgy hs hky)
 have HM := qd (show ∀ i j, RT.M s.data.toList (.node 4 ss n lo hi [xx, xy]) i j ↔ RT.M s.data.toList xx i j ∨ RT.M s.data.toList xy i j from fun i j => RT.M_alt _ _ _ _ _ _ _ _ _)
 generalize RT.M s.data.toList (.node 4 ss n lo hi [xx, xy]) = R at *
 generalize RT.M s.data.toList xx = Rx at *
 generalize RT.M s.data.toList xy = Ry at *
 obtain ⟨kx, sx, nx, lox, hix, tsx⟩ := xx
 obtain ⟨ky, sy, ny, loy, hiy, tsy⟩ := xy
 simp only [RT.kind, RT.set, RT.neg, RT.low, RT.high, RT.kids, reV, Nat.zero_mul, Nat.add_zero, Nat.one_mul, Nat.add_assoc, Nat.reduceAdd] at *
 have HF := qd (fun W (hW : Below w.heap.size w W) => hp.kept hW)
 have HS0 := qd (show ∀ p, CellsAre ((w.alloc (.cells #[.int .i64 4, .string ss, .bool n, .int .i64 lo, .int .i64 hi, .slice (some ⟨b, o, none⟩) 2 cap] 26)).alloc p).drew [(w.heap.size, 5, .slice (some ⟨b, o, none⟩) 2 cap), (b, o, .int .i64 kx), (b, o + 1, .string sx), (b, o + 2, .bool nx), (b, o + 3, .int .i64 lox), (b, o + 4, .int .i64 hix), (b, o + 5, .slice ax tsx.length cx), (b, o + 6, .int .i64 ky), (b, o + 7, .string sy), (b, o + 8, .bool ny), (b, o + 9, .int .i64 loy), (b, o + 10, .int .i64 hiy), (b, o + 11, .slice ay tsy.length cy)] ∧ Below w.heap.size w ((w.alloc (.cells #[.int .i64 4, .string ss, .bool n, .int .i64 lo, .int .i64 hi, .slice (some ⟨b, o, none⟩) 2 cap] 26)).alloc p).drew from fun p => by
  have hb2 := below_two w (.cells #[.int .i64 4, .string ss, .bool n, .int .i64 lo, .int .i64 hi, .slice (some ⟨b, o, none⟩) 2 cap] 26) p
  have ec : ∀ j, ((w.alloc (.cells #[.int .i64 4, .string ss, .bool n, .int .i64 lo, .int .i64 hi, .slice (some ⟨b, o, none⟩) 2 cap] 26)).alloc p).cell? ⟨b, j, none⟩ = w.cell? ⟨b, j, none⟩ := fun j => hb2.cell (p := ⟨b, j, none⟩) hbl
  have hbx := ((Box.start (k := 4) (s := ss) (n := n) (lo := lo) (hi := hi) (ts := [.node kx sx nx lox hix tsx, .node ky sy ny loy hiy tsy]) (a := some ⟨b, o, none⟩) (cap := cap) w 26).step ((Below.refl _ _).alloc (Nat.le_refl _) p)).1
  exact ⟨CellsAre.drew _ ⟨hbx.2.2.2.2.2, (ec _).trans ex0, (ec _).trans ex1, (ec _).trans ex2, (ec _).trans ex3, (ec _).trans ex4, (ec _).trans ex5, (ec _).trans ey0, (ec _).trans ey1, (ec _).trans ey2, (ec _).trans ey3, (ec _).trans ey4, (ec _).trans ey5, trivial⟩, hb2.drew⟩)
 have HBX := qd (fun p => (Box.start (k := 4) (s := ss) (n := n) (lo := lo) (hi := hi) (ts := [.node kx sx nx lox hix tsx, .node ky sy ny loy hiy tsy]) (a := some ⟨b, o, none⟩) (cap := cap) w 26).step ((Below.refl _ _).alloc (Nat.le_refl _) p))
 obtain ⟨⟨x0, x1, x2, x3, x4, x5⟩, _⟩ := HBX.out (.cells #[] 3)
 clear hx hy hkx hky hgx hgy hp hk ex0 ex1 ex2 ex3 ex4 ex5 ey0 ey1 ey2 ey3 ey4 ey5 x1 x2 x3 x4 x5
 go_enter Tryz.func54, Tryz.ntmps54
 go_wp2_with fail
 refine wp_region_held_drew (S := (fun w' => (w'.cell? ⟨w.heap.size, 5, none⟩ = some (.slice (some ⟨b, o, none⟩) 2 cap) ∧ w'.cell? ⟨b, o, none⟩ = some (.int .i64 kx) ∧ w'.cell? ⟨b, o + 1, none⟩ = some (.string sx) ∧ w'.cell? ⟨b, o + 2, none⟩ = some (.bool nx) ∧ w'.cell? ⟨b, o + 3, none⟩ = some (.int .i64 lox) ∧ w'.cell? ⟨b, o + 4, none⟩ = some (.int .i64 hix) ∧ w'.cell? ⟨b, o + 5, none⟩ = some (.slice ax tsx.length cx) ∧ w'.cell? ⟨b, o + 6, none⟩ = some (.int .i64 ky) ∧ w'.cell? ⟨b, o + 7, none⟩ = some (.string sy) ∧ w'.cell? ⟨b, o + 8, none⟩ = some (.bool ny) ∧ w'.cell? ⟨b, o + 9, none⟩ = some (.int .i64 loy) ∧ w'.cell? ⟨b, o + 10, none⟩ = some (.int .i64 hiy) ∧ w'.cell? ⟨b, o + 11, none⟩ = some (.slice ay tsy.length cy) ∧ True) ∧ Below w.heap.size w w')) (by kernel_rfl) (HS0.out _) (fun hHeld => ?_)
 refine tkA 0 ?_
 try simp only [nmA, Act.put]
 refine tkA 1 ?_
 try simp only [nmA, Act.put]
 refine tkA 2 ?_
 try simp only [nmA, Act.put]
 refine tkA 3 ?_
 try simp only [nmA, Act.put]
 refine tkA 4 ?_
 try simp only [nmA, Act.put]
 refine tkA 5 ?_
 try simp only [nmA, Act.put]
 refine tkA 7 ?_
 try simp only [nmA, Act.put]
 refine tkA 8 ?_
 try simp only [nmA, Act.put]
 refine tkA 9 ?_
 try simp only [nmA, Act.put]
 refine tkA 10 ?_
 try simp only [nmA, Act.put]
 refine tkA 11 ?_
 try simp only [nmA, Act.put]
 refine tkA 12 ?_
 try simp only [nmA, Act.put]
 refine rdA 6 (fun K hK => ?_)
 go_simp
 refine (HKX.out.call _ _ _ hHeld.2 (HF.out _ hHeld.2)).mono ?_
 rintro e w2 ⟨v2, z2, rfl, hp2, hz2, hb2⟩
 go_wp2_with fail
 refine hK.out _ _ (Held.step (W := w) (l := [(w.heap.size, 5, .slice (some ⟨b, o, none⟩) 2 cap), (b, o, .int .i64 kx), (b, o + 1, .string sx), (b, o + 2, .bool nx), (b, o + 3, .int .i64 lox), (b, o + 4, .int .i64 hix), (b, o + 5, .slice ax tsx.length cx), (b, o + 6, .int .i64 ky), (b, o + 7, .string sy), (b, o + 8, .bool ny), (b, o + 9, .int .i64 loy), (b, o + 10, .int .i64 hiy), (b, o + 11, .slice ay tsy.length cy)]) hHeld hb2) (fun hHeld => ?_)
 clear hK K
 try simp only [nmA, Act.put]
 refine rdA 13 (fun K hK => ?_)
 go_simp
 refine (HKY.out.call _ _ _ hHeld.2 (HF.out _ hHeld.2)).mono ?_
 rintro e w3 ⟨v3, z3, rfl, hp3, hz3, hb3⟩
 go_wp2_with fail
 refine hK.out _ _ (Held.step (W := w) (l := [(w.heap.size, 5, .slice (some ⟨b, o, none⟩) 2 cap), (b, o, .int .i64 kx), (b, o + 1, .string sx), (b, o + 2, .bool nx), (b, o + 3, .int .i64 lox), (b, o + 4, .int .i64 hix), (b, o + 5, .slice ax tsx.length cx), (b, o + 6, .int .i64 ky), (b, o + 7, .string sy), (b, o + 8, .bool ny), (b, o + 9, .int .i64 loy), (b, o + 10, .int .i64 hiy), (b, o + 11, .slice ay tsy.length cy)]) hHeld hb3) (fun hHeld => ?_)
 clear hK K
 try simp only [nmA, Act.put]
 refine rdA 14 (fun K hK => ?_)
 go_simp
 refine (l04All_any _ _ s.size _ _ _ (hp2.kept hb3) (hp3) hs).mono ?_
 rintro e w5 ⟨v5, rfl, hp5, hb5⟩
 go_wp2_with fail
 refine hK.out _ _ (Held.step (W := w) (l := [(w.heap.size, 5, .slice (some ⟨b, o, none⟩) 2 cap), (b, o, .int .i64 kx), (b, o + 1, .string sx), (b, o + 2, .bool nx), (b, o + 3, .int .i64 lox), (b, o + 4, .int .i64 hix), (b, o + 5, .slice ax tsx.length cx), (b, o + 6, .int .i64 ky), (b, o + 7, .string sy), (b, o + 8, .bool ny), (b, o + 9, .int .i64 loy), (b, o + 10, .int .i64 hiy), (b, o + 11, .slice ay tsy.length cy)]) hHeld hb5) (fun hHeld => ?_)
 clear hK K
 try simp only [nmA, Act.put]
 refine tkA 15 ?_
 try simp only [nmA, Act.put]
 refine wpAnyH_done (by kernel_rfl) ?_ _
 have HE := qd hHeld.2
 go_wp2_with fail
 go_ret
 refine StPost.of hp5 (fun j => ?_) HE.out
 rw [allN_mem, hz2, hz3]
 exact ⟨fun c => by
  rcases c with ⟨i, a, c⟩ | ⟨i, a, c⟩
  · exact ⟨i, a, (HM.out i j).2 (.inl c)⟩
  · exact ⟨i, a, (HM.out i j).2 (.inr c)⟩, fun ⟨i, a, c⟩ => by
  rcases (HM.out i j).1 c with c | c
  · exact .inl ⟨i, a, c⟩
  · exact .inr ⟨i, a, c⟩⟩
def goes (F : Nat → Option Nat) (xs : List Nat) : List Nat := xs.filterMap F
theorem goes_take (F : Nat → Option Nat) (xs : List Nat) (g : Nat) (h : g < xs.length) : goes F (xs.take (g + 1)) = goes F (xs.take g) ++ (F xs[g]).toList := by
 unfold goes
 rw [List.take_add_one, List.getElem?_eq_getElem h, List.filterMap_append]
 congr 1
theorem goes_none {F : Nat → Option Nat} {xs : List Nat} {g : Nat} (h : g < xs.length) (e : F xs[g] = none) : goes F (xs.take (g + 1)) = goes F (xs.take g) := by rw [goes_take F xs g h, e]; simp
theorem goes_some {F : Nat → Option Nat} {xs : List Nat} {g y : Nat} (h : g < xs.length) (e : F xs[g] = some y) : goes F (xs.take (g + 1)) = goes F (xs.take g) ++ [y] := by rw [goes_take F xs g h, e]; rfl
theorem goes_len (F : Nat → Option Nat) (xs : List Nat) : (goes F xs).length ≤ xs.length := List.length_filterMap_le F xs
theorem goes_asc {F : Nat → Option Nat} (hF : ∀ a b x y, a < b → F a = some x → F b = some y → x < y) (xs : List Nat) (h : AscN xs) : AscN (goes F xs) := by
 unfold AscN goes at *
 exact List.Pairwise.filterMap F (fun a b hab x hx y hy => hF a b x y hab hx hy) h
theorem goes_mem (F : Nat → Option Nat) (xs : List Nat) (j : Nat) : j ∈ goes F xs ↔ ∃ i, i ∈ xs ∧ F i = some j := by
 unfold goes; rw [List.mem_filterMap]
structure GoI (w : World) (k : Int) (ss : ByteArray) (n : Bool) (lo hi : Int) (a : Option Addr) (cap : Nat) (ys : List Nat) (o : Value) (wr : World) : Prop where
 row : OwnI (w.heap.size + 1) wr o ys
 ne : o ≠ .slice none 0 0
 bx : Box w.heap.size k ss n lo hi [] a cap wr
 be : Below w.heap.size w wr
theorem GoI.start (w : World) (k : Int) (ss : ByteArray) (n : Bool) (lo hi : Int) (a : Option Addr) (cap : Nat) : GoI w k ss n lo hi a cap [] (.slice (some ⟨w.heap.size + 1, 0, none⟩) 0 0) ((w.alloc (.cells #[.int .i64 k, .string ss, .bool n, .int .i64 lo, .int .i64 hi, .slice a 0 cap] 26)).alloc (.cells #[] 3)) where
 row := by
  have := ownI_start (B := w.heap.size + 1) (w := w.alloc (.cells #[.int .i64 k, .string ss, .bool n, .int .i64 lo, .int .i64 hi, .slice a 0 cap] 26)) (by simp)
  simpa using this
 ne := by simp
 bx := (Box.start (k := k) (s := ss) (n := n) (lo := lo) (hi := hi) (ts := []) (a := a) (cap := cap) w 26).step ((Below.refl _ _).alloc (Nat.le_refl _) _)
 be := below_two w _ _
theorem GoI.step {w : World} {k : Int} {ss : ByteArray} {n : Bool} {lo hi : Int} {a : Option Addr} {cap : Nat} {ys : List Nat} {o : Value} {wr w2 : World} (h : GoI w k ss n lo hi a cap ys o wr) (hb : Below wr.heap.size wr w2) : GoI w k ss n lo hi a cap ys o w2 :=
 ⟨h.row.kept hb, h.ne, h.bx.step hb, h.be.trans (hb.mono h.be.size)⟩
theorem GoI.more {w : World} {k : Int} {ss : ByteArray} {n : Bool} {lo hi : Int} {a : Option Addr} {cap : Nat} {ys ys2 : List Nat} {o o2 : Value} {wr w2 : World} (h : GoI w k ss n lo hi a cap ys o wr) (hr : OwnI (w.heap.size + 1) w2 o2 ys2) (hn : o2 ≠ .slice none 0 0) (hb : Below (w.heap.size + 1) wr w2) : GoI w k ss n lo hi a cap ys2 o2 w2 := by
 obtain ⟨⟨h0, h1, h2, h3, h4, h5⟩, q⟩ := h.bx
 have e : ∀ j, w2.cell? ⟨w.heap.size, j, none⟩ = wr.cell? ⟨w.heap.size, j, none⟩ := fun j => hb.cell (p := ⟨w.heap.size, j, none⟩) (by show w.heap.size < w.heap.size + 1; omega)
 exact ⟨hr, hn, ⟨⟨(e _).trans h0, (e _).trans h1, (e _).trans h2, (e _).trans h3, (e _).trans h4, (e _).trans h5⟩, Nat.lt_of_lt_of_le q hb.size⟩, h.be.trans (hb.mono (by omega))⟩
theorem GoI.fin {w : World} {k : Int} {ss : ByteArray} {n : Bool} {lo hi : Int} {a : Option Addr} {cap : Nat} {ys : List Nat} {o : Value} {wr : World} {s : ByteArray} {xs : List Nat} {R : Nat → Nat → Prop} (h : GoI w k ss n lo hi a cap ys o wr) (ha : AscN ys) (hm : ∀ x ∈ ys, x ≤ s.size) (hR : ∀ j, j ∈ ys ↔ ∃ i, i ∈ xs ∧ R i j) : StPost s xs w R (.returned o) wr := by
 rcases h.row.row with ⟨e, _⟩ | ⟨b, c, rfl, _, hr⟩
 · exact absurd e h.ne
 · exact StPost.of ⟨⟨b, c, rfl, hr⟩, ha, hm⟩ hR h.be
theorem oneS {w : World} {g y : Nat} (h : w.cell? ⟨g, 0, none⟩ = some (.int .i64 ((y : Int) + 1))) : ∀ (j : Nat) (hj : j < [y + 1].length), w.cell? ((⟨g, 0, none⟩ : Addr).add j) = some (iV [y + 1][j]) :=
 oneI (n := y + 1) (by rw [h]; unfold iV; simp)
theorem oneW {w : World} {g y : Nat} (h : w.cell? ⟨g, 0, none⟩ = some (.int .i64 (y : Int))) : ∀ (j : Nat) (hj : j < [y].length), w.cell? ((⟨g, 0, none⟩ : Addr).add j) = some (iV [y][j]) := oneI h
theorem boxS_step {p : Nat} {k : Int} {ss : ByteArray} {n : Bool} {lo hi : Int} {a : Option Addr} {cap : Nat} {w W W' : World} (h : Box p k ss n lo hi [] a cap W ∧ Below w.heap.size w W) (hb : Below W.heap.size W W') : Box p k ss n lo hi [] a cap W' ∧ Below w.heap.size w W' := ⟨h.1.step hb, h.2.trans (hb.mono h.2.size)⟩
def headF (i : Nat) : Option Nat := if i = 0 then some i else none
def tailF (m i : Nat) : Option Nat := if i = m then some i else none
def byteF (l : List UInt8) (k : Int) (ss : ByteArray) (n : Bool) (i : Nat) : Option Nat := if i < l.length ∧ RT.takes k ss n (l.getD i 0) = true then some (i + 1) else none
theorem headF_mono : ∀ a b x y, a < b → headF a = some x → headF b = some y → x < y := fun a b x y h h1 h2 => by
 unfold headF at h1 h2
 split at h1 <;> split at h2 <;> simp_all
theorem tailF_mono (m : Nat) : ∀ a b x y, a < b → tailF m a = some x → tailF m b = some y → x < y := fun a b x y h h1 h2 => by
 unfold tailF at h1 h2
 split at h1 <;> split at h2 <;> simp_all
theorem byteF_mono (l : List UInt8) (k : Int) (ss : ByteArray) (n : Bool) : ∀ a b x y, a < b → byteF l k ss n a = some x → byteF l k ss n b = some y → x < y := fun a b x y h h1 h2 => by
 unfold byteF at h1 h2
 split at h1
 · split at h2
   · cases h1; cases h2; omega
   · cases h2
 · cases h1
set_option maxRecDepth 100000 in
set_option maxHeartbeats 4000000 in
theorem stK6 (ss : ByteArray) (n : Bool) (lo hi : Int) (s : ByteArray) (a : Option Addr) (cap : Nat) (w : World) (xs : List Nat) (v : Value) (hs : s.size ≤ 1048576) (hss : ss.size ≤ 1048576) (hp : PRow w xs s.size v) :
 Calls Tryz.prog 54 #[.agg #[.int .i64 6, .string ss, .bool n, .int .i64 lo, .int .i64 hi, .slice a 0 cap], .string s, v] w (StPost s xs w (RT.M s.data.toList (.node 6 ss n lo hi []))) := by
 have HM := qd (show ∀ j, j ∈ goes (headF) xs ↔ ∃ i, i ∈ xs ∧ RT.M s.data.toList (.node 6 ss n lo hi []) i j from fun j => by
  rw [goes_mem]
  simp only [RT.M_head]
  unfold headF
  exact ⟨fun ⟨i, a, e⟩ => ⟨i, a, by split at e <;> simp_all⟩, fun ⟨i, a, e⟩ => ⟨i, a, by rw [if_pos e.2, e.1]⟩⟩)
 have HA := qd (goes_asc (F := headF) (headF_mono) xs hp.asc)
 have HL := qd (show ∀ x ∈ goes (headF) xs, x ≤ s.size from fun x hx => by
  obtain ⟨i, hi, e⟩ := (goes_mem _ xs x).1 hx
  have := hp.le i hi
  unfold headF at e
  split at e
  · cases e; omega
  · cases e)
 have HXL := hp.len
 obtain ⟨b0, c0, rfl, hr⟩ := hp.at_
 have HR := qd hr
 have HXE := qd hp.le
 have HS := qd hs
 have HSS := qd hss
 have HG0 := qd (GoI.start w 6 ss n lo hi a cap)
 have hxl : (xs.length : Int) ≤ 1048577 := by omega
 have HBX0 := qd HG0.out.bx
 obtain ⟨⟨x0, x1, x2, x3, x4, x5⟩, _⟩ := HBX0.out
 clear hr hp hs hss HXL
 generalize RT.M s.data.toList (.node 6 ss n lo hi []) = R at *
 go_enter Tryz.func54, Tryz.ntmps54
 go_wp2_with fail
 go_loopg [7, 8] (xs.length) (fun gg vo vi wr => ∃ g, g + gg = xs.length ∧ vi = .int .i64 (g : Int) ∧ GoI w 6 ss n lo hi a cap (goes (headF) (xs.take g)) vo wr)
 case atStart => exact ⟨0, by omega, rfl, HG0.out⟩
 case round =>
  obtain ⟨g, hgk, rfl, hG⟩ := hrel
  have HG := qd hG
  have HGK := qd hgk
  have hgl : (g : Int) ≤ (xs.length : Int) := by omega
  clear hG hgk x0 x1 x2 x3 x4 x5
  have HBX := qd HG.out.bx
  obtain ⟨⟨x0, x1, x2, x3, x4, x5⟩, _⟩ := HBX.out
  have HBS := qd (show Box w.heap.size 6 ss n lo hi [] a cap wr.drew ∧ Below wr.heap.size wr wr.drew from ⟨HG.out.bx.drew, (Below.refl _ wr).drew⟩)
  by_cases h0 : g < xs.length
  · have hgI : (g : Int) < (xs.length : Int) := by omega
    have cg := (HR.out.kept HG.out.be).cell g h0
    have HY := qd (show ∃ y, y = xs[g] from ⟨_, rfl⟩)
    obtain ⟨y, hy⟩ := HY.out
    rw [← hy] at cg
    unfold iV at cg
    have hym : (y : Int) ≤ s.size := by have := HXE.out _ (List.getElem_mem h0); rw [← hy] at this; omega
    have hsm : (s.size : Int) ≤ 1048576 := by have := HS.out; omega
    have HYE := qd hy
    have HLL := qd (show (goes (headF) (xs.take g)).length + 1 ≤ 1099511627776 from by
        have := goes_len (headF) (xs.take g)
        have h2 : (xs.take g).length ≤ xs.length := by simp; omega
        omega)
    have HNO := qd (fun e : (headF) y = none => goes_none (F := headF) (xs := xs) h0 (by rw [← HYE.out]; exact e))
    have HYES := qd (fun (z : Nat) (e : (headF) y = some z) => goes_some (F := headF) (xs := xs) h0 (by rw [← HYE.out]; exact e))
    clear hy HY
    by_cases h1 : y = 0
    · have HNX := qd (HYES.out y (by unfold headF; rw [if_pos h1]))
      have e1 : ((y : Int) == 0) = true := by rw [beq_iff_eq]; omega
      clear h1 HNO HYES
      go_wp2_with (at_builtin; refine wpList_append_ints rfl (.tmp 83) (.tmp 85) rfl (w.heap.size + 1) _ _ rfl (HG.out.row.alloc _) HG.out.ne _ 1 1 [y] rfl rfl (oneW (cell_one _ _ _)) HLL.out (by have := HG.out.bx.2; simp; omega) ?_; intro v3 w3 ho3 hn3 hb3 hg3)
      have HG3 := qd (GoI.more (wr := wr) HG.out ho3 hn3 (((Below.refl _ _).alloc (by have := HG.out.bx.2; omega) _).trans hb3))
      clear ho3 hn3 hb3
      go_wp2_with fail
      go_roundg (gk - 1)
      case rel => exact ⟨g + 1, by have := HGK.out; omega, by go_num, by rw [HNX.out]; exact HG3.out⟩
      case measure => have := HGK.out; omega
    · have HNX := qd (HNO.out (by unfold headF; rw [if_neg h1]))
      have e1 : ((y : Int) == 0) = false := by rw [beq_eq_false_iff_ne]; omega
      clear h1 HNO HYES
      go_wp2_with fail
      clear x0 x1 x2 x3 x4 x5
      refine wp_region_held_drew (S := (fun w' => ((w'.cell? ⟨w.heap.size, 0, none⟩ = some (.int .i64 6) ∧ w'.cell? ⟨w.heap.size, 1, none⟩ = some (.string ss) ∧ w'.cell? ⟨w.heap.size, 2, none⟩ = some (.bool n) ∧ w'.cell? ⟨w.heap.size, 3, none⟩ = some (.int .i64 lo) ∧ w'.cell? ⟨w.heap.size, 4, none⟩ = some (.int .i64 hi) ∧ w'.cell? ⟨w.heap.size, 5, none⟩ = some (.slice a 0 cap)) ∧ w.heap.size < w'.heap.size) ∧ Below wr.heap.size wr w')) (by kernel_rfl) HBS.out (fun hHeld => ?_)
      refine tkA 0 ?_
      try simp only [nmA, Act.put]
      refine tkA 1 ?_
      try simp only [nmA, Act.put]
      refine tkA 2 ?_
      try simp only [nmA, Act.put]
      refine tkA 3 ?_
      try simp only [nmA, Act.put]
      refine tuA 4 ?_
      try simp only [nmA, Act.put]
      refine tuA 5 ?_
      try simp only [nmA, Act.put]
      refine tuA 6 ?_
      try simp only [nmA, Act.put]
      refine tkA 7 ?_
      try simp only [nmA, Act.put]
      refine tkA 8 ?_
      try simp only [nmA, Act.put]
      refine tuA 9 ?_
      try simp only [nmA, Act.put]
      refine tuA 10 ?_
      try simp only [nmA, Act.put]
      refine tuA 11 ?_
      try simp only [nmA, Act.put]
      refine tuA 12 ?_
      try simp only [nmA, Act.put]
      refine tkA 13 ?_
      try simp only [nmA, Act.put]
      refine tkA 14 ?_
      try simp only [nmA, Act.put]
      refine tuA 15 ?_
      try simp only [nmA, Act.put]
      refine tuA 16 ?_
      try simp only [nmA, Act.put]
      refine tuA 17 ?_
      try simp only [nmA, Act.put]
      refine tuA 18 ?_
      try simp only [nmA, Act.put]
      refine tuA 19 ?_
      try simp only [nmA, Act.put]
      refine tkA 20 ?_
      try simp only [nmA, Act.put]
      refine tkA 21 ?_
      try simp only [nmA, Act.put]
      refine wpAnyH_done (by kernel_rfl) ?_ _
      have HG2 := qd (HG.out.step hHeld.2)
      clear hHeld
      go_wp2_with fail
      go_roundg (gk - 1)
      case rel => exact ⟨g + 1, by have := HGK.out; omega, by go_num, by rw [HNX.out]; exact HG2.out⟩
      case measure => have := HGK.out; omega
  · have HE := qd (show xs.take g = xs from List.take_of_length_le (by omega))
    go_wp2_with fail
    go_ret
    have hG := HG.out
    rw [HE.out] at hG
    exact hG.fin HA.out HL.out HM.out
set_option maxRecDepth 100000 in
set_option maxHeartbeats 4000000 in
theorem stK7 (ss : ByteArray) (n : Bool) (lo hi : Int) (s : ByteArray) (a : Option Addr) (cap : Nat) (w : World) (xs : List Nat) (v : Value) (hs : s.size ≤ 1048576) (hss : ss.size ≤ 1048576) (hp : PRow w xs s.size v) :
 Calls Tryz.prog 54 #[.agg #[.int .i64 7, .string ss, .bool n, .int .i64 lo, .int .i64 hi, .slice a 0 cap], .string s, v] w (StPost s xs w (RT.M s.data.toList (.node 7 ss n lo hi []))) := by
 have HM := qd (show ∀ j, j ∈ goes (tailF s.size) xs ↔ ∃ i, i ∈ xs ∧ RT.M s.data.toList (.node 7 ss n lo hi []) i j from fun j => by
  rw [goes_mem]
  simp only [RT.M_tail]
  unfold tailF
  have el : s.data.toList.length = s.size := by simp
  rw [el]
  exact ⟨fun ⟨i, a, e⟩ => ⟨i, a, by split at e <;> simp_all⟩, fun ⟨i, a, e⟩ => ⟨i, a, by rw [if_pos e.2, e.1]⟩⟩)
 have HA := qd (goes_asc (F := tailF s.size) (tailF_mono _) xs hp.asc)
 have HL := qd (show ∀ x ∈ goes (tailF s.size) xs, x ≤ s.size from fun x hx => by
  obtain ⟨i, hi, e⟩ := (goes_mem _ xs x).1 hx
  have := hp.le i hi
  unfold tailF at e
  split at e
  · cases e; omega
  · cases e)
 have HXL := hp.len
 obtain ⟨b0, c0, rfl, hr⟩ := hp.at_
 have HR := qd hr
 have HXE := qd hp.le
 have HS := qd hs
 have HSS := qd hss
 have HG0 := qd (GoI.start w 7 ss n lo hi a cap)
 have hxl : (xs.length : Int) ≤ 1048577 := by omega
 have HBX0 := qd HG0.out.bx
 obtain ⟨⟨x0, x1, x2, x3, x4, x5⟩, _⟩ := HBX0.out
 clear hr hp hs hss HXL
 generalize RT.M s.data.toList (.node 7 ss n lo hi []) = R at *
 go_enter Tryz.func54, Tryz.ntmps54
 go_wp2_with fail
 go_loopg [7, 8] (xs.length) (fun gg vo vi wr => ∃ g, g + gg = xs.length ∧ vi = .int .i64 (g : Int) ∧ GoI w 7 ss n lo hi a cap (goes (tailF s.size) (xs.take g)) vo wr)
 case atStart => exact ⟨0, by omega, rfl, HG0.out⟩
 case round =>
  obtain ⟨g, hgk, rfl, hG⟩ := hrel
  have HG := qd hG
  have HGK := qd hgk
  have hgl : (g : Int) ≤ (xs.length : Int) := by omega
  clear hG hgk x0 x1 x2 x3 x4 x5
  have HBX := qd HG.out.bx
  obtain ⟨⟨x0, x1, x2, x3, x4, x5⟩, _⟩ := HBX.out
  have HBS := qd (show Box w.heap.size 7 ss n lo hi [] a cap wr.drew ∧ Below wr.heap.size wr wr.drew from ⟨HG.out.bx.drew, (Below.refl _ wr).drew⟩)
  by_cases h0 : g < xs.length
  · have hgI : (g : Int) < (xs.length : Int) := by omega
    have cg := (HR.out.kept HG.out.be).cell g h0
    have HY := qd (show ∃ y, y = xs[g] from ⟨_, rfl⟩)
    obtain ⟨y, hy⟩ := HY.out
    rw [← hy] at cg
    unfold iV at cg
    have hym : (y : Int) ≤ s.size := by have := HXE.out _ (List.getElem_mem h0); rw [← hy] at this; omega
    have hsm : (s.size : Int) ≤ 1048576 := by have := HS.out; omega
    have HYE := qd hy
    have HLL := qd (show (goes (tailF s.size) (xs.take g)).length + 1 ≤ 1099511627776 from by
        have := goes_len (tailF s.size) (xs.take g)
        have h2 : (xs.take g).length ≤ xs.length := by simp; omega
        omega)
    have HNO := qd (fun e : (tailF s.size) y = none => goes_none (F := tailF s.size) (xs := xs) h0 (by rw [← HYE.out]; exact e))
    have HYES := qd (fun (z : Nat) (e : (tailF s.size) y = some z) => goes_some (F := tailF s.size) (xs := xs) h0 (by rw [← HYE.out]; exact e))
    clear hy HY
    by_cases h1 : y = s.size
    · have HNX := qd (HYES.out y (by unfold tailF; rw [if_pos h1]))
      have e1 : ((y : Int) == (s.size : Int)) = true := by rw [beq_iff_eq]; omega
      clear h1 HNO HYES
      go_wp2_with (at_builtin; refine wpList_append_ints rfl (.tmp 83) (.tmp 85) rfl (w.heap.size + 1) _ _ rfl (HG.out.row.alloc _) HG.out.ne _ 1 1 [y] rfl rfl (oneW (cell_one _ _ _)) HLL.out (by have := HG.out.bx.2; simp; omega) ?_; intro v3 w3 ho3 hn3 hb3 hg3)
      have HG3 := qd (GoI.more (wr := wr) HG.out ho3 hn3 (((Below.refl _ _).alloc (by have := HG.out.bx.2; omega) _).trans hb3))
      clear ho3 hn3 hb3
      go_wp2_with fail
      go_roundg (gk - 1)
      case rel => exact ⟨g + 1, by have := HGK.out; omega, by go_num, by rw [HNX.out]; exact HG3.out⟩
      case measure => have := HGK.out; omega
    · have HNX := qd (HNO.out (by unfold tailF; rw [if_neg h1]))
      have e1 : ((y : Int) == (s.size : Int)) = false := by rw [beq_eq_false_iff_ne]; omega
      clear h1 HNO HYES
      go_wp2_with fail
      clear x0 x1 x2 x3 x4 x5
      refine wp_region_held_drew (S := (fun w' => ((w'.cell? ⟨w.heap.size, 0, none⟩ = some (.int .i64 7) ∧ w'.cell? ⟨w.heap.size, 1, none⟩ = some (.string ss) ∧ w'.cell? ⟨w.heap.size, 2, none⟩ = some (.bool n) ∧ w'.cell? ⟨w.heap.size, 3, none⟩ = some (.int .i64 lo) ∧ w'.cell? ⟨w.heap.size, 4, none⟩ = some (.int .i64 hi) ∧ w'.cell? ⟨w.heap.size, 5, none⟩ = some (.slice a 0 cap)) ∧ w.heap.size < w'.heap.size) ∧ Below wr.heap.size wr w')) (by kernel_rfl) HBS.out (fun hHeld => ?_)
      refine tkA 0 ?_
      try simp only [nmA, Act.put]
      refine tkA 1 ?_
      try simp only [nmA, Act.put]
      refine tkA 2 ?_
      try simp only [nmA, Act.put]
      refine tkA 3 ?_
      try simp only [nmA, Act.put]
      refine tkA 4 ?_
      try simp only [nmA, Act.put]
      refine tkA 5 ?_
      try simp only [nmA, Act.put]
      refine tkA 6 ?_
      try simp only [nmA, Act.put]
      refine tkA 7 ?_
      try simp only [nmA, Act.put]
      refine tkA 8 ?_
      try simp only [nmA, Act.put]
      refine tuA 9 ?_
      try simp only [nmA, Act.put]
      refine tuA 10 ?_
      try simp only [nmA, Act.put]
      refine tuA 11 ?_
      try simp only [nmA, Act.put]
      refine tuA 12 ?_
      try simp only [nmA, Act.put]
      refine tkA 13 ?_
      try simp only [nmA, Act.put]
      refine tkA 14 ?_
      try simp only [nmA, Act.put]
      refine tuA 15 ?_
      try simp only [nmA, Act.put]
      refine tuA 16 ?_
      try simp only [nmA, Act.put]
      refine tuA 17 ?_
      try simp only [nmA, Act.put]
      refine tuA 18 ?_
      try simp only [nmA, Act.put]
      refine tuA 19 ?_
      try simp only [nmA, Act.put]
      refine tkA 20 ?_
      try simp only [nmA, Act.put]
      refine tkA 21 ?_
      try simp only [nmA, Act.put]
      refine wpAnyH_done (by kernel_rfl) ?_ _
      have HG2 := qd (HG.out.step hHeld.2)
      clear hHeld
      go_wp2_with fail
      go_roundg (gk - 1)
      case rel => exact ⟨g + 1, by have := HGK.out; omega, by go_num, by rw [HNX.out]; exact HG2.out⟩
      case measure => have := HGK.out; omega
  · have HE := qd (show xs.take g = xs from List.take_of_length_le (by omega))
    go_wp2_with fail
    go_ret
    have hG := HG.out
    rw [HE.out] at hG
    exact hG.fin HA.out HL.out HM.out
set_option maxRecDepth 100000 in
set_option maxHeartbeats 4000000 in
theorem stK1 (ss : ByteArray) (n : Bool) (lo hi : Int) (s : ByteArray) (a : Option Addr) (cap : Nat) (w : World) (xs : List Nat) (v : Value) (hs : s.size ≤ 1048576) (hss : ss.size ≤ 1048576) (hp : PRow w xs s.size v) :
 Calls Tryz.prog 54 #[.agg #[.int .i64 1, .string ss, .bool n, .int .i64 lo, .int .i64 hi, .slice a 0 cap], .string s, v] w (StPost s xs w (RT.M s.data.toList (.node 1 ss n lo hi []))) := by
 have HM := qd (show ∀ j, j ∈ goes (byteF s.data.toList 1 ss n) xs ↔ ∃ i, i ∈ xs ∧ RT.M s.data.toList (.node 1 ss n lo hi []) i j from fun j => by
  rw [goes_mem]
  simp only [RT.M_one _ 1 (.inl rfl)]
  unfold byteF
  exact ⟨fun ⟨i, a, e⟩ => ⟨i, a, by
   split at e
   · rename_i h; cases e; exact ⟨h.1, h.2, rfl⟩
   · cases e⟩, fun ⟨i, a, e⟩ => ⟨i, a, by rw [if_pos ⟨e.1, e.2.1⟩, e.2.2]⟩⟩)
 have HA := qd (goes_asc (F := byteF s.data.toList 1 ss n) (byteF_mono _ _ _ _) xs hp.asc)
 have HL := qd (show ∀ x ∈ goes (byteF s.data.toList 1 ss n) xs, x ≤ s.size from fun x hx => by
  obtain ⟨i, hi, e⟩ := (goes_mem _ xs x).1 hx
  have := hp.le i hi
  unfold byteF at e
  split at e
  · rename_i h
    have h1 : i < s.data.toList.length := h.1
    have el : s.data.toList.length = s.size := by simp
    cases e; omega
  · cases e)
 have HXL := hp.len
 obtain ⟨b0, c0, rfl, hr⟩ := hp.at_
 have HR := qd hr
 have HXE := qd hp.le
 have HS := qd hs
 have HSS := qd hss
 have HG0 := qd (GoI.start w 1 ss n lo hi a cap)
 have hxl : (xs.length : Int) ≤ 1048577 := by omega
 have HBX0 := qd HG0.out.bx
 obtain ⟨⟨x0, x1, x2, x3, x4, x5⟩, _⟩ := HBX0.out
 clear hr hp hs hss HXL
 generalize RT.M s.data.toList (.node 1 ss n lo hi []) = R at *
 go_enter Tryz.func54, Tryz.ntmps54
 go_wp2_with fail
 go_loopg [7, 8] (xs.length) (fun gg vo vi wr => ∃ g, g + gg = xs.length ∧ vi = .int .i64 (g : Int) ∧ GoI w 1 ss n lo hi a cap (goes (byteF s.data.toList 1 ss n) (xs.take g)) vo wr)
 case atStart => exact ⟨0, by omega, rfl, HG0.out⟩
 case round =>
  obtain ⟨g, hgk, rfl, hG⟩ := hrel
  have HG := qd hG
  have HGK := qd hgk
  have hgl : (g : Int) ≤ (xs.length : Int) := by omega
  clear hG hgk x0 x1 x2 x3 x4 x5
  have HBX := qd HG.out.bx
  obtain ⟨⟨x0, x1, x2, x3, x4, x5⟩, _⟩ := HBX.out
  have HBS := qd (show Box w.heap.size 1 ss n lo hi [] a cap wr.drew ∧ Below wr.heap.size wr wr.drew from ⟨HG.out.bx.drew, (Below.refl _ wr).drew⟩)
  by_cases h0 : g < xs.length
  · have hgI : (g : Int) < (xs.length : Int) := by omega
    have cg := (HR.out.kept HG.out.be).cell g h0
    have HY := qd (show ∃ y, y = xs[g] from ⟨_, rfl⟩)
    obtain ⟨y, hy⟩ := HY.out
    rw [← hy] at cg
    unfold iV at cg
    have hym : (y : Int) ≤ s.size := by have := HXE.out _ (List.getElem_mem h0); rw [← hy] at this; omega
    have hsm : (s.size : Int) ≤ 1048576 := by have := HS.out; omega
    have HYE := qd hy
    have HLL := qd (show (goes (byteF s.data.toList 1 ss n) (xs.take g)).length + 1 ≤ 1099511627776 from by
        have := goes_len (byteF s.data.toList 1 ss n) (xs.take g)
        have h2 : (xs.take g).length ≤ xs.length := by simp; omega
        omega)
    have HNO := qd (fun e : (byteF s.data.toList 1 ss n) y = none => goes_none (F := byteF s.data.toList 1 ss n) (xs := xs) h0 (by rw [← HYE.out]; exact e))
    have HYES := qd (fun (z : Nat) (e : (byteF s.data.toList 1 ss n) y = some z) => goes_some (F := byteF s.data.toList 1 ss n) (xs := xs) h0 (by rw [← HYE.out]; exact e))
    clear hy HY
    by_cases h1 : y < s.size
    · have h1I : decide ((y : Int) < (s.size : Int)) = true := by rw [decide_eq_true_eq]; omega
      have h1J : (y : Int) < (s.size : Int) := by omega
      have HT := qd (fun W => takes_any 1 ss n lo hi 0 a cap s[y] W HSS.out)
      have hgd : s.data.toList.getD y 0 = s[y] := by
       rw [List.getD_eq_getElem?_getD, List.getElem?_eq_getElem (by simpa using h1)]
       rfl
      have HGD := qd hgd
      clear hgd
      cases htk : RT.takes 1 ss n s[y]
      · have HNX := qd (HNO.out (by unfold byteF; rw [HGD.out, htk]; simp))
        rw [htk] at HT
        clear htk HNO HYES HGD
        go_wp2_with fail
        clear x0 x1 x2 x3 x4 x5
        refine wp_region_held_drew (S := (fun w' => ((w'.cell? ⟨w.heap.size, 0, none⟩ = some (.int .i64 1) ∧ w'.cell? ⟨w.heap.size, 1, none⟩ = some (.string ss) ∧ w'.cell? ⟨w.heap.size, 2, none⟩ = some (.bool n) ∧ w'.cell? ⟨w.heap.size, 3, none⟩ = some (.int .i64 lo) ∧ w'.cell? ⟨w.heap.size, 4, none⟩ = some (.int .i64 hi) ∧ w'.cell? ⟨w.heap.size, 5, none⟩ = some (.slice a 0 cap)) ∧ w.heap.size < w'.heap.size) ∧ Below wr.heap.size wr w')) (by kernel_rfl) HBS.out (fun hHeld => ?_)
        refine tkA 0 ?_
        try simp only [nmA, Act.put]
        refine tkA 1 ?_
        try simp only [nmA, Act.put]
        refine tkA 2 ?_
        try simp only [nmA, Act.put]
        refine tkA 3 ?_
        try simp only [nmA, Act.put]
        refine tkA 4 ?_
        try simp only [nmA, Act.put]
        refine tkA 5 ?_
        try simp only [nmA, Act.put]
        refine tkA 6 ?_
        try simp only [nmA, Act.put]
        refine tkA 7 ?_
        try simp only [nmA, Act.put]
        refine tkA 8 ?_
        try simp only [nmA, Act.put]
        refine tkA 9 ?_
        try simp only [nmA, Act.put]
        refine tkA 10 ?_
        try simp only [nmA, Act.put]
        refine tkA 11 ?_
        try simp only [nmA, Act.put]
        refine tkA 12 ?_
        try simp only [nmA, Act.put]
        refine tkA 13 ?_
        try simp only [nmA, Act.put]
        refine tkA 14 ?_
        try simp only [nmA, Act.put]
        refine tkA 15 ?_
        try simp only [nmA, Act.put]
        refine tkA 16 ?_
        try simp only [nmA, Act.put]
        refine tkA 17 ?_
        try simp only [nmA, Act.put]
        refine tkA 18 ?_
        try simp only [nmA, Act.put]
        refine rdA 19 (fun K hK => ?_)
        go_simp
        refine (HT.out _).mono ?_
        rintro e w2 ⟨rfl, hb2⟩
        go_wp2_with fail
        refine hK.out _ _ (boxS_step (w := wr) hHeld hb2) (fun hHeld => ?_)
        clear hK K
        try simp only [nmA, Act.put]
        refine tkA 20 ?_
        try simp only [nmA, Act.put]
        refine tkA 21 ?_
        try simp only [nmA, Act.put]
        refine wpAnyH_done (by kernel_rfl) ?_ _
        have HG2 := qd (HG.out.step hHeld.2)
        clear hHeld
        go_wp2_with fail
        go_roundg (gk - 1)
        case rel => exact ⟨g + 1, by have := HGK.out; omega, by go_num, by rw [HNX.out]; exact HG2.out⟩
        case measure => have := HGK.out; omega
      · have HNX := qd (HYES.out (y + 1) (by unfold byteF; rw [HGD.out, htk, if_pos ⟨by simpa using h1, rfl⟩]))
        rw [htk] at HT
        clear htk HNO HYES HGD
        go_wp2_with fail
        clear x0 x1 x2 x3 x4 x5
        refine wp_region_held_drew (S := (fun w' => ((w'.cell? ⟨w.heap.size, 0, none⟩ = some (.int .i64 1) ∧ w'.cell? ⟨w.heap.size, 1, none⟩ = some (.string ss) ∧ w'.cell? ⟨w.heap.size, 2, none⟩ = some (.bool n) ∧ w'.cell? ⟨w.heap.size, 3, none⟩ = some (.int .i64 lo) ∧ w'.cell? ⟨w.heap.size, 4, none⟩ = some (.int .i64 hi) ∧ w'.cell? ⟨w.heap.size, 5, none⟩ = some (.slice a 0 cap)) ∧ w.heap.size < w'.heap.size) ∧ Below wr.heap.size wr w')) (by kernel_rfl) HBS.out (fun hHeld => ?_)
        refine tkA 0 ?_
        try simp only [nmA, Act.put]
        refine tkA 1 ?_
        try simp only [nmA, Act.put]
        refine tkA 2 ?_
        try simp only [nmA, Act.put]
        refine tkA 3 ?_
        try simp only [nmA, Act.put]
        refine tkA 4 ?_
        try simp only [nmA, Act.put]
        refine tkA 5 ?_
        try simp only [nmA, Act.put]
        refine tkA 6 ?_
        try simp only [nmA, Act.put]
        refine tkA 7 ?_
        try simp only [nmA, Act.put]
        refine tkA 8 ?_
        try simp only [nmA, Act.put]
        refine tkA 9 ?_
        try simp only [nmA, Act.put]
        refine tkA 10 ?_
        try simp only [nmA, Act.put]
        refine tkA 11 ?_
        try simp only [nmA, Act.put]
        refine tkA 12 ?_
        try simp only [nmA, Act.put]
        refine tkA 13 ?_
        try simp only [nmA, Act.put]
        refine tkA 14 ?_
        try simp only [nmA, Act.put]
        refine tkA 15 ?_
        try simp only [nmA, Act.put]
        refine tkA 16 ?_
        try simp only [nmA, Act.put]
        refine tkA 17 ?_
        try simp only [nmA, Act.put]
        refine tkA 18 ?_
        try simp only [nmA, Act.put]
        refine rdA 19 (fun K hK => ?_)
        go_simp
        refine (HT.out _).mono ?_
        rintro e w2 ⟨rfl, hb2⟩
        go_wp2_with fail
        refine hK.out _ _ (boxS_step (w := wr) hHeld hb2) (fun hHeld => ?_)
        clear hK K
        try simp only [nmA, Act.put]
        refine tkA 20 ?_
        try simp only [nmA, Act.put]
        refine tkA 21 ?_
        try simp only [nmA, Act.put]
        refine wpAnyH_done (by kernel_rfl) ?_ _
        have HG2 := qd (HG.out.step hHeld.2)
        have HWW := qd hHeld.2
        clear hHeld
        go_wp2_with (at_builtin; refine wpList_append_ints rfl (.tmp 109) (.tmp 112) rfl (w.heap.size + 1) _ _ rfl (HG2.out.row.alloc _) HG2.out.ne _ 1 1 [y + 1] rfl rfl (oneS (cell_one _ _ _)) HLL.out (by have := HG2.out.bx.2; simp; omega) ?_; intro v3 w3 ho3 hn3 hb3 hg3)
        have HG3 := qd (GoI.more HG2.out ho3 hn3 (((Below.refl _ _).alloc (by have := HG2.out.bx.2; omega) _).trans hb3))
        clear ho3 hn3 hb3
        go_wp2_with fail
        go_roundg (gk - 1)
        case rel => exact ⟨g + 1, by have := HGK.out; omega, by go_num, by rw [HNX.out]; exact HG3.out⟩
        case measure => have := HGK.out; omega
    · have h1I : decide ((y : Int) < (s.size : Int)) = false := by rw [decide_eq_false_iff_not]; omega
      have h1N : decide (y < s.size) = false := by rw [decide_eq_false_iff_not]; omega
      have HNX := qd (HNO.out (by unfold byteF; rw [if_neg (fun h => h1 (by simpa using h.1))]))
      clear h1 HNO HYES
      go_wp2_with fail
      clear x0 x1 x2 x3 x4 x5
      refine wp_region_held_drew (S := (fun w' => ((w'.cell? ⟨w.heap.size, 0, none⟩ = some (.int .i64 1) ∧ w'.cell? ⟨w.heap.size, 1, none⟩ = some (.string ss) ∧ w'.cell? ⟨w.heap.size, 2, none⟩ = some (.bool n) ∧ w'.cell? ⟨w.heap.size, 3, none⟩ = some (.int .i64 lo) ∧ w'.cell? ⟨w.heap.size, 4, none⟩ = some (.int .i64 hi) ∧ w'.cell? ⟨w.heap.size, 5, none⟩ = some (.slice a 0 cap)) ∧ w.heap.size < w'.heap.size) ∧ Below wr.heap.size wr w')) (by kernel_rfl) HBS.out (fun hHeld => ?_)
      refine tkA 0 ?_
      try simp only [nmA, Act.put]
      refine tkA 1 ?_
      try simp only [nmA, Act.put]
      refine tkA 2 ?_
      try simp only [nmA, Act.put]
      refine tkA 3 ?_
      try simp only [nmA, Act.put]
      refine tkA 4 ?_
      try simp only [nmA, Act.put]
      refine tkA 5 ?_
      try simp only [nmA, Act.put]
      refine tkA 6 ?_
      try simp only [nmA, Act.put]
      refine tkA 7 ?_
      try simp only [nmA, Act.put]
      refine tkA 8 ?_
      try simp only [nmA, Act.put]
      refine tkA 9 ?_
      try simp only [nmA, Act.put]
      refine tkA 10 ?_
      try simp only [nmA, Act.put]
      refine tkA 11 ?_
      try simp only [nmA, Act.put]
      refine tkA 12 ?_
      try simp only [nmA, Act.put]
      refine tkA 13 ?_
      try simp only [nmA, Act.put]
      refine tkA 14 ?_
      try simp only [nmA, Act.put]
      refine tuA 15 ?_
      try simp only [nmA, Act.put]
      refine tuA 16 ?_
      try simp only [nmA, Act.put]
      refine tuA 17 ?_
      try simp only [nmA, Act.put]
      refine tuA 18 ?_
      try simp only [nmA, Act.put]
      refine tuA 19 ?_
      try simp only [nmA, Act.put]
      refine tkA 20 ?_
      try simp only [nmA, Act.put]
      refine tkA 21 ?_
      try simp only [nmA, Act.put]
      refine wpAnyH_done (by kernel_rfl) ?_ _
      have HG2 := qd (HG.out.step hHeld.2)
      clear hHeld
      go_wp2_with fail
      go_roundg (gk - 1)
      case rel => exact ⟨g + 1, by have := HGK.out; omega, by go_num, by rw [HNX.out]; exact HG2.out⟩
      case measure => have := HGK.out; omega
  · have HE := qd (show xs.take g = xs from List.take_of_length_le (by omega))
    go_wp2_with fail
    go_ret
    have hG := HG.out
    rw [HE.out] at hG
    exact hG.fin HA.out HL.out HM.out
set_option maxRecDepth 100000 in
set_option maxHeartbeats 4000000 in
theorem stK2 (ss : ByteArray) (n : Bool) (lo hi : Int) (s : ByteArray) (a : Option Addr) (cap : Nat) (w : World) (xs : List Nat) (v : Value) (hs : s.size ≤ 1048576) (hss : ss.size ≤ 1048576) (hp : PRow w xs s.size v) :
 Calls Tryz.prog 54 #[.agg #[.int .i64 2, .string ss, .bool n, .int .i64 lo, .int .i64 hi, .slice a 0 cap], .string s, v] w (StPost s xs w (RT.M s.data.toList (.node 2 ss n lo hi []))) := by
 have HM := qd (show ∀ j, j ∈ goes (byteF s.data.toList 2 ss n) xs ↔ ∃ i, i ∈ xs ∧ RT.M s.data.toList (.node 2 ss n lo hi []) i j from fun j => by
  rw [goes_mem]
  simp only [RT.M_one _ 2 (.inr rfl)]
  unfold byteF
  exact ⟨fun ⟨i, a, e⟩ => ⟨i, a, by
   split at e
   · rename_i h; cases e; exact ⟨h.1, h.2, rfl⟩
   · cases e⟩, fun ⟨i, a, e⟩ => ⟨i, a, by rw [if_pos ⟨e.1, e.2.1⟩, e.2.2]⟩⟩)
 have HA := qd (goes_asc (F := byteF s.data.toList 2 ss n) (byteF_mono _ _ _ _) xs hp.asc)
 have HL := qd (show ∀ x ∈ goes (byteF s.data.toList 2 ss n) xs, x ≤ s.size from fun x hx => by
  obtain ⟨i, hi, e⟩ := (goes_mem _ xs x).1 hx
  have := hp.le i hi
  unfold byteF at e
  split at e
  · rename_i h
    have h1 : i < s.data.toList.length := h.1
    have el : s.data.toList.length = s.size := by simp
    cases e; omega
  · cases e)
 have HXL := hp.len
 obtain ⟨b0, c0, rfl, hr⟩ := hp.at_
 have HR := qd hr
 have HXE := qd hp.le
 have HS := qd hs
 have HSS := qd hss
 have HG0 := qd (GoI.start w 2 ss n lo hi a cap)
 have hxl : (xs.length : Int) ≤ 1048577 := by omega
 have HBX0 := qd HG0.out.bx
 obtain ⟨⟨x0, x1, x2, x3, x4, x5⟩, _⟩ := HBX0.out
 clear hr hp hs hss HXL
 generalize RT.M s.data.toList (.node 2 ss n lo hi []) = R at *
 go_enter Tryz.func54, Tryz.ntmps54
 go_wp2_with fail
 go_loopg [7, 8] (xs.length) (fun gg vo vi wr => ∃ g, g + gg = xs.length ∧ vi = .int .i64 (g : Int) ∧ GoI w 2 ss n lo hi a cap (goes (byteF s.data.toList 2 ss n) (xs.take g)) vo wr)
 case atStart => exact ⟨0, by omega, rfl, HG0.out⟩
 case round =>
  obtain ⟨g, hgk, rfl, hG⟩ := hrel
  have HG := qd hG
  have HGK := qd hgk
  have hgl : (g : Int) ≤ (xs.length : Int) := by omega
  clear hG hgk x0 x1 x2 x3 x4 x5
  have HBX := qd HG.out.bx
  obtain ⟨⟨x0, x1, x2, x3, x4, x5⟩, _⟩ := HBX.out
  have HBS := qd (show Box w.heap.size 2 ss n lo hi [] a cap wr.drew ∧ Below wr.heap.size wr wr.drew from ⟨HG.out.bx.drew, (Below.refl _ wr).drew⟩)
  by_cases h0 : g < xs.length
  · have hgI : (g : Int) < (xs.length : Int) := by omega
    have cg := (HR.out.kept HG.out.be).cell g h0
    have HY := qd (show ∃ y, y = xs[g] from ⟨_, rfl⟩)
    obtain ⟨y, hy⟩ := HY.out
    rw [← hy] at cg
    unfold iV at cg
    have hym : (y : Int) ≤ s.size := by have := HXE.out _ (List.getElem_mem h0); rw [← hy] at this; omega
    have hsm : (s.size : Int) ≤ 1048576 := by have := HS.out; omega
    have HYE := qd hy
    have HLL := qd (show (goes (byteF s.data.toList 2 ss n) (xs.take g)).length + 1 ≤ 1099511627776 from by
        have := goes_len (byteF s.data.toList 2 ss n) (xs.take g)
        have h2 : (xs.take g).length ≤ xs.length := by simp; omega
        omega)
    have HNO := qd (fun e : (byteF s.data.toList 2 ss n) y = none => goes_none (F := byteF s.data.toList 2 ss n) (xs := xs) h0 (by rw [← HYE.out]; exact e))
    have HYES := qd (fun (z : Nat) (e : (byteF s.data.toList 2 ss n) y = some z) => goes_some (F := byteF s.data.toList 2 ss n) (xs := xs) h0 (by rw [← HYE.out]; exact e))
    clear hy HY
    by_cases h1 : y < s.size
    · have h1I : decide ((y : Int) < (s.size : Int)) = true := by rw [decide_eq_true_eq]; omega
      have h1J : (y : Int) < (s.size : Int) := by omega
      have HT := qd (fun W => takes_any 2 ss n lo hi 0 a cap s[y] W HSS.out)
      have hgd : s.data.toList.getD y 0 = s[y] := by
       rw [List.getD_eq_getElem?_getD, List.getElem?_eq_getElem (by simpa using h1)]
       rfl
      have HGD := qd hgd
      clear hgd
      cases htk : RT.takes 2 ss n s[y]
      · have HNX := qd (HNO.out (by unfold byteF; rw [HGD.out, htk]; simp))
        rw [htk] at HT
        clear htk HNO HYES HGD
        go_wp2_with fail
        clear x0 x1 x2 x3 x4 x5
        refine wp_region_held_drew (S := (fun w' => ((w'.cell? ⟨w.heap.size, 0, none⟩ = some (.int .i64 2) ∧ w'.cell? ⟨w.heap.size, 1, none⟩ = some (.string ss) ∧ w'.cell? ⟨w.heap.size, 2, none⟩ = some (.bool n) ∧ w'.cell? ⟨w.heap.size, 3, none⟩ = some (.int .i64 lo) ∧ w'.cell? ⟨w.heap.size, 4, none⟩ = some (.int .i64 hi) ∧ w'.cell? ⟨w.heap.size, 5, none⟩ = some (.slice a 0 cap)) ∧ w.heap.size < w'.heap.size) ∧ Below wr.heap.size wr w')) (by kernel_rfl) HBS.out (fun hHeld => ?_)
        refine tkA 0 ?_
        try simp only [nmA, Act.put]
        refine tkA 1 ?_
        try simp only [nmA, Act.put]
        refine tkA 2 ?_
        try simp only [nmA, Act.put]
        refine tkA 3 ?_
        try simp only [nmA, Act.put]
        refine tkA 4 ?_
        try simp only [nmA, Act.put]
        refine tkA 5 ?_
        try simp only [nmA, Act.put]
        refine tkA 6 ?_
        try simp only [nmA, Act.put]
        refine tkA 7 ?_
        try simp only [nmA, Act.put]
        refine tkA 8 ?_
        try simp only [nmA, Act.put]
        refine tkA 9 ?_
        try simp only [nmA, Act.put]
        refine tkA 10 ?_
        try simp only [nmA, Act.put]
        refine tkA 11 ?_
        try simp only [nmA, Act.put]
        refine tkA 12 ?_
        try simp only [nmA, Act.put]
        refine tkA 13 ?_
        try simp only [nmA, Act.put]
        refine tkA 14 ?_
        try simp only [nmA, Act.put]
        refine tkA 15 ?_
        try simp only [nmA, Act.put]
        refine tkA 16 ?_
        try simp only [nmA, Act.put]
        refine tkA 17 ?_
        try simp only [nmA, Act.put]
        refine tkA 18 ?_
        try simp only [nmA, Act.put]
        refine rdA 19 (fun K hK => ?_)
        go_simp
        refine (HT.out _).mono ?_
        rintro e w2 ⟨rfl, hb2⟩
        go_wp2_with fail
        refine hK.out _ _ (boxS_step (w := wr) hHeld hb2) (fun hHeld => ?_)
        clear hK K
        try simp only [nmA, Act.put]
        refine tkA 20 ?_
        try simp only [nmA, Act.put]
        refine tkA 21 ?_
        try simp only [nmA, Act.put]
        refine wpAnyH_done (by kernel_rfl) ?_ _
        have HG2 := qd (HG.out.step hHeld.2)
        clear hHeld
        go_wp2_with fail
        go_roundg (gk - 1)
        case rel => exact ⟨g + 1, by have := HGK.out; omega, by go_num, by rw [HNX.out]; exact HG2.out⟩
        case measure => have := HGK.out; omega
      · have HNX := qd (HYES.out (y + 1) (by unfold byteF; rw [HGD.out, htk, if_pos ⟨by simpa using h1, rfl⟩]))
        rw [htk] at HT
        clear htk HNO HYES HGD
        go_wp2_with fail
        clear x0 x1 x2 x3 x4 x5
        refine wp_region_held_drew (S := (fun w' => ((w'.cell? ⟨w.heap.size, 0, none⟩ = some (.int .i64 2) ∧ w'.cell? ⟨w.heap.size, 1, none⟩ = some (.string ss) ∧ w'.cell? ⟨w.heap.size, 2, none⟩ = some (.bool n) ∧ w'.cell? ⟨w.heap.size, 3, none⟩ = some (.int .i64 lo) ∧ w'.cell? ⟨w.heap.size, 4, none⟩ = some (.int .i64 hi) ∧ w'.cell? ⟨w.heap.size, 5, none⟩ = some (.slice a 0 cap)) ∧ w.heap.size < w'.heap.size) ∧ Below wr.heap.size wr w')) (by kernel_rfl) HBS.out (fun hHeld => ?_)
        refine tkA 0 ?_
        try simp only [nmA, Act.put]
        refine tkA 1 ?_
        try simp only [nmA, Act.put]
        refine tkA 2 ?_
        try simp only [nmA, Act.put]
        refine tkA 3 ?_
        try simp only [nmA, Act.put]
        refine tkA 4 ?_
        try simp only [nmA, Act.put]
        refine tkA 5 ?_
        try simp only [nmA, Act.put]
        refine tkA 6 ?_
        try simp only [nmA, Act.put]
        refine tkA 7 ?_
        try simp only [nmA, Act.put]
        refine tkA 8 ?_
        try simp only [nmA, Act.put]
        refine tkA 9 ?_
        try simp only [nmA, Act.put]
        refine tkA 10 ?_
        try simp only [nmA, Act.put]
        refine tkA 11 ?_
        try simp only [nmA, Act.put]
        refine tkA 12 ?_
        try simp only [nmA, Act.put]
        refine tkA 13 ?_
        try simp only [nmA, Act.put]
        refine tkA 14 ?_
        try simp only [nmA, Act.put]
        refine tkA 15 ?_
        try simp only [nmA, Act.put]
        refine tkA 16 ?_
        try simp only [nmA, Act.put]
        refine tkA 17 ?_
        try simp only [nmA, Act.put]
        refine tkA 18 ?_
        try simp only [nmA, Act.put]
        refine rdA 19 (fun K hK => ?_)
        go_simp
        refine (HT.out _).mono ?_
        rintro e w2 ⟨rfl, hb2⟩
        go_wp2_with fail
        refine hK.out _ _ (boxS_step (w := wr) hHeld hb2) (fun hHeld => ?_)
        clear hK K
        try simp only [nmA, Act.put]
        refine tkA 20 ?_
        try simp only [nmA, Act.put]
        refine tkA 21 ?_
        try simp only [nmA, Act.put]
        refine wpAnyH_done (by kernel_rfl) ?_ _
        have HG2 := qd (HG.out.step hHeld.2)
        have HWW := qd hHeld.2
        clear hHeld
        go_wp2_with (at_builtin; refine wpList_append_ints rfl (.tmp 109) (.tmp 112) rfl (w.heap.size + 1) _ _ rfl (HG2.out.row.alloc _) HG2.out.ne _ 1 1 [y + 1] rfl rfl (oneS (cell_one _ _ _)) HLL.out (by have := HG2.out.bx.2; simp; omega) ?_; intro v3 w3 ho3 hn3 hb3 hg3)
        have HG3 := qd (GoI.more HG2.out ho3 hn3 (((Below.refl _ _).alloc (by have := HG2.out.bx.2; omega) _).trans hb3))
        clear ho3 hn3 hb3
        go_wp2_with fail
        go_roundg (gk - 1)
        case rel => exact ⟨g + 1, by have := HGK.out; omega, by go_num, by rw [HNX.out]; exact HG3.out⟩
        case measure => have := HGK.out; omega
    · have h1I : decide ((y : Int) < (s.size : Int)) = false := by rw [decide_eq_false_iff_not]; omega
      have h1N : decide (y < s.size) = false := by rw [decide_eq_false_iff_not]; omega
      have HNX := qd (HNO.out (by unfold byteF; rw [if_neg (fun h => h1 (by simpa using h.1))]))
      clear h1 HNO HYES
      go_wp2_with fail
      clear x0 x1 x2 x3 x4 x5
      refine wp_region_held_drew (S := (fun w' => ((w'.cell? ⟨w.heap.size, 0, none⟩ = some (.int .i64 2) ∧ w'.cell? ⟨w.heap.size, 1, none⟩ = some (.string ss) ∧ w'.cell? ⟨w.heap.size, 2, none⟩ = some (.bool n) ∧ w'.cell? ⟨w.heap.size, 3, none⟩ = some (.int .i64 lo) ∧ w'.cell? ⟨w.heap.size, 4, none⟩ = some (.int .i64 hi) ∧ w'.cell? ⟨w.heap.size, 5, none⟩ = some (.slice a 0 cap)) ∧ w.heap.size < w'.heap.size) ∧ Below wr.heap.size wr w')) (by kernel_rfl) HBS.out (fun hHeld => ?_)
      refine tkA 0 ?_
      try simp only [nmA, Act.put]
      refine tkA 1 ?_
      try simp only [nmA, Act.put]
      refine tkA 2 ?_
      try simp only [nmA, Act.put]
      refine tkA 3 ?_
      try simp only [nmA, Act.put]
      refine tkA 4 ?_
      try simp only [nmA, Act.put]
      refine tkA 5 ?_
      try simp only [nmA, Act.put]
      refine tkA 6 ?_
      try simp only [nmA, Act.put]
      refine tkA 7 ?_
      try simp only [nmA, Act.put]
      refine tkA 8 ?_
      try simp only [nmA, Act.put]
      refine tkA 9 ?_
      try simp only [nmA, Act.put]
      refine tkA 10 ?_
      try simp only [nmA, Act.put]
      refine tkA 11 ?_
      try simp only [nmA, Act.put]
      refine tkA 12 ?_
      try simp only [nmA, Act.put]
      refine tkA 13 ?_
      try simp only [nmA, Act.put]
      refine tkA 14 ?_
      try simp only [nmA, Act.put]
      refine tuA 15 ?_
      try simp only [nmA, Act.put]
      refine tuA 16 ?_
      try simp only [nmA, Act.put]
      refine tuA 17 ?_
      try simp only [nmA, Act.put]
      refine tuA 18 ?_
      try simp only [nmA, Act.put]
      refine tuA 19 ?_
      try simp only [nmA, Act.put]
      refine tkA 20 ?_
      try simp only [nmA, Act.put]
      refine tkA 21 ?_
      try simp only [nmA, Act.put]
      refine wpAnyH_done (by kernel_rfl) ?_ _
      have HG2 := qd (HG.out.step hHeld.2)
      clear hHeld
      go_wp2_with fail
      go_roundg (gk - 1)
      case rel => exact ⟨g + 1, by have := HGK.out; omega, by go_num, by rw [HNX.out]; exact HG2.out⟩
      case measure => have := HGK.out; omega
  · have HE := qd (show xs.take g = xs from List.take_of_length_le (by omega))
    go_wp2_with fail
    go_ret
    have hG := HG.out
    rw [HE.out] at hG
    exact hG.fin HA.out HL.out HM.out
end Go.Proofs.YtcimhpdpfckgiaaGreatDoor.kit
