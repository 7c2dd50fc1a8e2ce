/-
 The text of an expression, and the contracts of impl.kidText and spec.l04Wrap over this seat's translation: a kid's text, in round brackets where it wants them. Conditions: each theorem names its own.
-/
import Derived.Test.YtcpaneaiobnhdaaDoorMRt8
import Derived.Test.YtcpaneaiobnhdaaDoorMRt9
import Derived.Test.YtcpaneaiobnhdaaDoorMRe7
import Derived.Test.YtcpaneaiobnhdaaDoorMHeld
import Derived.Deep.RegionHeld3
namespace Go.Proofs.YtcpaneaiobnhdaaDoor.kit
open Go.ChangeShapes Go.WideShapes Go.ChangeAt Go.RowKit
set_option linter.unusedVariables false

def wrT (b : Bool) (l : List UInt8) : List UInt8 := if b = true then [40] ++ l ++ [41] else l
theorem wrT_len (b : Bool) (l : List UInt8) : (wrT b l).length ≤ l.length + 2 := by
 unfold wrT; split
 ·simp
 ·omega
mutual
/-- The text of a right expression. -/
def RT.txt : RT → List UInt8
 | .node k s n lo hi ts =>
  if k = 1 then [46] else if k = 2 then setTxt s.data.toList n
  else if k = 3 then (RT.wrs [3, 4] [4] ts).flatten
  else if k = 4 then ((RT.wrs [4] [] ts).intersperse [124]).flatten
  else if k = 5 then (RT.wrs [0, 3, 4, 5, 6, 7] [] ts).flatten ++ timT lo hi
  else if k = 6 then [94] else if k = 7 then [36] else [40, 41]
/-- The texts of kids: the first one in brackets where its kind is one of ks, the others where it is one of ls. -/
def RT.wrs (ks ls : List Int) : List RT → List (List UInt8)
 | [] => []
 | t :: ts => wrT (hasB ks t.kind) (RT.txt t) :: RT.wrs ls ls ts
end
def TxI (t : RT) : Prop := ∀ (a : Option Addr) (cap : Nat) (W : World), Kids 0 W t.kids a → Tab W →
 Calls Tryd.prog 25 #[reV t a cap] W fun e w' => e = .returned (.string ⟨(RT.txt t).toArray⟩) ∧ Below W.heap.size W w'
def TxS (t : RT) : Prop := ∀ (a : Option Addr) (cap : Nat) (W : World), Kids 0 W t.kids a →
 Calls Tryd.prog 28 #[reV t a cap] W fun e w' => e = .returned (.string ⟨(RT.txt t).toArray⟩) ∧ Below W.heap.size W w'
set_option maxRecDepth 100000 in
set_option maxHeartbeats 2000000 in
theorem kidText_any (t : RT) (h : TxI t) (a : Option Addr) (cap : Nat) (ks : List Int) (g c : Nat) (w : World) (hk : Kids 0 w t.kids a) (ht : Tab w) (hn : ks.length ≤ 100) (hks : IntsAt w g ks) (hlen : (RT.txt t).length ≤ 100000000) :
  Calls Tryd.prog 41 #[reV t a cap, .slice (some ⟨g, 0, none⟩) ks.length c] w fun e w' => e = .returned (.string ⟨(wrT (hasB ks t.kind) (RT.txt t)).toArray⟩) ∧ Below w.heap.size w w' := by
 have HB := Lib.hid (show ∀ o, Below w.heap.size w (w.alloc o) from fun o => (Below.refl w.heap.size w).alloc (Nat.le_refl _) _)
 have HC := Lib.hid (fun k o => contains_any ks g c k (w.alloc o) hn (fun j hj => by
  have h1 := hks j hj
  rw [(HB.out o).cell (p := ⟨g, j, none⟩) (World.block_lt_of_cell? w ⟨g, j, none⟩ h1)]; exact h1))
 have HX := Lib.hid (fun o => h a cap (w.alloc o) (hk.alloc o) (ht.on (HB.out o)))
 clear hks hk ht h
 obtain ⟨k, s, n, lo, hi, ts⟩ := t
 unfold reV at *
 simp only [RT.set, RT.kids, RT.kind, RT.neg, RT.low, RT.high] at *
 generalize RT.txt (.node k s n lo hi ts) = L at *
 have HK := Lib.hid (HC.out k)
 clear HC
 cases hb : hasB ks k
 ·rw [hb] at HK
  clear hb
  go_enter Tryd.func41, Tryd.ntmps41
  go_wp2_with fail
  refine (HK.out _).mono ?_
  rintro e w1 ⟨rfl, rfl⟩
  go_wp2_with fail
  refine (HX.out _).mono ?_
  rintro e w2 ⟨rfl, hb2⟩
  go_wp2_with fail
  go_ret
  exact ⟨rfl, (HB.out _).trans (hb2.mono (HB.out _).size)⟩
 ·rw [hb] at HK
  clear hb
  go_enter Tryd.func41, Tryd.ntmps41
  go_wp2_with fail
  refine (HK.out _).mono ?_
  rintro e w1 ⟨rfl, rfl⟩
  go_wp2_with fail
  refine (HX.out _).mono ?_
  rintro e w2 ⟨rfl, hb2⟩
  have HB2 := Lib.hid ((HB.out _).trans (hb2.mono (HB.out _).size))
  clear hb2
  go_wp2_with fail
  go_ret
  exact ⟨congrArg (fun t => Ending.returned (Value.string t)) (j3 [40] L [41]), HB2.out⟩
set_option maxRecDepth 100000 in
set_option maxHeartbeats 2000000 in
theorem l04Wrap_any (t : RT) (h : TxS t) (a : Option Addr) (cap : Nat) (b : Bool) (w : World) (hk : Kids 0 w t.kids a) (hlen : (RT.txt t).length ≤ 100000000) :
  Calls Tryd.prog 46 #[reV t a cap, .bool b] w fun e w' => e = .returned (.string ⟨(wrT b (RT.txt t)).toArray⟩) ∧ Below w.heap.size w w' := by
 have HB := Lib.hid (show ∀ o, Below w.heap.size w (w.alloc o) from fun o => (Below.refl w.heap.size w).alloc (Nat.le_refl _) _)
 have HX := Lib.hid (fun o => h a cap (w.alloc o) (hk.alloc o))
 clear hk h
 obtain ⟨k, s, n, lo, hi, ts⟩ := t
 unfold reV at *
 simp only [RT.set, RT.kids, RT.kind, RT.neg, RT.low, RT.high] at *
 generalize RT.txt (.node k s n lo hi ts) = L at *
 cases b
 ·go_enter Tryd.func46, Tryd.ntmps46
  go_wp2_with fail
  refine (HX.out _).mono ?_
  rintro e w2 ⟨rfl, hb2⟩
  go_wp2_with fail
  go_ret
  exact ⟨rfl, (HB.out _).trans (hb2.mono (HB.out _).size)⟩
 ·go_enter Tryd.func46, Tryd.ntmps46
  go_wp2_with fail
  refine (HX.out _).mono ?_
  rintro e w2 ⟨rfl, hb2⟩
  have HB2 := Lib.hid ((HB.out _).trans (hb2.mono (HB.out _).size))
  clear hb2
  go_wp2_with fail
  go_ret
  exact ⟨congrArg (fun t => Ending.returned (Value.string t)) (j3 [40] L [41]), HB2.out⟩
end Go.Proofs.YtcpaneaiobnhdaaDoor.kit
/-
 Contract of impl.reText over this seat's translation: the text of a right expression. Conditions: each theorem names its own.
-/
namespace Go.Proofs.YtcpaneaiobnhdaaDoor.kit
open Go.ChangeShapes Go.WideShapes Go.ChangeAt Go.RowKit
set_option linter.unusedVariables false

theorem ints_new {Y : World} {g : Nat} {ks : List Int} {cs : Array Value} {T : TypeId} (hg : g = Y.heap.size) (hc : cs = (ks.map fun k => Value.int .i64 k).toArray) : IntsAt (Y.alloc (.cells cs T)) g ks := by
 subst hg hc
 intro j hj
 rw [World.cell?_alloc_at _ _ _ _ rfl, List.getD_eq_getElem?_getD]
 simp [hj]
theorem IntsAt.kept {w w' : World} {g : Nat} {ks : List Int} (h : IntsAt w g ks) (hb : Below w.heap.size w w') : IntsAt w' g ks := by
 intro j hj
 have h1 := h j hj
 rw [hb.cell (p := ⟨g, j, none⟩) (World.block_lt_of_cell? w ⟨g, j, none⟩ h1)]; exact h1
theorem IntsAt.drewI {w : World} {g : Nat} {ks : List Int} (h : IntsAt w g ks) : IntsAt w.drew g ks := h
theorem IntsAt.via {w w' : World} {g : Nat} {ks : List Int} (hb : Below w.heap.size w w') (h : IntsAt w g ks) : IntsAt w' g ks := h.kept hb
theorem IntsAt.alloc {w : World} {g : Nat} {ks : List Int} (h : IntsAt w g ks) (o : Obj) : IntsAt (w.alloc o) g ks := h.kept ((Below.refl _ _).alloc (Nat.le_refl _) _)
/-- What a call of kidText over one kid answers, in whatever world that has changed nothing. -/
structure KtC (w : World) (k : Int) (s : ByteArray) (n : Bool) (lo hi : Int) (ts : List RT) (a : Option Addr) (c : Nat) (ks : List Int) (L : List UInt8) : Prop where
 call : ∀ W g c2 m, Below w.heap.size w W → m = ks.length → IntsAt W g ks → Calls Tryd.prog 41 #[.agg #[.int .i64 k, .string s, .bool n, .int .i64 lo, .int .i64 hi, .slice a ts.length c], .slice (some ⟨g, 0, none⟩) m c2] W fun e w' => e = .returned (.string ⟨L.toArray⟩) ∧ Below W.heap.size W w'
structure RtC (w : World) (k : Int) (s : ByteArray) (n : Bool) (lo hi : Int) (ts : List RT) (a : Option Addr) (c : Nat) (L : List UInt8) : Prop where
 call : ∀ W, Below w.heap.size w W → Calls Tryd.prog 25 #[.agg #[.int .i64 k, .string s, .bool n, .int .i64 lo, .int .i64 hi, .slice a ts.length c]] W fun e w' => e = .returned (.string ⟨L.toArray⟩) ∧ Below W.heap.size W w'
theorem rtc_of {t : RT} {w : World} {a : Option Addr} {c : Nat} (h : TxI t) (hk : Kids 0 w t.kids a) (ht : Tab w) : RtC w t.kind t.set t.neg t.low t.high t.kids a c (RT.txt t) :=
 ⟨fun W hW => h a c W (hk.kept (Nat.le_refl _) hW) (ht.on hW)⟩
theorem ktc_of {t : RT} {w : World} {a : Option Addr} {c : Nat} (ks : List Int) (h : TxI t) (hk : Kids 0 w t.kids a) (ht : Tab w) (hlen : (RT.txt t).length ≤ 100000000) (hn : ks.length ≤ 100) :
  KtC w t.kind t.set t.neg t.low t.high t.kids a c ks (wrT (hasB ks t.kind) (RT.txt t)) :=
 ⟨fun W g c2 m hW hm hi => by subst hm; exact kidText_any t h a c ks g c2 W (hk.kept (Nat.le_refl _) hW) (ht.on hW) hn hi hlen⟩
set_option maxRecDepth 100000 in
set_option maxHeartbeats 4000000 in
theorem itK0 (s : ByteArray) (n : Bool) (lo hi : Int) (h : ∀ u ∈ ([] : List RT), TxI u) (hlen : ∀ u ∈ ([] : List RT), (RT.txt u).length ≤ 100000000) (hs : s.size ≤ 1048576) (htm : 0 = 5 → TimOk lo hi) (a : Option Addr) (cap : Nat) (w : World) (hk : Kids 0 w [] a) (ht : Tab w) :
  Calls Tryd.prog 25 #[.agg #[.int .i64 0, .string s, .bool n, .int .i64 lo, .int .i64 hi, .slice a 0 cap]] w fun e w' => e = .returned (.string ⟨(RT.txt (.node 0 s n lo hi [])).toArray⟩) ∧ Below w.heap.size w w' := by
 have HB := Lib.hid (show ∀ o, Below w.heap.size w (w.alloc o) from fun o => (Below.refl w.heap.size w).alloc (Nat.le_refl _) _)
 have HE := Lib.hid (show RT.txt (.node 0 s n lo hi []) = [40, 41] by rw [RT.txt]; simp)
 clear h hk ht hlen htm
 go_enter Tryd.func25, Tryd.ntmps25
 go_wp2_with fail
 go_ret
 exact ⟨by rw [HE.out]; rfl, HB.out _⟩
set_option maxRecDepth 100000 in
set_option maxHeartbeats 4000000 in
theorem itK1 (s : ByteArray) (n : Bool) (lo hi : Int) (h : ∀ u ∈ ([] : List RT), TxI u) (hlen : ∀ u ∈ ([] : List RT), (RT.txt u).length ≤ 100000000) (hs : s.size ≤ 1048576) (htm : 1 = 5 → TimOk lo hi) (a : Option Addr) (cap : Nat) (w : World) (hk : Kids 0 w [] a) (ht : Tab w) :
  Calls Tryd.prog 25 #[.agg #[.int .i64 1, .string s, .bool n, .int .i64 lo, .int .i64 hi, .slice a 0 cap]] w fun e w' => e = .returned (.string ⟨(RT.txt (.node 1 s n lo hi [])).toArray⟩) ∧ Below w.heap.size w w' := by
 have HB := Lib.hid (show ∀ o, Below w.heap.size w (w.alloc o) from fun o => (Below.refl w.heap.size w).alloc (Nat.le_refl _) _)
 have HE := Lib.hid (show RT.txt (.node 1 s n lo hi []) = [46] by rw [RT.txt]; simp)
 clear h hk ht hlen htm
 go_enter Tryd.func25, Tryd.ntmps25
 go_wp2_with fail
 go_ret
 exact ⟨by rw [HE.out]; rfl, HB.out _⟩
set_option maxRecDepth 100000 in
set_option maxHeartbeats 4000000 in
theorem itK6 (s : ByteArray) (n : Bool) (lo hi : Int) (h : ∀ u ∈ ([] : List RT), TxI u) (hlen : ∀ u ∈ ([] : List RT), (RT.txt u).length ≤ 100000000) (hs : s.size ≤ 1048576) (htm : 6 = 5 → TimOk lo hi) (a : Option Addr) (cap : Nat) (w : World) (hk : Kids 0 w [] a) (ht : Tab w) :
  Calls Tryd.prog 25 #[.agg #[.int .i64 6, .string s, .bool n, .int .i64 lo, .int .i64 hi, .slice a 0 cap]] w fun e w' => e = .returned (.string ⟨(RT.txt (.node 6 s n lo hi [])).toArray⟩) ∧ Below w.heap.size w w' := by
 have HB := Lib.hid (show ∀ o, Below w.heap.size w (w.alloc o) from fun o => (Below.refl w.heap.size w).alloc (Nat.le_refl _) _)
 have HE := Lib.hid (show RT.txt (.node 6 s n lo hi []) = [94] by rw [RT.txt]; simp)
 clear h hk ht hlen htm
 go_enter Tryd.func25, Tryd.ntmps25
 go_wp2_with fail
 go_ret
 exact ⟨by rw [HE.out]; rfl, HB.out _⟩
set_option maxRecDepth 100000 in
set_option maxHeartbeats 4000000 in
theorem itK7 (s : ByteArray) (n : Bool) (lo hi : Int) (h : ∀ u ∈ ([] : List RT), TxI u) (hlen : ∀ u ∈ ([] : List RT), (RT.txt u).length ≤ 100000000) (hs : s.size ≤ 1048576) (htm : 7 = 5 → TimOk lo hi) (a : Option Addr) (cap : Nat) (w : World) (hk : Kids 0 w [] a) (ht : Tab w) :
  Calls Tryd.prog 25 #[.agg #[.int .i64 7, .string s, .bool n, .int .i64 lo, .int .i64 hi, .slice a 0 cap]] w fun e w' => e = .returned (.string ⟨(RT.txt (.node 7 s n lo hi [])).toArray⟩) ∧ Below w.heap.size w w' := by
 have HB := Lib.hid (show ∀ o, Below w.heap.size w (w.alloc o) from fun o => (Below.refl w.heap.size w).alloc (Nat.le_refl _) _)
 have HE := Lib.hid (show RT.txt (.node 7 s n lo hi []) = [36] by rw [RT.txt]; simp)
 clear h hk ht hlen htm
 go_enter Tryd.func25, Tryd.ntmps25
 go_wp2_with fail
 go_ret
 exact ⟨by rw [HE.out]; rfl, HB.out _⟩
set_option maxRecDepth 100000 in
set_option maxHeartbeats 4000000 in
theorem itK2 (s : ByteArray) (n : Bool) (lo hi : Int) (h : ∀ u ∈ ([] : List RT), TxI u) (hlen : ∀ u ∈ ([] : List RT), (RT.txt u).length ≤ 100000000) (hs : s.size ≤ 1048576) (htm : 2 = 5 → TimOk lo hi) (a : Option Addr) (cap : Nat) (w : World) (hk : Kids 0 w [] a) (ht : Tab w) :
  Calls Tryd.prog 25 #[.agg #[.int .i64 2, .string s, .bool n, .int .i64 lo, .int .i64 hi, .slice a 0 cap]] w fun e w' => e = .returned (.string ⟨(RT.txt (.node 2 s n lo hi [])).toArray⟩) ∧ Below w.heap.size w w' := by
 have HB := Lib.hid (show ∀ o, Below w.heap.size w (w.alloc o) from fun o => (Below.refl w.heap.size w).alloc (Nat.le_refl _) _)
 have HE := Lib.hid (show RT.txt (.node 2 s n lo hi []) = setTxt s.data.toList n by rw [RT.txt]; simp)
 have HS := Lib.hid (fun W => setText_any s n W hs)
 clear h hk ht hlen htm
 go_enter Tryd.func25, Tryd.ntmps25
 go_wp2_with fail
 refine (HS.out _).mono ?_
 rintro e w1 ⟨rfl, hb1⟩
 go_wp2_with fail
 go_ret
 exact ⟨by rw [HE.out]; rfl, (HB.out _).trans (hb1.mono (HB.out _).size)⟩
set_option maxRecDepth 100000 in
set_option maxHeartbeats 4000000 in
theorem itK3 (s : ByteArray) (n : Bool) (lo hi : Int) (xx : RT) (xy : RT) (h : ∀ u ∈ ([xx, xy] : List RT), TxI u) (hlen : ∀ u ∈ ([xx, xy] : List RT), (RT.txt u).length ≤ 100000000) (hs : s.size ≤ 1048576) (htm : 3 = 5 → TimOk lo hi) (a : Option Addr) (cap : Nat) (w : World) (hk : Kids 0 w [xx, xy] a) (ht : Tab w) :
  Calls Tryd.prog 25 #[.agg #[.int .i64 3, .string s, .bool n, .int .i64 lo, .int .i64 hi, .slice a 2 cap]] w fun e w' => e = .returned (.string ⟨(RT.txt (.node 3 s n lo hi [xx, xy])).toArray⟩) ∧ Below w.heap.size w w' := by
 obtain ⟨ax, cx, hex, hkx⟩ := hk.elem 0 (by simp)
 obtain ⟨ay, cy, hey, hky⟩ := hk.elem 1 (by simp)
 simp only [List.getElem_cons_zero, List.getElem_cons_succ] at hex hkx hey hky
 obtain ⟨b, o, rfl, _, hbl, ex0, ex1, ex2, ex3, ex4, ex5, _, _⟩ := hex
 obtain ⟨b2, o2, e2, _, _, ey0, ey1, ey2, ey3, ey4, ey5, _, _⟩ := hey
 cases e2
 have hx := h xx (by simp)
 have lx := hlen xx (by simp)
 have hy := h xy (by simp)
 have ly := hlen xy (by simp)
 have Cx := ktc_of (c := cx) [3, 4] hx hkx ht lx (by simp)
 have Cy := ktc_of (c := cy) [4] hy hky ht ly (by simp)
 have HE := Lib.hid (show RT.txt (.node 3 s n lo hi [xx, xy]) = wrT (hasB [3, 4] xx.kind) (RT.txt xx) ++ wrT (hasB [4] xy.kind) (RT.txt xy) by rw [RT.txt]; simp [RT.wrs, hasB, wrT])
 have wlx : (wrT (hasB [3, 4] xx.kind) (RT.txt xx)).length ≤ 100000002 := Nat.le_trans (wrT_len _ _) (by omega)
 have wly : (wrT (hasB [4] xy.kind) (RT.txt xy)).length ≤ 100000002 := Nat.le_trans (wrT_len _ _) (by omega)
 generalize wrT (hasB [3, 4] xx.kind) (RT.txt xx) = Lx at *
 generalize wrT (hasB [4] xy.kind) (RT.txt xy) = Ly at *
 obtain ⟨kx, sx, nx, lox, hix, tsx⟩ := xx
 obtain ⟨ky, sy, ny, loy, hiy, tsy⟩ := xy
 simp only [RT.kind, RT.set, RT.neg, RT.low, RT.high, RT.kids, Nat.zero_mul, Nat.add_zero, Nat.one_mul, Nat.add_assoc, Nat.reduceAdd] at *
 have hsum : ¬ 9223372036854775807 < Lx.length + Ly.length := by omega
 have HB := Lib.hid (show ∀ o, Below w.heap.size w (w.alloc o) from fun o => (Below.refl w.heap.size w).alloc (Nat.le_refl _) _)
 have HT := Lib.hid ht
 have HH := Lib.hid (Held.start (W := (w.alloc (.cells #[.int .i64 3, .string s, .bool n, .int .i64 lo, .int .i64 hi, .slice (some ⟨b, o, none⟩) 2 cap] 26))) (l := [(w.heap.size, 3, .int .i64 lo), (w.heap.size, 4, .int .i64 hi), (w.heap.size, 5, .slice (some ⟨b, o, none⟩) 2 cap), (b, o, .int .i64 kx), (b, o + 1, .string sx), (b, o + 2, .bool nx), (b, o + 3, .int .i64 lox), (b, o + 4, .int .i64 hix), (b, o + 5, .slice ax tsx.length cx), (b, o + 6, .int .i64 ky), (b, o + 7, .string sy), (b, o + 8, .bool ny), (b, o + 9, .int .i64 loy), (b, o + 10, .int .i64 hiy), (b, o + 11, .slice ay tsy.length cy)]) (by
  have ec : ∀ j, (w.alloc (.cells #[.int .i64 3, .string s, .bool n, .int .i64 lo, .int .i64 hi, .slice (some ⟨b, o, none⟩) 2 cap] 26)).cell? ⟨b, j, none⟩ = w.cell? ⟨b, j, none⟩ := fun j => (HB.out _).cell (p := ⟨b, j, none⟩) hbl
  refine ⟨?_, ?_, ?_, (ec _).trans ex0, (ec _).trans ex1, (ec _).trans ex2, (ec _).trans ex3, (ec _).trans ex4, (ec _).trans ex5, (ec _).trans ey0, (ec _).trans ey1, (ec _).trans ey2, (ec _).trans ey3, (ec _).trans ey4, (ec _).trans ey5, trivial⟩ <;> (rw [World.cell?_alloc_at _ _ _ _ rfl]; rfl)))
 clear h hlen hk ht lx ly ex0 ex1 ex2 ex3 ex4 ex5 ey0 ey1 ey2 ey3 ey4 ey5
 generalize RT.txt (.node 3 s n lo hi [.node kx sx nx lox hix tsx, .node ky sy ny loy hiy tsy]) = R at *
 go_enter Tryd.func25, Tryd.ntmps25
 go_wp2_with fail
 go_region_held3 (fun w' => (w'.cell? ⟨w.heap.size, 3, none⟩ = some (.int .i64 lo) ∧ w'.cell? ⟨w.heap.size, 4, none⟩ = some (.int .i64 hi) ∧ w'.cell? ⟨w.heap.size, 5, none⟩ = some (.slice (some ⟨b, o, none⟩) 2 cap) ∧ w'.cell? ⟨b, o, none⟩ = some (.int .i64 kx) ∧ w'.cell? ⟨b, o + 1, none⟩ = some (.string sx) ∧ w'.cell? ⟨b, o + 2, none⟩ = some (.bool nx) ∧ w'.cell? ⟨b, o + 3, none⟩ = some (.int .i64 lox) ∧ w'.cell? ⟨b, o + 4, none⟩ = some (.int .i64 hix) ∧ w'.cell? ⟨b, o + 5, none⟩ = some (.slice ax tsx.length cx) ∧ w'.cell? ⟨b, o + 6, none⟩ = some (.int .i64 ky) ∧ w'.cell? ⟨b, o + 7, none⟩ = some (.string sy) ∧ w'.cell? ⟨b, o + 8, none⟩ = some (.bool ny) ∧ w'.cell? ⟨b, o + 9, none⟩ = some (.int .i64 loy) ∧ w'.cell? ⟨b, o + 10, none⟩ = some (.int .i64 hiy) ∧ w'.cell? ⟨b, o + 11, none⟩ = some (.slice ay tsy.length cy) ∧ True) ∧ Below (w.alloc (.cells #[.int .i64 3, .string s, .bool n, .int .i64 lo, .int .i64 hi, .slice (some ⟨b, o, none⟩) 2 cap] 26)).heap.size (w.alloc (.cells #[.int .i64 3, .string s, .bool n, .int .i64 lo, .int .i64 hi, .slice (some ⟨b, o, none⟩) 2 cap] 26)) w') (first | exact HH.out | assumption | exact Held.step (l := [(w.heap.size, 3, .int .i64 lo), (w.heap.size, 4, .int .i64 hi), (w.heap.size, 5, .slice (some ⟨b, o, none⟩) 2 cap), (b, o, .int .i64 kx), (b, o + 1, .string sx), (b, o + 2, .bool nx), (b, o + 3, .int .i64 lox), (b, o + 4, .int .i64 hix), (b, o + 5, .slice ax tsx.length cx), (b, o + 6, .int .i64 ky), (b, o + 7, .string sy), (b, o + 8, .bool ny), (b, o + 9, .int .i64 loy), (b, o + 10, .int .i64 hiy), (b, o + 11, .slice ay tsy.length cy)]) (W := (w.alloc (.cells #[.int .i64 3, .string s, .bool n, .int .i64 lo, .int .i64 hi, .slice (some ⟨b, o, none⟩) 2 cap] 26))) (by assumption) (by assumption) | exact Held.step (l := [(w.heap.size, 3, .int .i64 lo), (w.heap.size, 4, .int .i64 hi), (w.heap.size, 5, .slice (some ⟨b, o, none⟩) 2 cap), (b, o, .int .i64 kx), (b, o + 1, .string sx), (b, o + 2, .bool nx), (b, o + 3, .int .i64 lox), (b, o + 4, .int .i64 hix), (b, o + 5, .slice ax tsx.length cx), (b, o + 6, .int .i64 ky), (b, o + 7, .string sy), (b, o + 8, .bool ny), (b, o + 9, .int .i64 loy), (b, o + 10, .int .i64 hiy), (b, o + 11, .slice ay tsy.length cy)]) (W := (w.alloc (.cells #[.int .i64 3, .string s, .bool n, .int .i64 lo, .int .i64 hi, .slice (some ⟨b, o, none⟩) 2 cap] 26))) (by assumption) ((Below.refl _ _).alloc (Nat.le_refl _) _)) (first | (go_at_call 41; refine (KtC.call (w := w) (by assumption) _ _ _ _ ((HB.out _).trans (Below.mono (Held.below (l := [(w.heap.size, 3, .int .i64 lo), (w.heap.size, 4, .int .i64 hi), (w.heap.size, 5, .slice (some ⟨b, o, none⟩) 2 cap), (b, o, .int .i64 kx), (b, o + 1, .string sx), (b, o + 2, .bool nx), (b, o + 3, .int .i64 lox), (b, o + 4, .int .i64 hix), (b, o + 5, .slice ax tsx.length cx), (b, o + 6, .int .i64 ky), (b, o + 7, .string sy), (b, o + 8, .bool ny), (b, o + 9, .int .i64 loy), (b, o + 10, .int .i64 hiy), (b, o + 11, .slice ay tsy.length cy)]) (W := (w.alloc (.cells #[.int .i64 3, .string s, .bool n, .int .i64 lo, .int .i64 hi, .slice (some ⟨b, o, none⟩) 2 cap] 26))) (by assumption)) (HB.out _).size)) (by rfl) (by first | exact ints_new (by simp) rfl | exact IntsAt.drewI (ints_new (by simp) rfl) | exact IntsAt.drewI (IntsAt.alloc (ints_new (by simp) rfl) _) | exact IntsAt.via (by assumption) (IntsAt.drewI (ints_new (by simp) rfl)) | exact IntsAt.via (by assumption) (IntsAt.drewI (IntsAt.alloc (ints_new (by simp) rfl) _)) | fail)).mono ?_; rintro e wz ⟨rfl, hb⟩))
 all_goals
  have hfin := Held.below (l := [(w.heap.size, 3, .int .i64 lo), (w.heap.size, 4, .int .i64 hi), (w.heap.size, 5, .slice (some ⟨b, o, none⟩) 2 cap), (b, o, .int .i64 kx), (b, o + 1, .string sx), (b, o + 2, .bool nx), (b, o + 3, .int .i64 lox), (b, o + 4, .int .i64 hix), (b, o + 5, .slice ax tsx.length cx), (b, o + 6, .int .i64 ky), (b, o + 7, .string sy), (b, o + 8, .bool ny), (b, o + 9, .int .i64 loy), (b, o + 10, .int .i64 hiy), (b, o + 11, .slice ay tsy.length cy)]) (W := (w.alloc (.cells #[.int .i64 3, .string s, .bool n, .int .i64 lo, .int .i64 hi, .slice (some ⟨b, o, none⟩) 2 cap] 26))) (by assumption)
  go_wp2_with fail
  go_ret
  exact ⟨by rw [HE.out]; exact congrArg (fun t => Ending.returned (Value.string t)) (app_lit Lx Ly), (HB.out _).trans (hfin.mono (HB.out _).size)⟩
set_option maxRecDepth 100000 in
set_option maxHeartbeats 4000000 in
theorem itK4 (s : ByteArray) (n : Bool) (lo hi : Int) (xx : RT) (xy : RT) (h : ∀ u ∈ ([xx, xy] : List RT), TxI u) (hlen : ∀ u ∈ ([xx, xy] : List RT), (RT.txt u).length ≤ 100000000) (hs : s.size ≤ 1048576) (htm : 4 = 5 → TimOk lo hi) (a : Option Addr) (cap : Nat) (w : World) (hk : Kids 0 w [xx, xy] a) (ht : Tab w) :
  Calls Tryd.prog 25 #[.agg #[.int .i64 4, .string s, .bool n, .int .i64 lo, .int .i64 hi, .slice a 2 cap]] w fun e w' => e = .returned (.string ⟨(RT.txt (.node 4 s n lo hi [xx, xy])).toArray⟩) ∧ Below w.heap.size w w' := by
 obtain ⟨ax, cx, hex, hkx⟩ := hk.elem 0 (by simp)
 obtain ⟨ay, cy, hey, hky⟩ := hk.elem 1 (by simp)
 simp only [List.getElem_cons_zero, List.getElem_cons_succ] at hex hkx hey hky
 obtain ⟨b, o, rfl, _, hbl, ex0, ex1, ex2, ex3, ex4, ex5, _, _⟩ := hex
 obtain ⟨b2, o2, e2, _, _, ey0, ey1, ey2, ey3, ey4, ey5, _, _⟩ := hey
 cases e2
 have hx := h xx (by simp)
 have lx := hlen xx (by simp)
 have hy := h xy (by simp)
 have ly := hlen xy (by simp)
 have Cx := ktc_of (c := cx) [4] hx hkx ht lx (by simp)
 have Cy := rtc_of (c := cy) hy hky ht
 have HE := Lib.hid (show RT.txt (.node 4 s n lo hi [xx, xy]) = wrT (hasB [4] xx.kind) (RT.txt xx) ++ [124] ++ RT.txt xy by rw [RT.txt]; simp [RT.wrs, hasB, wrT])
 have wlx : (wrT (hasB [4] xx.kind) (RT.txt xx)).length ≤ 100000002 := Nat.le_trans (wrT_len _ _) (by omega)
 generalize wrT (hasB [4] xx.kind) (RT.txt xx) = Lx at *
 generalize RT.txt xy = Ly at *
 obtain ⟨kx, sx, nx, lox, hix, tsx⟩ := xx
 obtain ⟨ky, sy, ny, loy, hiy, tsy⟩ := xy
 simp only [RT.kind, RT.set, RT.neg, RT.low, RT.high, RT.kids, Nat.zero_mul, Nat.add_zero, Nat.one_mul, Nat.add_assoc, Nat.reduceAdd] at *
 have hsum : ¬ 9223372036854775807 < Lx.length + 1 := by omega
 have hsum2 : ¬ 9223372036854775807 < Lx.length + 1 + Ly.length := by omega
 have HB := Lib.hid (show ∀ o, Below w.heap.size w (w.alloc o) from fun o => (Below.refl w.heap.size w).alloc (Nat.le_refl _) _)
 have HT := Lib.hid ht
 have HH := Lib.hid (Held.start (W := (w.alloc (.cells #[.int .i64 4, .string s, .bool n, .int .i64 lo, .int .i64 hi, .slice (some ⟨b, o, none⟩) 2 cap] 26))) (l := [(w.heap.size, 3, .int .i64 lo), (w.heap.size, 4, .int .i64 hi), (w.heap.size, 5, .slice (some ⟨b, o, none⟩) 2 cap), (b, o, .int .i64 kx), (b, o + 1, .string sx), (b, o + 2, .bool nx), (b, o + 3, .int .i64 lox), (b, o + 4, .int .i64 hix), (b, o + 5, .slice ax tsx.length cx), (b, o + 6, .int .i64 ky), (b, o + 7, .string sy), (b, o + 8, .bool ny), (b, o + 9, .int .i64 loy), (b, o + 10, .int .i64 hiy), (b, o + 11, .slice ay tsy.length cy)]) (by
  have ec : ∀ j, (w.alloc (.cells #[.int .i64 4, .string s, .bool n, .int .i64 lo, .int .i64 hi, .slice (some ⟨b, o, none⟩) 2 cap] 26)).cell? ⟨b, j, none⟩ = w.cell? ⟨b, j, none⟩ := fun j => (HB.out _).cell (p := ⟨b, j, none⟩) hbl
  refine ⟨?_, ?_, ?_, (ec _).trans ex0, (ec _).trans ex1, (ec _).trans ex2, (ec _).trans ex3, (ec _).trans ex4, (ec _).trans ex5, (ec _).trans ey0, (ec _).trans ey1, (ec _).trans ey2, (ec _).trans ey3, (ec _).trans ey4, (ec _).trans ey5, trivial⟩ <;> (rw [World.cell?_alloc_at _ _ _ _ rfl]; rfl)))
 clear h hlen hk ht lx ly ex0 ex1 ex2 ex3 ex4 ex5 ey0 ey1 ey2 ey3 ey4 ey5
 generalize RT.txt (.node 4 s n lo hi [.node kx sx nx lox hix tsx, .node ky sy ny loy hiy tsy]) = R at *
 go_enter Tryd.func25, Tryd.ntmps25
 go_wp2_with fail
 go_region_held3 (fun w' => (w'.cell? ⟨w.heap.size, 3, none⟩ = some (.int .i64 lo) ∧ w'.cell? ⟨w.heap.size, 4, none⟩ = some (.int .i64 hi) ∧ w'.cell? ⟨w.heap.size, 5, none⟩ = some (.slice (some ⟨b, o, none⟩) 2 cap) ∧ w'.cell? ⟨b, o, none⟩ = some (.int .i64 kx) ∧ w'.cell? ⟨b, o + 1, none⟩ = some (.string sx) ∧ w'.cell? ⟨b, o + 2, none⟩ = some (.bool nx) ∧ w'.cell? ⟨b, o + 3, none⟩ = some (.int .i64 lox) ∧ w'.cell? ⟨b, o + 4, none⟩ = some (.int .i64 hix) ∧ w'.cell? ⟨b, o + 5, none⟩ = some (.slice ax tsx.length cx) ∧ w'.cell? ⟨b, o + 6, none⟩ = some (.int .i64 ky) ∧ w'.cell? ⟨b, o + 7, none⟩ = some (.string sy) ∧ w'.cell? ⟨b, o + 8, none⟩ = some (.bool ny) ∧ w'.cell? ⟨b, o + 9, none⟩ = some (.int .i64 loy) ∧ w'.cell? ⟨b, o + 10, none⟩ = some (.int .i64 hiy) ∧ w'.cell? ⟨b, o + 11, none⟩ = some (.slice ay tsy.length cy) ∧ True) ∧ Below (w.alloc (.cells #[.int .i64 4, .string s, .bool n, .int .i64 lo, .int .i64 hi, .slice (some ⟨b, o, none⟩) 2 cap] 26)).heap.size (w.alloc (.cells #[.int .i64 4, .string s, .bool n, .int .i64 lo, .int .i64 hi, .slice (some ⟨b, o, none⟩) 2 cap] 26)) w') (first | exact HH.out | assumption | exact Held.step (l := [(w.heap.size, 3, .int .i64 lo), (w.heap.size, 4, .int .i64 hi), (w.heap.size, 5, .slice (some ⟨b, o, none⟩) 2 cap), (b, o, .int .i64 kx), (b, o + 1, .string sx), (b, o + 2, .bool nx), (b, o + 3, .int .i64 lox), (b, o + 4, .int .i64 hix), (b, o + 5, .slice ax tsx.length cx), (b, o + 6, .int .i64 ky), (b, o + 7, .string sy), (b, o + 8, .bool ny), (b, o + 9, .int .i64 loy), (b, o + 10, .int .i64 hiy), (b, o + 11, .slice ay tsy.length cy)]) (W := (w.alloc (.cells #[.int .i64 4, .string s, .bool n, .int .i64 lo, .int .i64 hi, .slice (some ⟨b, o, none⟩) 2 cap] 26))) (by assumption) (by assumption) | exact Held.step (l := [(w.heap.size, 3, .int .i64 lo), (w.heap.size, 4, .int .i64 hi), (w.heap.size, 5, .slice (some ⟨b, o, none⟩) 2 cap), (b, o, .int .i64 kx), (b, o + 1, .string sx), (b, o + 2, .bool nx), (b, o + 3, .int .i64 lox), (b, o + 4, .int .i64 hix), (b, o + 5, .slice ax tsx.length cx), (b, o + 6, .int .i64 ky), (b, o + 7, .string sy), (b, o + 8, .bool ny), (b, o + 9, .int .i64 loy), (b, o + 10, .int .i64 hiy), (b, o + 11, .slice ay tsy.length cy)]) (W := (w.alloc (.cells #[.int .i64 4, .string s, .bool n, .int .i64 lo, .int .i64 hi, .slice (some ⟨b, o, none⟩) 2 cap] 26))) (by assumption) ((Below.refl _ _).alloc (Nat.le_refl _) _)) (first | (go_at_call 41; refine (KtC.call (w := w) (by assumption) _ _ _ _ ((HB.out _).trans (Below.mono (Held.below (l := [(w.heap.size, 3, .int .i64 lo), (w.heap.size, 4, .int .i64 hi), (w.heap.size, 5, .slice (some ⟨b, o, none⟩) 2 cap), (b, o, .int .i64 kx), (b, o + 1, .string sx), (b, o + 2, .bool nx), (b, o + 3, .int .i64 lox), (b, o + 4, .int .i64 hix), (b, o + 5, .slice ax tsx.length cx), (b, o + 6, .int .i64 ky), (b, o + 7, .string sy), (b, o + 8, .bool ny), (b, o + 9, .int .i64 loy), (b, o + 10, .int .i64 hiy), (b, o + 11, .slice ay tsy.length cy)]) (W := (w.alloc (.cells #[.int .i64 4, .string s, .bool n, .int .i64 lo, .int .i64 hi, .slice (some ⟨b, o, none⟩) 2 cap] 26))) (by assumption)) (HB.out _).size)) (by rfl) (by first | exact ints_new (by simp) rfl | exact IntsAt.drewI (ints_new (by simp) rfl) | exact IntsAt.drewI (IntsAt.alloc (ints_new (by simp) rfl) _) | exact IntsAt.via (by assumption) (IntsAt.drewI (ints_new (by simp) rfl)) | exact IntsAt.via (by assumption) (IntsAt.drewI (IntsAt.alloc (ints_new (by simp) rfl) _)) | fail)).mono ?_; rintro e wz ⟨rfl, hb⟩) | (go_at_call 25; refine (RtC.call (w := w) (by assumption) _ ((HB.out _).trans (Below.mono (Held.below (l := [(w.heap.size, 3, .int .i64 lo), (w.heap.size, 4, .int .i64 hi), (w.heap.size, 5, .slice (some ⟨b, o, none⟩) 2 cap), (b, o, .int .i64 kx), (b, o + 1, .string sx), (b, o + 2, .bool nx), (b, o + 3, .int .i64 lox), (b, o + 4, .int .i64 hix), (b, o + 5, .slice ax tsx.length cx), (b, o + 6, .int .i64 ky), (b, o + 7, .string sy), (b, o + 8, .bool ny), (b, o + 9, .int .i64 loy), (b, o + 10, .int .i64 hiy), (b, o + 11, .slice ay tsy.length cy)]) (W := (w.alloc (.cells #[.int .i64 4, .string s, .bool n, .int .i64 lo, .int .i64 hi, .slice (some ⟨b, o, none⟩) 2 cap] 26))) (by assumption)) (HB.out _).size))).mono ?_; rintro e wz ⟨rfl, hb⟩))
 all_goals
  have hfin := Held.below (l := [(w.heap.size, 3, .int .i64 lo), (w.heap.size, 4, .int .i64 hi), (w.heap.size, 5, .slice (some ⟨b, o, none⟩) 2 cap), (b, o, .int .i64 kx), (b, o + 1, .string sx), (b, o + 2, .bool nx), (b, o + 3, .int .i64 lox), (b, o + 4, .int .i64 hix), (b, o + 5, .slice ax tsx.length cx), (b, o + 6, .int .i64 ky), (b, o + 7, .string sy), (b, o + 8, .bool ny), (b, o + 9, .int .i64 loy), (b, o + 10, .int .i64 hiy), (b, o + 11, .slice ay tsy.length cy)]) (W := (w.alloc (.cells #[.int .i64 4, .string s, .bool n, .int .i64 lo, .int .i64 hi, .slice (some ⟨b, o, none⟩) 2 cap] 26))) (by assumption)
  go_wp2_with fail
  go_ret
  exact ⟨by rw [HE.out]; exact congrArg (fun t => Ending.returned (Value.string t)) (j3 Lx [124] Ly), (HB.out _).trans (hfin.mono (HB.out _).size)⟩
set_option maxRecDepth 100000 in
set_option maxHeartbeats 4000000 in
theorem itK5 (s : ByteArray) (n : Bool) (lo hi : Int) (xx : RT) (h : ∀ u ∈ ([xx] : List RT), TxI u) (hlen : ∀ u ∈ ([xx] : List RT), (RT.txt u).length ≤ 100000000) (hs : s.size ≤ 1048576) (htm : 5 = 5 → TimOk lo hi) (a : Option Addr) (cap : Nat) (w : World) (hk : Kids 0 w [xx] a) (ht : Tab w) :
  Calls Tryd.prog 25 #[.agg #[.int .i64 5, .string s, .bool n, .int .i64 lo, .int .i64 hi, .slice a 1 cap]] w fun e w' => e = .returned (.string ⟨(RT.txt (.node 5 s n lo hi [xx])).toArray⟩) ∧ Below w.heap.size w w' := by
 obtain ⟨ax, cx, hex, hkx⟩ := hk.elem 0 (by simp)
 simp only [List.getElem_cons_zero] at hex hkx
 obtain ⟨b, o, rfl, _, hbl, ex0, ex1, ex2, ex3, ex4, ex5, _, _⟩ := hex
 have hx := h xx (by simp)
 have lx := hlen xx (by simp)
 have Cx := ktc_of (c := cx) [0, 3, 4, 5, 6, 7] hx hkx ht lx (by simp)
 have HE := Lib.hid (show RT.txt (.node 5 s n lo hi [xx]) = wrT (hasB [0, 3, 4, 5, 6, 7] xx.kind) (RT.txt xx) ++ timT lo hi by rw [RT.txt]; simp [RT.wrs, hasB, wrT])
 have wlx : (wrT (hasB [0, 3, 4, 5, 6, 7] xx.kind) (RT.txt xx)).length ≤ 100000002 := Nat.le_trans (wrT_len _ _) (by omega)
 generalize wrT (hasB [0, 3, 4, 5, 6, 7] xx.kind) (RT.txt xx) = Lx at *
 have HTM := Lib.hid htm
 have htl := timT_len (htm rfl)
 clear htm
 obtain ⟨kx, sx, nx, lox, hix, tsx⟩ := xx
 simp only [RT.kind, RT.set, RT.neg, RT.low, RT.high, RT.kids, Nat.zero_mul, Nat.add_zero] at *
 have hsum : ¬ 9223372036854775807 < Lx.length + (timT lo hi).length := by omega
 have HB := Lib.hid (show ∀ o, Below w.heap.size w (w.alloc o) from fun o => (Below.refl w.heap.size w).alloc (Nat.le_refl _) _)
 have HT := Lib.hid ht
 have HH := Lib.hid (Held.start (W := (w.alloc (.cells #[.int .i64 5, .string s, .bool n, .int .i64 lo, .int .i64 hi, .slice (some ⟨b, o, none⟩) 1 cap] 26))) (l := [(w.heap.size, 3, .int .i64 lo), (w.heap.size, 4, .int .i64 hi), (w.heap.size, 5, .slice (some ⟨b, o, none⟩) 1 cap), (b, o, .int .i64 kx), (b, o + 1, .string sx), (b, o + 2, .bool nx), (b, o + 3, .int .i64 lox), (b, o + 4, .int .i64 hix), (b, o + 5, .slice ax tsx.length cx)]) (by
  have ec : ∀ j, (w.alloc (.cells #[.int .i64 5, .string s, .bool n, .int .i64 lo, .int .i64 hi, .slice (some ⟨b, o, none⟩) 1 cap] 26)).cell? ⟨b, j, none⟩ = w.cell? ⟨b, j, none⟩ := fun j => (HB.out _).cell (p := ⟨b, j, none⟩) hbl
  refine ⟨?_, ?_, ?_, (ec _).trans ex0, (ec _).trans ex1, (ec _).trans ex2, (ec _).trans ex3, (ec _).trans ex4, (ec _).trans ex5, trivial⟩ <;> (rw [World.cell?_alloc_at _ _ _ _ rfl]; rfl)))
 clear h hlen hk ht lx ex0 ex1 ex2 ex3 ex4 ex5
 generalize RT.txt (.node 5 s n lo hi [.node kx sx nx lox hix tsx]) = R at *
 go_enter Tryd.func25, Tryd.ntmps25
 go_wp2_with fail
 go_region_held3 (fun w' => (w'.cell? ⟨w.heap.size, 3, none⟩ = some (.int .i64 lo) ∧ w'.cell? ⟨w.heap.size, 4, none⟩ = some (.int .i64 hi) ∧ w'.cell? ⟨w.heap.size, 5, none⟩ = some (.slice (some ⟨b, o, none⟩) 1 cap) ∧ w'.cell? ⟨b, o, none⟩ = some (.int .i64 kx) ∧ w'.cell? ⟨b, o + 1, none⟩ = some (.string sx) ∧ w'.cell? ⟨b, o + 2, none⟩ = some (.bool nx) ∧ w'.cell? ⟨b, o + 3, none⟩ = some (.int .i64 lox) ∧ w'.cell? ⟨b, o + 4, none⟩ = some (.int .i64 hix) ∧ w'.cell? ⟨b, o + 5, none⟩ = some (.slice ax tsx.length cx) ∧ True) ∧ Below (w.alloc (.cells #[.int .i64 5, .string s, .bool n, .int .i64 lo, .int .i64 hi, .slice (some ⟨b, o, none⟩) 1 cap] 26)).heap.size (w.alloc (.cells #[.int .i64 5, .string s, .bool n, .int .i64 lo, .int .i64 hi, .slice (some ⟨b, o, none⟩) 1 cap] 26)) w') (first | exact HH.out | assumption | exact Held.step (l := [(w.heap.size, 3, .int .i64 lo), (w.heap.size, 4, .int .i64 hi), (w.heap.size, 5, .slice (some ⟨b, o, none⟩) 1 cap), (b, o, .int .i64 kx), (b, o + 1, .string sx), (b, o + 2, .bool nx), (b, o + 3, .int .i64 lox), (b, o + 4, .int .i64 hix), (b, o + 5, .slice ax tsx.length cx)]) (W := (w.alloc (.cells #[.int .i64 5, .string s, .bool n, .int .i64 lo, .int .i64 hi, .slice (some ⟨b, o, none⟩) 1 cap] 26))) (by assumption) (by assumption) | exact Held.step (l := [(w.heap.size, 3, .int .i64 lo), (w.heap.size, 4, .int .i64 hi), (w.heap.size, 5, .slice (some ⟨b, o, none⟩) 1 cap), (b, o, .int .i64 kx), (b, o + 1, .string sx), (b, o + 2, .bool nx), (b, o + 3, .int .i64 lox), (b, o + 4, .int .i64 hix), (b, o + 5, .slice ax tsx.length cx)]) (W := (w.alloc (.cells #[.int .i64 5, .string s, .bool n, .int .i64 lo, .int .i64 hi, .slice (some ⟨b, o, none⟩) 1 cap] 26))) (by assumption) ((Below.refl _ _).alloc (Nat.le_refl _) _)) (first | (go_at_call 41; refine (KtC.call (w := w) (by assumption) _ _ _ _ ((HB.out _).trans (Below.mono (Held.below (l := [(w.heap.size, 3, .int .i64 lo), (w.heap.size, 4, .int .i64 hi), (w.heap.size, 5, .slice (some ⟨b, o, none⟩) 1 cap), (b, o, .int .i64 kx), (b, o + 1, .string sx), (b, o + 2, .bool nx), (b, o + 3, .int .i64 lox), (b, o + 4, .int .i64 hix), (b, o + 5, .slice ax tsx.length cx)]) (W := (w.alloc (.cells #[.int .i64 5, .string s, .bool n, .int .i64 lo, .int .i64 hi, .slice (some ⟨b, o, none⟩) 1 cap] 26))) (by assumption)) (HB.out _).size)) (by rfl) (by first | exact ints_new (by simp) rfl | exact IntsAt.drewI (ints_new (by simp) rfl) | exact IntsAt.drewI (IntsAt.alloc (ints_new (by simp) rfl) _) | exact IntsAt.via (by assumption) (IntsAt.drewI (ints_new (by simp) rfl)) | exact IntsAt.via (by assumption) (IntsAt.drewI (IntsAt.alloc (ints_new (by simp) rfl) _)) | fail)).mono ?_; rintro e wz ⟨rfl, hb⟩) | (go_at_call 42; refine (timesText_any lo hi _ (HTM.out (by trivial)) (HT.out.on ((HB.out _).trans (Below.mono (Held.below (l := [(w.heap.size, 3, .int .i64 lo), (w.heap.size, 4, .int .i64 hi), (w.heap.size, 5, .slice (some ⟨b, o, none⟩) 1 cap), (b, o, .int .i64 kx), (b, o + 1, .string sx), (b, o + 2, .bool nx), (b, o + 3, .int .i64 lox), (b, o + 4, .int .i64 hix), (b, o + 5, .slice ax tsx.length cx)]) (W := (w.alloc (.cells #[.int .i64 5, .string s, .bool n, .int .i64 lo, .int .i64 hi, .slice (some ⟨b, o, none⟩) 1 cap] 26))) (by assumption)) (HB.out _).size)))).mono ?_; rintro e wz ⟨rfl, hb⟩))
 all_goals
  have hfin := Held.below (l := [(w.heap.size, 3, .int .i64 lo), (w.heap.size, 4, .int .i64 hi), (w.heap.size, 5, .slice (some ⟨b, o, none⟩) 1 cap), (b, o, .int .i64 kx), (b, o + 1, .string sx), (b, o + 2, .bool nx), (b, o + 3, .int .i64 lox), (b, o + 4, .int .i64 hix), (b, o + 5, .slice ax tsx.length cx)]) (W := (w.alloc (.cells #[.int .i64 5, .string s, .bool n, .int .i64 lo, .int .i64 hi, .slice (some ⟨b, o, none⟩) 1 cap] 26))) (by assumption)
  go_wp2_with fail
  go_ret
  exact ⟨by rw [HE.out]; exact congrArg (fun t => Ending.returned (Value.string t)) (app_lit Lx (timT lo hi)), (HB.out _).trans (hfin.mono (HB.out _).size)⟩
theorem own_tim {s : ByteArray} {n : Bool} {lo hi : Int} {ts : List RT} (h : RT.own (.node 5 s n lo hi ts) = true) : TimOk lo hi := by
 rw [own_eq] at h
 unfold ownB at h
 rw [if_neg (by decide), if_neg (by decide), if_neg (by decide), if_pos (by decide)] at h
 simp only [Bool.and_eq_true, Bool.or_eq_true, decide_eq_true_eq] at h
 exact ⟨h.1.2.1, h.1.2.2, h.2⟩
theorem setTxt_len (l : List UInt8) (n : Bool) : (setTxt l n).length ≤ l.length + 6 := by
 have h1 := optC_len 93 l
 have h2 := optC_len 94 l
 have h3 := optC_len 45 l
 have h4 := rTxt_len (others l) 0
 have h5 := others_len l
 unfold setTxt
 split
 ·unfold byTxt; split <;> simp
 ·split
  ·simp
  ·have h6 : (setBody l).length ≤ l.length + 3 := by
    unfold setBody; simp only [List.length_append]; omega
   cases n <;> simp <;> omega
/-- How long a text may be. -/
theorem RT.txt_len : ∀ (N : Nat) (t : RT), RT.sz t ≤ N → RT.good t → (RT.txt t).length ≤ 12 * (RT.cost t + 1) := by
 intro N
 induction N with
 | zero => intro t h; have := RT.sz_pos t; omega
 | succ N ih =>
  intro t hN hg
  have ho := RT.good_own hg
  have hgk := RT.good_kids hg
  have hsz := RT.sz_kid t
  obtain ⟨k, s, n, lo, hi, ts⟩ := t
  simp only [RT.kids] at hgk hsz
  rcases RT.own_shape ho with ⟨hk0, rfl⟩ | ⟨hk0, x, y, rfl⟩ | ⟨rfl, x, rfl⟩
  ·rcases hk0 with rfl | rfl | rfl | rfl | rfl
   ·rw [RT.txt]; simp; omega
   ·rw [RT.txt]; simp; omega
   ·rw [RT.txt]; simp; omega
   ·rw [RT.txt]; simp; omega
   ·have h1 := setTxt_len s.data.toList n
    have h2 : s.data.toList.length = s.size := by simp
    rw [RT.txt]
    simp only [RT.cost, RT.costs]
    simp
    omega
  ·have hx := ih x (by have := hsz x (by simp); omega) (hgk x (by simp))
   have hy := ih y (by have := hsz y (by simp); omega) (hgk y (by simp))
   have e : RT.cost (.node k s n lo hi [x, y]) = s.size + (RT.cost x + RT.cost y) + 2 := by simp [RT.cost, RT.costs]
   rcases hk0 with rfl | rfl
   ·have w1 := wrT_len (hasB [3, 4] x.kind) (RT.txt x)
    have w2 := wrT_len (hasB [4] y.kind) (RT.txt y)
    rw [e, RT.txt]
    simp [RT.wrs]
    omega
   ·have w1 := wrT_len (hasB [4] x.kind) (RT.txt x)
    rw [e, RT.txt]
    simp [RT.wrs, hasB, wrT] at w1 ⊢
    omega
  ·have hx := ih x (by have := hsz x (by simp); omega) (hgk x (by simp))
   have e : RT.cost (.node 5 s n lo hi [x]) = s.size + RT.cost x + 1 := by simp [RT.cost, RT.costs]
   have w1 := wrT_len (hasB [0, 3, 4, 5, 6, 7] x.kind) (RT.txt x)
   have w2 := timT_len (own_tim ho)
   rw [e, RT.txt]
   simp [RT.wrs]
   omega
/-- The same of every right one that costs no more than a law's counter has. -/
theorem txI_of {t : RT} (hg : RT.good t) (hc : RT.cost t ≤ 1048576) (h : ∀ u ∈ t.kids, TxI u) : TxI t := by
 intro a cap w hk ht
 have ho := RT.good_own hg
 have hgk := RT.good_kids hg
 have hcb := RT.cost_eq t
 have hlen : ∀ u ∈ t.kids, (RT.txt u).length ≤ 100000000 := fun u hu => by
  have h1 := RT.txt_len _ u (Nat.le_refl _) (hgk u hu)
  have h2 : RT.cost u ≤ RT.costs t.kids := by
   obtain ⟨i, hi, rfl⟩ := List.mem_iff_getElem.1 hu
   have h3 := RT.costs_take t.kids i hi
   have h4 := RT.costs_le t.kids (i + 1)
   omega
  simp only [RT.bill] at hcb
  omega
 obtain ⟨k, s, n, lo, hi, ts⟩ := t
 have hs : s.size ≤ 1048576 := by simp only [RT.set] at hcb; omega
 rcases RT.own_shape ho with ⟨hk0, rfl⟩ | ⟨hk0, x, y, rfl⟩ | ⟨rfl, x, rfl⟩
 ·rcases hk0 with rfl | rfl | rfl | rfl | rfl
  ·exact itK0 s n lo hi h hlen hs (fun h => absurd h (by decide)) a cap w hk ht
  ·exact itK1 s n lo hi h hlen hs (fun h => absurd h (by decide)) a cap w hk ht
  ·exact itK6 s n lo hi h hlen hs (fun h => absurd h (by decide)) a cap w hk ht
  ·exact itK7 s n lo hi h hlen hs (fun h => absurd h (by decide)) a cap w hk ht
  ·exact itK2 s n lo hi h hlen hs (fun h => absurd h (by decide)) a cap w hk ht
 ·rcases hk0 with rfl | rfl
  ·exact itK3 s n lo hi x y h hlen hs (fun h => absurd h (by decide)) a cap w hk ht
  ·exact itK4 s n lo hi x y h hlen hs (fun h => absurd h (by decide)) a cap w hk ht
 ·exact itK5 s n lo hi x h hlen hs (fun _ => own_tim ho) a cap w hk ht
theorem txI_all : ∀ (N : Nat) (t : RT), RT.sz t ≤ N → RT.good t → RT.cost t ≤ 1048576 → TxI t := by
 intro N
 induction N with
 | zero => intro t h; have := RT.sz_pos t; omega
 | succ N ih =>
  intro t h hg hc
  refine txI_of hg hc fun u hu => ih u (by have := RT.sz_kid t u hu; omega) (RT.good_kids hg u hu) ?_
  have hcb := RT.cost_eq t
  obtain ⟨i, hi, rfl⟩ := List.mem_iff_getElem.1 hu
  have h3 := RT.costs_take t.kids i hi
  have h4 := RT.costs_le t.kids (i + 1)
  simp only [RT.bill] at hcb
  omega
end Go.Proofs.YtcpaneaiobnhdaaDoor.kit
