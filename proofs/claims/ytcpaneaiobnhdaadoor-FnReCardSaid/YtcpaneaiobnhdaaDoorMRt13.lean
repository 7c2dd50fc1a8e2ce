/-
 Contract of spec.l04Text over this seat's translation: the text of a right expression. Conditions: each theorem names its own.
-/
import Derived.Test.YtcpaneaiobnhdaaDoorMRt10
import Derived.Test.YtcpaneaiobnhdaaDoorMRt4
namespace Go.Proofs.YtcpaneaiobnhdaaDoor.kit
open Go.ChangeShapes Go.WideShapes Go.ChangeAt Go.RowKit
set_option linter.unusedVariables false

/-- What a call of l04Wrap over one kid answers, in whatever world that has changed nothing. -/
structure WrC (w : World) (k : Int) (s : ByteArray) (n : Bool) (lo hi : Int) (ts : List RT) (a : Option Addr) (c : Nat) (L : List UInt8) : Prop where
 call : ∀ W bo, Below w.heap.size w W → Calls Tryd.prog 46 #[.agg #[.int .i64 k, .string s, .bool n, .int .i64 lo, .int .i64 hi, .slice a ts.length c], .bool bo] W fun e w' => e = .returned (.string ⟨(wrT bo L).toArray⟩) ∧ Below W.heap.size W w'
structure StC (w : World) (k : Int) (s : ByteArray) (n : Bool) (lo hi : Int) (ts : List RT) (a : Option Addr) (c : Nat) (L : List UInt8) : Prop where
 call : ∀ W, Below w.heap.size w W → Calls Tryd.prog 28 #[.agg #[.int .i64 k, .string s, .bool n, .int .i64 lo, .int .i64 hi, .slice a ts.length c]] W fun e w' => e = .returned (.string ⟨L.toArray⟩) ∧ Below W.heap.size W w'
theorem wrc_of {t : RT} {w : World} {a : Option Addr} {c : Nat} (h : TxS t) (hk : Kids 0 w t.kids a) (hlen : (RT.txt t).length ≤ 100000000) : WrC w t.kind t.set t.neg t.low t.high t.kids a c (RT.txt t) :=
 ⟨fun W bo hW => l04Wrap_any t h a c bo W (hk.kept (Nat.le_refl _) hW) hlen⟩
theorem stc_of {t : RT} {w : World} {a : Option Addr} {c : Nat} (h : TxS t) (hk : Kids 0 w t.kids a) : StC w t.kind t.set t.neg t.low t.high t.kids a c (RT.txt t) :=
 ⟨fun W hW => h a c W (hk.kept (Nat.le_refl _) hW)⟩
theorem own_kind {t : RT} (h : RT.good t) : t.kind = 0 ∨ t.kind = 1 ∨ t.kind = 2 ∨ t.kind = 3 ∨ t.kind = 4 ∨ t.kind = 5 ∨ t.kind = 6 ∨ t.kind = 7 := by
 have ho := RT.good_own h
 obtain ⟨k, s, n, lo, hi, ts⟩ := t
 simp only [RT.kind]
 rcases RT.own_shape ho with ⟨hk0, _⟩ | ⟨hk0, _⟩ | ⟨hk0, _⟩ <;> omega
theorem has4 (k : Int) : hasB [4] k = (k == 4) := by
 unfold hasB; rw [Bool.eq_iff_iff]; simp
theorem has34 {k : Int} (h : k ≠ 3) : hasB [3, 4] k = (k == 4) := by
 unfold hasB; rw [Bool.eq_iff_iff]; simp [h]
theorem hasMany {k : Int} (h : k = 0 ∨ k = 1 ∨ k = 2 ∨ k = 3 ∨ k = 4 ∨ k = 5 ∨ k = 6 ∨ k = 7) (h2 : k ≠ 2) : hasB [0, 3, 4, 5, 6, 7] k = (k != 1) := by
 rcases h with rfl | rfl | rfl | rfl | rfl | rfl | rfl | rfl
 all_goals first | rfl | exact absurd rfl h2
set_option maxRecDepth 100000 in
set_option maxHeartbeats 8000000 in
theorem stK0 (s : ByteArray) (n : Bool) (lo hi : Int) (h : ∀ u ∈ ([] : List RT), TxS u) (hlen : ∀ u ∈ ([] : List RT), (RT.txt u).length ≤ 100000000) (hs : s.size ≤ 1048576) (htm : 0 = 5 → TimOk lo hi) (hst : 0 = 2 → RT.asc s.data.toList = true ∧ s.data.toList ≠ []) (a : Option Addr) (cap : Nat) (w : World) (hk : Kids 0 w [] a) :
  Calls Tryd.prog 28 #[.agg #[.int .i64 0, .string s, .bool n, .int .i64 lo, .int .i64 hi, .slice a 0 cap]] w fun e w' => e = .returned (.string ⟨(RT.txt (.node 0 s n lo hi [])).toArray⟩) ∧ Below w.heap.size w w' := by
 have HB := Lib.hid (show ∀ o, Below w.heap.size w (w.alloc o) from fun o => (Below.refl w.heap.size w).alloc (Nat.le_refl _) _)
 have HE := Lib.hid (show RT.txt (.node 0 s n lo hi []) = [40, 41] by rw [RT.txt]; simp)
 clear h hk hlen htm hst
 go_enter Tryd.func28, Tryd.ntmps28
 go_wp2_with fail
 go_ret
 exact ⟨by rw [HE.out]; rfl, HB.out _⟩
set_option maxRecDepth 100000 in
set_option maxHeartbeats 8000000 in
theorem stK1 (s : ByteArray) (n : Bool) (lo hi : Int) (h : ∀ u ∈ ([] : List RT), TxS u) (hlen : ∀ u ∈ ([] : List RT), (RT.txt u).length ≤ 100000000) (hs : s.size ≤ 1048576) (htm : 1 = 5 → TimOk lo hi) (hst : 1 = 2 → RT.asc s.data.toList = true ∧ s.data.toList ≠ []) (a : Option Addr) (cap : Nat) (w : World) (hk : Kids 0 w [] a) :
  Calls Tryd.prog 28 #[.agg #[.int .i64 1, .string s, .bool n, .int .i64 lo, .int .i64 hi, .slice a 0 cap]] w fun e w' => e = .returned (.string ⟨(RT.txt (.node 1 s n lo hi [])).toArray⟩) ∧ Below w.heap.size w w' := by
 have HB := Lib.hid (show ∀ o, Below w.heap.size w (w.alloc o) from fun o => (Below.refl w.heap.size w).alloc (Nat.le_refl _) _)
 have HE := Lib.hid (show RT.txt (.node 1 s n lo hi []) = [46] by rw [RT.txt]; simp)
 clear h hk hlen htm hst
 go_enter Tryd.func28, Tryd.ntmps28
 go_wp2_with fail
 go_ret
 exact ⟨by rw [HE.out]; rfl, HB.out _⟩
set_option maxRecDepth 100000 in
set_option maxHeartbeats 8000000 in
theorem stK6 (s : ByteArray) (n : Bool) (lo hi : Int) (h : ∀ u ∈ ([] : List RT), TxS u) (hlen : ∀ u ∈ ([] : List RT), (RT.txt u).length ≤ 100000000) (hs : s.size ≤ 1048576) (htm : 6 = 5 → TimOk lo hi) (hst : 6 = 2 → RT.asc s.data.toList = true ∧ s.data.toList ≠ []) (a : Option Addr) (cap : Nat) (w : World) (hk : Kids 0 w [] a) :
  Calls Tryd.prog 28 #[.agg #[.int .i64 6, .string s, .bool n, .int .i64 lo, .int .i64 hi, .slice a 0 cap]] w fun e w' => e = .returned (.string ⟨(RT.txt (.node 6 s n lo hi [])).toArray⟩) ∧ Below w.heap.size w w' := by
 have HB := Lib.hid (show ∀ o, Below w.heap.size w (w.alloc o) from fun o => (Below.refl w.heap.size w).alloc (Nat.le_refl _) _)
 have HE := Lib.hid (show RT.txt (.node 6 s n lo hi []) = [94] by rw [RT.txt]; simp)
 clear h hk hlen htm hst
 go_enter Tryd.func28, Tryd.ntmps28
 go_wp2_with fail
 go_ret
 exact ⟨by rw [HE.out]; rfl, HB.out _⟩
set_option maxRecDepth 100000 in
set_option maxHeartbeats 8000000 in
theorem stK7 (s : ByteArray) (n : Bool) (lo hi : Int) (h : ∀ u ∈ ([] : List RT), TxS u) (hlen : ∀ u ∈ ([] : List RT), (RT.txt u).length ≤ 100000000) (hs : s.size ≤ 1048576) (htm : 7 = 5 → TimOk lo hi) (hst : 7 = 2 → RT.asc s.data.toList = true ∧ s.data.toList ≠ []) (a : Option Addr) (cap : Nat) (w : World) (hk : Kids 0 w [] a) :
  Calls Tryd.prog 28 #[.agg #[.int .i64 7, .string s, .bool n, .int .i64 lo, .int .i64 hi, .slice a 0 cap]] w fun e w' => e = .returned (.string ⟨(RT.txt (.node 7 s n lo hi [])).toArray⟩) ∧ Below w.heap.size w w' := by
 have HB := Lib.hid (show ∀ o, Below w.heap.size w (w.alloc o) from fun o => (Below.refl w.heap.size w).alloc (Nat.le_refl _) _)
 have HE := Lib.hid (show RT.txt (.node 7 s n lo hi []) = [36] by rw [RT.txt]; simp)
 clear h hk hlen htm hst
 go_enter Tryd.func28, Tryd.ntmps28
 go_wp2_with fail
 go_ret
 exact ⟨by rw [HE.out]; rfl, HB.out _⟩
set_option maxRecDepth 100000 in
set_option maxHeartbeats 8000000 in
theorem stK2 (s : ByteArray) (n : Bool) (lo hi : Int) (h : ∀ u ∈ ([] : List RT), TxS u) (hlen : ∀ u ∈ ([] : List RT), (RT.txt u).length ≤ 100000000) (hs : s.size ≤ 1048576) (htm : 2 = 5 → TimOk lo hi) (hst : 2 = 2 → RT.asc s.data.toList = true ∧ s.data.toList ≠ []) (a : Option Addr) (cap : Nat) (w : World) (hk : Kids 0 w [] a) :
  Calls Tryd.prog 28 #[.agg #[.int .i64 2, .string s, .bool n, .int .i64 lo, .int .i64 hi, .slice a 0 cap]] w fun e w' => e = .returned (.string ⟨(RT.txt (.node 2 s n lo hi [])).toArray⟩) ∧ Below w.heap.size w w' := by
 have HB := Lib.hid (show ∀ o, Below w.heap.size w (w.alloc o) from fun o => (Below.refl w.heap.size w).alloc (Nat.le_refl _) _)
 have HE := Lib.hid (show RT.txt (.node 2 s n lo hi []) = setTxt s.data.toList n by rw [RT.txt]; simp)
 obtain ⟨h1, h2⟩ := hst rfl
 have HS := Lib.hid (fun W => l04Sets_any 2 s n lo hi a 0 cap W hs h1 h2)
 clear h hk hlen htm hst h1 h2
 go_enter Tryd.func28, Tryd.ntmps28
 go_wp2_with fail
 refine (HS.out _).mono ?_
 rintro e w1 ⟨rfl, hb1⟩
 go_wp2_with fail
 go_ret
 exact ⟨by rw [HE.out]; rfl, (HB.out _).trans (hb1.mono (HB.out _).size)⟩
set_option maxRecDepth 100000 in
set_option maxHeartbeats 8000000 in
theorem stK3a (s : ByteArray) (n : Bool) (lo hi : Int) (xx : RT) (xy : RT) (h : ∀ u ∈ ([xx, xy] : List RT), TxS u) (hlen : ∀ u ∈ ([xx, xy] : List RT), (RT.txt u).length ≤ 100000000) (hs : s.size ≤ 1048576) (htm : 3 = 5 → TimOk lo hi) (hst : 3 = 2 → RT.asc s.data.toList = true ∧ s.data.toList ≠ []) (hkx0 : xx.kind ≠ 3) (a : Option Addr) (cap : Nat) (w : World) (hk : Kids 0 w [xx, xy] a) :
  Calls Tryd.prog 28 #[.agg #[.int .i64 3, .string s, .bool n, .int .i64 lo, .int .i64 hi, .slice a 2 cap]] w fun e w' => e = .returned (.string ⟨(RT.txt (.node 3 s n lo hi [xx, xy])).toArray⟩) ∧ Below w.heap.size w w' := by
 obtain ⟨ax, cx, hex, hkx⟩ := hk.elem 0 (by simp)
 obtain ⟨ay, cy, hey, hky⟩ := hk.elem 1 (by simp)
 simp only [List.getElem_cons_zero, List.getElem_cons_succ] at hex hkx hey hky
 obtain ⟨b, o, rfl, _, hbl, ex0, ex1, ex2, ex3, ex4, ex5, _, _⟩ := hex
 obtain ⟨b2, o2, e2, _, _, ey0, ey1, ey2, ey3, ey4, ey5, _, _⟩ := hey
 cases e2
 have hx := h xx (by simp)
 have lx := hlen xx (by simp)
 have hy := h xy (by simp)
 have ly := hlen xy (by simp)
 have Cx := wrc_of (c := cx) hx hkx lx
 have Cy := wrc_of (c := cy) hy hky ly
 have HE := Lib.hid (show RT.txt (.node 3 s n lo hi [xx, xy]) = wrT (xx.kind == 4) (RT.txt xx) ++ wrT (xy.kind == 4) (RT.txt xy) by rw [RT.txt]; simp [RT.wrs, has34 hkx0, has4])
 have wlx : (wrT (xx.kind == 4) (RT.txt xx)).length ≤ 100000002 := Nat.le_trans (wrT_len _ _) (by omega)
 have wly : (wrT (xy.kind == 4) (RT.txt xy)).length ≤ 100000002 := Nat.le_trans (wrT_len _ _) (by omega)
 generalize RT.txt xx = Lx at *
 generalize RT.txt xy = Ly at *
 obtain ⟨kx, sx, nx, lox, hix, tsx⟩ := xx
 obtain ⟨ky, sy, ny, loy, hiy, tsy⟩ := xy
 simp only [RT.kind, RT.set, RT.neg, RT.low, RT.high, RT.kids, Nat.zero_mul, Nat.add_zero, Nat.one_mul, Nat.add_assoc, Nat.reduceAdd] at *
 have g3 : (kx == 3) = false := by simpa using hkx0
 have hsum : ¬ 9223372036854775807 < (wrT (kx == 4) Lx).length + (wrT (ky == 4) Ly).length := by omega
 have HB := Lib.hid (show ∀ o, Below w.heap.size w (w.alloc o) from fun o => (Below.refl w.heap.size w).alloc (Nat.le_refl _) _)
 have HH := Lib.hid (Held.start (W := (w.alloc (.cells #[.int .i64 3, .string s, .bool n, .int .i64 lo, .int .i64 hi, .slice (some ⟨b, o, none⟩) 2 cap] 26))) (l := [(w.heap.size, 0, .int .i64 3), (w.heap.size, 1, .string s), (w.heap.size, 2, .bool n), (w.heap.size, 3, .int .i64 lo), (w.heap.size, 4, .int .i64 hi), (w.heap.size, 5, .slice (some ⟨b, o, none⟩) 2 cap), (b, o, .int .i64 kx), (b, o + 1, .string sx), (b, o + 2, .bool nx), (b, o + 3, .int .i64 lox), (b, o + 4, .int .i64 hix), (b, o + 5, .slice ax tsx.length cx), (b, o + 6, .int .i64 ky), (b, o + 7, .string sy), (b, o + 8, .bool ny), (b, o + 9, .int .i64 loy), (b, o + 10, .int .i64 hiy), (b, o + 11, .slice ay tsy.length cy)]) (by
  have ec : ∀ j, (w.alloc (.cells #[.int .i64 3, .string s, .bool n, .int .i64 lo, .int .i64 hi, .slice (some ⟨b, o, none⟩) 2 cap] 26)).cell? ⟨b, j, none⟩ = w.cell? ⟨b, j, none⟩ := fun j => (HB.out _).cell (p := ⟨b, j, none⟩) hbl
  refine ⟨?_, ?_, ?_, ?_, ?_, ?_, (ec _).trans ex0, (ec _).trans ex1, (ec _).trans ex2, (ec _).trans ex3, (ec _).trans ex4, (ec _).trans ex5, (ec _).trans ey0, (ec _).trans ey1, (ec _).trans ey2, (ec _).trans ey3, (ec _).trans ey4, (ec _).trans ey5, trivial⟩ <;> (rw [World.cell?_alloc_at _ _ _ _ rfl]; rfl)))
 clear h hlen hk hst lx ly ex0 ex1 ex2 ex3 ex4 ex5 ey0 ey1 ey2 ey3 ey4 ey5
 generalize RT.txt (.node 3 s n lo hi [.node kx sx nx lox hix tsx, .node ky sy ny loy hiy tsy]) = R at *
 go_enter Tryd.func28, Tryd.ntmps28
 go_wp2_with fail
 go_region_held3 (fun w' => (w'.cell? ⟨w.heap.size, 0, none⟩ = some (.int .i64 3) ∧ w'.cell? ⟨w.heap.size, 1, none⟩ = some (.string s) ∧ w'.cell? ⟨w.heap.size, 2, none⟩ = some (.bool n) ∧ w'.cell? ⟨w.heap.size, 3, none⟩ = some (.int .i64 lo) ∧ w'.cell? ⟨w.heap.size, 4, none⟩ = some (.int .i64 hi) ∧ w'.cell? ⟨w.heap.size, 5, none⟩ = some (.slice (some ⟨b, o, none⟩) 2 cap) ∧ w'.cell? ⟨b, o, none⟩ = some (.int .i64 kx) ∧ w'.cell? ⟨b, o + 1, none⟩ = some (.string sx) ∧ w'.cell? ⟨b, o + 2, none⟩ = some (.bool nx) ∧ w'.cell? ⟨b, o + 3, none⟩ = some (.int .i64 lox) ∧ w'.cell? ⟨b, o + 4, none⟩ = some (.int .i64 hix) ∧ w'.cell? ⟨b, o + 5, none⟩ = some (.slice ax tsx.length cx) ∧ w'.cell? ⟨b, o + 6, none⟩ = some (.int .i64 ky) ∧ w'.cell? ⟨b, o + 7, none⟩ = some (.string sy) ∧ w'.cell? ⟨b, o + 8, none⟩ = some (.bool ny) ∧ w'.cell? ⟨b, o + 9, none⟩ = some (.int .i64 loy) ∧ w'.cell? ⟨b, o + 10, none⟩ = some (.int .i64 hiy) ∧ w'.cell? ⟨b, o + 11, none⟩ = some (.slice ay tsy.length cy) ∧ True) ∧ Below (w.alloc (.cells #[.int .i64 3, .string s, .bool n, .int .i64 lo, .int .i64 hi, .slice (some ⟨b, o, none⟩) 2 cap] 26)).heap.size (w.alloc (.cells #[.int .i64 3, .string s, .bool n, .int .i64 lo, .int .i64 hi, .slice (some ⟨b, o, none⟩) 2 cap] 26)) w') (first | exact HH.out | assumption | exact Held.step (l := [(w.heap.size, 0, .int .i64 3), (w.heap.size, 1, .string s), (w.heap.size, 2, .bool n), (w.heap.size, 3, .int .i64 lo), (w.heap.size, 4, .int .i64 hi), (w.heap.size, 5, .slice (some ⟨b, o, none⟩) 2 cap), (b, o, .int .i64 kx), (b, o + 1, .string sx), (b, o + 2, .bool nx), (b, o + 3, .int .i64 lox), (b, o + 4, .int .i64 hix), (b, o + 5, .slice ax tsx.length cx), (b, o + 6, .int .i64 ky), (b, o + 7, .string sy), (b, o + 8, .bool ny), (b, o + 9, .int .i64 loy), (b, o + 10, .int .i64 hiy), (b, o + 11, .slice ay tsy.length cy)]) (W := (w.alloc (.cells #[.int .i64 3, .string s, .bool n, .int .i64 lo, .int .i64 hi, .slice (some ⟨b, o, none⟩) 2 cap] 26))) (by assumption) (by assumption)) (first | (go_at_call 46; refine (WrC.call (w := w) (by assumption) _ _ ((HB.out _).trans (Below.mono (Held.below (l := [(w.heap.size, 0, .int .i64 3), (w.heap.size, 1, .string s), (w.heap.size, 2, .bool n), (w.heap.size, 3, .int .i64 lo), (w.heap.size, 4, .int .i64 hi), (w.heap.size, 5, .slice (some ⟨b, o, none⟩) 2 cap), (b, o, .int .i64 kx), (b, o + 1, .string sx), (b, o + 2, .bool nx), (b, o + 3, .int .i64 lox), (b, o + 4, .int .i64 hix), (b, o + 5, .slice ax tsx.length cx), (b, o + 6, .int .i64 ky), (b, o + 7, .string sy), (b, o + 8, .bool ny), (b, o + 9, .int .i64 loy), (b, o + 10, .int .i64 hiy), (b, o + 11, .slice ay tsy.length cy)]) (W := (w.alloc (.cells #[.int .i64 3, .string s, .bool n, .int .i64 lo, .int .i64 hi, .slice (some ⟨b, o, none⟩) 2 cap] 26))) (by assumption)) (HB.out _).size))).mono ?_; rintro e wz ⟨rfl, hb⟩))
 all_goals
  have hfin := Held.below (l := [(w.heap.size, 0, .int .i64 3), (w.heap.size, 1, .string s), (w.heap.size, 2, .bool n), (w.heap.size, 3, .int .i64 lo), (w.heap.size, 4, .int .i64 hi), (w.heap.size, 5, .slice (some ⟨b, o, none⟩) 2 cap), (b, o, .int .i64 kx), (b, o + 1, .string sx), (b, o + 2, .bool nx), (b, o + 3, .int .i64 lox), (b, o + 4, .int .i64 hix), (b, o + 5, .slice ax tsx.length cx), (b, o + 6, .int .i64 ky), (b, o + 7, .string sy), (b, o + 8, .bool ny), (b, o + 9, .int .i64 loy), (b, o + 10, .int .i64 hiy), (b, o + 11, .slice ay tsy.length cy)]) (W := (w.alloc (.cells #[.int .i64 3, .string s, .bool n, .int .i64 lo, .int .i64 hi, .slice (some ⟨b, o, none⟩) 2 cap] 26))) (by assumption)
  go_wp2_with fail
  go_ret
  exact ⟨by rw [HE.out]; exact congrArg (fun t => Ending.returned (Value.string t)) (app_lit (wrT (kx == 4) Lx) (wrT (ky == 4) Ly)), (HB.out _).trans (hfin.mono (HB.out _).size)⟩
set_option maxRecDepth 100000 in
set_option maxHeartbeats 8000000 in
theorem stK3b (s : ByteArray) (n : Bool) (lo hi : Int) (xx : RT) (xy : RT) (h : ∀ u ∈ ([xx, xy] : List RT), TxS u) (hlen : ∀ u ∈ ([xx, xy] : List RT), (RT.txt u).length ≤ 100000000) (hs : s.size ≤ 1048576) (htm : 3 = 5 → TimOk lo hi) (hst : 3 = 2 → RT.asc s.data.toList = true ∧ s.data.toList ≠ []) (hkx0 : xx.kind = 3) (a : Option Addr) (cap : Nat) (w : World) (hk : Kids 0 w [xx, xy] a) :
  Calls Tryd.prog 28 #[.agg #[.int .i64 3, .string s, .bool n, .int .i64 lo, .int .i64 hi, .slice a 2 cap]] w fun e w' => e = .returned (.string ⟨(RT.txt (.node 3 s n lo hi [xx, xy])).toArray⟩) ∧ Below w.heap.size w w' := by
 obtain ⟨ax, cx, hex, hkx⟩ := hk.elem 0 (by simp)
 obtain ⟨ay, cy, hey, hky⟩ := hk.elem 1 (by simp)
 simp only [List.getElem_cons_zero, List.getElem_cons_succ] at hex hkx hey hky
 obtain ⟨b, o, rfl, _, hbl, ex0, ex1, ex2, ex3, ex4, ex5, _, _⟩ := hex
 obtain ⟨b2, o2, e2, _, _, ey0, ey1, ey2, ey3, ey4, ey5, _, _⟩ := hey
 cases e2
 have hx := h xx (by simp)
 have lx := hlen xx (by simp)
 have hy := h xy (by simp)
 have ly := hlen xy (by simp)
 have Cx := wrc_of (c := cx) hx hkx lx
 have Cy := wrc_of (c := cy) hy hky ly
 have HE := Lib.hid (show RT.txt (.node 3 s n lo hi [xx, xy]) = wrT true (RT.txt xx) ++ wrT (xy.kind == 4) (RT.txt xy) by rw [RT.txt]; simp [RT.wrs, hkx0, show hasB [3, 4] 3 = true from rfl, has4])
 have wlx : (wrT true (RT.txt xx)).length ≤ 100000002 := Nat.le_trans (wrT_len _ _) (by omega)
 have wly : (wrT (xy.kind == 4) (RT.txt xy)).length ≤ 100000002 := Nat.le_trans (wrT_len _ _) (by omega)
 generalize RT.txt xx = Lx at *
 generalize RT.txt xy = Ly at *
 obtain ⟨kx, sx, nx, lox, hix, tsx⟩ := xx
 obtain ⟨ky, sy, ny, loy, hiy, tsy⟩ := xy
 simp only [RT.kind, RT.set, RT.neg, RT.low, RT.high, RT.kids, Nat.zero_mul, Nat.add_zero, Nat.one_mul, Nat.add_assoc, Nat.reduceAdd] at *
 subst hkx0
 have hsum : ¬ 9223372036854775807 < (wrT true Lx).length + (wrT (ky == 4) Ly).length := by omega
 have HB := Lib.hid (show ∀ o, Below w.heap.size w (w.alloc o) from fun o => (Below.refl w.heap.size w).alloc (Nat.le_refl _) _)
 have HH := Lib.hid (Held.start (W := (w.alloc (.cells #[.int .i64 3, .string s, .bool n, .int .i64 lo, .int .i64 hi, .slice (some ⟨b, o, none⟩) 2 cap] 26))) (l := [(w.heap.size, 0, .int .i64 3), (w.heap.size, 1, .string s), (w.heap.size, 2, .bool n), (w.heap.size, 3, .int .i64 lo), (w.heap.size, 4, .int .i64 hi), (w.heap.size, 5, .slice (some ⟨b, o, none⟩) 2 cap), (b, o, .int .i64 3), (b, o + 1, .string sx), (b, o + 2, .bool nx), (b, o + 3, .int .i64 lox), (b, o + 4, .int .i64 hix), (b, o + 5, .slice ax tsx.length cx), (b, o + 6, .int .i64 ky), (b, o + 7, .string sy), (b, o + 8, .bool ny), (b, o + 9, .int .i64 loy), (b, o + 10, .int .i64 hiy), (b, o + 11, .slice ay tsy.length cy)]) (by
  have ec : ∀ j, (w.alloc (.cells #[.int .i64 3, .string s, .bool n, .int .i64 lo, .int .i64 hi, .slice (some ⟨b, o, none⟩) 2 cap] 26)).cell? ⟨b, j, none⟩ = w.cell? ⟨b, j, none⟩ := fun j => (HB.out _).cell (p := ⟨b, j, none⟩) hbl
  refine ⟨?_, ?_, ?_, ?_, ?_, ?_, (ec _).trans ex0, (ec _).trans ex1, (ec _).trans ex2, (ec _).trans ex3, (ec _).trans ex4, (ec _).trans ex5, (ec _).trans ey0, (ec _).trans ey1, (ec _).trans ey2, (ec _).trans ey3, (ec _).trans ey4, (ec _).trans ey5, trivial⟩ <;> (rw [World.cell?_alloc_at _ _ _ _ rfl]; rfl)))
 clear h hlen hk hst lx ly ex0 ex1 ex2 ex3 ex4 ex5 ey0 ey1 ey2 ey3 ey4 ey5
 generalize RT.txt (.node 3 s n lo hi [.node 3 sx nx lox hix tsx, .node ky sy ny loy hiy tsy]) = R at *
 go_enter Tryd.func28, Tryd.ntmps28
 go_wp2_with fail
 refine wp_region_held_drew (S := fun w' => (w'.cell? ⟨w.heap.size, 0, none⟩ = some (.int .i64 3) ∧ w'.cell? ⟨w.heap.size, 1, none⟩ = some (.string s) ∧ w'.cell? ⟨w.heap.size, 2, none⟩ = some (.bool n) ∧ w'.cell? ⟨w.heap.size, 3, none⟩ = some (.int .i64 lo) ∧ w'.cell? ⟨w.heap.size, 4, none⟩ = some (.int .i64 hi) ∧ w'.cell? ⟨w.heap.size, 5, none⟩ = some (.slice (some ⟨b, o, none⟩) 2 cap) ∧ w'.cell? ⟨b, o, none⟩ = some (.int .i64 3) ∧ w'.cell? ⟨b, o + 1, none⟩ = some (.string sx) ∧ w'.cell? ⟨b, o + 2, none⟩ = some (.bool nx) ∧ w'.cell? ⟨b, o + 3, none⟩ = some (.int .i64 lox) ∧ w'.cell? ⟨b, o + 4, none⟩ = some (.int .i64 hix) ∧ w'.cell? ⟨b, o + 5, none⟩ = some (.slice ax tsx.length cx) ∧ w'.cell? ⟨b, o + 6, none⟩ = some (.int .i64 ky) ∧ w'.cell? ⟨b, o + 7, none⟩ = some (.string sy) ∧ w'.cell? ⟨b, o + 8, none⟩ = some (.bool ny) ∧ w'.cell? ⟨b, o + 9, none⟩ = some (.int .i64 loy) ∧ w'.cell? ⟨b, o + 10, none⟩ = some (.int .i64 hiy) ∧ w'.cell? ⟨b, o + 11, none⟩ = some (.slice ay tsy.length cy) ∧ True) ∧ Below (w.alloc (.cells #[.int .i64 3, .string s, .bool n, .int .i64 lo, .int .i64 hi, .slice (some ⟨b, o, none⟩) 2 cap] 26)).heap.size (w.alloc (.cells #[.int .i64 3, .string s, .bool n, .int .i64 lo, .int .i64 hi, .slice (some ⟨b, o, none⟩) 2 cap] 26)) w') (by kernel_rfl) HH.out (fun hHeld => ?_)
 refine wpAnyH_take (i := 0) (v := ?_) rfl (by kernel_rfl) (by kernel_rfl) (by kernel_rfl) (fun _ _ _ h => h) (Or.inl ⟨by kernel_rfl, ?_⟩) (by assumption) ?_
 rotate_left 1
 ·intro w hSw
  try dsimp only at hSw
  go_simp
  try with_reducible rfl
 try simp only [List.getElem_toArray, List.getElem_cons_zero, Act.put, List.setIfInBounds_toArray, List.set_cons_zero, List.set_cons_succ]
 refine wpAnyH_take (i := 1) (v := ?_) rfl (by kernel_rfl) (by kernel_rfl) (by kernel_rfl) (fun _ _ _ h => h) (Or.inl ⟨by kernel_rfl, ?_⟩) (by assumption) ?_
 rotate_left 1
 ·intro w hSw
  try dsimp only at hSw
  go_simp
  try with_reducible rfl
 try simp only [List.getElem_toArray, List.getElem_cons_zero, List.getElem_cons_succ, Act.put, List.setIfInBounds_toArray, List.set_cons_zero, List.set_cons_succ]
 refine wpAnyH_take (i := 2) (v := ?_) rfl (by kernel_rfl) (by kernel_rfl) (by kernel_rfl) (fun _ _ _ h => h) (Or.inl ⟨by kernel_rfl, ?_⟩) (by assumption) ?_
 rotate_left 1
 ·intro w hSw
  try dsimp only at hSw
  go_simp
  try with_reducible rfl
 try simp only [List.getElem_toArray, List.getElem_cons_zero, List.getElem_cons_succ, Act.put, List.setIfInBounds_toArray, List.set_cons_zero, List.set_cons_succ]
 refine wpAnyH_take (i := 3) (v := ?_) rfl (by kernel_rfl) (by kernel_rfl) (by kernel_rfl) (fun _ _ _ h => h) (Or.inl ⟨by kernel_rfl, ?_⟩) (by assumption) ?_
 rotate_left 1
 ·intro w hSw
  try dsimp only at hSw
  go_simp
  try with_reducible rfl
 try simp only [List.getElem_toArray, List.getElem_cons_zero, List.getElem_cons_succ, Act.put, List.setIfInBounds_toArray, List.set_cons_zero, List.set_cons_succ]
 refine wpAnyH_take (i := 4) (v := ?_) rfl (by kernel_rfl) (by kernel_rfl) (by kernel_rfl) (fun _ _ _ h => h) (Or.inl ⟨by kernel_rfl, ?_⟩) (by assumption) ?_
 rotate_left 1
 ·intro w hSw
  try dsimp only at hSw
  go_simp
  try with_reducible rfl
 try simp only [List.getElem_toArray, List.getElem_cons_zero, List.getElem_cons_succ, Act.put, List.setIfInBounds_toArray, List.set_cons_zero, List.set_cons_succ]
 refine wpAnyH_take (i := 5) (v := ?_) rfl (by kernel_rfl) (by kernel_rfl) (by kernel_rfl) (fun _ _ _ h => h) (Or.inl ⟨by kernel_rfl, ?_⟩) (by assumption) ?_
 rotate_left 1
 ·intro w hSw
  try dsimp only at hSw
  go_simp
  try with_reducible rfl
 try simp only [List.getElem_toArray, List.getElem_cons_zero, List.getElem_cons_succ, Act.put, List.setIfInBounds_toArray, List.set_cons_zero, List.set_cons_succ]
 refine wpAnyH_take (i := 6) (v := ?_) rfl (by kernel_rfl) (by kernel_rfl) (by kernel_rfl) (fun _ _ _ h => h) (Or.inl ⟨by kernel_rfl, ?_⟩) (by assumption) ?_
 rotate_left 1
 ·intro w hSw
  try dsimp only at hSw
  go_simp
  try with_reducible rfl
 try simp only [List.getElem_toArray, List.getElem_cons_zero, List.getElem_cons_succ, Act.put, List.setIfInBounds_toArray, List.set_cons_zero, List.set_cons_succ]
 refine wpAnyH_take (i := 7) (v := ?_) rfl (by kernel_rfl) (by kernel_rfl) (by kernel_rfl) (fun _ _ _ h => h) (Or.inl ⟨by kernel_rfl, ?_⟩) (by assumption) ?_
 rotate_left 1
 ·intro w hSw
  try dsimp only at hSw
  go_simp
  try with_reducible rfl
 try simp only [List.getElem_toArray, List.getElem_cons_zero, List.getElem_cons_succ, Act.put, List.setIfInBounds_toArray, List.set_cons_zero, List.set_cons_succ]
 refine wpAnyH_take (i := 8) (v := ?_) rfl (by kernel_rfl) (by kernel_rfl) (by kernel_rfl) (fun _ _ _ h => h) (Or.inl ⟨by kernel_rfl, ?_⟩) (by assumption) ?_
 rotate_left 1
 ·intro w hSw
  try dsimp only at hSw
  go_simp
  try with_reducible rfl
 try simp only [List.getElem_toArray, List.getElem_cons_zero, List.getElem_cons_succ, Act.put, List.setIfInBounds_toArray, List.set_cons_zero, List.set_cons_succ]
 refine wpAnyH_take (i := 9) (v := ?_) rfl (by kernel_rfl) (by kernel_rfl) (by kernel_rfl) (fun _ _ _ h => h) (Or.inl ⟨by kernel_rfl, ?_⟩) (by assumption) ?_
 rotate_left 1
 ·intro w hSw
  try dsimp only at hSw
  go_simp
  try with_reducible rfl
 try simp only [List.getElem_toArray, List.getElem_cons_zero, List.getElem_cons_succ, Act.put, List.setIfInBounds_toArray, List.set_cons_zero, List.set_cons_succ]
 refine wpAnyH_take (i := 10) (v := ?_) rfl (by kernel_rfl) (by kernel_rfl) (by kernel_rfl) (fun _ _ _ h => h) (Or.inl ⟨by kernel_rfl, ?_⟩) (by assumption) ?_
 rotate_left 1
 ·intro w hSw
  try dsimp only at hSw
  go_simp
  try with_reducible rfl
 try simp only [List.getElem_toArray, List.getElem_cons_zero, List.getElem_cons_succ, Act.put, List.setIfInBounds_toArray, List.set_cons_zero, List.set_cons_succ]
 refine wpAnyH_take (i := 11) (v := undef) rfl (by kernel_rfl) (by kernel_rfl) (by kernel_rfl) (fun _ _ _ h => h) (Or.inr ⟨by kernel_rfl, rfl⟩) (by assumption) ?_
 try simp only [List.getElem_toArray, List.getElem_cons_zero, List.getElem_cons_succ, Act.put, List.setIfInBounds_toArray, List.set_cons_zero, List.set_cons_succ]
 refine wpAnyH_take (i := 12) (v := undef) rfl (by kernel_rfl) (by kernel_rfl) (by kernel_rfl) (fun _ _ _ h => h) (Or.inr ⟨by kernel_rfl, rfl⟩) (by assumption) ?_
 try simp only [List.getElem_toArray, List.getElem_cons_zero, List.getElem_cons_succ, Act.put, List.setIfInBounds_toArray, List.set_cons_zero, List.set_cons_succ]
 refine wpAnyH_take (i := 13) (v := undef) rfl (by kernel_rfl) (by kernel_rfl) (by kernel_rfl) (fun _ _ _ h => h) (Or.inr ⟨by kernel_rfl, rfl⟩) (by assumption) ?_
 try simp only [List.getElem_toArray, List.getElem_cons_zero, List.getElem_cons_succ, Act.put, List.setIfInBounds_toArray, List.set_cons_zero, List.set_cons_succ]
 refine wpAnyH_take (i := 14) (v := undef) rfl (by kernel_rfl) (by kernel_rfl) (by kernel_rfl) (fun _ _ _ h => h) (Or.inr ⟨by kernel_rfl, rfl⟩) (by assumption) ?_
 try simp only [List.getElem_toArray, List.getElem_cons_zero, List.getElem_cons_succ, Act.put, List.setIfInBounds_toArray, List.set_cons_zero, List.set_cons_succ]
 refine wpAnyH_take (i := 15) (v := undef) rfl (by kernel_rfl) (by kernel_rfl) (by kernel_rfl) (fun _ _ _ h => h) (Or.inr ⟨by kernel_rfl, rfl⟩) (by assumption) ?_
 try simp only [List.getElem_toArray, List.getElem_cons_zero, List.getElem_cons_succ, Act.put, List.setIfInBounds_toArray, List.set_cons_zero, List.set_cons_succ]
 refine wpAnyH_take (i := 16) (v := undef) rfl (by kernel_rfl) (by kernel_rfl) (by kernel_rfl) (fun _ _ _ h => h) (Or.inr ⟨by kernel_rfl, rfl⟩) (by assumption) ?_
 try simp only [List.getElem_toArray, List.getElem_cons_zero, List.getElem_cons_succ, Act.put, List.setIfInBounds_toArray, List.set_cons_zero, List.set_cons_succ]
 refine wpAnyH_take (i := 17) (v := ?_) rfl (by kernel_rfl) (by kernel_rfl) (by kernel_rfl) (fun _ _ _ h => h) (Or.inl ⟨by kernel_rfl, ?_⟩) (by assumption) ?_
 rotate_left 1
 ·intro w hSw
  try dsimp only at hSw
  go_simp
  try with_reducible rfl
 try simp only [List.getElem_toArray, List.getElem_cons_zero, List.getElem_cons_succ, Act.put, List.setIfInBounds_toArray, List.set_cons_zero, List.set_cons_succ]
 refine wpAnyH_take (i := 19) (v := ?_) rfl (by kernel_rfl) (by kernel_rfl) (by kernel_rfl) (fun _ _ _ h => h) (Or.inl ⟨by kernel_rfl, ?_⟩) (by assumption) ?_
 rotate_left 1
 ·intro w hSw
  try dsimp only at hSw
  go_simp
  try with_reducible rfl
 try simp only [List.getElem_toArray, List.getElem_cons_zero, List.getElem_cons_succ, Act.put, List.setIfInBounds_toArray, List.set_cons_zero, List.set_cons_succ]
 refine wpAnyH_take (i := 20) (v := ?_) rfl (by kernel_rfl) (by kernel_rfl) (by kernel_rfl) (fun _ _ _ h => h) (Or.inl ⟨by kernel_rfl, ?_⟩) (by assumption) ?_
 rotate_left 1
 ·intro w hSw
  try dsimp only at hSw
  go_simp
  try with_reducible rfl
 try simp only [List.getElem_toArray, List.getElem_cons_zero, List.getElem_cons_succ, Act.put, List.setIfInBounds_toArray, List.set_cons_zero, List.set_cons_succ]
 refine wpAnyH_take (i := 21) (v := ?_) rfl (by kernel_rfl) (by kernel_rfl) (by kernel_rfl) (fun _ _ _ h => h) (Or.inl ⟨by kernel_rfl, ?_⟩) (by assumption) ?_
 rotate_left 1
 ·intro w hSw
  try dsimp only at hSw
  go_simp
  try with_reducible rfl
 try simp only [List.getElem_toArray, List.getElem_cons_zero, List.getElem_cons_succ, Act.put, List.setIfInBounds_toArray, List.set_cons_zero, List.set_cons_succ]
 refine wpAnyH_take (i := 22) (v := ?_) rfl (by kernel_rfl) (by kernel_rfl) (by kernel_rfl) (fun _ _ _ h => h) (Or.inl ⟨by kernel_rfl, ?_⟩) (by assumption) ?_
 rotate_left 1
 ·intro w hSw
  try dsimp only at hSw
  go_simp
  try with_reducible rfl
 try simp only [List.getElem_toArray, List.getElem_cons_zero, List.getElem_cons_succ, Act.put, List.setIfInBounds_toArray, List.set_cons_zero, List.set_cons_succ]
 refine wpAnyH_take (i := 23) (v := ?_) rfl (by kernel_rfl) (by kernel_rfl) (by kernel_rfl) (fun _ _ _ h => h) (Or.inl ⟨by kernel_rfl, ?_⟩) (by assumption) ?_
 rotate_left 1
 ·intro w hSw
  try dsimp only at hSw
  go_simp
  try with_reducible rfl
 try simp only [List.getElem_toArray, List.getElem_cons_zero, List.getElem_cons_succ, Act.put, List.setIfInBounds_toArray, List.set_cons_zero, List.set_cons_succ]
 refine wpAnyH_take (i := 24) (v := ?_) rfl (by kernel_rfl) (by kernel_rfl) (by kernel_rfl) (fun _ _ _ h => h) (Or.inl ⟨by kernel_rfl, ?_⟩) (by assumption) ?_
 rotate_left 1
 ·intro w hSw
  try dsimp only at hSw
  go_simp
  try with_reducible rfl
 try simp only [List.getElem_toArray, List.getElem_cons_zero, List.getElem_cons_succ, Act.put, List.setIfInBounds_toArray, List.set_cons_zero, List.set_cons_succ]
 refine wpAnyH_take (i := 25) (v := ?_) rfl (by kernel_rfl) (by kernel_rfl) (by kernel_rfl) (fun _ _ _ h => h) (Or.inl ⟨by kernel_rfl, ?_⟩) (by assumption) ?_
 rotate_left 1
 ·intro w hSw
  try dsimp only at hSw
  go_simp
  try with_reducible rfl
 try simp only [List.getElem_toArray, List.getElem_cons_zero, List.getElem_cons_succ, Act.put, List.setIfInBounds_toArray, List.set_cons_zero, List.set_cons_succ]
 refine wpAnyH_take (i := 26) (v := ?_) rfl (by kernel_rfl) (by kernel_rfl) (by kernel_rfl) (fun _ _ _ h => h) (Or.inl ⟨by kernel_rfl, ?_⟩) (by assumption) ?_
 rotate_left 1
 ·intro w hSw
  try dsimp only at hSw
  go_simp
  try with_reducible rfl
 try simp only [List.getElem_toArray, List.getElem_cons_zero, List.getElem_cons_succ, Act.put, List.setIfInBounds_toArray, List.set_cons_zero, List.set_cons_succ]
 refine wpAnyH_take (i := 27) (v := ?_) rfl (by kernel_rfl) (by kernel_rfl) (by kernel_rfl) (fun _ _ _ h => h) (Or.inl ⟨by kernel_rfl, ?_⟩) (by assumption) ?_
 rotate_left 1
 ·intro w hSw
  try dsimp only at hSw
  go_simp
  try with_reducible rfl
 try simp only [List.getElem_toArray, List.getElem_cons_zero, List.getElem_cons_succ, Act.put, List.setIfInBounds_toArray, List.set_cons_zero, List.set_cons_succ]
 refine wpAnyH_take (i := 28) (v := ?_) rfl (by kernel_rfl) (by kernel_rfl) (by kernel_rfl) (fun _ _ _ h => h) (Or.inl ⟨by kernel_rfl, ?_⟩) (by assumption) ?_
 rotate_left 1
 ·intro w hSw
  try dsimp only at hSw
  go_simp
  try with_reducible rfl
 try simp only [List.getElem_toArray, List.getElem_cons_zero, List.getElem_cons_succ, Act.put, List.setIfInBounds_toArray, List.set_cons_zero, List.set_cons_succ]
 refine wpAnyH_ready (rs := [18]) (by kernel_rfl) (by simp) ?_
 refine AllReadyH.cons rfl (fun K hK => ?_) AllReadyH.nil
 go_simp
 refine (WrC.call (w := w) (by assumption) _ _ ((HB.out _).trans (Below.mono (Held.below (l := [(w.heap.size, 0, .int .i64 3), (w.heap.size, 1, .string s), (w.heap.size, 2, .bool n), (w.heap.size, 3, .int .i64 lo), (w.heap.size, 4, .int .i64 hi), (w.heap.size, 5, .slice (some ⟨b, o, none⟩) 2 cap), (b, o, .int .i64 3), (b, o + 1, .string sx), (b, o + 2, .bool nx), (b, o + 3, .int .i64 lox), (b, o + 4, .int .i64 hix), (b, o + 5, .slice ax tsx.length cx), (b, o + 6, .int .i64 ky), (b, o + 7, .string sy), (b, o + 8, .bool ny), (b, o + 9, .int .i64 loy), (b, o + 10, .int .i64 hiy), (b, o + 11, .slice ay tsy.length cy)]) (W := (w.alloc (.cells #[.int .i64 3, .string s, .bool n, .int .i64 lo, .int .i64 hi, .slice (some ⟨b, o, none⟩) 2 cap] 26))) (by assumption)) (HB.out _).size))).mono ?_; rintro e wz ⟨rfl, hb⟩
 go_wp2_with fail
 refine hK.out _ _ (Held.step (l := [(w.heap.size, 0, .int .i64 3), (w.heap.size, 1, .string s), (w.heap.size, 2, .bool n), (w.heap.size, 3, .int .i64 lo), (w.heap.size, 4, .int .i64 hi), (w.heap.size, 5, .slice (some ⟨b, o, none⟩) 2 cap), (b, o, .int .i64 3), (b, o + 1, .string sx), (b, o + 2, .bool nx), (b, o + 3, .int .i64 lox), (b, o + 4, .int .i64 hix), (b, o + 5, .slice ax tsx.length cx), (b, o + 6, .int .i64 ky), (b, o + 7, .string sy), (b, o + 8, .bool ny), (b, o + 9, .int .i64 loy), (b, o + 10, .int .i64 hiy), (b, o + 11, .slice ay tsy.length cy)]) (W := (w.alloc (.cells #[.int .i64 3, .string s, .bool n, .int .i64 lo, .int .i64 hi, .slice (some ⟨b, o, none⟩) 2 cap] 26))) (by assumption) (by assumption)) (fun hHeld => ?_)
 clear hK K
 try simp only [List.getElem_toArray, List.getElem_cons_zero, List.getElem_cons_succ, Act.put, List.setIfInBounds_toArray, List.set_cons_zero, List.set_cons_succ]
 refine wpAnyH_ready (rs := [29]) (by kernel_rfl) (by simp) ?_
 refine AllReadyH.cons rfl (fun K hK => ?_) AllReadyH.nil
 go_simp
 refine (WrC.call (w := w) (by assumption) _ _ ((HB.out _).trans (Below.mono (Held.below (l := [(w.heap.size, 0, .int .i64 3), (w.heap.size, 1, .string s), (w.heap.size, 2, .bool n), (w.heap.size, 3, .int .i64 lo), (w.heap.size, 4, .int .i64 hi), (w.heap.size, 5, .slice (some ⟨b, o, none⟩) 2 cap), (b, o, .int .i64 3), (b, o + 1, .string sx), (b, o + 2, .bool nx), (b, o + 3, .int .i64 lox), (b, o + 4, .int .i64 hix), (b, o + 5, .slice ax tsx.length cx), (b, o + 6, .int .i64 ky), (b, o + 7, .string sy), (b, o + 8, .bool ny), (b, o + 9, .int .i64 loy), (b, o + 10, .int .i64 hiy), (b, o + 11, .slice ay tsy.length cy)]) (W := (w.alloc (.cells #[.int .i64 3, .string s, .bool n, .int .i64 lo, .int .i64 hi, .slice (some ⟨b, o, none⟩) 2 cap] 26))) (by assumption)) (HB.out _).size))).mono ?_; rintro e wz ⟨rfl, hb⟩
 go_wp2_with fail
 refine hK.out _ _ (Held.step (l := [(w.heap.size, 0, .int .i64 3), (w.heap.size, 1, .string s), (w.heap.size, 2, .bool n), (w.heap.size, 3, .int .i64 lo), (w.heap.size, 4, .int .i64 hi), (w.heap.size, 5, .slice (some ⟨b, o, none⟩) 2 cap), (b, o, .int .i64 3), (b, o + 1, .string sx), (b, o + 2, .bool nx), (b, o + 3, .int .i64 lox), (b, o + 4, .int .i64 hix), (b, o + 5, .slice ax tsx.length cx), (b, o + 6, .int .i64 ky), (b, o + 7, .string sy), (b, o + 8, .bool ny), (b, o + 9, .int .i64 loy), (b, o + 10, .int .i64 hiy), (b, o + 11, .slice ay tsy.length cy)]) (W := (w.alloc (.cells #[.int .i64 3, .string s, .bool n, .int .i64 lo, .int .i64 hi, .slice (some ⟨b, o, none⟩) 2 cap] 26))) (by assumption) (by assumption)) (fun hHeld => ?_)
 clear hK K
 try simp only [List.getElem_toArray, List.getElem_cons_zero, List.getElem_cons_succ, Act.put, List.setIfInBounds_toArray, List.set_cons_zero, List.set_cons_succ]
 refine wpAnyH_take (i := 30) (v := ?_) rfl (by kernel_rfl) (by kernel_rfl) (by kernel_rfl) (fun _ _ _ h => h) (Or.inl ⟨by kernel_rfl, ?_⟩) (by assumption) ?_
 rotate_left 1
 ·intro w hSw
  try dsimp only at hSw
  go_simp
  try with_reducible rfl
 try simp only [List.getElem_toArray, List.getElem_cons_zero, List.getElem_cons_succ, Act.put, List.setIfInBounds_toArray, List.set_cons_zero, List.set_cons_succ]
 refine wpAnyH_take (i := 31) (v := ?_) rfl (by kernel_rfl) (by kernel_rfl) (by kernel_rfl) (fun _ _ _ h => h) (Or.inl ⟨by kernel_rfl, ?_⟩) (by assumption) ?_
 rotate_left 1
 ·intro w hSw
  try dsimp only at hSw
  go_simp
  try with_reducible rfl
 try simp only [List.getElem_toArray, List.getElem_cons_zero, List.getElem_cons_succ, Act.put, List.setIfInBounds_toArray, List.set_cons_zero, List.set_cons_succ]
 refine wpAnyH_done (by kernel_rfl) ?_ _
 all_goals
  have hfin := Held.below (l := [(w.heap.size, 0, .int .i64 3), (w.heap.size, 1, .string s), (w.heap.size, 2, .bool n), (w.heap.size, 3, .int .i64 lo), (w.heap.size, 4, .int .i64 hi), (w.heap.size, 5, .slice (some ⟨b, o, none⟩) 2 cap), (b, o, .int .i64 3), (b, o + 1, .string sx), (b, o + 2, .bool nx), (b, o + 3, .int .i64 lox), (b, o + 4, .int .i64 hix), (b, o + 5, .slice ax tsx.length cx), (b, o + 6, .int .i64 ky), (b, o + 7, .string sy), (b, o + 8, .bool ny), (b, o + 9, .int .i64 loy), (b, o + 10, .int .i64 hiy), (b, o + 11, .slice ay tsy.length cy)]) (W := (w.alloc (.cells #[.int .i64 3, .string s, .bool n, .int .i64 lo, .int .i64 hi, .slice (some ⟨b, o, none⟩) 2 cap] 26))) (by assumption)
  go_wp2_with fail
  go_ret
  exact ⟨by rw [HE.out]; exact congrArg (fun t => Ending.returned (Value.string t)) (app_lit (wrT true Lx) (wrT (ky == 4) Ly)), (HB.out _).trans (hfin.mono (HB.out _).size)⟩
set_option maxRecDepth 100000 in
set_option maxHeartbeats 8000000 in
theorem stK4 (s : ByteArray) (n : Bool) (lo hi : Int) (xx : RT) (xy : RT) (h : ∀ u ∈ ([xx, xy] : List RT), TxS u) (hlen : ∀ u ∈ ([xx, xy] : List RT), (RT.txt u).length ≤ 100000000) (hs : s.size ≤ 1048576) (htm : 4 = 5 → TimOk lo hi) (hst : 4 = 2 → RT.asc s.data.toList = true ∧ s.data.toList ≠ []) (a : Option Addr) (cap : Nat) (w : World) (hk : Kids 0 w [xx, xy] a) :
  Calls Tryd.prog 28 #[.agg #[.int .i64 4, .string s, .bool n, .int .i64 lo, .int .i64 hi, .slice a 2 cap]] w fun e w' => e = .returned (.string ⟨(RT.txt (.node 4 s n lo hi [xx, xy])).toArray⟩) ∧ Below w.heap.size w w' := by
 obtain ⟨ax, cx, hex, hkx⟩ := hk.elem 0 (by simp)
 obtain ⟨ay, cy, hey, hky⟩ := hk.elem 1 (by simp)
 simp only [List.getElem_cons_zero, List.getElem_cons_succ] at hex hkx hey hky
 obtain ⟨b, o, rfl, _, hbl, ex0, ex1, ex2, ex3, ex4, ex5, _, _⟩ := hex
 obtain ⟨b2, o2, e2, _, _, ey0, ey1, ey2, ey3, ey4, ey5, _, _⟩ := hey
 cases e2
 have hx := h xx (by simp)
 have lx := hlen xx (by simp)
 have hy := h xy (by simp)
 have ly := hlen xy (by simp)
 have Cx := wrc_of (c := cx) hx hkx lx
 have Cy := stc_of (c := cy) hy hky
 have HE := Lib.hid (show RT.txt (.node 4 s n lo hi [xx, xy]) = wrT (xx.kind == 4) (RT.txt xx) ++ [124] ++ RT.txt xy by rw [RT.txt]; simp [RT.wrs, hasB, wrT])
 have wlx : (wrT (xx.kind == 4) (RT.txt xx)).length ≤ 100000002 := Nat.le_trans (wrT_len _ _) (by omega)
 generalize RT.txt xx = Lx at *
 generalize RT.txt xy = Ly at *
 obtain ⟨kx, sx, nx, lox, hix, tsx⟩ := xx
 obtain ⟨ky, sy, ny, loy, hiy, tsy⟩ := xy
 simp only [RT.kind, RT.set, RT.neg, RT.low, RT.high, RT.kids, Nat.zero_mul, Nat.add_zero, Nat.one_mul, Nat.add_assoc, Nat.reduceAdd] at *
 have hsum : ¬ 9223372036854775807 < (wrT (kx == 4) Lx).length + 1 := by omega
 have hsum2 : ¬ 9223372036854775807 < (wrT (kx == 4) Lx).length + 1 + Ly.length := by omega
 have HB := Lib.hid (show ∀ o, Below w.heap.size w (w.alloc o) from fun o => (Below.refl w.heap.size w).alloc (Nat.le_refl _) _)
 have HH := Lib.hid (Held.start (W := (w.alloc (.cells #[.int .i64 4, .string s, .bool n, .int .i64 lo, .int .i64 hi, .slice (some ⟨b, o, none⟩) 2 cap] 26))) (l := [(w.heap.size, 0, .int .i64 4), (w.heap.size, 1, .string s), (w.heap.size, 2, .bool n), (w.heap.size, 3, .int .i64 lo), (w.heap.size, 4, .int .i64 hi), (w.heap.size, 5, .slice (some ⟨b, o, none⟩) 2 cap), (b, o, .int .i64 kx), (b, o + 1, .string sx), (b, o + 2, .bool nx), (b, o + 3, .int .i64 lox), (b, o + 4, .int .i64 hix), (b, o + 5, .slice ax tsx.length cx), (b, o + 6, .int .i64 ky), (b, o + 7, .string sy), (b, o + 8, .bool ny), (b, o + 9, .int .i64 loy), (b, o + 10, .int .i64 hiy), (b, o + 11, .slice ay tsy.length cy)]) (by
  have ec : ∀ j, (w.alloc (.cells #[.int .i64 4, .string s, .bool n, .int .i64 lo, .int .i64 hi, .slice (some ⟨b, o, none⟩) 2 cap] 26)).cell? ⟨b, j, none⟩ = w.cell? ⟨b, j, none⟩ := fun j => (HB.out _).cell (p := ⟨b, j, none⟩) hbl
  refine ⟨?_, ?_, ?_, ?_, ?_, ?_, (ec _).trans ex0, (ec _).trans ex1, (ec _).trans ex2, (ec _).trans ex3, (ec _).trans ex4, (ec _).trans ex5, (ec _).trans ey0, (ec _).trans ey1, (ec _).trans ey2, (ec _).trans ey3, (ec _).trans ey4, (ec _).trans ey5, trivial⟩ <;> (rw [World.cell?_alloc_at _ _ _ _ rfl]; rfl)))
 clear h hlen hk hst lx ly ex0 ex1 ex2 ex3 ex4 ex5 ey0 ey1 ey2 ey3 ey4 ey5
 generalize RT.txt (.node 4 s n lo hi [.node kx sx nx lox hix tsx, .node ky sy ny loy hiy tsy]) = R at *
 go_enter Tryd.func28, Tryd.ntmps28
 go_wp2_with fail
 go_region_held3 (fun w' => (w'.cell? ⟨w.heap.size, 0, none⟩ = some (.int .i64 4) ∧ w'.cell? ⟨w.heap.size, 1, none⟩ = some (.string s) ∧ w'.cell? ⟨w.heap.size, 2, none⟩ = some (.bool n) ∧ w'.cell? ⟨w.heap.size, 3, none⟩ = some (.int .i64 lo) ∧ w'.cell? ⟨w.heap.size, 4, none⟩ = some (.int .i64 hi) ∧ w'.cell? ⟨w.heap.size, 5, none⟩ = some (.slice (some ⟨b, o, none⟩) 2 cap) ∧ w'.cell? ⟨b, o, none⟩ = some (.int .i64 kx) ∧ w'.cell? ⟨b, o + 1, none⟩ = some (.string sx) ∧ w'.cell? ⟨b, o + 2, none⟩ = some (.bool nx) ∧ w'.cell? ⟨b, o + 3, none⟩ = some (.int .i64 lox) ∧ w'.cell? ⟨b, o + 4, none⟩ = some (.int .i64 hix) ∧ w'.cell? ⟨b, o + 5, none⟩ = some (.slice ax tsx.length cx) ∧ w'.cell? ⟨b, o + 6, none⟩ = some (.int .i64 ky) ∧ w'.cell? ⟨b, o + 7, none⟩ = some (.string sy) ∧ w'.cell? ⟨b, o + 8, none⟩ = some (.bool ny) ∧ w'.cell? ⟨b, o + 9, none⟩ = some (.int .i64 loy) ∧ w'.cell? ⟨b, o + 10, none⟩ = some (.int .i64 hiy) ∧ w'.cell? ⟨b, o + 11, none⟩ = some (.slice ay tsy.length cy) ∧ True) ∧ Below (w.alloc (.cells #[.int .i64 4, .string s, .bool n, .int .i64 lo, .int .i64 hi, .slice (some ⟨b, o, none⟩) 2 cap] 26)).heap.size (w.alloc (.cells #[.int .i64 4, .string s, .bool n, .int .i64 lo, .int .i64 hi, .slice (some ⟨b, o, none⟩) 2 cap] 26)) w') (first | exact HH.out | assumption | exact Held.step (l := [(w.heap.size, 0, .int .i64 4), (w.heap.size, 1, .string s), (w.heap.size, 2, .bool n), (w.heap.size, 3, .int .i64 lo), (w.heap.size, 4, .int .i64 hi), (w.heap.size, 5, .slice (some ⟨b, o, none⟩) 2 cap), (b, o, .int .i64 kx), (b, o + 1, .string sx), (b, o + 2, .bool nx), (b, o + 3, .int .i64 lox), (b, o + 4, .int .i64 hix), (b, o + 5, .slice ax tsx.length cx), (b, o + 6, .int .i64 ky), (b, o + 7, .string sy), (b, o + 8, .bool ny), (b, o + 9, .int .i64 loy), (b, o + 10, .int .i64 hiy), (b, o + 11, .slice ay tsy.length cy)]) (W := (w.alloc (.cells #[.int .i64 4, .string s, .bool n, .int .i64 lo, .int .i64 hi, .slice (some ⟨b, o, none⟩) 2 cap] 26))) (by assumption) (by assumption)) (first | (go_at_call 46; refine (WrC.call (w := w) (by assumption) _ _ ((HB.out _).trans (Below.mono (Held.below (l := [(w.heap.size, 0, .int .i64 4), (w.heap.size, 1, .string s), (w.heap.size, 2, .bool n), (w.heap.size, 3, .int .i64 lo), (w.heap.size, 4, .int .i64 hi), (w.heap.size, 5, .slice (some ⟨b, o, none⟩) 2 cap), (b, o, .int .i64 kx), (b, o + 1, .string sx), (b, o + 2, .bool nx), (b, o + 3, .int .i64 lox), (b, o + 4, .int .i64 hix), (b, o + 5, .slice ax tsx.length cx), (b, o + 6, .int .i64 ky), (b, o + 7, .string sy), (b, o + 8, .bool ny), (b, o + 9, .int .i64 loy), (b, o + 10, .int .i64 hiy), (b, o + 11, .slice ay tsy.length cy)]) (W := (w.alloc (.cells #[.int .i64 4, .string s, .bool n, .int .i64 lo, .int .i64 hi, .slice (some ⟨b, o, none⟩) 2 cap] 26))) (by assumption)) (HB.out _).size))).mono ?_; rintro e wz ⟨rfl, hb⟩) | (go_at_call 28; refine (StC.call (w := w) (by assumption) _ ((HB.out _).trans (Below.mono (Held.below (l := [(w.heap.size, 0, .int .i64 4), (w.heap.size, 1, .string s), (w.heap.size, 2, .bool n), (w.heap.size, 3, .int .i64 lo), (w.heap.size, 4, .int .i64 hi), (w.heap.size, 5, .slice (some ⟨b, o, none⟩) 2 cap), (b, o, .int .i64 kx), (b, o + 1, .string sx), (b, o + 2, .bool nx), (b, o + 3, .int .i64 lox), (b, o + 4, .int .i64 hix), (b, o + 5, .slice ax tsx.length cx), (b, o + 6, .int .i64 ky), (b, o + 7, .string sy), (b, o + 8, .bool ny), (b, o + 9, .int .i64 loy), (b, o + 10, .int .i64 hiy), (b, o + 11, .slice ay tsy.length cy)]) (W := (w.alloc (.cells #[.int .i64 4, .string s, .bool n, .int .i64 lo, .int .i64 hi, .slice (some ⟨b, o, none⟩) 2 cap] 26))) (by assumption)) (HB.out _).size))).mono ?_; rintro e wz ⟨rfl, hb⟩))
 all_goals
  have hfin := Held.below (l := [(w.heap.size, 0, .int .i64 4), (w.heap.size, 1, .string s), (w.heap.size, 2, .bool n), (w.heap.size, 3, .int .i64 lo), (w.heap.size, 4, .int .i64 hi), (w.heap.size, 5, .slice (some ⟨b, o, none⟩) 2 cap), (b, o, .int .i64 kx), (b, o + 1, .string sx), (b, o + 2, .bool nx), (b, o + 3, .int .i64 lox), (b, o + 4, .int .i64 hix), (b, o + 5, .slice ax tsx.length cx), (b, o + 6, .int .i64 ky), (b, o + 7, .string sy), (b, o + 8, .bool ny), (b, o + 9, .int .i64 loy), (b, o + 10, .int .i64 hiy), (b, o + 11, .slice ay tsy.length cy)]) (W := (w.alloc (.cells #[.int .i64 4, .string s, .bool n, .int .i64 lo, .int .i64 hi, .slice (some ⟨b, o, none⟩) 2 cap] 26))) (by assumption)
  go_wp2_with fail
  go_ret
  exact ⟨by rw [HE.out]; exact congrArg (fun t => Ending.returned (Value.string t)) (j3 (wrT (kx == 4) Lx) [124] Ly), (HB.out _).trans (hfin.mono (HB.out _).size)⟩
set_option maxRecDepth 100000 in
set_option maxHeartbeats 8000000 in
theorem stK5a (s : ByteArray) (n : Bool) (lo hi : Int) (xx : RT) (h : ∀ u ∈ ([xx] : List RT), TxS u) (hlen : ∀ u ∈ ([xx] : List RT), (RT.txt u).length ≤ 100000000) (hs : s.size ≤ 1048576) (htm : 5 = 5 → TimOk lo hi) (hst : 5 = 2 → RT.asc s.data.toList = true ∧ s.data.toList ≠ []) (hkx0 : xx.kind ≠ 2 ∧ (xx.kind = 0 ∨ xx.kind = 1 ∨ xx.kind = 2 ∨ xx.kind = 3 ∨ xx.kind = 4 ∨ xx.kind = 5 ∨ xx.kind = 6 ∨ xx.kind = 7)) (a : Option Addr) (cap : Nat) (w : World) (hk : Kids 0 w [xx] a) :
  Calls Tryd.prog 28 #[.agg #[.int .i64 5, .string s, .bool n, .int .i64 lo, .int .i64 hi, .slice a 1 cap]] w fun e w' => e = .returned (.string ⟨(RT.txt (.node 5 s n lo hi [xx])).toArray⟩) ∧ Below w.heap.size w w' := by
 obtain ⟨ax, cx, hex, hkx⟩ := hk.elem 0 (by simp)
 simp only [List.getElem_cons_zero] at hex hkx
 obtain ⟨b, o, rfl, _, hbl, ex0, ex1, ex2, ex3, ex4, ex5, _, _⟩ := hex
 have hx := h xx (by simp)
 have lx := hlen xx (by simp)
 have Cx := wrc_of (c := cx) hx hkx lx
 have HE := Lib.hid (show RT.txt (.node 5 s n lo hi [xx]) = wrT (xx.kind != 1) (RT.txt xx) ++ timT lo hi by rw [RT.txt]; simp [RT.wrs, hasMany hkx0.2 hkx0.1])
 have wlx : (wrT (xx.kind != 1) (RT.txt xx)).length ≤ 100000002 := Nat.le_trans (wrT_len _ _) (by omega)
 generalize RT.txt xx = Lx at *
 have HTM := Lib.hid (htm rfl)
 have htl := timT_len (htm rfl)
 clear htm
 obtain ⟨kx, sx, nx, lox, hix, tsx⟩ := xx
 simp only [RT.kind, RT.set, RT.neg, RT.low, RT.high, RT.kids, Nat.zero_mul, Nat.add_zero] at *
 have g2 : (kx != 2) = true := by simpa using hkx0.1
 clear hkx0
 have hsum : ¬ 9223372036854775807 < (wrT (kx != 1) Lx).length + (timT lo hi).length := by omega
 have HB := Lib.hid (show ∀ o, Below w.heap.size w (w.alloc o) from fun o => (Below.refl w.heap.size w).alloc (Nat.le_refl _) _)
 have HH := Lib.hid (Held.start (W := (w.alloc (.cells #[.int .i64 5, .string s, .bool n, .int .i64 lo, .int .i64 hi, .slice (some ⟨b, o, none⟩) 1 cap] 26))) (l := [(w.heap.size, 0, .int .i64 5), (w.heap.size, 1, .string s), (w.heap.size, 2, .bool n), (w.heap.size, 3, .int .i64 lo), (w.heap.size, 4, .int .i64 hi), (w.heap.size, 5, .slice (some ⟨b, o, none⟩) 1 cap), (b, o, .int .i64 kx), (b, o + 1, .string sx), (b, o + 2, .bool nx), (b, o + 3, .int .i64 lox), (b, o + 4, .int .i64 hix), (b, o + 5, .slice ax tsx.length cx)]) (by
  have ec : ∀ j, (w.alloc (.cells #[.int .i64 5, .string s, .bool n, .int .i64 lo, .int .i64 hi, .slice (some ⟨b, o, none⟩) 1 cap] 26)).cell? ⟨b, j, none⟩ = w.cell? ⟨b, j, none⟩ := fun j => (HB.out _).cell (p := ⟨b, j, none⟩) hbl
  refine ⟨?_, ?_, ?_, ?_, ?_, ?_, (ec _).trans ex0, (ec _).trans ex1, (ec _).trans ex2, (ec _).trans ex3, (ec _).trans ex4, (ec _).trans ex5, trivial⟩ <;> (rw [World.cell?_alloc_at _ _ _ _ rfl]; rfl)))
 clear h hlen hk hst lx
 generalize RT.txt (.node 5 s n lo hi [.node kx sx nx lox hix tsx]) = R at *
 go_enter Tryd.func28, Tryd.ntmps28
 go_wp2_with fail
 go_region_held3 (fun w' => (w'.cell? ⟨w.heap.size, 0, none⟩ = some (.int .i64 5) ∧ w'.cell? ⟨w.heap.size, 1, none⟩ = some (.string s) ∧ w'.cell? ⟨w.heap.size, 2, none⟩ = some (.bool n) ∧ w'.cell? ⟨w.heap.size, 3, none⟩ = some (.int .i64 lo) ∧ w'.cell? ⟨w.heap.size, 4, none⟩ = some (.int .i64 hi) ∧ w'.cell? ⟨w.heap.size, 5, none⟩ = some (.slice (some ⟨b, o, none⟩) 1 cap) ∧ w'.cell? ⟨b, o, none⟩ = some (.int .i64 kx) ∧ w'.cell? ⟨b, o + 1, none⟩ = some (.string sx) ∧ w'.cell? ⟨b, o + 2, none⟩ = some (.bool nx) ∧ w'.cell? ⟨b, o + 3, none⟩ = some (.int .i64 lox) ∧ w'.cell? ⟨b, o + 4, none⟩ = some (.int .i64 hix) ∧ w'.cell? ⟨b, o + 5, none⟩ = some (.slice ax tsx.length cx) ∧ True) ∧ Below (w.alloc (.cells #[.int .i64 5, .string s, .bool n, .int .i64 lo, .int .i64 hi, .slice (some ⟨b, o, none⟩) 1 cap] 26)).heap.size (w.alloc (.cells #[.int .i64 5, .string s, .bool n, .int .i64 lo, .int .i64 hi, .slice (some ⟨b, o, none⟩) 1 cap] 26)) w') (first | exact HH.out | assumption | exact Held.step (l := [(w.heap.size, 0, .int .i64 5), (w.heap.size, 1, .string s), (w.heap.size, 2, .bool n), (w.heap.size, 3, .int .i64 lo), (w.heap.size, 4, .int .i64 hi), (w.heap.size, 5, .slice (some ⟨b, o, none⟩) 1 cap), (b, o, .int .i64 kx), (b, o + 1, .string sx), (b, o + 2, .bool nx), (b, o + 3, .int .i64 lox), (b, o + 4, .int .i64 hix), (b, o + 5, .slice ax tsx.length cx)]) (W := (w.alloc (.cells #[.int .i64 5, .string s, .bool n, .int .i64 lo, .int .i64 hi, .slice (some ⟨b, o, none⟩) 1 cap] 26))) (by assumption) (by assumption)) (first | (go_at_call 46; refine (WrC.call (w := w) (by assumption) _ _ ((HB.out _).trans (Below.mono (Held.below (l := [(w.heap.size, 0, .int .i64 5), (w.heap.size, 1, .string s), (w.heap.size, 2, .bool n), (w.heap.size, 3, .int .i64 lo), (w.heap.size, 4, .int .i64 hi), (w.heap.size, 5, .slice (some ⟨b, o, none⟩) 1 cap), (b, o, .int .i64 kx), (b, o + 1, .string sx), (b, o + 2, .bool nx), (b, o + 3, .int .i64 lox), (b, o + 4, .int .i64 hix), (b, o + 5, .slice ax tsx.length cx)]) (W := (w.alloc (.cells #[.int .i64 5, .string s, .bool n, .int .i64 lo, .int .i64 hi, .slice (some ⟨b, o, none⟩) 1 cap] 26))) (by assumption)) (HB.out _).size))).mono ?_; rintro e wz ⟨rfl, hb⟩) | (go_at_call 47; refine (l04Often_any _ _ _ _ _ _ _ _ _ HTM.out).mono ?_; rintro e wz ⟨rfl, hb⟩))
 all_goals
  have hfin := Held.below (l := [(w.heap.size, 0, .int .i64 5), (w.heap.size, 1, .string s), (w.heap.size, 2, .bool n), (w.heap.size, 3, .int .i64 lo), (w.heap.size, 4, .int .i64 hi), (w.heap.size, 5, .slice (some ⟨b, o, none⟩) 1 cap), (b, o, .int .i64 kx), (b, o + 1, .string sx), (b, o + 2, .bool nx), (b, o + 3, .int .i64 lox), (b, o + 4, .int .i64 hix), (b, o + 5, .slice ax tsx.length cx)]) (W := (w.alloc (.cells #[.int .i64 5, .string s, .bool n, .int .i64 lo, .int .i64 hi, .slice (some ⟨b, o, none⟩) 1 cap] 26))) (by assumption)
  go_wp2_with fail
  go_ret
  exact ⟨by rw [HE.out]; exact congrArg (fun t => Ending.returned (Value.string t)) (app_lit (wrT (kx != 1) Lx) (timT lo hi)), (HB.out _).trans (hfin.mono (HB.out _).size)⟩
set_option maxRecDepth 100000 in
set_option maxHeartbeats 8000000 in
theorem stK5b (s : ByteArray) (n : Bool) (lo hi : Int) (xx : RT) (h : ∀ u ∈ ([xx] : List RT), TxS u) (hlen : ∀ u ∈ ([xx] : List RT), (RT.txt u).length ≤ 100000000) (hs : s.size ≤ 1048576) (htm : 5 = 5 → TimOk lo hi) (hst : 5 = 2 → RT.asc s.data.toList = true ∧ s.data.toList ≠ []) (hkx0 : xx.kind = 2) (a : Option Addr) (cap : Nat) (w : World) (hk : Kids 0 w [xx] a) :
  Calls Tryd.prog 28 #[.agg #[.int .i64 5, .string s, .bool n, .int .i64 lo, .int .i64 hi, .slice a 1 cap]] w fun e w' => e = .returned (.string ⟨(RT.txt (.node 5 s n lo hi [xx])).toArray⟩) ∧ Below w.heap.size w w' := by
 obtain ⟨ax, cx, hex, hkx⟩ := hk.elem 0 (by simp)
 simp only [List.getElem_cons_zero] at hex hkx
 obtain ⟨b, o, rfl, _, hbl, ex0, ex1, ex2, ex3, ex4, ex5, _, _⟩ := hex
 have hx := h xx (by simp)
 have lx := hlen xx (by simp)
 have Cx := wrc_of (c := cx) hx hkx lx
 have HE := Lib.hid (show RT.txt (.node 5 s n lo hi [xx]) = wrT false (RT.txt xx) ++ timT lo hi by rw [RT.txt]; simp [RT.wrs, hkx0, show hasB [0, 3, 4, 5, 6, 7] 2 = false from rfl])
 have wlx : (wrT false (RT.txt xx)).length ≤ 100000002 := Nat.le_trans (wrT_len _ _) (by omega)
 generalize RT.txt xx = Lx at *
 have HTM := Lib.hid (htm rfl)
 have htl := timT_len (htm rfl)
 clear htm
 obtain ⟨kx, sx, nx, lox, hix, tsx⟩ := xx
 simp only [RT.kind, RT.set, RT.neg, RT.low, RT.high, RT.kids, Nat.zero_mul, Nat.add_zero] at *
 subst hkx0
 have hsum : ¬ 9223372036854775807 < (wrT false Lx).length + (timT lo hi).length := by omega
 have HB := Lib.hid (show ∀ o, Below w.heap.size w (w.alloc o) from fun o => (Below.refl w.heap.size w).alloc (Nat.le_refl _) _)
 have HH := Lib.hid (Held.start (W := (w.alloc (.cells #[.int .i64 5, .string s, .bool n, .int .i64 lo, .int .i64 hi, .slice (some ⟨b, o, none⟩) 1 cap] 26))) (l := [(w.heap.size, 0, .int .i64 5), (w.heap.size, 1, .string s), (w.heap.size, 2, .bool n), (w.heap.size, 3, .int .i64 lo), (w.heap.size, 4, .int .i64 hi), (w.heap.size, 5, .slice (some ⟨b, o, none⟩) 1 cap), (b, o, .int .i64 2), (b, o + 1, .string sx), (b, o + 2, .bool nx), (b, o + 3, .int .i64 lox), (b, o + 4, .int .i64 hix), (b, o + 5, .slice ax tsx.length cx)]) (by
  have ec : ∀ j, (w.alloc (.cells #[.int .i64 5, .string s, .bool n, .int .i64 lo, .int .i64 hi, .slice (some ⟨b, o, none⟩) 1 cap] 26)).cell? ⟨b, j, none⟩ = w.cell? ⟨b, j, none⟩ := fun j => (HB.out _).cell (p := ⟨b, j, none⟩) hbl
  refine ⟨?_, ?_, ?_, ?_, ?_, ?_, (ec _).trans ex0, (ec _).trans ex1, (ec _).trans ex2, (ec _).trans ex3, (ec _).trans ex4, (ec _).trans ex5, trivial⟩ <;> (rw [World.cell?_alloc_at _ _ _ _ rfl]; rfl)))
 clear h hlen hk hst lx
 generalize RT.txt (.node 5 s n lo hi [.node 2 sx nx lox hix tsx]) = R at *
 go_enter Tryd.func28, Tryd.ntmps28
 go_wp2_with fail
 refine wp_region_held_drew (S := fun w' => (w'.cell? ⟨w.heap.size, 0, none⟩ = some (.int .i64 5) ∧ w'.cell? ⟨w.heap.size, 1, none⟩ = some (.string s) ∧ w'.cell? ⟨w.heap.size, 2, none⟩ = some (.bool n) ∧ w'.cell? ⟨w.heap.size, 3, none⟩ = some (.int .i64 lo) ∧ w'.cell? ⟨w.heap.size, 4, none⟩ = some (.int .i64 hi) ∧ w'.cell? ⟨w.heap.size, 5, none⟩ = some (.slice (some ⟨b, o, none⟩) 1 cap) ∧ w'.cell? ⟨b, o, none⟩ = some (.int .i64 2) ∧ w'.cell? ⟨b, o + 1, none⟩ = some (.string sx) ∧ w'.cell? ⟨b, o + 2, none⟩ = some (.bool nx) ∧ w'.cell? ⟨b, o + 3, none⟩ = some (.int .i64 lox) ∧ w'.cell? ⟨b, o + 4, none⟩ = some (.int .i64 hix) ∧ w'.cell? ⟨b, o + 5, none⟩ = some (.slice ax tsx.length cx) ∧ True) ∧ Below (w.alloc (.cells #[.int .i64 5, .string s, .bool n, .int .i64 lo, .int .i64 hi, .slice (some ⟨b, o, none⟩) 1 cap] 26)).heap.size (w.alloc (.cells #[.int .i64 5, .string s, .bool n, .int .i64 lo, .int .i64 hi, .slice (some ⟨b, o, none⟩) 1 cap] 26)) w') (by kernel_rfl) HH.out (fun hHeld => ?_)
 refine wpAnyH_take (i := 0) (v := ?_) rfl (by kernel_rfl) (by kernel_rfl) (by kernel_rfl) (fun _ _ _ h => h) (Or.inl ⟨by kernel_rfl, ?_⟩) (by assumption) ?_
 rotate_left 1
 ·intro w hSw
  try dsimp only at hSw
  go_simp
  try with_reducible rfl
 try simp only [List.getElem_toArray, List.getElem_cons_zero, Act.put, List.setIfInBounds_toArray, List.set_cons_zero, List.set_cons_succ]
 refine wpAnyH_take (i := 1) (v := ?_) rfl (by kernel_rfl) (by kernel_rfl) (by kernel_rfl) (fun _ _ _ h => h) (Or.inl ⟨by kernel_rfl, ?_⟩) (by assumption) ?_
 rotate_left 1
 ·intro w hSw
  try dsimp only at hSw
  go_simp
  try with_reducible rfl
 try simp only [List.getElem_toArray, List.getElem_cons_zero, List.getElem_cons_succ, Act.put, List.setIfInBounds_toArray, List.set_cons_zero, List.set_cons_succ]
 refine wpAnyH_take (i := 2) (v := ?_) rfl (by kernel_rfl) (by kernel_rfl) (by kernel_rfl) (fun _ _ _ h => h) (Or.inl ⟨by kernel_rfl, ?_⟩) (by assumption) ?_
 rotate_left 1
 ·intro w hSw
  try dsimp only at hSw
  go_simp
  try with_reducible rfl
 try simp only [List.getElem_toArray, List.getElem_cons_zero, List.getElem_cons_succ, Act.put, List.setIfInBounds_toArray, List.set_cons_zero, List.set_cons_succ]
 refine wpAnyH_take (i := 3) (v := ?_) rfl (by kernel_rfl) (by kernel_rfl) (by kernel_rfl) (fun _ _ _ h => h) (Or.inl ⟨by kernel_rfl, ?_⟩) (by assumption) ?_
 rotate_left 1
 ·intro w hSw
  try dsimp only at hSw
  go_simp
  try with_reducible rfl
 try simp only [List.getElem_toArray, List.getElem_cons_zero, List.getElem_cons_succ, Act.put, List.setIfInBounds_toArray, List.set_cons_zero, List.set_cons_succ]
 refine wpAnyH_take (i := 4) (v := ?_) rfl (by kernel_rfl) (by kernel_rfl) (by kernel_rfl) (fun _ _ _ h => h) (Or.inl ⟨by kernel_rfl, ?_⟩) (by assumption) ?_
 rotate_left 1
 ·intro w hSw
  try dsimp only at hSw
  go_simp
  try with_reducible rfl
 try simp only [List.getElem_toArray, List.getElem_cons_zero, List.getElem_cons_succ, Act.put, List.setIfInBounds_toArray, List.set_cons_zero, List.set_cons_succ]
 refine wpAnyH_take (i := 5) (v := ?_) rfl (by kernel_rfl) (by kernel_rfl) (by kernel_rfl) (fun _ _ _ h => h) (Or.inl ⟨by kernel_rfl, ?_⟩) (by assumption) ?_
 rotate_left 1
 ·intro w hSw
  try dsimp only at hSw
  go_simp
  try with_reducible rfl
 try simp only [List.getElem_toArray, List.getElem_cons_zero, List.getElem_cons_succ, Act.put, List.setIfInBounds_toArray, List.set_cons_zero, List.set_cons_succ]
 refine wpAnyH_take (i := 6) (v := ?_) rfl (by kernel_rfl) (by kernel_rfl) (by kernel_rfl) (fun _ _ _ h => h) (Or.inl ⟨by kernel_rfl, ?_⟩) (by assumption) ?_
 rotate_left 1
 ·intro w hSw
  try dsimp only at hSw
  go_simp
  try with_reducible rfl
 try simp only [List.getElem_toArray, List.getElem_cons_zero, List.getElem_cons_succ, Act.put, List.setIfInBounds_toArray, List.set_cons_zero, List.set_cons_succ]
 refine wpAnyH_take (i := 7) (v := undef) rfl (by kernel_rfl) (by kernel_rfl) (by kernel_rfl) (fun _ _ _ h => h) (Or.inr ⟨by kernel_rfl, rfl⟩) (by assumption) ?_
 try simp only [List.getElem_toArray, List.getElem_cons_zero, List.getElem_cons_succ, Act.put, List.setIfInBounds_toArray, List.set_cons_zero, List.set_cons_succ]
 refine wpAnyH_take (i := 8) (v := undef) rfl (by kernel_rfl) (by kernel_rfl) (by kernel_rfl) (fun _ _ _ h => h) (Or.inr ⟨by kernel_rfl, rfl⟩) (by assumption) ?_
 try simp only [List.getElem_toArray, List.getElem_cons_zero, List.getElem_cons_succ, Act.put, List.setIfInBounds_toArray, List.set_cons_zero, List.set_cons_succ]
 refine wpAnyH_take (i := 9) (v := ?_) rfl (by kernel_rfl) (by kernel_rfl) (by kernel_rfl) (fun _ _ _ h => h) (Or.inl ⟨by kernel_rfl, ?_⟩) (by assumption) ?_
 rotate_left 1
 ·intro w hSw
  try dsimp only at hSw
  go_simp
  try with_reducible rfl
 try simp only [List.getElem_toArray, List.getElem_cons_zero, List.getElem_cons_succ, Act.put, List.setIfInBounds_toArray, List.set_cons_zero, List.set_cons_succ]
 refine wpAnyH_take (i := 11) (v := ?_) rfl (by kernel_rfl) (by kernel_rfl) (by kernel_rfl) (fun _ _ _ h => h) (Or.inl ⟨by kernel_rfl, ?_⟩) (by assumption) ?_
 rotate_left 1
 ·intro w hSw
  try dsimp only at hSw
  go_simp
  try with_reducible rfl
 try simp only [List.getElem_toArray, List.getElem_cons_zero, List.getElem_cons_succ, Act.put, List.setIfInBounds_toArray, List.set_cons_zero, List.set_cons_succ]
 refine wpAnyH_ready (rs := [10]) (by kernel_rfl) (by simp) ?_
 refine AllReadyH.cons rfl (fun K hK => ?_) AllReadyH.nil
 go_simp
 refine (WrC.call (w := w) (by assumption) _ _ ((HB.out _).trans (Below.mono (Held.below (l := [(w.heap.size, 0, .int .i64 5), (w.heap.size, 1, .string s), (w.heap.size, 2, .bool n), (w.heap.size, 3, .int .i64 lo), (w.heap.size, 4, .int .i64 hi), (w.heap.size, 5, .slice (some ⟨b, o, none⟩) 1 cap), (b, o, .int .i64 2), (b, o + 1, .string sx), (b, o + 2, .bool nx), (b, o + 3, .int .i64 lox), (b, o + 4, .int .i64 hix), (b, o + 5, .slice ax tsx.length cx)]) (W := (w.alloc (.cells #[.int .i64 5, .string s, .bool n, .int .i64 lo, .int .i64 hi, .slice (some ⟨b, o, none⟩) 1 cap] 26))) (by assumption)) (HB.out _).size))).mono ?_; rintro e wz ⟨rfl, hb⟩
 go_wp2_with fail
 refine hK.out _ _ (Held.step (l := [(w.heap.size, 0, .int .i64 5), (w.heap.size, 1, .string s), (w.heap.size, 2, .bool n), (w.heap.size, 3, .int .i64 lo), (w.heap.size, 4, .int .i64 hi), (w.heap.size, 5, .slice (some ⟨b, o, none⟩) 1 cap), (b, o, .int .i64 2), (b, o + 1, .string sx), (b, o + 2, .bool nx), (b, o + 3, .int .i64 lox), (b, o + 4, .int .i64 hix), (b, o + 5, .slice ax tsx.length cx)]) (W := (w.alloc (.cells #[.int .i64 5, .string s, .bool n, .int .i64 lo, .int .i64 hi, .slice (some ⟨b, o, none⟩) 1 cap] 26))) (by assumption) (by assumption)) (fun hHeld => ?_)
 clear hK K
 try simp only [List.getElem_toArray, List.getElem_cons_zero, List.getElem_cons_succ, Act.put, List.setIfInBounds_toArray, List.set_cons_zero, List.set_cons_succ]
 refine wpAnyH_ready (rs := [12]) (by kernel_rfl) (by simp) ?_
 refine AllReadyH.cons rfl (fun K hK => ?_) AllReadyH.nil
 go_simp
 refine (l04Often_any _ _ _ _ _ _ _ _ _ HTM.out).mono ?_; rintro e wz ⟨rfl, hb⟩
 go_wp2_with fail
 refine hK.out _ _ (Held.step (l := [(w.heap.size, 0, .int .i64 5), (w.heap.size, 1, .string s), (w.heap.size, 2, .bool n), (w.heap.size, 3, .int .i64 lo), (w.heap.size, 4, .int .i64 hi), (w.heap.size, 5, .slice (some ⟨b, o, none⟩) 1 cap), (b, o, .int .i64 2), (b, o + 1, .string sx), (b, o + 2, .bool nx), (b, o + 3, .int .i64 lox), (b, o + 4, .int .i64 hix), (b, o + 5, .slice ax tsx.length cx)]) (W := (w.alloc (.cells #[.int .i64 5, .string s, .bool n, .int .i64 lo, .int .i64 hi, .slice (some ⟨b, o, none⟩) 1 cap] 26))) (by assumption) (by assumption)) (fun hHeld => ?_)
 clear hK K
 try simp only [List.getElem_toArray, List.getElem_cons_zero, List.getElem_cons_succ, Act.put, List.setIfInBounds_toArray, List.set_cons_zero, List.set_cons_succ]
 refine wpAnyH_take (i := 13) (v := ?_) rfl (by kernel_rfl) (by kernel_rfl) (by kernel_rfl) (fun _ _ _ h => h) (Or.inl ⟨by kernel_rfl, ?_⟩) (by assumption) ?_
 rotate_left 1
 ·intro w hSw
  try dsimp only at hSw
  go_simp
  try with_reducible rfl
 try simp only [List.getElem_toArray, List.getElem_cons_zero, List.getElem_cons_succ, Act.put, List.setIfInBounds_toArray, List.set_cons_zero, List.set_cons_succ]
 refine wpAnyH_take (i := 14) (v := ?_) rfl (by kernel_rfl) (by kernel_rfl) (by kernel_rfl) (fun _ _ _ h => h) (Or.inl ⟨by kernel_rfl, ?_⟩) (by assumption) ?_
 rotate_left 1
 ·intro w hSw
  try dsimp only at hSw
  go_simp
  try with_reducible rfl
 try simp only [List.getElem_toArray, List.getElem_cons_zero, List.getElem_cons_succ, Act.put, List.setIfInBounds_toArray, List.set_cons_zero, List.set_cons_succ]
 refine wpAnyH_done (by kernel_rfl) ?_ _
 all_goals
  have hfin := Held.below (l := [(w.heap.size, 0, .int .i64 5), (w.heap.size, 1, .string s), (w.heap.size, 2, .bool n), (w.heap.size, 3, .int .i64 lo), (w.heap.size, 4, .int .i64 hi), (w.heap.size, 5, .slice (some ⟨b, o, none⟩) 1 cap), (b, o, .int .i64 2), (b, o + 1, .string sx), (b, o + 2, .bool nx), (b, o + 3, .int .i64 lox), (b, o + 4, .int .i64 hix), (b, o + 5, .slice ax tsx.length cx)]) (W := (w.alloc (.cells #[.int .i64 5, .string s, .bool n, .int .i64 lo, .int .i64 hi, .slice (some ⟨b, o, none⟩) 1 cap] 26))) (by assumption)
  go_wp2_with fail
  go_ret
  exact ⟨by rw [HE.out]; exact congrArg (fun t => Ending.returned (Value.string t)) (app_lit (wrT false Lx) (timT lo hi)), (HB.out _).trans (hfin.mono (HB.out _).size)⟩
end Go.Proofs.YtcpaneaiobnhdaaDoor.kit
