/-
  Contracts of spec.l04Least, impl.leastOf, spec.Least and impl.Least over this seat's translation: how many bytes at least an expression means. Conditions: each theorem names its own.
-/
import Derived.Test.YtppfnaenamcnpaaDoorMfRe6
import Derived.Test.YtppfnaenamcnpaaDoorMfKit
import Derived.Deep.RegionHeld3
set_option linter.unusedVariables false
namespace Go.Proofs.YtppfnaenamcnpaaDoor.kit
open Go.ChangeShapes Go.WideShapes Go.ChangeAt Go.RowKit
mutual
/-- How many bytes at least, as the machine reckons. -/
def RT.lst : RT → Int
 | .node k s n lo hi ts => if k = 1 ∨ k = 2 then 1 else if k = 3 then IntKind.i64.wrap ((RT.lsts ts).getD 0 0 + (RT.lsts ts).getD 1 0) else if k = 4 then min ((RT.lsts ts).getD 0 0) ((RT.lsts ts).getD 1 0) else if k = 5 then IntKind.i64.wrap (lo * (RT.lsts ts).getD 0 0) else 0
def RT.lsts : List RT → List Int
 | [] => []
 | t :: ts => RT.lst t :: RT.lsts ts
end
structure KidC (F : FuncId) (w : World) (k : Int) (s : ByteArray) (n : Bool) (lo hi : Int) (ts : List RT) (a : Option Addr) (c : Nat) (L : Int) : Prop where
 call : ∀ W, Below w.heap.size w W → Calls Tryd.prog F #[.agg #[.int .i64 k, .string s, .bool n, .int .i64 lo, .int .i64 hi, .slice a ts.length c]] W fun e w' => e = .returned (.int .i64 L) ∧ Below W.heap.size W w'
def ilOne (t : RT) : Prop := RT.good t → ∀ (a : Option Addr) (cap : Nat) (w : World), Kids 0 w t.kids a →
 Calls Tryd.prog 42 #[reV t a cap] w fun e w' => e = .returned (.int .i64 (RT.lst t)) ∧ Below w.heap.size w w'
set_option maxRecDepth 100000 in
set_option maxHeartbeats 4000000 in
theorem ilK0 (s : ByteArray) (n : Bool) (lo hi : Int) (h : ∀ u ∈ ([] : List RT), ilOne u) (hg : ∀ u ∈ ([] : List RT), RT.good u) (a : Option Addr) (cap : Nat) (w : World) (hk : Kids 0 w [] a) :
 Calls Tryd.prog 42 #[.agg #[.int .i64 0, .string s, .bool n, .int .i64 lo, .int .i64 hi, .slice a 0 cap]] w fun e w' => e = .returned (.int .i64 (RT.lst (.node 0 s n lo hi []))) ∧ Below w.heap.size w w' := by
 have HB := Lib.hid (show ∀ o, Below w.heap.size w (w.alloc o) from fun o => (Below.refl w.heap.size w).alloc (Nat.le_refl _) _)
 have HE := Lib.hid (show RT.lst (.node 0 s n lo hi []) = 0 by simp [RT.lst])
 clear h hg hk
 go_enter Tryd.func42, Tryd.ntmps42
 go_wp2_with fail
 go_ret
 exact ⟨ret_int HE.out.symm, HB.out _⟩
set_option maxRecDepth 100000 in
set_option maxHeartbeats 4000000 in
theorem ilK1 (s : ByteArray) (n : Bool) (lo hi : Int) (h : ∀ u ∈ ([] : List RT), ilOne u) (hg : ∀ u ∈ ([] : List RT), RT.good u) (a : Option Addr) (cap : Nat) (w : World) (hk : Kids 0 w [] a) :
 Calls Tryd.prog 42 #[.agg #[.int .i64 1, .string s, .bool n, .int .i64 lo, .int .i64 hi, .slice a 0 cap]] w fun e w' => e = .returned (.int .i64 (RT.lst (.node 1 s n lo hi []))) ∧ Below w.heap.size w w' := by
 have HB := Lib.hid (show ∀ o, Below w.heap.size w (w.alloc o) from fun o => (Below.refl w.heap.size w).alloc (Nat.le_refl _) _)
 have HE := Lib.hid (show RT.lst (.node 1 s n lo hi []) = 1 by simp [RT.lst])
 clear h hg hk
 go_enter Tryd.func42, Tryd.ntmps42
 go_wp2_with fail
 go_ret
 exact ⟨ret_int HE.out.symm, HB.out _⟩
set_option maxRecDepth 100000 in
set_option maxHeartbeats 4000000 in
theorem ilK6 (s : ByteArray) (n : Bool) (lo hi : Int) (h : ∀ u ∈ ([] : List RT), ilOne u) (hg : ∀ u ∈ ([] : List RT), RT.good u) (a : Option Addr) (cap : Nat) (w : World) (hk : Kids 0 w [] a) :
 Calls Tryd.prog 42 #[.agg #[.int .i64 6, .string s, .bool n, .int .i64 lo, .int .i64 hi, .slice a 0 cap]] w fun e w' => e = .returned (.int .i64 (RT.lst (.node 6 s n lo hi []))) ∧ Below w.heap.size w w' := by
 have HB := Lib.hid (show ∀ o, Below w.heap.size w (w.alloc o) from fun o => (Below.refl w.heap.size w).alloc (Nat.le_refl _) _)
 have HE := Lib.hid (show RT.lst (.node 6 s n lo hi []) = 0 by simp [RT.lst])
 clear h hg hk
 go_enter Tryd.func42, Tryd.ntmps42
 go_wp2_with fail
 go_ret
 exact ⟨ret_int HE.out.symm, HB.out _⟩
set_option maxRecDepth 100000 in
set_option maxHeartbeats 4000000 in
theorem ilK7 (s : ByteArray) (n : Bool) (lo hi : Int) (h : ∀ u ∈ ([] : List RT), ilOne u) (hg : ∀ u ∈ ([] : List RT), RT.good u) (a : Option Addr) (cap : Nat) (w : World) (hk : Kids 0 w [] a) :
 Calls Tryd.prog 42 #[.agg #[.int .i64 7, .string s, .bool n, .int .i64 lo, .int .i64 hi, .slice a 0 cap]] w fun e w' => e = .returned (.int .i64 (RT.lst (.node 7 s n lo hi []))) ∧ Below w.heap.size w w' := by
 have HB := Lib.hid (show ∀ o, Below w.heap.size w (w.alloc o) from fun o => (Below.refl w.heap.size w).alloc (Nat.le_refl _) _)
 have HE := Lib.hid (show RT.lst (.node 7 s n lo hi []) = 0 by simp [RT.lst])
 clear h hg hk
 go_enter Tryd.func42, Tryd.ntmps42
 go_wp2_with fail
 go_ret
 exact ⟨ret_int HE.out.symm, HB.out _⟩
set_option maxRecDepth 100000 in
set_option maxHeartbeats 4000000 in
theorem ilK2 (s : ByteArray) (n : Bool) (lo hi : Int) (h : ∀ u ∈ ([] : List RT), ilOne u) (hg : ∀ u ∈ ([] : List RT), RT.good u) (a : Option Addr) (cap : Nat) (w : World) (hk : Kids 0 w [] a) :
 Calls Tryd.prog 42 #[.agg #[.int .i64 2, .string s, .bool n, .int .i64 lo, .int .i64 hi, .slice a 0 cap]] w fun e w' => e = .returned (.int .i64 (RT.lst (.node 2 s n lo hi []))) ∧ Below w.heap.size w w' := by
 have HB := Lib.hid (show ∀ o, Below w.heap.size w (w.alloc o) from fun o => (Below.refl w.heap.size w).alloc (Nat.le_refl _) _)
 have HE := Lib.hid (show RT.lst (.node 2 s n lo hi []) = 1 by simp [RT.lst])
 clear h hg hk
 go_enter Tryd.func42, Tryd.ntmps42
 go_wp2_with fail
 go_ret
 exact ⟨ret_int HE.out.symm, HB.out _⟩
set_option maxRecDepth 100000 in
set_option maxHeartbeats 4000000 in
theorem ilK3 (s : ByteArray) (n : Bool) (lo hi : Int) (xx : RT) (xy : RT) (h : ∀ u ∈ ([xx, xy] : List RT), ilOne u) (hg : ∀ u ∈ ([xx, xy] : List RT), RT.good u) (a : Option Addr) (cap : Nat) (w : World) (hk : Kids 0 w [xx, xy] a) :
 Calls Tryd.prog 42 #[.agg #[.int .i64 3, .string s, .bool n, .int .i64 lo, .int .i64 hi, .slice a 2 cap]] w fun e w' => e = .returned (.int .i64 (RT.lst (.node 3 s n lo hi [xx, xy]))) ∧ Below w.heap.size w w' := by
 obtain ⟨ax, cx, hex, hkx⟩ := hk.elem 0 (by simp)
 obtain ⟨ay, cy, hey, hky⟩ := hk.elem 1 (by simp)
 simp only [List.getElem_cons_zero, List.getElem_cons_succ] at hex hkx hey hky
 obtain ⟨b, o, rfl, _, hbl, ex0, ex1, ex2, ex3, ex4, ex5, _, _⟩ := hex
 obtain ⟨b2, o2, e2, _, _, ey0, ey1, ey2, ey3, ey4, ey5, _, _⟩ := hey
 cases e2
 have hx := h xx (by simp) (hg xx (by simp))
 have hy := h xy (by simp) (hg xy (by simp))
 obtain ⟨kx, sx, nx, lox, hix, tsx⟩ := xx
 obtain ⟨ky, sy, ny, loy, hiy, tsy⟩ := xy
 simp only [RT.kind, RT.set, RT.neg, RT.low, RT.high, RT.kids, reV, Nat.zero_mul, Nat.add_zero, Nat.one_mul, Nat.add_assoc, Nat.reduceAdd] at *
 have HE := Lib.hid (show RT.lst (.node 3 s n lo hi [.node kx sx nx lox hix tsx, .node ky sy ny loy hiy tsy]) = IntKind.i64.wrap (RT.lst (.node kx sx nx lox hix tsx) + RT.lst (.node ky sy ny loy hiy tsy)) by rw [RT.lst]; simp [RT.lsts])
 have Cx : KidC 42 w kx sx nx lox hix tsx ax cx (RT.lst (.node kx sx nx lox hix tsx)) := ⟨fun W hW => hx ax cx W (hkx.kept (Nat.le_refl _) hW)⟩
 have Cy : KidC 42 w ky sy ny loy hiy tsy ay cy (RT.lst (.node ky sy ny loy hiy tsy)) := ⟨fun W hW => hy ay cy W (hky.kept (Nat.le_refl _) hW)⟩
 have HB := Lib.hid (show ∀ o, Below w.heap.size w (w.alloc o) from fun o => (Below.refl w.heap.size w).alloc (Nat.le_refl _) _)
 have hz : ∀ o, (w.alloc o).heap.size = w.heap.size + 1 := fun o => by simp
 have HH := Lib.hid (Held.start (W := (w.alloc (.cells #[.int .i64 3, .string s, .bool n, .int .i64 lo, .int .i64 hi, .slice (some ⟨b, o, none⟩) 2 cap] 26))) (l := [(w.heap.size, 0, .int .i64 3), (w.heap.size, 3, .int .i64 lo), (w.heap.size, 5, .slice (some ⟨b, o, none⟩) 2 cap), (b, o, .int .i64 kx), (b, o + 1, .string sx), (b, o + 2, .bool nx), (b, o + 3, .int .i64 lox), (b, o + 4, .int .i64 hix), (b, o + 5, .slice ax tsx.length cx), (b, o + 6, .int .i64 ky), (b, o + 7, .string sy), (b, o + 8, .bool ny), (b, o + 9, .int .i64 loy), (b, o + 10, .int .i64 hiy), (b, o + 11, .slice ay tsy.length cy)]) (by
  have ec : ∀ j, (w.alloc (.cells #[.int .i64 3, .string s, .bool n, .int .i64 lo, .int .i64 hi, .slice (some ⟨b, o, none⟩) 2 cap] 26)).cell? ⟨b, j, none⟩ = w.cell? ⟨b, j, none⟩ := fun j => (HB.out _).cell (p := ⟨b, j, none⟩) hbl
  refine ⟨?_, ?_, ?_, (ec _).trans ex0, (ec _).trans ex1, (ec _).trans ex2, (ec _).trans ex3, (ec _).trans ex4, (ec _).trans ex5, (ec _).trans ey0, (ec _).trans ey1, (ec _).trans ey2, (ec _).trans ey3, (ec _).trans ey4, (ec _).trans ey5, trivial⟩ <;> (rw [World.cell?_alloc_at _ _ _ _ rfl]; rfl)))
 clear h hg hk hx hkx hy hky ex0 ex1 ex2 ex3 ex4 ex5 ey0 ey1 ey2 ey3 ey4 ey5
 generalize RT.lst (.node kx sx nx lox hix tsx) = Lx at *
 generalize RT.lst (.node ky sy ny loy hiy tsy) = Ly at *
 generalize RT.lst (.node 3 s n lo hi [.node kx sx nx lox hix tsx, .node ky sy ny loy hiy tsy]) = R at *
 go_enter Tryd.func42, Tryd.ntmps42
 go_wp2_with fail
 go_region_held3 (fun w' => (w'.cell? ⟨w.heap.size, 0, none⟩ = some (.int .i64 3) ∧ w'.cell? ⟨w.heap.size, 3, none⟩ = some (.int .i64 lo) ∧ w'.cell? ⟨w.heap.size, 5, none⟩ = some (.slice (some ⟨b, o, none⟩) 2 cap) ∧ w'.cell? ⟨b, o, none⟩ = some (.int .i64 kx) ∧ w'.cell? ⟨b, o + 1, none⟩ = some (.string sx) ∧ w'.cell? ⟨b, o + 2, none⟩ = some (.bool nx) ∧ w'.cell? ⟨b, o + 3, none⟩ = some (.int .i64 lox) ∧ w'.cell? ⟨b, o + 4, none⟩ = some (.int .i64 hix) ∧ w'.cell? ⟨b, o + 5, none⟩ = some (.slice ax tsx.length cx) ∧ w'.cell? ⟨b, o + 6, none⟩ = some (.int .i64 ky) ∧ w'.cell? ⟨b, o + 7, none⟩ = some (.string sy) ∧ w'.cell? ⟨b, o + 8, none⟩ = some (.bool ny) ∧ w'.cell? ⟨b, o + 9, none⟩ = some (.int .i64 loy) ∧ w'.cell? ⟨b, o + 10, none⟩ = some (.int .i64 hiy) ∧ w'.cell? ⟨b, o + 11, none⟩ = some (.slice ay tsy.length cy) ∧ True) ∧ Below (w.alloc (.cells #[.int .i64 3, .string s, .bool n, .int .i64 lo, .int .i64 hi, .slice (some ⟨b, o, none⟩) 2 cap] 26)).heap.size (w.alloc (.cells #[.int .i64 3, .string s, .bool n, .int .i64 lo, .int .i64 hi, .slice (some ⟨b, o, none⟩) 2 cap] 26)) w') (first | exact HH.out | assumption | exact Held.step (l := [(w.heap.size, 0, .int .i64 3), (w.heap.size, 3, .int .i64 lo), (w.heap.size, 5, .slice (some ⟨b, o, none⟩) 2 cap), (b, o, .int .i64 kx), (b, o + 1, .string sx), (b, o + 2, .bool nx), (b, o + 3, .int .i64 lox), (b, o + 4, .int .i64 hix), (b, o + 5, .slice ax tsx.length cx), (b, o + 6, .int .i64 ky), (b, o + 7, .string sy), (b, o + 8, .bool ny), (b, o + 9, .int .i64 loy), (b, o + 10, .int .i64 hiy), (b, o + 11, .slice ay tsy.length cy)]) (W := (w.alloc (.cells #[.int .i64 3, .string s, .bool n, .int .i64 lo, .int .i64 hi, .slice (some ⟨b, o, none⟩) 2 cap] 26))) (by assumption) (by assumption)) (first | (go_at_call 42; refine (KidC.call (F := 42) (w := w) (by assumption) _ ((HB.out _).trans (Below.mono (Held.below (l := [(w.heap.size, 0, .int .i64 3), (w.heap.size, 3, .int .i64 lo), (w.heap.size, 5, .slice (some ⟨b, o, none⟩) 2 cap), (b, o, .int .i64 kx), (b, o + 1, .string sx), (b, o + 2, .bool nx), (b, o + 3, .int .i64 lox), (b, o + 4, .int .i64 hix), (b, o + 5, .slice ax tsx.length cx), (b, o + 6, .int .i64 ky), (b, o + 7, .string sy), (b, o + 8, .bool ny), (b, o + 9, .int .i64 loy), (b, o + 10, .int .i64 hiy), (b, o + 11, .slice ay tsy.length cy)]) (W := (w.alloc (.cells #[.int .i64 3, .string s, .bool n, .int .i64 lo, .int .i64 hi, .slice (some ⟨b, o, none⟩) 2 cap] 26))) (by assumption)) (HB.out _).size))).mono ?_; rintro e wz ⟨rfl, hb⟩))
 all_goals
  have hfin := Held.below (l := [(w.heap.size, 0, .int .i64 3), (w.heap.size, 3, .int .i64 lo), (w.heap.size, 5, .slice (some ⟨b, o, none⟩) 2 cap), (b, o, .int .i64 kx), (b, o + 1, .string sx), (b, o + 2, .bool nx), (b, o + 3, .int .i64 lox), (b, o + 4, .int .i64 hix), (b, o + 5, .slice ax tsx.length cx), (b, o + 6, .int .i64 ky), (b, o + 7, .string sy), (b, o + 8, .bool ny), (b, o + 9, .int .i64 loy), (b, o + 10, .int .i64 hiy), (b, o + 11, .slice ay tsy.length cy)]) (W := (w.alloc (.cells #[.int .i64 3, .string s, .bool n, .int .i64 lo, .int .i64 hi, .slice (some ⟨b, o, none⟩) 2 cap] 26))) (by assumption)
  go_wp2_with fail
  go_ret
  exact ⟨ret_int HE.out.symm, (HB.out _).trans (hfin.mono (HB.out _).size)⟩
set_option maxRecDepth 100000 in
set_option maxHeartbeats 4000000 in
theorem ilK4 (s : ByteArray) (n : Bool) (lo hi : Int) (xx : RT) (xy : RT) (h : ∀ u ∈ ([xx, xy] : List RT), ilOne u) (hg : ∀ u ∈ ([xx, xy] : List RT), RT.good u) (a : Option Addr) (cap : Nat) (w : World) (hk : Kids 0 w [xx, xy] a) :
 Calls Tryd.prog 42 #[.agg #[.int .i64 4, .string s, .bool n, .int .i64 lo, .int .i64 hi, .slice a 2 cap]] w fun e w' => e = .returned (.int .i64 (RT.lst (.node 4 s n lo hi [xx, xy]))) ∧ Below w.heap.size w w' := by
 obtain ⟨ax, cx, hex, hkx⟩ := hk.elem 0 (by simp)
 obtain ⟨ay, cy, hey, hky⟩ := hk.elem 1 (by simp)
 simp only [List.getElem_cons_zero, List.getElem_cons_succ] at hex hkx hey hky
 obtain ⟨b, o, rfl, _, hbl, ex0, ex1, ex2, ex3, ex4, ex5, _, _⟩ := hex
 obtain ⟨b2, o2, e2, _, _, ey0, ey1, ey2, ey3, ey4, ey5, _, _⟩ := hey
 cases e2
 have hx := h xx (by simp) (hg xx (by simp))
 have hy := h xy (by simp) (hg xy (by simp))
 obtain ⟨kx, sx, nx, lox, hix, tsx⟩ := xx
 obtain ⟨ky, sy, ny, loy, hiy, tsy⟩ := xy
 simp only [RT.kind, RT.set, RT.neg, RT.low, RT.high, RT.kids, reV, Nat.zero_mul, Nat.add_zero, Nat.one_mul, Nat.add_assoc, Nat.reduceAdd] at *
 have HE := Lib.hid (show RT.lst (.node 4 s n lo hi [.node kx sx nx lox hix tsx, .node ky sy ny loy hiy tsy]) = min (RT.lst (.node kx sx nx lox hix tsx)) (RT.lst (.node ky sy ny loy hiy tsy)) by rw [RT.lst]; simp [RT.lsts])
 have Cx : KidC 42 w kx sx nx lox hix tsx ax cx (RT.lst (.node kx sx nx lox hix tsx)) := ⟨fun W hW => hx ax cx W (hkx.kept (Nat.le_refl _) hW)⟩
 have Cy : KidC 42 w ky sy ny loy hiy tsy ay cy (RT.lst (.node ky sy ny loy hiy tsy)) := ⟨fun W hW => hy ay cy W (hky.kept (Nat.le_refl _) hW)⟩
 have HB := Lib.hid (show ∀ o, Below w.heap.size w (w.alloc o) from fun o => (Below.refl w.heap.size w).alloc (Nat.le_refl _) _)
 have hz : ∀ o, (w.alloc o).heap.size = w.heap.size + 1 := fun o => by simp
 have HH := Lib.hid (Held.start (W := (w.alloc (.cells #[.int .i64 4, .string s, .bool n, .int .i64 lo, .int .i64 hi, .slice (some ⟨b, o, none⟩) 2 cap] 26))) (l := [(w.heap.size, 0, .int .i64 4), (w.heap.size, 3, .int .i64 lo), (w.heap.size, 5, .slice (some ⟨b, o, none⟩) 2 cap), (b, o, .int .i64 kx), (b, o + 1, .string sx), (b, o + 2, .bool nx), (b, o + 3, .int .i64 lox), (b, o + 4, .int .i64 hix), (b, o + 5, .slice ax tsx.length cx), (b, o + 6, .int .i64 ky), (b, o + 7, .string sy), (b, o + 8, .bool ny), (b, o + 9, .int .i64 loy), (b, o + 10, .int .i64 hiy), (b, o + 11, .slice ay tsy.length cy)]) (by
  have ec : ∀ j, (w.alloc (.cells #[.int .i64 4, .string s, .bool n, .int .i64 lo, .int .i64 hi, .slice (some ⟨b, o, none⟩) 2 cap] 26)).cell? ⟨b, j, none⟩ = w.cell? ⟨b, j, none⟩ := fun j => (HB.out _).cell (p := ⟨b, j, none⟩) hbl
  refine ⟨?_, ?_, ?_, (ec _).trans ex0, (ec _).trans ex1, (ec _).trans ex2, (ec _).trans ex3, (ec _).trans ex4, (ec _).trans ex5, (ec _).trans ey0, (ec _).trans ey1, (ec _).trans ey2, (ec _).trans ey3, (ec _).trans ey4, (ec _).trans ey5, trivial⟩ <;> (rw [World.cell?_alloc_at _ _ _ _ rfl]; rfl)))
 clear h hg hk hx hkx hy hky ex0 ex1 ex2 ex3 ex4 ex5 ey0 ey1 ey2 ey3 ey4 ey5
 generalize RT.lst (.node kx sx nx lox hix tsx) = Lx at *
 generalize RT.lst (.node ky sy ny loy hiy tsy) = Ly at *
 generalize RT.lst (.node 4 s n lo hi [.node kx sx nx lox hix tsx, .node ky sy ny loy hiy tsy]) = R at *
 go_enter Tryd.func42, Tryd.ntmps42
 go_wp2_with fail
 by_cases hm : Ly < Lx
 · have hm2 : ¬ Lx ≤ Ly := by omega
   go_region_held3 (fun w' => (w'.cell? ⟨w.heap.size, 0, none⟩ = some (.int .i64 4) ∧ w'.cell? ⟨w.heap.size, 3, none⟩ = some (.int .i64 lo) ∧ w'.cell? ⟨w.heap.size, 5, none⟩ = some (.slice (some ⟨b, o, none⟩) 2 cap) ∧ w'.cell? ⟨b, o, none⟩ = some (.int .i64 kx) ∧ w'.cell? ⟨b, o + 1, none⟩ = some (.string sx) ∧ w'.cell? ⟨b, o + 2, none⟩ = some (.bool nx) ∧ w'.cell? ⟨b, o + 3, none⟩ = some (.int .i64 lox) ∧ w'.cell? ⟨b, o + 4, none⟩ = some (.int .i64 hix) ∧ w'.cell? ⟨b, o + 5, none⟩ = some (.slice ax tsx.length cx) ∧ w'.cell? ⟨b, o + 6, none⟩ = some (.int .i64 ky) ∧ w'.cell? ⟨b, o + 7, none⟩ = some (.string sy) ∧ w'.cell? ⟨b, o + 8, none⟩ = some (.bool ny) ∧ w'.cell? ⟨b, o + 9, none⟩ = some (.int .i64 loy) ∧ w'.cell? ⟨b, o + 10, none⟩ = some (.int .i64 hiy) ∧ w'.cell? ⟨b, o + 11, none⟩ = some (.slice ay tsy.length cy) ∧ True) ∧ Below (w.alloc (.cells #[.int .i64 4, .string s, .bool n, .int .i64 lo, .int .i64 hi, .slice (some ⟨b, o, none⟩) 2 cap] 26)).heap.size (w.alloc (.cells #[.int .i64 4, .string s, .bool n, .int .i64 lo, .int .i64 hi, .slice (some ⟨b, o, none⟩) 2 cap] 26)) w') (first | exact HH.out | assumption | exact Held.step (l := [(w.heap.size, 0, .int .i64 4), (w.heap.size, 3, .int .i64 lo), (w.heap.size, 5, .slice (some ⟨b, o, none⟩) 2 cap), (b, o, .int .i64 kx), (b, o + 1, .string sx), (b, o + 2, .bool nx), (b, o + 3, .int .i64 lox), (b, o + 4, .int .i64 hix), (b, o + 5, .slice ax tsx.length cx), (b, o + 6, .int .i64 ky), (b, o + 7, .string sy), (b, o + 8, .bool ny), (b, o + 9, .int .i64 loy), (b, o + 10, .int .i64 hiy), (b, o + 11, .slice ay tsy.length cy)]) (W := (w.alloc (.cells #[.int .i64 4, .string s, .bool n, .int .i64 lo, .int .i64 hi, .slice (some ⟨b, o, none⟩) 2 cap] 26))) (by assumption) (by assumption)) (first | (go_at_call 42; refine (KidC.call (F := 42) (w := w) (by assumption) _ ((HB.out _).trans (Below.mono (Held.below (l := [(w.heap.size, 0, .int .i64 4), (w.heap.size, 3, .int .i64 lo), (w.heap.size, 5, .slice (some ⟨b, o, none⟩) 2 cap), (b, o, .int .i64 kx), (b, o + 1, .string sx), (b, o + 2, .bool nx), (b, o + 3, .int .i64 lox), (b, o + 4, .int .i64 hix), (b, o + 5, .slice ax tsx.length cx), (b, o + 6, .int .i64 ky), (b, o + 7, .string sy), (b, o + 8, .bool ny), (b, o + 9, .int .i64 loy), (b, o + 10, .int .i64 hiy), (b, o + 11, .slice ay tsy.length cy)]) (W := (w.alloc (.cells #[.int .i64 4, .string s, .bool n, .int .i64 lo, .int .i64 hi, .slice (some ⟨b, o, none⟩) 2 cap] 26))) (by assumption)) (HB.out _).size))).mono ?_; rintro e wz ⟨rfl, hb⟩))
   all_goals
    have hfin := Held.below (l := [(w.heap.size, 0, .int .i64 4), (w.heap.size, 3, .int .i64 lo), (w.heap.size, 5, .slice (some ⟨b, o, none⟩) 2 cap), (b, o, .int .i64 kx), (b, o + 1, .string sx), (b, o + 2, .bool nx), (b, o + 3, .int .i64 lox), (b, o + 4, .int .i64 hix), (b, o + 5, .slice ax tsx.length cx), (b, o + 6, .int .i64 ky), (b, o + 7, .string sy), (b, o + 8, .bool ny), (b, o + 9, .int .i64 loy), (b, o + 10, .int .i64 hiy), (b, o + 11, .slice ay tsy.length cy)]) (W := (w.alloc (.cells #[.int .i64 4, .string s, .bool n, .int .i64 lo, .int .i64 hi, .slice (some ⟨b, o, none⟩) 2 cap] 26))) (by assumption)
    go_wp2_with fail
    go_ret
    exact ⟨ret_int (by rw [HE.out]; omega), (HB.out _).trans (hfin.mono (HB.out _).size)⟩
 · have hm2 : Lx ≤ Ly := by omega
   go_region_held3 (fun w' => (w'.cell? ⟨w.heap.size, 0, none⟩ = some (.int .i64 4) ∧ w'.cell? ⟨w.heap.size, 3, none⟩ = some (.int .i64 lo) ∧ w'.cell? ⟨w.heap.size, 5, none⟩ = some (.slice (some ⟨b, o, none⟩) 2 cap) ∧ w'.cell? ⟨b, o, none⟩ = some (.int .i64 kx) ∧ w'.cell? ⟨b, o + 1, none⟩ = some (.string sx) ∧ w'.cell? ⟨b, o + 2, none⟩ = some (.bool nx) ∧ w'.cell? ⟨b, o + 3, none⟩ = some (.int .i64 lox) ∧ w'.cell? ⟨b, o + 4, none⟩ = some (.int .i64 hix) ∧ w'.cell? ⟨b, o + 5, none⟩ = some (.slice ax tsx.length cx) ∧ w'.cell? ⟨b, o + 6, none⟩ = some (.int .i64 ky) ∧ w'.cell? ⟨b, o + 7, none⟩ = some (.string sy) ∧ w'.cell? ⟨b, o + 8, none⟩ = some (.bool ny) ∧ w'.cell? ⟨b, o + 9, none⟩ = some (.int .i64 loy) ∧ w'.cell? ⟨b, o + 10, none⟩ = some (.int .i64 hiy) ∧ w'.cell? ⟨b, o + 11, none⟩ = some (.slice ay tsy.length cy) ∧ True) ∧ Below (w.alloc (.cells #[.int .i64 4, .string s, .bool n, .int .i64 lo, .int .i64 hi, .slice (some ⟨b, o, none⟩) 2 cap] 26)).heap.size (w.alloc (.cells #[.int .i64 4, .string s, .bool n, .int .i64 lo, .int .i64 hi, .slice (some ⟨b, o, none⟩) 2 cap] 26)) w') (first | exact HH.out | assumption | exact Held.step (l := [(w.heap.size, 0, .int .i64 4), (w.heap.size, 3, .int .i64 lo), (w.heap.size, 5, .slice (some ⟨b, o, none⟩) 2 cap), (b, o, .int .i64 kx), (b, o + 1, .string sx), (b, o + 2, .bool nx), (b, o + 3, .int .i64 lox), (b, o + 4, .int .i64 hix), (b, o + 5, .slice ax tsx.length cx), (b, o + 6, .int .i64 ky), (b, o + 7, .string sy), (b, o + 8, .bool ny), (b, o + 9, .int .i64 loy), (b, o + 10, .int .i64 hiy), (b, o + 11, .slice ay tsy.length cy)]) (W := (w.alloc (.cells #[.int .i64 4, .string s, .bool n, .int .i64 lo, .int .i64 hi, .slice (some ⟨b, o, none⟩) 2 cap] 26))) (by assumption) (by assumption)) (first | (go_at_call 42; refine (KidC.call (F := 42) (w := w) (by assumption) _ ((HB.out _).trans (Below.mono (Held.below (l := [(w.heap.size, 0, .int .i64 4), (w.heap.size, 3, .int .i64 lo), (w.heap.size, 5, .slice (some ⟨b, o, none⟩) 2 cap), (b, o, .int .i64 kx), (b, o + 1, .string sx), (b, o + 2, .bool nx), (b, o + 3, .int .i64 lox), (b, o + 4, .int .i64 hix), (b, o + 5, .slice ax tsx.length cx), (b, o + 6, .int .i64 ky), (b, o + 7, .string sy), (b, o + 8, .bool ny), (b, o + 9, .int .i64 loy), (b, o + 10, .int .i64 hiy), (b, o + 11, .slice ay tsy.length cy)]) (W := (w.alloc (.cells #[.int .i64 4, .string s, .bool n, .int .i64 lo, .int .i64 hi, .slice (some ⟨b, o, none⟩) 2 cap] 26))) (by assumption)) (HB.out _).size))).mono ?_; rintro e wz ⟨rfl, hb⟩))
   all_goals
    have hfin := Held.below (l := [(w.heap.size, 0, .int .i64 4), (w.heap.size, 3, .int .i64 lo), (w.heap.size, 5, .slice (some ⟨b, o, none⟩) 2 cap), (b, o, .int .i64 kx), (b, o + 1, .string sx), (b, o + 2, .bool nx), (b, o + 3, .int .i64 lox), (b, o + 4, .int .i64 hix), (b, o + 5, .slice ax tsx.length cx), (b, o + 6, .int .i64 ky), (b, o + 7, .string sy), (b, o + 8, .bool ny), (b, o + 9, .int .i64 loy), (b, o + 10, .int .i64 hiy), (b, o + 11, .slice ay tsy.length cy)]) (W := (w.alloc (.cells #[.int .i64 4, .string s, .bool n, .int .i64 lo, .int .i64 hi, .slice (some ⟨b, o, none⟩) 2 cap] 26))) (by assumption)
    go_wp2_with fail
    go_ret
    exact ⟨ret_int (by rw [HE.out]; omega), (HB.out _).trans (hfin.mono (HB.out _).size)⟩
set_option maxRecDepth 100000 in
set_option maxHeartbeats 4000000 in
theorem ilK5 (s : ByteArray) (n : Bool) (lo hi : Int) (xx : RT) (h : ∀ u ∈ ([xx] : List RT), ilOne u) (hg : ∀ u ∈ ([xx] : List RT), RT.good u) (a : Option Addr) (cap : Nat) (w : World) (hk : Kids 0 w [xx] a) :
 Calls Tryd.prog 42 #[.agg #[.int .i64 5, .string s, .bool n, .int .i64 lo, .int .i64 hi, .slice a 1 cap]] w fun e w' => e = .returned (.int .i64 (RT.lst (.node 5 s n lo hi [xx]))) ∧ Below w.heap.size w w' := by
 obtain ⟨ax, cx, hex, hkx⟩ := hk.elem 0 (by simp)
 simp only [List.getElem_cons_zero] at hex hkx
 obtain ⟨b, o, rfl, _, hbl, ex0, ex1, ex2, ex3, ex4, ex5, _, _⟩ := hex
 have hx := h xx (by simp) (hg xx (by simp))
 obtain ⟨kx, sx, nx, lox, hix, tsx⟩ := xx
 simp only [RT.kind, RT.set, RT.neg, RT.low, RT.high, RT.kids, reV, Nat.zero_mul, Nat.add_zero] at *
 have HE := Lib.hid (show RT.lst (.node 5 s n lo hi [.node kx sx nx lox hix tsx]) = IntKind.i64.wrap (lo * RT.lst (.node kx sx nx lox hix tsx)) by rw [RT.lst]; simp [RT.lsts])
 have Cx : KidC 42 w kx sx nx lox hix tsx ax cx (RT.lst (.node kx sx nx lox hix tsx)) := ⟨fun W hW => hx ax cx W (hkx.kept (Nat.le_refl _) hW)⟩
 have HB := Lib.hid (show ∀ o, Below w.heap.size w (w.alloc o) from fun o => (Below.refl w.heap.size w).alloc (Nat.le_refl _) _)
 have hz : ∀ o, (w.alloc o).heap.size = w.heap.size + 1 := fun o => by simp
 have HH := Lib.hid (Held.start (W := (w.alloc (.cells #[.int .i64 5, .string s, .bool n, .int .i64 lo, .int .i64 hi, .slice (some ⟨b, o, none⟩) 1 cap] 26))) (l := [(w.heap.size, 0, .int .i64 5), (w.heap.size, 3, .int .i64 lo), (w.heap.size, 5, .slice (some ⟨b, o, none⟩) 1 cap), (b, o, .int .i64 kx), (b, o + 1, .string sx), (b, o + 2, .bool nx), (b, o + 3, .int .i64 lox), (b, o + 4, .int .i64 hix), (b, o + 5, .slice ax tsx.length cx)]) (by
  have ec : ∀ j, (w.alloc (.cells #[.int .i64 5, .string s, .bool n, .int .i64 lo, .int .i64 hi, .slice (some ⟨b, o, none⟩) 1 cap] 26)).cell? ⟨b, j, none⟩ = w.cell? ⟨b, j, none⟩ := fun j => (HB.out _).cell (p := ⟨b, j, none⟩) hbl
  refine ⟨?_, ?_, ?_, (ec _).trans ex0, (ec _).trans ex1, (ec _).trans ex2, (ec _).trans ex3, (ec _).trans ex4, (ec _).trans ex5, trivial⟩ <;> (rw [World.cell?_alloc_at _ _ _ _ rfl]; rfl)))
 clear h hg hk hx hkx ex0 ex1 ex2 ex3 ex4 ex5
 generalize RT.lst (.node kx sx nx lox hix tsx) = Lx at *
 generalize RT.lst (.node 5 s n lo hi [.node kx sx nx lox hix tsx]) = R at *
 go_enter Tryd.func42, Tryd.ntmps42
 go_wp2_with fail
 go_region_held3 (fun w' => (w'.cell? ⟨w.heap.size, 0, none⟩ = some (.int .i64 5) ∧ w'.cell? ⟨w.heap.size, 3, none⟩ = some (.int .i64 lo) ∧ w'.cell? ⟨w.heap.size, 5, none⟩ = some (.slice (some ⟨b, o, none⟩) 1 cap) ∧ w'.cell? ⟨b, o, none⟩ = some (.int .i64 kx) ∧ w'.cell? ⟨b, o + 1, none⟩ = some (.string sx) ∧ w'.cell? ⟨b, o + 2, none⟩ = some (.bool nx) ∧ w'.cell? ⟨b, o + 3, none⟩ = some (.int .i64 lox) ∧ w'.cell? ⟨b, o + 4, none⟩ = some (.int .i64 hix) ∧ w'.cell? ⟨b, o + 5, none⟩ = some (.slice ax tsx.length cx) ∧ True) ∧ Below (w.alloc (.cells #[.int .i64 5, .string s, .bool n, .int .i64 lo, .int .i64 hi, .slice (some ⟨b, o, none⟩) 1 cap] 26)).heap.size (w.alloc (.cells #[.int .i64 5, .string s, .bool n, .int .i64 lo, .int .i64 hi, .slice (some ⟨b, o, none⟩) 1 cap] 26)) w') (first | exact HH.out | assumption | exact Held.step (l := [(w.heap.size, 0, .int .i64 5), (w.heap.size, 3, .int .i64 lo), (w.heap.size, 5, .slice (some ⟨b, o, none⟩) 1 cap), (b, o, .int .i64 kx), (b, o + 1, .string sx), (b, o + 2, .bool nx), (b, o + 3, .int .i64 lox), (b, o + 4, .int .i64 hix), (b, o + 5, .slice ax tsx.length cx)]) (W := (w.alloc (.cells #[.int .i64 5, .string s, .bool n, .int .i64 lo, .int .i64 hi, .slice (some ⟨b, o, none⟩) 1 cap] 26))) (by assumption) (by assumption)) (first | (go_at_call 42; refine (KidC.call (F := 42) (w := w) (by assumption) _ ((HB.out _).trans (Below.mono (Held.below (l := [(w.heap.size, 0, .int .i64 5), (w.heap.size, 3, .int .i64 lo), (w.heap.size, 5, .slice (some ⟨b, o, none⟩) 1 cap), (b, o, .int .i64 kx), (b, o + 1, .string sx), (b, o + 2, .bool nx), (b, o + 3, .int .i64 lox), (b, o + 4, .int .i64 hix), (b, o + 5, .slice ax tsx.length cx)]) (W := (w.alloc (.cells #[.int .i64 5, .string s, .bool n, .int .i64 lo, .int .i64 hi, .slice (some ⟨b, o, none⟩) 1 cap] 26))) (by assumption)) (HB.out _).size))).mono ?_; rintro e wz ⟨rfl, hb⟩))
 all_goals
  have hfin := Held.below (l := [(w.heap.size, 0, .int .i64 5), (w.heap.size, 3, .int .i64 lo), (w.heap.size, 5, .slice (some ⟨b, o, none⟩) 1 cap), (b, o, .int .i64 kx), (b, o + 1, .string sx), (b, o + 2, .bool nx), (b, o + 3, .int .i64 lox), (b, o + 4, .int .i64 hix), (b, o + 5, .slice ax tsx.length cx)]) (W := (w.alloc (.cells #[.int .i64 5, .string s, .bool n, .int .i64 lo, .int .i64 hi, .slice (some ⟨b, o, none⟩) 1 cap] 26))) (by assumption)
  go_wp2_with fail
  go_ret
  exact ⟨ret_int HE.out.symm, (HB.out _).trans (hfin.mono (HB.out _).size)⟩
theorem ilOne_of {t : RT} (h : ∀ u ∈ t.kids, ilOne u) : ilOne t := by
 intro hg a cap w hk
 have ho := RT.good_own hg
 have hgk := RT.good_kids hg
 obtain ⟨k, s, n, lo, hi, ts⟩ := t
 rcases RT.own_shape ho with ⟨hk0, rfl⟩ | ⟨hk0, x, y, rfl⟩ | ⟨rfl, x, rfl⟩
 · rcases hk0 with rfl | rfl | rfl | rfl | rfl
   · exact ilK0 s n lo hi h hgk a cap w hk
   · exact ilK1 s n lo hi h hgk a cap w hk
   · exact ilK6 s n lo hi h hgk a cap w hk
   · exact ilK7 s n lo hi h hgk a cap w hk
   · exact ilK2 s n lo hi h hgk a cap w hk
 · rcases hk0 with rfl | rfl
   · exact ilK3 s n lo hi x y h hgk a cap w hk
   · exact ilK4 s n lo hi x y h hgk a cap w hk
 · exact ilK5 s n lo hi x h hgk a cap w hk
theorem ilAll : ∀ (N : Nat) (t : RT), RT.sz t ≤ N → ilOne t := by
 intro N
 induction N with
 | zero => intro t h; have := RT.sz_pos t; omega
 | succ N ih => intro t h; exact ilOne_of fun u hu => ih u (by have := RT.sz_kid t u hu; omega)
theorem il_any (t : RT) : ilOne t := ilAll _ t (Nat.le_refl _)
end Go.Proofs.YtppfnaenamcnpaaDoor.kit
