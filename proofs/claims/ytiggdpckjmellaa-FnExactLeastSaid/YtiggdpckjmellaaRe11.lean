/-
  Contracts of spec.l04Least, impl.leastOf, spec.Least and impl.Least over this seat's translation: how many bytes at least an expression means. Conditions: each theorem names its own.
-/
import Derived.Test.YtiggdpckjmellaaRe10
import Derived.Test.YtiggdpckjmellaaHeld
import Derived.Deep.RegionHeld3
namespace Go.Proofs.Ytiggdpckjmellaa.kit
open Go.ChangeShapes Go.WideShapes Go.ChangeAt Go.RowKit
set_option linter.unusedVariables false

mutual
/-- How many bytes at least, as the machine reckons. -/
def RT.lst : RT → Int
  | .node k s n lo hi ts => if k = 1 ∨ k = 2 then 1 else if k = 3 then IntKind.i64.wrap ((RT.lsts ts).getD 0 0 + (RT.lsts ts).getD 1 0) else if k = 4 then min ((RT.lsts ts).getD 0 0) ((RT.lsts ts).getD 1 0) else if k = 5 then IntKind.i64.wrap (lo * (RT.lsts ts).getD 0 0) else 0
def RT.lsts : List RT → List Int
  | [] => []
  | t :: ts => RT.lst t :: RT.lsts ts
end
/-- What a call of F over one kid answers, in whatever world that has changed nothing. -/
structure KidC (F : FuncId) (w : World) (k : Int) (s : ByteArray) (n : Bool) (lo hi : Int) (ts : List RT) (a : Option Addr) (c : Nat) (L : Int) : Prop where
  call : ∀ W, Below w.heap.size w W → Calls Try.prog F #[.agg #[.int .i64 k, .string s, .bool n, .int .i64 lo, .int .i64 hi, .slice a ts.length c]] W fun e w' => e = .returned (.int .i64 L) ∧ Below W.heap.size W w'
def RT.good (t : RT) : Prop := ∃ deep left : Int, 0 ≤ left ∧ 0 ≤ RT.pl t deep left
theorem RT.good_own {t : RT} (h : RT.good t) : RT.own t = true := by
  obtain ⟨d, l, h0, h1⟩ := h
  cases c : RT.own t
  · rw [RT.pl_no t d l (.inr (.inr c))] at h1; omega
  · rfl
theorem RT.good_kids {t : RT} (h : RT.good t) (u : RT) (hu : u ∈ t.kids) : RT.good u := by
  have ho := RT.good_own h
  obtain ⟨d, l, h0, h1⟩ := h
  have hc : ¬ (l = 0 ∨ 12 < d ∨ RT.own t = false) := by
    intro c; rw [RT.pl_no t d l c] at h1; omega
  rw [RT.pl_go t d l hc] at h1
  have hk := RT.own_kids t ho
  have hl : 0 ≤ l - 1 := by
    have : l ≠ 0 := fun e => hc (.inl e)
    omega
  match hts : t.kids, hk with
  | [], _ => rw [hts] at hu; cases hu
  | [a], _ =>
    rw [hts] at hu h1
    simp only [List.mem_singleton] at hu
    subst hu
    simp only [RT.pls, if_true] at h1
    by_cases c : RT.pl u (d + 1) (l - 1) < 0
    · rw [if_pos c] at h1; omega
    · exact ⟨d + 1, l - 1, hl, by omega⟩
  | [a, b], _ =>
    rw [hts] at hu h1
    simp only [RT.pls, if_true] at h1
    by_cases c : RT.pl a (d + 1) (l - 1) < 0
    · rw [if_pos c] at h1; omega
    · rw [if_neg c] at h1
      have e1 : ((0 : Nat) + 1 = 0) = False := by simp
      simp only [e1, if_false] at h1
      by_cases c2 : RT.pl b d (RT.pl a (d + 1) (l - 1)) < 0
      · rw [if_pos c2] at h1; omega
      · rcases List.mem_cons.1 hu with rfl | hu
        · exact ⟨d + 1, l - 1, hl, by omega⟩
        · simp only [List.mem_singleton] at hu
          subst hu
          exact ⟨d, RT.pl a (d + 1) (l - 1), by omega, by omega⟩
theorem RT.ok_good {t : RT} (h : RT.ok t = true) : RT.good t := ⟨0, 200, by omega, by simpa [RT.ok] using h⟩
/-- The shapes of a right one. -/
theorem RT.own_shape {k : Int} {s : ByteArray} {n : Bool} {lo hi : Int} {ts : List RT} (h : RT.own (.node k s n lo hi ts) = true) :
    ((k = 0 ∨ k = 1 ∨ k = 6 ∨ k = 7 ∨ k = 2) ∧ ts = []) ∨ ((k = 3 ∨ k = 4) ∧ ∃ x y, ts = [x, y]) ∨ (k = 5 ∧ ∃ x, ts = [x]) := by
  rw [own_eq] at h
  unfold ownB at h
  have hz : ∀ m : Int, ((ts.length : Int) == m) = true → (ts.length : Int) = m := fun m h => by simpa using h
  by_cases a1 : (k == 0 || k == 1 || k == 6 || k == 7) = true
  · rw [if_pos a1] at h
    simp only [Bool.and_eq_true] at h
    have h1 := hz 0 h.2
    simp only [Bool.or_eq_true, beq_iff_eq] at a1
    exact .inl ⟨by omega, List.length_eq_zero_iff.1 (by omega)⟩
  · rw [if_neg a1] at h
    by_cases a2 : (k == 2) = true
    · rw [if_pos a2] at h
      simp only [Bool.and_eq_true] at h
      have h1 := hz 0 h.2
      simp only [beq_iff_eq] at a2
      exact .inl ⟨by omega, List.length_eq_zero_iff.1 (by omega)⟩
    · rw [if_neg a2] at h
      by_cases a3 : (k == 3 || k == 4) = true
      · rw [if_pos a3] at h
        simp only [Bool.and_eq_true] at h
        have h1 := hz 2 h.2
        simp only [Bool.or_eq_true, beq_iff_eq] at a3
        refine .inr (.inl ⟨a3, ?_⟩)
        match ts, h1 with
        | [x, y], _ => exact ⟨x, y, rfl⟩
        | [], h1 => simp at h1
        | [x], h1 => simp at h1
        | x :: y :: z :: l, h1 => simp at h1; omega
      · rw [if_neg a3] at h
        by_cases a4 : (k == 5) = true
        · rw [if_pos a4] at h
          simp only [Bool.and_eq_true, decide_eq_true_eq] at h
          have h1 := h.1.1.2
          simp only [beq_iff_eq] at a4
          refine .inr (.inr ⟨a4, ?_⟩)
          match ts, h1 with
          | [x], _ => exact ⟨x, rfl⟩
          | [], h1 => simp at h1
          | x :: y :: l, h1 => simp at h1; omega
        · rw [if_neg a4] at h
          cases h
def slOne (t : RT) : Prop := RT.good t → ∀ (a : Option Addr) (cap : Nat) (w : World), Kids 0 w t.kids a →
  Calls Try.prog 69 #[reV t a cap] w fun e w' => e = .returned (.int .i64 (RT.lst t)) ∧ Below w.heap.size w w'
set_option maxRecDepth 100000 in
set_option maxHeartbeats 4000000 in
theorem slK0 (s : ByteArray) (n : Bool) (lo hi : Int) (h : ∀ u ∈ ([] : List RT), slOne u) (hg : ∀ u ∈ ([] : List RT), RT.good u) (a : Option Addr) (cap : Nat) (w : World) (hk : Kids 0 w [] a) :
    Calls Try.prog 69 #[.agg #[.int .i64 0, .string s, .bool n, .int .i64 lo, .int .i64 hi, .slice a 0 cap]] w fun e w' => e = .returned (.int .i64 (RT.lst (.node 0 s n lo hi []))) ∧ Below w.heap.size w w' := by
  have HB := Lib.hid (show ∀ o, Below w.heap.size w (w.alloc o) from fun o => (Below.refl w.heap.size w).alloc (Nat.le_refl _) _)
  have HE := Lib.hid (show RT.lst (.node 0 s n lo hi []) = 0 by simp [RT.lst])
  clear h hg hk
  go_enter Try.func69, Try.ntmps69
  go_wp2_with fail
  go_ret
  exact ⟨ret_int HE.out.symm, HB.out _⟩
set_option maxRecDepth 100000 in
set_option maxHeartbeats 4000000 in
theorem slK1 (s : ByteArray) (n : Bool) (lo hi : Int) (h : ∀ u ∈ ([] : List RT), slOne u) (hg : ∀ u ∈ ([] : List RT), RT.good u) (a : Option Addr) (cap : Nat) (w : World) (hk : Kids 0 w [] a) :
    Calls Try.prog 69 #[.agg #[.int .i64 1, .string s, .bool n, .int .i64 lo, .int .i64 hi, .slice a 0 cap]] w fun e w' => e = .returned (.int .i64 (RT.lst (.node 1 s n lo hi []))) ∧ Below w.heap.size w w' := by
  have HB := Lib.hid (show ∀ o, Below w.heap.size w (w.alloc o) from fun o => (Below.refl w.heap.size w).alloc (Nat.le_refl _) _)
  have HE := Lib.hid (show RT.lst (.node 1 s n lo hi []) = 1 by simp [RT.lst])
  clear h hg hk
  go_enter Try.func69, Try.ntmps69
  go_wp2_with fail
  go_ret
  exact ⟨ret_int HE.out.symm, HB.out _⟩
set_option maxRecDepth 100000 in
set_option maxHeartbeats 4000000 in
theorem slK6 (s : ByteArray) (n : Bool) (lo hi : Int) (h : ∀ u ∈ ([] : List RT), slOne u) (hg : ∀ u ∈ ([] : List RT), RT.good u) (a : Option Addr) (cap : Nat) (w : World) (hk : Kids 0 w [] a) :
    Calls Try.prog 69 #[.agg #[.int .i64 6, .string s, .bool n, .int .i64 lo, .int .i64 hi, .slice a 0 cap]] w fun e w' => e = .returned (.int .i64 (RT.lst (.node 6 s n lo hi []))) ∧ Below w.heap.size w w' := by
  have HB := Lib.hid (show ∀ o, Below w.heap.size w (w.alloc o) from fun o => (Below.refl w.heap.size w).alloc (Nat.le_refl _) _)
  have HE := Lib.hid (show RT.lst (.node 6 s n lo hi []) = 0 by simp [RT.lst])
  clear h hg hk
  go_enter Try.func69, Try.ntmps69
  go_wp2_with fail
  go_ret
  exact ⟨ret_int HE.out.symm, HB.out _⟩
set_option maxRecDepth 100000 in
set_option maxHeartbeats 4000000 in
theorem slK7 (s : ByteArray) (n : Bool) (lo hi : Int) (h : ∀ u ∈ ([] : List RT), slOne u) (hg : ∀ u ∈ ([] : List RT), RT.good u) (a : Option Addr) (cap : Nat) (w : World) (hk : Kids 0 w [] a) :
    Calls Try.prog 69 #[.agg #[.int .i64 7, .string s, .bool n, .int .i64 lo, .int .i64 hi, .slice a 0 cap]] w fun e w' => e = .returned (.int .i64 (RT.lst (.node 7 s n lo hi []))) ∧ Below w.heap.size w w' := by
  have HB := Lib.hid (show ∀ o, Below w.heap.size w (w.alloc o) from fun o => (Below.refl w.heap.size w).alloc (Nat.le_refl _) _)
  have HE := Lib.hid (show RT.lst (.node 7 s n lo hi []) = 0 by simp [RT.lst])
  clear h hg hk
  go_enter Try.func69, Try.ntmps69
  go_wp2_with fail
  go_ret
  exact ⟨ret_int HE.out.symm, HB.out _⟩
set_option maxRecDepth 100000 in
set_option maxHeartbeats 4000000 in
theorem slK2 (s : ByteArray) (n : Bool) (lo hi : Int) (h : ∀ u ∈ ([] : List RT), slOne u) (hg : ∀ u ∈ ([] : List RT), RT.good u) (a : Option Addr) (cap : Nat) (w : World) (hk : Kids 0 w [] a) :
    Calls Try.prog 69 #[.agg #[.int .i64 2, .string s, .bool n, .int .i64 lo, .int .i64 hi, .slice a 0 cap]] w fun e w' => e = .returned (.int .i64 (RT.lst (.node 2 s n lo hi []))) ∧ Below w.heap.size w w' := by
  have HB := Lib.hid (show ∀ o, Below w.heap.size w (w.alloc o) from fun o => (Below.refl w.heap.size w).alloc (Nat.le_refl _) _)
  have HE := Lib.hid (show RT.lst (.node 2 s n lo hi []) = 1 by simp [RT.lst])
  clear h hg hk
  go_enter Try.func69, Try.ntmps69
  go_wp2_with fail
  go_ret
  exact ⟨ret_int HE.out.symm, HB.out _⟩
set_option maxRecDepth 100000 in
set_option maxHeartbeats 4000000 in
theorem slK3 (s : ByteArray) (n : Bool) (lo hi : Int) (xx : RT) (xy : RT) (h : ∀ u ∈ ([xx, xy] : List RT), slOne u) (hg : ∀ u ∈ ([xx, xy] : List RT), RT.good u) (a : Option Addr) (cap : Nat) (w : World) (hk : Kids 0 w [xx, xy] a) :
    Calls Try.prog 69 #[.agg #[.int .i64 3, .string s, .bool n, .int .i64 lo, .int .i64 hi, .slice a 2 cap]] w fun e w' => e = .returned (.int .i64 (RT.lst (.node 3 s n lo hi [xx, xy]))) ∧ Below w.heap.size w w' := by
  obtain ⟨ax, cx, hex, hkx⟩ := hk.elem 0 (by simp)
  obtain ⟨ay, cy, hey, hky⟩ := hk.elem 1 (by simp)
  simp only [List.getElem_cons_zero, List.getElem_cons_succ] at hex hkx hey hky
  obtain ⟨b, o, rfl, _, hbl, ex0, ex1, ex2, ex3, ex4, ex5, _, _⟩ := hex
  obtain ⟨b2, o2, e2, _, _, ey0, ey1, ey2, ey3, ey4, ey5, _, _⟩ := hey
  cases e2
  have hx := h xx (by simp) (hg xx (by simp))
  have hy := h xy (by simp) (hg xy (by simp))
  obtain ⟨kx, sx, nx, lox, hix, tsx⟩ := xx
  obtain ⟨ky, sy, ny, loy, hiy, tsy⟩ := xy
  simp only [RT.kind, RT.set, RT.neg, RT.low, RT.high, RT.kids, reV, Nat.zero_mul, Nat.add_zero, Nat.one_mul, Nat.add_assoc, Nat.reduceAdd] at *
  have HE := Lib.hid (show RT.lst (.node 3 s n lo hi [.node kx sx nx lox hix tsx, .node ky sy ny loy hiy tsy]) = IntKind.i64.wrap (RT.lst (.node kx sx nx lox hix tsx) + RT.lst (.node ky sy ny loy hiy tsy)) by rw [RT.lst]; simp [RT.lsts])
  have Cx : KidC 69 w kx sx nx lox hix tsx ax cx (RT.lst (.node kx sx nx lox hix tsx)) := ⟨fun W hW => hx ax cx W (hkx.kept (Nat.le_refl _) hW)⟩
  have Cy : KidC 69 w ky sy ny loy hiy tsy ay cy (RT.lst (.node ky sy ny loy hiy tsy)) := ⟨fun W hW => hy ay cy W (hky.kept (Nat.le_refl _) hW)⟩
  have HB := Lib.hid (show ∀ o, Below w.heap.size w (w.alloc o) from fun o => (Below.refl w.heap.size w).alloc (Nat.le_refl _) _)
  have hz : ∀ o, (w.alloc o).heap.size = w.heap.size + 1 := fun o => by simp
  have HH := Lib.hid (Held.start (W := (w.alloc (.cells #[.int .i64 3, .string s, .bool n, .int .i64 lo, .int .i64 hi, .slice (some ⟨b, o, none⟩) 2 cap] 45))) (l := [(w.heap.size, 0, .int .i64 3), (w.heap.size, 3, .int .i64 lo), (w.heap.size, 5, .slice (some ⟨b, o, none⟩) 2 cap), (b, o, .int .i64 kx), (b, o + 1, .string sx), (b, o + 2, .bool nx), (b, o + 3, .int .i64 lox), (b, o + 4, .int .i64 hix), (b, o + 5, .slice ax tsx.length cx), (b, o + 6, .int .i64 ky), (b, o + 7, .string sy), (b, o + 8, .bool ny), (b, o + 9, .int .i64 loy), (b, o + 10, .int .i64 hiy), (b, o + 11, .slice ay tsy.length cy)]) (by
    have ec : ∀ j, (w.alloc (.cells #[.int .i64 3, .string s, .bool n, .int .i64 lo, .int .i64 hi, .slice (some ⟨b, o, none⟩) 2 cap] 45)).cell? ⟨b, j, none⟩ = w.cell? ⟨b, j, none⟩ := fun j => (HB.out _).cell (p := ⟨b, j, none⟩) hbl
    refine ⟨?_, ?_, ?_, (ec _).trans ex0, (ec _).trans ex1, (ec _).trans ex2, (ec _).trans ex3, (ec _).trans ex4, (ec _).trans ex5, (ec _).trans ey0, (ec _).trans ey1, (ec _).trans ey2, (ec _).trans ey3, (ec _).trans ey4, (ec _).trans ey5, trivial⟩ <;> (rw [World.cell?_alloc_at _ _ _ _ rfl]; rfl)))
  clear h hg hk hx hkx hy hky ex0 ex1 ex2 ex3 ex4 ex5 ey0 ey1 ey2 ey3 ey4 ey5
  generalize RT.lst (.node kx sx nx lox hix tsx) = Lx at *
  generalize RT.lst (.node ky sy ny loy hiy tsy) = Ly at *
  generalize RT.lst (.node 3 s n lo hi [.node kx sx nx lox hix tsx, .node ky sy ny loy hiy tsy]) = R at *
  go_enter Try.func69, Try.ntmps69
  go_wp2_with fail
  go_region_held3 (fun w' => (w'.cell? ⟨w.heap.size, 0, none⟩ = some (.int .i64 3) ∧ w'.cell? ⟨w.heap.size, 3, none⟩ = some (.int .i64 lo) ∧ w'.cell? ⟨w.heap.size, 5, none⟩ = some (.slice (some ⟨b, o, none⟩) 2 cap) ∧ w'.cell? ⟨b, o, none⟩ = some (.int .i64 kx) ∧ w'.cell? ⟨b, o + 1, none⟩ = some (.string sx) ∧ w'.cell? ⟨b, o + 2, none⟩ = some (.bool nx) ∧ w'.cell? ⟨b, o + 3, none⟩ = some (.int .i64 lox) ∧ w'.cell? ⟨b, o + 4, none⟩ = some (.int .i64 hix) ∧ w'.cell? ⟨b, o + 5, none⟩ = some (.slice ax tsx.length cx) ∧ w'.cell? ⟨b, o + 6, none⟩ = some (.int .i64 ky) ∧ w'.cell? ⟨b, o + 7, none⟩ = some (.string sy) ∧ w'.cell? ⟨b, o + 8, none⟩ = some (.bool ny) ∧ w'.cell? ⟨b, o + 9, none⟩ = some (.int .i64 loy) ∧ w'.cell? ⟨b, o + 10, none⟩ = some (.int .i64 hiy) ∧ w'.cell? ⟨b, o + 11, none⟩ = some (.slice ay tsy.length cy) ∧ True) ∧ Below (w.alloc (.cells #[.int .i64 3, .string s, .bool n, .int .i64 lo, .int .i64 hi, .slice (some ⟨b, o, none⟩) 2 cap] 45)).heap.size (w.alloc (.cells #[.int .i64 3, .string s, .bool n, .int .i64 lo, .int .i64 hi, .slice (some ⟨b, o, none⟩) 2 cap] 45)) w') (first | exact HH.out | assumption | exact Held.step (l := [(w.heap.size, 0, .int .i64 3), (w.heap.size, 3, .int .i64 lo), (w.heap.size, 5, .slice (some ⟨b, o, none⟩) 2 cap), (b, o, .int .i64 kx), (b, o + 1, .string sx), (b, o + 2, .bool nx), (b, o + 3, .int .i64 lox), (b, o + 4, .int .i64 hix), (b, o + 5, .slice ax tsx.length cx), (b, o + 6, .int .i64 ky), (b, o + 7, .string sy), (b, o + 8, .bool ny), (b, o + 9, .int .i64 loy), (b, o + 10, .int .i64 hiy), (b, o + 11, .slice ay tsy.length cy)]) (W := (w.alloc (.cells #[.int .i64 3, .string s, .bool n, .int .i64 lo, .int .i64 hi, .slice (some ⟨b, o, none⟩) 2 cap] 45))) (by assumption) (by assumption)) (first | (go_at_call 69; refine (KidC.call (F := 69) (w := w) (by assumption) _ ((HB.out _).trans (Below.mono (Held.below (l := [(w.heap.size, 0, .int .i64 3), (w.heap.size, 3, .int .i64 lo), (w.heap.size, 5, .slice (some ⟨b, o, none⟩) 2 cap), (b, o, .int .i64 kx), (b, o + 1, .string sx), (b, o + 2, .bool nx), (b, o + 3, .int .i64 lox), (b, o + 4, .int .i64 hix), (b, o + 5, .slice ax tsx.length cx), (b, o + 6, .int .i64 ky), (b, o + 7, .string sy), (b, o + 8, .bool ny), (b, o + 9, .int .i64 loy), (b, o + 10, .int .i64 hiy), (b, o + 11, .slice ay tsy.length cy)]) (W := (w.alloc (.cells #[.int .i64 3, .string s, .bool n, .int .i64 lo, .int .i64 hi, .slice (some ⟨b, o, none⟩) 2 cap] 45))) (by assumption)) (HB.out _).size))).mono ?_; rintro e wz ⟨rfl, hb⟩))
  all_goals
    have hfin := Held.below (l := [(w.heap.size, 0, .int .i64 3), (w.heap.size, 3, .int .i64 lo), (w.heap.size, 5, .slice (some ⟨b, o, none⟩) 2 cap), (b, o, .int .i64 kx), (b, o + 1, .string sx), (b, o + 2, .bool nx), (b, o + 3, .int .i64 lox), (b, o + 4, .int .i64 hix), (b, o + 5, .slice ax tsx.length cx), (b, o + 6, .int .i64 ky), (b, o + 7, .string sy), (b, o + 8, .bool ny), (b, o + 9, .int .i64 loy), (b, o + 10, .int .i64 hiy), (b, o + 11, .slice ay tsy.length cy)]) (W := (w.alloc (.cells #[.int .i64 3, .string s, .bool n, .int .i64 lo, .int .i64 hi, .slice (some ⟨b, o, none⟩) 2 cap] 45))) (by assumption)
    go_wp2_with fail
    go_ret
    exact ⟨ret_int HE.out.symm, (HB.out _).trans (hfin.mono (HB.out _).size)⟩
set_option maxRecDepth 100000 in
set_option maxHeartbeats 4000000 in
theorem slK4 (s : ByteArray) (n : Bool) (lo hi : Int) (xx : RT) (xy : RT) (h : ∀ u ∈ ([xx, xy] : List RT), slOne u) (hg : ∀ u ∈ ([xx, xy] : List RT), RT.good u) (a : Option Addr) (cap : Nat) (w : World) (hk : Kids 0 w [xx, xy] a) :
    Calls Try.prog 69 #[.agg #[.int .i64 4, .string s, .bool n, .int .i64 lo, .int .i64 hi, .slice a 2 cap]] w fun e w' => e = .returned (.int .i64 (RT.lst (.node 4 s n lo hi [xx, xy]))) ∧ Below w.heap.size w w' := by
  obtain ⟨ax, cx, hex, hkx⟩ := hk.elem 0 (by simp)
  obtain ⟨ay, cy, hey, hky⟩ := hk.elem 1 (by simp)
  simp only [List.getElem_cons_zero, List.getElem_cons_succ] at hex hkx hey hky
  obtain ⟨b, o, rfl, _, hbl, ex0, ex1, ex2, ex3, ex4, ex5, _, _⟩ := hex
  obtain ⟨b2, o2, e2, _, _, ey0, ey1, ey2, ey3, ey4, ey5, _, _⟩ := hey
  cases e2
  have hx := h xx (by simp) (hg xx (by simp))
  have hy := h xy (by simp) (hg xy (by simp))
  obtain ⟨kx, sx, nx, lox, hix, tsx⟩ := xx
  obtain ⟨ky, sy, ny, loy, hiy, tsy⟩ := xy
  simp only [RT.kind, RT.set, RT.neg, RT.low, RT.high, RT.kids, reV, Nat.zero_mul, Nat.add_zero, Nat.one_mul, Nat.add_assoc, Nat.reduceAdd] at *
  have HE := Lib.hid (show RT.lst (.node 4 s n lo hi [.node kx sx nx lox hix tsx, .node ky sy ny loy hiy tsy]) = min (RT.lst (.node kx sx nx lox hix tsx)) (RT.lst (.node ky sy ny loy hiy tsy)) by rw [RT.lst]; simp [RT.lsts])
  have Cx : KidC 69 w kx sx nx lox hix tsx ax cx (RT.lst (.node kx sx nx lox hix tsx)) := ⟨fun W hW => hx ax cx W (hkx.kept (Nat.le_refl _) hW)⟩
  have Cy : KidC 69 w ky sy ny loy hiy tsy ay cy (RT.lst (.node ky sy ny loy hiy tsy)) := ⟨fun W hW => hy ay cy W (hky.kept (Nat.le_refl _) hW)⟩
  have HB := Lib.hid (show ∀ o, Below w.heap.size w (w.alloc o) from fun o => (Below.refl w.heap.size w).alloc (Nat.le_refl _) _)
  have hz : ∀ o, (w.alloc o).heap.size = w.heap.size + 1 := fun o => by simp
  have HH := Lib.hid (Held.start (W := (w.alloc (.cells #[.int .i64 4, .string s, .bool n, .int .i64 lo, .int .i64 hi, .slice (some ⟨b, o, none⟩) 2 cap] 45))) (l := [(w.heap.size, 0, .int .i64 4), (w.heap.size, 3, .int .i64 lo), (w.heap.size, 5, .slice (some ⟨b, o, none⟩) 2 cap), (b, o, .int .i64 kx), (b, o + 1, .string sx), (b, o + 2, .bool nx), (b, o + 3, .int .i64 lox), (b, o + 4, .int .i64 hix), (b, o + 5, .slice ax tsx.length cx), (b, o + 6, .int .i64 ky), (b, o + 7, .string sy), (b, o + 8, .bool ny), (b, o + 9, .int .i64 loy), (b, o + 10, .int .i64 hiy), (b, o + 11, .slice ay tsy.length cy)]) (by
    have ec : ∀ j, (w.alloc (.cells #[.int .i64 4, .string s, .bool n, .int .i64 lo, .int .i64 hi, .slice (some ⟨b, o, none⟩) 2 cap] 45)).cell? ⟨b, j, none⟩ = w.cell? ⟨b, j, none⟩ := fun j => (HB.out _).cell (p := ⟨b, j, none⟩) hbl
    refine ⟨?_, ?_, ?_, (ec _).trans ex0, (ec _).trans ex1, (ec _).trans ex2, (ec _).trans ex3, (ec _).trans ex4, (ec _).trans ex5, (ec _).trans ey0, (ec _).trans ey1, (ec _).trans ey2, (ec _).trans ey3, (ec _).trans ey4, (ec _).trans ey5, trivial⟩ <;> (rw [World.cell?_alloc_at _ _ _ _ rfl]; rfl)))
  clear h hg hk hx hkx hy hky ex0 ex1 ex2 ex3 ex4 ex5 ey0 ey1 ey2 ey3 ey4 ey5
  generalize RT.lst (.node kx sx nx lox hix tsx) = Lx at *
  generalize RT.lst (.node ky sy ny loy hiy tsy) = Ly at *
  generalize RT.lst (.node 4 s n lo hi [.node kx sx nx lox hix tsx, .node ky sy ny loy hiy tsy]) = R at *
  go_enter Try.func69, Try.ntmps69
  go_wp2_with fail
  go_region_held3 (fun w' => (w'.cell? ⟨w.heap.size, 0, none⟩ = some (.int .i64 4) ∧ w'.cell? ⟨w.heap.size, 3, none⟩ = some (.int .i64 lo) ∧ w'.cell? ⟨w.heap.size, 5, none⟩ = some (.slice (some ⟨b, o, none⟩) 2 cap) ∧ w'.cell? ⟨b, o, none⟩ = some (.int .i64 kx) ∧ w'.cell? ⟨b, o + 1, none⟩ = some (.string sx) ∧ w'.cell? ⟨b, o + 2, none⟩ = some (.bool nx) ∧ w'.cell? ⟨b, o + 3, none⟩ = some (.int .i64 lox) ∧ w'.cell? ⟨b, o + 4, none⟩ = some (.int .i64 hix) ∧ w'.cell? ⟨b, o + 5, none⟩ = some (.slice ax tsx.length cx) ∧ w'.cell? ⟨b, o + 6, none⟩ = some (.int .i64 ky) ∧ w'.cell? ⟨b, o + 7, none⟩ = some (.string sy) ∧ w'.cell? ⟨b, o + 8, none⟩ = some (.bool ny) ∧ w'.cell? ⟨b, o + 9, none⟩ = some (.int .i64 loy) ∧ w'.cell? ⟨b, o + 10, none⟩ = some (.int .i64 hiy) ∧ w'.cell? ⟨b, o + 11, none⟩ = some (.slice ay tsy.length cy) ∧ True) ∧ Below (w.alloc (.cells #[.int .i64 4, .string s, .bool n, .int .i64 lo, .int .i64 hi, .slice (some ⟨b, o, none⟩) 2 cap] 45)).heap.size (w.alloc (.cells #[.int .i64 4, .string s, .bool n, .int .i64 lo, .int .i64 hi, .slice (some ⟨b, o, none⟩) 2 cap] 45)) w') (first | exact HH.out | assumption | exact Held.step (l := [(w.heap.size, 0, .int .i64 4), (w.heap.size, 3, .int .i64 lo), (w.heap.size, 5, .slice (some ⟨b, o, none⟩) 2 cap), (b, o, .int .i64 kx), (b, o + 1, .string sx), (b, o + 2, .bool nx), (b, o + 3, .int .i64 lox), (b, o + 4, .int .i64 hix), (b, o + 5, .slice ax tsx.length cx), (b, o + 6, .int .i64 ky), (b, o + 7, .string sy), (b, o + 8, .bool ny), (b, o + 9, .int .i64 loy), (b, o + 10, .int .i64 hiy), (b, o + 11, .slice ay tsy.length cy)]) (W := (w.alloc (.cells #[.int .i64 4, .string s, .bool n, .int .i64 lo, .int .i64 hi, .slice (some ⟨b, o, none⟩) 2 cap] 45))) (by assumption) (by assumption)) (first | (go_at_call 69; refine (KidC.call (F := 69) (w := w) (by assumption) _ ((HB.out _).trans (Below.mono (Held.below (l := [(w.heap.size, 0, .int .i64 4), (w.heap.size, 3, .int .i64 lo), (w.heap.size, 5, .slice (some ⟨b, o, none⟩) 2 cap), (b, o, .int .i64 kx), (b, o + 1, .string sx), (b, o + 2, .bool nx), (b, o + 3, .int .i64 lox), (b, o + 4, .int .i64 hix), (b, o + 5, .slice ax tsx.length cx), (b, o + 6, .int .i64 ky), (b, o + 7, .string sy), (b, o + 8, .bool ny), (b, o + 9, .int .i64 loy), (b, o + 10, .int .i64 hiy), (b, o + 11, .slice ay tsy.length cy)]) (W := (w.alloc (.cells #[.int .i64 4, .string s, .bool n, .int .i64 lo, .int .i64 hi, .slice (some ⟨b, o, none⟩) 2 cap] 45))) (by assumption)) (HB.out _).size))).mono ?_; rintro e wz ⟨rfl, hb⟩))
  all_goals
    have hfin := Held.below (l := [(w.heap.size, 0, .int .i64 4), (w.heap.size, 3, .int .i64 lo), (w.heap.size, 5, .slice (some ⟨b, o, none⟩) 2 cap), (b, o, .int .i64 kx), (b, o + 1, .string sx), (b, o + 2, .bool nx), (b, o + 3, .int .i64 lox), (b, o + 4, .int .i64 hix), (b, o + 5, .slice ax tsx.length cx), (b, o + 6, .int .i64 ky), (b, o + 7, .string sy), (b, o + 8, .bool ny), (b, o + 9, .int .i64 loy), (b, o + 10, .int .i64 hiy), (b, o + 11, .slice ay tsy.length cy)]) (W := (w.alloc (.cells #[.int .i64 4, .string s, .bool n, .int .i64 lo, .int .i64 hi, .slice (some ⟨b, o, none⟩) 2 cap] 45))) (by assumption)
    by_cases hm : Lx < Ly
    · go_wp2_with fail
      go_ret
      exact ⟨ret_int (by rw [HE.out]; omega), (HB.out _).trans (hfin.mono (HB.out _).size)⟩
    · go_wp2_with fail
      go_ret
      exact ⟨ret_int (by rw [HE.out]; omega), (HB.out _).trans (hfin.mono (HB.out _).size)⟩
set_option maxRecDepth 100000 in
set_option maxHeartbeats 4000000 in
theorem slK5 (s : ByteArray) (n : Bool) (lo hi : Int) (xx : RT) (h : ∀ u ∈ ([xx] : List RT), slOne u) (hg : ∀ u ∈ ([xx] : List RT), RT.good u) (a : Option Addr) (cap : Nat) (w : World) (hk : Kids 0 w [xx] a) :
    Calls Try.prog 69 #[.agg #[.int .i64 5, .string s, .bool n, .int .i64 lo, .int .i64 hi, .slice a 1 cap]] w fun e w' => e = .returned (.int .i64 (RT.lst (.node 5 s n lo hi [xx]))) ∧ Below w.heap.size w w' := by
  obtain ⟨ax, cx, hex, hkx⟩ := hk.elem 0 (by simp)
  simp only [List.getElem_cons_zero] at hex hkx
  obtain ⟨b, o, rfl, _, hbl, ex0, ex1, ex2, ex3, ex4, ex5, _, _⟩ := hex
  have hx := h xx (by simp) (hg xx (by simp))
  obtain ⟨kx, sx, nx, lox, hix, tsx⟩ := xx
  simp only [RT.kind, RT.set, RT.neg, RT.low, RT.high, RT.kids, reV, Nat.zero_mul, Nat.add_zero] at *
  have HE := Lib.hid (show RT.lst (.node 5 s n lo hi [.node kx sx nx lox hix tsx]) = IntKind.i64.wrap (lo * RT.lst (.node kx sx nx lox hix tsx)) by rw [RT.lst]; simp [RT.lsts])
  have Cx : KidC 69 w kx sx nx lox hix tsx ax cx (RT.lst (.node kx sx nx lox hix tsx)) := ⟨fun W hW => hx ax cx W (hkx.kept (Nat.le_refl _) hW)⟩
  have HB := Lib.hid (show ∀ o, Below w.heap.size w (w.alloc o) from fun o => (Below.refl w.heap.size w).alloc (Nat.le_refl _) _)
  have hz : ∀ o, (w.alloc o).heap.size = w.heap.size + 1 := fun o => by simp
  have HH := Lib.hid (Held.start (W := (w.alloc (.cells #[.int .i64 5, .string s, .bool n, .int .i64 lo, .int .i64 hi, .slice (some ⟨b, o, none⟩) 1 cap] 45))) (l := [(w.heap.size, 0, .int .i64 5), (w.heap.size, 3, .int .i64 lo), (w.heap.size, 5, .slice (some ⟨b, o, none⟩) 1 cap), (b, o, .int .i64 kx), (b, o + 1, .string sx), (b, o + 2, .bool nx), (b, o + 3, .int .i64 lox), (b, o + 4, .int .i64 hix), (b, o + 5, .slice ax tsx.length cx)]) (by
    have ec : ∀ j, (w.alloc (.cells #[.int .i64 5, .string s, .bool n, .int .i64 lo, .int .i64 hi, .slice (some ⟨b, o, none⟩) 1 cap] 45)).cell? ⟨b, j, none⟩ = w.cell? ⟨b, j, none⟩ := fun j => (HB.out _).cell (p := ⟨b, j, none⟩) hbl
    refine ⟨?_, ?_, ?_, (ec _).trans ex0, (ec _).trans ex1, (ec _).trans ex2, (ec _).trans ex3, (ec _).trans ex4, (ec _).trans ex5, trivial⟩ <;> (rw [World.cell?_alloc_at _ _ _ _ rfl]; rfl)))
  clear h hg hk hx hkx ex0 ex1 ex2 ex3 ex4 ex5
  generalize RT.lst (.node kx sx nx lox hix tsx) = Lx at *
  generalize RT.lst (.node 5 s n lo hi [.node kx sx nx lox hix tsx]) = R at *
  go_enter Try.func69, Try.ntmps69
  go_wp2_with fail
  go_region_held3 (fun w' => (w'.cell? ⟨w.heap.size, 0, none⟩ = some (.int .i64 5) ∧ w'.cell? ⟨w.heap.size, 3, none⟩ = some (.int .i64 lo) ∧ w'.cell? ⟨w.heap.size, 5, none⟩ = some (.slice (some ⟨b, o, none⟩) 1 cap) ∧ w'.cell? ⟨b, o, none⟩ = some (.int .i64 kx) ∧ w'.cell? ⟨b, o + 1, none⟩ = some (.string sx) ∧ w'.cell? ⟨b, o + 2, none⟩ = some (.bool nx) ∧ w'.cell? ⟨b, o + 3, none⟩ = some (.int .i64 lox) ∧ w'.cell? ⟨b, o + 4, none⟩ = some (.int .i64 hix) ∧ w'.cell? ⟨b, o + 5, none⟩ = some (.slice ax tsx.length cx) ∧ True) ∧ Below (w.alloc (.cells #[.int .i64 5, .string s, .bool n, .int .i64 lo, .int .i64 hi, .slice (some ⟨b, o, none⟩) 1 cap] 45)).heap.size (w.alloc (.cells #[.int .i64 5, .string s, .bool n, .int .i64 lo, .int .i64 hi, .slice (some ⟨b, o, none⟩) 1 cap] 45)) w') (first | exact HH.out | assumption | exact Held.step (l := [(w.heap.size, 0, .int .i64 5), (w.heap.size, 3, .int .i64 lo), (w.heap.size, 5, .slice (some ⟨b, o, none⟩) 1 cap), (b, o, .int .i64 kx), (b, o + 1, .string sx), (b, o + 2, .bool nx), (b, o + 3, .int .i64 lox), (b, o + 4, .int .i64 hix), (b, o + 5, .slice ax tsx.length cx)]) (W := (w.alloc (.cells #[.int .i64 5, .string s, .bool n, .int .i64 lo, .int .i64 hi, .slice (some ⟨b, o, none⟩) 1 cap] 45))) (by assumption) (by assumption)) (first | (go_at_call 69; refine (KidC.call (F := 69) (w := w) (by assumption) _ ((HB.out _).trans (Below.mono (Held.below (l := [(w.heap.size, 0, .int .i64 5), (w.heap.size, 3, .int .i64 lo), (w.heap.size, 5, .slice (some ⟨b, o, none⟩) 1 cap), (b, o, .int .i64 kx), (b, o + 1, .string sx), (b, o + 2, .bool nx), (b, o + 3, .int .i64 lox), (b, o + 4, .int .i64 hix), (b, o + 5, .slice ax tsx.length cx)]) (W := (w.alloc (.cells #[.int .i64 5, .string s, .bool n, .int .i64 lo, .int .i64 hi, .slice (some ⟨b, o, none⟩) 1 cap] 45))) (by assumption)) (HB.out _).size))).mono ?_; rintro e wz ⟨rfl, hb⟩))
  all_goals
    have hfin := Held.below (l := [(w.heap.size, 0, .int .i64 5), (w.heap.size, 3, .int .i64 lo), (w.heap.size, 5, .slice (some ⟨b, o, none⟩) 1 cap), (b, o, .int .i64 kx), (b, o + 1, .string sx), (b, o + 2, .bool nx), (b, o + 3, .int .i64 lox), (b, o + 4, .int .i64 hix), (b, o + 5, .slice ax tsx.length cx)]) (W := (w.alloc (.cells #[.int .i64 5, .string s, .bool n, .int .i64 lo, .int .i64 hi, .slice (some ⟨b, o, none⟩) 1 cap] 45))) (by assumption)
    go_wp2_with fail
    go_ret
    exact ⟨ret_int HE.out.symm, (HB.out _).trans (hfin.mono (HB.out _).size)⟩
theorem slOne_of {t : RT} (h : ∀ u ∈ t.kids, slOne u) : slOne t := by
  intro hg a cap w hk
  have ho := RT.good_own hg
  have hgk := RT.good_kids hg
  obtain ⟨k, s, n, lo, hi, ts⟩ := t
  rcases RT.own_shape ho with ⟨hk0, rfl⟩ | ⟨hk0, x, y, rfl⟩ | ⟨rfl, x, rfl⟩
  · rcases hk0 with rfl | rfl | rfl | rfl | rfl
    · exact slK0 s n lo hi h hgk a cap w hk
    · exact slK1 s n lo hi h hgk a cap w hk
    · exact slK6 s n lo hi h hgk a cap w hk
    · exact slK7 s n lo hi h hgk a cap w hk
    · exact slK2 s n lo hi h hgk a cap w hk
  · rcases hk0 with rfl | rfl
    · exact slK3 s n lo hi x y h hgk a cap w hk
    · exact slK4 s n lo hi x y h hgk a cap w hk
  · exact slK5 s n lo hi x h hgk a cap w hk
theorem slAll : ∀ (N : Nat) (t : RT), RT.sz t ≤ N → slOne t := by
  intro N
  induction N with
  | zero => intro t h; have := RT.sz_pos t; omega
  | succ N ih => intro t h; exact slOne_of fun u hu => ih u (by have := RT.sz_kid t u hu; omega)
theorem sl_any (t : RT) : slOne t := slAll _ t (Nat.le_refl _)
def ilOne (t : RT) : Prop := RT.good t → ∀ (a : Option Addr) (cap : Nat) (w : World), Kids 0 w t.kids a →
  Calls Try.prog 70 #[reV t a cap] w fun e w' => e = .returned (.int .i64 (RT.lst t)) ∧ Below w.heap.size w w'
set_option maxRecDepth 100000 in
set_option maxHeartbeats 4000000 in
theorem ilK0 (s : ByteArray) (n : Bool) (lo hi : Int) (h : ∀ u ∈ ([] : List RT), ilOne u) (hg : ∀ u ∈ ([] : List RT), RT.good u) (a : Option Addr) (cap : Nat) (w : World) (hk : Kids 0 w [] a) :
    Calls Try.prog 70 #[.agg #[.int .i64 0, .string s, .bool n, .int .i64 lo, .int .i64 hi, .slice a 0 cap]] w fun e w' => e = .returned (.int .i64 (RT.lst (.node 0 s n lo hi []))) ∧ Below w.heap.size w w' := by
  have HB := Lib.hid (show ∀ o, Below w.heap.size w (w.alloc o) from fun o => (Below.refl w.heap.size w).alloc (Nat.le_refl _) _)
  have HE := Lib.hid (show RT.lst (.node 0 s n lo hi []) = 0 by simp [RT.lst])
  clear h hg hk
  go_enter Try.func70, Try.ntmps70
  go_wp2_with fail
  go_ret
  exact ⟨ret_int HE.out.symm, HB.out _⟩
set_option maxRecDepth 100000 in
set_option maxHeartbeats 4000000 in
theorem ilK1 (s : ByteArray) (n : Bool) (lo hi : Int) (h : ∀ u ∈ ([] : List RT), ilOne u) (hg : ∀ u ∈ ([] : List RT), RT.good u) (a : Option Addr) (cap : Nat) (w : World) (hk : Kids 0 w [] a) :
    Calls Try.prog 70 #[.agg #[.int .i64 1, .string s, .bool n, .int .i64 lo, .int .i64 hi, .slice a 0 cap]] w fun e w' => e = .returned (.int .i64 (RT.lst (.node 1 s n lo hi []))) ∧ Below w.heap.size w w' := by
  have HB := Lib.hid (show ∀ o, Below w.heap.size w (w.alloc o) from fun o => (Below.refl w.heap.size w).alloc (Nat.le_refl _) _)
  have HE := Lib.hid (show RT.lst (.node 1 s n lo hi []) = 1 by simp [RT.lst])
  clear h hg hk
  go_enter Try.func70, Try.ntmps70
  go_wp2_with fail
  go_ret
  exact ⟨ret_int HE.out.symm, HB.out _⟩
set_option maxRecDepth 100000 in
set_option maxHeartbeats 4000000 in
theorem ilK6 (s : ByteArray) (n : Bool) (lo hi : Int) (h : ∀ u ∈ ([] : List RT), ilOne u) (hg : ∀ u ∈ ([] : List RT), RT.good u) (a : Option Addr) (cap : Nat) (w : World) (hk : Kids 0 w [] a) :
    Calls Try.prog 70 #[.agg #[.int .i64 6, .string s, .bool n, .int .i64 lo, .int .i64 hi, .slice a 0 cap]] w fun e w' => e = .returned (.int .i64 (RT.lst (.node 6 s n lo hi []))) ∧ Below w.heap.size w w' := by
  have HB := Lib.hid (show ∀ o, Below w.heap.size w (w.alloc o) from fun o => (Below.refl w.heap.size w).alloc (Nat.le_refl _) _)
  have HE := Lib.hid (show RT.lst (.node 6 s n lo hi []) = 0 by simp [RT.lst])
  clear h hg hk
  go_enter Try.func70, Try.ntmps70
  go_wp2_with fail
  go_ret
  exact ⟨ret_int HE.out.symm, HB.out _⟩
set_option maxRecDepth 100000 in
set_option maxHeartbeats 4000000 in
theorem ilK7 (s : ByteArray) (n : Bool) (lo hi : Int) (h : ∀ u ∈ ([] : List RT), ilOne u) (hg : ∀ u ∈ ([] : List RT), RT.good u) (a : Option Addr) (cap : Nat) (w : World) (hk : Kids 0 w [] a) :
    Calls Try.prog 70 #[.agg #[.int .i64 7, .string s, .bool n, .int .i64 lo, .int .i64 hi, .slice a 0 cap]] w fun e w' => e = .returned (.int .i64 (RT.lst (.node 7 s n lo hi []))) ∧ Below w.heap.size w w' := by
  have HB := Lib.hid (show ∀ o, Below w.heap.size w (w.alloc o) from fun o => (Below.refl w.heap.size w).alloc (Nat.le_refl _) _)
  have HE := Lib.hid (show RT.lst (.node 7 s n lo hi []) = 0 by simp [RT.lst])
  clear h hg hk
  go_enter Try.func70, Try.ntmps70
  go_wp2_with fail
  go_ret
  exact ⟨ret_int HE.out.symm, HB.out _⟩
set_option maxRecDepth 100000 in
set_option maxHeartbeats 4000000 in
theorem ilK2 (s : ByteArray) (n : Bool) (lo hi : Int) (h : ∀ u ∈ ([] : List RT), ilOne u) (hg : ∀ u ∈ ([] : List RT), RT.good u) (a : Option Addr) (cap : Nat) (w : World) (hk : Kids 0 w [] a) :
    Calls Try.prog 70 #[.agg #[.int .i64 2, .string s, .bool n, .int .i64 lo, .int .i64 hi, .slice a 0 cap]] w fun e w' => e = .returned (.int .i64 (RT.lst (.node 2 s n lo hi []))) ∧ Below w.heap.size w w' := by
  have HB := Lib.hid (show ∀ o, Below w.heap.size w (w.alloc o) from fun o => (Below.refl w.heap.size w).alloc (Nat.le_refl _) _)
  have HE := Lib.hid (show RT.lst (.node 2 s n lo hi []) = 1 by simp [RT.lst])
  clear h hg hk
  go_enter Try.func70, Try.ntmps70
  go_wp2_with fail
  go_ret
  exact ⟨ret_int HE.out.symm, HB.out _⟩
set_option maxRecDepth 100000 in
set_option maxHeartbeats 4000000 in
theorem ilK3 (s : ByteArray) (n : Bool) (lo hi : Int) (xx : RT) (xy : RT) (h : ∀ u ∈ ([xx, xy] : List RT), ilOne u) (hg : ∀ u ∈ ([xx, xy] : List RT), RT.good u) (a : Option Addr) (cap : Nat) (w : World) (hk : Kids 0 w [xx, xy] a) :
    Calls Try.prog 70 #[.agg #[.int .i64 3, .string s, .bool n, .int .i64 lo, .int .i64 hi, .slice a 2 cap]] w fun e w' => e = .returned (.int .i64 (RT.lst (.node 3 s n lo hi [xx, xy]))) ∧ Below w.heap.size w w' := by
  obtain ⟨ax, cx, hex, hkx⟩ := hk.elem 0 (by simp)
  obtain ⟨ay, cy, hey, hky⟩ := hk.elem 1 (by simp)
  simp only [List.getElem_cons_zero, List.getElem_cons_succ] at hex hkx hey hky
  obtain ⟨b, o, rfl, _, hbl, ex0, ex1, ex2, ex3, ex4, ex5, _, _⟩ := hex
  obtain ⟨b2, o2, e2, _, _, ey0, ey1, ey2, ey3, ey4, ey5, _, _⟩ := hey
  cases e2
  have hx := h xx (by simp) (hg xx (by simp))
  have hy := h xy (by simp) (hg xy (by simp))
  obtain ⟨kx, sx, nx, lox, hix, tsx⟩ := xx
  obtain ⟨ky, sy, ny, loy, hiy, tsy⟩ := xy
  simp only [RT.kind, RT.set, RT.neg, RT.low, RT.high, RT.kids, reV, Nat.zero_mul, Nat.add_zero, Nat.one_mul, Nat.add_assoc, Nat.reduceAdd] at *
  have HE := Lib.hid (show RT.lst (.node 3 s n lo hi [.node kx sx nx lox hix tsx, .node ky sy ny loy hiy tsy]) = IntKind.i64.wrap (RT.lst (.node kx sx nx lox hix tsx) + RT.lst (.node ky sy ny loy hiy tsy)) by rw [RT.lst]; simp [RT.lsts])
  have Cx : KidC 70 w kx sx nx lox hix tsx ax cx (RT.lst (.node kx sx nx lox hix tsx)) := ⟨fun W hW => hx ax cx W (hkx.kept (Nat.le_refl _) hW)⟩
  have Cy : KidC 70 w ky sy ny loy hiy tsy ay cy (RT.lst (.node ky sy ny loy hiy tsy)) := ⟨fun W hW => hy ay cy W (hky.kept (Nat.le_refl _) hW)⟩
  have HB := Lib.hid (show ∀ o, Below w.heap.size w (w.alloc o) from fun o => (Below.refl w.heap.size w).alloc (Nat.le_refl _) _)
  have hz : ∀ o, (w.alloc o).heap.size = w.heap.size + 1 := fun o => by simp
  have HH := Lib.hid (Held.start (W := (w.alloc (.cells #[.int .i64 3, .string s, .bool n, .int .i64 lo, .int .i64 hi, .slice (some ⟨b, o, none⟩) 2 cap] 45))) (l := [(w.heap.size, 0, .int .i64 3), (w.heap.size, 3, .int .i64 lo), (w.heap.size, 5, .slice (some ⟨b, o, none⟩) 2 cap), (b, o, .int .i64 kx), (b, o + 1, .string sx), (b, o + 2, .bool nx), (b, o + 3, .int .i64 lox), (b, o + 4, .int .i64 hix), (b, o + 5, .slice ax tsx.length cx), (b, o + 6, .int .i64 ky), (b, o + 7, .string sy), (b, o + 8, .bool ny), (b, o + 9, .int .i64 loy), (b, o + 10, .int .i64 hiy), (b, o + 11, .slice ay tsy.length cy)]) (by
    have ec : ∀ j, (w.alloc (.cells #[.int .i64 3, .string s, .bool n, .int .i64 lo, .int .i64 hi, .slice (some ⟨b, o, none⟩) 2 cap] 45)).cell? ⟨b, j, none⟩ = w.cell? ⟨b, j, none⟩ := fun j => (HB.out _).cell (p := ⟨b, j, none⟩) hbl
    refine ⟨?_, ?_, ?_, (ec _).trans ex0, (ec _).trans ex1, (ec _).trans ex2, (ec _).trans ex3, (ec _).trans ex4, (ec _).trans ex5, (ec _).trans ey0, (ec _).trans ey1, (ec _).trans ey2, (ec _).trans ey3, (ec _).trans ey4, (ec _).trans ey5, trivial⟩ <;> (rw [World.cell?_alloc_at _ _ _ _ rfl]; rfl)))
  clear h hg hk hx hkx hy hky ex0 ex1 ex2 ex3 ex4 ex5 ey0 ey1 ey2 ey3 ey4 ey5
  generalize RT.lst (.node kx sx nx lox hix tsx) = Lx at *
  generalize RT.lst (.node ky sy ny loy hiy tsy) = Ly at *
  generalize RT.lst (.node 3 s n lo hi [.node kx sx nx lox hix tsx, .node ky sy ny loy hiy tsy]) = R at *
  go_enter Try.func70, Try.ntmps70
  go_wp2_with fail
  go_region_held3 (fun w' => (w'.cell? ⟨w.heap.size, 0, none⟩ = some (.int .i64 3) ∧ w'.cell? ⟨w.heap.size, 3, none⟩ = some (.int .i64 lo) ∧ w'.cell? ⟨w.heap.size, 5, none⟩ = some (.slice (some ⟨b, o, none⟩) 2 cap) ∧ w'.cell? ⟨b, o, none⟩ = some (.int .i64 kx) ∧ w'.cell? ⟨b, o + 1, none⟩ = some (.string sx) ∧ w'.cell? ⟨b, o + 2, none⟩ = some (.bool nx) ∧ w'.cell? ⟨b, o + 3, none⟩ = some (.int .i64 lox) ∧ w'.cell? ⟨b, o + 4, none⟩ = some (.int .i64 hix) ∧ w'.cell? ⟨b, o + 5, none⟩ = some (.slice ax tsx.length cx) ∧ w'.cell? ⟨b, o + 6, none⟩ = some (.int .i64 ky) ∧ w'.cell? ⟨b, o + 7, none⟩ = some (.string sy) ∧ w'.cell? ⟨b, o + 8, none⟩ = some (.bool ny) ∧ w'.cell? ⟨b, o + 9, none⟩ = some (.int .i64 loy) ∧ w'.cell? ⟨b, o + 10, none⟩ = some (.int .i64 hiy) ∧ w'.cell? ⟨b, o + 11, none⟩ = some (.slice ay tsy.length cy) ∧ True) ∧ Below (w.alloc (.cells #[.int .i64 3, .string s, .bool n, .int .i64 lo, .int .i64 hi, .slice (some ⟨b, o, none⟩) 2 cap] 45)).heap.size (w.alloc (.cells #[.int .i64 3, .string s, .bool n, .int .i64 lo, .int .i64 hi, .slice (some ⟨b, o, none⟩) 2 cap] 45)) w') (first | exact HH.out | assumption | exact Held.step (l := [(w.heap.size, 0, .int .i64 3), (w.heap.size, 3, .int .i64 lo), (w.heap.size, 5, .slice (some ⟨b, o, none⟩) 2 cap), (b, o, .int .i64 kx), (b, o + 1, .string sx), (b, o + 2, .bool nx), (b, o + 3, .int .i64 lox), (b, o + 4, .int .i64 hix), (b, o + 5, .slice ax tsx.length cx), (b, o + 6, .int .i64 ky), (b, o + 7, .string sy), (b, o + 8, .bool ny), (b, o + 9, .int .i64 loy), (b, o + 10, .int .i64 hiy), (b, o + 11, .slice ay tsy.length cy)]) (W := (w.alloc (.cells #[.int .i64 3, .string s, .bool n, .int .i64 lo, .int .i64 hi, .slice (some ⟨b, o, none⟩) 2 cap] 45))) (by assumption) (by assumption)) (first | (go_at_call 70; refine (KidC.call (F := 70) (w := w) (by assumption) _ ((HB.out _).trans (Below.mono (Held.below (l := [(w.heap.size, 0, .int .i64 3), (w.heap.size, 3, .int .i64 lo), (w.heap.size, 5, .slice (some ⟨b, o, none⟩) 2 cap), (b, o, .int .i64 kx), (b, o + 1, .string sx), (b, o + 2, .bool nx), (b, o + 3, .int .i64 lox), (b, o + 4, .int .i64 hix), (b, o + 5, .slice ax tsx.length cx), (b, o + 6, .int .i64 ky), (b, o + 7, .string sy), (b, o + 8, .bool ny), (b, o + 9, .int .i64 loy), (b, o + 10, .int .i64 hiy), (b, o + 11, .slice ay tsy.length cy)]) (W := (w.alloc (.cells #[.int .i64 3, .string s, .bool n, .int .i64 lo, .int .i64 hi, .slice (some ⟨b, o, none⟩) 2 cap] 45))) (by assumption)) (HB.out _).size))).mono ?_; rintro e wz ⟨rfl, hb⟩))
  all_goals
    have hfin := Held.below (l := [(w.heap.size, 0, .int .i64 3), (w.heap.size, 3, .int .i64 lo), (w.heap.size, 5, .slice (some ⟨b, o, none⟩) 2 cap), (b, o, .int .i64 kx), (b, o + 1, .string sx), (b, o + 2, .bool nx), (b, o + 3, .int .i64 lox), (b, o + 4, .int .i64 hix), (b, o + 5, .slice ax tsx.length cx), (b, o + 6, .int .i64 ky), (b, o + 7, .string sy), (b, o + 8, .bool ny), (b, o + 9, .int .i64 loy), (b, o + 10, .int .i64 hiy), (b, o + 11, .slice ay tsy.length cy)]) (W := (w.alloc (.cells #[.int .i64 3, .string s, .bool n, .int .i64 lo, .int .i64 hi, .slice (some ⟨b, o, none⟩) 2 cap] 45))) (by assumption)
    go_wp2_with fail
    go_ret
    exact ⟨ret_int HE.out.symm, (HB.out _).trans (hfin.mono (HB.out _).size)⟩
set_option maxRecDepth 100000 in
set_option maxHeartbeats 4000000 in
theorem ilK4 (s : ByteArray) (n : Bool) (lo hi : Int) (xx : RT) (xy : RT) (h : ∀ u ∈ ([xx, xy] : List RT), ilOne u) (hg : ∀ u ∈ ([xx, xy] : List RT), RT.good u) (a : Option Addr) (cap : Nat) (w : World) (hk : Kids 0 w [xx, xy] a) :
    Calls Try.prog 70 #[.agg #[.int .i64 4, .string s, .bool n, .int .i64 lo, .int .i64 hi, .slice a 2 cap]] w fun e w' => e = .returned (.int .i64 (RT.lst (.node 4 s n lo hi [xx, xy]))) ∧ Below w.heap.size w w' := by
  obtain ⟨ax, cx, hex, hkx⟩ := hk.elem 0 (by simp)
  obtain ⟨ay, cy, hey, hky⟩ := hk.elem 1 (by simp)
  simp only [List.getElem_cons_zero, List.getElem_cons_succ] at hex hkx hey hky
  obtain ⟨b, o, rfl, _, hbl, ex0, ex1, ex2, ex3, ex4, ex5, _, _⟩ := hex
  obtain ⟨b2, o2, e2, _, _, ey0, ey1, ey2, ey3, ey4, ey5, _, _⟩ := hey
  cases e2
  have hx := h xx (by simp) (hg xx (by simp))
  have hy := h xy (by simp) (hg xy (by simp))
  obtain ⟨kx, sx, nx, lox, hix, tsx⟩ := xx
  obtain ⟨ky, sy, ny, loy, hiy, tsy⟩ := xy
  simp only [RT.kind, RT.set, RT.neg, RT.low, RT.high, RT.kids, reV, Nat.zero_mul, Nat.add_zero, Nat.one_mul, Nat.add_assoc, Nat.reduceAdd] at *
  have HE := Lib.hid (show RT.lst (.node 4 s n lo hi [.node kx sx nx lox hix tsx, .node ky sy ny loy hiy tsy]) = min (RT.lst (.node kx sx nx lox hix tsx)) (RT.lst (.node ky sy ny loy hiy tsy)) by rw [RT.lst]; simp [RT.lsts])
  have Cx : KidC 70 w kx sx nx lox hix tsx ax cx (RT.lst (.node kx sx nx lox hix tsx)) := ⟨fun W hW => hx ax cx W (hkx.kept (Nat.le_refl _) hW)⟩
  have Cy : KidC 70 w ky sy ny loy hiy tsy ay cy (RT.lst (.node ky sy ny loy hiy tsy)) := ⟨fun W hW => hy ay cy W (hky.kept (Nat.le_refl _) hW)⟩
  have HB := Lib.hid (show ∀ o, Below w.heap.size w (w.alloc o) from fun o => (Below.refl w.heap.size w).alloc (Nat.le_refl _) _)
  have hz : ∀ o, (w.alloc o).heap.size = w.heap.size + 1 := fun o => by simp
  have HH := Lib.hid (Held.start (W := (w.alloc (.cells #[.int .i64 4, .string s, .bool n, .int .i64 lo, .int .i64 hi, .slice (some ⟨b, o, none⟩) 2 cap] 45))) (l := [(w.heap.size, 0, .int .i64 4), (w.heap.size, 3, .int .i64 lo), (w.heap.size, 5, .slice (some ⟨b, o, none⟩) 2 cap), (b, o, .int .i64 kx), (b, o + 1, .string sx), (b, o + 2, .bool nx), (b, o + 3, .int .i64 lox), (b, o + 4, .int .i64 hix), (b, o + 5, .slice ax tsx.length cx), (b, o + 6, .int .i64 ky), (b, o + 7, .string sy), (b, o + 8, .bool ny), (b, o + 9, .int .i64 loy), (b, o + 10, .int .i64 hiy), (b, o + 11, .slice ay tsy.length cy)]) (by
    have ec : ∀ j, (w.alloc (.cells #[.int .i64 4, .string s, .bool n, .int .i64 lo, .int .i64 hi, .slice (some ⟨b, o, none⟩) 2 cap] 45)).cell? ⟨b, j, none⟩ = w.cell? ⟨b, j, none⟩ := fun j => (HB.out _).cell (p := ⟨b, j, none⟩) hbl
    refine ⟨?_, ?_, ?_, (ec _).trans ex0, (ec _).trans ex1, (ec _).trans ex2, (ec _).trans ex3, (ec _).trans ex4, (ec _).trans ex5, (ec _).trans ey0, (ec _).trans ey1, (ec _).trans ey2, (ec _).trans ey3, (ec _).trans ey4, (ec _).trans ey5, trivial⟩ <;> (rw [World.cell?_alloc_at _ _ _ _ rfl]; rfl)))
  clear h hg hk hx hkx hy hky ex0 ex1 ex2 ex3 ex4 ex5 ey0 ey1 ey2 ey3 ey4 ey5
  generalize RT.lst (.node kx sx nx lox hix tsx) = Lx at *
  generalize RT.lst (.node ky sy ny loy hiy tsy) = Ly at *
  generalize RT.lst (.node 4 s n lo hi [.node kx sx nx lox hix tsx, .node ky sy ny loy hiy tsy]) = R at *
  go_enter Try.func70, Try.ntmps70
  go_wp2_with fail
  by_cases hm : Ly < Lx
  · have hm2 : ¬ Lx ≤ Ly := by omega
    go_region_held3 (fun w' => (w'.cell? ⟨w.heap.size, 0, none⟩ = some (.int .i64 4) ∧ w'.cell? ⟨w.heap.size, 3, none⟩ = some (.int .i64 lo) ∧ w'.cell? ⟨w.heap.size, 5, none⟩ = some (.slice (some ⟨b, o, none⟩) 2 cap) ∧ w'.cell? ⟨b, o, none⟩ = some (.int .i64 kx) ∧ w'.cell? ⟨b, o + 1, none⟩ = some (.string sx) ∧ w'.cell? ⟨b, o + 2, none⟩ = some (.bool nx) ∧ w'.cell? ⟨b, o + 3, none⟩ = some (.int .i64 lox) ∧ w'.cell? ⟨b, o + 4, none⟩ = some (.int .i64 hix) ∧ w'.cell? ⟨b, o + 5, none⟩ = some (.slice ax tsx.length cx) ∧ w'.cell? ⟨b, o + 6, none⟩ = some (.int .i64 ky) ∧ w'.cell? ⟨b, o + 7, none⟩ = some (.string sy) ∧ w'.cell? ⟨b, o + 8, none⟩ = some (.bool ny) ∧ w'.cell? ⟨b, o + 9, none⟩ = some (.int .i64 loy) ∧ w'.cell? ⟨b, o + 10, none⟩ = some (.int .i64 hiy) ∧ w'.cell? ⟨b, o + 11, none⟩ = some (.slice ay tsy.length cy) ∧ True) ∧ Below (w.alloc (.cells #[.int .i64 4, .string s, .bool n, .int .i64 lo, .int .i64 hi, .slice (some ⟨b, o, none⟩) 2 cap] 45)).heap.size (w.alloc (.cells #[.int .i64 4, .string s, .bool n, .int .i64 lo, .int .i64 hi, .slice (some ⟨b, o, none⟩) 2 cap] 45)) w') (first | exact HH.out | assumption | exact Held.step (l := [(w.heap.size, 0, .int .i64 4), (w.heap.size, 3, .int .i64 lo), (w.heap.size, 5, .slice (some ⟨b, o, none⟩) 2 cap), (b, o, .int .i64 kx), (b, o + 1, .string sx), (b, o + 2, .bool nx), (b, o + 3, .int .i64 lox), (b, o + 4, .int .i64 hix), (b, o + 5, .slice ax tsx.length cx), (b, o + 6, .int .i64 ky), (b, o + 7, .string sy), (b, o + 8, .bool ny), (b, o + 9, .int .i64 loy), (b, o + 10, .int .i64 hiy), (b, o + 11, .slice ay tsy.length cy)]) (W := (w.alloc (.cells #[.int .i64 4, .string s, .bool n, .int .i64 lo, .int .i64 hi, .slice (some ⟨b, o, none⟩) 2 cap] 45))) (by assumption) (by assumption)) (first | (go_at_call 70; refine (KidC.call (F := 70) (w := w) (by assumption) _ ((HB.out _).trans (Below.mono (Held.below (l := [(w.heap.size, 0, .int .i64 4), (w.heap.size, 3, .int .i64 lo), (w.heap.size, 5, .slice (some ⟨b, o, none⟩) 2 cap), (b, o, .int .i64 kx), (b, o + 1, .string sx), (b, o + 2, .bool nx), (b, o + 3, .int .i64 lox), (b, o + 4, .int .i64 hix), (b, o + 5, .slice ax tsx.length cx), (b, o + 6, .int .i64 ky), (b, o + 7, .string sy), (b, o + 8, .bool ny), (b, o + 9, .int .i64 loy), (b, o + 10, .int .i64 hiy), (b, o + 11, .slice ay tsy.length cy)]) (W := (w.alloc (.cells #[.int .i64 4, .string s, .bool n, .int .i64 lo, .int .i64 hi, .slice (some ⟨b, o, none⟩) 2 cap] 45))) (by assumption)) (HB.out _).size))).mono ?_; rintro e wz ⟨rfl, hb⟩))
    all_goals
      have hfin := Held.below (l := [(w.heap.size, 0, .int .i64 4), (w.heap.size, 3, .int .i64 lo), (w.heap.size, 5, .slice (some ⟨b, o, none⟩) 2 cap), (b, o, .int .i64 kx), (b, o + 1, .string sx), (b, o + 2, .bool nx), (b, o + 3, .int .i64 lox), (b, o + 4, .int .i64 hix), (b, o + 5, .slice ax tsx.length cx), (b, o + 6, .int .i64 ky), (b, o + 7, .string sy), (b, o + 8, .bool ny), (b, o + 9, .int .i64 loy), (b, o + 10, .int .i64 hiy), (b, o + 11, .slice ay tsy.length cy)]) (W := (w.alloc (.cells #[.int .i64 4, .string s, .bool n, .int .i64 lo, .int .i64 hi, .slice (some ⟨b, o, none⟩) 2 cap] 45))) (by assumption)
      go_wp2_with fail
      go_ret
      exact ⟨ret_int (by rw [HE.out]; omega), (HB.out _).trans (hfin.mono (HB.out _).size)⟩
  · have hm2 : Lx ≤ Ly := by omega
    go_region_held3 (fun w' => (w'.cell? ⟨w.heap.size, 0, none⟩ = some (.int .i64 4) ∧ w'.cell? ⟨w.heap.size, 3, none⟩ = some (.int .i64 lo) ∧ w'.cell? ⟨w.heap.size, 5, none⟩ = some (.slice (some ⟨b, o, none⟩) 2 cap) ∧ w'.cell? ⟨b, o, none⟩ = some (.int .i64 kx) ∧ w'.cell? ⟨b, o + 1, none⟩ = some (.string sx) ∧ w'.cell? ⟨b, o + 2, none⟩ = some (.bool nx) ∧ w'.cell? ⟨b, o + 3, none⟩ = some (.int .i64 lox) ∧ w'.cell? ⟨b, o + 4, none⟩ = some (.int .i64 hix) ∧ w'.cell? ⟨b, o + 5, none⟩ = some (.slice ax tsx.length cx) ∧ w'.cell? ⟨b, o + 6, none⟩ = some (.int .i64 ky) ∧ w'.cell? ⟨b, o + 7, none⟩ = some (.string sy) ∧ w'.cell? ⟨b, o + 8, none⟩ = some (.bool ny) ∧ w'.cell? ⟨b, o + 9, none⟩ = some (.int .i64 loy) ∧ w'.cell? ⟨b, o + 10, none⟩ = some (.int .i64 hiy) ∧ w'.cell? ⟨b, o + 11, none⟩ = some (.slice ay tsy.length cy) ∧ True) ∧ Below (w.alloc (.cells #[.int .i64 4, .string s, .bool n, .int .i64 lo, .int .i64 hi, .slice (some ⟨b, o, none⟩) 2 cap] 45)).heap.size (w.alloc (.cells #[.int .i64 4, .string s, .bool n, .int .i64 lo, .int .i64 hi, .slice (some ⟨b, o, none⟩) 2 cap] 45)) w') (first | exact HH.out | assumption | exact Held.step (l := [(w.heap.size, 0, .int .i64 4), (w.heap.size, 3, .int .i64 lo), (w.heap.size, 5, .slice (some ⟨b, o, none⟩) 2 cap), (b, o, .int .i64 kx), (b, o + 1, .string sx), (b, o + 2, .bool nx), (b, o + 3, .int .i64 lox), (b, o + 4, .int .i64 hix), (b, o + 5, .slice ax tsx.length cx), (b, o + 6, .int .i64 ky), (b, o + 7, .string sy), (b, o + 8, .bool ny), (b, o + 9, .int .i64 loy), (b, o + 10, .int .i64 hiy), (b, o + 11, .slice ay tsy.length cy)]) (W := (w.alloc (.cells #[.int .i64 4, .string s, .bool n, .int .i64 lo, .int .i64 hi, .slice (some ⟨b, o, none⟩) 2 cap] 45))) (by assumption) (by assumption)) (first | (go_at_call 70; refine (KidC.call (F := 70) (w := w) (by assumption) _ ((HB.out _).trans (Below.mono (Held.below (l := [(w.heap.size, 0, .int .i64 4), (w.heap.size, 3, .int .i64 lo), (w.heap.size, 5, .slice (some ⟨b, o, none⟩) 2 cap), (b, o, .int .i64 kx), (b, o + 1, .string sx), (b, o + 2, .bool nx), (b, o + 3, .int .i64 lox), (b, o + 4, .int .i64 hix), (b, o + 5, .slice ax tsx.length cx), (b, o + 6, .int .i64 ky), (b, o + 7, .string sy), (b, o + 8, .bool ny), (b, o + 9, .int .i64 loy), (b, o + 10, .int .i64 hiy), (b, o + 11, .slice ay tsy.length cy)]) (W := (w.alloc (.cells #[.int .i64 4, .string s, .bool n, .int .i64 lo, .int .i64 hi, .slice (some ⟨b, o, none⟩) 2 cap] 45))) (by assumption)) (HB.out _).size))).mono ?_; rintro e wz ⟨rfl, hb⟩))
    all_goals
      have hfin := Held.below (l := [(w.heap.size, 0, .int .i64 4), (w.heap.size, 3, .int .i64 lo), (w.heap.size, 5, .slice (some ⟨b, o, none⟩) 2 cap), (b, o, .int .i64 kx), (b, o + 1, .string sx), (b, o + 2, .bool nx), (b, o + 3, .int .i64 lox), (b, o + 4, .int .i64 hix), (b, o + 5, .slice ax tsx.length cx), (b, o + 6, .int .i64 ky), (b, o + 7, .string sy), (b, o + 8, .bool ny), (b, o + 9, .int .i64 loy), (b, o + 10, .int .i64 hiy), (b, o + 11, .slice ay tsy.length cy)]) (W := (w.alloc (.cells #[.int .i64 4, .string s, .bool n, .int .i64 lo, .int .i64 hi, .slice (some ⟨b, o, none⟩) 2 cap] 45))) (by assumption)
      go_wp2_with fail
      go_ret
      exact ⟨ret_int (by rw [HE.out]; omega), (HB.out _).trans (hfin.mono (HB.out _).size)⟩
set_option maxRecDepth 100000 in
set_option maxHeartbeats 4000000 in
theorem ilK5 (s : ByteArray) (n : Bool) (lo hi : Int) (xx : RT) (h : ∀ u ∈ ([xx] : List RT), ilOne u) (hg : ∀ u ∈ ([xx] : List RT), RT.good u) (a : Option Addr) (cap : Nat) (w : World) (hk : Kids 0 w [xx] a) :
    Calls Try.prog 70 #[.agg #[.int .i64 5, .string s, .bool n, .int .i64 lo, .int .i64 hi, .slice a 1 cap]] w fun e w' => e = .returned (.int .i64 (RT.lst (.node 5 s n lo hi [xx]))) ∧ Below w.heap.size w w' := by
  obtain ⟨ax, cx, hex, hkx⟩ := hk.elem 0 (by simp)
  simp only [List.getElem_cons_zero] at hex hkx
  obtain ⟨b, o, rfl, _, hbl, ex0, ex1, ex2, ex3, ex4, ex5, _, _⟩ := hex
  have hx := h xx (by simp) (hg xx (by simp))
  obtain ⟨kx, sx, nx, lox, hix, tsx⟩ := xx
  simp only [RT.kind, RT.set, RT.neg, RT.low, RT.high, RT.kids, reV, Nat.zero_mul, Nat.add_zero] at *
  have HE := Lib.hid (show RT.lst (.node 5 s n lo hi [.node kx sx nx lox hix tsx]) = IntKind.i64.wrap (lo * RT.lst (.node kx sx nx lox hix tsx)) by rw [RT.lst]; simp [RT.lsts])
  have Cx : KidC 70 w kx sx nx lox hix tsx ax cx (RT.lst (.node kx sx nx lox hix tsx)) := ⟨fun W hW => hx ax cx W (hkx.kept (Nat.le_refl _) hW)⟩
  have HB := Lib.hid (show ∀ o, Below w.heap.size w (w.alloc o) from fun o => (Below.refl w.heap.size w).alloc (Nat.le_refl _) _)
  have hz : ∀ o, (w.alloc o).heap.size = w.heap.size + 1 := fun o => by simp
  have HH := Lib.hid (Held.start (W := (w.alloc (.cells #[.int .i64 5, .string s, .bool n, .int .i64 lo, .int .i64 hi, .slice (some ⟨b, o, none⟩) 1 cap] 45))) (l := [(w.heap.size, 0, .int .i64 5), (w.heap.size, 3, .int .i64 lo), (w.heap.size, 5, .slice (some ⟨b, o, none⟩) 1 cap), (b, o, .int .i64 kx), (b, o + 1, .string sx), (b, o + 2, .bool nx), (b, o + 3, .int .i64 lox), (b, o + 4, .int .i64 hix), (b, o + 5, .slice ax tsx.length cx)]) (by
    have ec : ∀ j, (w.alloc (.cells #[.int .i64 5, .string s, .bool n, .int .i64 lo, .int .i64 hi, .slice (some ⟨b, o, none⟩) 1 cap] 45)).cell? ⟨b, j, none⟩ = w.cell? ⟨b, j, none⟩ := fun j => (HB.out _).cell (p := ⟨b, j, none⟩) hbl
    refine ⟨?_, ?_, ?_, (ec _).trans ex0, (ec _).trans ex1, (ec _).trans ex2, (ec _).trans ex3, (ec _).trans ex4, (ec _).trans ex5, trivial⟩ <;> (rw [World.cell?_alloc_at _ _ _ _ rfl]; rfl)))
  clear h hg hk hx hkx ex0 ex1 ex2 ex3 ex4 ex5
  generalize RT.lst (.node kx sx nx lox hix tsx) = Lx at *
  generalize RT.lst (.node 5 s n lo hi [.node kx sx nx lox hix tsx]) = R at *
  go_enter Try.func70, Try.ntmps70
  go_wp2_with fail
  go_region_held3 (fun w' => (w'.cell? ⟨w.heap.size, 0, none⟩ = some (.int .i64 5) ∧ w'.cell? ⟨w.heap.size, 3, none⟩ = some (.int .i64 lo) ∧ w'.cell? ⟨w.heap.size, 5, none⟩ = some (.slice (some ⟨b, o, none⟩) 1 cap) ∧ w'.cell? ⟨b, o, none⟩ = some (.int .i64 kx) ∧ w'.cell? ⟨b, o + 1, none⟩ = some (.string sx) ∧ w'.cell? ⟨b, o + 2, none⟩ = some (.bool nx) ∧ w'.cell? ⟨b, o + 3, none⟩ = some (.int .i64 lox) ∧ w'.cell? ⟨b, o + 4, none⟩ = some (.int .i64 hix) ∧ w'.cell? ⟨b, o + 5, none⟩ = some (.slice ax tsx.length cx) ∧ True) ∧ Below (w.alloc (.cells #[.int .i64 5, .string s, .bool n, .int .i64 lo, .int .i64 hi, .slice (some ⟨b, o, none⟩) 1 cap] 45)).heap.size (w.alloc (.cells #[.int .i64 5, .string s, .bool n, .int .i64 lo, .int .i64 hi, .slice (some ⟨b, o, none⟩) 1 cap] 45)) w') (first | exact HH.out | assumption | exact Held.step (l := [(w.heap.size, 0, .int .i64 5), (w.heap.size, 3, .int .i64 lo), (w.heap.size, 5, .slice (some ⟨b, o, none⟩) 1 cap), (b, o, .int .i64 kx), (b, o + 1, .string sx), (b, o + 2, .bool nx), (b, o + 3, .int .i64 lox), (b, o + 4, .int .i64 hix), (b, o + 5, .slice ax tsx.length cx)]) (W := (w.alloc (.cells #[.int .i64 5, .string s, .bool n, .int .i64 lo, .int .i64 hi, .slice (some ⟨b, o, none⟩) 1 cap] 45))) (by assumption) (by assumption)) (first | (go_at_call 70; refine (KidC.call (F := 70) (w := w) (by assumption) _ ((HB.out _).trans (Below.mono (Held.below (l := [(w.heap.size, 0, .int .i64 5), (w.heap.size, 3, .int .i64 lo), (w.heap.size, 5, .slice (some ⟨b, o, none⟩) 1 cap), (b, o, .int .i64 kx), (b, o + 1, .string sx), (b, o + 2, .bool nx), (b, o + 3, .int .i64 lox), (b, o + 4, .int .i64 hix), (b, o + 5, .slice ax tsx.length cx)]) (W := (w.alloc (.cells #[.int .i64 5, .string s, .bool n, .int .i64 lo, .int .i64 hi, .slice (some ⟨b, o, none⟩) 1 cap] 45))) (by assumption)) (HB.out _).size))).mono ?_; rintro e wz ⟨rfl, hb⟩))
  all_goals
    have hfin := Held.below (l := [(w.heap.size, 0, .int .i64 5), (w.heap.size, 3, .int .i64 lo), (w.heap.size, 5, .slice (some ⟨b, o, none⟩) 1 cap), (b, o, .int .i64 kx), (b, o + 1, .string sx), (b, o + 2, .bool nx), (b, o + 3, .int .i64 lox), (b, o + 4, .int .i64 hix), (b, o + 5, .slice ax tsx.length cx)]) (W := (w.alloc (.cells #[.int .i64 5, .string s, .bool n, .int .i64 lo, .int .i64 hi, .slice (some ⟨b, o, none⟩) 1 cap] 45))) (by assumption)
    go_wp2_with fail
    go_ret
    exact ⟨ret_int HE.out.symm, (HB.out _).trans (hfin.mono (HB.out _).size)⟩
theorem ilOne_of {t : RT} (h : ∀ u ∈ t.kids, ilOne u) : ilOne t := by
  intro hg a cap w hk
  have ho := RT.good_own hg
  have hgk := RT.good_kids hg
  obtain ⟨k, s, n, lo, hi, ts⟩ := t
  rcases RT.own_shape ho with ⟨hk0, rfl⟩ | ⟨hk0, x, y, rfl⟩ | ⟨rfl, x, rfl⟩
  · rcases hk0 with rfl | rfl | rfl | rfl | rfl
    · exact ilK0 s n lo hi h hgk a cap w hk
    · exact ilK1 s n lo hi h hgk a cap w hk
    · exact ilK6 s n lo hi h hgk a cap w hk
    · exact ilK7 s n lo hi h hgk a cap w hk
    · exact ilK2 s n lo hi h hgk a cap w hk
  · rcases hk0 with rfl | rfl
    · exact ilK3 s n lo hi x y h hgk a cap w hk
    · exact ilK4 s n lo hi x y h hgk a cap w hk
  · exact ilK5 s n lo hi x h hgk a cap w hk
theorem ilAll : ∀ (N : Nat) (t : RT), RT.sz t ≤ N → ilOne t := by
  intro N
  induction N with
  | zero => intro t h; have := RT.sz_pos t; omega
  | succ N ih => intro t h; exact ilOne_of fun u hu => ih u (by have := RT.sz_kid t u hu; omega)
theorem il_any (t : RT) : ilOne t := ilAll _ t (Nat.le_refl _)
end Go.Proofs.Ytiggdpckjmellaa.kit
