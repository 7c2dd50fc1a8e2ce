/-
  Boxes that hold expressions, for the law FnMatch. Conditions: each theorem names its own.
-/
import Derived.Test.YtppfnaenamcnpaaDoorMfMi17
import Derived.Test.YtppfnaenamcnpaaDoorMfDr0
import Derived.Test.YtppfnaenamcnpaaDoorMfFb1
import Derived.Test.YtppfnaenamcnpaaDoorMfRe12
import Derived.Test.YtppfnaenamcnpaaDoorMfPr5
set_option linter.unusedVariables false
open Go.ChangeShapes Go.WideShapes Go.ChangeAt Go.RowKit
namespace Go.Proofs.YtppfnaenamcnpaaDoor.kit
theorem big_no (a : Option Addr) (n cap : Nat) (w : World) (h : n ≤ 1048576) :
 Calls Tryd.prog 6 #[.slice a n cap] w fun e w' => e = .returned (.bool false) ∧ w = w' := by
 have d1 : decide (1048576 < n) = false := by simp; omega
 have d2 : decide ((1048576 : Int) < (n : Int)) = false := by simp; omega
 go_enter Tryd.func6, Tryd.ntmps6
 go_wp2
 go_ret
 exact ⟨rfl, rfl⟩
theorem big_yes (a : Option Addr) (n cap : Nat) (w : World) (h : 1048576 < n) :
 Calls Tryd.prog 6 #[.slice a n cap] w fun e w' => e = .returned (.bool true) ∧ w = w' := by
 have d1 : decide (1048576 < n) = true := by simp; omega
 have d2 : decide ((1048576 : Int) < (n : Int)) = true := by simp; omega
 go_enter Tryd.func6, Tryd.ntmps6
 go_wp2
 go_ret
 exact ⟨rfl, rfl⟩
structure Bx (W : World) (g : Nat) (t : RT) (a : Option Addr) (c : Nat) : Prop where
 six : Six W g t a c
 kids : Kids 0 W t.kids a
theorem Bx.kept {W W' : World} {g : Nat} {t : RT} {a : Option Addr} {c : Nat} (h : Bx W g t a c) (hb : Below W.heap.size W W') : Bx W' g t a c := ⟨h.six.kept hb, h.kids.kept (Nat.le_refl _) hb⟩
theorem bx_new {w : World} {t : RT} {a : Option Addr} {c : Nat} (h : Kids 0 w t.kids a) : Bx (w.alloc (.cells #[.int .i64 t.kind, .string t.set, .bool t.neg, .int .i64 t.low, .int .i64 t.high, .slice a t.kids.length c] 26)) w.heap.size t a c := ⟨heap_alloc_new w _, h.alloc _⟩
structure FmS (g3 g7 g14 : Nat) (r q h : RT) (ar aq ah : Option Addr) (cr cq ch : Nat) (w W : World) : Prop where
 b3 : Bx W g3 r ar cr
 b7 : Bx W g7 q aq cq
 b14 : Bx W g14 h ah ch
 below : Below w.heap.size w W
theorem FmS.step {g3 g7 g14 : Nat} {r q h : RT} {ar aq ah : Option Addr} {cr cq ch : Nat} {w W W' : World} (x : FmS g3 g7 g14 r q h ar aq ah cr cq ch w W) (hb : Below W.heap.size W W') : FmS g3 g7 g14 r q h ar aq ah cr cq ch w W' :=
 ⟨x.b3.kept hb, x.b7.kept hb, x.b14.kept hb, x.below.trans (hb.mono x.below.size)⟩
theorem FmS.drew {g3 g7 g14 : Nat} {r q h : RT} {ar aq ah : Option Addr} {cr cq ch : Nat} {w W : World} (x : FmS g3 g7 g14 r q h ar aq ah cr cq ch w W) : FmS g3 g7 g14 r q h ar aq ah cr cq ch w W.drew := x.step (Below.refl _ _).drew
def FitR (t : RT) : Prop := t.set.size ≤ maxLen ∧ t.kids.length ≤ maxLen
theorem kids2_new {W : World} {x y : RT} {ax ay : Option Addr} {cx cy : Nat} {ty : TypeId} (hx : Kids 0 W x.kids ax) (hy : Kids 0 W y.kids ay) (fx : FitR x) (fy : FitR y) :
 Kids 0 (W.alloc (.cells #[.int .i64 x.kind, .string x.set, .bool x.neg, .int .i64 x.low, .int .i64 x.high, .slice ax x.kids.length cx, .int .i64 y.kind, .string y.set, .bool y.neg, .int .i64 y.low, .int .i64 y.high, .slice ay y.kids.length cy] ty)) [x, y] (some ⟨W.heap.size, 0, none⟩) := by
 refine .mk [x, y] _ (fun i => if i = 0 then ax else ay) (fun i => if i = 0 then cx else cy) (fun i hi => ?_) (fun i hi => ?_)
 · match i, hi with
   | 0, _ => exact ⟨W.heap.size, 0, rfl, Nat.zero_le _, by simp, by simp [World.cell?_alloc_new], by simp [World.cell?_alloc_new], by simp [World.cell?_alloc_new], by simp [World.cell?_alloc_new], by simp [World.cell?_alloc_new], by simp [World.cell?_alloc_new], fx.1, fx.2⟩
   | 1, _ => exact ⟨W.heap.size, 0, rfl, Nat.zero_le _, by simp, by simp [World.cell?_alloc_new], by simp [World.cell?_alloc_new], by simp [World.cell?_alloc_new], by simp [World.cell?_alloc_new], by simp [World.cell?_alloc_new], by simp [World.cell?_alloc_new], fy.1, fy.2⟩
   | n + 2, h => simp at h; omega
 · match i, hi with
   | 0, _ => exact hx.alloc _
   | 1, _ => exact hy.alloc _
   | n + 2, h => simp at h; omega
theorem kids1_new {W : World} {x : RT} {ax : Option Addr} {cx : Nat} {ty : TypeId} (hx : Kids 0 W x.kids ax) (fx : FitR x) :
 Kids 0 (W.alloc (.cells #[.int .i64 x.kind, .string x.set, .bool x.neg, .int .i64 x.low, .int .i64 x.high, .slice ax x.kids.length cx] ty)) [x] (some ⟨W.heap.size, 0, none⟩) := by
 refine .mk [x] _ (fun _ => ax) (fun _ => cx) (fun i hi => ?_) (fun i hi => ?_)
 · match i, hi with
   | 0, _ => exact ⟨W.heap.size, 0, rfl, Nat.zero_le _, by simp, by simp [World.cell?_alloc_new], by simp [World.cell?_alloc_new], by simp [World.cell?_alloc_new], by simp [World.cell?_alloc_new], by simp [World.cell?_alloc_new], by simp [World.cell?_alloc_new], fx.1, fx.2⟩
   | n + 1, h => simp at h
 · match i, hi with
   | 0, _ => exact hx.alloc _
   | n + 1, h => simp at h
theorem cost_node (k : Int) (s : ByteArray) (n : Bool) (lo hi : Int) (ts : List RT) : RT.cost (.node k s n lo hi ts) = s.size + RT.costs ts + ts.length := by
 simp [RT.cost]; try omega
theorem fitR_of {t : RT} (h : RT.cost t ≤ 1048576) : FitR t := by
 obtain ⟨k, s, n, lo, hi, ts⟩ := t
 rw [cost_node] at h
 unfold FitR maxLen
 simp only [RT.set, RT.kids]
 omega
theorem cost_two (k : Int) (n : Bool) (lo hi : Int) (x y : RT) : RT.cost (.node k ⟨#[]⟩ n lo hi [x, y]) = RT.cost x + RT.cost y + 2 := by
 rw [cost_node]; simp [RT.costs, ByteArray.size]
theorem cost_sole (k : Int) (n : Bool) (lo hi : Int) (x : RT) : RT.cost (.node k ⟨#[]⟩ n lo hi [x]) = RT.cost x + 1 := by
 rw [cost_node]; simp [RT.costs, ByteArray.size]
theorem alt_fact {s : ByteArray} {x y : RT} {i : Int} (h0 : 0 ≤ i) (h1 : i ≤ (s.size : Int)) (ho : RT.ok (.node 4 ⟨#[]⟩ false 0 0 [x, y]) = true) (hx : RT.ok x = true) (hy : RT.ok y = true) :
 matchZ s.data.toList (.node 4 ⟨#[]⟩ false 0 0 [x, y]) i = max (matchZ s.data.toList x i) (matchZ s.data.toList y i) := by
 obtain ⟨k, rfl⟩ : ∃ k : Nat, i = (k : Int) := ⟨i.toNat, by omega⟩
 have hl : s.data.toList.length = s.size := Array.length_toList
 exact matchZ_alt (by omega) ho hx hy
theorem cat_fact {s : ByteArray} {x : RT} {i : Int} (h0 : 0 ≤ i) (h1 : i ≤ (s.size : Int)) (ho : RT.ok (.node 3 ⟨#[]⟩ false 0 0 [.node 0 ⟨#[]⟩ false 0 0 [], x]) = true) (hx : RT.ok x = true) :
 matchZ s.data.toList (.node 3 ⟨#[]⟩ false 0 0 [.node 0 ⟨#[]⟩ false 0 0 [], x]) i = matchZ s.data.toList x i := by
 obtain ⟨k, rfl⟩ : ∃ k : Nat, i = (k : Int) := ⟨i.toNat, by omega⟩
 have hl : s.data.toList.length = s.size := Array.length_toList
 exact matchZ_cat0 (by omega) ho hx
theorem maybe_fact {s : ByteArray} {x : RT} {i : Int} (h0 : 0 ≤ i) (h1 : i ≤ (s.size : Int)) (ho : RT.ok (.node 5 ⟨#[]⟩ false 0 1 [x]) = true) (hx : RT.ok x = true) :
 matchZ s.data.toList (.node 5 ⟨#[]⟩ false 0 1 [x]) i = max (matchZ s.data.toList x i) i := by
 obtain ⟨k, rfl⟩ : ∃ k : Nat, i = (k : Int) := ⟨i.toNat, by omega⟩
 have hl : s.data.toList.length = s.size := Array.length_toList
 exact matchZ_maybe (by omega) ho hx
end Go.Proofs.YtppfnaenamcnpaaDoor.kit
