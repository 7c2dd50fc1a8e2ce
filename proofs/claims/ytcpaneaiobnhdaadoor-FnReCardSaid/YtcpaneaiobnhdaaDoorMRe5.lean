/-
 Contracts of laws.eqReS and laws.eqRe over this seat's translation: two copies of a tree are told to be the same. Conditions: each theorem names its own.
-/
import Derived.Test.YtcpaneaiobnhdaaDoorMRe1
import Derived.Deep.RegionHeld3
namespace Go.Proofs.YtcpaneaiobnhdaaDoor.kit
open Go.ChangeShapes Go.WideShapes Go.ChangeAt Go.RowKit
set_option linter.unusedVariables false

def Twelve (b o b' o' k : Nat) (t : RT) (a1 a2 : Option Addr) (c1 c2 : Nat) (w W : World) : Prop := (W.cell? ⟨b, o + k * 6, none⟩ = some (.int .i64 t.kind) ∧ W.cell? ⟨b, o + k * 6 + 1, none⟩ = some (.string t.set) ∧ W.cell? ⟨b, o + k * 6 + 2, none⟩ = some (.bool t.neg) ∧ W.cell? ⟨b, o + k * 6 + 3, none⟩ = some (.int .i64 t.low) ∧ W.cell? ⟨b, o + k * 6 + 4, none⟩ = some (.int .i64 t.high) ∧ W.cell? ⟨b, o + k * 6 + 5, none⟩ = some (.slice a1 t.kids.length c1) ∧ W.cell? ⟨b', o' + k * 6, none⟩ = some (.int .i64 t.kind) ∧ W.cell? ⟨b', o' + k * 6 + 1, none⟩ = some (.string t.set) ∧ W.cell? ⟨b', o' + k * 6 + 2, none⟩ = some (.bool t.neg) ∧ W.cell? ⟨b', o' + k * 6 + 3, none⟩ = some (.int .i64 t.low) ∧ W.cell? ⟨b', o' + k * 6 + 4, none⟩ = some (.int .i64 t.high) ∧ W.cell? ⟨b', o' + k * 6 + 5, none⟩ = some (.slice a2 t.kids.length c2)) ∧ (b < W.heap.size ∧ b' < W.heap.size) ∧ Below w.heap.size w W
theorem Twelve.start {b o b' o' k : Nat} {t : RT} {a1 a2 : Option Addr} {c1 c2 : Nat} {w W : World} (h : Twelve b o b' o' k t a1 a2 c1 c2 w W) : Twelve b o b' o' k t a1 a2 c1 c2 w W.drew := ⟨h.1, h.2.1, h.2.2.drew⟩
theorem Twelve.step {b o b' o' k : Nat} {t : RT} {a1 a2 : Option Addr} {c1 c2 : Nat} {w W W' : World} (h : Twelve b o b' o' k t a1 a2 c1 c2 w W) (hb : Below W.heap.size W W') : Twelve b o b' o' k t a1 a2 c1 c2 w W' := by
 obtain ⟨⟨h0, h1, h2, h3, h4, h5, g0, g1, g2, g3, g4, g5⟩, ⟨q, q'⟩, hB⟩ := h
 have e : ∀ j, W'.cell? ⟨b, j, none⟩ = W.cell? ⟨b, j, none⟩ := fun j => hb.cell (p := ⟨b, j, none⟩) q
 have e' : ∀ j, W'.cell? ⟨b', j, none⟩ = W.cell? ⟨b', j, none⟩ := fun j => hb.cell (p := ⟨b', j, none⟩) q'
 exact ⟨⟨(e _).trans h0, (e _).trans h1, (e _).trans h2, (e _).trans h3, (e _).trans h4, (e _).trans h5, (e' _).trans g0, (e' _).trans g1, (e' _).trans g2, (e' _).trans g3, (e' _).trans g4, (e' _).trans g5⟩, ⟨Nat.lt_of_lt_of_le q hb.size, Nat.lt_of_lt_of_le q' hb.size⟩, hB.trans (hb.mono hB.size)⟩
theorem Twelve.below {b o b' o' k : Nat} {t : RT} {a1 a2 : Option Addr} {c1 c2 : Nat} {w W : World} (h : Twelve b o b' o' k t a1 a2 c1 c2 w W) : Below w.heap.size w W := h.2.2
end Go.Proofs.YtcpaneaiobnhdaaDoor.kit
/-
 A box of an expression's six cells, kept by calls that write nothing there. Conditions: each theorem names its own.
-/
namespace Go.Proofs.YtcpaneaiobnhdaaDoor.kit
open Go.ChangeShapes Go.WideShapes Go.ChangeAt Go.RowKit
set_option linter.unusedVariables false

theorem laidOutR : laidOutB Tryd.pinned.checked.prog = true := by kernel_rfl
def Box (p : Nat) (k : Int) (s : ByteArray) (n : Bool) (lo hi : Int) (ts : List RT) (a : Option Addr) (cap : Nat) (w : World) : Prop := (w.cell? ⟨p, 0, none⟩ = some (.int .i64 k) ∧ w.cell? ⟨p, 1, none⟩ = some (.string s) ∧ w.cell? ⟨p, 2, none⟩ = some (.bool n) ∧ w.cell? ⟨p, 3, none⟩ = some (.int .i64 lo) ∧ w.cell? ⟨p, 4, none⟩ = some (.int .i64 hi) ∧ w.cell? ⟨p, 5, none⟩ = some (.slice a ts.length cap)) ∧ p < w.heap.size
theorem Box.step {p : Nat} {k : Int} {s : ByteArray} {n : Bool} {lo hi : Int} {ts : List RT} {a : Option Addr} {cap : Nat} {w w' : World} (h : Box p k s n lo hi ts a cap w) (hb : Below w.heap.size w w') : Box p k s n lo hi ts a cap w' := by
 obtain ⟨⟨h0, h1, h2, h3, h4, h5⟩, q⟩ := h
 have e : ∀ j, w'.cell? ⟨p, j, none⟩ = w.cell? ⟨p, j, none⟩ := fun j => hb.cell (p := ⟨p, j, none⟩) q
 exact ⟨⟨(e _).trans h0, (e _).trans h1, (e _).trans h2, (e _).trans h3, (e _).trans h4, (e _).trans h5⟩, Nat.lt_of_lt_of_le q hb.size⟩
theorem Box.drew {p : Nat} {k : Int} {s : ByteArray} {n : Bool} {lo hi : Int} {ts : List RT} {a : Option Addr} {cap : Nat} {w : World} (h : Box p k s n lo hi ts a cap w) : Box p k s n lo hi ts a cap w.drew := ⟨h.1, h.2⟩
theorem Box.start {k : Int} {s : ByteArray} {n : Bool} {lo hi : Int} {ts : List RT} {a : Option Addr} {cap : Nat} (w : World) (T : TypeId) : Box w.heap.size k s n lo hi ts a cap (w.alloc (.cells #[.int .i64 k, .string s, .bool n, .int .i64 lo, .int .i64 hi, .slice a ts.length cap] T)) := by
 refine ⟨⟨?_, ?_, ?_, ?_, ?_, ?_⟩, by simp⟩ <;> (rw [World.cell?_alloc_at _ _ _ _ rfl]; rfl)
/-- Two boxes, and nothing below a world's end is changed. -/
def Two6 (p q : Nat) (k : Int) (s : ByteArray) (n : Bool) (lo hi : Int) (ts : List RT) (a : Option Addr) (cap : Nat) (a2 : Option Addr) (cap2 : Nat) (W w : World) : Prop := ((w.cell? ⟨p, 0, none⟩ = some (.int .i64 k) ∧ w.cell? ⟨p, 1, none⟩ = some (.string s) ∧ w.cell? ⟨p, 2, none⟩ = some (.bool n) ∧ w.cell? ⟨p, 3, none⟩ = some (.int .i64 lo) ∧ w.cell? ⟨p, 4, none⟩ = some (.int .i64 hi) ∧ w.cell? ⟨p, 5, none⟩ = some (.slice a ts.length cap)) ∧ (w.cell? ⟨q, 0, none⟩ = some (.int .i64 k) ∧ w.cell? ⟨q, 1, none⟩ = some (.string s) ∧ w.cell? ⟨q, 2, none⟩ = some (.bool n) ∧ w.cell? ⟨q, 3, none⟩ = some (.int .i64 lo) ∧ w.cell? ⟨q, 4, none⟩ = some (.int .i64 hi) ∧ w.cell? ⟨q, 5, none⟩ = some (.slice a2 ts.length cap2))) ∧ (p < w.heap.size ∧ q < w.heap.size) ∧ Below W.heap.size W w
theorem Two6.step {p q : Nat} {k : Int} {s : ByteArray} {n : Bool} {lo hi : Int} {ts : List RT} {a : Option Addr} {cap : Nat} {a2 : Option Addr} {cap2 : Nat} {W w w' : World} (h : Two6 p q k s n lo hi ts a cap a2 cap2 W w) (hb : Below w.heap.size w w') : Two6 p q k s n lo hi ts a cap a2 cap2 W w' :=
 ⟨⟨(Box.step ⟨h.1.1, h.2.1.1⟩ hb).1, (Box.step ⟨h.1.2, h.2.1.2⟩ hb).1⟩, ⟨Nat.lt_of_lt_of_le h.2.1.1 hb.size, Nat.lt_of_lt_of_le h.2.1.2 hb.size⟩, h.2.2.trans (hb.mono h.2.2.size)⟩
theorem Two6.start {p q : Nat} {k : Int} {s : ByteArray} {n : Bool} {lo hi : Int} {ts : List RT} {a : Option Addr} {cap : Nat} {a2 : Option Addr} {cap2 : Nat} {W : World} (h : Box p k s n lo hi ts a cap W) (h2 : Box q k s n lo hi ts a2 cap2 W) : Two6 p q k s n lo hi ts a cap a2 cap2 W W.drew :=
 ⟨⟨h.1, h2.1⟩, ⟨h.2, h2.2⟩, (Below.refl _ _).drew⟩
theorem Two6.below {p q : Nat} {k : Int} {s : ByteArray} {n : Bool} {lo hi : Int} {ts : List RT} {a : Option Addr} {cap : Nat} {a2 : Option Addr} {cap2 : Nat} {W w : World} (h : Two6 p q k s n lo hi ts a cap a2 cap2 W w) : Below W.heap.size W w := h.2.2
end Go.Proofs.YtcpaneaiobnhdaaDoor.kit
