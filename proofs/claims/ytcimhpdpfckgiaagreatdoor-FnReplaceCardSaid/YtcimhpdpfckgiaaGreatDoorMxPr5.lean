/-
  Contract of impl's reader of sets of bytes over this seat's translation: which bytes there are, and whether they are meant or the others. Conditions: the reader's cells are known.
-/
import Derived.Test.YtcimhpdpfckgiaaGreatDoorMxPr2
import Derived.Laws.Tables
import Derived.Deep.LoopGhost
import Derived.Test.YtcimhpdpfckgiaaGreatDoorShelf
set_option linter.unusedVariables false
open Go.ChangeShapes Go.WideShapes Go.ChangeAt Go.RowKit
namespace Go.Proofs.YtcimhpdpfckgiaaGreatDoor.kit
open PR
theorem Six.cell {w : World} {g0 : Nat} {t : RT} {a : Option Addr} {c : Nat} (h : Six w g0 t a c) (g j : Nat) (hg : g0 ≠ g) (v : Value) : Six (w.setCell ⟨g, j, none⟩ v) g0 t a c := (Below.heap_setCell w ⟨g, j, none⟩ v g0 hg).trans h
theorem OnlyB.cell {B : Nat} {w w' : World} (h : OnlyB B w w') (g j : Nat) (hg : w.heap.size ≤ g) (v : Value) : OnlyB B w (w'.setCell ⟨g, j, none⟩ v) :=
 ⟨h.os, h.tape, h.output, by simpa using h.size, fun k hk hn => (Below.heap_setCell w' ⟨g, j, none⟩ v k (by show k ≠ g; omega)).trans (h.block k hk hn)⟩
theorem Six.below {w w' : World} {g C : Nat} {t : RT} {a : Option Addr} {c : Nat} (h : Six w g t a c) (hb : Below C w w') (hC : g < C) : Six w' g t a c := (hb.block g hC).trans h
theorem OnlyB.and {B C : Nat} {w0 w w' : World} (h : OnlyB B w0 w) (hb : Below C w w') (hC : w0.heap.size ≤ C) : OnlyB B w0 w' :=
 ⟨hb.os.trans h.os, hb.tape.trans h.tape, hb.output.trans h.output, Nat.le_trans h.size hb.size, fun k hk hn => (hb.block k (Nat.lt_of_lt_of_le hk hC)).trans (h.block k hk hn)⟩
theorem OnlyB.setB {B : Nat} {w w' : World} (h : OnlyB B w w') (o : Nat) (v : Value) : OnlyB B w (w'.setCell ⟨B, o, none⟩ v) := h.set o v
end Go.Proofs.YtcimhpdpfckgiaaGreatDoor.kit
namespace Go.Proofs.YtcimhpdpfckgiaaGreatDoor.kit
theorem six_new {w : World} {g : Nat} {t : RT} {a : Option Addr} {c : Nat} {o : Obj} (hg : g = w.heap.size) (ho : o = .cells #[.int .i64 t.kind, .string t.set, .bool t.neg, .int .i64 t.low, .int .i64 t.high, .slice a t.kids.length c] 26) : Six (w.alloc o) g t a c := by
 subst hg ho; exact heap_alloc_new _ _
end Go.Proofs.YtcimhpdpfckgiaaGreatDoor.kit
