/-
  Contracts of impl's reader of expressions for texts, its small methods, over this seat's translation: sees, take, next, digit, seesRange. Conditions: the reader's cells are known.
-/
import Derived.Test.YtppfnaenamcnpaaDoorMuPr0
import Derived.Test.YtppfnaenamcnpaaDoorMuCur
set_option linter.unusedVariables false
namespace Go.Proofs.YtppfnaenamcnpaaDoor.kit
open Go.ChangeShapes Go.WideShapes Go.ChangeAt Go.RowKit
structure Rdr (w : World) (B : Nat) (s : ByteArray) (i : Nat) (op : Int) : Prop where
 lt : B < w.heap.size
 c0 : w.cell? ⟨B, 0, none⟩ = some (.string s)
 c1 : w.cell? ⟨B, 1, none⟩ = some (.int .i64 (i : Int))
 c2 : w.cell? ⟨B, 2, none⟩ = some (.int .i64 op)
 f1 : w.frozen? ⟨B, 1, none⟩ = false
 f2 : w.frozen? ⟨B, 2, none⟩ = false
theorem Rdr.drewN {w : World} {B : Nat} {s : ByteArray} {i : Nat} {op : Int} (c : Rdr w B s i op) (k : Nat) : Rdr (w.drewN k) B s i op := ⟨c.lt, c.c0, c.c1, c.c2, c.f1, c.f2⟩
theorem Rdr.kept {w w' : World} {B : Nat} {s : ByteArray} {i : Nat} {op : Int} (c : Rdr w B s i op) (h : Below w.heap.size w w') : Rdr w' B s i op :=
 ⟨Nat.lt_of_lt_of_le c.lt h.size, (h.cell (p := ⟨B, 0, none⟩) c.lt).trans c.c0, (h.cell (p := ⟨B, 1, none⟩) c.lt).trans c.c1, (h.cell (p := ⟨B, 2, none⟩) c.lt).trans c.c2, (h.frozen (p := ⟨B, 1, none⟩) c.lt).trans c.f1, (h.frozen (p := ⟨B, 2, none⟩) c.lt).trans c.f2⟩
end Go.Proofs.YtppfnaenamcnpaaDoor.kit
