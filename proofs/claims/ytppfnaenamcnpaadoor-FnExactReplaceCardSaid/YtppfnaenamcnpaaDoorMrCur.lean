/-
  Contract of spec.l01Byte, the draws' cursor, over this seat's translation: it tells a number of 0 .. 255, goes on by one state, and turns nothing but the cursor. Conditions: the cursor and the bytes that it goes over are known.
-/
import Derived.Test.YtppfnaenamcnpaaDoorMrInfo
import Derived.Test.YtppfnaenamcnpaaDoorMrKit
import Derived.Deep.QuietTactic
import Derived.BigQuiet
import Derived.IntWalk
set_option linter.unusedVariables false
namespace Go.Proofs.YtppfnaenamcnpaaDoor.kit
open Go.ChangeShapes Go.WideShapes Go.ChangeAt Go.RowKit
def OnlyB (B : Nat) (w w' : World) : Prop := w.grownBy w' (some B)
theorem OnlyB.below {B : Nat} {w w' : World} (h : OnlyB B w w') (hB : B < w.heap.size) : Below B w w' :=
 Below.grown (Below.refl _ _) h (Nat.le_of_lt hB) (fun k e => by cases e; exact Nat.le_refl _)
theorem OnlyB.drewN {B : Nat} {w w' : World} (h : OnlyB B w w') (n : Nat) : OnlyB B w (w'.drewN n) := ⟨h.os, h.tape, h.output, h.size, h.block⟩
theorem OnlyB.refl (B : Nat) (w : World) : OnlyB B w w := World.grownBy.refl w _
theorem OnlyB.trans {B : Nat} {x y z : World} (h : OnlyB B x y) (k : OnlyB B y z) : OnlyB B x z :=
 ⟨k.os.trans h.os, k.tape.trans h.tape, k.output.trans h.output, Nat.le_trans h.size k.size, fun j hj hn => (k.block j (Nat.lt_of_lt_of_le hj h.size) hn).trans (h.block j hj hn)⟩
theorem OnlyB.set {B : Nat} {w w' : World} (h : OnlyB B w w') (o : Nat) (v : Value) : OnlyB B w (w'.setCell ⟨B, o, none⟩ v) :=
 h.trans ⟨rfl, rfl, rfl, by simp, fun j _ hn => Below.heap_setCell _ _ _ j (fun e => hn (by rw [e]))⟩
def bt (H : Int) : Int := (bits .xor .i64 (H / 8589934592) (H / 35184372088832)) % 256
end Go.Proofs.YtppfnaenamcnpaaDoor.kit
