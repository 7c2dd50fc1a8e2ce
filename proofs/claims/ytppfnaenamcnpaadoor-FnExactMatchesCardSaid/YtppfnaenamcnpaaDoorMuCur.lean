/-
  Contract of spec.l01Byte, the draws' cursor, over this seat's translation: it tells a number of 0 .. 255, goes on by one state, and turns nothing but the cursor. Conditions: the cursor and the bytes that it goes over are known.
-/
import Derived.Test.YtppfnaenamcnpaaDoorMuInfo
import Derived.Test.YtppfnaenamcnpaaDoorMuKit
import Derived.Deep.QuietTactic
import Derived.BigQuiet
import Derived.IntWalk
set_option linter.unusedVariables false
namespace Go.Proofs.YtppfnaenamcnpaaDoor.kit
open Go.ChangeShapes Go.WideShapes Go.ChangeAt Go.RowKit
def CodeOk (w : World) (B : Nat) (a : Option Addr) (n : Nat) : Prop :=
 ∀ j, j < n → ∃ (b off : Nat) (c : Int), a = some ⟨b, off, none⟩ ∧ b < B ∧ w.cell? ⟨b, off + j, none⟩ = some (.int .u8 c) ∧ 0 ≤ c ∧ c ≤ 255
theorem CodeOk.kept {w w' : World} {B C : Nat} {a : Option Addr} {n : Nat} (h : CodeOk w B a n) (hb : Below B w w') (hC : B ≤ C) : CodeOk w' C a n := by
 intro j hj
 obtain ⟨b, off, c, e, h1, h2, h3⟩ := h j hj
 exact ⟨b, off, c, e, Nat.lt_of_lt_of_le h1 hC, (hb.cell (p := ⟨b, off + j, none⟩) h1).trans h2, h3⟩
structure Cur (w : World) (B : Nat) (a : Option Addr) (n cap : Nat) (i : Nat) (h : Int) : Prop where
 lt : B < w.heap.size
 c0 : w.cell? ⟨B, 0, none⟩ = some (.slice a n cap)
 c1 : w.cell? ⟨B, 1, none⟩ = some (.int .i64 (i : Int))
 c2 : w.cell? ⟨B, 2, none⟩ = some (.int .i64 h)
 f1 : w.frozen? ⟨B, 1, none⟩ = false
 f2 : w.frozen? ⟨B, 2, none⟩ = false
 le : i ≤ n
 nle : n ≤ 1048576
 code : CodeOk w B a n
def OnlyB (B : Nat) (w w' : World) : Prop := w.grownBy w' (some B)
theorem OnlyB.below {B : Nat} {w w' : World} (h : OnlyB B w w') (hB : B < w.heap.size) : Below B w w' :=
 Below.grown (Below.refl _ _) h (Nat.le_of_lt hB) (fun k e => by cases e; exact Nat.le_refl _)
theorem OnlyB.drewN {B : Nat} {w w' : World} (h : OnlyB B w w') (n : Nat) : OnlyB B w (w'.drewN n) := ⟨h.os, h.tape, h.output, h.size, h.block⟩
theorem OnlyB.refl (B : Nat) (w : World) : OnlyB B w w := World.grownBy.refl w _
theorem OnlyB.trans {B : Nat} {x y z : World} (h : OnlyB B x y) (k : OnlyB B y z) : OnlyB B x z :=
 ⟨k.os.trans h.os, k.tape.trans h.tape, k.output.trans h.output, Nat.le_trans h.size k.size, fun j hj hn => (k.block j (Nat.lt_of_lt_of_le hj h.size) hn).trans (h.block j hj hn)⟩
theorem OnlyB.set {B : Nat} {w w' : World} (h : OnlyB B w w') (o : Nat) (v : Value) : OnlyB B w (w'.setCell ⟨B, o, none⟩ v) :=
 h.trans ⟨rfl, rfl, rfl, by simp, fun j _ hn => Below.heap_setCell _ _ _ j (fun e => hn (by rw [e]))⟩
def bt (H : Int) : Int := (bits .xor .i64 (H / 8589934592) (H / 35184372088832)) % 256
theorem Cur.drewN {w : World} {B : Nat} {a : Option Addr} {n cap i : Nat} {h : Int} (c : Cur w B a n cap i h) (k : Nat) : Cur (w.drewN k) B a n cap i h :=
 ⟨c.lt, c.c0, c.c1, c.c2, c.f1, c.f2, c.le, c.nle, c.code⟩
end Go.Proofs.YtppfnaenamcnpaaDoor.kit
