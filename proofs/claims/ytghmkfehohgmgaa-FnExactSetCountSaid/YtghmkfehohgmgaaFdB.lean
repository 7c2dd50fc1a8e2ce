/-
  A box of a record's two cells, kept by calls that write nothing there; two such boxes. Conditions: each theorem names its own.
-/
import Derived.Test.YtghmkfehohgmgaaFd2
namespace Go.Proofs.Ytghmkfehohgmgaa.kit
open Go.ChangeShapes Go.WideShapes Go.ChangeAt Go.RowKit
set_option linter.unusedVariables false

def Bx2 (p : Nat) (s : ByteArray) (a : Option Addr) (n c : Nat) (w : World) : Prop := (w.cell? ⟨p, 0, none⟩ = some (.string s) ∧ w.cell? ⟨p, 1, none⟩ = some (.slice a n c)) ∧ p < w.heap.size
theorem Bx2.step {p : Nat} {s : ByteArray} {a : Option Addr} {n c : Nat} {w w' : World} (h : Bx2 p s a n c w) (hb : Below w.heap.size w w') : Bx2 p s a n c w' := by
  obtain ⟨⟨h0, h1⟩, q⟩ := h
  have e : ∀ j, w'.cell? ⟨p, j, none⟩ = w.cell? ⟨p, j, none⟩ := fun j => hb.cell (p := ⟨p, j, none⟩) q
  exact ⟨⟨(e _).trans h0, (e _).trans h1⟩, Nat.lt_of_lt_of_le q hb.size⟩
theorem Bx2.start {s : ByteArray} {a : Option Addr} {n c : Nat} (w : World) (T : TypeId) : Bx2 w.heap.size s a n c (w.alloc (.cells #[.string s, .slice a n c] T)) := by
  refine ⟨⟨?_, ?_⟩, by simp⟩ <;> (rw [World.cell?_alloc_at _ _ _ _ rfl]; rfl)
/-- Two boxes, and nothing below a world's end is changed. -/
def Two2 (p q : Nat) (s : ByteArray) (a : Option Addr) (n c : Nat) (s2 : ByteArray) (a2 : Option Addr) (n2 c2 : Nat) (W w : World) : Prop := ((w.cell? ⟨p, 0, none⟩ = some (.string s) ∧ w.cell? ⟨p, 1, none⟩ = some (.slice a n c)) ∧ (w.cell? ⟨q, 0, none⟩ = some (.string s2) ∧ w.cell? ⟨q, 1, none⟩ = some (.slice a2 n2 c2))) ∧ (p < w.heap.size ∧ q < w.heap.size) ∧ Below W.heap.size W w
theorem Two2.step {p q : Nat} {s : ByteArray} {a : Option Addr} {n c : Nat} {s2 : ByteArray} {a2 : Option Addr} {n2 c2 : Nat} {W w w' : World} (h : Two2 p q s a n c s2 a2 n2 c2 W w) (hb : Below w.heap.size w w') : Two2 p q s a n c s2 a2 n2 c2 W w' :=
  ⟨⟨(Bx2.step ⟨h.1.1, h.2.1.1⟩ hb).1, (Bx2.step ⟨h.1.2, h.2.1.2⟩ hb).1⟩, ⟨Nat.lt_of_lt_of_le h.2.1.1 hb.size, Nat.lt_of_lt_of_le h.2.1.2 hb.size⟩, h.2.2.trans (hb.mono h.2.2.size)⟩
theorem Two2.start {p q : Nat} {s : ByteArray} {a : Option Addr} {n c : Nat} {s2 : ByteArray} {a2 : Option Addr} {n2 c2 : Nat} {W : World} (h : Bx2 p s a n c W) (h2 : Bx2 q s2 a2 n2 c2 W) : Two2 p q s a n c s2 a2 n2 c2 W W.drew :=
  ⟨⟨h.1, h2.1⟩, ⟨h.2, h2.2⟩, (Below.refl _ _).drew⟩
theorem Two2.below {p q : Nat} {s : ByteArray} {a : Option Addr} {n c : Nat} {s2 : ByteArray} {a2 : Option Addr} {n2 c2 : Nat} {W w : World} (h : Two2 p q s a n c s2 a2 n2 c2 W w) : Below W.heap.size W w := h.2.2
theorem SlF.drew {B : Nat} {w : World} {a : Option Addr} {n : Nat} {f : Nat → List UInt8} (h : SlF B w a n f) : SlF B w.drew a n f := h.kept (Below.refl _ _).drew
theorem SlF.alloc {B : Nat} {w : World} {a : Option Addr} {n : Nat} {f : Nat → List UInt8} (h : SlF B w a n f) (o : Obj) : SlF B (w.alloc o) a n f := h.kept ((Below.refl _ _).alloc (Nat.le_refl _) _)
theorem Strs.alloc {w : World} {xs : List (List UInt8)} {a : Option Addr} (h : Strs w xs a) (o : Obj) : Strs (w.alloc o) xs a := h.kept (Nat.le_refl _) ((Below.refl _ _).alloc (Nat.le_refl _) _)
end Go.Proofs.Ytghmkfehohgmgaa.kit
