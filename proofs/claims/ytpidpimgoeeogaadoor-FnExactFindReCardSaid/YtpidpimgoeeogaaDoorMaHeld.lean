/-
 Cells that keep their values while calls change nothing of what is there; of no program. Conditions: each theorem names its own.
-/
import Derived.Test.YtpidpimgoeeogaaDoorMaKit
namespace Go.Proofs.YtpidpimgoeeogaaDoor.kit
open Go.ChangeShapes Go.WideShapes Go.ChangeAt Go.RowKit
set_option linter.unusedVariables false

def CellsAre (w : World) : List (Nat × Nat × Value) → Prop
 | [] => True
 | x :: l => w.cell? ⟨x.1, x.2.1, none⟩ = some x.2.2 ∧ CellsAre w l
theorem CellsAre.step {w w' : World} (hb : Below w.heap.size w w') : ∀ (l : List (Nat × Nat × Value)), CellsAre w l → CellsAre w' l
 | [], _ => trivial
 | x :: l, h => ⟨(hb.cell (p := ⟨x.1, x.2.1, none⟩) (World.block_lt_of_cell? w ⟨x.1, x.2.1, none⟩ h.1)).trans h.1, CellsAre.step hb l h.2⟩
theorem CellsAre.drew {w : World} : ∀ (l : List (Nat × Nat × Value)), CellsAre w l → CellsAre w.drew l
 | [], _ => trivial
 | x :: l, h => ⟨h.1, CellsAre.drew l h.2⟩
/-- Such cells, and nothing of W is changed. -/
def Held (W : World) (l : List (Nat × Nat × Value)) (w : World) : Prop := CellsAre w l ∧ Below W.heap.size W w
theorem Held.start {W : World} {l : List (Nat × Nat × Value)} (h : CellsAre W l) : Held W l W.drew := ⟨CellsAre.drew l h, (Below.refl _ _).drew⟩
theorem Held.step {W w w' : World} {l : List (Nat × Nat × Value)} (h : Held W l w) (hb : Below w.heap.size w w') : Held W l w' := ⟨CellsAre.step hb l h.1, h.2.trans (hb.mono h.2.size)⟩
theorem Held.below {W w : World} {l : List (Nat × Nat × Value)} (h : Held W l w) : Below W.heap.size W w := h.2
end Go.Proofs.YtpidpimgoeeogaaDoor.kit
