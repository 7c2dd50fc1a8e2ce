/-
  Contracts of what draws numbers over this seat's translation: spec.l02Num, spec.l02Two. Conditions: the cursor is one; the code's bytes are known.
-/
import Derived.Test.YtalobgebdpaecaaCu2
namespace Go.Proofs.Ytalobgebdpaecaa.kit
open Go.ChangeShapes Go.WideShapes Go.ChangeAt Go.RowKit
set_option linter.unusedVariables false

def I64 (x : Int) : Prop := -9223372036854775808 ≤ x ∧ x ≤ 9223372036854775807
theorem OnlyB.alloc {B : Nat} {w w' : World} (h : OnlyB B w w') (o : Obj) : OnlyB B w (w'.alloc o) :=
  h.trans ⟨rfl, rfl, rfl, by simp, fun j hj _ => ((Below.refl w'.heap.size w').alloc (Nat.le_refl _) o).block j hj⟩
theorem CurE.alloc {w : World} {B : Nat} (h : CurE w B) (o : Obj) : CurE (w.alloc o) B := h.kept (C := w.heap.size) ((Below.refl _ _).alloc (Nat.le_refl _) o) h.lt
theorem listI_alloc {P : Int → Prop} (zs : List Int) (T : TypeId) (w : World) (cs : Array Value) (e : cs = (zs.map (Value.int .i64)).toArray) (hP : ∀ z ∈ zs, P z) : ListI P (w.alloc (.cells cs T)) w.heap.size zs.length := by
  refine ⟨by simp, fun j hj => ⟨zs[j], hP _ (List.getElem_mem hj), ?_⟩⟩
  rw [World.cell?_alloc_new, e]
  simp [hj]
theorem listS_alloc {P : ByteArray → Prop} (zs : List ByteArray) (T : TypeId) (w : World) (cs : Array Value) (e : cs = (zs.map Value.string).toArray) (hP : ∀ z ∈ zs, P z) : ListS P (w.alloc (.cells cs T)) w.heap.size zs.length := by
  refine ⟨by simp, fun j hj => ⟨zs[j], hP _ (List.getElem_mem hj), ?_⟩⟩
  rw [World.cell?_alloc_new, e]
  simp [hj]
def GotII (w : World) (e : Ending) (w' : World) : Prop := ∃ x y : Int, I64 x ∧ I64 y ∧ e = .returned (.tuple #[.int .i64 x, .int .i64 y]) ∧ Below w.heap.size w w'
end Go.Proofs.Ytalobgebdpaecaa.kit
