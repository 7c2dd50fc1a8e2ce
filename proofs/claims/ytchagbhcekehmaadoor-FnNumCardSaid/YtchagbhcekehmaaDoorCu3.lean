/-
  Contracts of what draws numbers over this seat's translation: spec.l02Num, spec.l02Two. Conditions: the cursor is one; the code's bytes are known.
-/
import Derived.Test.YtchagbhcekehmaaDoorCu2
namespace Go.Proofs.YtchagbhcekehmaaDoor.kit
open Go.ChangeShapes Go.WideShapes Go.ChangeAt Go.RowKit
set_option linter.unusedVariables false

def I64 (x : Int) : Prop := -9223372036854775808 ≤ x ∧ x ≤ 9223372036854775807
theorem OnlyB.alloc {B : Nat} {w w' : World} (h : OnlyB B w w') (o : Obj) : OnlyB B w (w'.alloc o) :=
  h.trans ⟨rfl, rfl, rfl, by simp, fun j hj _ => ((Below.refl w'.heap.size w').alloc (Nat.le_refl _) o).block j hj⟩
theorem CurE.alloc {w : World} {B : Nat} (h : CurE w B) (o : Obj) : CurE (w.alloc o) B := h.kept (C := w.heap.size) ((Below.refl _ _).alloc (Nat.le_refl _) o) h.lt
theorem listI_alloc {P : Int → Prop} (zs : List Int) (T : TypeId) (w : World) (cs : Array Value) (e : cs = (zs.map (Value.int .i64)).toArray) (hP : ∀ z ∈ zs, P z) : ListI P (w.alloc (.cells cs T)) w.heap.size zs.length := by
  refine ⟨by simp, fun j hj => ⟨zs[j], hP _ (List.getElem_mem hj), ?_⟩⟩
  rw [World.cell?_alloc_new, e]
  simp [hj]
theorem listS_alloc {P : ByteArray → Prop} (zs : List ByteArray) (T : TypeId) (w : World) (cs : Array Value) (e : cs = (zs.map Value.string).toArray) (hP : ∀ z ∈ zs, P z) : ListS P (w.alloc (.cells cs T)) w.heap.size zs.length := by
  refine ⟨by simp, fun j hj => ⟨zs[j], hP _ (List.getElem_mem hj), ?_⟩⟩
  rw [World.cell?_alloc_new, e]
  simp [hj]
set_option maxRecDepth 100000 in
set_option maxHeartbeats 1000000 in
theorem num_any (B : Nat) (w : World) (hc : CurE w B) :
    Calls Tryd.prog 65 #[.pointer (some ⟨B, 0, none⟩)] w (GotI I64 B w) := by
  go_enter Tryd.func65, Tryd.ntmps65
  go_wp2_with fail
  refine (below_any B 100 _ hc (by omega) (by omega)).mono ?_
  rintro e w1 ⟨x, ⟨x0, x1⟩, rfl, c1, o1⟩
  have n1 : w1.heap.size ≠ B := by have := c1.lt; omega
  go_wp2_with fail
  refine (pickInt_any (fun z => 0 ≤ z ∧ z ≤ 1000000000000) B w1.heap.size 13 _ _ (c1.alloc _) (listI_alloc [0, 1, 500000, 1000000, 1500000, 3000000, 2000001, 123456789, 999999999999, 1000000000000, 7, 10000000, x * 1000000] _ _ _ rfl (by intro z hz; simp at hz; omega)) n1 (by omega) (by omega)).mono ?_
  rintro e w2 ⟨y, ⟨y0, y1⟩, rfl, c2, o2⟩
  have O2 := Lib.hid ((o1.alloc _).trans o2)
  clear o1 o2
  go_wp2_with fail
  refine (once_any B 3 _ c2 (by omega) (by omega)).mono ?_
  rintro e w3 ⟨b, rfl, c3, o3⟩
  cases b
  all_goals
    go_wp2_with fail
    refine (once_any B 20 _ c3 (by omega) (by omega)).mono ?_
    rintro e w4 ⟨b2, rfl, c4, o4⟩
    have O4 := Lib.hid ((O2.out.trans o3).trans o4)
    clear o3 o4
    cases b2
    · go_wp2
      go_ret
      exact ⟨_, ⟨by omega, by omega⟩, rfl, c4, O4.out⟩
    · have n4 : w4.heap.size ≠ B := by have := c4.lt; omega
      go_wp2_with fail
      refine (pickInt_any I64 B w4.heap.size 4 _ _ (c4.alloc _) (listI_alloc [1000000000001, -1000000000001, 9223372036854775807, -9223372036854775808] _ _ _ rfl (by intro z hz; unfold I64; simp at hz; omega)) n4 (by omega) (by omega)).mono ?_
      rintro e w5 ⟨z, hz, rfl, c5, o5⟩
      go_wp2
      go_ret
      exact ⟨_, hz, rfl, c5, (O4.out.alloc _).trans o5⟩
def GotII (w : World) (e : Ending) (w' : World) : Prop := ∃ x y : Int, I64 x ∧ I64 y ∧ e = .returned (.tuple #[.int .i64 x, .int .i64 y]) ∧ Below w.heap.size w w'
end Go.Proofs.YtchagbhcekehmaaDoor.kit
