/-
  The library's table by which bits are told, as this seat's rows list it, and the contract of math/bits.TrailingZeros64 over this seat's translation under it. Conditions: the table's cells are as listed.
-/
import Derived.Test.YthffjcclcladoaaGreatDoorMKit
import Derived.Test.YthffjcclcladoaaGreatDoorRows
import Derived.Lib.LaidTab
import Derived.Lib.SmallJoins
import Derived.Deep.DeepHandedRow
import Derived.Lay
import Derived.LaidSub
import Derived.Shelf.Spec.TrailingZeros
namespace Go.Proofs.YthffjcclcladoaaGreatDoor.kit
open Go.ChangeShapes Go.WideShapes Go.ChangeAt Go.RowKit
set_option linter.unusedVariables false

theorem wrap_u64b (n : Int) (h0 : 0 ≤ n) (h : n < 18446744073709551616) : IntKind.u64.wrap n = n := by
  unfold IntKind.wrap
  simp [IntKind.signed, IntKind.bits]
  omega
/-- The table lies in its variable. -/
def BT (w : World) : Prop := ∀ j, j < 64 → w.cell? ⟨0, j, none⟩ = some (.int .u8 ((Lib.deBruijn64tab.getD j 0 : Nat) : Int))
theorem BT.lt {w : World} (h : BT w) : 0 < w.heap.size := World.block_lt_of_cell? w ⟨0, 0, none⟩ (h 0 (by omega))
theorem BT.of {w w' : World} (h : BT w) (hb : w'.heap[0]? = w.heap[0]?) : BT w' := fun j hj => (World.cell?_of_block (a := ⟨0, j, none⟩) hb).trans (h j hj)
theorem BT.kept {w w' : World} (h : BT w) (hb : Below w.heap.size w w') : BT w' := h.of (hb.block _ h.lt)
set_option maxHeartbeats 1000000 in
theorem tz_core (x k idx : Nat) (w : World) (hx0 : ((x : Int) == 0) = false)
    (key : IntKind.u64.wrap (bits BinOp.and IntKind.u64 (x : Int) (IntKind.u64.wrap (-(x : Int))) * 285870213051353865) / 288230376151711744 = (idx : Int))
    (hi : idx < 64) (hk : k < 64) (hcell : w.cell? ⟨0, idx, none⟩ = some (.int .u8 (k : Int))) :
    Calls Tryz.prog 119 #[.int .u64 (x : Int)] w fun e w' => e = .returned (.int .i64 (k : Int)) ∧ w = w' := by
  go_enter Tryz.func119, Tryz.ntmps119
  go_wp2_with (simp only [key])
  go_ret
  exact ⟨rfl, rfl⟩
theorem tz_any (x : Nat) (hx : x < 2 ^ 64) (hx0 : x ≠ 0) (w : World) (hT : BT w) :
    Calls Tryz.prog 119 #[.int .u64 (x : Int)] w fun e w' => e = .returned (.int .i64 (Lib.ctz 64 x : Int)) ∧ w = w' := by
  obtain ⟨hlow, hk⟩ := Lib.lowest_bit 64 x hx0 hx
  obtain ⟨hi, htab⟩ := Lib.deBruijn64_at _ hk
  have hcell := hT _ hi
  rw [htab] at hcell
  exact tz_core x _ _ w (by simp; omega) (tz64_key x _ hx hx0 hlow) hi hk hcell
theorem gBits : Tryz.prog.globalNamed "math/bits.deBruijn64tab" = some 0 := by kernel_rfl
theorem gBitsType : (Tryz.prog.globals[0]?).map (·.type) = some 200 := by kernel_rfl
theorem cellsB64 : Tryz.prog.cellsOf 200 = 64 := by kernel_rfl
theorem cellsB1 : Tryz.prog.cellsOf 5 = 1 := by kernel_rfl
theorem bt_of {laid : List (String × DataW Unit)} {W : World} (h : laidMet Tryz.prog laid W) (e : laid.filter (fun x => x.1 == "math/bits.deBruijn64tab") = [("math/bits.deBruijn64tab", Lib.tabData .u8 (Lib.deBruijn64tab.map fun n : Nat => (n : Int)))]) : BT W := by
  have h2 := h.filter (fun x => x.1 == "math/bits.deBruijn64tab")
  rw [e] at h2
  have h3 := Lib.tabIs_of_head (rest := []) gBits gBitsType Tryz.underlying200 Tryz.underlying5 cellsB1 cellsB64 h2
  intro j hj
  have hl : (Lib.deBruijn64tab.map fun n : Nat => (n : Int)).length = 64 := by decide
  have h4 := h3.cell gBits j (by omega)
  rw [h4, List.getD_eq_getElem?_getD, List.getElem?_map, List.getD_eq_getElem?_getD]
  have hl2 : Lib.deBruijn64tab.length = 64 := by decide
  rw [List.getElem?_eq_getElem (by omega)]; rfl
theorem tzs_any (x : Nat) (hx : x < 2 ^ 64) (hx0 : x ≠ 0) (w : World) (hT : BT w) :
    Calls Tryz.prog 171 #[.int .u64 (x : Int)] w fun e w' => e = .returned (.int .i64 (Lib.ctz 64 x : Int)) ∧ w = w' := by
  have C := Lib.hid (tz_any x hx hx0 w hT)
  have hw : IntKind.u64.wrap (x : Int) = (x : Int) := wrap_u64b _ (by omega) (by simp only [Nat.reducePow] at hx; omega)
  clear hx hx0 hT
  go_enter Tryz.func171, Tryz.ntmps171
  go_wp2_with fail
  refine C.out.mono ?_
  rintro e w1 ⟨rfl, rfl⟩
  go_wp2_with fail
  go_ret
  exact ⟨rfl, rfl⟩
end Go.Proofs.YthffjcclcladoaaGreatDoor.kit
