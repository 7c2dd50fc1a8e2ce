/-
  The table by which bits are told, as this seat's rows list it. Conditions: each theorem names its own.
-/
import Derived.Test.YtpidpimgoeeogaaDoorMaMi11
import Derived.Lib.LaidTab
import Derived.Laws.Rows
import Derived.LaidSub
namespace Go.Proofs.YtpidpimgoeeogaaDoor.kit
open Go.ChangeShapes Go.WideShapes Go.ChangeAt Go.RowKit
set_option linter.unusedVariables false

theorem gBits : Tryd.prog.globalNamed "math/bits.deBruijn64tab" = some 1 := by kernel_rfl
theorem gBitsType : (Tryd.prog.globals[1]?).map (·.type) = some 143 := by kernel_rfl
theorem cellsB64 : Tryd.prog.cellsOf 143 = 64 := by kernel_rfl
theorem cellsB1 : Tryd.prog.cellsOf 5 = 1 := by kernel_rfl
theorem bt_of {laid : List (String × DataW Unit)} {W : World} (h : laidMet Tryd.prog laid W) (e : laid.filter (fun x => x.1 == "math/bits.deBruijn64tab") = [("math/bits.deBruijn64tab", Lib.tabData .u8 (Lib.deBruijn64tab.map fun n : Nat => (n : Int)))]) : BT W := by
  have h2 := h.filter (fun x => x.1 == "math/bits.deBruijn64tab")
  rw [e] at h2
  have h3 := Lib.tabIs_of_head (rest := []) gBits gBitsType Tryd.underlying143 Tryd.underlying5 cellsB1 cellsB64 h2
  intro j hj
  have hl : (Lib.deBruijn64tab.map fun n : Nat => (n : Int)).length = 64 := by decide
  have h4 := h3.cell gBits j (by omega)
  rw [h4, List.getD_eq_getElem?_getD, List.getElem?_map, List.getD_eq_getElem?_getD]
  have hl2 : Lib.deBruijn64tab.length = 64 := by decide
  rw [List.getElem?_eq_getElem (by omega)]; rfl
end Go.Proofs.YtpidpimgoeeogaaDoor.kit
