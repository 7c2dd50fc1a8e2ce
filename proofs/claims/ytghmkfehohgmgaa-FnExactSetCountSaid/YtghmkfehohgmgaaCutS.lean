/-
  Contract of spec.Cut over this seat's translation: for every text of at most 1048576 bytes and every byte it gives a new slice that owns the parts between these bytes.
-/
import Derived.Test.YtghmkfehohgmgaaInfo
import Derived.Test.YtghmkfehohgmgaaParts0
namespace Go.Proofs.Ytghmkfehohgmgaa.kit
open Go.ChangeShapes Go.WideShapes Go.ChangeAt Go.RowKit
set_option linter.unusedVariables false

theorem Try.infoStr : (Try.prog.info? 9).map (fun i => (i.zero, i.size, i.bytes)) = some (some (.string ⟨#[]⟩), 1, 16) := by kernel_rfl
def isB (b : UInt8) (c : UInt8) : Bool := c.toNat == b.toNat
theorem isB_int (b c : UInt8) : ((c.toNat : Int) == (b.toNat : Int)) = isB b c := by
  rw [Bool.eq_iff_iff]; simp only [isB, beq_iff_eq]; omega
def CutPost (B : Nat) (w : World) (xs : List (List UInt8)) (e : Ending) (w' : World) : Prop := ∃ v, e = .returned v ∧ OwnS 9 B w' v xs ∧ Below B w w'

end Go.Proofs.Ytghmkfehohgmgaa.kit
