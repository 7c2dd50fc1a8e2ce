/-
  Contract of spec.DecText over this seat's translation: for every int it gives the library's decimal text of it. Conditions: none.
-/
import Derived.Test.YtppfnaenamcnpaaDoorRows
import Derived.Test.YtppfnaenamcnpaaDoorMuKit
import Derived.Lib.ItoaNum
import Derived.Lib.ItoaLen
set_option linter.unusedVariables false
namespace Go.Proofs.YtppfnaenamcnpaaDoor.kit
open Go.ChangeShapes Go.WideShapes Go.ChangeAt Go.RowKit
def front (j : Nat) : List UInt8 := if j = 0 then [] else Lib.decDigits j
theorem front_step {j : Nat} (h : j ≠ 0) : front j = front (j / 10) ++ [UInt8.ofNat (48 + j % 10)] := by
 rw [front, if_neg h, Lib.decDigits]
 by_cases h1 : j < 10
 · rw [dif_pos h1, show j / 10 = 0 by omega, show j % 10 = j by omega]; rfl
 · rw [dif_neg h1, front, if_neg (by omega)]
theorem join_digit (b : UInt8) (l : List UInt8) : (ByteArray.mk [b].toArray ++ ByteArray.mk l.toArray) = ⟨(b :: l).toArray⟩ := ByteArray.mk_append_mk [b] l
theorem front_len {N j : Nat} {l : List UInt8} (hN : N < 18446744073709551616) (h : Lib.decDigits N = front j ++ l) : l.length ≤ 20 := by
 have a := congrArg List.length h
 rw [Lib.decDigits_length, List.length_append] at a
 have := Lib.nDigits_le20 N hN
 omega
end Go.Proofs.YtppfnaenamcnpaaDoor.kit
