/-
  Contract of spec.DecText over this seat's translation: for every int it gives the library's decimal text of it. Conditions: none.
-/
import Derived.Test.YtcnmcfalobekmaaRows
import Derived.Test.YtcnmcfalobekmaaKit
import Derived.Lib.ItoaNum
import Derived.Lib.ItoaLen
namespace Go.Proofs.Ytcnmcfalobekmaa.kit
open Go.ChangeShapes Go.WideShapes Go.ChangeAt Go.RowKit
set_option linter.unusedVariables false

def front (j : Nat) : List UInt8 := if j = 0 then [] else Lib.decDigits j
theorem front_step {j : Nat} (h : j ≠ 0) : front j = front (j / 10) ++ [UInt8.ofNat (48 + j % 10)] := by
  rw [front, if_neg h, Lib.decDigits]
  by_cases h1 : j < 10
  · rw [dif_pos h1, show j / 10 = 0 by omega, show j % 10 = j by omega]; rfl
  · rw [dif_neg h1, front, if_neg (by omega)]
theorem digit_at : ∀ r : Fin 10, (ByteArray.mk #[48, 49, 50, 51, 52, 53, 54, 55, 56, 57]).extract r.val (r.val + 1) = ⟨[UInt8.ofNat (48 + r.val)].toArray⟩ := by decide +kernel
theorem digit_slice {P : Program} {t : TypeId} (ht : P.underlying t = some .string) (r : Nat) (hr : r < 10) (W : World) :
    (Instr.slice t (.string ⟨#[48, 49, 50, 51, 52, 53, 54, 55, 56, 57]⟩) (some (.int .i64 (r : Int))) (some (.int .i64 ((r : Int) + 1))) none).run P W = .ok (.string ⟨[UInt8.ofNat (48 + r)].toArray⟩) W := by
  rw [run_slice_string W t _ .i64 .i64 (r : Int) ((r : Int) + 1) ht (by omega) (by omega) (by show (r : Int) + 1 ≤ ((10 : Nat) : Int); omega), show ((r : Int)).toNat = r by omega, show ((r : Int) + 1).toNat = r + 1 by omega, digit_at ⟨r, hr⟩]
theorem join_digit (b : UInt8) (l : List UInt8) : (ByteArray.mk [b].toArray ++ ByteArray.mk l.toArray) = ⟨(b :: l).toArray⟩ := ByteArray.mk_append_mk [b] l
theorem join_zero (l : List UInt8) : ((ByteArray.mk #[48, 49, 50, 51, 52, 53, 54, 55, 56, 57]).extract 0 1 ++ ByteArray.mk l.toArray) = ⟨((48 : UInt8) :: l).toArray⟩ := by
  rw [show (ByteArray.mk #[48, 49, 50, 51, 52, 53, 54, 55, 56, 57]).extract 0 1 = ⟨[(48 : UInt8)].toArray⟩ from digit_at 0]; exact join_digit 48 l
theorem front_len {N j : Nat} {l : List UInt8} (hN : N < 18446744073709551616) (h : Lib.decDigits N = front j ++ l) : l.length ≤ 20 := by
  have a := congrArg List.length h
  rw [Lib.decDigits_length, List.length_append] at a
  have := Lib.nDigits_le20 N hN
  omega

end Go.Proofs.Ytcnmcfalobekmaa.kit
