/-
  Contracts of the draws of FnNum over this seat's translation. Conditions: the code's bytes are known.
-/
import Derived.Test.YtebeoijoljlhiaaGreatDoorMCod
import Derived.Test.YtebeoijoljlhiaaGreatDoorMCu3
import Derived.Test.YtebeoijoljlhiaaGreatDoorMNt1
namespace Go.Proofs.YtebeoijoljlhiaaGreatDoor.kit
open Go.ChangeShapes Go.WideShapes Go.ChangeAt Go.RowKit
set_option linter.unusedVariables false

def GotN (w : World) (e : Ending) (w' : World) : Prop := ∃ x : Int, I64 x ∧ e = .returned (.int .i64 x) ∧ Below w.heap.size w w'
def GotT (k : Nat) (w : World) (e : Ending) (w' : World) : Prop := ∃ s : ByteArray, s.size ≤ k ∧ e = .returned (.string s) ∧ Below w.heap.size w w'
def GotNN (w : World) (e : Ending) (w' : World) : Prop := ∃ x y : Int, I64 x ∧ I64 y ∧ e = .returned (.tuple #[.int .i64 x, .int .i64 y]) ∧ Below w.heap.size w w'
theorem i64_lit {z : Int} (h1 : -9223372036854775808 ≤ z) (h2 : z ≤ 9223372036854775807) : I64 z := ⟨h1, h2⟩
theorem ntA_le (a : Int) : (ntA a).size ≤ 30 := by
  have hp : ∀ N : Nat, N ≤ 1000000000000 → (ntP N).size ≤ 28 := fun N hN => by
    have l0 : (Lib.itoa ((N : Int) / 1000000)).length ≤ 21 := Lib.itoa_length_le _ (by omega) (by omega)
    have l1 : (ptT (N % 1000000)).size ≤ 7 := ptT_le _ (Nat.mod_lt _ (by omega))
    unfold ntP
    rw [ByteArray.size_append]
    show (Lib.itoa ((N : Int) / 1000000)).toArray.size + _ ≤ 28
    rw [List.size_toArray]; omega
  unfold ntA
  split
  · rename_i hb
    have h2 : -1000000000000 ≤ a ∧ a ≤ 1000000000000 := by simpa [numB, inB] using hb
    split
    · rw [ByteArray.size_append]
      have := hp a.natAbs (by omega)
      show 1 + _ ≤ 30
      omega
    · have := hp a.toNat (by omega)
      omega
  · show 0 ≤ 30; omega
def rl0 : List ByteArray := [⟨#[]⟩, ⟨#[43, 53]⟩, ⟨#[45, 46, 53]⟩, ⟨#[53, 46]⟩, ⟨#[46]⟩, ⟨#[45]⟩, ⟨#[49, 46, 50, 51, 52, 53, 54, 55, 56, 57]⟩, ⟨#[49, 48, 48, 48, 48, 48, 48]⟩, ⟨#[49, 48, 48, 48, 48, 48, 48, 46, 48, 48, 48, 48, 48, 48, 49]⟩, ⟨#[49, 48, 48, 48, 48, 48, 49]⟩, ⟨#[48, 48, 55]⟩, ⟨#[49, 101, 53]⟩, ⟨#[48, 120, 49]⟩, ⟨#[48, 48, 48, 48, 48, 48, 48, 48, 48, 48, 48, 48, 48, 48, 48, 48, 48, 48, 48, 48, 48, 48, 48, 48, 48, 48, 48, 48, 48, 48, 48, 48, 48, 48, 48, 48, 48, 48, 48, 48, 48, 48, 48, 48, 48, 48, 48, 48, 48, 48, 48, 48, 48, 48, 48, 48, 48, 48, 49]⟩, ⟨#[48, 48, 48, 48, 48, 48, 48, 48, 48, 48, 48, 48, 48, 48, 48, 48, 48, 48, 48, 48, 48, 48, 48, 48, 48, 48, 48, 48, 48, 48, 48, 48, 48, 48, 48, 48, 48, 48, 48, 48, 48, 48, 48, 48, 48, 48, 48, 48, 48, 48, 48, 48, 48, 48, 48, 48, 48, 48, 48, 49]⟩]
theorem rl0_short : ∀ z ∈ rl0, Short 60 z := by unfold rl0 Short; decide
def rl1 : List ByteArray := [⟨#[]⟩, ⟨#[32]⟩, ⟨#[9, 10]⟩]
theorem rl1_short : ∀ z ∈ rl1, Short 60 z := by unfold rl1 Short; decide
def rl2 : List ByteArray := [⟨#[]⟩, ⟨#[]⟩, ⟨#[32]⟩, ⟨#[120]⟩, ⟨#[32, 49]⟩]
theorem rl2_short : ∀ z ∈ rl2, Short 60 z := by unfold rl2 Short; decide
end Go.Proofs.YtebeoijoljlhiaaGreatDoor.kit
