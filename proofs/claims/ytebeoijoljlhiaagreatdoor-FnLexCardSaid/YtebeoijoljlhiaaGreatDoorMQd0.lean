/-
  Contracts of the draws of texts, quotes and digits over this seat's translation. Conditions: the code's bytes are known.
-/
import Derived.Test.YtebeoijoljlhiaaGreatDoorMTx1
import Derived.Test.YtebeoijoljlhiaaGreatDoorMCu3
import Derived.Test.YtebeoijoljlhiaaGreatDoorMFm0
import Derived.Test.YtebeoijoljlhiaaGreatDoorMQb
namespace Go.Proofs.YtebeoijoljlhiaaGreatDoor.kit
open Go.ChangeShapes Go.WideShapes Go.ChangeAt Go.RowKit
set_option linter.unusedVariables false

def rawL : List ByteArray := [⟨#[]⟩, ⟨#[34]⟩, ⟨#[92]⟩, ⟨#[10]⟩, ⟨#[32]⟩, ⟨#[9]⟩, ⟨#[127]⟩, ⟨#[65]⟩]
theorem rawL_short : ∀ z ∈ rawL, Short 30 z := by unfold rawL Short; decide
def rdL : List ByteArray := [⟨#[]⟩, ⟨#[45, 49]⟩, ⟨#[48, 48]⟩, ⟨#[48, 49]⟩, ⟨#[49, 120]⟩, ⟨#[57, 57, 57, 57, 57, 57, 57, 57, 57]⟩, ⟨#[49, 48, 48, 48, 48, 48, 48, 48, 48, 48]⟩, ⟨#[49, 56, 52, 52, 54, 55, 52, 52, 48, 55, 51, 55, 48, 57, 53, 53, 49, 54, 49, 55]⟩]
theorem rdL_short : ∀ z ∈ rdL, Short 30 z := by unfold rdL Short; decide
def nmL : List ByteArray := [⟨#[97]⟩, ⟨#[120, 95, 49]⟩, ⟨#[78, 82]⟩, ⟨#[95]⟩, ⟨#[97, 98, 99, 100, 101, 102, 103, 104, 105, 106, 107, 108, 109, 110, 111, 112, 113, 114, 115, 116]⟩, ⟨#[97, 98, 99, 100, 101, 102, 103, 104, 105, 106, 107, 108, 109, 110, 111, 112, 113, 114, 115, 116, 117]⟩, ⟨#[57, 97]⟩, ⟨#[]⟩]
theorem nmL_short : ∀ z ∈ nmL, Short 30 z := by unfold nmL Short; decide
/-- What a call of another kind leaves, that makes memory. -/
theorem OnlyB.then2 {B : Nat} {w x y : World} (h : OnlyB B w x) (hB : B < x.heap.size) (hb : Below x.heap.size x y) : OnlyB B w y :=
  ⟨hb.os.trans h.os, hb.tape.trans h.tape, hb.output.trans h.output, Nat.le_trans h.size hb.size, fun j hj hn => (hb.block j (Nat.lt_of_lt_of_le hj h.size)).trans (h.block j hj hn)⟩
set_option maxHeartbeats 1000000 in
theorem raw_any (B : Nat) (w : World) (hc : CurE w B) :
    Calls Tryz.prog 76 #[.pointer (some ⟨B, 0, none⟩)] w (GotS (Short 40) B w) := by
  go_enter Tryz.func76, Tryz.ntmps76
  go_wp2_with fail
  refine (below_any B 10 _ hc (by omega) (by omega)).mono ?_
  rintro e w1 ⟨x, ⟨x0, x1⟩, rfl, c1, o1⟩
  obtain ⟨n, rfl⟩ : ∃ n : Nat, x = (n : Int) := ⟨x.toNat, by omega⟩
  go_wp2_with fail
  refine (text_any B n _ c1 (by omega)).mono ?_
  rintro e w2 ⟨s, hs, rfl, c2, o2⟩
  have hs1 : s.size ≤ 10 := by have := hs; omega
  have HS := Lib.hid hs
  clear hs
  have O2 := Lib.hid (o1.trans o2)
  clear o1 o2
  have n2 : w2.heap.size ≠ B := by have := c2.lt; omega
  go_wp2_with fail
  refine (pick_any (Short 30) B w2.heap.size 8 _ _ (c2.alloc _) (listS_alloc rawL _ _ _ rfl rawL_short) n2 (by omega) (by omega)).mono ?_
  rintro e w3 ⟨z, hz, rfl, c3, o3⟩
  have hz1 : z.size ≤ 30 := hz
  go_wp2
  go_ret
  exact ⟨_, by simp only [Short, ByteArray.size_append]; omega, rfl, c3, (O2.out.alloc _).trans o3⟩
def GotTN (k : Nat) (w : World) (e : Ending) (w' : World) : Prop := ∃ (s : ByteArray) (x : Int), s.size ≤ k ∧ I64 x ∧ e = .returned (.tuple #[.string s, .int .i64 x]) ∧ Below w.heap.size w w'
end Go.Proofs.YtebeoijoljlhiaaGreatDoor.kit
