/-
  Contracts of spec.l02Value and impl.countMillionths over this seat's translation: the number of digits ahead of and behind a point. Conditions: both texts are digits.
-/
import Derived.Test.YtcnmcfalobekmaaRn0
import Derived.Test.YtcnmcfalobekmaaNb
import Derived.WalkLawsBesides
namespace Go.Proofs.Ytcnmcfalobekmaa.kit
open Go.ChangeShapes Go.WideShapes Go.ChangeAt Go.RowKit
set_option linter.unusedVariables false

def DigAll (s : ByteArray) : Prop := ∀ (j : Nat) (h : j < s.size), digB (s[j].toNat : Int) = true
theorem digAll_mem {s : ByteArray} (h : DigAll s) : ∀ c ∈ s.data.toList, isDig c := by
  intro c hc
  obtain ⟨j, hj, rfl⟩ := List.getElem_of_mem hc
  have hj2 : j < s.size := by simpa using hj
  have := h j hj2
  simp only [digB, inB, decide_eq_true_eq] at this
  have e : s.data.toList[j] = s[j] := rfl
  rw [e]; unfold isDig; omega
theorem valN_append (a b : List UInt8) : valN (a ++ b) = valN a * 10 ^ b.length + valN b := by
  induction b using snoc_induction with
  | h0 => simp [valN]
  | hs b c ih =>
    rw [← List.append_assoc, valN_snoc, ih, valN_snoc, List.length_append, List.length_singleton, Nat.pow_succ, Nat.mul_add, ← Nat.mul_assoc, Nat.mul_comm 10 (valN a), Nat.mul_assoc (valN a), Nat.mul_comm 10 (10 ^ b.length), Nat.add_assoc]
/-- Six digits of a text, with noughts behind it. -/
def six (l : List UInt8) : List UInt8 := (l ++ [48, 48, 48, 48, 48, 48]).take 6
theorem six_length (l : List UInt8) : (six l).length = 6 := by simp [six]
theorem six_at (l : List UInt8) (k : Nat) (hk : k < 6) (h : k < (six l).length) : (six l)[k] = if h' : k < l.length then l[k] else 48 := by
  simp only [six, List.getElem_take, List.getElem_append]
  by_cases e : k < l.length
  · rw [dif_pos e, dif_pos e]
  · rw [dif_neg e, dif_neg e]
    have : ∀ j (hj : j < [48, 48, 48, 48, 48, (48 : UInt8)].length), [48, 48, 48, 48, 48, (48 : UInt8)][j] = 48 := by decide
    exact this _ _
theorem six_dig {l : List UInt8} (h : ∀ c ∈ l, isDig c) : ∀ c ∈ six l, isDig c := by
  intro c hc
  have hc' := List.mem_of_mem_take hc
  simp only [List.mem_append] at hc'
  rcases hc' with a | a
  · exact h c a
  · have : c = 48 := by simpa using a
    subst this; exact ⟨by decide, by decide⟩
/-- The number of both. -/
def mill (x y : ByteArray) : Nat := valN (x.data.toList ++ six y.data.toList)
theorem mill_big {x y : ByteArray} {k : Nat} (h : 1000000 < valN (x.data.toList.take k)) : 1000000000000 < mill x y := by
  unfold mill
  have e : x.data.toList = x.data.toList.take k ++ x.data.toList.drop k := (List.take_append_drop k _).symm
  rw [e, List.append_assoc, valN_append]
  have h1 : 10 ^ 6 ≤ 10 ^ (x.data.toList.drop k ++ six y.data.toList).length := Nat.pow_le_pow_right (by omega) (by rw [List.length_append, six_length]; omega)
  generalize 10 ^ (x.data.toList.drop k ++ six y.data.toList).length = P at *
  generalize valN (x.data.toList.take k) = v at *
  have : 1000001 * 1000000 ≤ v * P := Nat.mul_le_mul (by omega) (by omega)
  omega
theorem mill_part {x y : ByteArray} {k : Nat} (h : valN x.data.toList ≤ 1000000) (hy : ∀ c ∈ y.data.toList, isDig c) : valN (x.data.toList ++ (six y.data.toList).take k) ≤ 2000000000000 := by
  rw [valN_append]
  have hd := valN_lt ((six y.data.toList).take k) (fun c hc => six_dig hy c (List.mem_of_mem_take hc))
  have hl : ((six y.data.toList).take k).length ≤ 6 := by rw [List.length_take, six_length]; omega
  have h1 : 10 ^ ((six y.data.toList).take k).length ≤ 10 ^ 6 := Nat.pow_le_pow_right (by omega) hl
  generalize 10 ^ ((six y.data.toList).take k).length = P at *
  generalize valN ((six y.data.toList).take k) = u at *
  have : valN x.data.toList * P ≤ 1000000 * 1000000 := Nat.mul_le_mul h (by omega)
  omega
def capB (v : Nat) : Bool := decide (v ≤ 1000000000000)
theorem numB_nat (v : Nat) : numB (v : Int) = capB v := by unfold numB inB capB; congr 1; apply propext; omega

theorem sat_step (v d : Nat) : min (min v 1000000000001 * 10 + d) 1000000000001 = min (10 * v + d) 1000000000001 := by omega
theorem join_six (x y : ByteArray) : (x ++ (y ++ ByteArray.mk #[48, 48, 48, 48, 48, 48]).extract 0 6).data.toList = x.data.toList ++ six y.data.toList := by
  simp [six, List.take_append]
def satV (l : List UInt8) : Int := ((min (valN l) 1000000000001 : Nat) : Int)
end Go.Proofs.Ytcnmcfalobekmaa.kit
