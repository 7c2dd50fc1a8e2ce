/-
  What FnNum needs of powers, whole parts and readings, with nameless answers. Conditions: each theorem names its own.
-/
import Derived.Test.YtchagbhcekehmaaDoorFm0
import Derived.Test.YtchagbhcekehmaaDoorRk0
import Derived.Test.YtchagbhcekehmaaDoorPow0
import Derived.Test.YtchagbhcekehmaaDoorBg0
namespace Go.Proofs.YtchagbhcekehmaaDoor.kit
open Go.ChangeShapes Go.WideShapes Go.ChangeAt Go.RowKit
set_option linter.unusedVariables false

/-- What the law asks of a power that is a number, where its exponent is at least one. -/
def PowBack (a b X : Int) : Prop := ∃ Z : Int, (∀ W, Calls Tryd.prog 26 #[.int .i64 a, .int .i64 (b - 1000000)] W fun e w' => e = .returned (.tuple #[.int .i64 Z, .bool true]) ∧ Below W.heap.size W w') ∧
    (∀ W, Calls Tryd.prog 40 #[.int .i64 Z, .int .i64 a] W fun e w' => e = .returned (.tuple #[.int .i64 X, .bool true]) ∧ Below W.heap.size W w')
theorem powF (a b : Int) (hb : I64 b) : ∃ (X : Int) (K : Bool), (∀ W, Calls Tryd.prog 26 #[.int .i64 a, .int .i64 b] W fun e w' => e = .returned (.tuple #[.int .i64 X, .bool K]) ∧ Below W.heap.size W w') ∧
    (∀ W, Calls Tryd.prog 27 #[.int .i64 a, .int .i64 b] W fun e w' => e = .returned (.tuple #[.int .i64 X, .bool K]) ∧ W = w') ∧
    (K = true → 1000000 ≤ b → PowBack a b X) := by
  refine ⟨_, _, fun W => implPow_any a b W hb.1 hb.2, fun W => specPow_any a b W hb.1 hb.2, fun hK h1 => ?_⟩
  have h := hK
  simp only [powAnsB, Bool.and_eq_true] at h
  obtain ⟨ho, hr⟩ := h
  have ho2 : 0 ≤ b ∧ b ≤ 40000000 ∧ b.tmod 1000000 = 0 := by simpa only [powOk, decide_eq_true_eq] using ho
  obtain ⟨b0, b1, b2⟩ := ho2
  have hm : b.tmod 1000000 = b % 1000000 := Int.tmod_eq_emod_of_nonneg b0
  obtain ⟨k, hk⟩ : ∃ k : Nat, b = 1000000 * ((k : Int) + 1) := ⟨(b / 1000000 - 1).toNat, by omega⟩
  have e1 : (b / 1000000).toNat = k + 1 := by omega
  have e2 : ((b - 1000000) / 1000000).toNat = k := by omega
  have e3 : (b - 1000000).tmod 1000000 = 0 := by rw [Int.tmod_eq_emod_of_nonneg (by omega)]; omega
  rw [e1] at hr
  have hr1 : powR a k = true := by
    cases h : powR a k
    · rw [pow_no (n := k + 1) (by omega) h] at hr; cases hr
    · rfl
  obtain ⟨s1, s2⟩ := pow_step hr1
  rw [s2] at hr
  obtain ⟨p1, p2⟩ := powAns_yes (a := a) (b := b - 1000000) (by omega) (by omega) e3
  obtain ⟨q1, q2⟩ := powAns_yes (a := a) b0 b1 b2
  rw [e2] at p1 p2
  rw [e1] at q1 q2
  refine ⟨powV a k, fun W => ?_, fun W => ?_⟩
  · have := implPow_any a (b - 1000000) W (by omega) (by omega)
    rwa [p1, p2, hr1] at this
  · have := implMul_any (powV a k) a W
    rw [hr] at this s1
    rw [q1, s1]
    exact this
theorem wholeF (a : Int) (ha : I64 a) : ∃ V : Int, (∀ W, Calls Tryd.prog 35 #[.int .i64 a] W fun e w' => e = .returned (.int .i64 V) ∧ W = w') ∧
    (∀ W, Calls Tryd.prog 36 #[.int .i64 a] W fun e w' => e = .returned (.int .i64 V) ∧ W = w') ∧ (V.tmod 1000000 != 0) = false :=
  ⟨_, fun W => implWhole_any a W ha.1 ha.2, fun W => specWhole_any a W ha.1 ha.2, by simp [Int.mul_tmod_left]⟩
theorem rnNum_bd (s : ByteArray) : -1000000000000 ≤ rnNum s ∧ rnNum s ≤ 1000000000000 := by
  unfold rnNum
  cases hG : rnG s
  · simp
  · have : mill (rnW s) (rnB s) ≤ 1000000000000 := by
      unfold rnG at hG
      simp only [Bool.and_eq_true] at hG
      simpa [capB] using hG.2
    simp only [if_true]
    split <;> omega
theorem readF (s : ByteArray) (hs : s.size ≤ 1048576) : ∃ (n p : Int), (∀ W, Calls Tryd.prog 32 #[.string s] W fun e w' => e = .returned (.tuple #[.int .i64 n, .int .i64 p]) ∧ Below W.heap.size W w') ∧
    (∀ W, Calls Tryd.prog 33 #[.string s] W fun e w' => e = .returned (.tuple #[.int .i64 n, .int .i64 p]) ∧ W = w') ∧ -1000000000000 ≤ n ∧ n ≤ 1000000000000 ∧ p ≤ s.size := by
  have h := rnNum_bd s
  refine ⟨_, _, fun W => implRn_any s W hs, fun W => specRn_any s W hs, h.1, h.2, ?_⟩
  rw [rnPlace_eq]
  have := rnP_le s
  omega
theorem looksF (s : ByteArray) (hs : s.size ≤ 1048576) : ∃ K : Bool, (∀ W, Calls Tryd.prog 38 #[.string s] W fun e w' => e = .returned (.bool K) ∧ Below W.heap.size W w') ∧
    (∀ W, Calls Tryd.prog 39 #[.string s] W fun e w' => e = .returned (.bool K) ∧ W = w') :=
  ⟨_, fun W => implLn_any s W hs, fun W => specLn_any s W hs⟩
/-- What the law asks of a number's text. -/
structure TextOk (t : Int) (s : ByteArray) : Prop where
  i : ∀ W, Tab W → Calls Tryd.prog 30 #[.int .i64 t] W fun e w' => e = .returned (.string s) ∧ Below W.heap.size W w'
  sp : ∀ W, Calls Tryd.prog 37 #[.int .i64 t] W fun e w' => e = .returned (.string s) ∧ W = w'
  le : s.size ≤ 30
theorem textF (t : Int) : ∃ s : ByteArray, TextOk t s ∧ (s.toList.isEmpty = true ∧ (1000000000000 < t ∨ t < -1000000000000) ∨
    s.toList.isEmpty = false ∧ (∀ W, Calls Tryd.prog 32 #[.string s] W fun e w' => e = .returned (.tuple #[.int .i64 t, .int .i64 (s.size : Int)]) ∧ Below W.heap.size W w') ∧
      (∀ W, Calls Tryd.prog 38 #[.string s] W fun e w' => e = .returned (.bool true) ∧ Below W.heap.size W w')) := by
  have hle := ntA_le t
  refine ⟨ntA t, ⟨fun W hW => implNt_any t W hW, fun W => specNt_any t W, hle⟩, ?_⟩
  cases hb : numB t
  · left
    refine ⟨by simp [ntA, hb, ByteArray.toList_eq], ?_⟩
    have : ¬ (-1000000000000 ≤ t ∧ t ≤ 1000000000000) := by simpa [numB, inB] using hb
    omega
  · right
    obtain ⟨r1, r2, r3⟩ := reads_back t hb
    refine ⟨not_empty_of_size ?_, fun W => ?_, fun W => ?_⟩
    · intro hz
      have : 0 < rnP (ntA t) := by
        unfold lkB at r3; simp only [Bool.and_eq_true, decide_eq_true_eq] at r3; exact r3.1
      have := rnP_le (ntA t)
      omega
    · have := implRn_any (ntA t) W (by omega)
      rwa [r1, r2] at this
    · have := implLn_any (ntA t) W (by omega)
      rwa [r3] at this
end Go.Proofs.YtchagbhcekehmaaDoor.kit
