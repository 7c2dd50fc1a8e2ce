/-
  Contracts of spec.StrOf, impl.StrOf, and of the ways to compare two texts or two numbers. Conditions: the table of the powers of ten is as listed, where the program's own text of a number is made.
-/
import Derived.Test.YthffjcclcladoaaGreatDoorMNt1
import Derived.Test.YthffjcclcladoaaGreatDoorMVal0
import Derived.Test.YthffjcclcladoaaGreatDoorMVag
import Derived.WalkLawsBesides
namespace Go.Proofs.YthffjcclcladoaaGreatDoor.kit
open Go.ChangeShapes Go.WideShapes Go.ChangeAt Go.RowKit
set_option linter.unusedVariables false

def cmpT (s t : ByteArray) : Int := if Op.bytesLess s.toList t.toList then -1 else if s.toList == t.toList then 0 else 1
def cmpI (a b : Int) : Int := if a < b then -1 else if b < a then 1 else 0
/-- What a value's text is. -/
def soB (k : Int) (s : ByteArray) (n : Int) : ByteArray := if k == 2 then ntA n else s
theorem specSo_any (k : Int) (s : ByteArray) (n : Int) (w : World) :
    Calls Tryz.prog 100 #[.agg #[.int .i64 k, .string s, .int .i64 n]] w fun e w' => e = .returned (.string (soB k s n)) ∧ Below w.heap.size w w' := by
  cases h : k == 2
  · have E := Lib.hid (show soB k s n = s by simp [soB, h])
    go_enter Tryz.func100, Tryz.ntmps100
    go_wp2
    go_ret
    exact ⟨ret_str E.out.symm, (Below.refl _ _).alloc (Nat.le_refl _) _⟩
  · have E := Lib.hid (show soB k s n = ntA n by simp [soB, h])
    go_enter Tryz.func100, Tryz.ntmps100
    go_wp2_with (go_at_call 129; refine (specNt_any _ _).mono ?_; rintro e w' ⟨rfl, rfl⟩)
    go_ret
    exact ⟨ret_str E.out.symm, (Below.refl _ _).alloc (Nat.le_refl _) _⟩
set_option maxRecDepth 100000 in
theorem implSo0 (s : ByteArray) (n : Int) (w : World) :
    Calls Tryz.prog 127 #[.agg #[.int .i64 0, .string s, .int .i64 n]] w fun e w' => e = .returned (.string s) ∧ Below w.heap.size w w' := by
  have a2 := as02
  go_enter Tryz.func127, Tryz.ntmps127
  go_wp2_with fail
  refine (valueOf0 _ _ _).mono ?_
  rintro e w1 ⟨rfl, hb1⟩
  obtain ⟨hc1, hf1⟩ := bcell hb1
  have z1 : w.heap.size < w1.heap.size := by have := hb1.size; simp at this; omega
  go_wp2
  go_ret
  exact ⟨rfl, ((Below.refl _ _).alloc (Nat.le_refl _) _).trans (hb1.mono (by simp))⟩
set_option maxRecDepth 100000 in
theorem implSo1 (s : ByteArray) (n : Int) (w : World) :
    Calls Tryz.prog 127 #[.agg #[.int .i64 1, .string s, .int .i64 n]] w fun e w' => e = .returned (.string s) ∧ Below w.heap.size w w' := by
  have a2 := as12
  go_enter Tryz.func127, Tryz.ntmps127
  go_wp2_with fail
  refine (valueOf1 _ _ _).mono ?_
  rintro e w1 ⟨rfl, hb1⟩
  obtain ⟨hc1, hf1⟩ := bcell hb1
  have z1 : w.heap.size < w1.heap.size := by have := hb1.size; simp at this; omega
  go_wp2
  go_ret
  exact ⟨rfl, ((Below.refl _ _).alloc (Nat.le_refl _) _).trans (hb1.mono (by simp))⟩
set_option maxRecDepth 100000 in
theorem implSo2 (s : ByteArray) (n : Int) (w : World) (ht : Tab w) :
    Calls Tryz.prog 127 #[.agg #[.int .i64 2, .string s, .int .i64 n]] w fun e w' => e = .returned (.string (ntA n)) ∧ Below w.heap.size w w' := by
  have HT := Lib.hid ht
  clear ht
  have a2 := as22
  go_enter Tryz.func127, Tryz.ntmps127
  go_wp2_with fail
  refine (valueOf2 _ _ _).mono ?_
  rintro e w1 ⟨rfl, hb1⟩
  obtain ⟨hc1, hf1⟩ := bcell hb1
  have z1 : w.heap.size < w1.heap.size := by have := hb1.size; simp at this; omega
  have HT1 := Lib.hid (HT.out.on (((Below.refl _ _).alloc (Nat.le_refl _) _).trans (hb1.mono (by simp))))
  go_wp2_with fail
  refine (implNt_any _ _ HT1.out).mono ?_
  rintro e w2 ⟨rfl, hb2⟩
  go_wp2
  go_ret
  exact ⟨rfl, (((Below.refl _ _).alloc (Nat.le_refl _) _).trans (hb1.mono (by simp))).trans (hb2.mono (by omega))⟩
set_option maxRecDepth 100000 in
theorem implSo3 (s : ByteArray) (n : Int) (w : World) :
    Calls Tryz.prog 127 #[.agg #[.int .i64 3, .string s, .int .i64 n]] w fun e w' => e = .returned (.string s) ∧ Below w.heap.size w w' := by
  have a2 := as32
  go_enter Tryz.func127, Tryz.ntmps127
  go_wp2_with fail
  refine (valueOf3 _ _ _).mono ?_
  rintro e w1 ⟨rfl, hb1⟩
  obtain ⟨hc1, hf1⟩ := bcell hb1
  have z1 : w.heap.size < w1.heap.size := by have := hb1.size; simp at this; omega
  go_wp2
  go_ret
  exact ⟨rfl, ((Below.refl _ _).alloc (Nat.le_refl _) _).trans (hb1.mono (by simp))⟩
set_option maxRecDepth 100000 in
theorem implSo4 (k : Int) (s : ByteArray) (n : Int) (w : World) (h0 : (k == 0) = false) (h1 : (k == 1) = false) (h2 : (k == 2) = false) (h3 : (k == 3) = false) :
    Calls Tryz.prog 127 #[.agg #[.int .i64 k, .string s, .int .i64 n]] w fun e w' => e = .returned (.string s) ∧ Below w.heap.size w w' := by
  have a2 := as42
  go_enter Tryz.func127, Tryz.ntmps127
  go_wp2_with fail
  refine (valueOf4 _ _ _ _ h0 h1 h2 h3).mono ?_
  rintro e w1 ⟨rfl, hb1⟩
  obtain ⟨hc1, hf1⟩ := bcell hb1
  have z1 : w.heap.size < w1.heap.size := by have := hb1.size; simp at this; omega
  go_wp2
  go_ret
  exact ⟨rfl, ((Below.refl _ _).alloc (Nat.le_refl _) _).trans (hb1.mono (by simp))⟩
theorem implSo_any (k : Int) (s : ByteArray) (n : Int) (w : World) (ht : Tab w) :
    Calls Tryz.prog 127 #[.agg #[.int .i64 k, .string s, .int .i64 n]] w fun e w' => e = .returned (.string (soB k s n)) ∧ Below w.heap.size w w' := by
  rcases ktell k with rfl | rfl | rfl | rfl | ⟨h0, h1, h2, h3⟩
  · exact implSo0 s n w
  · exact implSo1 s n w
  · exact implSo2 s n w ht
  · exact implSo3 s n w
  · rw [show soB k s n = s by simp only [soB, h2]; rfl]
    exact implSo4 k s n w h0 h1 h2 h3
end Go.Proofs.YthffjcclcladoaaGreatDoor.kit
