/-
  Contracts of spec.NumOf and impl.NumOf over this seat's translation. Conditions: the value's text has at most 1048576 bytes.
-/
import Derived.Test.YthffjcclcladoaaGreatDoorMVal0
import Derived.Test.YthffjcclcladoaaGreatDoorMRn4
namespace Go.Proofs.YthffjcclcladoaaGreatDoor.kit
open Go.ChangeShapes Go.WideShapes Go.ChangeAt Go.RowKit
set_option linter.unusedVariables false

def nmB (k : Int) (s : ByteArray) (n : Int) : Int := if k == 2 || k == 3 then n else if k == 1 then rnNum s else 0
theorem specNumOf_any (k : Int) (s : ByteArray) (n : Int) (w : World) (hs : s.size ≤ 1048576) :
    Calls Tryz.prog 98 #[.agg #[.int .i64 k, .string s, .int .i64 n]] w fun e w' => e = .returned (.int .i64 (nmB k s n)) ∧ Below w.heap.size w w' := by
  have C := Lib.hid (fun W => specRn_any s W hs)
  clear hs
  rcases ktell k with rfl | rfl | rfl | rfl | ⟨h0, h1, h2, h3⟩
  case inr.inr.inr.inr =>
    have E := Lib.hid (show nmB k s n = 0 by simp only [nmB, h1, h2, h3]; rfl)
    go_enter Tryz.func98, Tryz.ntmps98
    go_wp2
    go_ret
    exact ⟨ret_int E.out.symm, (Below.refl _ _).alloc (Nat.le_refl _) _⟩
  case inr.inl =>
    go_enter Tryz.func98, Tryz.ntmps98
    go_wp2_with fail
    refine (C.out _).mono ?_
    rintro e w1 ⟨rfl, rfl⟩
    go_wp2
    go_ret
    exact ⟨rfl, (Below.refl _ _).alloc (Nat.le_refl _) _⟩
  all_goals
    go_enter Tryz.func98, Tryz.ntmps98
    go_wp2
    go_ret
    exact ⟨rfl, (Below.refl _ _).alloc (Nat.le_refl _) _⟩
theorem number0 (w : World) : Calls Tryz.prog 233 #[.agg #[]] w fun e w' => e = .returned (.int .i64 0) ∧ Below w.heap.size w w' := by
  go_enter Tryz.func233, Tryz.ntmps233
  go_wp2
  go_ret
  exact ⟨rfl, (Below.refl _ _).alloc (Nat.le_refl _) _⟩
theorem number1 (s : ByteArray) (w : World) (hs : s.size ≤ 1048576) : Calls Tryz.prog 235 #[.string s] w fun e w' => e = .returned (.int .i64 (rnNum s)) ∧ Below w.heap.size w w' := by
  have C := Lib.hid (fun W => implRn_any s W hs)
  clear hs
  go_enter Tryz.func235, Tryz.ntmps235
  go_wp2_with fail
  refine (C.out _).mono ?_
  rintro e w1 ⟨rfl, hb1⟩
  go_wp2
  go_ret
  exact ⟨rfl, hb1⟩
theorem number2 (n : Int) (w : World) : Calls Tryz.prog 231 #[.int .i64 n] w fun e w' => e = .returned (.int .i64 n) ∧ w = w' := by
  go_enter Tryz.func231, Tryz.ntmps231
  go_wp2
  go_ret
  exact ⟨rfl, rfl⟩
theorem number3 (s : ByteArray) (n : Int) (w : World) : Calls Tryz.prog 237 #[.agg #[.string s, .int .i64 n]] w fun e w' => e = .returned (.int .i64 n) ∧ Below w.heap.size w w' := by
  go_enter Tryz.func237, Tryz.ntmps237
  go_wp2
  go_ret
  exact ⟨rfl, (Below.refl _ _).alloc (Nat.le_refl _) _⟩
theorem number4 (w : World) : Calls Tryz.prog 239 #[.agg #[]] w fun e w' => e = .returned (.int .i64 0) ∧ Below w.heap.size w w' := by
  go_enter Tryz.func239, Tryz.ntmps239
  go_wp2
  go_ret
  exact ⟨rfl, (Below.refl _ _).alloc (Nat.le_refl _) _⟩
theorem meth_number0 (v : Value) (w : World) : (method 375 207 v "loop.example/g00560/impl.number").run Tryz.prog w = .ok (233, v) w := by kernel_rfl
theorem meth_number1 (v : Value) (w : World) : (method 375 208 v "loop.example/g00560/impl.number").run Tryz.prog w = .ok (235, v) w := by kernel_rfl
theorem meth_number2 (v : Value) (w : World) : (method 375 205 v "loop.example/g00560/impl.number").run Tryz.prog w = .ok (231, v) w := by kernel_rfl
theorem meth_number3 (v : Value) (w : World) : (method 375 210 v "loop.example/g00560/impl.number").run Tryz.prog w = .ok (237, v) w := by kernel_rfl
theorem meth_number4 (v : Value) (w : World) : (method 375 211 v "loop.example/g00560/impl.number").run Tryz.prog w = .ok (239, v) w := by kernel_rfl
theorem implNumOf0 (s : ByteArray) (n : Int) (w : World) :
    Calls Tryz.prog 95 #[.agg #[.int .i64 0, .string s, .int .i64 n]] w fun e w' => e = .returned (.int .i64 0) ∧ Below w.heap.size w w' := by
  have hm := meth_number0
  go_enter Tryz.func95, Tryz.ntmps95
  go_wp2_with fail
  refine (valueOf0 _ _ _).mono ?_
  rintro e w1 ⟨rfl, hb1⟩
  go_wp2_with fail
  refine (number0 _).mono ?_
  rintro e w2 ⟨rfl, hb2⟩
  go_wp2
  go_ret
  exact ⟨rfl, ((Below.refl _ _).alloc (Nat.le_refl _) _).trans ((hb1.mono (by simp)).trans (hb2.mono (by have := hb1.size; simp at this; omega)))⟩
theorem implNumOf1 (s : ByteArray) (n : Int) (w : World) (hs : s.size ≤ 1048576) :
    Calls Tryz.prog 95 #[.agg #[.int .i64 1, .string s, .int .i64 n]] w fun e w' => e = .returned (.int .i64 (rnNum s)) ∧ Below w.heap.size w w' := by
  have hm := meth_number1
  go_enter Tryz.func95, Tryz.ntmps95
  go_wp2_with fail
  refine (valueOf1 _ _ _).mono ?_
  rintro e w1 ⟨rfl, hb1⟩
  go_wp2_with fail
  refine (number1 _ _ hs).mono ?_
  rintro e w2 ⟨rfl, hb2⟩
  go_wp2
  go_ret
  exact ⟨rfl, ((Below.refl _ _).alloc (Nat.le_refl _) _).trans ((hb1.mono (by simp)).trans (hb2.mono (by have := hb1.size; simp at this; omega)))⟩
theorem implNumOf2 (s : ByteArray) (n : Int) (w : World) :
    Calls Tryz.prog 95 #[.agg #[.int .i64 2, .string s, .int .i64 n]] w fun e w' => e = .returned (.int .i64 n) ∧ Below w.heap.size w w' := by
  have hm := meth_number2
  go_enter Tryz.func95, Tryz.ntmps95
  go_wp2_with fail
  refine (valueOf2 _ _ _).mono ?_
  rintro e w1 ⟨rfl, hb1⟩
  go_wp2_with fail
  refine (number2 _ _).mono ?_
  rintro e w2 ⟨rfl, rfl⟩
  go_wp2
  go_ret
  exact ⟨rfl, ((Below.refl _ _).alloc (Nat.le_refl _) _).trans (hb1.mono (by simp))⟩
theorem implNumOf3 (s : ByteArray) (n : Int) (w : World) :
    Calls Tryz.prog 95 #[.agg #[.int .i64 3, .string s, .int .i64 n]] w fun e w' => e = .returned (.int .i64 n) ∧ Below w.heap.size w w' := by
  have hm := meth_number3
  go_enter Tryz.func95, Tryz.ntmps95
  go_wp2_with fail
  refine (valueOf3 _ _ _).mono ?_
  rintro e w1 ⟨rfl, hb1⟩
  go_wp2_with fail
  refine (number3 _ _ _).mono ?_
  rintro e w2 ⟨rfl, hb2⟩
  go_wp2
  go_ret
  exact ⟨rfl, ((Below.refl _ _).alloc (Nat.le_refl _) _).trans ((hb1.mono (by simp)).trans (hb2.mono (by have := hb1.size; simp at this; omega)))⟩
theorem implNumOf4 (k : Int) (s : ByteArray) (n : Int) (w : World) (h0 : (k == 0) = false) (h1 : (k == 1) = false) (h2 : (k == 2) = false) (h3 : (k == 3) = false) :
    Calls Tryz.prog 95 #[.agg #[.int .i64 k, .string s, .int .i64 n]] w fun e w' => e = .returned (.int .i64 0) ∧ Below w.heap.size w w' := by
  have hm := meth_number4
  go_enter Tryz.func95, Tryz.ntmps95
  go_wp2_with fail
  refine (valueOf4 _ _ _ _ h0 h1 h2 h3).mono ?_
  rintro e w1 ⟨rfl, hb1⟩
  go_wp2_with fail
  refine (number4 _).mono ?_
  rintro e w2 ⟨rfl, hb2⟩
  go_wp2
  go_ret
  exact ⟨rfl, ((Below.refl _ _).alloc (Nat.le_refl _) _).trans ((hb1.mono (by simp)).trans (hb2.mono (by have := hb1.size; simp at this; omega)))⟩
theorem implNumOf_any (k : Int) (s : ByteArray) (n : Int) (w : World) (hs : s.size ≤ 1048576) :
    Calls Tryz.prog 95 #[.agg #[.int .i64 k, .string s, .int .i64 n]] w fun e w' => e = .returned (.int .i64 (nmB k s n)) ∧ Below w.heap.size w w' := by
  rcases ktell k with rfl | rfl | rfl | rfl | ⟨h0, h1, h2, h3⟩
  · exact implNumOf0 s n w
  · exact implNumOf1 s n w hs
  · exact implNumOf2 s n w
  · exact implNumOf3 s n w
  · rw [show nmB k s n = 0 by simp only [nmB, h1, h2, h3]; rfl]
    exact implNumOf4 k s n w h0 h1 h2 h3
end Go.Proofs.YthffjcclcladoaaGreatDoor.kit
