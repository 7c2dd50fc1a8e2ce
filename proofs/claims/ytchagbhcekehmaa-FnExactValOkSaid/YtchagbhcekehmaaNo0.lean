/-
  Contracts of spec.NumOf and impl.NumOf over this seat's translation. Conditions: the value's text has at most 1048576 bytes.
-/
import Derived.Test.YtchagbhcekehmaaVal0
import Derived.Test.YtchagbhcekehmaaTr0
import Derived.Test.YtchagbhcekehmaaLn0
namespace Go.Proofs.Ytchagbhcekehmaa.kit
open Go.ChangeShapes Go.WideShapes Go.ChangeAt Go.RowKit
set_option linter.unusedVariables false

def nmB (k : Int) (s : ByteArray) (n : Int) : Int := if k == 2 || k == 3 then n else if k == 1 then rnNum s else 0
theorem specNumOf_any (k : Int) (s : ByteArray) (n : Int) (w : World) (hs : s.size ≤ 1048576) :
    Calls Try.prog 55 #[.agg #[.int .i64 k, .string s, .int .i64 n]] w fun e w' => e = .returned (.int .i64 (nmB k s n)) ∧ Below w.heap.size w w' := by
  have C := Lib.hid (fun W => specRn_any s W hs)
  clear hs
  rcases ktell k with rfl | rfl | rfl | rfl | ⟨h0, h1, h2, h3⟩
  case inr.inr.inr.inr =>
    have E := Lib.hid (show nmB k s n = 0 by simp only [nmB, h1, h2, h3]; rfl)
    go_enter Try.func55, Try.ntmps55
    go_wp2
    go_ret
    exact ⟨ret_int E.out.symm, (Below.refl _ _).alloc (Nat.le_refl _) _⟩
  case inr.inl =>
    go_enter Try.func55, Try.ntmps55
    go_wp2_with fail
    refine (C.out _).mono ?_
    rintro e w1 ⟨rfl, rfl⟩
    go_wp2
    go_ret
    exact ⟨rfl, (Below.refl _ _).alloc (Nat.le_refl _) _⟩
  all_goals
    go_enter Try.func55, Try.ntmps55
    go_wp2
    go_ret
    exact ⟨rfl, (Below.refl _ _).alloc (Nat.le_refl _) _⟩
theorem number0 (w : World) : Calls Try.prog 130 #[.agg #[]] w fun e w' => e = .returned (.int .i64 0) ∧ Below w.heap.size w w' := by
  go_enter Try.func130, Try.ntmps130
  go_wp2
  go_ret
  exact ⟨rfl, (Below.refl _ _).alloc (Nat.le_refl _) _⟩
theorem number1 (s : ByteArray) (w : World) (hs : s.size ≤ 1048576) : Calls Try.prog 132 #[.string s] w fun e w' => e = .returned (.int .i64 (rnNum s)) ∧ Below w.heap.size w w' := by
  have C := Lib.hid (fun W => implRn_any s W hs)
  clear hs
  go_enter Try.func132, Try.ntmps132
  go_wp2_with fail
  refine (C.out _).mono ?_
  rintro e w1 ⟨rfl, hb1⟩
  go_wp2
  go_ret
  exact ⟨rfl, hb1⟩
theorem number2 (n : Int) (w : World) : Calls Try.prog 83 #[.int .i64 n] w fun e w' => e = .returned (.int .i64 n) ∧ w = w' := by
  go_enter Try.func83, Try.ntmps83
  go_wp2
  go_ret
  exact ⟨rfl, rfl⟩
theorem number3 (s : ByteArray) (n : Int) (w : World) : Calls Try.prog 135 #[.agg #[.string s, .int .i64 n]] w fun e w' => e = .returned (.int .i64 n) ∧ Below w.heap.size w w' := by
  go_enter Try.func135, Try.ntmps135
  go_wp2
  go_ret
  exact ⟨rfl, (Below.refl _ _).alloc (Nat.le_refl _) _⟩
theorem number4 (w : World) : Calls Try.prog 137 #[.agg #[]] w fun e w' => e = .returned (.int .i64 0) ∧ Below w.heap.size w w' := by
  go_enter Try.func137, Try.ntmps137
  go_wp2
  go_ret
  exact ⟨rfl, (Below.refl _ _).alloc (Nat.le_refl _) _⟩
theorem meth_number0 (v : Value) (w : World) : (method 233 86 v "loop.example/g00560/impl.number").run Try.prog w = .ok (130, v) w := by kernel_rfl
theorem meth_number1 (v : Value) (w : World) : (method 233 87 v "loop.example/g00560/impl.number").run Try.prog w = .ok (132, v) w := by kernel_rfl
theorem meth_number2 (v : Value) (w : World) : (method 233 88 v "loop.example/g00560/impl.number").run Try.prog w = .ok (83, v) w := by kernel_rfl
theorem meth_number3 (v : Value) (w : World) : (method 233 91 v "loop.example/g00560/impl.number").run Try.prog w = .ok (135, v) w := by kernel_rfl
theorem meth_number4 (v : Value) (w : World) : (method 233 103 v "loop.example/g00560/impl.number").run Try.prog w = .ok (137, v) w := by kernel_rfl
theorem implNumOf0 (s : ByteArray) (n : Int) (w : World) :
    Calls Try.prog 56 #[.agg #[.int .i64 0, .string s, .int .i64 n]] w fun e w' => e = .returned (.int .i64 0) ∧ Below w.heap.size w w' := by
  have hm := meth_number0
  go_enter Try.func56, Try.ntmps56
  go_wp2_with fail
  refine (valueOf0 _ _ _).mono ?_
  rintro e w1 ⟨rfl, hb1⟩
  go_wp2_with fail
  refine (number0 _).mono ?_
  rintro e w2 ⟨rfl, hb2⟩
  go_wp2
  go_ret
  exact ⟨rfl, ((Below.refl _ _).alloc (Nat.le_refl _) _).trans ((hb1.mono (by simp)).trans (hb2.mono (by have := hb1.size; simp at this; omega)))⟩
theorem implNumOf1 (s : ByteArray) (n : Int) (w : World) (hs : s.size ≤ 1048576) :
    Calls Try.prog 56 #[.agg #[.int .i64 1, .string s, .int .i64 n]] w fun e w' => e = .returned (.int .i64 (rnNum s)) ∧ Below w.heap.size w w' := by
  have hm := meth_number1
  go_enter Try.func56, Try.ntmps56
  go_wp2_with fail
  refine (valueOf1 _ _ _).mono ?_
  rintro e w1 ⟨rfl, hb1⟩
  go_wp2_with fail
  refine (number1 _ _ hs).mono ?_
  rintro e w2 ⟨rfl, hb2⟩
  go_wp2
  go_ret
  exact ⟨rfl, ((Below.refl _ _).alloc (Nat.le_refl _) _).trans ((hb1.mono (by simp)).trans (hb2.mono (by have := hb1.size; simp at this; omega)))⟩
theorem implNumOf2 (s : ByteArray) (n : Int) (w : World) :
    Calls Try.prog 56 #[.agg #[.int .i64 2, .string s, .int .i64 n]] w fun e w' => e = .returned (.int .i64 n) ∧ Below w.heap.size w w' := by
  have hm := meth_number2
  go_enter Try.func56, Try.ntmps56
  go_wp2_with fail
  refine (valueOf2 _ _ _).mono ?_
  rintro e w1 ⟨rfl, hb1⟩
  go_wp2_with fail
  refine (number2 _ _).mono ?_
  rintro e w2 ⟨rfl, rfl⟩
  go_wp2
  go_ret
  exact ⟨rfl, ((Below.refl _ _).alloc (Nat.le_refl _) _).trans (hb1.mono (by simp))⟩
theorem implNumOf3 (s : ByteArray) (n : Int) (w : World) :
    Calls Try.prog 56 #[.agg #[.int .i64 3, .string s, .int .i64 n]] w fun e w' => e = .returned (.int .i64 n) ∧ Below w.heap.size w w' := by
  have hm := meth_number3
  go_enter Try.func56, Try.ntmps56
  go_wp2_with fail
  refine (valueOf3 _ _ _).mono ?_
  rintro e w1 ⟨rfl, hb1⟩
  go_wp2_with fail
  refine (number3 _ _ _).mono ?_
  rintro e w2 ⟨rfl, hb2⟩
  go_wp2
  go_ret
  exact ⟨rfl, ((Below.refl _ _).alloc (Nat.le_refl _) _).trans ((hb1.mono (by simp)).trans (hb2.mono (by have := hb1.size; simp at this; omega)))⟩
theorem implNumOf4 (k : Int) (s : ByteArray) (n : Int) (w : World) (h0 : (k == 0) = false) (h1 : (k == 1) = false) (h2 : (k == 2) = false) (h3 : (k == 3) = false) :
    Calls Try.prog 56 #[.agg #[.int .i64 k, .string s, .int .i64 n]] w fun e w' => e = .returned (.int .i64 0) ∧ Below w.heap.size w w' := by
  have hm := meth_number4
  go_enter Try.func56, Try.ntmps56
  go_wp2_with fail
  refine (valueOf4 _ _ _ _ h0 h1 h2 h3).mono ?_
  rintro e w1 ⟨rfl, hb1⟩
  go_wp2_with fail
  refine (number4 _).mono ?_
  rintro e w2 ⟨rfl, hb2⟩
  go_wp2
  go_ret
  exact ⟨rfl, ((Below.refl _ _).alloc (Nat.le_refl _) _).trans ((hb1.mono (by simp)).trans (hb2.mono (by have := hb1.size; simp at this; omega)))⟩
theorem implNumOf_any (k : Int) (s : ByteArray) (n : Int) (w : World) (hs : s.size ≤ 1048576) :
    Calls Try.prog 56 #[.agg #[.int .i64 k, .string s, .int .i64 n]] w fun e w' => e = .returned (.int .i64 (nmB k s n)) ∧ Below w.heap.size w w' := by
  rcases ktell k with rfl | rfl | rfl | rfl | ⟨h0, h1, h2, h3⟩
  · exact implNumOf0 s n w
  · exact implNumOf1 s n w hs
  · exact implNumOf2 s n w
  · exact implNumOf3 s n w
  · rw [show nmB k s n = 0 by simp only [nmB, h1, h2, h3]; rfl]
    exact implNumOf4 k s n w h0 h1 h2 h3
end Go.Proofs.Ytchagbhcekehmaa.kit
