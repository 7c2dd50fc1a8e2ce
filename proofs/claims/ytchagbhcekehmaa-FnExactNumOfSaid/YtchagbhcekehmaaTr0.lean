/-
  Contracts of spec.Truth and impl.Truth over this seat's translation. Conditions: none.
-/
import Derived.Test.YtchagbhcekehmaaVal0
namespace Go.Proofs.Ytchagbhcekehmaa.kit
open Go.ChangeShapes Go.WideShapes Go.ChangeAt Go.RowKit
set_option linter.unusedVariables false

def trB (k : Int) (s : ByteArray) (n : Int) : Bool := if k == 2 || k == 3 then (n != 0) else if k == 1 then !s.toList.isEmpty else false
theorem ktell (k : Int) : k = 0 ∨ k = 1 ∨ k = 2 ∨ k = 3 ∨ ((k == 0) = false ∧ (k == 1) = false ∧ (k == 2) = false ∧ (k == 3) = false) := by
  simp only [beq_eq_false_iff_ne]; omega
theorem specTruth_any (k : Int) (s : ByteArray) (n : Int) (w : World) :
    Calls Try.prog 57 #[.agg #[.int .i64 k, .string s, .int .i64 n]] w fun e w' => e = .returned (.bool (trB k s n)) ∧ Below w.heap.size w w' := by
  rcases ktell k with rfl | rfl | rfl | rfl | ⟨h0, h1, h2, h3⟩
  case inr.inr.inr.inr =>
    have E := Lib.hid (show trB k s n = false by simp only [trB, h1, h2, h3]; rfl)
    go_enter Try.func57, Try.ntmps57
    go_wp2
    go_ret
    exact ⟨ret_bool E.out.symm, (Below.refl _ _).alloc (Nat.le_refl _) _⟩
  all_goals
    go_enter Try.func57, Try.ntmps57
    go_wp2
    go_ret
    exact ⟨rfl, (Below.refl _ _).alloc (Nat.le_refl _) _⟩
theorem truth0 (w : World) : Calls Try.prog 131 #[.agg #[]] w fun e w' => e = .returned (.bool false) ∧ Below w.heap.size w w' := by
  go_enter Try.func131, Try.ntmps131
  go_wp2
  go_ret
  exact ⟨rfl, (Below.refl _ _).alloc (Nat.le_refl _) _⟩
theorem truth1 (s : ByteArray) (w : World) : Calls Try.prog 133 #[.string s] w fun e w' => e = .returned (.bool (!s.toList.isEmpty)) ∧ w = w' := by
  go_enter Try.func133, Try.ntmps133
  go_wp2
  go_ret
  exact ⟨rfl, rfl⟩
theorem truth2 (n : Int) (w : World) : Calls Try.prog 134 #[.int .i64 n] w fun e w' => e = .returned (.bool (n != 0)) ∧ w = w' := by
  go_enter Try.func134, Try.ntmps134
  go_wp2
  go_ret
  exact ⟨rfl, rfl⟩
theorem truth3 (s : ByteArray) (n : Int) (w : World) : Calls Try.prog 136 #[.agg #[.string s, .int .i64 n]] w fun e w' => e = .returned (.bool (n != 0)) ∧ Below w.heap.size w w' := by
  go_enter Try.func136, Try.ntmps136
  go_wp2
  go_ret
  exact ⟨rfl, (Below.refl _ _).alloc (Nat.le_refl _) _⟩
theorem truth4 (w : World) : Calls Try.prog 138 #[.agg #[]] w fun e w' => e = .returned (.bool false) ∧ Below w.heap.size w w' := by
  go_enter Try.func138, Try.ntmps138
  go_wp2
  go_ret
  exact ⟨rfl, (Below.refl _ _).alloc (Nat.le_refl _) _⟩
theorem meth_truth0 (v : Value) (w : World) : (method 233 86 v "loop.example/g00560/impl.truth").run Try.prog w = .ok (131, v) w := by kernel_rfl
theorem meth_truth1 (v : Value) (w : World) : (method 233 87 v "loop.example/g00560/impl.truth").run Try.prog w = .ok (133, v) w := by kernel_rfl
theorem meth_truth2 (v : Value) (w : World) : (method 233 88 v "loop.example/g00560/impl.truth").run Try.prog w = .ok (134, v) w := by kernel_rfl
theorem meth_truth3 (v : Value) (w : World) : (method 233 91 v "loop.example/g00560/impl.truth").run Try.prog w = .ok (136, v) w := by kernel_rfl
theorem meth_truth4 (v : Value) (w : World) : (method 233 103 v "loop.example/g00560/impl.truth").run Try.prog w = .ok (138, v) w := by kernel_rfl
theorem implTruth0 (s : ByteArray) (n : Int) (w : World) :
    Calls Try.prog 58 #[.agg #[.int .i64 0, .string s, .int .i64 n]] w fun e w' => e = .returned (.bool false) ∧ Below w.heap.size w w' := by
  have hm := meth_truth0
  go_enter Try.func58, Try.ntmps58
  go_wp2_with fail
  refine (valueOf0 _ _ _).mono ?_
  rintro e w1 ⟨rfl, hb1⟩
  go_wp2_with fail
  refine (truth0 _).mono ?_
  rintro e w2 ⟨rfl, hb2⟩
  go_wp2
  go_ret
  exact ⟨rfl, ((Below.refl _ _).alloc (Nat.le_refl _) _).trans ((hb1.mono (by simp)).trans (hb2.mono (by have := hb1.size; simp at this; omega)))⟩
theorem implTruth1 (s : ByteArray) (n : Int) (w : World) :
    Calls Try.prog 58 #[.agg #[.int .i64 1, .string s, .int .i64 n]] w fun e w' => e = .returned (.bool (!s.toList.isEmpty)) ∧ Below w.heap.size w w' := by
  have hm := meth_truth1
  go_enter Try.func58, Try.ntmps58
  go_wp2_with fail
  refine (valueOf1 _ _ _).mono ?_
  rintro e w1 ⟨rfl, hb1⟩
  go_wp2_with fail
  refine (truth1 _ _).mono ?_
  rintro e w2 ⟨rfl, rfl⟩
  go_wp2
  go_ret
  exact ⟨rfl, ((Below.refl _ _).alloc (Nat.le_refl _) _).trans (hb1.mono (by simp))⟩
theorem implTruth2 (s : ByteArray) (n : Int) (w : World) :
    Calls Try.prog 58 #[.agg #[.int .i64 2, .string s, .int .i64 n]] w fun e w' => e = .returned (.bool (n != 0)) ∧ Below w.heap.size w w' := by
  have hm := meth_truth2
  go_enter Try.func58, Try.ntmps58
  go_wp2_with fail
  refine (valueOf2 _ _ _).mono ?_
  rintro e w1 ⟨rfl, hb1⟩
  go_wp2_with fail
  refine (truth2 _ _).mono ?_
  rintro e w2 ⟨rfl, rfl⟩
  go_wp2
  go_ret
  exact ⟨rfl, ((Below.refl _ _).alloc (Nat.le_refl _) _).trans (hb1.mono (by simp))⟩
theorem implTruth3 (s : ByteArray) (n : Int) (w : World) :
    Calls Try.prog 58 #[.agg #[.int .i64 3, .string s, .int .i64 n]] w fun e w' => e = .returned (.bool (n != 0)) ∧ Below w.heap.size w w' := by
  have hm := meth_truth3
  go_enter Try.func58, Try.ntmps58
  go_wp2_with fail
  refine (valueOf3 _ _ _).mono ?_
  rintro e w1 ⟨rfl, hb1⟩
  go_wp2_with fail
  refine (truth3 _ _ _).mono ?_
  rintro e w2 ⟨rfl, hb2⟩
  go_wp2
  go_ret
  exact ⟨rfl, ((Below.refl _ _).alloc (Nat.le_refl _) _).trans ((hb1.mono (by simp)).trans (hb2.mono (by have := hb1.size; simp at this; omega)))⟩
theorem implTruth4 (k : Int) (s : ByteArray) (n : Int) (w : World) (h0 : (k == 0) = false) (h1 : (k == 1) = false) (h2 : (k == 2) = false) (h3 : (k == 3) = false) :
    Calls Try.prog 58 #[.agg #[.int .i64 k, .string s, .int .i64 n]] w fun e w' => e = .returned (.bool false) ∧ Below w.heap.size w w' := by
  have hm := meth_truth4
  go_enter Try.func58, Try.ntmps58
  go_wp2_with fail
  refine (valueOf4 _ _ _ _ h0 h1 h2 h3).mono ?_
  rintro e w1 ⟨rfl, hb1⟩
  go_wp2_with fail
  refine (truth4 _).mono ?_
  rintro e w2 ⟨rfl, hb2⟩
  go_wp2
  go_ret
  exact ⟨rfl, ((Below.refl _ _).alloc (Nat.le_refl _) _).trans ((hb1.mono (by simp)).trans (hb2.mono (by have := hb1.size; simp at this; omega)))⟩
theorem implTruth_any (k : Int) (s : ByteArray) (n : Int) (w : World) :
    Calls Try.prog 58 #[.agg #[.int .i64 k, .string s, .int .i64 n]] w fun e w' => e = .returned (.bool (trB k s n)) ∧ Below w.heap.size w w' := by
  rcases ktell k with rfl | rfl | rfl | rfl | ⟨h0, h1, h2, h3⟩
  · exact implTruth0 s n w
  · exact implTruth1 s n w
  · exact implTruth2 s n w
  · exact implTruth3 s n w
  · rw [show trB k s n = false by simp only [trB, h1, h2, h3]; rfl]
    exact implTruth4 k s n w h0 h1 h2 h3
end Go.Proofs.Ytchagbhcekehmaa.kit
