/-
  Contracts over this seat's translation of what the laws of values share: how many letters a value has, a value made anew, impl.valueOf. Conditions: each theorem names its own.
-/
import Derived.Test.YthffjcclcladoaaGreatDoorMInfo
import Derived.Deep.QuietTactic
import Derived.BigQuiet
import Derived.Deep.RegionWith
namespace Go.Proofs.YthffjcclcladoaaGreatDoor.kit
open Go.ChangeShapes Go.WideShapes Go.ChangeAt Go.RowKit
set_option linter.unusedVariables false

theorem szVal_in (k : Int) (s : ByteArray) (n L : Int) (w : World) (hs : (s.size : Int) ≤ L) (hL : L ≤ 1048576) :
    Calls Tryz.prog 80 #[.agg #[.int .i64 k, .string s, .int .i64 n], .int .i64 L] w fun e w' => e = .returned (.int .i64 (L - s.size)) ∧ Below w.heap.size w w' := by
  go_enter Tryz.func80, Tryz.ntmps80
  go_wp2
  go_ret
  exact ⟨rfl, (Below.refl _ _).alloc (Nat.le_refl _) _⟩
theorem szVal_out (k : Int) (s : ByteArray) (n L : Int) (w : World) (hs : L < (s.size : Int)) (hL : 0 ≤ L) (hm : s.size ≤ maxLen) :
    Calls Tryz.prog 80 #[.agg #[.int .i64 k, .string s, .int .i64 n], .int .i64 L] w fun e w' => e = .returned (.int .i64 (-1)) ∧ Below w.heap.size w w' := by
  unfold maxLen at hm
  go_enter Tryz.func80, Tryz.ntmps80
  go_wp2
  go_ret
  exact ⟨rfl, (Below.refl _ _).alloc (Nat.le_refl _) _⟩
theorem toVal_any (k : Int) (s : ByteArray) (n : Int) (w : World) :
    Calls Tryz.prog 81 #[.agg #[.int .i64 k, .string s, .int .i64 n]] w fun e w' => e = .returned (.agg #[.int .i64 k, .string s, .int .i64 n]) ∧ Below w.heap.size w w' := by
  go_enter Tryz.func81, Tryz.ntmps81
  go_wp2
  exact bodyPost_ret (v := .agg #[.int .i64 k, .string s, .int .i64 n]) (by simp [results, Tryz.results81, go_sem]) rfl ⟨rfl, (((Below.refl _ _).alloc (Nat.le_refl _) _).alloc (by simp) _).alloc (by simp; omega) _⟩

/-- What impl.valueOf makes of a value. -/
theorem valueOf0 (s : ByteArray) (n : Int) (w : World) :
    Calls Tryz.prog 128 #[.agg #[.int .i64 0, .string s, .int .i64 n]] w fun e w' => e = .returned (.iface 207 (.agg #[])) ∧ Below w.heap.size w w' := by
  go_enter Tryz.func128, Tryz.ntmps128
  go_wp2
  go_ret
  exact ⟨rfl, (Below.refl _ _).alloc (Nat.le_refl _) _⟩
theorem valueOf1 (s : ByteArray) (n : Int) (w : World) :
    Calls Tryz.prog 128 #[.agg #[.int .i64 1, .string s, .int .i64 n]] w fun e w' => e = .returned (.iface 208 (.string s)) ∧ Below w.heap.size w w' := by
  go_enter Tryz.func128, Tryz.ntmps128
  go_wp2
  go_ret
  exact ⟨rfl, (Below.refl _ _).alloc (Nat.le_refl _) _⟩
theorem valueOf2 (s : ByteArray) (n : Int) (w : World) :
    Calls Tryz.prog 128 #[.agg #[.int .i64 2, .string s, .int .i64 n]] w fun e w' => e = .returned (.iface 205 (.int .i64 n)) ∧ Below w.heap.size w w' := by
  go_enter Tryz.func128, Tryz.ntmps128
  go_wp2
  go_ret
  exact ⟨rfl, (Below.refl _ _).alloc (Nat.le_refl _) _⟩
theorem valueOf3 (s : ByteArray) (n : Int) (w : World) :
    Calls Tryz.prog 128 #[.agg #[.int .i64 3, .string s, .int .i64 n]] w fun e w' => e = .returned (.iface 210 (.agg #[.string s, .int .i64 n])) ∧ Below w.heap.size w w' := by
  go_enter Tryz.func128, Tryz.ntmps128
  go_wp2
  go_ret
  exact ⟨rfl, (Below.refl _ _).alloc (Nat.le_refl _) _⟩
theorem valueOf4 (k : Int) (s : ByteArray) (n : Int) (w : World) (h0 : (k == 0) = false) (h1 : (k == 1) = false) (h2 : (k == 2) = false) (h3 : (k == 3) = false) :
    Calls Tryz.prog 128 #[.agg #[.int .i64 k, .string s, .int .i64 n]] w fun e w' => e = .returned (.iface 211 (.agg #[])) ∧ Below w.heap.size w w' := by
  go_enter Tryz.func128, Tryz.ntmps128
  go_wp2
  go_ret
  exact ⟨rfl, (Below.refl _ _).alloc (Nat.le_refl _) _⟩
theorem ktell (k : Int) : k = 0 ∨ k = 1 ∨ k = 2 ∨ k = 3 ∨ ((k == 0) = false ∧ (k == 1) = false ∧ (k == 2) = false ∧ (k == 3) = false) := by
  simp only [beq_eq_false_iff_ne]; omega
end Go.Proofs.YthffjcclcladoaaGreatDoor.kit
/-
  Closed facts of this seat's program: which type a value's maker is of, by type assertion with ok. Conditions: none.
-/
namespace Go.Proofs.YthffjcclcladoaaGreatDoor.kit
open Go.ChangeShapes Go.WideShapes Go.ChangeAt Go.RowKit
set_option linter.unusedVariables false

theorem as00 (v : Value) (w : World) : (Instr.typeAssert (.iface 207 v) 170 207 true).run Tryz.prog w = .ok (.tuple #[v, .bool true]) w := by kernel_rfl
theorem as01 (v : Value) (w : World) : (Instr.typeAssert (.iface 207 v) 170 208 true).run Tryz.prog w = .ok (.tuple #[.string ⟨#[]⟩, .bool false]) w := by kernel_rfl
theorem as02 (v : Value) (w : World) : (Instr.typeAssert (.iface 207 v) 170 205 true).run Tryz.prog w = .ok (.tuple #[.int .i64 0, .bool false]) w := by kernel_rfl
theorem as03 (v : Value) (w : World) : (Instr.typeAssert (.iface 207 v) 170 210 true).run Tryz.prog w = .ok (.tuple #[.agg #[.string ⟨#[]⟩, .int .i64 0], .bool false]) w := by kernel_rfl
theorem as10 (v : Value) (w : World) : (Instr.typeAssert (.iface 208 v) 170 207 true).run Tryz.prog w = .ok (.tuple #[.agg #[], .bool false]) w := by kernel_rfl
theorem as11 (v : Value) (w : World) : (Instr.typeAssert (.iface 208 v) 170 208 true).run Tryz.prog w = .ok (.tuple #[v, .bool true]) w := by kernel_rfl
theorem as12 (v : Value) (w : World) : (Instr.typeAssert (.iface 208 v) 170 205 true).run Tryz.prog w = .ok (.tuple #[.int .i64 0, .bool false]) w := by kernel_rfl
theorem as13 (v : Value) (w : World) : (Instr.typeAssert (.iface 208 v) 170 210 true).run Tryz.prog w = .ok (.tuple #[.agg #[.string ⟨#[]⟩, .int .i64 0], .bool false]) w := by kernel_rfl
theorem as20 (v : Value) (w : World) : (Instr.typeAssert (.iface 205 v) 170 207 true).run Tryz.prog w = .ok (.tuple #[.agg #[], .bool false]) w := by kernel_rfl
theorem as21 (v : Value) (w : World) : (Instr.typeAssert (.iface 205 v) 170 208 true).run Tryz.prog w = .ok (.tuple #[.string ⟨#[]⟩, .bool false]) w := by kernel_rfl
theorem as22 (v : Value) (w : World) : (Instr.typeAssert (.iface 205 v) 170 205 true).run Tryz.prog w = .ok (.tuple #[v, .bool true]) w := by kernel_rfl
theorem as23 (v : Value) (w : World) : (Instr.typeAssert (.iface 205 v) 170 210 true).run Tryz.prog w = .ok (.tuple #[.agg #[.string ⟨#[]⟩, .int .i64 0], .bool false]) w := by kernel_rfl
theorem as30 (v : Value) (w : World) : (Instr.typeAssert (.iface 210 v) 170 207 true).run Tryz.prog w = .ok (.tuple #[.agg #[], .bool false]) w := by kernel_rfl
theorem as31 (v : Value) (w : World) : (Instr.typeAssert (.iface 210 v) 170 208 true).run Tryz.prog w = .ok (.tuple #[.string ⟨#[]⟩, .bool false]) w := by kernel_rfl
theorem as32 (v : Value) (w : World) : (Instr.typeAssert (.iface 210 v) 170 205 true).run Tryz.prog w = .ok (.tuple #[.int .i64 0, .bool false]) w := by kernel_rfl
theorem as33 (v : Value) (w : World) : (Instr.typeAssert (.iface 210 v) 170 210 true).run Tryz.prog w = .ok (.tuple #[v, .bool true]) w := by kernel_rfl
theorem as40 (v : Value) (w : World) : (Instr.typeAssert (.iface 211 v) 170 207 true).run Tryz.prog w = .ok (.tuple #[.agg #[], .bool false]) w := by kernel_rfl
theorem as41 (v : Value) (w : World) : (Instr.typeAssert (.iface 211 v) 170 208 true).run Tryz.prog w = .ok (.tuple #[.string ⟨#[]⟩, .bool false]) w := by kernel_rfl
theorem as42 (v : Value) (w : World) : (Instr.typeAssert (.iface 211 v) 170 205 true).run Tryz.prog w = .ok (.tuple #[.int .i64 0, .bool false]) w := by kernel_rfl
theorem as43 (v : Value) (w : World) : (Instr.typeAssert (.iface 211 v) 170 210 true).run Tryz.prog w = .ok (.tuple #[.agg #[.string ⟨#[]⟩, .int .i64 0], .bool false]) w := by kernel_rfl
end Go.Proofs.YthffjcclcladoaaGreatDoor.kit
