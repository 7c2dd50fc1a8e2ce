/-
  Contracts over this seat's translation of what the laws of values share: how many letters a value has, a value made anew, impl.valueOf. Conditions: each theorem names its own.
-/
import Derived.Test.YtchagbhcekehmaaDoorInfo
import Derived.Deep.QuietTactic
import Derived.BigQuiet
import Derived.Deep.RegionWith
namespace Go.Proofs.YtchagbhcekehmaaDoor.kit
open Go.ChangeShapes Go.WideShapes Go.ChangeAt Go.RowKit
set_option linter.unusedVariables false

theorem szVal_in (k : Int) (s : ByteArray) (n L : Int) (w : World) (hs : (s.size : Int) ≤ L) (hL : L ≤ 1048576) :
    Calls Tryd.prog 41 #[.agg #[.int .i64 k, .string s, .int .i64 n], .int .i64 L] w fun e w' => e = .returned (.int .i64 (L - s.size)) ∧ Below w.heap.size w w' := by
  go_enter Tryd.func41, Tryd.ntmps41
  go_wp2
  go_ret
  exact ⟨rfl, (Below.refl _ _).alloc (Nat.le_refl _) _⟩
theorem szVal_out (k : Int) (s : ByteArray) (n L : Int) (w : World) (hs : L < (s.size : Int)) (hL : 0 ≤ L) (hm : s.size ≤ maxLen) :
    Calls Tryd.prog 41 #[.agg #[.int .i64 k, .string s, .int .i64 n], .int .i64 L] w fun e w' => e = .returned (.int .i64 (-1)) ∧ Below w.heap.size w w' := by
  unfold maxLen at hm
  go_enter Tryd.func41, Tryd.ntmps41
  go_wp2
  go_ret
  exact ⟨rfl, (Below.refl _ _).alloc (Nat.le_refl _) _⟩
theorem toVal_any (k : Int) (s : ByteArray) (n : Int) (w : World) :
    Calls Tryd.prog 43 #[.agg #[.int .i64 k, .string s, .int .i64 n]] w fun e w' => e = .returned (.agg #[.int .i64 k, .string s, .int .i64 n]) ∧ Below w.heap.size w w' := by
  go_enter Tryd.func43, Tryd.ntmps43
  go_wp2
  exact bodyPost_ret (v := .agg #[.int .i64 k, .string s, .int .i64 n]) (by simp [results, Tryd.results43, go_sem]) rfl ⟨rfl, (((Below.refl _ _).alloc (Nat.le_refl _) _).alloc (by simp) _).alloc (by simp; omega) _⟩

/-- What impl.valueOf makes of a value. -/
theorem valueOf0 (s : ByteArray) (n : Int) (w : World) :
    Calls Tryd.prog 81 #[.agg #[.int .i64 0, .string s, .int .i64 n]] w fun e w' => e = .returned (.iface 94 (.agg #[])) ∧ Below w.heap.size w w' := by
  go_enter Tryd.func81, Tryd.ntmps81
  go_wp2
  go_ret
  exact ⟨rfl, (Below.refl _ _).alloc (Nat.le_refl _) _⟩
theorem valueOf1 (s : ByteArray) (n : Int) (w : World) :
    Calls Tryd.prog 81 #[.agg #[.int .i64 1, .string s, .int .i64 n]] w fun e w' => e = .returned (.iface 95 (.string s)) ∧ Below w.heap.size w w' := by
  go_enter Tryd.func81, Tryd.ntmps81
  go_wp2
  go_ret
  exact ⟨rfl, (Below.refl _ _).alloc (Nat.le_refl _) _⟩
theorem valueOf2 (s : ByteArray) (n : Int) (w : World) :
    Calls Tryd.prog 81 #[.agg #[.int .i64 2, .string s, .int .i64 n]] w fun e w' => e = .returned (.iface 84 (.int .i64 n)) ∧ Below w.heap.size w w' := by
  go_enter Tryd.func81, Tryd.ntmps81
  go_wp2
  go_ret
  exact ⟨rfl, (Below.refl _ _).alloc (Nat.le_refl _) _⟩
theorem valueOf3 (s : ByteArray) (n : Int) (w : World) :
    Calls Tryd.prog 81 #[.agg #[.int .i64 3, .string s, .int .i64 n]] w fun e w' => e = .returned (.iface 97 (.agg #[.string s, .int .i64 n])) ∧ Below w.heap.size w w' := by
  go_enter Tryd.func81, Tryd.ntmps81
  go_wp2
  go_ret
  exact ⟨rfl, (Below.refl _ _).alloc (Nat.le_refl _) _⟩
theorem valueOf4 (k : Int) (s : ByteArray) (n : Int) (w : World) (h0 : (k == 0) = false) (h1 : (k == 1) = false) (h2 : (k == 2) = false) (h3 : (k == 3) = false) :
    Calls Tryd.prog 81 #[.agg #[.int .i64 k, .string s, .int .i64 n]] w fun e w' => e = .returned (.iface 98 (.agg #[])) ∧ Below w.heap.size w w' := by
  go_enter Tryd.func81, Tryd.ntmps81
  go_wp2
  go_ret
  exact ⟨rfl, (Below.refl _ _).alloc (Nat.le_refl _) _⟩
theorem ktell (k : Int) : k = 0 ∨ k = 1 ∨ k = 2 ∨ k = 3 ∨ ((k == 0) = false ∧ (k == 1) = false ∧ (k == 2) = false ∧ (k == 3) = false) := by
  simp only [beq_eq_false_iff_ne]; omega
end Go.Proofs.YtchagbhcekehmaaDoor.kit
