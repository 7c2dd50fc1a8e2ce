/-
  Closed facts of this seat's program: which type a value's maker is of, by type assertion with ok. Conditions: none.
-/
import Derived.Test.YtchagbhcekehmaaDoorVal0
namespace Go.Proofs.YtchagbhcekehmaaDoor.kit
open Go.ChangeShapes Go.WideShapes Go.ChangeAt Go.RowKit
set_option linter.unusedVariables false

theorem as00 (v : Value) (w : World) : (Instr.typeAssert (.iface 94 v) 82 94 true).run Tryd.prog w = .ok (.tuple #[v, .bool true]) w := by kernel_rfl
theorem as01 (v : Value) (w : World) : (Instr.typeAssert (.iface 94 v) 82 95 true).run Tryd.prog w = .ok (.tuple #[.string ⟨#[]⟩, .bool false]) w := by kernel_rfl
theorem as02 (v : Value) (w : World) : (Instr.typeAssert (.iface 94 v) 82 84 true).run Tryd.prog w = .ok (.tuple #[.int .i64 0, .bool false]) w := by kernel_rfl
theorem as03 (v : Value) (w : World) : (Instr.typeAssert (.iface 94 v) 82 97 true).run Tryd.prog w = .ok (.tuple #[.agg #[.string ⟨#[]⟩, .int .i64 0], .bool false]) w := by kernel_rfl
theorem as10 (v : Value) (w : World) : (Instr.typeAssert (.iface 95 v) 82 94 true).run Tryd.prog w = .ok (.tuple #[.agg #[], .bool false]) w := by kernel_rfl
theorem as11 (v : Value) (w : World) : (Instr.typeAssert (.iface 95 v) 82 95 true).run Tryd.prog w = .ok (.tuple #[v, .bool true]) w := by kernel_rfl
theorem as12 (v : Value) (w : World) : (Instr.typeAssert (.iface 95 v) 82 84 true).run Tryd.prog w = .ok (.tuple #[.int .i64 0, .bool false]) w := by kernel_rfl
theorem as13 (v : Value) (w : World) : (Instr.typeAssert (.iface 95 v) 82 97 true).run Tryd.prog w = .ok (.tuple #[.agg #[.string ⟨#[]⟩, .int .i64 0], .bool false]) w := by kernel_rfl
theorem as20 (v : Value) (w : World) : (Instr.typeAssert (.iface 84 v) 82 94 true).run Tryd.prog w = .ok (.tuple #[.agg #[], .bool false]) w := by kernel_rfl
theorem as21 (v : Value) (w : World) : (Instr.typeAssert (.iface 84 v) 82 95 true).run Tryd.prog w = .ok (.tuple #[.string ⟨#[]⟩, .bool false]) w := by kernel_rfl
theorem as22 (v : Value) (w : World) : (Instr.typeAssert (.iface 84 v) 82 84 true).run Tryd.prog w = .ok (.tuple #[v, .bool true]) w := by kernel_rfl
theorem as23 (v : Value) (w : World) : (Instr.typeAssert (.iface 84 v) 82 97 true).run Tryd.prog w = .ok (.tuple #[.agg #[.string ⟨#[]⟩, .int .i64 0], .bool false]) w := by kernel_rfl
theorem as30 (v : Value) (w : World) : (Instr.typeAssert (.iface 97 v) 82 94 true).run Tryd.prog w = .ok (.tuple #[.agg #[], .bool false]) w := by kernel_rfl
theorem as31 (v : Value) (w : World) : (Instr.typeAssert (.iface 97 v) 82 95 true).run Tryd.prog w = .ok (.tuple #[.string ⟨#[]⟩, .bool false]) w := by kernel_rfl
theorem as32 (v : Value) (w : World) : (Instr.typeAssert (.iface 97 v) 82 84 true).run Tryd.prog w = .ok (.tuple #[.int .i64 0, .bool false]) w := by kernel_rfl
theorem as33 (v : Value) (w : World) : (Instr.typeAssert (.iface 97 v) 82 97 true).run Tryd.prog w = .ok (.tuple #[v, .bool true]) w := by kernel_rfl
theorem as40 (v : Value) (w : World) : (Instr.typeAssert (.iface 98 v) 82 94 true).run Tryd.prog w = .ok (.tuple #[.agg #[], .bool false]) w := by kernel_rfl
theorem as41 (v : Value) (w : World) : (Instr.typeAssert (.iface 98 v) 82 95 true).run Tryd.prog w = .ok (.tuple #[.string ⟨#[]⟩, .bool false]) w := by kernel_rfl
theorem as42 (v : Value) (w : World) : (Instr.typeAssert (.iface 98 v) 82 84 true).run Tryd.prog w = .ok (.tuple #[.int .i64 0, .bool false]) w := by kernel_rfl
theorem as43 (v : Value) (w : World) : (Instr.typeAssert (.iface 98 v) 82 97 true).run Tryd.prog w = .ok (.tuple #[.agg #[.string ⟨#[]⟩, .int .i64 0], .bool false]) w := by kernel_rfl
end Go.Proofs.YtchagbhcekehmaaDoor.kit
