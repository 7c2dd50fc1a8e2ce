/-
  How a value of the laws (a struct of an int, a text and an int) is read as data. Conditions: each theorem names its own.
-/
import Derived.Test.YthffjcclcladoaaGreatDoorMInfo
import Derived.Lib.SmallJoins
namespace Go.Proofs.YthffjcclcladoaaGreatDoor.kit
open Go.ChangeShapes Go.WideShapes Go.ChangeAt Go.RowKit Go.Joins
set_option linter.unusedVariables false

theorem cellsVal : Tryz.prog.cellsOf 124 = 3 := by kernel_rfl
set_option maxRecDepth 100000 in
theorem open_val {H : Type} {enc : TypeId × Value → H} {W : World} {b : Nat} {sp : Nat → Bool} {hd : Bool} {r : Reach} {b0 : Nat} {v : Value} {d : DataW H} {p : List MemPlace} (hv : Value.okWide Tryz.prog W r b0 124 v) (h : DataW.Trod enc Tryz.prog W b sp hd 124 v d p) :
    ∃ (k : Int) (s : ByteArray) (n : Int), v = .agg #[.int .i64 k, .string s, .int .i64 n] ∧ d = .agg [.lit (.int .i64 k), .lit (.string s.data.toList), .lit (.int .i64 n)] ∧ p = [] ∧ (Lit.int .i64 k).wf = true ∧ s.size ≤ maxLen ∧ (Lit.int .i64 n).wf = true := by
  obtain ⟨c0, c1, c2, y0, y1, y2, m, rfl, rfl, rfl, hy0, hy1, hy2⟩ := open_agg3 (enc := enc) (P := Tryz.prog) (w := W) (base := b) (spare := sp) (held := hd) (r := r) (b0 := b0) (t := 124) (v := v) (d := d) (p := p) Tryz.underlying124 (by kernel_rfl) cellsVal hv h
  obtain ⟨k, e0, rfl, wk⟩ := DataW.trod_int Tryz.underlying3 hy0
  obtain ⟨s, e1, rfl, ws⟩ := DataW.trod_string Tryz.underlying9 hy1
  obtain ⟨n, e2, rfl, wn⟩ := DataW.trod_int Tryz.underlying3 hy2
  simp at e0 e1 e2
  subst e0 e1 e2
  exact ⟨k, s, n, rfl, rfl, by simp, wk, ws, wn⟩
set_option maxRecDepth 100000 in
theorem shut_val {H : Type} {enc : TypeId × Value → H} {W : World} {b : Nat} {sp : Nat → Bool} {hd : Bool} {k : Int} {s : ByteArray} {n : Int} (wk : (Lit.int .i64 k).wf = true) (ws : s.size ≤ maxLen) (wn : (Lit.int .i64 n).wf = true) :
    DataW.Trod enc Tryz.prog W b sp hd 124 (.agg #[.int .i64 k, .string s, .int .i64 n]) (.agg [.lit (.int .i64 k), .lit (.string s.data.toList), .lit (.int .i64 n)]) [] := by
  simpa using shut_agg3 (enc := enc) (w := W) (base := b) (spare := sp) (held := hd) (y0 := (.lit (.int .i64 k), [])) (y1 := (.lit (.string s.data.toList), [])) (y2 := (.lit (.int .i64 n), [])) Tryz.underlying124 (by kernel_rfl) cellsVal ⟨1, by simp [DataW.trod, Tryz.underlying3, wk]⟩ ⟨1, by simp [DataW.trod, Tryz.underlying9, ws]⟩ ⟨1, by simp [DataW.trod, Tryz.underlying3, wn]⟩
theorem bcell {W w1 : World} (hb : Below W.heap.size W w1) : (∀ b o, b < W.heap.size → w1.cell? ⟨b, o, none⟩ = W.cell? ⟨b, o, none⟩) ∧ (∀ b o, b < W.heap.size → w1.frozen? ⟨b, o, none⟩ = W.frozen? ⟨b, o, none⟩) :=
  ⟨fun b o h => hb.cell (p := ⟨b, o, none⟩) h, fun b o h => hb.frozen (p := ⟨b, o, none⟩) h⟩
theorem belowOf {P : Program} {f : FuncId} {args : Array Value} {w : World} {X : Ending} (h : Calls P f args w fun e w' => e = X ∧ w = w') : Calls P f args w fun e w' => e = X ∧ Below w.heap.size w w' :=
  h.mono fun _ _ ⟨he, hw⟩ => ⟨he, hw ▸ Below.refl _ _⟩
end Go.Proofs.YthffjcclcladoaaGreatDoor.kit
