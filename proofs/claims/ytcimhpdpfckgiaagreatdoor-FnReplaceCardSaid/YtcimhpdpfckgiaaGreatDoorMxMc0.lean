/-
  How a call owns a row of pairs of numbers, and append of one pair to it; of no program but for the types' numbers. Conditions: each theorem names its own.
-/
import Derived.Test.YtcimhpdpfckgiaaGreatDoorMxPr2
import Derived.OwnWalkIn
set_option linter.unusedVariables false
namespace Go.Proofs.YtcimhpdpfckgiaaGreatDoor.kit
open Go.ChangeShapes Go.WideShapes Go.ChangeAt Go.RowKit
def prC (p : Nat × Nat) : List Value := [.int .i64 (p.1 : Int), .int .i64 (p.2 : Int)]
def prVals (ps : List (Nat × Nat)) : List Value := ps.flatMap prC
theorem prVals_at (ps : List (Nat × Nat)) (j d : Nat) (hj : j < ps.length) (hd : d < 2) : (prVals ps)[j * 2 + d]? = (prC ps[j])[d]? := by
 induction ps generalizing j with
 | nil => simp at hj
 | cons t ps ih =>
   have hc : (prC t).length = 2 := rfl
   show (prC t ++ prVals ps)[j * 2 + d]? = _
   cases j with
   | zero => rw [List.getElem?_append_left (by omega)]; simp
   | succ j =>
     rw [List.getElem?_append_right (by omega), hc, show (j + 1) * 2 + d - 2 = j * 2 + d by omega, ih j (by simpa using hj)]
     simp
def OwnPr (B : Nat) (w : World) (v : Value) (ps : List (Nat × Nat)) : Prop := w.ownsRow B 40 2 v ps.length (prVals ps)
theorem ownPr_start {B : Nat} {w : World} (hB : B ≤ w.heap.size) : OwnPr B (w.alloc (.cells #[] 40)) (.slice (some ⟨w.heap.size, 0, none⟩) 0 0) [] :=
 World.ownsRow_made w #[] 0 hB (by simp [maxLen]) rfl
theorem OwnPr.of {B : Nat} {w w' : World} {v : Value} {ps : List (Nat × Nat)} (h : OwnPr B w v ps) (hb : ∀ g, v.ownBlock = some g → w'.heap[g]? = w.heap[g]?) : OwnPr B w' v ps := by
 obtain ⟨h1, h2⟩ := h
 rcases h2 with ⟨rfl, h0⟩ | ⟨g, cap, cur, rfl, hbg, hg, hr⟩
 · exact ⟨h1, .inl ⟨rfl, h0⟩⟩
 · exact ⟨h1, .inr ⟨g, cap, cur, rfl, hbg, (hb g rfl).trans hg, hr⟩⟩
theorem OwnPr.lt {B : Nat} {w : World} {v : Value} {ps : List (Nat × Nat)} (h : OwnPr B w v ps) : ∀ g, v.ownBlock = some g → B ≤ g ∧ g < w.heap.size := World.ownsRow.lt h
theorem OwnPr.kept {B : Nat} {w w' : World} {v : Value} {ps : List (Nat × Nat)} (h : OwnPr B w v ps) (hb : Below w.heap.size w w') : OwnPr B w' v ps := h.of (fun g hg => hb.block g (h.lt g hg).2)
theorem OwnPr.mono {B B' : Nat} {w : World} {v : Value} {ps : List (Nat × Nat)} (h : OwnPr B w v ps) (hB : B' ≤ B) : OwnPr B' w v ps := by
 obtain ⟨h1, h2⟩ := h
 rcases h2 with ⟨rfl, h0⟩ | ⟨g, cap, cur, rfl, hbg, hg, hr⟩
 · exact ⟨h1, .inl ⟨rfl, h0⟩⟩
 · exact ⟨h1, .inr ⟨g, cap, cur, rfl, Nat.le_trans hB hbg, hg, hr⟩⟩
def PrR (w : World) (ps : List (Nat × Nat)) (a : Option Addr) : Prop := ∀ j (h : j < ps.length), ∃ g, a = some ⟨g, 0, none⟩ ∧ g < w.heap.size ∧ w.cell? ⟨g, j * 2, none⟩ = some (.int .i64 (ps[j].1 : Int)) ∧ w.cell? ⟨g, j * 2 + 1, none⟩ = some (.int .i64 (ps[j].2 : Int))
theorem PrR.kept {w w' : World} {ps : List (Nat × Nat)} {a : Option Addr} (h : PrR w ps a) (hb : Below w.heap.size w w') : PrR w' ps a := fun j hj => by
 obtain ⟨g, e, h2, h3, h4⟩ := h j hj
 exact ⟨g, e, Nat.lt_of_lt_of_le h2 hb.size, (hb.cell (p := ⟨g, j * 2, none⟩) h2).trans h3, (hb.cell (p := ⟨g, j * 2 + 1, none⟩) h2).trans h4⟩
theorem OwnPr.look {B : Nat} {w : World} {v : Value} {ps : List (Nat × Nat)} (h : OwnPr B w v ps) : ∃ a cap, v = .slice a ps.length cap ∧ PrR w ps a := by
 rcases h.2 with ⟨rfl, h0⟩ | ⟨g, cap, cur, rfl, hb, hg, hr⟩
 · exact ⟨none, 0, by rw [h0], fun j hj => by omega⟩
 · have h2 : w.ownsRow B 40 2 (.slice (some ⟨g, 0, none⟩) ps.length cap) ps.length (prVals ps) := h
   refine ⟨some ⟨g, 0, none⟩, cap, rfl, fun j hj => ⟨g, rfl, (Array.getElem?_eq_some_iff.1 hg).1, ?_, ?_⟩⟩
   · have := World.ownsRow.cellAt h2 (j * 2 + 0) (by omega)
     rw [prVals_at ps j 0 hj (by omega)] at this
     exact this
   · have := World.ownsRow.cellAt h2 (j * 2 + 1) (by omega)
     rw [prVals_at ps j 1 hj (by omega)] at this
     exact this
theorem infoPair : (Tryz.prog.info? 40).map (fun i => (i.zero, i.size, i.bytes)) = some (some (.agg #[.int .i64 0, .int .i64 0]), 2, 16) := by kernel_rfl
theorem run_append_pair {w : World} (ty : TypeId) (B : Nat) (v : Value) (ps : List (Nat × Nat)) (hown : OwnPr B w v ps) (g c : Nat) (p : Nat × Nat) (h0 : w.cell? ⟨g, 0, none⟩ = some (.int .i64 (p.1 : Int))) (h1 : w.cell? ⟨g, 1, none⟩ = some (.int .i64 (p.2 : Int)))
 (hl : ps.length + 1 ≤ 1099511627776) (hB : B ≤ w.heap.size) :
 ∃ v' w', (Builtin.append_ #[29, 29] ty #[v, .slice (some ⟨g, 0, none⟩) 1 c]).run Tryz.prog w = .ok v' w' ∧ OwnPr B w' v' (ps ++ [p]) ∧ w.grownBy w' v.ownBlock ∧ (∀ k, v'.ownBlock = some k → v.ownBlock = some k ∨ w.heap.size ≤ k) := by
 obtain ⟨i0, hi, hz0, hz1, hz2⟩ := info_parts infoPair
 obtain ⟨v', w', hr, h2, h3, h4⟩ := run_append_at (P := Tryz.prog) w B 29 ty 40 i0 _ 2 16 Tryz.underlying29 hi hz0 hz1 hz2 rfl (by decide) v ps.length _ hown ⟨g, 0, none⟩ c (prC p) (by simp [prC])
  (by
    intro j u hu
    have hj : j < 2 := (List.getElem?_eq_some_iff.1 hu).1
    rw [add_atR, Nat.zero_add]
    match j, hj with
    | 0, _ => rw [h0]; exact hu
    | 1, _ => rw [h1]; exact hu)
  (by
    intro u hu
    simp only [prC, List.mem_cons, List.not_mem_nil, or_false] at hu
    rcases hu with rfl | rfl <;> rfl) (by simp only [maxLen]; omega) (by omega) hB
 exact ⟨v', w', hr, by simpa [OwnPr, prVals, List.flatMap_append] using h2, h3, h4⟩
theorem wp_append_pair {w : World} {ops : Array Oper} {rest : List Oper} {o : Oper} {a : Act} {Q : Exit → Act → World → Prop} (hgd : o.guard = none) (s x : Operand)
 (ho : o.op = .call { callee := .builtin .append, args := #[s, x], argTypes := #[29, 29] }) (B : Nat) (v : Value) (ps : List (Nat × Nat)) (hs : a.eval s = v) (hown : OwnPr B w v ps)
 (g c : Nat) (p : Nat × Nat) (hx : a.eval x = .slice (some ⟨g, 0, none⟩) 1 c) (h0 : w.cell? ⟨g, 0, none⟩ = some (.int .i64 (p.1 : Int))) (h1 : w.cell? ⟨g, 1, none⟩ = some (.int .i64 (p.2 : Int)))
 (hl : ps.length + 1 ≤ 1099511627776) (hB : B ≤ w.heap.size)
 (h : ∀ v' w', OwnPr B w' v' (ps ++ [p]) → w.grownBy w' v.ownBlock → (∀ k, v'.ownBlock = some k → v.ownBlock = some k ∨ w.heap.size ≤ k) → wpList Tryz.prog ops Q rest (a.put o.dst v') w') : wpList Tryz.prog ops Q (o :: rest) a w := by
 obtain ⟨v', w', hr, h2, h3, h4⟩ := run_append_pair o.type B v ps hown g c p h0 h1 hl hB
 refine wpList_plain hgd fun _ hK => ?_
 unfold Oper.wp execOp
 simp only [ho, resolve, invoke, builtin, Sem.run_bind, Sem.run_pure, Result.andThen_ok, List.map_toArray, List.map_cons, List.map_nil, hs, hx, hr]
 exact hK _ _ (h v' w' h2 h3 h4)
theorem wpIn_append_pair {F : Fence} {n : Nat} {w : World} {ops : Array Oper} {rest : List Oper} {o : Oper} {a : Act} {Q : Exit → Act → World → Prop} (hgd : o.guard = none) (s x : Operand)
 (ho : o.op = .call { callee := .builtin .append, args := #[s, x], argTypes := #[29, 29] }) (B : Nat) (v : Value) (ps : List (Nat × Nat)) (hs : a.eval s = v) (hown : OwnPr B w v ps)
 (g c : Nat) (p : Nat × Nat) (hx : a.eval x = .slice (some ⟨g, 0, none⟩) 1 c) (h0 : w.cell? ⟨g, 0, none⟩ = some (.int .i64 (p.1 : Int))) (h1 : w.cell? ⟨g, 1, none⟩ = some (.int .i64 (p.2 : Int)))
 (hl : ps.length + 1 ≤ 1099511627776) (hB : B ≤ w.heap.size)
 (h : ∀ v' w', OwnPr B w' v' (ps ++ [p]) → w.grownBy w' v.ownBlock → (∀ k, v'.ownBlock = some k → v.ownBlock = some k ∨ w.heap.size ≤ k) → wpListIn F n Tryz.prog ops Q rest (a.put o.dst v') w') : wpListIn F n Tryz.prog ops Q (o :: rest) a w := by
 obtain ⟨v', w', hr, h2, h3, h4⟩ := run_append_pair o.type B v ps hown g c p h0 h1 hl hB
 refine wpListIn_plain hgd fun K hK' => ?_
 unfold Oper.wpIn
 refine ⟨?_, ?_⟩
 · simp [Oper.about, ho, resolve, Target.leads, Sem.run_pure]
 · rw [Oper.semAt_plain F _ _ (by rw [ho]; intro c hc'; cases hc')]
   simp [execOp, ho, resolve, invoke, builtin, hs, hx, hr, Result.andThen]
   exact hK' _ _ (h v' w' h2 h3 h4)
end Go.Proofs.YtcimhpdpfckgiaaGreatDoor.kit
