/-
  A row of pairs of lists that wait: the call's own, from which the last is taken and to which one is appended. Conditions: each theorem names its own.
-/
import Derived.Test.YtghmkfehohgmgaaNm2
import Derived.Laws.AppendOwn
import Derived.Below
namespace Go.Proofs.Ytghmkfehohgmgaa.kit
open Go.ChangeShapes Go.WideShapes Go.ChangeAt Go.RowKit
set_option linter.unusedVariables false

/-- A pair, and where its lists lie. -/
abbrev PD := (List NT × List NT) × (Addr × Nat) × (Addr × Nat)
def pdC (d : PD) : List Value := [.slice (some d.2.1.1) d.1.1.length d.2.1.2, .slice (some d.2.2.1) d.1.2.length d.2.2.2]
def pdVals : List PD → List Value | [] => [] | d :: ds => pdC d ++ pdVals ds
theorem pdVals_len : ∀ ds : List PD, (pdVals ds).length = ds.length * 2
  | [] => rfl
  | d :: ds => by simp only [pdVals, List.length_append, pdVals_len ds, pdC, List.length_cons, List.length_nil]; omega
theorem pdVals_app : ∀ (ds es : List PD), pdVals (ds ++ es) = pdVals ds ++ pdVals es
  | [], es => rfl
  | d :: ds, es => by simp only [List.cons_append, pdVals, pdVals_app ds es, List.append_assoc]
/-- The call's own row of pairs. -/
def OwnP (B : Nat) (w : World) (v : Value) (ds : List PD) : Prop := w.ownsRow B 90 2 v ds.length (pdVals ds)
theorem OwnP.kept {B : Nat} {w w' : World} {v : Value} {ds : List PD} (h : OwnP B w v ds) (hb : Below w.heap.size w w') : OwnP B w' v ds :=
  World.ownsRow.kept h ⟨hb.os, hb.tape, hb.output, hb.size, fun k hk _ => hb.block k hk⟩ (row := none) (by cases v.ownBlock <;> simp)
theorem OwnP.other {B : Nat} {w w' : World} {row : Option Nat} {v : Value} {ds : List PD} (h : OwnP B w v ds) (hg : w.grownBy w' row) (hne : v.ownBlock = none ∨ v.ownBlock ≠ row) : OwnP B w' v ds := World.ownsRow.kept h hg hne
/-- The last is taken. -/
theorem OwnP.pop {B : Nat} {w : World} {v : Value} {ds : List PD} {d : PD} (h : OwnP B w v (ds ++ [d])) : ∃ g cap, v = .slice (some ⟨g, 0, none⟩) (ds.length + 1) cap ∧ ds.length + 1 ≤ cap ∧ cap ≤ maxLen ∧ B ≤ g ∧ g < w.heap.size ∧
    w.cell? ⟨g, ds.length * 2, none⟩ = some (.slice (some d.2.1.1) d.1.1.length d.2.1.2) ∧ w.cell? ⟨g, ds.length * 2 + 1, none⟩ = some (.slice (some d.2.2.1) d.1.2.length d.2.2.2) ∧ OwnP B w (.slice (some ⟨g, 0, none⟩) ds.length cap) ds := by
  have hc := fun g (e : v.ownBlock = some g) => World.ownsRow.cells h (g := g) e
  obtain ⟨hl, ⟨_, h0⟩ | ⟨g, cap, cur, hv, hg, hb, hn, hm, hs, ht⟩⟩ := h
  · simp at h0
  · have hlen : (ds ++ [d]).length = ds.length + 1 := by simp
    rw [hlen] at hv hn ht
    have hx : pdVals (ds ++ [d]) = pdVals ds ++ pdC d := by rw [pdVals_app]; simp [pdVals]
    have hl2 := pdVals_len ds
    have hcell := hc g (by rw [hv]; rfl)
    rw [hx] at hcell
    have c0 := hcell (ds.length * 2) (.slice (some d.2.1.1) d.1.1.length d.2.1.2) (by rw [List.getElem?_append_right (by omega), hl2, Nat.sub_self]; rfl)
    have c1 := hcell (ds.length * 2 + 1) (.slice (some d.2.2.1) d.1.2.length d.2.2.2) (by rw [List.getElem?_append_right (by omega), hl2, Nat.add_sub_cancel_left]; rfl)
    rw [add_at, Nat.zero_add] at c0 c1
    refine ⟨g, cap, hv, hn, hm, hg, (Array.getElem?_eq_some_iff.1 hb).1, c0, c1, hl2, .inr ⟨g, cap, cur, rfl, hg, hb, by omega, hm, hs, ?_⟩⟩
    have q : List.take (ds.length * 2) (List.take ((ds.length + 1) * 2) cur.toList) = List.take (ds.length * 2) cur.toList := by rw [List.take_take, Nat.min_eq_left (by omega)]
    rw [← q, ht, hx, ← hl2]
    simp
theorem infoPair : (Try.prog.info? 90).map (fun i => (i.zero, i.size, i.bytes)) = some (some (.agg #[.slice none 0 0, .slice none 0 0]), 2, 48) := by kernel_rfl
/-- One is appended. -/
theorem wp_append_pair {w : World} {ops : Array Oper} {rest : List Oper} {o : Oper} {a : Act} {Q : Exit → Act → World → Prop} (hgd : o.guard = none) (s x : Operand)
    (ho : o.op = .call { callee := .builtin .append, args := #[s, x], argTypes := #[91, 91] }) (B : Nat) (v : Value) (ds : List PD) (hs : a.eval s = v) (hown : OwnP B w v ds)
    (g : Nat) (c : Nat) (d : PD) (hx : a.eval x = .slice (some ⟨g, 0, none⟩) 1 c) (h0 : w.cell? ⟨g, 0, none⟩ = some (.slice (some d.2.1.1) d.1.1.length d.2.1.2)) (h1 : w.cell? ⟨g, 1, none⟩ = some (.slice (some d.2.2.1) d.1.2.length d.2.2.2))
    (hl : ds.length + 1 ≤ 1099511627776) (hB : B ≤ w.heap.size)
    (h : ∀ v' w', OwnP B w' v' (ds ++ [d]) → w.grownBy w' v.ownBlock → Below B w w' → wpList Try.prog ops Q rest (a.put o.dst v') w') : wpList Try.prog ops Q (o :: rest) a w := by
  obtain ⟨i0, hi, hz0, hz1, hz2⟩ := info_parts infoPair
  refine wpList_append_own _ hgd s x _ ho B 90 i0 _ 2 48 Try.underlying91 hi hz0 hz1 hz2 rfl (by decide) v ds.length _ hs hown ⟨g, 0, none⟩ 1 c (pdC d) hx (by simp [pdC]) ?_ ?_ ?_ ?_ hB ?_
  · intro j u hu
    have hj : j < 2 := (List.getElem?_eq_some_iff.1 hu).1
    rw [add_at, Nat.zero_add]
    match j, hj with
    | 0, _ => rw [h0]; exact hu
    | 1, _ => rw [h1]; exact hu
  · intro u hu
    simp only [pdC, List.mem_cons, List.not_mem_nil, or_false] at hu
    rcases hu with rfl | rfl <;> rfl
  · simp only [maxLen]; omega
  · omega
  · intro v' w' h1 h2 h3
    refine h v' w' ?_ h2 (Below.grown (Below.refl _ _) h2 hB (fun k hk => (World.ownsRow.lt hown k hk).1))
    have e : pdVals (ds ++ [d]) = pdVals ds ++ pdC d := by rw [pdVals_app]; simp [pdVals]
    unfold OwnP
    rw [e, List.length_append]
    exact h1
end Go.Proofs.Ytghmkfehohgmgaa.kit
