/-
  How a call owns a slice of words, and append of one word to it; of no program but for the types' numbers. Conditions: each theorem names its own.
-/
import Derived.Test.YtebeoijoljlhiaaGreatDoorMTok0
import Derived.Test.YtebeoijoljlhiaaGreatDoorMParts0
namespace Go.Proofs.YtebeoijoljlhiaaGreatDoor.kit
open Go.ChangeShapes Go.WideShapes Go.ChangeAt Go.RowKit
set_option linter.unusedVariables false

def Tok.cells (t : Tok) : List Value := [.int .i64 t.k, .string t.s, .int .i64 t.n, .int .i64 t.l]
def tokVals (ts : List Tok) : List Value := ts.flatMap Tok.cells
theorem tokVals_len (ts : List Tok) : (tokVals ts).length = ts.length * 4 := by
  induction ts with
  | nil => rfl
  | cons t ts ih => simp only [tokVals, List.flatMap_cons, List.length_append, List.length_cons] at ih ⊢; rw [ih]; simp [Tok.cells]; omega
theorem tokVals_at (ts : List Tok) (j d : Nat) (hj : j < ts.length) (hd : d < 4) : (tokVals ts)[j * 4 + d]? = (ts.getD j default).cells[d]? := by
  induction ts generalizing j with
  | nil => simp at hj
  | cons t ts ih =>
    have hc : t.cells.length = 4 := rfl
    show (t.cells ++ tokVals ts)[j * 4 + d]? = _
    cases j with
    | zero => rw [List.getElem?_append_left (by omega)]; simp
    | succ j =>
      rw [List.getElem?_append_right (by omega), hc, show (j + 1) * 4 + d - 4 = j * 4 + d by omega, ih j (by simpa using hj)]
      simp
/-- A slice value that owns words in a block from B on. -/
def OwnT (B : Nat) (w : World) (v : Value) (ts : List Tok) : Prop := w.ownsRow B 39 4 v ts.length (tokVals ts)
theorem ownT_start {B : Nat} {w : World} (hB : B ≤ w.heap.size) : OwnT B (w.alloc (.cells #[] 39)) (.slice (some ⟨w.heap.size, 0, none⟩) 0 0) [] :=
  World.ownsRow_made w #[] 0 hB (by simp [maxLen]) rfl
theorem ownT_nil (B : Nat) (w : World) : OwnT B w (.slice none 0 0) [] := ⟨by simp [tokVals], .inl ⟨rfl, rfl⟩⟩
theorem OwnT.alloc {B : Nat} {w : World} {v : Value} {ts : List Tok} (h : OwnT B w v ts) (o : Obj) : OwnT B (w.alloc o) v ts := World.ownsRow.alloc h o
theorem OwnT.drew {B : Nat} {w : World} {v : Value} {ts : List Tok} (h : OwnT B w v ts) : OwnT B w.drew v ts := World.ownsRow.drew h
theorem OwnT.kept {B : Nat} {w w' : World} {v : Value} {ts : List Tok} (h : OwnT B w v ts) (hb : Below w.heap.size w w') : OwnT B w' v ts :=
  World.ownsRow.kept h ⟨hb.os, hb.tape, hb.output, hb.size, fun k hk _ => hb.block k hk⟩ (row := none) (by cases v.ownBlock <;> simp)
theorem OwnT.tokF {B : Nat} {w : World} {v : Value} {ts : List Tok} (h : OwnT B w v ts) : ∃ a cap, v = .slice a ts.length cap ∧ TokF B w a ts.length (fun j => ts.getD j default) := by
  rcases h.2 with ⟨rfl, h0⟩ | ⟨g, cap, cur, rfl, hb, hg, hr⟩
  · exact ⟨none, 0, by rw [h0], fun j hj => by omega⟩
  · have h2 : w.ownsRow B 39 4 (.slice (some ⟨g, 0, none⟩) ts.length cap) ts.length (tokVals ts) := h
    refine ⟨some ⟨g, 0, none⟩, cap, rfl, fun j hj => ⟨g, rfl, hb, (Array.getElem?_eq_some_iff.1 hg).1, ?_, fun d hd => World.ownsRow.frozenAt h2 _⟩⟩
    have hc : ∀ d, d < 4 → w.cell? ⟨g, j * 4 + d, none⟩ = (ts.getD j default).cells[d]? := fun d hd => by
      rw [World.ownsRow.cellAt h2 (j * 4 + d) (by omega), tokVals_at ts j d hj hd]
    exact ⟨hc 0 (by omega), hc 1 (by omega), hc 2 (by omega), hc 3 (by omega)⟩
/-- append of one word. -/
theorem wp_append_tok {w : World} {ops : Array Oper} {rest : List Oper} {o : Oper} {a : Act} {Q : Exit → Act → World → Prop} (hgd : o.guard = none) (s x : Operand)
    (ho : o.op = .call { callee := .builtin .append, args := #[s, x], argTypes := #[35, 35] }) (B : Nat) (v : Value) (ts : List Tok) (hs : a.eval s = v) (hown : OwnT B w v ts)
    (g : Nat) (c : Nat) (t : Tok) (hx : a.eval x = .slice (some ⟨g, 0, none⟩) 1 c) (hnew : TokC w g 0 t)
    (hl : ts.length + 1 ≤ 1099511627776) (hB : B ≤ w.heap.size)
    (h : ∀ v' w', OwnT B w' v' (ts ++ [t]) → Below B w w' → wpList Tryz.prog ops Q rest (a.put o.dst v') w') : wpList Tryz.prog ops Q (o :: rest) a w := by
  obtain ⟨i0, hi, hz0, hz1, hz2⟩ := info_parts infoTok
  refine wpList_append_own _ hgd s x _ ho B 39 i0 _ 4 40 Tryz.underlying35 hi hz0 hz1 hz2 rfl (by decide) v ts.length _ hs hown ⟨g, 0, none⟩ 1 c t.cells hx (by simp [Tok.cells]) ?_ ?_ ?_ ?_ hB ?_
  · intro j u hu
    have hj : j < 4 := (List.getElem?_eq_some_iff.1 hu).1
    obtain ⟨c0, c1, c2, c3⟩ := hnew
    rw [add_atT, Nat.zero_add]
    match j, hj with
    | 0, _ => rw [c0]; exact hu
    | 1, _ => rw [show (1 : Nat) = 0 + 1 from rfl, c1]; exact hu
    | 2, _ => rw [show (2 : Nat) = 0 + 2 from rfl, c2]; exact hu
    | 3, _ => rw [show (3 : Nat) = 0 + 3 from rfl, c3]; exact hu
  · intro u hu
    simp only [Tok.cells, List.mem_cons, List.not_mem_nil, or_false] at hu
    rcases hu with rfl | rfl | rfl | rfl <;> rfl
  · simp only [maxLen]; omega
  · omega
  · intro v' w' h1 h2 h3
    refine h v' w' ?_ (Below.grown (Below.refl _ _) h2 hB (fun k hk => (World.ownsRow.lt hown k hk).1))
    simpa [OwnT, tokVals, List.flatMap_append] using h1
end Go.Proofs.YtebeoijoljlhiaaGreatDoor.kit
