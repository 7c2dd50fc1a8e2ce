/-
  How a call owns a slice of pieces, append of one piece, and a room's cells; of no program but for the types' numbers. Conditions: each theorem names its own.
-/
import Derived.Test.YthffjcclcladoaaPt0
import Derived.Test.YthffjcclcladoaaInfo
import Derived.Lib.LazyBuf
import Derived.Deep.OwnRows
namespace Go.Proofs.Ythffjcclcladoaa.kit
open Go.ChangeShapes Go.WideShapes Go.ChangeAt Go.RowKit
set_option linter.unusedVariables false

def pcC (p : Pc) : List Value := [.string ⟨p.1.toArray⟩, .int .i64 (p.2 : Int)]
def pcVals (ps : List Pc) : List Value := ps.flatMap pcC
theorem pcVals_len (ps : List Pc) : (pcVals ps).length = ps.length * 2 := by
  induction ps with
  | nil => rfl
  | cons t ps ih => simp only [pcVals, List.flatMap_cons, List.length_append, List.length_cons] at ih ⊢; rw [ih]; simp [pcC]; omega
theorem pcVals_at (ps : List Pc) (j d : Nat) (hj : j < ps.length) (hd : d < 2) : (pcVals ps)[j * 2 + d]? = (pcC ps[j])[d]? := by
  induction ps generalizing j with
  | nil => simp at hj
  | cons t ps ih =>
    have hc : (pcC t).length = 2 := rfl
    show (pcC t ++ pcVals ps)[j * 2 + d]? = _
    cases j with
    | zero => rw [List.getElem?_append_left (by omega)]; simp
    | succ j =>
      rw [List.getElem?_append_right (by omega), hc, show (j + 1) * 2 + d - 2 = j * 2 + d by omega, ih j (by simpa using hj)]
      simp
/-- A slice value that owns pieces in a block from B on. -/
def OwnPc (B : Nat) (w : World) (v : Value) (ps : List Pc) : Prop := w.ownsRow B 29 2 v ps.length (pcVals ps)
theorem ownPc_start {B : Nat} {w : World} (hB : B ≤ w.heap.size) : OwnPc B (w.alloc (.cells #[] 29)) (.slice (some ⟨w.heap.size, 0, none⟩) 0 0) [] :=
  World.ownsRow_made w #[] 0 hB (by simp [maxLen]) rfl
theorem OwnPc.alloc {B : Nat} {w : World} {v : Value} {ps : List Pc} (h : OwnPc B w v ps) (o : Obj) : OwnPc B (w.alloc o) v ps := World.ownsRow.alloc h o
theorem OwnPc.kept {B : Nat} {w w' : World} {v : Value} {ps : List Pc} (h : OwnPc B w v ps) (hb : Below w.heap.size w w') : OwnPc B w' v ps :=
  World.ownsRow.kept h ⟨hb.os, hb.tape, hb.output, hb.size, fun k hk _ => hb.block k hk⟩ (row := none) (by cases v.ownBlock <;> simp)
/-- Rows of pieces and rows of bytes are apart. -/
theorem pc_apart {B B' : Nat} {w : World} {v v' : Value} {ps : List Pc} {xs : List UInt8} (h : OwnPc B w v ps) (h' : Own 5 B' w v' xs) : v.ownBlock = none ∨ v.ownBlock ≠ v'.ownBlock := by
  rcases h.2 with ⟨rfl, _⟩ | ⟨g, cap, cur, rfl, hb, hg, _⟩
  · exact .inl rfl
  · refine .inr ?_
    rcases h'.2 with ⟨rfl, _⟩ | ⟨g', cap', cur', rfl, hb', hg', _⟩
    · simp [Value.ownBlock]
    · simp only [Value.ownBlock]
      intro e
      injection e with e
      subst e
      rw [hg] at hg'
      injection hg' with e
      injection e with _ e _
      exact absurd e (by decide)
theorem OwnPc.other {B : Nat} {w w' : World} {row : Option Nat} {v : Value} {ps : List Pc} (h : OwnPc B w v ps) (hg : w.grownBy w' row) (hne : v.ownBlock = none ∨ v.ownBlock ≠ row) : OwnPc B w' v ps := World.ownsRow.kept h hg hne
theorem Own.other {e : TypeId} {B : Nat} {w w' : World} {row : Option Nat} {v : Value} {xs : List UInt8} (h : Own e B w v xs) (hg : w.grownBy w' row) (hne : v.ownBlock = none ∨ v.ownBlock ≠ row) : Own e B w' v xs := World.ownsRow.kept h hg hne
theorem apart_symm {a b : Option Nat} (h : a = none ∨ a ≠ b) : b = none ∨ b ≠ a := by
  rcases h with rfl | h
  · cases b with
    | none => exact .inl rfl
    | some x => exact .inr (by simp)
  · exact .inr (Ne.symm h)
theorem add_atP (b o k : Nat) : (⟨b, o, none⟩ : Addr).add k = ⟨b, o + k, none⟩ := by unfold Addr.add; split <;> simp_all
/-- Pieces that lie in a row, to be read. -/
def PcR (B : Nat) (w : World) (ps : List Pc) (a : Option Addr) : Prop := ∀ j (h : j < ps.length), ∃ g, a = some ⟨g, 0, none⟩ ∧ B ≤ g ∧ g < w.heap.size ∧ w.cell? ⟨g, j * 2, none⟩ = some (.string ⟨ps[j].1.toArray⟩) ∧ w.cell? ⟨g, j * 2 + 1, none⟩ = some (.int .i64 (ps[j].2 : Int))
theorem PcR.kept {B : Nat} {w w' : World} {ps : List Pc} {a : Option Addr} (h : PcR B w ps a) (hb : Below w.heap.size w w') : PcR B w' ps a := fun j hj => by
  obtain ⟨g, e, h1, h2, h3, h4⟩ := h j hj
  exact ⟨g, e, h1, Nat.lt_of_lt_of_le h2 hb.size, (hb.cell (p := ⟨g, j * 2, none⟩) h2).trans h3, (hb.cell (p := ⟨g, j * 2 + 1, none⟩) h2).trans h4⟩
/-- Kept where nothing below what is above the row has turned. -/
theorem PcR.keptAt {B C : Nat} {w w' : World} {ps : List Pc} {a : Option Addr} (h : PcR B w ps a) (hC : w.heap.size ≤ C) {W : World} (hW : ∀ k, k < w.heap.size → W.heap[k]? = w.heap[k]?) (hz : w.heap.size ≤ W.heap.size) : PcR B W ps a := fun j hj => by
  obtain ⟨g, e, h1, h2, h3, h4⟩ := h j hj
  exact ⟨g, e, h1, Nat.lt_of_lt_of_le h2 hz, (World.cell?_of_block (w := w) (a := ⟨g, j * 2, none⟩) (hW g h2)).trans h3, (World.cell?_of_block (w := w) (a := ⟨g, j * 2 + 1, none⟩) (hW g h2)).trans h4⟩
theorem OwnPc.read {B : Nat} {w : World} {v : Value} {ps : List Pc} (h : OwnPc B w v ps) : ∃ a cap, v = .slice a ps.length cap ∧ PcR B w ps a := by
  rcases h.2 with ⟨rfl, h0⟩ | ⟨g, cap, cur, rfl, hb, hg, hr⟩
  · exact ⟨none, 0, by rw [h0], fun j hj => by omega⟩
  · have h2 : w.ownsRow B 29 2 (.slice (some ⟨g, 0, none⟩) ps.length cap) ps.length (pcVals ps) := h
    refine ⟨some ⟨g, 0, none⟩, cap, rfl, fun j hj => ⟨g, rfl, hb, (Array.getElem?_eq_some_iff.1 hg).1, ?_, ?_⟩⟩
    · have := World.ownsRow.cellAt h2 (j * 2 + 0) (by omega)
      rw [pcVals_at ps j 0 hj (by omega)] at this
      exact this
    · have := World.ownsRow.cellAt h2 (j * 2 + 1) (by omega)
      rw [pcVals_at ps j 1 hj (by omega)] at this
      exact this
theorem infoPiece : (Try.prog.info? 29).map (fun i => (i.zero, i.size, i.bytes)) = some (some (.agg #[.string ⟨#[]⟩, .int .i64 0]), 2, 24) := by kernel_rfl
/-- append of one piece. -/
theorem wp_append_piece {w : World} {ops : Array Oper} {rest : List Oper} {o : Oper} {a : Act} {Q : Exit → Act → World → Prop} (hgd : o.guard = none) (s x : Operand)
    (ho : o.op = .call { callee := .builtin .append, args := #[s, x], argTypes := #[26, 26] }) (B : Nat) (v : Value) (ps : List Pc) (hs : a.eval s = v) (hown : OwnPc B w v ps)
    (g : Nat) (c : Nat) (p : Pc) (hx : a.eval x = .slice (some ⟨g, 0, none⟩) 1 c) (h0 : w.cell? ⟨g, 0, none⟩ = some (.string ⟨p.1.toArray⟩)) (h1 : w.cell? ⟨g, 1, none⟩ = some (.int .i64 (p.2 : Int)))
    (hl : ps.length + 1 ≤ 1099511627776) (hB : B ≤ w.heap.size)
    (h : ∀ v' w', OwnPc B w' v' (ps ++ [p]) → w.grownBy w' v.ownBlock → Below B w w' → wpList Try.prog ops Q rest (a.put o.dst v') w') : wpList Try.prog ops Q (o :: rest) a w := by
  obtain ⟨i0, hi, hz0, hz1, hz2⟩ := info_parts infoPiece
  refine wpList_append_own _ hgd s x _ ho B 29 i0 _ 2 24 Try.underlying26 hi hz0 hz1 hz2 rfl (by decide) v ps.length _ hs hown ⟨g, 0, none⟩ 1 c (pcC p) hx (by simp [pcC]) ?_ ?_ ?_ ?_ hB ?_
  · intro j u hu
    have hj : j < 2 := (List.getElem?_eq_some_iff.1 hu).1
    rw [add_atP, Nat.zero_add]
    match j, hj with
    | 0, _ => rw [h0]; exact hu
    | 1, _ => rw [h1]; exact hu
  · intro u hu
    simp only [pcC, List.mem_cons, List.not_mem_nil, or_false] at hu
    rcases hu with rfl | rfl <;> rfl
  · simp only [maxLen]; omega
  · omega
  · intro v' w' h1 h2 h3
    refine h v' w' ?_ h2 (Below.grown (Below.refl _ _) h2 hB (fun k hk => (World.ownsRow.lt hown k hk).1))
    simpa [OwnPc, pcVals, List.flatMap_append] using h1

/-- A room: its bytes' row g, its own block b. -/
structure Rm (w : World) (g b size cap : Nat) (out : List UInt8) (full : Bool) : Prop where
  row : ∃ rest : List UInt8, w.rowIs g 5 size (Lib.Lz.bytes (out ++ rest)) ∧ out.length + rest.length = size
  bx : w.rowIs b 32 3 (fun j => if j = 0 then .slice (some ⟨g, 0, none⟩) size cap else if j = 1 then .int .i64 (out.length : Int) else .bool full)
  lt : g < b
theorem Rm.le {w : World} {g b size cap : Nat} {out : List UInt8} {full : Bool} (h : Rm w g b size cap out full) : out.length ≤ size := by
  obtain ⟨rest, _, h⟩ := h.row; omega
theorem Rm.full {w : World} {g b size cap : Nat} {out : List UInt8} {full : Bool} (h : Rm w g b size cap out full) (v : Bool) : Rm (w.setCell ⟨b, 2, none⟩ (.bool v)) g b size cap out v := by
  obtain ⟨⟨rest, h1, h2⟩, h3, h4⟩ := h
  refine ⟨⟨rest, h1.setOther (by show g ≠ b; omega) _, h2⟩, ?_, h4⟩
  refine (h3.set 2 (.bool v)).congr fun i hi => ?_
  match i, hi with
  | 0, _ => rfl
  | 1, _ => rfl
  | 2, _ => rfl
theorem Rm.put {w : World} {g b size cap : Nat} {out : List UInt8} {full : Bool} (h : Rm w g b size cap out full) (s : List UInt8) (hs : out.length + s.length ≤ size) (n : Int) (hn : n = ((out ++ s).length : Int)) :
    Rm ((w.setCells g out.length (s.map fun x => Value.int .u8 (x.toNat : Int))).setCell ⟨b, 1, none⟩ (.int .i64 n)) g b size cap (out ++ s) full := by
  subst hn
  obtain ⟨⟨rest, h1, h2⟩, h3, h4⟩ := h
  refine ⟨⟨rest.drop s.length, ?_, by simp; omega⟩, ?_, h4⟩
  · refine (((rowIs_setCells (s.map fun x => Value.int .u8 (x.toNat : Int)) out.length _ _ h1).setOther (a := ⟨b, 1, none⟩) (by show g ≠ b; omega) _).congr fun j hj => ?_)
    simp only [List.length_map]
    unfold Lib.Lz.bytes
    by_cases ha : out.length ≤ j ∧ j < out.length + s.length
    · rw [if_pos ha, List.append_assoc, List.getElem?_append_right (by omega), List.getElem?_append_left (by omega), List.getElem?_map]
      rw [List.getElem?_eq_getElem (by omega)]; rfl
    · rw [if_neg ha]
      by_cases hb : j < out.length
      · have e1 : (out ++ rest)[j]? = out[j]? := List.getElem?_append_left hb
        have e2 : (out ++ s ++ rest.drop s.length)[j]? = out[j]? := by rw [List.append_assoc]; exact List.getElem?_append_left hb
        rw [e1, e2]
      · have e1 : (out ++ rest)[j]? = rest[j - out.length]? := List.getElem?_append_right (by omega)
        have e2 : (out ++ s ++ rest.drop s.length)[j]? = (rest.drop s.length)[j - (out ++ s).length]? := List.getElem?_append_right (by rw [List.length_append]; omega)
        rw [e1, e2, List.getElem?_drop, List.length_append, show s.length + (j - (out.length + s.length)) = j - out.length by omega]
  · refine (((rowIs_setCells_other (b := g) (b' := b) (by omega) (s.map fun x => Value.int .u8 (x.toNat : Int)) out.length _ h3).set 1 _).congr fun i hi => ?_)
    match i, hi with
    | 0, _ => rfl
    | 1, _ => rfl
    | 2, _ => rfl
theorem Rm.drew {w : World} {g b size cap : Nat} {out : List UInt8} {full : Bool} (h : Rm w g b size cap out full) : Rm w.drew g b size cap out full := ⟨h.row, h.bx, h.lt⟩
theorem Rm.alloc {w : World} {g b size cap : Nat} {out : List UInt8} {full : Bool} (h : Rm w g b size cap out full) (o : Obj) : Rm (w.alloc o) g b size cap out full := by
  obtain ⟨⟨rest, h1, h2⟩, h3, h4⟩ := h
  exact ⟨⟨rest, h1.alloc o, h2⟩, h3.alloc o, h4⟩
theorem Rm.kept {w w' : World} {g b size cap : Nat} {out : List UInt8} {full : Bool} (h : Rm w g b size cap out full) (hb : Below w.heap.size w w') : Rm w' g b size cap out full := by
  obtain ⟨⟨rest, h1, h2⟩, h3, h4⟩ := h
  exact ⟨⟨rest, h1.of_block (hb.block g h1.lt), h2⟩, h3.of_block (hb.block b h3.lt), h4⟩
end Go.Proofs.Ythffjcclcladoaa.kit
