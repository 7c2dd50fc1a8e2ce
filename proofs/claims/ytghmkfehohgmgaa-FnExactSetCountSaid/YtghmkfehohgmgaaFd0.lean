/-
  How a slice of texts and a record of the laws (a text and a slice of texts) are read as data, and how texts lie in memory. Conditions: each theorem names its own.
-/
import Derived.Test.YtghmkfehohgmgaaInfo
import Derived.Test.YtghmkfehohgmgaaKit
import Derived.Test.YtghmkfehohgmgaaParts0
import Derived.Deep.Slices
import Derived.Deep.Fields
import Derived.ChangeSame
import Derived.Lib.SmallJoins
namespace Go.Proofs.Ytghmkfehohgmgaa.kit
open Go.Joins Go.ChangeShapes Go.WideShapes Go.ChangeAt Go.RowKit Go.Deep
set_option linter.unusedVariables false

theorem laidOutF : laidOutB Try.pinned.checked.prog = true := by kernel_rfl
/-- The texts xs lie at a. -/
def Strs (w : World) (xs : List (List UInt8)) (a : Option Addr) : Prop :=
  ∀ i (h : i < xs.length), ∃ b o, a = some ⟨b, o, none⟩ ∧ b < w.heap.size ∧ w.cell? ⟨b, o + i, none⟩ = some (eS xs[i]) ∧ xs[i].length ≤ maxLen
theorem Strs.kept {C : Nat} {w w' : World} {xs : List (List UInt8)} {a : Option Addr} (h : Strs w xs a) (hC : w.heap.size ≤ C) (hb : Below C w w') : Strs w' xs a := by
  intro i hi
  obtain ⟨b, o, e, h1, h2, h3⟩ := h i hi
  exact ⟨b, o, e, Nat.lt_of_lt_of_le h1 hb.size, (hb.cell (p := ⟨b, o + i, none⟩) (Nat.lt_of_lt_of_le h1 hC)).trans h2, h3⟩
theorem cellsStr : Try.prog.cellsOf 9 = 1 := by kernel_rfl
theorem add_atF (b o k : Nat) : (⟨b, o, none⟩ : Addr).add k = ⟨b, o + k, none⟩ := by unfold Addr.add; split <;> simp_all
theorem eS_of (s : ByteArray) : eS s.data.toList = .string s := by simp [eS]
theorem open_strs_at {H : Type} {enc : TypeId × Value → H} {W : World} {b : Nat} {hd : Bool} {fuel : Nat} {v : Value} {x : DataW H × List MemPlace} (h : DataW.trod enc Try.prog W b (fun _ => true) hd fuel 28 [v] = some x) :
    ∃ (xs : List (List UInt8)) (a : Option Addr) (cap : Nat), v = .slice a xs.length cap ∧ Strs W xs a ∧ xs.length ≤ maxLen := by
  rcases open_slice1 Try.underlying28 cellsStr h with ⟨hcs, hx⟩ | ⟨a, len, cap, m, n0, V, D, Pl, hcs, hb, hl, hm, hmm, hx, hi⟩
  · simp only [List.cons.injEq, and_true] at hcs
    exact ⟨[], none, 0, hcs, fun i hi => absurd hi (by simp), by simp⟩
  · simp only [List.cons.injEq, and_true] at hcs
    simp only [if_true] at hmm
    subst hmm
    have hone : ∀ i, i < len → ∃ l : List UInt8, ∃ b o, some a = some ⟨b, o, none⟩ ∧ b < W.heap.size ∧ W.cell? ⟨b, o + i, none⟩ = some (eS l) ∧ l.length ≤ maxLen := by
      intro i hil
      obtain ⟨c0, t0⟩ := hi i (by omega)
      obtain ⟨s, e1, _, hs⟩ := DataW.trod_string Try.underlying9 t0
      simp only [List.cons.injEq, and_true] at e1
      obtain ⟨d0, _⟩ := hi 0 (by omega)
      obtain ⟨bb, oo, spot⟩ := a
      have hspot : spot = none := by simpa [Addr.add] using World.cell?_spot d0
      subst hspot
      have hlt : bb < W.heap.size := by have := World.block_lt_of_cell? W _ c0; rw [add_atF] at this; exact this
      rw [add_atF, e1] at c0
      exact ⟨s.data.toList, bb, oo, rfl, hlt, by rw [c0, eS_of], by simpa using hs⟩
    obtain ⟨f, hf⟩ := choose_lt hone
    refine ⟨(List.range len).map f, some a, m, by simpa using hcs, fun i hil => ?_, by simp; omega⟩
    have := hf i (by simpa using hil)
    simpa using this
set_option maxRecDepth 100000 in
theorem open_strs {H : Type} {enc : TypeId × Value → H} {W : World} {b : Nat} {hd : Bool} {r : Reach} {b0 : Nat} {v : Value} {d : DataW H} {p : List MemPlace} (hv : Value.okWide Try.prog W r b0 28 v) (h0 : DataW.Trod enc Try.prog W b (fun _ => true) hd 28 v d p) :
    ∃ (xs : List (List UInt8)) (a : Option Addr) (cap : Nat), v = .slice a xs.length cap ∧ Strs W xs a ∧ xs.length ≤ maxLen := by
  obtain ⟨a0, len0, cap0, rfl⟩ := okWide_slice Try.underlying28 hv
  obtain ⟨fuel, h⟩ := h0
  exact open_strs_at (v := .slice a0 len0 cap0) (by simpa [Value.cells] using h)
theorem open_agg2 {H : Type} {enc : TypeId × Value → H} {P : Program} {w : World} {base : Nat} {spare : Nat → Bool} {held : Bool} {r : Reach} {b0 : Nat} {t : TypeId} {f0 f1 : Field} {v : Value} {d : DataW H} {p : List MemPlace} (hs : P.underlying t = some (.struct #[f0, f1])) (hone : oneCellFields P #[f0, f1] = true) (hC : P.cellsOf t = 2)
    (hv : Value.okWide P w r b0 t v) (h : DataW.Trod enc P w base spare held t v d p) :
    ∃ (v0 v1 : Value) (y0 y1 : DataW H × List MemPlace) (n : Nat), v = .agg #[v0, v1] ∧ d = .agg [y0.1, y1.1] ∧ p = y0.2 ++ y1.2 ∧
      DataW.trod enc P w base spare held n f0.type [v0] = some y0 ∧ DataW.trod enc P w base spare held n f1.type [v1] = some y1 := by
  obtain ⟨cs, rfl, hsz⟩ := okWide_struct hs hv
  obtain ⟨l⟩ := cs
  match l, hsz.trans hC with
  | [c0, c1], _ =>
    obtain ⟨fuel, hf⟩ := h
    obtain ⟨xs, n, _, hx, _, hlen, hg⟩ := DataW.trod_struct hs hf
    obtain ⟨o0, k0⟩ := hone_of hone 0 f0 rfl
    obtain ⟨o1, k1⟩ := hone_of hone 1 f1 rfl
    match xs, hlen with
    | [y0, y1], _ =>
      simp only [Prod.mk.injEq] at hx
      exact ⟨c0, c1, y0, y1, n, rfl, by simpa using hx.1, by simpa using hx.2, by simpa [Value.cells, o0, k0] using hg 0 f0 rfl, by simpa [Value.cells, o1, k1] using hg 1 f1 rfl⟩
theorem cellsRec : Try.prog.cellsOf 30 = 2 := by kernel_rfl
/-- A record's value. -/
def recV (l : List UInt8) (a : Option Addr) (n c : Nat) : Value := .agg #[eS l, .slice a n c]
set_option maxRecDepth 100000 in
theorem open_rec {H : Type} {enc : TypeId × Value → H} {W : World} {b : Nat} {hd : Bool} {r : Reach} {b0 : Nat} {v : Value} {d : DataW H} {p : List MemPlace} (hv : Value.okWide Try.prog W r b0 30 v) (h : DataW.Trod enc Try.prog W b (fun _ => true) hd 30 v d p) :
    ∃ (l : List UInt8) (xs : List (List UInt8)) (a : Option Addr) (cap : Nat), v = recV l a xs.length cap ∧ Strs W xs a ∧ l.length ≤ maxLen ∧ xs.length ≤ maxLen := by
  obtain ⟨c0, c1, y0, y1, m, rfl, _, _, h0, h1⟩ := open_agg2 (enc := enc) (P := Try.prog) (w := W) (base := b) (spare := fun _ => true) (held := hd) (r := r) (b0 := b0) (t := 30) (v := v) (d := d) (p := p) Try.underlying30 (by kernel_rfl) cellsRec hv h
  obtain ⟨s, e0, _, hs⟩ := DataW.trod_string Try.underlying9 h0
  obtain ⟨xs, a, cap, e1, hk, hl⟩ := open_strs_at (v := c1) h1
  simp only [List.cons.injEq, and_true] at e0
  subst e0 e1
  exact ⟨s.data.toList, xs, a, cap, by rw [recV, eS_of], hk, by simpa using hs, hl⟩
end Go.Proofs.Ytghmkfehohgmgaa.kit
