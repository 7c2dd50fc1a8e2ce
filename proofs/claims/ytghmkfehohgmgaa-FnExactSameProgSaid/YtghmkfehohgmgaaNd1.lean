/-
  How a program of the laws (a slice of rules, each of two trees of nodes) is read as trees that lie in memory. Conditions: each theorem names its own.
-/
import Derived.Test.YtghmkfehohgmgaaNd0
import Derived.Test.YtghmkfehohgmgaaRe1
namespace Go.Proofs.Ytghmkfehohgmgaa.kit
open Go.Joins Go.ChangeShapes Go.WideShapes Go.ChangeAt Go.RowKit Go.Deep
set_option linter.unusedVariables false

theorem cellsNd : Try.prog.cellsOf 53 = 4 := by kernel_rfl
theorem cellsRu : Try.prog.cellsOf 55 = 9 := by kernel_rfl
set_option maxRecDepth 100000 in
theorem open_nkids {H : Type} {enc : TypeId × Value → H} {W : World} {b : Nat} {hd : Bool} : ∀ (N : Nat) (d : DataW H), SizeOf.sizeOf d ≤ N → ∀ (fuel : Nat) (cv : Value) (p : List MemPlace), DataW.trod enc Try.prog W b (fun _ => true) hd fuel 51 [cv] = some (d, p) →
    ∃ (ts : List NT) (a : Option Addr) (cap : Nat), cv = .slice a ts.length cap ∧ NKids 0 W ts a ∧ ts.length ≤ maxLen := by
  intro N
  induction N with
  | zero => intro d hd; cases d <;> simp at hd
  | succ N ih =>
    intro d hN fuel cv p h
    rcases open_slice_fields Try.underlying51 Try.underlying53 (by kernel_rfl) cellsNd h with ⟨hcs, hx⟩ | ⟨a, len, cap, m, D, Pl, hcs, hb, hl, hm, hmm, hx, hi⟩
    · simp only [List.cons.injEq, and_true] at hcs
      exact ⟨[], none, 0, hcs, NKids.nil _ _ _, by simp⟩
    · simp only [List.cons.injEq, and_true] at hcs
      simp only [if_true] at hmm
      subst hmm
      simp only [Prod.mk.injEq] at hx
      have hone : ∀ i, i < len → ∃ u : NT × Option Addr × Nat, NElem 0 W (some a) i u.1 u.2.1 u.2.2 ∧ NKids 0 W u.1.kids u.2.1 := by
        intro i hil
        obtain ⟨ys, n, hD, _, _, hf⟩ := hi i (by omega)
        obtain ⟨v0, y0, c0, g0, t0⟩ := hf 0 _ rfl
        obtain ⟨v1, y1, c1, g1, t1⟩ := hf 1 _ rfl
        obtain ⟨v2, y2, c2, g2, t2⟩ := hf 2 _ rfl
        obtain ⟨v3, y3, c3, g3, t3⟩ := hf 3 _ rfl
        obtain ⟨k, e0, _, _⟩ := DataW.trod_int Try.underlying3 t0
        obtain ⟨q, e1, _, _⟩ := DataW.trod_int Try.underlying3 t1
        obtain ⟨s, e2, _, hs⟩ := DataW.trod_string Try.underlying9 t2
        simp only [List.cons.injEq, and_true] at e0 e1 e2
        subst e0 e1 e2
        have hsz : SizeOf.sizeOf y3.1 ≤ N := by
          have h1 := size_part g3
          rw [← hD] at h1
          have h2 := size_elem (D := D) (sp := ((List.range (m - len)).map fun j => D (len + j))) hil
          rw [← hx.1] at h2
          omega
        obtain ⟨ts, a', cap', e3, hk, hml⟩ := ih y3.1 hsz n v3 y3.2 t3
        subst e3
        obtain ⟨_, _, _, _, _, hf0⟩ := hi 0 (by omega)
        obtain ⟨_, _, d0, _, _⟩ := hf0 0 _ rfl
        obtain ⟨bb, oo, spot⟩ := a
        have hspot : spot = none := by simpa [Addr.add] using World.cell?_spot d0
        subst hspot
        have hlt : bb < W.heap.size := by have := World.block_lt_of_cell? W _ c0; rw [add_at] at this; exact this
        rw [add_at] at c0 c1 c2 c3
        refine ⟨(.node k q s ts, a', cap'), ⟨bb, oo, rfl, ⟨Nat.zero_le _, .inl rfl⟩, hlt, ⟨?_, ?_, ?_, ?_⟩, hs, hml⟩, hk⟩
        · simpa [NT.kind] using c0
        · simpa [NT.num, Nat.add_assoc] using c1
        · simpa [NT.text, Nat.add_assoc] using c2
        · simpa [NT.kids, Nat.add_assoc] using c3
      obtain ⟨f, hf⟩ := choose_lt hone
      refine ⟨(List.range len).map fun i => (f i).1, some a, m, by simpa using hcs, ?_, by simp; omega⟩
      refine .mk _ _ (fun i => (f i).2.1) (fun i => (f i).2.2) (fun i hil => ?_) (fun i hil => ?_)
      · have := (hf i (by simpa using hil)).1
        simpa using this
      · have := (hf i (by simpa using hil)).2
        simpa using this
set_option maxRecDepth 100000 in
/-- One node's four values. -/
theorem open_node4 {H : Type} {enc : TypeId × Value → H} {W : World} {b : Nat} {hd : Bool} {fuel : Nat} {cs : List Value} {x : DataW H × List MemPlace} (h : DataW.trod enc Try.prog W b (fun _ => true) hd fuel 53 cs = some x) :
    ∃ (t : NT) (a : Option Addr) (cap : Nat), cs = [.int .i64 t.kind, .int .i64 t.num, .string t.text, .slice a t.kids.length cap] ∧ NKids 0 W t.kids a ∧ t.text.size ≤ maxLen ∧ t.kids.length ≤ maxLen := by
  obtain ⟨xs, n, _, hx, hcl, hlen, hf⟩ := DataW.trod_struct Try.underlying53 h
  rw [cellsNd] at hcl
  match cs, hcl, xs, hlen with
  | [c0, c1, c2, c3], _, [y0, y1, y2, y3], _ =>
    have t0 : DataW.trod enc Try.prog W b (fun _ => true) hd n 3 [c0] = some y0 := hf 0 _ rfl
    have t1 : DataW.trod enc Try.prog W b (fun _ => true) hd n 3 [c1] = some y1 := hf 1 _ rfl
    have t2 : DataW.trod enc Try.prog W b (fun _ => true) hd n 9 [c2] = some y2 := hf 2 _ rfl
    have t3 : DataW.trod enc Try.prog W b (fun _ => true) hd n 51 [c3] = some y3 := hf 3 _ rfl
    obtain ⟨k, e0, _, _⟩ := DataW.trod_int Try.underlying3 t0
    obtain ⟨q, e1, _, _⟩ := DataW.trod_int Try.underlying3 t1
    obtain ⟨s, e2, _, hs⟩ := DataW.trod_string Try.underlying9 t2
    obtain ⟨ts, a', cap', e3, hk, hml⟩ := open_nkids (SizeOf.sizeOf y3.1) y3.1 (Nat.le_refl _) n c3 y3.2 t3
    simp only [List.cons.injEq, and_true] at e0 e1 e2
    subst e0 e1 e2 e3
    exact ⟨.node k q s ts, a', cap', rfl, hk, hs, hml⟩
end Go.Proofs.Ytghmkfehohgmgaa.kit
