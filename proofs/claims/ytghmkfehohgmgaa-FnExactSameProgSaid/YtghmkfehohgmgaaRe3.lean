/-
  Contracts of laws.toReS and laws.toRe over this seat's translation: a tree of expressions is copied into new memory. Conditions: each theorem names its own.
-/
import Derived.Test.YtghmkfehohgmgaaRe2
namespace Go.Proofs.Ytghmkfehohgmgaa.kit
open Go.ChangeShapes Go.WideShapes Go.ChangeAt Go.RowKit
set_option linter.unusedVariables false

/-- A slice of which the first k have been laid: the block may be written whole. -/
def Half (g n k : Nat) (ts : List RT) (w : World) : Prop := g < w.heap.size ∧ (∀ j, j < n * 6 → (w.cell? ⟨g, j, none⟩).isSome = true ∧ w.frozen? ⟨g, j, none⟩ = false) ∧
  ∀ i (hi : i < ts.length), i < k → ∃ a' cap', ElemAt g w (some ⟨g, 0, none⟩) i ts[i] a' cap' ∧ Kids (g + 1) w ts[i].kids a'
theorem Half.kept {g n k : Nat} {ts : List RT} {w w' : World} (h : Half g n k ts w) (hb : Below w.heap.size w w') : Half g n k ts w' := by
  obtain ⟨h0, h1, h2⟩ := h
  refine ⟨Nat.lt_of_lt_of_le h0 hb.size, fun j hj => ?_, fun i hi hk => ?_⟩
  · rw [hb.cell (p := ⟨g, j, none⟩) h0, hb.frozen (p := ⟨g, j, none⟩) h0]; exact h1 j hj
  · obtain ⟨a', cap', e, kk⟩ := h2 i hi hk
    exact ⟨a', cap', e.of hb.size fun b o _ hl => hb.cell (p := ⟨b, o, none⟩) hl, kk.kept (Nat.le_refl _) hb⟩
theorem Half.all {g k : Nat} {ts : List RT} {w : World} (h : Half g k k ts w) (hk : k = ts.length) : Kids g w ts (some ⟨g, 0, none⟩) := by
  obtain ⟨h0, h1, h2⟩ := h
  subst hk
  have h3 : ∀ i, i < ts.length → ∃ x : Option Addr × Nat, ∀ (hi : i < ts.length), ElemAt g w (some ⟨g, 0, none⟩) i ts[i] x.1 x.2 ∧ Kids (g + 1) w ts[i].kids x.1 := by
    intro i hi
    obtain ⟨a', cap', e⟩ := h2 i hi hi
    exact ⟨(a', cap'), fun _ => e⟩
  obtain ⟨f, hf⟩ := Go.Deep.choose_lt h3
  exact .mk _ _ (fun i => (f i).1) (fun i => (f i).2) (fun i hi => (hf i hi hi).1) (fun i hi => ((hf i hi hi).2).mono (by omega))
theorem set_same (w : World) (g j : Nat) (v : Value) (h : (w.cell? ⟨g, j, none⟩).isSome = true) : (w.setCell ⟨g, j, none⟩ v).cell? ⟨g, j, none⟩ = some v := by
  obtain ⟨u, hu⟩ := Option.isSome_iff_exists.1 h
  exact World.cell?_setCell_same w _ _ hu
theorem set_off (w : World) (g j j' : Nat) (v : Value) (h : j ≠ j') : (w.setCell ⟨g, j, none⟩ v).cell? ⟨g, j', none⟩ = w.cell? ⟨g, j', none⟩ :=
  World.cell?_setCell_other w _ _ _ (by intro x; injection x; omega)
/-- Six cells are written. -/
def set6 (w : World) (g o : Nat) (t : RT) (a : Option Addr) (cap : Nat) : World :=
  (((((w.setCell ⟨g, o, none⟩ (.int .i64 t.kind)).setCell ⟨g, o + 1, none⟩ (.string t.set)).setCell ⟨g, o + 2, none⟩ (.bool t.neg)).setCell ⟨g, o + 3, none⟩ (.int .i64 t.low)).setCell ⟨g, o + 4, none⟩ (.int .i64 t.high)).setCell ⟨g, o + 5, none⟩ (.slice a t.kids.length cap)
theorem set6_off (w : World) (g o : Nat) (t : RT) (a : Option Addr) (cap b j : Nat) (h : b ≠ g ∨ j < o ∨ o + 6 ≤ j) : (set6 w g o t a cap).cell? ⟨b, j, none⟩ = w.cell? ⟨b, j, none⟩ := by
  unfold set6
  rw [World.cell?_setCell_other, World.cell?_setCell_other, World.cell?_setCell_other, World.cell?_setCell_other, World.cell?_setCell_other, World.cell?_setCell_other] <;> (intro x; injection x; omega)
theorem set6_size (w : World) (g o : Nat) (t : RT) (a : Option Addr) (cap : Nat) : (set6 w g o t a cap).heap.size = w.heap.size := by simp [set6]
theorem set6_frozen (w : World) (g o : Nat) (t : RT) (a : Option Addr) (cap : Nat) (p : Addr) : (set6 w g o t a cap).frozen? p = w.frozen? p := by simp [set6, World.frozen?_setCell]
theorem set6_below {B : Nat} {w w' : World} (h : Below B w w') (g o : Nat) (t : RT) (a : Option Addr) (cap : Nat) (hg : B ≤ g) : Below B w (set6 w' g o t a cap) :=
  (((((h.setCell (p := ⟨g, o, none⟩) hg _).setCell (p := ⟨g, o + 1, none⟩) hg _).setCell (p := ⟨g, o + 2, none⟩) hg _).setCell (p := ⟨g, o + 3, none⟩) hg _).setCell (p := ⟨g, o + 4, none⟩) hg _).setCell (p := ⟨g, o + 5, none⟩) hg _
theorem set6_at (w : World) (g o : Nat) (t : RT) (a : Option Addr) (cap : Nat) (h : ∀ j, j < 6 → (w.cell? ⟨g, o + j, none⟩).isSome = true) :
    (set6 w g o t a cap).cell? ⟨g, o, none⟩ = some (.int .i64 t.kind) ∧ (set6 w g o t a cap).cell? ⟨g, o + 1, none⟩ = some (.string t.set) ∧ (set6 w g o t a cap).cell? ⟨g, o + 2, none⟩ = some (.bool t.neg) ∧
    (set6 w g o t a cap).cell? ⟨g, o + 3, none⟩ = some (.int .i64 t.low) ∧ (set6 w g o t a cap).cell? ⟨g, o + 4, none⟩ = some (.int .i64 t.high) ∧ (set6 w g o t a cap).cell? ⟨g, o + 5, none⟩ = some (.slice a t.kids.length cap) := by
  have h0 := h 0 (by omega)
  have h1 := h 1 (by omega)
  have h2 := h 2 (by omega)
  have h3 := h 3 (by omega)
  have h4 := h 4 (by omega)
  have h5 := h 5 (by omega)
  simp only [Nat.add_zero] at h0
  unfold set6
  refine ⟨?_, ?_, ?_, ?_, ?_, ?_⟩
  · rw [set_off _ _ _ _ _ (by omega), set_off _ _ _ _ _ (by omega), set_off _ _ _ _ _ (by omega), set_off _ _ _ _ _ (by omega), set_off _ _ _ _ _ (by omega), set_same _ _ _ _ h0]
  · rw [set_off _ _ _ _ _ (by omega), set_off _ _ _ _ _ (by omega), set_off _ _ _ _ _ (by omega), set_off _ _ _ _ _ (by omega)]
    exact set_same _ _ _ _ (by rw [set_off _ _ _ _ _ (by omega)]; exact h1)
  · rw [set_off _ _ _ _ _ (by omega), set_off _ _ _ _ _ (by omega), set_off _ _ _ _ _ (by omega)]
    exact set_same _ _ _ _ (by rw [set_off _ _ _ _ _ (by omega), set_off _ _ _ _ _ (by omega)]; exact h2)
  · rw [set_off _ _ _ _ _ (by omega), set_off _ _ _ _ _ (by omega)]
    exact set_same _ _ _ _ (by rw [set_off _ _ _ _ _ (by omega), set_off _ _ _ _ _ (by omega), set_off _ _ _ _ _ (by omega)]; exact h3)
  · rw [set_off _ _ _ _ _ (by omega)]
    exact set_same _ _ _ _ (by rw [set_off _ _ _ _ _ (by omega), set_off _ _ _ _ _ (by omega), set_off _ _ _ _ _ (by omega), set_off _ _ _ _ _ (by omega)]; exact h4)
  · exact set_same _ _ _ _ (by rw [set_off _ _ _ _ _ (by omega), set_off _ _ _ _ _ (by omega), set_off _ _ _ _ _ (by omega), set_off _ _ _ _ _ (by omega), set_off _ _ _ _ _ (by omega)]; exact h5)
theorem set6_some (w : World) (g o : Nat) (t : RT) (a : Option Addr) (cap j : Nat) (h : ∀ j, j < 6 → (w.cell? ⟨g, o + j, none⟩).isSome = true) (hj : (w.cell? ⟨g, j, none⟩).isSome = true) : ((set6 w g o t a cap).cell? ⟨g, j, none⟩).isSome = true := by
  by_cases c : j < o ∨ o + 6 ≤ j
  · rw [set6_off _ _ _ _ _ _ _ _ (.inr c)]; exact hj
  · obtain ⟨q0, q1, q2, q3, q4, q5⟩ := set6_at w g o t a cap h
    obtain ⟨d, rfl⟩ : ∃ d, j = o + d := ⟨j - o, by omega⟩
    match d, (show d < 6 by omega) with
    | 0, _ => simp [q0]
    | 1, _ => simp [q1]
    | 2, _ => simp [q2]
    | 3, _ => simp [q3]
    | 4, _ => simp [q4]
    | 5, _ => simp [q5]
theorem Half.store {g n k : Nat} {ts : List RT} {w : World} (h : Half g n k ts w) (hk : k < ts.length) (hn : ts.length = n) (a : Option Addr) (cap : Nat) (hK : Kids (g + 1) w ts[k].kids a) (f0 : ts[k].set.size ≤ maxLen) (f1 : ts[k].kids.length ≤ maxLen) :
    Half g n (k + 1) ts (set6 w g (k * 6) ts[k] a cap) := by
  obtain ⟨h0, h1, h2⟩ := h
  have hs : ∀ j, j < 6 → (w.cell? ⟨g, k * 6 + j, none⟩).isSome = true := fun j hj => (h1 (k * 6 + j) (by omega)).1
  have hz := set6_size w g (k * 6) ts[k] a cap
  refine ⟨by rw [hz]; exact h0, fun j hj => ⟨set6_some _ _ _ _ _ _ _ hs (h1 j hj).1, by rw [set6_frozen]; exact (h1 j hj).2⟩, fun i hi hik => ?_⟩
  by_cases c : i = k
  · subst c
    obtain ⟨q0, q1, q2, q3, q4, q5⟩ := set6_at w g (i * 6) ts[i] a cap hs
    refine ⟨a, cap, ⟨g, 0, rfl, Nat.le_refl _, by rw [hz]; exact h0, by simpa using q0, by simpa using q1, by simpa using q2, by simpa using q3, by simpa using q4, by simpa using q5, f0, f1⟩, ?_⟩
    exact hK.of (by rw [hz]; exact Nat.le_refl _) fun b o hb _ => set6_off _ _ _ _ _ _ _ _ (.inl (by omega))
  · obtain ⟨a', cap', ⟨b, o, e, e0, e1, c0, c1, c2, c3, c4, c5, g0, g1⟩, kk⟩ := h2 i hi (by omega)
    cases e
    have hq : ∀ d, d < 6 → (set6 w g (k * 6) ts[k] a cap).cell? ⟨g, 0 + i * 6 + d, none⟩ = w.cell? ⟨g, 0 + i * 6 + d, none⟩ := fun d hd => set6_off _ _ _ _ _ _ _ _ (.inr (by omega))
    refine ⟨a', cap', ⟨g, 0, rfl, e0, by rw [hz]; exact e1, (hq 0 (by omega)).trans c0, (hq 1 (by omega)).trans c1, (hq 2 (by omega)).trans c2, (hq 3 (by omega)).trans c3, (hq 4 (by omega)).trans c4, (hq 5 (by omega)).trans c5, g0, g1⟩, ?_⟩
    exact kk.of (by rw [hz]; exact Nat.le_refl _) fun b o hb _ => set6_off _ _ _ _ _ _ _ _ (.inl (by omega))
end Go.Proofs.Ytghmkfehohgmgaa.kit
