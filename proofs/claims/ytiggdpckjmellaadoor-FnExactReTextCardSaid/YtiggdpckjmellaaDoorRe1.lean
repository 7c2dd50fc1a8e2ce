/-
  How an expression of the laws (a struct of six fields, the last one a slice of such structs) is read as a tree that lies in memory. Conditions: each theorem names its own.
-/
import Derived.Test.YtiggdpckjmellaaDoorInfo
import Derived.Test.YtiggdpckjmellaaDoorRe0
import Derived.Deep.Slices
import Derived.Deep.Fields
import Derived.ChangeSame
import Derived.Lib.SmallJoins
namespace Go.Proofs.YtiggdpckjmellaaDoor.kit
open Go.Joins Go.ChangeShapes Go.WideShapes Go.ChangeAt Go.RowKit Go.Deep
set_option linter.unusedVariables false

theorem open_slice_fields {H : Type} {enc : TypeId × Value → H} {P : Program} {w : World} {base : Nat} {spare : Nat → Bool} {held : Bool} {t e : TypeId} {fs : Array Field} {fuel : Nat} {cs : List Value} {x : DataW H × List MemPlace} (ht : P.underlying t = some (.slice e)) (he : P.underlying e = some (.struct fs))
    (hone : oneCellFields P fs = true) (hC : P.cellsOf e = fs.size) (h : DataW.trod enc P w base spare held fuel t cs = some x) :
    (cs = [.slice none 0 0] ∧ x = (.nil, [])) ∨
    ∃ (a : Addr) (len cap m : Nat) (D : Nat → DataW H) (Pl : Nat → List MemPlace), cs = [.slice (some a) len cap] ∧ base ≤ a.block ∧ len ≤ cap ∧ cap ≤ maxLen ∧ m = (if spare a.block then cap else len) ∧
      x = (.slice ((List.range len).map D) ((List.range (m - len)).map fun j => D (len + j)), MemPlace.row a (m * fs.size) ++ (List.range m).flatMap Pl) ∧
      ∀ i, i < m → ∃ (ys : List (DataW H × List MemPlace)) (n : Nat), D i = .agg (ys.map (·.1)) ∧ Pl i = ys.flatMap (·.2) ∧ ys.length = fs.size ∧
        ∀ (j : Nat) (f : Field), fs[j]? = some f → ∃ (v : Value) (y : DataW H × List MemPlace), w.cell? (a.add (i * fs.size + j)) = some v ∧ ys[j]? = some y ∧ DataW.trod enc P w base spare held n f.type [v] = some y := by
  rcases open_slice ht h with h0 | ⟨a, len, cap, m, n, D, Pl, hcs, hb, hl, hm, hmm, hx, hi⟩
  · exact .inl h0
  · refine .inr ⟨a, len, cap, m, D, Pl, hcs, hb, hl, hm, hmm, by rw [hC] at hx; exact hx, fun i him => ?_⟩
    obtain ⟨cs', hc, ht'⟩ := hi i him
    rw [hC] at hc
    obtain ⟨ys, n', hn', hy, hlen, hyl, hf⟩ := DataW.trod_struct he ht'
    obtain ⟨_, hcl, hat⟩ := World.cells?_some hc
    simp only [Prod.mk.injEq] at hy
    refine ⟨ys, n', hy.1, hy.2, hyl, fun j f hj => ?_⟩
    obtain ⟨ho, hk⟩ := hone_of hone j f hj
    have hjl : j < fs.size := (Array.getElem?_eq_some_iff.1 hj).1
    have hcell := hat j hjl
    have hv : cs'[j]? = some (cs'[j]'(by omega)) := List.getElem?_eq_getElem (by omega)
    have h1 := hf j f hj
    rw [ho, hk] at h1
    have hone' : (cs'.drop j).take 1 = [cs'[j]'(by omega)] := by
      rw [List.drop_eq_getElem_cons (by omega)]
      rfl
    rw [hone'] at h1
    have hys : ys[j]? = some (ys[j]'(by omega)) := List.getElem?_eq_getElem (by omega)
    refine ⟨_, _, ?_, hys, h1.trans hys⟩
    rw [← Go.Deep.add_add, hcell, hv]
theorem open_agg6 {H : Type} {enc : TypeId × Value → H} {P : Program} {w : World} {base : Nat} {spare : Nat → Bool} {held : Bool} {r : Reach} {b0 : Nat} {t : TypeId} {f0 f1 f2 f3 f4 f5 : Field} {v : Value} {d : DataW H} {p : List MemPlace} (hs : P.underlying t = some (.struct #[f0, f1, f2, f3, f4, f5])) (hone : oneCellFields P #[f0, f1, f2, f3, f4, f5] = true) (hC : P.cellsOf t = 6)
    (hv : Value.okWide P w r b0 t v) (h : DataW.Trod enc P w base spare held t v d p) :
    ∃ (v0 v1 v2 v3 v4 v5 : Value) (y0 y1 y2 y3 y4 y5 : DataW H × List MemPlace) (n : Nat), v = .agg #[v0, v1, v2, v3, v4, v5] ∧ d = .agg [y0.1, y1.1, y2.1, y3.1, y4.1, y5.1] ∧ p = y0.2 ++ (y1.2 ++ (y2.2 ++ (y3.2 ++ (y4.2 ++ y5.2)))) ∧
      DataW.trod enc P w base spare held n f0.type [v0] = some y0 ∧ DataW.trod enc P w base spare held n f1.type [v1] = some y1 ∧ DataW.trod enc P w base spare held n f2.type [v2] = some y2 ∧ DataW.trod enc P w base spare held n f3.type [v3] = some y3 ∧ DataW.trod enc P w base spare held n f4.type [v4] = some y4 ∧ DataW.trod enc P w base spare held n f5.type [v5] = some y5 := by
  obtain ⟨cs, rfl, hsz⟩ := okWide_struct hs hv
  obtain ⟨l⟩ := cs
  match l, hsz.trans hC with
  | [c0, c1, c2, c3, c4, c5], _ =>
    obtain ⟨fuel, hf⟩ := h
    obtain ⟨xs, n, _, hx, _, hlen, hg⟩ := DataW.trod_struct hs hf
    obtain ⟨o0, k0⟩ := hone_of hone 0 f0 rfl
    obtain ⟨o1, k1⟩ := hone_of hone 1 f1 rfl
    obtain ⟨o2, k2⟩ := hone_of hone 2 f2 rfl
    obtain ⟨o3, k3⟩ := hone_of hone 3 f3 rfl
    obtain ⟨o4, k4⟩ := hone_of hone 4 f4 rfl
    obtain ⟨o5, k5⟩ := hone_of hone 5 f5 rfl
    match xs, hlen with
    | [y0, y1, y2, y3, y4, y5], _ =>
      simp only [Prod.mk.injEq] at hx
      exact ⟨c0, c1, c2, c3, c4, c5, y0, y1, y2, y3, y4, y5, n, rfl, by simpa using hx.1, by simpa using hx.2, by simpa [Value.cells, o0, k0] using hg 0 f0 rfl, by simpa [Value.cells, o1, k1] using hg 1 f1 rfl, by simpa [Value.cells, o2, k2] using hg 2 f2 rfl, by simpa [Value.cells, o3, k3] using hg 3 f3 rfl, by simpa [Value.cells, o4, k4] using hg 4 f4 rfl, by simpa [Value.cells, o5, k5] using hg 5 f5 rfl⟩

theorem cellsRe : Tryd.prog.cellsOf 53 = 6 := by kernel_rfl
theorem add_at (b o k : Nat) : (⟨b, o, none⟩ : Addr).add k = ⟨b, o + k, none⟩ := by unfold Addr.add; split <;> simp_all
instance : Inhabited RT := ⟨.node 0 ⟨#[]⟩ false 0 0 []⟩
theorem size_part {H : Type} {ys : List (DataW H × List MemPlace)} {j : Nat} {y : DataW H × List MemPlace} (h : ys[j]? = some y) : SizeOf.sizeOf y.1 < SizeOf.sizeOf (DataW.agg (ys.map (·.1))) := by
  have h1 : y.1 ∈ ys.map (·.1) := List.mem_map.2 ⟨y, List.mem_of_getElem? h, rfl⟩
  have h2 := List.sizeOf_lt_of_mem h1
  simp only [DataW.agg.sizeOf_spec]; omega
theorem size_elem {H : Type} {len i : Nat} {D : Nat → DataW H} {sp : List (DataW H)} (h : i < len) : SizeOf.sizeOf (D i) < SizeOf.sizeOf (DataW.slice ((List.range len).map D) sp) := by
  have h1 : D i ∈ (List.range len).map D := List.mem_map.2 ⟨i, List.mem_range.2 h, rfl⟩
  have h2 := List.sizeOf_lt_of_mem h1
  simp only [DataW.slice.sizeOf_spec]; omega
set_option maxRecDepth 100000 in
theorem open_kids {H : Type} {enc : TypeId × Value → H} {W : World} {b : Nat} {hd : Bool} : ∀ (N : Nat) (d : DataW H), SizeOf.sizeOf d ≤ N → ∀ (fuel : Nat) (cv : Value) (p : List MemPlace), DataW.trod enc Tryd.prog W b (fun _ => true) hd fuel 51 [cv] = some (d, p) →
    ∃ (ts : List RT) (a : Option Addr) (cap : Nat), cv = .slice a ts.length cap ∧ Kids 0 W ts a ∧ ts.length ≤ maxLen := by
  intro N
  induction N with
  | zero => intro d hd; cases d <;> simp at hd
  | succ N ih =>
    intro d hN fuel cv p h
    rcases open_slice_fields Tryd.underlying51 Tryd.underlying53 (by kernel_rfl) cellsRe h with ⟨hcs, hx⟩ | ⟨a, len, cap, m, D, Pl, hcs, hb, hl, hm, hmm, hx, hi⟩
    · simp only [List.cons.injEq, and_true] at hcs
      exact ⟨[], none, 0, hcs, Kids.nil _ _ _, by simp⟩
    · simp only [List.cons.injEq, and_true] at hcs
      simp only [if_true] at hmm
      subst hmm
      simp only [Prod.mk.injEq] at hx
      have hone : ∀ i, i < len → ∃ u : RT × Option Addr × Nat, ElemAt 0 W (some a) i u.1 u.2.1 u.2.2 ∧ Kids 0 W u.1.kids u.2.1 := by
        intro i hil
        obtain ⟨ys, n, hD, _, _, hf⟩ := hi i (by omega)
        obtain ⟨v0, y0, c0, g0, t0⟩ := hf 0 _ rfl
        obtain ⟨v1, y1, c1, g1, t1⟩ := hf 1 _ rfl
        obtain ⟨v2, y2, c2, g2, t2⟩ := hf 2 _ rfl
        obtain ⟨v3, y3, c3, g3, t3⟩ := hf 3 _ rfl
        obtain ⟨v4, y4, c4, g4, t4⟩ := hf 4 _ rfl
        obtain ⟨v5, y5, c5, g5, t5⟩ := hf 5 _ rfl
        obtain ⟨k, e0, _, _⟩ := DataW.trod_int Tryd.underlying3 t0
        obtain ⟨s, e1, _, hs⟩ := DataW.trod_string Tryd.underlying9 t1
        obtain ⟨q, e2, _⟩ := DataW.trod_bool Tryd.underlying4 t2
        obtain ⟨lo, e3, _, _⟩ := DataW.trod_int Tryd.underlying3 t3
        obtain ⟨hg, e4, _, _⟩ := DataW.trod_int Tryd.underlying3 t4
        simp only [List.cons.injEq, and_true] at e0 e1 e2 e3 e4
        subst e0 e1 e2 e3 e4
        have hsz : SizeOf.sizeOf y5.1 ≤ N := by
          have h1 := size_part g5
          rw [← hD] at h1
          have h2 := size_elem (D := D) (sp := ((List.range (m - len)).map fun j => D (len + j))) hil
          rw [← hx.1] at h2
          omega
        obtain ⟨ts, a', cap', e5, hk, hml⟩ := ih y5.1 hsz n v5 y5.2 t5
        subst e5
        obtain ⟨_, _, _, _, _, hf0⟩ := hi 0 (by omega)
        obtain ⟨_, _, d0, _, _⟩ := hf0 0 _ rfl
        obtain ⟨bb, oo, spot⟩ := a
        have hspot : spot = none := by simpa [Addr.add] using World.cell?_spot d0
        subst hspot
        have hlt : bb < W.heap.size := by have := World.block_lt_of_cell? W _ c0; rw [add_at] at this; exact this
        rw [add_at] at c0 c1 c2 c3 c4 c5
        refine ⟨(.node k s q lo hg ts, a', cap'), ⟨bb, oo, rfl, Nat.zero_le _, hlt, ?_, ?_, ?_, ?_, ?_, ?_, hs, hml⟩, hk⟩
        · simpa [RT.kind] using c0
        · simpa [RT.set, Nat.add_assoc] using c1
        · simpa [RT.neg, Nat.add_assoc] using c2
        · simpa [RT.low, Nat.add_assoc] using c3
        · simpa [RT.high, Nat.add_assoc] using c4
        · simpa [RT.kids, Nat.add_assoc] using c5
      obtain ⟨f, hf⟩ := choose_lt hone
      refine ⟨(List.range len).map fun i => (f i).1, some a, m, by simpa using hcs, ?_, by simp; omega⟩
      refine .mk _ _ (fun i => (f i).2.1) (fun i => (f i).2.2) (fun i hil => ?_) (fun i hil => ?_)
      · have := (hf i (by simpa using hil)).1
        simpa using this
      · have := (hf i (by simpa using hil)).2
        simpa using this
set_option maxRecDepth 100000 in
theorem open_re {H : Type} {enc : TypeId × Value → H} {W : World} {b : Nat} {hd : Bool} {r : Reach} {b0 : Nat} {v : Value} {d : DataW H} {p : List MemPlace} (hv : Value.okWide Tryd.prog W r b0 53 v) (h : DataW.Trod enc Tryd.prog W b (fun _ => true) hd 53 v d p) :
    ∃ (t : RT) (a : Option Addr) (cap : Nat), v = reV t a cap ∧ Kids 0 W t.kids a ∧ t.set.size ≤ maxLen ∧ t.kids.length ≤ maxLen := by
  obtain ⟨c0, c1, c2, c3, c4, c5, y0, y1, y2, y3, y4, y5, m, rfl, _, _, h0, h1, h2, h3, h4, h5⟩ := open_agg6 (enc := enc) (P := Tryd.prog) (w := W) (base := b) (spare := fun _ => true) (held := hd) (r := r) (b0 := b0) (t := 53) (v := v) (d := d) (p := p) Tryd.underlying53 (by kernel_rfl) cellsRe hv h
  obtain ⟨k, e0, _, _⟩ := DataW.trod_int Tryd.underlying3 h0
  obtain ⟨s, e1, _, hs⟩ := DataW.trod_string Tryd.underlying9 h1
  obtain ⟨q, e2, _⟩ := DataW.trod_bool Tryd.underlying4 h2
  obtain ⟨lo, e3, _, _⟩ := DataW.trod_int Tryd.underlying3 h3
  obtain ⟨hg, e4, _, _⟩ := DataW.trod_int Tryd.underlying3 h4
  obtain ⟨ts, a', cap', e5, hk, hml⟩ := open_kids (SizeOf.sizeOf y5.1) y5.1 (Nat.le_refl _) m c5 y5.2 h5
  simp only [List.cons.injEq, and_true] at e0 e1 e2 e3 e4
  subst e0 e1 e2 e3 e4 e5
  exact ⟨.node k s q lo hg ts, a', cap', rfl, hk, hs, hml⟩
end Go.Proofs.YtiggdpckjmellaaDoor.kit
