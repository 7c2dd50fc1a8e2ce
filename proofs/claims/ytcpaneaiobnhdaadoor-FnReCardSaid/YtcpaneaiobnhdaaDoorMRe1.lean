/-
 How an expression of the laws (a struct of six fields, the last one a slice of such structs) is read as a tree that lies in memory. Conditions: each theorem names its own.
-/
import Derived.Test.YtcpaneaiobnhdaaDoorMInfo
import Derived.Test.YtcpaneaiobnhdaaDoorMKit
import Derived.Deep.Slices
import Derived.Deep.Fields
import Derived.ChangeSame
import Derived.Lib.SmallJoins
import Derived.Laws.MakeOwn
namespace Go.Proofs.YtcpaneaiobnhdaaDoor.kit
open Go.Joins Go.ChangeShapes Go.WideShapes Go.ChangeAt Go.RowKit Go.Deep
set_option linter.unusedVariables false

theorem open_slice_fields {H : Type} {enc : TypeId × Value → H} {P : Program} {w : World} {base : Nat} {spare : Nat → Bool} {held : Bool} {t e : TypeId} {fs : Array Field} {fuel : Nat} {cs : List Value} {x : DataW H × List MemPlace} (ht : P.underlying t = some (.slice e)) (he : P.underlying e = some (.struct fs))
  (hone : oneCellFields P fs = true) (hC : P.cellsOf e = fs.size) (h : DataW.trod enc P w base spare held fuel t cs = some x) :
  (cs = [.slice none 0 0] ∧ x = (.nil, [])) ∨
  ∃ (a : Addr) (len cap m : Nat) (D : Nat → DataW H) (Pl : Nat → List MemPlace), cs = [.slice (some a) len cap] ∧ base ≤ a.block ∧ len ≤ cap ∧ cap ≤ maxLen ∧ m = (if spare a.block then cap else len) ∧
   x = (.slice ((List.range len).map D) ((List.range (m - len)).map fun j => D (len + j)), MemPlace.row a (m * fs.size) ++ (List.range m).flatMap Pl) ∧
   ∀ i, i < m → ∃ (ys : List (DataW H × List MemPlace)) (n : Nat), D i = .agg (ys.map (·.1)) ∧ Pl i = ys.flatMap (·.2) ∧ ys.length = fs.size ∧
    ∀ (j : Nat) (f : Field), fs[j]? = some f → ∃ (v : Value) (y : DataW H × List MemPlace), w.cell? (a.add (i * fs.size + j)) = some v ∧ ys[j]? = some y ∧ DataW.trod enc P w base spare held n f.type [v] = some y := by
 rcases open_slice ht h with h0 | ⟨a, len, cap, m, n, D, Pl, hcs, hb, hl, hm, hmm, hx, hi⟩
 ·exact .inl h0
 ·refine .inr ⟨a, len, cap, m, D, Pl, hcs, hb, hl, hm, hmm, by rw [hC] at hx; exact hx, fun i him => ?_⟩
  obtain ⟨cs', hc, ht'⟩ := hi i him
  rw [hC] at hc
  obtain ⟨ys, n', hn', hy, hlen, hyl, hf⟩ := DataW.trod_struct he ht'
  obtain ⟨_, hcl, hat⟩ := World.cells?_some hc
  simp only [Prod.mk.injEq] at hy
  refine ⟨ys, n', hy.1, hy.2, hyl, fun j f hj => ?_⟩
  obtain ⟨ho, hk⟩ := hone_of hone j f hj
  have hjl : j < fs.size := (Array.getElem?_eq_some_iff.1 hj).1
  have hcell := hat j hjl
  have hv : cs'[j]? = some (cs'[j]'(by omega)) := List.getElem?_eq_getElem (by omega)
  have h1 := hf j f hj
  rw [ho, hk] at h1
  have hone' : (cs'.drop j).take 1 = [cs'[j]'(by omega)] := by
   rw [List.drop_eq_getElem_cons (by omega)]
   rfl
  rw [hone'] at h1
  have hys : ys[j]? = some (ys[j]'(by omega)) := List.getElem?_eq_getElem (by omega)
  refine ⟨_, _, ?_, hys, h1.trans hys⟩
  rw [← Go.Deep.add_add, hcell, hv]
theorem open_agg6 {H : Type} {enc : TypeId × Value → H} {P : Program} {w : World} {base : Nat} {spare : Nat → Bool} {held : Bool} {r : Reach} {b0 : Nat} {t : TypeId} {f0 f1 f2 f3 f4 f5 : Field} {v : Value} {d : DataW H} {p : List MemPlace} (hs : P.underlying t = some (.struct #[f0, f1, f2, f3, f4, f5])) (hone : oneCellFields P #[f0, f1, f2, f3, f4, f5] = true) (hC : P.cellsOf t = 6)
  (hv : Value.okWide P w r b0 t v) (h : DataW.Trod enc P w base spare held t v d p) :
  ∃ (v0 v1 v2 v3 v4 v5 : Value) (y0 y1 y2 y3 y4 y5 : DataW H × List MemPlace) (n : Nat), v = .agg #[v0, v1, v2, v3, v4, v5] ∧ d = .agg [y0.1, y1.1, y2.1, y3.1, y4.1, y5.1] ∧ p = y0.2 ++ (y1.2 ++ (y2.2 ++ (y3.2 ++ (y4.2 ++ y5.2)))) ∧
   DataW.trod enc P w base spare held n f0.type [v0] = some y0 ∧ DataW.trod enc P w base spare held n f1.type [v1] = some y1 ∧ DataW.trod enc P w base spare held n f2.type [v2] = some y2 ∧ DataW.trod enc P w base spare held n f3.type [v3] = some y3 ∧ DataW.trod enc P w base spare held n f4.type [v4] = some y4 ∧ DataW.trod enc P w base spare held n f5.type [v5] = some y5 := by
 obtain ⟨cs, rfl, hsz⟩ := okWide_struct hs hv
 obtain ⟨l⟩ := cs
 match l, hsz.trans hC with
 | [c0, c1, c2, c3, c4, c5], _ =>
  obtain ⟨fuel, hf⟩ := h
  obtain ⟨xs, n, _, hx, _, hlen, hg⟩ := DataW.trod_struct hs hf
  obtain ⟨o0, k0⟩ := hone_of hone 0 f0 rfl
  obtain ⟨o1, k1⟩ := hone_of hone 1 f1 rfl
  obtain ⟨o2, k2⟩ := hone_of hone 2 f2 rfl
  obtain ⟨o3, k3⟩ := hone_of hone 3 f3 rfl
  obtain ⟨o4, k4⟩ := hone_of hone 4 f4 rfl
  obtain ⟨o5, k5⟩ := hone_of hone 5 f5 rfl
  match xs, hlen with
  | [y0, y1, y2, y3, y4, y5], _ =>
   simp only [Prod.mk.injEq] at hx
   exact ⟨c0, c1, c2, c3, c4, c5, y0, y1, y2, y3, y4, y5, n, rfl, by simpa using hx.1, by simpa using hx.2, by simpa [Value.cells, o0, k0] using hg 0 f0 rfl, by simpa [Value.cells, o1, k1] using hg 1 f1 rfl, by simpa [Value.cells, o2, k2] using hg 2 f2 rfl, by simpa [Value.cells, o3, k3] using hg 3 f3 rfl, by simpa [Value.cells, o4, k4] using hg 4 f4 rfl, by simpa [Value.cells, o5, k5] using hg 5 f5 rfl⟩

theorem add_at (b o k : Nat) : (⟨b, o, none⟩ : Addr).add k = ⟨b, o + k, none⟩ := by unfold Addr.add; split <;> simp_all
instance : Inhabited RT := ⟨.node 0 ⟨#[]⟩ false 0 0 []⟩
theorem size_part {H : Type} {ys : List (DataW H × List MemPlace)} {j : Nat} {y : DataW H × List MemPlace} (h : ys[j]? = some y) : SizeOf.sizeOf y.1 < SizeOf.sizeOf (DataW.agg (ys.map (·.1))) := by
 have h1 : y.1 ∈ ys.map (·.1) := List.mem_map.2 ⟨y, List.mem_of_getElem? h, rfl⟩
 have h2 := List.sizeOf_lt_of_mem h1
 simp only [DataW.agg.sizeOf_spec]; omega
theorem size_elem {H : Type} {len i : Nat} {D : Nat → DataW H} {sp : List (DataW H)} (h : i < len) : SizeOf.sizeOf (D i) < SizeOf.sizeOf (DataW.slice ((List.range len).map D) sp) := by
 have h1 : D i ∈ (List.range len).map D := List.mem_map.2 ⟨i, List.mem_range.2 h, rfl⟩
 have h2 := List.sizeOf_lt_of_mem h1
 simp only [DataW.slice.sizeOf_spec]; omega
end Go.Proofs.YtcpaneaiobnhdaaDoor.kit
/-
 Contracts of laws.szReS and laws.szRe over this seat's translation: what a tree of expressions costs. Conditions: each theorem names its own.
-/
namespace Go.Proofs.YtcpaneaiobnhdaaDoor.kit
open Go.ChangeShapes Go.WideShapes Go.ChangeAt Go.RowKit
set_option linter.unusedVariables false

/-- What is left of left behind a cost. -/
def leftOf (left : Int) (cost : Nat) : Int := if (cost : Int) ≤ left then left - cost else -1
theorem leftOf_neg {left : Int} {c : Nat} (h : left < c) : leftOf left c = -1 := if_neg (by omega)
theorem leftOf_pos {left : Int} {c : Nat} (h : (c : Int) ≤ left) : leftOf left c = left - c := if_pos h
end Go.Proofs.YtcpaneaiobnhdaaDoor.kit
/-
 Contracts of laws.toReS and laws.toRe over this seat's translation: a tree of expressions is copied into new memory. Conditions: each theorem names its own.
-/
namespace Go.Proofs.YtcpaneaiobnhdaaDoor.kit
open Go.ChangeShapes Go.WideShapes Go.ChangeAt Go.RowKit
set_option linter.unusedVariables false

/-- A slice of which the first k have been laid: the block may be written whole. -/
def Half (g n k : Nat) (ts : List RT) (w : World) : Prop := g < w.heap.size ∧ (∀ j, j < n * 6 → (w.cell? ⟨g, j, none⟩).isSome = true ∧ w.frozen? ⟨g, j, none⟩ = false) ∧
 ∀ i (hi : i < ts.length), i < k → ∃ a' cap', ElemAt g w (some ⟨g, 0, none⟩) i ts[i] a' cap' ∧ Kids (g + 1) w ts[i].kids a'
theorem Half.kept {g n k : Nat} {ts : List RT} {w w' : World} (h : Half g n k ts w) (hb : Below w.heap.size w w') : Half g n k ts w' := by
 obtain ⟨h0, h1, h2⟩ := h
 refine ⟨Nat.lt_of_lt_of_le h0 hb.size, fun j hj => ?_, fun i hi hk => ?_⟩
 ·rw [hb.cell (p := ⟨g, j, none⟩) h0, hb.frozen (p := ⟨g, j, none⟩) h0]; exact h1 j hj
 ·obtain ⟨a', cap', e, kk⟩ := h2 i hi hk
  exact ⟨a', cap', e.of hb.size fun b o _ hl => hb.cell (p := ⟨b, o, none⟩) hl, kk.kept (Nat.le_refl _) hb⟩
theorem Half.all {g k : Nat} {ts : List RT} {w : World} (h : Half g k k ts w) (hk : k = ts.length) : Kids g w ts (some ⟨g, 0, none⟩) := by
 obtain ⟨h0, h1, h2⟩ := h
 subst hk
 have h3 : ∀ i, i < ts.length → ∃ x : Option Addr × Nat, ∀ (hi : i < ts.length), ElemAt g w (some ⟨g, 0, none⟩) i ts[i] x.1 x.2 ∧ Kids (g + 1) w ts[i].kids x.1 := by
  intro i hi
  obtain ⟨a', cap', e⟩ := h2 i hi hi
  exact ⟨(a', cap'), fun _ => e⟩
 obtain ⟨f, hf⟩ := Go.Deep.choose_lt h3
 exact .mk _ _ (fun i => (f i).1) (fun i => (f i).2) (fun i hi => (hf i hi hi).1) (fun i hi => ((hf i hi hi).2).mono (by omega))
theorem set_same (w : World) (g j : Nat) (v : Value) (h : (w.cell? ⟨g, j, none⟩).isSome = true) : (w.setCell ⟨g, j, none⟩ v).cell? ⟨g, j, none⟩ = some v := by
 obtain ⟨u, hu⟩ := Option.isSome_iff_exists.1 h
 exact World.cell?_setCell_same w _ _ hu
theorem set_off (w : World) (g j j' : Nat) (v : Value) (h : j ≠ j') : (w.setCell ⟨g, j, none⟩ v).cell? ⟨g, j', none⟩ = w.cell? ⟨g, j', none⟩ :=
 World.cell?_setCell_other w _ _ _ (by intro x; injection x; omega)
/-- Six cells are written. -/
def set6 (w : World) (g o : Nat) (t : RT) (a : Option Addr) (cap : Nat) : World :=
 (((((w.setCell ⟨g, o, none⟩ (.int .i64 t.kind)).setCell ⟨g, o + 1, none⟩ (.string t.set)).setCell ⟨g, o + 2, none⟩ (.bool t.neg)).setCell ⟨g, o + 3, none⟩ (.int .i64 t.low)).setCell ⟨g, o + 4, none⟩ (.int .i64 t.high)).setCell ⟨g, o + 5, none⟩ (.slice a t.kids.length cap)
theorem set6_off (w : World) (g o : Nat) (t : RT) (a : Option Addr) (cap b j : Nat) (h : b ≠ g ∨ j < o ∨ o + 6 ≤ j) : (set6 w g o t a cap).cell? ⟨b, j, none⟩ = w.cell? ⟨b, j, none⟩ := by
 unfold set6
 rw [World.cell?_setCell_other, World.cell?_setCell_other, World.cell?_setCell_other, World.cell?_setCell_other, World.cell?_setCell_other, World.cell?_setCell_other] <;> (intro x; injection x; omega)
theorem set6_size (w : World) (g o : Nat) (t : RT) (a : Option Addr) (cap : Nat) : (set6 w g o t a cap).heap.size = w.heap.size := by simp [set6]
theorem set6_frozen (w : World) (g o : Nat) (t : RT) (a : Option Addr) (cap : Nat) (p : Addr) : (set6 w g o t a cap).frozen? p = w.frozen? p := by simp [set6, World.frozen?_setCell]
theorem set6_below {B : Nat} {w w' : World} (h : Below B w w') (g o : Nat) (t : RT) (a : Option Addr) (cap : Nat) (hg : B ≤ g) : Below B w (set6 w' g o t a cap) :=
 (((((h.setCell (p := ⟨g, o, none⟩) hg _).setCell (p := ⟨g, o + 1, none⟩) hg _).setCell (p := ⟨g, o + 2, none⟩) hg _).setCell (p := ⟨g, o + 3, none⟩) hg _).setCell (p := ⟨g, o + 4, none⟩) hg _).setCell (p := ⟨g, o + 5, none⟩) hg _
theorem set6_at (w : World) (g o : Nat) (t : RT) (a : Option Addr) (cap : Nat) (h : ∀ j, j < 6 → (w.cell? ⟨g, o + j, none⟩).isSome = true) :
  (set6 w g o t a cap).cell? ⟨g, o, none⟩ = some (.int .i64 t.kind) ∧ (set6 w g o t a cap).cell? ⟨g, o + 1, none⟩ = some (.string t.set) ∧ (set6 w g o t a cap).cell? ⟨g, o + 2, none⟩ = some (.bool t.neg) ∧
  (set6 w g o t a cap).cell? ⟨g, o + 3, none⟩ = some (.int .i64 t.low) ∧ (set6 w g o t a cap).cell? ⟨g, o + 4, none⟩ = some (.int .i64 t.high) ∧ (set6 w g o t a cap).cell? ⟨g, o + 5, none⟩ = some (.slice a t.kids.length cap) := by
 have h0 := h 0 (by omega)
 have h1 := h 1 (by omega)
 have h2 := h 2 (by omega)
 have h3 := h 3 (by omega)
 have h4 := h 4 (by omega)
 have h5 := h 5 (by omega)
 simp only [Nat.add_zero] at h0
 unfold set6
 refine ⟨?_, ?_, ?_, ?_, ?_, ?_⟩
 ·rw [set_off _ _ _ _ _ (by omega), set_off _ _ _ _ _ (by omega), set_off _ _ _ _ _ (by omega), set_off _ _ _ _ _ (by omega), set_off _ _ _ _ _ (by omega), set_same _ _ _ _ h0]
 ·rw [set_off _ _ _ _ _ (by omega), set_off _ _ _ _ _ (by omega), set_off _ _ _ _ _ (by omega), set_off _ _ _ _ _ (by omega)]
  exact set_same _ _ _ _ (by rw [set_off _ _ _ _ _ (by omega)]; exact h1)
 ·rw [set_off _ _ _ _ _ (by omega), set_off _ _ _ _ _ (by omega), set_off _ _ _ _ _ (by omega)]
  exact set_same _ _ _ _ (by rw [set_off _ _ _ _ _ (by omega), set_off _ _ _ _ _ (by omega)]; exact h2)
 ·rw [set_off _ _ _ _ _ (by omega), set_off _ _ _ _ _ (by omega)]
  exact set_same _ _ _ _ (by rw [set_off _ _ _ _ _ (by omega), set_off _ _ _ _ _ (by omega), set_off _ _ _ _ _ (by omega)]; exact h3)
 ·rw [set_off _ _ _ _ _ (by omega)]
  exact set_same _ _ _ _ (by rw [set_off _ _ _ _ _ (by omega), set_off _ _ _ _ _ (by omega), set_off _ _ _ _ _ (by omega), set_off _ _ _ _ _ (by omega)]; exact h4)
 ·exact set_same _ _ _ _ (by rw [set_off _ _ _ _ _ (by omega), set_off _ _ _ _ _ (by omega), set_off _ _ _ _ _ (by omega), set_off _ _ _ _ _ (by omega), set_off _ _ _ _ _ (by omega)]; exact h5)
theorem set6_some (w : World) (g o : Nat) (t : RT) (a : Option Addr) (cap j : Nat) (h : ∀ j, j < 6 → (w.cell? ⟨g, o + j, none⟩).isSome = true) (hj : (w.cell? ⟨g, j, none⟩).isSome = true) : ((set6 w g o t a cap).cell? ⟨g, j, none⟩).isSome = true := by
 by_cases c : j < o ∨ o + 6 ≤ j
 ·rw [set6_off _ _ _ _ _ _ _ _ (.inr c)]; exact hj
 ·obtain ⟨q0, q1, q2, q3, q4, q5⟩ := set6_at w g o t a cap h
  obtain ⟨d, rfl⟩ : ∃ d, j = o + d := ⟨j - o, by omega⟩
  match d, (show d < 6 by omega) with
  | 0, _ => simp [q0]
  | 1, _ => simp [q1]
  | 2, _ => simp [q2]
  | 3, _ => simp [q3]
  | 4, _ => simp [q4]
  | 5, _ => simp [q5]
theorem Half.store {g n k : Nat} {ts : List RT} {w : World} (h : Half g n k ts w) (hk : k < ts.length) (hn : ts.length = n) (a : Option Addr) (cap : Nat) (hK : Kids (g + 1) w ts[k].kids a) (f0 : ts[k].set.size ≤ maxLen) (f1 : ts[k].kids.length ≤ maxLen) :
  Half g n (k + 1) ts (set6 w g (k * 6) ts[k] a cap) := by
 obtain ⟨h0, h1, h2⟩ := h
 have hs : ∀ j, j < 6 → (w.cell? ⟨g, k * 6 + j, none⟩).isSome = true := fun j hj => (h1 (k * 6 + j) (by omega)).1
 have hz := set6_size w g (k * 6) ts[k] a cap
 refine ⟨by rw [hz]; exact h0, fun j hj => ⟨set6_some _ _ _ _ _ _ _ hs (h1 j hj).1, by rw [set6_frozen]; exact (h1 j hj).2⟩, fun i hi hik => ?_⟩
 by_cases c : i = k
 ·subst c
  obtain ⟨q0, q1, q2, q3, q4, q5⟩ := set6_at w g (i * 6) ts[i] a cap hs
  refine ⟨a, cap, ⟨g, 0, rfl, Nat.le_refl _, by rw [hz]; exact h0, by simpa using q0, by simpa using q1, by simpa using q2, by simpa using q3, by simpa using q4, by simpa using q5, f0, f1⟩, ?_⟩
  exact hK.of (by rw [hz]; exact Nat.le_refl _) fun b o hb _ => set6_off _ _ _ _ _ _ _ _ (.inl (by omega))
 ·obtain ⟨a', cap', ⟨b, o, e, e0, e1, c0, c1, c2, c3, c4, c5, g0, g1⟩, kk⟩ := h2 i hi (by omega)
  cases e
  have hq : ∀ d, d < 6 → (set6 w g (k * 6) ts[k] a cap).cell? ⟨g, 0 + i * 6 + d, none⟩ = w.cell? ⟨g, 0 + i * 6 + d, none⟩ := fun d hd => set6_off _ _ _ _ _ _ _ _ (.inr (by omega))
  refine ⟨a', cap', ⟨g, 0, rfl, e0, by rw [hz]; exact e1, (hq 0 (by omega)).trans c0, (hq 1 (by omega)).trans c1, (hq 2 (by omega)).trans c2, (hq 3 (by omega)).trans c3, (hq 4 (by omega)).trans c4, (hq 5 (by omega)).trans c5, g0, g1⟩, ?_⟩
  exact kk.of (by rw [hz]; exact Nat.le_refl _) fun b o hb _ => set6_off _ _ _ _ _ _ _ _ (.inl (by omega))
end Go.Proofs.YtcpaneaiobnhdaaDoor.kit
/-
 Contract of laws.toReS over this seat's translation, and with it that of laws.toRe: a tree of expressions is copied into new memory. Conditions: each theorem names its own.
-/
namespace Go.Proofs.YtcpaneaiobnhdaaDoor.kit
open Go.ChangeShapes Go.WideShapes Go.ChangeAt Go.RowKit
set_option linter.unusedVariables false

theorem infoRe : (Tryd.prog.info? 26).map (fun i => (i.zero, i.size, i.bytes)) = some (some (.agg #[.int .i64 0, .string ⟨#[]⟩, .bool false, .int .i64 0, .int .i64 0, .slice none 0 0]), 6, 72) := by kernel_rfl
theorem make_res (w : World) (n : Nat) (hn : n ≤ 1048576) : ∃ cs : Array Value, cs.size = n * 6 ∧
  (Instr.makeSlice 24 (.int .i64 (n : Int)) (.int .i64 (n : Int))).run Tryd.prog w = .ok (.slice (some ⟨w.heap.size, 0, none⟩) n n) (w.alloc (.cells cs 26)) := by
 obtain ⟨i0, hi, hz0, hz1, hz2⟩ := info_parts infoRe
 have h := run_make (P := Tryd.prog) w 24 26 i0 _ Tryd.underlying24 hi hz0 .i64 .i64 n n (by omega) (by omega) (by rw [hz2]; omega) (by omega)
 rw [hz1] at h
 exact ⟨_, size_madeCells _ _, by simpa using h⟩
theorem Half.start {w : World} {n : Nat} {cs : Array Value} {e : TypeId} (hcs : cs.size = n * 6) (ts : List RT) : Half w.heap.size n 0 ts (w.alloc (.cells cs e)) := by
 refine ⟨by simp, fun j hj => ⟨?_, ?_⟩, fun i hi hk => by omega⟩
 ·rw [World.cell?_alloc_at _ _ _ _ rfl]
  simp [show j < cs.size by omega]
 ·have hb : (w.alloc (.cells cs e)).heap[w.heap.size]? = some (.cells cs e) := heap_alloc_new w _
  simp only [World.frozen?, hb]
  simp
def Half' (g k : Nat) (ts : List RT) (w : World) : Prop := Half g ts.length k ts w
end Go.Proofs.YtcpaneaiobnhdaaDoor.kit
