/-
  How a word of the laws (a struct of an int, a text and two ints) and a slice of such words are read as data, and how words lie in memory. Conditions: each theorem names its own.
-/
import Derived.Test.YtebeoijoljlhiaaGreatDoorMInfo
import Derived.Test.YtebeoijoljlhiaaGreatDoorMKit
import Derived.Deep.Slices
import Derived.Deep.Fields
import Derived.ChangeSame
import Derived.Lib.SmallJoins
import Derived.Laws.MakeOwn
namespace Go.Proofs.YtebeoijoljlhiaaGreatDoor.kit
open Go.Joins Go.ChangeShapes Go.WideShapes Go.ChangeAt Go.RowKit Go.Deep
set_option linter.unusedVariables false

theorem laidOutT : laidOutB Tryz.pinned.checked.prog = true := by kernel_rfl
structure Tok where
  k : Int
  s : ByteArray
  n : Int
  l : Int
instance : Inhabited Tok := ⟨⟨0, ⟨#[]⟩, 0, 0⟩⟩
def Tok.v (t : Tok) : Value := .agg #[.int .i64 t.k, .string t.s, .int .i64 t.n, .int .i64 t.l]
/-- Four cells that hold a word. -/
def TokC (w : World) (b o : Nat) (t : Tok) : Prop :=
  w.cell? ⟨b, o, none⟩ = some (.int .i64 t.k) ∧ w.cell? ⟨b, o + 1, none⟩ = some (.string t.s) ∧ w.cell? ⟨b, o + 2, none⟩ = some (.int .i64 t.n) ∧ w.cell? ⟨b, o + 3, none⟩ = some (.int .i64 t.l)
theorem TokC.of {w w' : World} {b o : Nat} {t : Tok} (h : TokC w b o t) (hc : ∀ o, w'.cell? ⟨b, o, none⟩ = w.cell? ⟨b, o, none⟩) : TokC w' b o t :=
  ⟨(hc _).trans h.1, (hc _).trans h.2.1, (hc _).trans h.2.2.1, (hc _).trans h.2.2.2⟩
/-- The words ts lie at a. -/
def Toks (w : World) (ts : List Tok) (a : Option Addr) : Prop :=
  ∀ i (h : i < ts.length), ∃ b o, a = some ⟨b, o, none⟩ ∧ b < w.heap.size ∧ TokC w b (o + i * 4) ts[i] ∧ ts[i].s.size ≤ maxLen
theorem Toks.kept {C : Nat} {w w' : World} {ts : List Tok} {a : Option Addr} (h : Toks w ts a) (hC : w.heap.size ≤ C) (hb : Below C w w') : Toks w' ts a := by
  intro i hi
  obtain ⟨b, o, e, h1, h2, h3⟩ := h i hi
  exact ⟨b, o, e, Nat.lt_of_lt_of_le h1 hb.size, h2.of fun o => hb.cell (p := ⟨b, o, none⟩) (Nat.lt_of_lt_of_le h1 hC), h3⟩

theorem add_atT (b o k : Nat) : (⟨b, o, none⟩ : Addr).add k = ⟨b, o + k, none⟩ := by unfold Addr.add; split <;> simp_all
theorem open_slice_fields {H : Type} {enc : TypeId × Value → H} {P : Program} {w : World} {base : Nat} {spare : Nat → Bool} {held : Bool} {t e : TypeId} {fs : Array Field} {fuel : Nat} {cs : List Value} {x : DataW H × List MemPlace} (ht : P.underlying t = some (.slice e)) (he : P.underlying e = some (.struct fs))
    (hone : oneCellFields P fs = true) (hC : P.cellsOf e = fs.size) (h : DataW.trod enc P w base spare held fuel t cs = some x) :
    (cs = [.slice none 0 0] ∧ x = (.nil, [])) ∨
    ∃ (a : Addr) (len cap m : Nat) (D : Nat → DataW H) (Pl : Nat → List MemPlace), cs = [.slice (some a) len cap] ∧ base ≤ a.block ∧ len ≤ cap ∧ cap ≤ maxLen ∧ m = (if spare a.block then cap else len) ∧
      x = (.slice ((List.range len).map D) ((List.range (m - len)).map fun j => D (len + j)), MemPlace.row a (m * fs.size) ++ (List.range m).flatMap Pl) ∧
      ∀ i, i < m → ∃ (ys : List (DataW H × List MemPlace)) (n : Nat), D i = .agg (ys.map (·.1)) ∧ Pl i = ys.flatMap (·.2) ∧ ys.length = fs.size ∧
        ∀ (j : Nat) (f : Field), fs[j]? = some f → ∃ (v : Value) (y : DataW H × List MemPlace), w.cell? (a.add (i * fs.size + j)) = some v ∧ ys[j]? = some y ∧ DataW.trod enc P w base spare held n f.type [v] = some y := by
  rcases open_slice ht h with h0 | ⟨a, len, cap, m, n, D, Pl, hcs, hb, hl, hm, hmm, hx, hi⟩
  · exact .inl h0
  · refine .inr ⟨a, len, cap, m, D, Pl, hcs, hb, hl, hm, hmm, by rw [hC] at hx; exact hx, fun i him => ?_⟩
    obtain ⟨cs', hc, ht'⟩ := hi i him
    rw [hC] at hc
    obtain ⟨ys, n', hn', hy, hlen, hyl, hf⟩ := DataW.trod_struct he ht'
    obtain ⟨_, hcl, hat⟩ := World.cells?_some hc
    simp only [Prod.mk.injEq] at hy
    refine ⟨ys, n', hy.1, hy.2, hyl, fun j f hj => ?_⟩
    obtain ⟨ho, hk⟩ := hone_of hone j f hj
    have hjl : j < fs.size := (Array.getElem?_eq_some_iff.1 hj).1
    have hcell := hat j hjl
    have hv : cs'[j]? = some (cs'[j]'(by omega)) := List.getElem?_eq_getElem (by omega)
    have h1 := hf j f hj
    rw [ho, hk] at h1
    have hone' : (cs'.drop j).take 1 = [cs'[j]'(by omega)] := by
      rw [List.drop_eq_getElem_cons (by omega)]
      rfl
    rw [hone'] at h1
    have hys : ys[j]? = some (ys[j]'(by omega)) := List.getElem?_eq_getElem (by omega)
    refine ⟨_, _, ?_, hys, h1.trans hys⟩
    rw [← Go.Deep.add_add, hcell, hv]
theorem open_agg4 {H : Type} {enc : TypeId × Value → H} {P : Program} {w : World} {base : Nat} {spare : Nat → Bool} {held : Bool} {r : Reach} {b0 : Nat} {t : TypeId} {f0 f1 f2 f3 : Field} {v : Value} {d : DataW H} {p : List MemPlace} (hs : P.underlying t = some (.struct #[f0, f1, f2, f3])) (hone : oneCellFields P #[f0, f1, f2, f3] = true) (hC : P.cellsOf t = 4)
    (hv : Value.okWide P w r b0 t v) (h : DataW.Trod enc P w base spare held t v d p) :
    ∃ (v0 v1 v2 v3 : Value) (y0 y1 y2 y3 : DataW H × List MemPlace) (n : Nat), v = .agg #[v0, v1, v2, v3] ∧ d = .agg [y0.1, y1.1, y2.1, y3.1] ∧ p = y0.2 ++ (y1.2 ++ (y2.2 ++ y3.2)) ∧
      DataW.trod enc P w base spare held n f0.type [v0] = some y0 ∧ DataW.trod enc P w base spare held n f1.type [v1] = some y1 ∧ DataW.trod enc P w base spare held n f2.type [v2] = some y2 ∧ DataW.trod enc P w base spare held n f3.type [v3] = some y3 := by
  obtain ⟨cs, rfl, hsz⟩ := okWide_struct hs hv
  obtain ⟨l⟩ := cs
  match l, hsz.trans hC with
  | [c0, c1, c2, c3], _ =>
    obtain ⟨fuel, hf⟩ := h
    obtain ⟨xs, n, _, hx, _, hlen, hg⟩ := DataW.trod_struct hs hf
    obtain ⟨o0, k0⟩ := hone_of hone 0 f0 rfl
    obtain ⟨o1, k1⟩ := hone_of hone 1 f1 rfl
    obtain ⟨o2, k2⟩ := hone_of hone 2 f2 rfl
    obtain ⟨o3, k3⟩ := hone_of hone 3 f3 rfl
    match xs, hlen with
    | [y0, y1, y2, y3], _ =>
      simp only [Prod.mk.injEq] at hx
      exact ⟨c0, c1, c2, c3, y0, y1, y2, y3, n, rfl, by simpa using hx.1, by simpa using hx.2, by simpa [Value.cells, o0, k0] using hg 0 f0 rfl, by simpa [Value.cells, o1, k1] using hg 1 f1 rfl, by simpa [Value.cells, o2, k2] using hg 2 f2 rfl, by simpa [Value.cells, o3, k3] using hg 3 f3 rfl⟩
end Go.Proofs.YtebeoijoljlhiaaGreatDoor.kit
/-
  Contracts of laws.szToken, laws.toToken, laws.szTokenS, laws.toTokenS over this seat's translation: what words cost, and that they are copied. Conditions: each theorem names its own.
-/
namespace Go.Proofs.YtebeoijoljlhiaaGreatDoor.kit
open Go.ChangeShapes Go.WideShapes Go.ChangeAt Go.RowKit
set_option linter.unusedVariables false

/-- What words cost a law's counter. -/
def costT : List Tok → Nat
  | [] => 0
  | t :: ts => t.s.size + costT ts
def billT (ts : List Tok) : Nat := ts.length + costT ts
theorem costT_take (ts : List Tok) (i : Nat) (h : i < ts.length) : costT (ts.take (i + 1)) = costT (ts.take i) + ts[i].s.size := by
  induction ts generalizing i with
  | nil => simp at h
  | cons t ts ih =>
    cases i with
    | zero => simp [costT]
    | succ i => simp only [List.take_succ_cons, costT, List.getElem_cons_succ]; rw [ih i (by simpa using h)]; omega
theorem costT_le (ts : List Tok) (i : Nat) : costT (ts.take i) ≤ costT ts := by
  induction ts generalizing i with
  | nil => simp [costT]
  | cons t ts ih =>
    cases i with
    | zero => simp [costT]
    | succ i => simp only [List.take_succ_cons, costT]; have := ih i; omega
def leftT (left : Int) (cost : Nat) : Int := if (cost : Int) ≤ left then left - cost else -1
theorem leftT_neg {left : Int} {c : Nat} (h : left < c) : leftT left c = -1 := if_neg (by omega)
theorem leftT_pos {left : Int} {c : Nat} (h : (c : Int) ≤ left) : leftT left c = left - c := if_pos h
/-- A slice of words, in a block from B on, that may be written: its j-th word is f j. -/
def TokF (B : Nat) (w : World) (a : Option Addr) (n : Nat) (f : Nat → Tok) : Prop :=
  ∀ j, j < n → ∃ g, a = some ⟨g, 0, none⟩ ∧ B ≤ g ∧ g < w.heap.size ∧ TokC w g (j * 4) (f j) ∧ ∀ d, d < 4 → w.frozen? ⟨g, j * 4 + d, none⟩ = false
theorem TokF.kept {B : Nat} {w w' : World} {a : Option Addr} {n : Nat} {f : Nat → Tok} (h : TokF B w a n f) (hb : Below w.heap.size w w') : TokF B w' a n f := by
  intro j hj
  obtain ⟨g, e, h1, h2, h3, h4⟩ := h j hj
  exact ⟨g, e, h1, Nat.lt_of_lt_of_le h2 hb.size, h3.of fun o => hb.cell (p := ⟨g, o, none⟩) h2, fun d hd => (hb.frozen (p := ⟨g, j * 4 + d, none⟩) h2).trans (h4 d hd)⟩
theorem TokF.far {B C : Nat} {w w' : World} {a : Option Addr} {n : Nat} {f : Nat → Tok} (h : TokF B w a n f) (hC : w.heap.size ≤ C) (hb : Below C w w') : TokF B w' a n f := h.kept (hb.mono hC)
theorem TokF.congr {B : Nat} {w : World} {a : Option Addr} {n : Nat} {f f' : Nat → Tok} (h : TokF B w a n f) (e : ∀ j, j < n → f j = f' j) : TokF B w a n f' := by
  intro j hj
  rw [← e j hj]; exact h j hj
theorem TokF.mono {B B' : Nat} {w : World} {a : Option Addr} {n : Nat} {f : Nat → Tok} (h : TokF B w a n f) (hB : B' ≤ B) : TokF B' w a n f := by
  intro j hj
  obtain ⟨g, e, h1, r⟩ := h j hj
  exact ⟨g, e, Nat.le_trans hB h1, r⟩
/-- Four cells are written. -/
def set4 (w : World) (g o : Nat) (t : Tok) : World :=
  (((w.setCell ⟨g, o, none⟩ (.int .i64 t.k)).setCell ⟨g, o + 1, none⟩ (.string t.s)).setCell ⟨g, o + 2, none⟩ (.int .i64 t.n)).setCell ⟨g, o + 3, none⟩ (.int .i64 t.l)
theorem sett_same (w : World) (g j : Nat) (v : Value) (h : (w.cell? ⟨g, j, none⟩).isSome = true) : (w.setCell ⟨g, j, none⟩ v).cell? ⟨g, j, none⟩ = some v := by
  obtain ⟨u, hu⟩ := Option.isSome_iff_exists.1 h
  exact World.cell?_setCell_same w _ _ hu
theorem sett_off (w : World) (g j j' : Nat) (v : Value) (h : j ≠ j') : (w.setCell ⟨g, j, none⟩ v).cell? ⟨g, j', none⟩ = w.cell? ⟨g, j', none⟩ :=
  World.cell?_setCell_other w _ _ _ (by intro x; injection x; omega)
theorem set4_off (w : World) (g o : Nat) (t : Tok) (b j : Nat) (h : b ≠ g ∨ j < o ∨ o + 4 ≤ j) : (set4 w g o t).cell? ⟨b, j, none⟩ = w.cell? ⟨b, j, none⟩ := by
  unfold set4
  rw [World.cell?_setCell_other, World.cell?_setCell_other, World.cell?_setCell_other, World.cell?_setCell_other] <;> (intro x; injection x; omega)
theorem set4_size (w : World) (g o : Nat) (t : Tok) : (set4 w g o t).heap.size = w.heap.size := by simp [set4]
theorem set4_frozen (w : World) (g o : Nat) (t : Tok) (p : Addr) : (set4 w g o t).frozen? p = w.frozen? p := by simp [set4, World.frozen?_setCell]
theorem set4_below {B : Nat} {w w' : World} (h : Below B w w') (g o : Nat) (t : Tok) (hg : B ≤ g) : Below B w (set4 w' g o t) :=
  (((h.setCell (p := ⟨g, o, none⟩) hg _).setCell (p := ⟨g, o + 1, none⟩) hg _).setCell (p := ⟨g, o + 2, none⟩) hg _).setCell (p := ⟨g, o + 3, none⟩) hg _
theorem set4_at (w : World) (g o : Nat) (t : Tok) (h : ∀ j, j < 4 → (w.cell? ⟨g, o + j, none⟩).isSome = true) : TokC (set4 w g o t) g o t := by
  have h0 := h 0 (by omega)
  have h1 := h 1 (by omega)
  have h2 := h 2 (by omega)
  have h3 := h 3 (by omega)
  simp only [Nat.add_zero] at h0
  unfold set4
  refine ⟨?_, ?_, ?_, ?_⟩
  · rw [sett_off _ _ _ _ _ (by omega), sett_off _ _ _ _ _ (by omega), sett_off _ _ _ _ _ (by omega), sett_same _ _ _ _ h0]
  · rw [sett_off _ _ _ _ _ (by omega), sett_off _ _ _ _ _ (by omega)]
    exact sett_same _ _ _ _ (by rw [sett_off _ _ _ _ _ (by omega)]; exact h1)
  · rw [sett_off _ _ _ _ _ (by omega)]
    exact sett_same _ _ _ _ (by rw [sett_off _ _ _ _ _ (by omega), sett_off _ _ _ _ _ (by omega)]; exact h2)
  · exact sett_same _ _ _ _ (by rw [sett_off _ _ _ _ _ (by omega), sett_off _ _ _ _ _ (by omega), sett_off _ _ _ _ _ (by omega)]; exact h3)
theorem set4_some (w : World) (g o : Nat) (t : Tok) (j : Nat) (h : ∀ j, j < 4 → (w.cell? ⟨g, o + j, none⟩).isSome = true) (hj : (w.cell? ⟨g, j, none⟩).isSome = true) : ((set4 w g o t).cell? ⟨g, j, none⟩).isSome = true := by
  by_cases c : j < o ∨ o + 4 ≤ j
  · rw [set4_off _ _ _ _ _ _ (.inr c)]; exact hj
  · obtain ⟨q0, q1, q2, q3⟩ := set4_at w g o t h
    obtain ⟨d, rfl⟩ : ∃ d, j = o + d := ⟨j - o, by omega⟩
    match d, (show d < 4 by omega) with
    | 0, _ => simp [q0]
    | 1, _ => simp [q1]
    | 2, _ => simp [q2]
    | 3, _ => simp [q3]
theorem infoTok : (Tryz.prog.info? 39).map (fun i => (i.zero, i.size, i.bytes)) = some (some (.agg #[.int .i64 0, .string ⟨#[]⟩, .int .i64 0, .int .i64 0]), 4, 40) := by kernel_rfl
theorem make_toks (w : World) (n : Nat) (hn : n ≤ 1048576) : ∃ cs : Array Value, cs.size = n * 4 ∧
    (Instr.makeSlice 35 (.int .i64 (n : Int)) (.int .i64 (n : Int))).run Tryz.prog w = .ok (.slice (some ⟨w.heap.size, 0, none⟩) n n) (w.alloc (.cells cs 39)) := by
  obtain ⟨i0, hi, hz0, hz1, hz2⟩ := info_parts infoTok
  have h := run_make (P := Tryz.prog) w 35 39 i0 _ Tryz.underlying35 hi hz0 .i64 .i64 n n (by omega) (by omega) (by rw [hz2]; omega) (by omega)
  rw [hz1] at h
  exact ⟨_, size_madeCells _ _, by simpa using h⟩
/-- A slice of which the first k have been laid: the block may be written whole. -/
def HalfT (g n k : Nat) (ts : List Tok) (w : World) : Prop := g < w.heap.size ∧ (∀ j, j < n * 4 → (w.cell? ⟨g, j, none⟩).isSome = true ∧ w.frozen? ⟨g, j, none⟩ = false) ∧
  ∀ i (hi : i < ts.length), i < k → TokC w g (i * 4) ts[i]
theorem HalfT.start {w : World} {n : Nat} {cs : Array Value} {e : TypeId} (hcs : cs.size = n * 4) (ts : List Tok) : HalfT w.heap.size n 0 ts (w.alloc (.cells cs e)) := by
  refine ⟨by simp, fun j hj => ⟨?_, ?_⟩, fun i hi hk => by omega⟩
  · rw [World.cell?_alloc_at _ _ _ _ rfl]
    simp [show j < cs.size by omega]
  · have hb : (w.alloc (.cells cs e)).heap[w.heap.size]? = some (.cells cs e) := heap_alloc_new w _
    simp only [World.frozen?, hb]
    simp
theorem HalfT.kept {g n k : Nat} {ts : List Tok} {w w' : World} (h : HalfT g n k ts w) (hb : Below w.heap.size w w') : HalfT g n k ts w' := by
  obtain ⟨h0, h1, h2⟩ := h
  refine ⟨Nat.lt_of_lt_of_le h0 hb.size, fun j hj => ?_, fun i hi hk => (h2 i hi hk).of fun o => hb.cell (p := ⟨g, o, none⟩) h0⟩
  rw [hb.cell (p := ⟨g, j, none⟩) h0, hb.frozen (p := ⟨g, j, none⟩) h0]; exact h1 j hj
theorem HalfT.store {g n k : Nat} {ts : List Tok} {w : World} (h : HalfT g n k ts w) (hk : k < ts.length) (hn : ts.length = n) : HalfT g n (k + 1) ts (set4 w g (k * 4) ts[k]) := by
  obtain ⟨h0, h1, h2⟩ := h
  have hs : ∀ j, j < 4 → (w.cell? ⟨g, k * 4 + j, none⟩).isSome = true := fun j hj => (h1 (k * 4 + j) (by omega)).1
  refine ⟨by rw [set4_size]; exact h0, fun j hj => ⟨set4_some _ _ _ _ _ hs (h1 j hj).1, by rw [set4_frozen]; exact (h1 j hj).2⟩, fun i hi hik => ?_⟩
  by_cases c : i = k
  · subst c
    exact set4_at w g (i * 4) ts[i] hs
  · obtain ⟨c0, c1, c2, c3⟩ := h2 i hi (by omega)
    have hq : ∀ d, d < 4 → (set4 w g (k * 4) ts[k]).cell? ⟨g, i * 4 + d, none⟩ = w.cell? ⟨g, i * 4 + d, none⟩ := fun d hd => set4_off _ _ _ _ _ _ (.inr (by omega))
    exact ⟨(hq 0 (by omega)).trans c0, (hq 1 (by omega)).trans c1, (hq 2 (by omega)).trans c2, (hq 3 (by omega)).trans c3⟩
theorem HalfT.all {g k : Nat} {ts : List Tok} {w : World} {B : Nat} (h : HalfT g k k ts w) (hk : k = ts.length) (hB : B ≤ g) : TokF B w (some ⟨g, 0, none⟩) ts.length (fun j => ts.getD j default) := by
  obtain ⟨h0, h1, h2⟩ := h
  subst hk
  intro j hj
  refine ⟨g, rfl, hB, h0, ?_, fun d hd => (h1 (j * 4 + d) (by omega)).2⟩
  have := h2 j hj hj
  show TokC w g (j * 4) (ts.getD j default)
  rw [List.getD_eq_getElem?_getD, List.getElem?_eq_getElem hj]; exact this
end Go.Proofs.YtebeoijoljlhiaaGreatDoor.kit
