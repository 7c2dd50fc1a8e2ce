/-
  How a value of the laws (a struct of an int, a text and an int) and a slice of such values are read as data, and how values lie in memory. Conditions: each theorem names its own.
-/
import Derived.Test.YthffjcclcladoaaGreatDoorMInfo
import Derived.Test.YthffjcclcladoaaGreatDoorMKit
import Derived.Deep.Slices
import Derived.Deep.Fields
import Derived.ChangeSame
import Derived.Lib.SmallJoins
import Derived.Laws.MakeOwn
namespace Go.Proofs.YthffjcclcladoaaGreatDoor.kit
open Go.Joins Go.ChangeShapes Go.WideShapes Go.ChangeAt Go.RowKit Go.Deep
set_option linter.unusedVariables false

theorem laidOutV : laidOutB Tryz.pinned.checked.prog = true := by kernel_rfl
structure VD where
  k : Int
  s : ByteArray
  n : Int
instance : Inhabited VD := ⟨⟨0, ⟨#[]⟩, 0⟩⟩
def VD.v (t : VD) : Value := .agg #[.int .i64 t.k, .string t.s, .int .i64 t.n]
/-- Three cells that hold a value. -/
def VdC (w : World) (b o : Nat) (t : VD) : Prop :=
  w.cell? ⟨b, o, none⟩ = some (.int .i64 t.k) ∧ w.cell? ⟨b, o + 1, none⟩ = some (.string t.s) ∧ w.cell? ⟨b, o + 2, none⟩ = some (.int .i64 t.n)
theorem VdC.of {w w' : World} {b o : Nat} {t : VD} (h : VdC w b o t) (hc : ∀ o, w'.cell? ⟨b, o, none⟩ = w.cell? ⟨b, o, none⟩) : VdC w' b o t :=
  ⟨(hc _).trans h.1, (hc _).trans h.2.1, (hc _).trans h.2.2⟩
/-- The values ts lie at a. -/
def Vds (w : World) (ts : List VD) (a : Option Addr) : Prop :=
  ∀ i (h : i < ts.length), ∃ b o, a = some ⟨b, o, none⟩ ∧ b < w.heap.size ∧ VdC w b (o + i * 3) ts[i] ∧ ts[i].s.size ≤ maxLen ∧ -9223372036854775808 ≤ ts[i].n ∧ ts[i].n ≤ 9223372036854775807
theorem Vds.kept {C : Nat} {w w' : World} {ts : List VD} {a : Option Addr} (h : Vds w ts a) (hC : w.heap.size ≤ C) (hb : Below C w w') : Vds w' ts a := by
  intro i hi
  obtain ⟨b, o, e, h1, h2, h3⟩ := h i hi
  exact ⟨b, o, e, Nat.lt_of_lt_of_le h1 hb.size, h2.of fun o => hb.cell (p := ⟨b, o, none⟩) (Nat.lt_of_lt_of_le h1 hC), h3⟩

theorem cellsVd : Tryz.prog.cellsOf 124 = 3 := by kernel_rfl
theorem add_atV (b o k : Nat) : (⟨b, o, none⟩ : Addr).add k = ⟨b, o + k, none⟩ := by unfold Addr.add; split <;> simp_all
theorem open_slice_fieldsV {H : Type} {enc : TypeId × Value → H} {P : Program} {w : World} {base : Nat} {spare : Nat → Bool} {held : Bool} {t e : TypeId} {fs : Array Field} {fuel : Nat} {cs : List Value} {x : DataW H × List MemPlace} (ht : P.underlying t = some (.slice e)) (he : P.underlying e = some (.struct fs))
    (hone : oneCellFields P fs = true) (hC : P.cellsOf e = fs.size) (h : DataW.trod enc P w base spare held fuel t cs = some x) :
    (cs = [.slice none 0 0] ∧ x = (.nil, [])) ∨
    ∃ (a : Addr) (len cap m : Nat) (D : Nat → DataW H) (Pl : Nat → List MemPlace), cs = [.slice (some a) len cap] ∧ base ≤ a.block ∧ len ≤ cap ∧ cap ≤ maxLen ∧ m = (if spare a.block then cap else len) ∧
      x = (.slice ((List.range len).map D) ((List.range (m - len)).map fun j => D (len + j)), MemPlace.row a (m * fs.size) ++ (List.range m).flatMap Pl) ∧
      ∀ i, i < m → ∃ (ys : List (DataW H × List MemPlace)) (n : Nat), D i = .agg (ys.map (·.1)) ∧ Pl i = ys.flatMap (·.2) ∧ ys.length = fs.size ∧
        ∀ (j : Nat) (f : Field), fs[j]? = some f → ∃ (v : Value) (y : DataW H × List MemPlace), w.cell? (a.add (i * fs.size + j)) = some v ∧ ys[j]? = some y ∧ DataW.trod enc P w base spare held n f.type [v] = some y := by
  rcases open_slice ht h with h0 | ⟨a, len, cap, m, n, D, Pl, hcs, hb, hl, hm, hmm, hx, hi⟩
  · exact .inl h0
  · refine .inr ⟨a, len, cap, m, D, Pl, hcs, hb, hl, hm, hmm, by rw [hC] at hx; exact hx, fun i him => ?_⟩
    obtain ⟨cs', hc, ht'⟩ := hi i him
    rw [hC] at hc
    obtain ⟨ys, n', hn', hy, hlen, hyl, hf⟩ := DataW.trod_struct he ht'
    obtain ⟨_, hcl, hat⟩ := World.cells?_some hc
    simp only [Prod.mk.injEq] at hy
    refine ⟨ys, n', hy.1, hy.2, hyl, fun j f hj => ?_⟩
    obtain ⟨ho, hk⟩ := hone_of hone j f hj
    have hjl : j < fs.size := (Array.getElem?_eq_some_iff.1 hj).1
    have hcell := hat j hjl
    have hv : cs'[j]? = some (cs'[j]'(by omega)) := List.getElem?_eq_getElem (by omega)
    have h1 := hf j f hj
    rw [ho, hk] at h1
    have hone' : (cs'.drop j).take 1 = [cs'[j]'(by omega)] := by
      rw [List.drop_eq_getElem_cons (by omega)]
      rfl
    rw [hone'] at h1
    have hys : ys[j]? = some (ys[j]'(by omega)) := List.getElem?_eq_getElem (by omega)
    refine ⟨_, _, ?_, hys, h1.trans hys⟩
    rw [← Go.Deep.add_add, hcell, hv]
set_option maxRecDepth 100000 in
theorem open_vds {H : Type} {enc : TypeId × Value → H} {W : World} {b : Nat} {hd : Bool} {r : Reach} {b0 : Nat} {v : Value} {d : DataW H} {p : List MemPlace} (hv : Value.okWide Tryz.prog W r b0 56 v) (h0 : DataW.Trod enc Tryz.prog W b (fun _ => true) hd 56 v d p) :
    ∃ (ts : List VD) (a : Option Addr) (cap : Nat), v = .slice a ts.length cap ∧ Vds W ts a ∧ ts.length ≤ maxLen := by
  obtain ⟨a0, len0, cap0, rfl⟩ := okWide_slice Tryz.underlying56 hv
  obtain ⟨fuel, h⟩ := h0
  rcases open_slice_fieldsV Tryz.underlying56 Tryz.underlying124 (by kernel_rfl) cellsVd h with ⟨hcs, hx⟩ | ⟨a, len, cap, m, D, Pl, hcs, hb, hl, hm, hmm, hx, hi⟩
  · simp [Value.cells] at hcs
    obtain ⟨rfl, rfl, rfl⟩ := hcs
    exact ⟨[], none, 0, rfl, fun i hi => absurd hi (by simp), by simp⟩
  · simp [Value.cells] at hcs
    obtain ⟨rfl, rfl, rfl⟩ := hcs
    simp only [if_true] at hmm
    subst hmm
    have hone : ∀ i, i < len0 → ∃ t : VD, ∃ b o, some a = some ⟨b, o, none⟩ ∧ b < W.heap.size ∧ VdC W b (o + i * 3) t ∧ t.s.size ≤ maxLen ∧ -9223372036854775808 ≤ t.n ∧ t.n ≤ 9223372036854775807 := by
      intro i hil
      obtain ⟨ys, n, hD, _, _, hf⟩ := hi i (by omega)
      obtain ⟨v0, y0, c0, g0, t0⟩ := hf 0 _ rfl
      obtain ⟨v1, y1, c1, g1, t1⟩ := hf 1 _ rfl
      obtain ⟨v2, y2, c2, g2, t2⟩ := hf 2 _ rfl
      obtain ⟨k, e0, _, _⟩ := DataW.trod_int Tryz.underlying3 t0
      obtain ⟨s, e1, _, hs⟩ := DataW.trod_string Tryz.underlying9 t1
      obtain ⟨q, e2, _, wq⟩ := DataW.trod_int Tryz.underlying3 t2
      simp only [List.cons.injEq, and_true] at e0 e1 e2
      subst e0 e1 e2
      obtain ⟨_, _, _, _, _, hf0⟩ := hi 0 (by omega)
      obtain ⟨_, _, d0, _, _⟩ := hf0 0 _ rfl
      obtain ⟨bb, oo, spot⟩ := a
      have hspot : spot = none := by simpa [Addr.add] using World.cell?_spot d0
      subst hspot
      have hlt : bb < W.heap.size := by have := World.block_lt_of_cell? W _ c0; rw [add_atV] at this; exact this
      rw [add_atV] at c0 c1 c2
      exact ⟨⟨k, s, q⟩, bb, oo, rfl, hlt, ⟨by simpa using c0, by simpa [Nat.add_assoc] using c1, by simpa [Nat.add_assoc] using c2⟩, hs, by simpa [Lit.wf, IntKind.min, IntKind.max, IntKind.signed, IntKind.bits] using wq⟩
    obtain ⟨f, hf⟩ := choose_lt hone
    refine ⟨(List.range len0).map f, some a, m, by simp, fun i hil => ?_, by simp; omega⟩
    have := hf i (by simpa using hil)
    simpa using this
end Go.Proofs.YthffjcclcladoaaGreatDoor.kit
/-
  Contracts of laws.szVal, laws.toVal, laws.szValS, laws.toValS over this seat's translation: what values cost, and that they are copied. Conditions: each theorem names its own.
-/
namespace Go.Proofs.YthffjcclcladoaaGreatDoor.kit
open Go.ChangeShapes Go.WideShapes Go.ChangeAt Go.RowKit
set_option linter.unusedVariables false

theorem szVd_in (t : VD) (L : Int) (w : World) (hs : (t.s.size : Int) ≤ L) (hL : L ≤ 1048576) :
    Calls Tryz.prog 80 #[t.v, .int .i64 L] w fun e w' => e = .returned (.int .i64 (L - t.s.size)) ∧ Below w.heap.size w w' := by
  obtain ⟨k, s, n⟩ := t
  unfold VD.v
  simp only at *
  go_enter Tryz.func80, Tryz.ntmps80
  go_wp2
  go_ret
  exact ⟨rfl, (Below.refl _ _).alloc (Nat.le_refl _) _⟩
theorem szVd_out (t : VD) (L : Int) (w : World) (hs : L < (t.s.size : Int)) (hL : 0 ≤ L) (hm : t.s.size ≤ maxLen) :
    Calls Tryz.prog 80 #[t.v, .int .i64 L] w fun e w' => e = .returned (.int .i64 (-1)) ∧ Below w.heap.size w w' := by
  obtain ⟨k, s, n⟩ := t
  unfold VD.v
  simp only at *
  unfold maxLen at hm
  go_enter Tryz.func80, Tryz.ntmps80
  go_wp2
  go_ret
  exact ⟨rfl, (Below.refl _ _).alloc (Nat.le_refl _) _⟩
theorem toVd_any (t : VD) (w : World) :
    Calls Tryz.prog 81 #[t.v] w fun e w' => e = .returned t.v ∧ Below w.heap.size w w' := by
  obtain ⟨k, s, n⟩ := t
  unfold VD.v
  simp only at *
  go_enter Tryz.func81, Tryz.ntmps81
  go_wp2
  exact bodyPost_ret (v := .agg #[.int .i64 k, .string s, .int .i64 n]) (by simp [results, Tryz.results81, go_sem]) rfl ⟨rfl, (((Below.refl _ _).alloc (Nat.le_refl _) _).alloc (by simp) _).alloc (by simp; omega) _⟩

/-- What values cost a law's counter. -/
def costV : List VD → Nat
  | [] => 0
  | t :: ts => t.s.size + costV ts
def billV (ts : List VD) : Nat := ts.length + costV ts
theorem costV_take (ts : List VD) (i : Nat) (h : i < ts.length) : costV (ts.take (i + 1)) = costV (ts.take i) + ts[i].s.size := by
  induction ts generalizing i with
  | nil => simp at h
  | cons t ts ih =>
    cases i with
    | zero => simp [costV]
    | succ i => simp only [List.take_succ_cons, costV, List.getElem_cons_succ]; rw [ih i (by simpa using h)]; omega
theorem costV_le (ts : List VD) (i : Nat) : costV (ts.take i) ≤ costV ts := by
  induction ts generalizing i with
  | nil => simp [costV]
  | cons t ts ih =>
    cases i with
    | zero => simp [costV]
    | succ i => simp only [List.take_succ_cons, costV]; have := ih i; omega
def leftV (left : Int) (cost : Nat) : Int := if (cost : Int) ≤ left then left - cost else -1
theorem leftV_neg {left : Int} {c : Nat} (h : left < c) : leftV left c = -1 := if_neg (by omega)
theorem leftV_pos {left : Int} {c : Nat} (h : (c : Int) ≤ left) : leftV left c = left - c := if_pos h
set_option maxRecDepth 100000 in
set_option maxHeartbeats 400000 in
theorem szVds_any (ts : List VD) (a : Option Addr) (cap : Nat) (left : Int) (w : World) (hk : Vds w ts a) (hl : ts.length ≤ maxLen) (h0 : 0 ≤ left) (h1 : left ≤ 1048576) :
    Calls Tryz.prog 37 #[.slice a ts.length cap, .int .i64 left] w fun e w' => e = .returned (.int .i64 (leftV left (billV ts))) ∧ Below w.heap.size w w' := by
  have HK := Lib.hid hk
  clear hk
  have hml : maxLen = 9223372036854775807 := rfl
  go_enter Tryz.func37, Tryz.ntmps37
  by_cases c : left < ts.length
  · go_wp2_with fail
    go_ret
    exact ⟨ret_int (leftV_neg (by simp only [billV]; omega)).symm, Below.refl _ _⟩
  · go_wp2_with fail
    go_loopw [1, 5] (fun l i wr => ∃ (k : Nat) (m : Int), k ≤ ts.length ∧ i = .int .i64 (k : Int) ∧ l = .int .i64 m ∧ m = left - ts.length - (costV (ts.take k) : Nat) ∧ 0 ≤ m ∧ Below w.heap.size w wr) (fun _ i _ => ts.length - (intOf i).toNat)
    case atStart => exact ⟨0, _, Nat.zero_le _, rfl, rfl, by simp [costV], by omega, Below.refl _ _⟩
    case round =>
      obtain ⟨k, m, hkl, rfl, rfl, hm, hm0, hb⟩ := hrel
      have HB := Lib.hid hb
      have HM := Lib.hid hm
      clear hb
      by_cases hlt : k < ts.length
      · obtain ⟨b, o, rfl, hbl, ⟨e0, e1, e2⟩, f0, _⟩ := (HK.out.kept (Nat.le_refl _) HB.out) k hlt
        have HT := Lib.hid (costV_take ts k hlt)
        have HL := Lib.hid (costV_le ts (k + 1))
        generalize ts[k] = t at *
        by_cases c2 : m < t.s.size
        · have HS := Lib.hid (fun W => szVd_out t m W c2 hm0 f0)
          unfold VD.v at HS
          clear hm
          go_wp2_with fail
          refine (HS.out _).mono ?_
          rintro e w1 ⟨rfl, hb1⟩
          go_wp2_with fail
          go_ret
          exact ⟨ret_int (leftV_neg (by have := HM.out; have := HT.out; have := HL.out; simp only [billV]; omega)).symm, HB.out.trans (hb1.mono HB.out.size)⟩
        · have HS := Lib.hid (fun W => szVd_in t m W (by omega) (by omega))
          unfold VD.v at HS
          have c3 : 0 ≤ m - t.s.size := by omega
          clear hm
          go_wp2_with fail
          refine (HS.out _).mono ?_
          rintro e w1 ⟨rfl, hb1⟩
          have HB1 := Lib.hid (HB.out.trans (hb1.mono HB.out.size))
          clear hb1
          go_wp2_with fail
          go_roundw
          case rel => exact ⟨k + 1, m - t.s.size, by omega, by go_num, rfl, by have := HM.out; have := HT.out; omega, c3, HB1.out⟩
          case measure => simp [intOf]; omega
      · obtain rfl : k = ts.length := by omega
        clear hm
        go_wp2_with fail
        go_ret
        exact ⟨ret_int (by have := HM.out; rw [List.take_length] at this; rw [leftV_pos (by simp only [billV]; omega)]; simp only [billV]; omega), HB.out⟩

/-- A slice of values, in a block from B on, that may be written: its j-th word is f j. -/
def VdF (B : Nat) (w : World) (a : Option Addr) (n : Nat) (f : Nat → VD) : Prop :=
  ∀ j, j < n → ∃ g, a = some ⟨g, 0, none⟩ ∧ B ≤ g ∧ g < w.heap.size ∧ VdC w g (j * 3) (f j) ∧ ∀ d, d < 3 → w.frozen? ⟨g, j * 3 + d, none⟩ = false
theorem VdF.kept {B : Nat} {w w' : World} {a : Option Addr} {n : Nat} {f : Nat → VD} (h : VdF B w a n f) (hb : Below w.heap.size w w') : VdF B w' a n f := by
  intro j hj
  obtain ⟨g, e, h1, h2, h3, h4⟩ := h j hj
  exact ⟨g, e, h1, Nat.lt_of_lt_of_le h2 hb.size, h3.of fun o => hb.cell (p := ⟨g, o, none⟩) h2, fun d hd => (hb.frozen (p := ⟨g, j * 3 + d, none⟩) h2).trans (h4 d hd)⟩
theorem VdF.far {B C : Nat} {w w' : World} {a : Option Addr} {n : Nat} {f : Nat → VD} (h : VdF B w a n f) (hC : w.heap.size ≤ C) (hb : Below C w w') : VdF B w' a n f := h.kept (hb.mono hC)
theorem VdF.congr {B : Nat} {w : World} {a : Option Addr} {n : Nat} {f f' : Nat → VD} (h : VdF B w a n f) (e : ∀ j, j < n → f j = f' j) : VdF B w a n f' := by
  intro j hj
  rw [← e j hj]; exact h j hj
theorem VdF.mono {B B' : Nat} {w : World} {a : Option Addr} {n : Nat} {f : Nat → VD} (h : VdF B w a n f) (hB : B' ≤ B) : VdF B' w a n f := by
  intro j hj
  obtain ⟨g, e, h1, r⟩ := h j hj
  exact ⟨g, e, Nat.le_trans hB h1, r⟩
/-- Three cells are written. -/
def set3 (w : World) (g o : Nat) (t : VD) : World :=
  ((w.setCell ⟨g, o, none⟩ (.int .i64 t.k)).setCell ⟨g, o + 1, none⟩ (.string t.s)).setCell ⟨g, o + 2, none⟩ (.int .i64 t.n)
theorem setv_same (w : World) (g j : Nat) (v : Value) (h : (w.cell? ⟨g, j, none⟩).isSome = true) : (w.setCell ⟨g, j, none⟩ v).cell? ⟨g, j, none⟩ = some v := by
  obtain ⟨u, hu⟩ := Option.isSome_iff_exists.1 h
  exact World.cell?_setCell_same w _ _ hu
theorem setv_off (w : World) (g j j' : Nat) (v : Value) (h : j ≠ j') : (w.setCell ⟨g, j, none⟩ v).cell? ⟨g, j', none⟩ = w.cell? ⟨g, j', none⟩ :=
  World.cell?_setCell_other w _ _ _ (by intro x; injection x; omega)
theorem set3_off (w : World) (g o : Nat) (t : VD) (b j : Nat) (h : b ≠ g ∨ j < o ∨ o + 3 ≤ j) : (set3 w g o t).cell? ⟨b, j, none⟩ = w.cell? ⟨b, j, none⟩ := by
  unfold set3
  rw [World.cell?_setCell_other, World.cell?_setCell_other, World.cell?_setCell_other] <;> (intro x; injection x; omega)
theorem set3_size (w : World) (g o : Nat) (t : VD) : (set3 w g o t).heap.size = w.heap.size := by simp [set3]
theorem set3_frozen (w : World) (g o : Nat) (t : VD) (p : Addr) : (set3 w g o t).frozen? p = w.frozen? p := by simp [set3, World.frozen?_setCell]
theorem set3_below {B : Nat} {w w' : World} (h : Below B w w') (g o : Nat) (t : VD) (hg : B ≤ g) : Below B w (set3 w' g o t) :=
  ((h.setCell (p := ⟨g, o, none⟩) hg _).setCell (p := ⟨g, o + 1, none⟩) hg _).setCell (p := ⟨g, o + 2, none⟩) hg _
theorem set3_at (w : World) (g o : Nat) (t : VD) (h : ∀ j, j < 3 → (w.cell? ⟨g, o + j, none⟩).isSome = true) : VdC (set3 w g o t) g o t := by
  have h0 := h 0 (by omega)
  have h1 := h 1 (by omega)
  have h2 := h 2 (by omega)
  simp only [Nat.add_zero] at h0
  unfold set3
  refine ⟨?_, ?_, ?_⟩
  · rw [setv_off _ _ _ _ _ (by omega), setv_off _ _ _ _ _ (by omega), setv_same _ _ _ _ h0]
  · rw [setv_off _ _ _ _ _ (by omega)]
    exact setv_same _ _ _ _ (by rw [setv_off _ _ _ _ _ (by omega)]; exact h1)
  · exact setv_same _ _ _ _ (by rw [setv_off _ _ _ _ _ (by omega), setv_off _ _ _ _ _ (by omega)]; exact h2)
theorem set3_some (w : World) (g o : Nat) (t : VD) (j : Nat) (h : ∀ j, j < 3 → (w.cell? ⟨g, o + j, none⟩).isSome = true) (hj : (w.cell? ⟨g, j, none⟩).isSome = true) : ((set3 w g o t).cell? ⟨g, j, none⟩).isSome = true := by
  by_cases c : j < o ∨ o + 3 ≤ j
  · rw [set3_off _ _ _ _ _ _ (.inr c)]; exact hj
  · obtain ⟨q0, q1, q2⟩ := set3_at w g o t h
    obtain ⟨d, rfl⟩ : ∃ d, j = o + d := ⟨j - o, by omega⟩
    match d, (show d < 3 by omega) with
    | 0, _ => simp [q0]
    | 1, _ => simp [q1]
    | 2, _ => simp [q2]
theorem infoVd : (Tryz.prog.info? 66).map (fun i => (i.zero, i.size, i.bytes)) = some (some (.agg #[.int .i64 0, .string ⟨#[]⟩, .int .i64 0]), 3, 32) := by kernel_rfl
theorem make_vds (w : World) (n : Nat) (hn : n ≤ 1048576) : ∃ cs : Array Value, cs.size = n * 3 ∧
    (Instr.makeSlice 24 (.int .i64 (n : Int)) (.int .i64 (n : Int))).run Tryz.prog w = .ok (.slice (some ⟨w.heap.size, 0, none⟩) n n) (w.alloc (.cells cs 66)) := by
  obtain ⟨i0, hi, hz0, hz1, hz2⟩ := info_parts infoVd
  have h := run_make (P := Tryz.prog) w 24 66 i0 _ Tryz.underlying24 hi hz0 .i64 .i64 n n (by omega) (by omega) (by rw [hz2]; omega) (by omega)
  rw [hz1] at h
  exact ⟨_, size_madeCells _ _, by simpa using h⟩
/-- A slice of which the first k have been laid: the block may be written whole. -/
def HalfV (g n k : Nat) (ts : List VD) (w : World) : Prop := g < w.heap.size ∧ (∀ j, j < n * 3 → (w.cell? ⟨g, j, none⟩).isSome = true ∧ w.frozen? ⟨g, j, none⟩ = false) ∧
  ∀ i (hi : i < ts.length), i < k → VdC w g (i * 3) ts[i]
theorem HalfV.start {w : World} {n : Nat} {cs : Array Value} {e : TypeId} (hcs : cs.size = n * 3) (ts : List VD) : HalfV w.heap.size n 0 ts (w.alloc (.cells cs e)) := by
  refine ⟨by simp, fun j hj => ⟨?_, ?_⟩, fun i hi hk => by omega⟩
  · rw [World.cell?_alloc_at _ _ _ _ rfl]
    simp [show j < cs.size by omega]
  · have hb : (w.alloc (.cells cs e)).heap[w.heap.size]? = some (.cells cs e) := heap_alloc_new w _
    simp only [World.frozen?, hb]
    simp
theorem HalfV.kept {g n k : Nat} {ts : List VD} {w w' : World} (h : HalfV g n k ts w) (hb : Below w.heap.size w w') : HalfV g n k ts w' := by
  obtain ⟨h0, h1, h2⟩ := h
  refine ⟨Nat.lt_of_lt_of_le h0 hb.size, fun j hj => ?_, fun i hi hk => (h2 i hi hk).of fun o => hb.cell (p := ⟨g, o, none⟩) h0⟩
  rw [hb.cell (p := ⟨g, j, none⟩) h0, hb.frozen (p := ⟨g, j, none⟩) h0]; exact h1 j hj
theorem HalfV.store {g n k : Nat} {ts : List VD} {w : World} (h : HalfV g n k ts w) (hk : k < ts.length) (hn : ts.length = n) : HalfV g n (k + 1) ts (set3 w g (k * 3) ts[k]) := by
  obtain ⟨h0, h1, h2⟩ := h
  have hs : ∀ j, j < 3 → (w.cell? ⟨g, k * 3 + j, none⟩).isSome = true := fun j hj => (h1 (k * 3 + j) (by omega)).1
  refine ⟨by rw [set3_size]; exact h0, fun j hj => ⟨set3_some _ _ _ _ _ hs (h1 j hj).1, by rw [set3_frozen]; exact (h1 j hj).2⟩, fun i hi hik => ?_⟩
  by_cases c : i = k
  · subst c
    exact set3_at w g (i * 3) ts[i] hs
  · obtain ⟨c0, c1, c2⟩ := h2 i hi (by omega)
    have hq : ∀ d, d < 3 → (set3 w g (k * 3) ts[k]).cell? ⟨g, i * 3 + d, none⟩ = w.cell? ⟨g, i * 3 + d, none⟩ := fun d hd => set3_off _ _ _ _ _ _ (.inr (by omega))
    exact ⟨(hq 0 (by omega)).trans c0, (hq 1 (by omega)).trans c1, (hq 2 (by omega)).trans c2⟩
theorem HalfV.all {g k : Nat} {ts : List VD} {w : World} {B : Nat} (h : HalfV g k k ts w) (hk : k = ts.length) (hB : B ≤ g) : VdF B w (some ⟨g, 0, none⟩) ts.length (fun j => ts.getD j default) := by
  obtain ⟨h0, h1, h2⟩ := h
  subst hk
  intro j hj
  refine ⟨g, rfl, hB, h0, ?_, fun d hd => (h1 (j * 3 + d) (by omega)).2⟩
  have := h2 j hj hj
  show VdC w g (j * 3) (ts.getD j default)
  rw [List.getD_eq_getElem?_getD, List.getElem?_eq_getElem hj]; exact this
set_option maxRecDepth 100000 in
set_option maxHeartbeats 1000000 in
theorem toVds_any (ts : List VD) (a : Option Addr) (cap : Nat) (w : World) (hk : Vds w ts a) (hl : ts.length ≤ 1048576) :
    Calls Tryz.prog 38 #[.slice a ts.length cap] w fun e w' => ∃ (a' : Option Addr) (cap' : Nat), e = .returned (.slice a' ts.length cap') ∧ VdF w.heap.size w' a' ts.length (fun j => ts.getD j default) ∧ ts.length ≤ cap' ∧ Below w.heap.size w w' := by
  have HK := Lib.hid hk
  clear hk
  obtain ⟨cs, hcs, hmk⟩ := make_vds w ts.length hl
  have H0 := Lib.hid (HalfV.start (w := w) (e := 66) hcs ts)
  go_enter Tryz.func38, Tryz.ntmps38
  go_wp2_with fail
  go_loopw [4] (fun i wr => ∃ k : Nat, k ≤ ts.length ∧ i = .int .i64 (k : Int) ∧ HalfV w.heap.size ts.length k ts wr ∧ Below w.heap.size w wr) (fun i _ => ts.length - (intOf i).toNat)
  case atStart => exact ⟨0, Nat.zero_le _, rfl, H0.out, (Below.refl _ _).alloc (Nat.le_refl _) _⟩
  case round =>
    obtain ⟨k, hkl, rfl, hh, hb⟩ := hrel
    have HB := Lib.hid hb
    have HH := Lib.hid hh
    clear hb hh
    by_cases hlt : k < ts.length
    · obtain ⟨b, o, rfl, hbl, ⟨e0, e1, e2⟩, f0, _⟩ := (HK.out.kept (Nat.le_refl _) HB.out) k hlt
      have HN := Lib.hid (fun W (hw : HalfV w.heap.size ts.length k ts W) => hw.store hlt rfl)
      generalize ts[k] = t at *
      have HO := Lib.hid (fun W => toVd_any t W)
      unfold VD.v at HO
      go_wp2_with fail
      refine (HO.out _).mono ?_
      rintro e w1 ⟨rfl, hb1⟩
      have hh1 := HH.out.kept hb1
      have hg := HH.out.1
      have q0 := hh1.2.1 (k * 3) (by omega)
      have q1 := hh1.2.1 (k * 3 + 1) (by omega)
      have q2 := hh1.2.1 (k * 3 + 2) (by omega)
      obtain ⟨q0, p0⟩ := q0
      obtain ⟨q1, p1⟩ := q1
      obtain ⟨q2, p2⟩ := q2
      obtain ⟨y0, q0⟩ := Option.isSome_iff_exists.1 q0
      obtain ⟨y1, q1⟩ := Option.isSome_iff_exists.1 q1
      obtain ⟨y2, q2⟩ := Option.isSome_iff_exists.1 q2
      have HF := Lib.hid (HN.out w1 hh1)
      have HB1 := Lib.hid (HB.out.trans (hb1.mono HB.out.size))
      clear hb1 hh1
      go_wp2_with fail
      go_roundw
      case rel => exact ⟨k + 1, by omega, by go_num, HF.out, set3_below HB1.out _ _ _ (Nat.le_refl _)⟩
      case measure => simp [intOf]; omega
    · obtain rfl : k = ts.length := by omega
      go_wp2_with fail
      go_ret
      exact ⟨_, _, rfl, HH.out.all rfl (Nat.le_refl _), Nat.le_refl _, HB.out⟩
end Go.Proofs.YthffjcclcladoaaGreatDoor.kit
