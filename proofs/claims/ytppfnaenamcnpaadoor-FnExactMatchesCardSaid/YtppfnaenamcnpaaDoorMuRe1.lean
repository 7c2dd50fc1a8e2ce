/-
  How an expression of the laws (a struct of six fields, the last one a slice of such structs) is read as a tree that lies in memory. Conditions: each theorem names its own.
-/
import Derived.Test.YtppfnaenamcnpaaDoorMuInfo
import Derived.Test.YtppfnaenamcnpaaDoorMuKit
import Derived.Deep.Slices
import Derived.Deep.Fields
import Derived.ChangeSame
import Derived.Lib.SmallJoins
import Derived.Laws.MakeOwn
set_option linter.unusedVariables false
namespace Go.Proofs.YtppfnaenamcnpaaDoor.kit
open Go.Joins Go.ChangeShapes Go.WideShapes Go.ChangeAt Go.RowKit Go.Deep
theorem open_slice_fields {H : Type} {enc : TypeId × Value → H} {P : Program} {w : World} {base : Nat} {spare : Nat → Bool} {held : Bool} {t e : TypeId} {fs : Array Field} {fuel : Nat} {cs : List Value} {x : DataW H × List MemPlace} (ht : P.underlying t = some (.slice e)) (he : P.underlying e = some (.struct fs))
 (hone : oneCellFields P fs = true) (hC : P.cellsOf e = fs.size) (h : DataW.trod enc P w base spare held fuel t cs = some x) :
 (cs = [.slice none 0 0] ∧ x = (.nil, [])) ∨
 ∃ (a : Addr) (len cap m : Nat) (D : Nat → DataW H) (Pl : Nat → List MemPlace), cs = [.slice (some a) len cap] ∧ base ≤ a.block ∧ len ≤ cap ∧ cap ≤ maxLen ∧ m = (if spare a.block then cap else len) ∧
   x = (.slice ((List.range len).map D) ((List.range (m - len)).map fun j => D (len + j)), MemPlace.row a (m * fs.size) ++ (List.range m).flatMap Pl) ∧
   ∀ i, i < m → ∃ (ys : List (DataW H × List MemPlace)) (n : Nat), D i = .agg (ys.map (·.1)) ∧ Pl i = ys.flatMap (·.2) ∧ ys.length = fs.size ∧
     ∀ (j : Nat) (f : Field), fs[j]? = some f → ∃ (v : Value) (y : DataW H × List MemPlace), w.cell? (a.add (i * fs.size + j)) = some v ∧ ys[j]? = some y ∧ DataW.trod enc P w base spare held n f.type [v] = some y := by
 rcases open_slice ht h with h0 | ⟨a, len, cap, m, n, D, Pl, hcs, hb, hl, hm, hmm, hx, hi⟩
 · exact .inl h0
 · refine .inr ⟨a, len, cap, m, D, Pl, hcs, hb, hl, hm, hmm, by rw [hC] at hx; exact hx, fun i him => ?_⟩
   obtain ⟨cs', hc, ht'⟩ := hi i him
   rw [hC] at hc
   obtain ⟨ys, n', hn', hy, hlen, hyl, hf⟩ := DataW.trod_struct he ht'
   obtain ⟨_, hcl, hat⟩ := World.cells?_some hc
   simp only [Prod.mk.injEq] at hy
   refine ⟨ys, n', hy.1, hy.2, hyl, fun j f hj => ?_⟩
   obtain ⟨ho, hk⟩ := hone_of hone j f hj
   have hjl : j < fs.size := (Array.getElem?_eq_some_iff.1 hj).1
   have hcell := hat j hjl
   have hv : cs'[j]? = some (cs'[j]'(by omega)) := List.getElem?_eq_getElem (by omega)
   have h1 := hf j f hj
   rw [ho, hk] at h1
   have hone' : (cs'.drop j).take 1 = [cs'[j]'(by omega)] := by
    rw [List.drop_eq_getElem_cons (by omega)]
    rfl
   rw [hone'] at h1
   have hys : ys[j]? = some (ys[j]'(by omega)) := List.getElem?_eq_getElem (by omega)
   refine ⟨_, _, ?_, hys, h1.trans hys⟩
   rw [← Go.Deep.add_add, hcell, hv]
theorem open_agg6 {H : Type} {enc : TypeId × Value → H} {P : Program} {w : World} {base : Nat} {spare : Nat → Bool} {held : Bool} {r : Reach} {b0 : Nat} {t : TypeId} {f0 f1 f2 f3 f4 f5 : Field} {v : Value} {d : DataW H} {p : List MemPlace} (hs : P.underlying t = some (.struct #[f0, f1, f2, f3, f4, f5])) (hone : oneCellFields P #[f0, f1, f2, f3, f4, f5] = true) (hC : P.cellsOf t = 6)
 (hv : Value.okWide P w r b0 t v) (h : DataW.Trod enc P w base spare held t v d p) :
 ∃ (v0 v1 v2 v3 v4 v5 : Value) (y0 y1 y2 y3 y4 y5 : DataW H × List MemPlace) (n : Nat), v = .agg #[v0, v1, v2, v3, v4, v5] ∧ d = .agg [y0.1, y1.1, y2.1, y3.1, y4.1, y5.1] ∧ p = y0.2 ++ (y1.2 ++ (y2.2 ++ (y3.2 ++ (y4.2 ++ y5.2)))) ∧
   DataW.trod enc P w base spare held n f0.type [v0] = some y0 ∧ DataW.trod enc P w base spare held n f1.type [v1] = some y1 ∧ DataW.trod enc P w base spare held n f2.type [v2] = some y2 ∧ DataW.trod enc P w base spare held n f3.type [v3] = some y3 ∧ DataW.trod enc P w base spare held n f4.type [v4] = some y4 ∧ DataW.trod enc P w base spare held n f5.type [v5] = some y5 := by
 obtain ⟨cs, rfl, hsz⟩ := okWide_struct hs hv
 obtain ⟨l⟩ := cs
 match l, hsz.trans hC with
 | [c0, c1, c2, c3, c4, c5], _ =>
   obtain ⟨fuel, hf⟩ := h
   obtain ⟨xs, n, _, hx, _, hlen, hg⟩ := DataW.trod_struct hs hf
   obtain ⟨o0, k0⟩ := hone_of hone 0 f0 rfl
   obtain ⟨o1, k1⟩ := hone_of hone 1 f1 rfl
   obtain ⟨o2, k2⟩ := hone_of hone 2 f2 rfl
   obtain ⟨o3, k3⟩ := hone_of hone 3 f3 rfl
   obtain ⟨o4, k4⟩ := hone_of hone 4 f4 rfl
   obtain ⟨o5, k5⟩ := hone_of hone 5 f5 rfl
   match xs, hlen with
   | [y0, y1, y2, y3, y4, y5], _ =>
     simp only [Prod.mk.injEq] at hx
     exact ⟨c0, c1, c2, c3, c4, c5, y0, y1, y2, y3, y4, y5, n, rfl, by simpa using hx.1, by simpa using hx.2, by simpa [Value.cells, o0, k0] using hg 0 f0 rfl, by simpa [Value.cells, o1, k1] using hg 1 f1 rfl, by simpa [Value.cells, o2, k2] using hg 2 f2 rfl, by simpa [Value.cells, o3, k3] using hg 3 f3 rfl, by simpa [Value.cells, o4, k4] using hg 4 f4 rfl, by simpa [Value.cells, o5, k5] using hg 5 f5 rfl⟩
theorem cellsRe : Tryd.prog.cellsOf 39 = 6 := by kernel_rfl
theorem add_at (b o k : Nat) : (⟨b, o, none⟩ : Addr).add k = ⟨b, o + k, none⟩ := by unfold Addr.add; split <;> simp_all
instance : Inhabited RT := ⟨.node 0 ⟨#[]⟩ false 0 0 []⟩
theorem size_part {H : Type} {ys : List (DataW H × List MemPlace)} {j : Nat} {y : DataW H × List MemPlace} (h : ys[j]? = some y) : SizeOf.sizeOf y.1 < SizeOf.sizeOf (DataW.agg (ys.map (·.1))) := by
 have h1 : y.1 ∈ ys.map (·.1) := List.mem_map.2 ⟨y, List.mem_of_getElem? h, rfl⟩
 have h2 := List.sizeOf_lt_of_mem h1
 simp only [DataW.agg.sizeOf_spec]; omega
theorem size_elem {H : Type} {len i : Nat} {D : Nat → DataW H} {sp : List (DataW H)} (h : i < len) : SizeOf.sizeOf (D i) < SizeOf.sizeOf (DataW.slice ((List.range len).map D) sp) := by
 have h1 : D i ∈ (List.range len).map D := List.mem_map.2 ⟨i, List.mem_range.2 h, rfl⟩
 have h2 := List.sizeOf_lt_of_mem h1
 simp only [DataW.slice.sizeOf_spec]; omega
set_option maxRecDepth 100000 in
theorem open_kids {H : Type} {enc : TypeId × Value → H} {W : World} {b : Nat} {hd : Bool} : ∀ (N : Nat) (d : DataW H), SizeOf.sizeOf d ≤ N → ∀ (fuel : Nat) (cv : Value) (p : List MemPlace), DataW.trod enc Tryd.prog W b (fun _ => true) hd fuel 37 [cv] = some (d, p) →
 ∃ (ts : List RT) (a : Option Addr) (cap : Nat), cv = .slice a ts.length cap ∧ Kids 0 W ts a ∧ ts.length ≤ maxLen := by
 intro N
 induction N with
 | zero => intro d hd; cases d <;> simp at hd
 | succ N ih =>
   intro d hN fuel cv p h
   rcases open_slice_fields Tryd.underlying37 Tryd.underlying39 (by kernel_rfl) cellsRe h with ⟨hcs, hx⟩ | ⟨a, len, cap, m, D, Pl, hcs, hb, hl, hm, hmm, hx, hi⟩
   · simp only [List.cons.injEq, and_true] at hcs
     exact ⟨[], none, 0, hcs, Kids.nil _ _ _, by simp⟩
   · simp only [List.cons.injEq, and_true] at hcs
     simp only [if_true] at hmm
     subst hmm
     simp only [Prod.mk.injEq] at hx
     have hone : ∀ i, i < len → ∃ u : RT × Option Addr × Nat, ElemAt 0 W (some a) i u.1 u.2.1 u.2.2 ∧ Kids 0 W u.1.kids u.2.1 := by
        intro i hil
        obtain ⟨ys, n, hD, _, _, hf⟩ := hi i (by omega)
        obtain ⟨v0, y0, c0, g0, t0⟩ := hf 0 _ rfl
        obtain ⟨v1, y1, c1, g1, t1⟩ := hf 1 _ rfl
        obtain ⟨v2, y2, c2, g2, t2⟩ := hf 2 _ rfl
        obtain ⟨v3, y3, c3, g3, t3⟩ := hf 3 _ rfl
        obtain ⟨v4, y4, c4, g4, t4⟩ := hf 4 _ rfl
        obtain ⟨v5, y5, c5, g5, t5⟩ := hf 5 _ rfl
        obtain ⟨k, e0, _, _⟩ := DataW.trod_int Tryd.underlying3 t0
        obtain ⟨s, e1, _, hs⟩ := DataW.trod_string Tryd.underlying9 t1
        obtain ⟨q, e2, _⟩ := DataW.trod_bool Tryd.underlying4 t2
        obtain ⟨lo, e3, _, _⟩ := DataW.trod_int Tryd.underlying3 t3
        obtain ⟨hg, e4, _, _⟩ := DataW.trod_int Tryd.underlying3 t4
        simp only [List.cons.injEq, and_true] at e0 e1 e2 e3 e4
        subst e0 e1 e2 e3 e4
        have hsz : SizeOf.sizeOf y5.1 ≤ N := by
         have h1 := size_part g5
         rw [← hD] at h1
         have h2 := size_elem (D := D) (sp := ((List.range (m - len)).map fun j => D (len + j))) hil
         rw [← hx.1] at h2
         omega
        obtain ⟨ts, a', cap', e5, hk, hml⟩ := ih y5.1 hsz n v5 y5.2 t5
        subst e5
        obtain ⟨_, _, _, _, _, hf0⟩ := hi 0 (by omega)
        obtain ⟨_, _, d0, _, _⟩ := hf0 0 _ rfl
        obtain ⟨bb, oo, spot⟩ := a
        have hspot : spot = none := by simpa [Addr.add] using World.cell?_spot d0
        subst hspot
        have hlt : bb < W.heap.size := by have := World.block_lt_of_cell? W _ c0; rw [add_at] at this; exact this
        rw [add_at] at c0 c1 c2 c3 c4 c5
        refine ⟨(.node k s q lo hg ts, a', cap'), ⟨bb, oo, rfl, Nat.zero_le _, hlt, ?_, ?_, ?_, ?_, ?_, ?_, hs, hml⟩, hk⟩
        · simpa [RT.kind] using c0
        · simpa [RT.set, Nat.add_assoc] using c1
        · simpa [RT.neg, Nat.add_assoc] using c2
        · simpa [RT.low, Nat.add_assoc] using c3
        · simpa [RT.high, Nat.add_assoc] using c4
        · simpa [RT.kids, Nat.add_assoc] using c5
     obtain ⟨f, hf⟩ := choose_lt hone
     refine ⟨(List.range len).map fun i => (f i).1, some a, m, by simpa using hcs, ?_, by simp; omega⟩
     refine .mk _ _ (fun i => (f i).2.1) (fun i => (f i).2.2) (fun i hil => ?_) (fun i hil => ?_)
     · have := (hf i (by simpa using hil)).1
       simpa using this
     · have := (hf i (by simpa using hil)).2
       simpa using this
set_option maxRecDepth 100000 in
theorem open_re {H : Type} {enc : TypeId × Value → H} {W : World} {b : Nat} {hd : Bool} {r : Reach} {b0 : Nat} {v : Value} {d : DataW H} {p : List MemPlace} (hv : Value.okWide Tryd.prog W r b0 39 v) (h : DataW.Trod enc Tryd.prog W b (fun _ => true) hd 39 v d p) :
 ∃ (t : RT) (a : Option Addr) (cap : Nat), v = reV t a cap ∧ Kids 0 W t.kids a ∧ t.set.size ≤ maxLen ∧ t.kids.length ≤ maxLen := by
 obtain ⟨c0, c1, c2, c3, c4, c5, y0, y1, y2, y3, y4, y5, m, rfl, _, _, h0, h1, h2, h3, h4, h5⟩ := open_agg6 (enc := enc) (P := Tryd.prog) (w := W) (base := b) (spare := fun _ => true) (held := hd) (r := r) (b0 := b0) (t := 39) (v := v) (d := d) (p := p) Tryd.underlying39 (by kernel_rfl) cellsRe hv h
 obtain ⟨k, e0, _, _⟩ := DataW.trod_int Tryd.underlying3 h0
 obtain ⟨s, e1, _, hs⟩ := DataW.trod_string Tryd.underlying9 h1
 obtain ⟨q, e2, _⟩ := DataW.trod_bool Tryd.underlying4 h2
 obtain ⟨lo, e3, _, _⟩ := DataW.trod_int Tryd.underlying3 h3
 obtain ⟨hg, e4, _, _⟩ := DataW.trod_int Tryd.underlying3 h4
 obtain ⟨ts, a', cap', e5, hk, hml⟩ := open_kids (SizeOf.sizeOf y5.1) y5.1 (Nat.le_refl _) m c5 y5.2 h5
 simp only [List.cons.injEq, and_true] at e0 e1 e2 e3 e4
 subst e0 e1 e2 e3 e4 e5
 exact ⟨.node k s q lo hg ts, a', cap', rfl, hk, hs, hml⟩
end Go.Proofs.YtppfnaenamcnpaaDoor.kit
namespace Go.Proofs.YtppfnaenamcnpaaDoor.kit
open Go.ChangeShapes Go.WideShapes Go.ChangeAt Go.RowKit
def leftOf (left : Int) (cost : Nat) : Int := if (cost : Int) ≤ left then left - cost else -1
def SzOne (t : RT) : Prop := ∀ (a : Option Addr) (cap : Nat) (left : Int) (w : World), Kids 0 w t.kids a → t.set.size ≤ maxLen → t.kids.length ≤ maxLen → 0 ≤ left → left ≤ 1048576 →
 Calls Tryd.prog 19 #[reV t a cap, .int .i64 left] w fun e w' => e = .returned (.int .i64 (leftOf left (RT.cost t))) ∧ Below w.heap.size w w'
def SzAll (ts : List RT) : Prop := ∀ (a : Option Addr) (cap : Nat) (left : Int) (w : World), Kids 0 w ts a → ts.length ≤ maxLen → 0 ≤ left → left ≤ 1048576 →
 Calls Tryd.prog 45 #[.slice a ts.length cap, .int .i64 left] w fun e w' => e = .returned (.int .i64 (leftOf left (RT.bill ts))) ∧ Below w.heap.size w w'
theorem leftOf_neg {left : Int} {c : Nat} (h : left < c) : leftOf left c = -1 := if_neg (by omega)
theorem leftOf_pos {left : Int} {c : Nat} (h : (c : Int) ≤ left) : leftOf left c = left - c := if_pos h
set_option maxRecDepth 100000 in
set_option maxHeartbeats 400000 in
theorem szOne_of {t : RT} (h : SzAll t.kids) : SzOne t := by
 intro a cap left w hk hs hl h0 h1
 have HK := Lib.hid hk
 have HS := Lib.hid h
 have HC := Lib.hid (RT.cost_eq t)
 clear hk h
 obtain ⟨k, s, n, lo, hi, ts⟩ := t
 unfold reV
 simp only [RT.set, RT.kids, RT.kind, RT.neg, RT.low, RT.high] at *
 have hs0 : (0 : Int) ≤ s.size := by omega
 have hml : maxLen = 9223372036854775807 := rfl
 go_enter Tryd.func19, Tryd.ntmps19
 by_cases c : left < s.size
 · go_wp2_with fail
   go_ret
   exact ⟨ret_int (leftOf_neg (by rw [HC.out]; omega)).symm, (Below.refl _ _).alloc (Nat.le_refl _) _⟩
 · have hb : Below w.heap.size w (w.alloc (.cells #[.int .i64 k, .string s, .bool n, .int .i64 lo, .int .i64 hi, .slice a ts.length cap] 39)) := (Below.refl _ _).alloc (Nat.le_refl _) _
   have HB := Lib.hid hb
   clear hb
   go_wp2_with fail
   refine (HS.out a cap _ _ (HK.out.alloc _) hl (by omega) (by omega)).mono ?_
   rintro e w1 ⟨rfl, hb1⟩
   have HB1 := Lib.hid hb1
   clear hb1
   by_cases c2 : left - s.size < (RT.bill ts : Nat)
   · rw [leftOf_neg c2]
     go_wp2_with fail
     go_ret
     exact ⟨ret_int (leftOf_neg (by rw [HC.out]; omega)).symm, HB.out.trans (HB1.out.mono HB.out.size)⟩
   · have c3 : ¬ (left - s.size - (RT.bill ts : Nat) < 0) := by omega
     rw [leftOf_pos (by omega)]
     go_wp2_with fail
     go_ret
     exact ⟨ret_int (by rw [leftOf_pos (by rw [HC.out]; omega), HC.out]; omega), HB.out.trans (HB1.out.mono HB.out.size)⟩
set_option maxRecDepth 100000 in
set_option maxHeartbeats 400000 in
theorem szAll_of {ts : List RT} (h : ∀ t ∈ ts, SzOne t) : SzAll ts := by
 intro a cap left w hk hl h0 h1
 have HK := Lib.hid hk
 have HS := Lib.hid h
 clear hk h
 have hml : maxLen = 9223372036854775807 := rfl
 go_enter Tryd.func45, Tryd.ntmps45
 by_cases c : left < ts.length
 · go_wp2_with fail
   go_ret
   exact ⟨ret_int (leftOf_neg (by simp only [RT.bill]; omega)).symm, Below.refl _ _⟩
 · go_wp2_with fail
   go_loopw [1, 5] (fun l i wr => ∃ (k : Nat) (m : Int), k ≤ ts.length ∧ i = .int .i64 (k : Int) ∧ l = .int .i64 m ∧ m = left - ts.length - (RT.costs (ts.take k) : Nat) ∧ 0 ≤ m ∧ Below w.heap.size w wr) (fun _ i _ => ts.length - (intOf i).toNat)
   case atStart => exact ⟨0, _, Nat.zero_le _, rfl, rfl, by simp [RT.costs], by omega, Below.refl _ _⟩
   case round =>
    obtain ⟨k, m, hkl, rfl, rfl, hm, hm0, hb⟩ := hrel
    have HB := Lib.hid hb
    have HM := Lib.hid hm
    clear hb
    by_cases hlt : k < ts.length
    · obtain ⟨a', cap', he, hk'⟩ := (HK.out.kept (Nat.le_refl _) HB.out).elem k hlt
      obtain ⟨b, o, rfl, _, hbl, e0, e1, e2, e3, e4, e5, f0, f1⟩ := he
      have HT := Lib.hid (RT.costs_take ts k hlt)
      have HL := Lib.hid (RT.costs_le ts (k + 1))
      have HO := Lib.hid (HS.out ts[k] (List.getElem_mem hlt))
      generalize ts[k] = t at *
      have HK' := Lib.hid hk'
      clear hk'
      have hm2 : m ≤ 1048576 := by omega
      clear hm
      go_wp2_with fail
      refine (HO.out _ _ _ _ HK'.out f0 f1 hm0 hm2).mono ?_
      rintro e w1 ⟨rfl, hb1⟩
      have HB1 := Lib.hid hb1
      clear hb1
      by_cases c2 : m < (RT.cost t : Nat)
      · rw [leftOf_neg c2]
        go_wp2_with fail
        go_ret
        exact ⟨ret_int (leftOf_neg (by have := HM.out; have := HT.out; have := HL.out; simp only [RT.bill]; omega)).symm, HB.out.trans (HB1.out.mono HB.out.size)⟩
      · have c3 : ¬ (m - (RT.cost t : Nat) < 0) := by omega
        rw [leftOf_pos (by omega)]
        go_wp2_with fail
        go_roundw
        case rel => exact ⟨k + 1, _, by omega, by go_num, rfl, by have := HM.out; have := HT.out; omega, by omega, HB.out.trans (HB1.out.mono HB.out.size)⟩
        case measure => simp [intOf]; omega
    · obtain rfl : k = ts.length := by omega
      go_wp2_with fail
      go_ret
      exact ⟨ret_int (by rw [HM.out, leftOf_pos (by have := HM.out; simp only [RT.bill]; rw [List.take_length] at this; omega)]; simp only [RT.bill]; rw [List.take_length]; omega), HB.out⟩
theorem szAll_all : ∀ (N : Nat) (ts : List RT), RT.szs ts ≤ N → SzAll ts := by
 intro N
 induction N with
 | zero => intro ts h; exact szAll_of fun t ht => by have := RT.sz_mem ts t ht; have := RT.sz_pos t; omega
 | succ N ih => intro ts h; exact szAll_of fun t ht => szOne_of (ih _ (by have := RT.sz_mem ts t ht; have := RT.sz_eq t; omega))
theorem szRe_any (t : RT) : SzOne t := szOne_of (szAll_all _ _ (Nat.le_refl _))
end Go.Proofs.YtppfnaenamcnpaaDoor.kit
namespace Go.Proofs.YtppfnaenamcnpaaDoor.kit
open Go.ChangeShapes Go.WideShapes Go.ChangeAt Go.RowKit
def Half (g n k : Nat) (ts : List RT) (w : World) : Prop := g < w.heap.size ∧ (∀ j, j < n * 6 → (w.cell? ⟨g, j, none⟩).isSome = true ∧ w.frozen? ⟨g, j, none⟩ = false) ∧
 ∀ i (hi : i < ts.length), i < k → ∃ a' cap', ElemAt g w (some ⟨g, 0, none⟩) i ts[i] a' cap' ∧ Kids (g + 1) w ts[i].kids a'
theorem Half.kept {g n k : Nat} {ts : List RT} {w w' : World} (h : Half g n k ts w) (hb : Below w.heap.size w w') : Half g n k ts w' := by
 obtain ⟨h0, h1, h2⟩ := h
 refine ⟨Nat.lt_of_lt_of_le h0 hb.size, fun j hj => ?_, fun i hi hk => ?_⟩
 · rw [hb.cell (p := ⟨g, j, none⟩) h0, hb.frozen (p := ⟨g, j, none⟩) h0]; exact h1 j hj
 · obtain ⟨a', cap', e, kk⟩ := h2 i hi hk
   exact ⟨a', cap', e.of hb.size fun b o _ hl => hb.cell (p := ⟨b, o, none⟩) hl, kk.kept (Nat.le_refl _) hb⟩
theorem Half.all {g k : Nat} {ts : List RT} {w : World} (h : Half g k k ts w) (hk : k = ts.length) : Kids g w ts (some ⟨g, 0, none⟩) := by
 obtain ⟨h0, h1, h2⟩ := h
 subst hk
 have h3 : ∀ i, i < ts.length → ∃ x : Option Addr × Nat, ∀ (hi : i < ts.length), ElemAt g w (some ⟨g, 0, none⟩) i ts[i] x.1 x.2 ∧ Kids (g + 1) w ts[i].kids x.1 := by
  intro i hi
  obtain ⟨a', cap', e⟩ := h2 i hi hi
  exact ⟨(a', cap'), fun _ => e⟩
 obtain ⟨f, hf⟩ := Go.Deep.choose_lt h3
 exact .mk _ _ (fun i => (f i).1) (fun i => (f i).2) (fun i hi => (hf i hi hi).1) (fun i hi => ((hf i hi hi).2).mono (by omega))
theorem set_same (w : World) (g j : Nat) (v : Value) (h : (w.cell? ⟨g, j, none⟩).isSome = true) : (w.setCell ⟨g, j, none⟩ v).cell? ⟨g, j, none⟩ = some v := by
 obtain ⟨u, hu⟩ := Option.isSome_iff_exists.1 h
 exact World.cell?_setCell_same w _ _ hu
theorem set_off (w : World) (g j j' : Nat) (v : Value) (h : j ≠ j') : (w.setCell ⟨g, j, none⟩ v).cell? ⟨g, j', none⟩ = w.cell? ⟨g, j', none⟩ :=
 World.cell?_setCell_other w _ _ _ (by intro x; injection x; omega)
def set6 (w : World) (g o : Nat) (t : RT) (a : Option Addr) (cap : Nat) : World :=
 (((((w.setCell ⟨g, o, none⟩ (.int .i64 t.kind)).setCell ⟨g, o + 1, none⟩ (.string t.set)).setCell ⟨g, o + 2, none⟩ (.bool t.neg)).setCell ⟨g, o + 3, none⟩ (.int .i64 t.low)).setCell ⟨g, o + 4, none⟩ (.int .i64 t.high)).setCell ⟨g, o + 5, none⟩ (.slice a t.kids.length cap)
theorem set6_off (w : World) (g o : Nat) (t : RT) (a : Option Addr) (cap b j : Nat) (h : b ≠ g ∨ j < o ∨ o + 6 ≤ j) : (set6 w g o t a cap).cell? ⟨b, j, none⟩ = w.cell? ⟨b, j, none⟩ := by
 unfold set6
 rw [World.cell?_setCell_other, World.cell?_setCell_other, World.cell?_setCell_other, World.cell?_setCell_other, World.cell?_setCell_other, World.cell?_setCell_other] <;> (intro x; injection x; omega)
theorem set6_size (w : World) (g o : Nat) (t : RT) (a : Option Addr) (cap : Nat) : (set6 w g o t a cap).heap.size = w.heap.size := by simp [set6]
theorem set6_frozen (w : World) (g o : Nat) (t : RT) (a : Option Addr) (cap : Nat) (p : Addr) : (set6 w g o t a cap).frozen? p = w.frozen? p := by simp [set6, World.frozen?_setCell]
theorem set6_below {B : Nat} {w w' : World} (h : Below B w w') (g o : Nat) (t : RT) (a : Option Addr) (cap : Nat) (hg : B ≤ g) : Below B w (set6 w' g o t a cap) :=
 (((((h.setCell (p := ⟨g, o, none⟩) hg _).setCell (p := ⟨g, o + 1, none⟩) hg _).setCell (p := ⟨g, o + 2, none⟩) hg _).setCell (p := ⟨g, o + 3, none⟩) hg _).setCell (p := ⟨g, o + 4, none⟩) hg _).setCell (p := ⟨g, o + 5, none⟩) hg _
theorem set6_at (w : World) (g o : Nat) (t : RT) (a : Option Addr) (cap : Nat) (h : ∀ j, j < 6 → (w.cell? ⟨g, o + j, none⟩).isSome = true) :
 (set6 w g o t a cap).cell? ⟨g, o, none⟩ = some (.int .i64 t.kind) ∧ (set6 w g o t a cap).cell? ⟨g, o + 1, none⟩ = some (.string t.set) ∧ (set6 w g o t a cap).cell? ⟨g, o + 2, none⟩ = some (.bool t.neg) ∧
 (set6 w g o t a cap).cell? ⟨g, o + 3, none⟩ = some (.int .i64 t.low) ∧ (set6 w g o t a cap).cell? ⟨g, o + 4, none⟩ = some (.int .i64 t.high) ∧ (set6 w g o t a cap).cell? ⟨g, o + 5, none⟩ = some (.slice a t.kids.length cap) := by
 have h0 := h 0 (by omega)
 have h1 := h 1 (by omega)
 have h2 := h 2 (by omega)
 have h3 := h 3 (by omega)
 have h4 := h 4 (by omega)
 have h5 := h 5 (by omega)
 simp only [Nat.add_zero] at h0
 unfold set6
 refine ⟨?_, ?_, ?_, ?_, ?_, ?_⟩
 · rw [set_off _ _ _ _ _ (by omega), set_off _ _ _ _ _ (by omega), set_off _ _ _ _ _ (by omega), set_off _ _ _ _ _ (by omega), set_off _ _ _ _ _ (by omega), set_same _ _ _ _ h0]
 · rw [set_off _ _ _ _ _ (by omega), set_off _ _ _ _ _ (by omega), set_off _ _ _ _ _ (by omega), set_off _ _ _ _ _ (by omega)]
   exact set_same _ _ _ _ (by rw [set_off _ _ _ _ _ (by omega)]; exact h1)
 · rw [set_off _ _ _ _ _ (by omega), set_off _ _ _ _ _ (by omega), set_off _ _ _ _ _ (by omega)]
   exact set_same _ _ _ _ (by rw [set_off _ _ _ _ _ (by omega), set_off _ _ _ _ _ (by omega)]; exact h2)
 · rw [set_off _ _ _ _ _ (by omega), set_off _ _ _ _ _ (by omega)]
   exact set_same _ _ _ _ (by rw [set_off _ _ _ _ _ (by omega), set_off _ _ _ _ _ (by omega), set_off _ _ _ _ _ (by omega)]; exact h3)
 · rw [set_off _ _ _ _ _ (by omega)]
   exact set_same _ _ _ _ (by rw [set_off _ _ _ _ _ (by omega), set_off _ _ _ _ _ (by omega), set_off _ _ _ _ _ (by omega), set_off _ _ _ _ _ (by omega)]; exact h4)
 · exact set_same _ _ _ _ (by rw [set_off _ _ _ _ _ (by omega), set_off _ _ _ _ _ (by omega), set_off _ _ _ _ _ (by omega), set_off _ _ _ _ _ (by omega), set_off _ _ _ _ _ (by omega)]; exact h5)
theorem set6_some (w : World) (g o : Nat) (t : RT) (a : Option Addr) (cap j : Nat) (h : ∀ j, j < 6 → (w.cell? ⟨g, o + j, none⟩).isSome = true) (hj : (w.cell? ⟨g, j, none⟩).isSome = true) : ((set6 w g o t a cap).cell? ⟨g, j, none⟩).isSome = true := by
 by_cases c : j < o ∨ o + 6 ≤ j
 · rw [set6_off _ _ _ _ _ _ _ _ (.inr c)]; exact hj
 · obtain ⟨q0, q1, q2, q3, q4, q5⟩ := set6_at w g o t a cap h
   obtain ⟨d, rfl⟩ : ∃ d, j = o + d := ⟨j - o, by omega⟩
   match d, (show d < 6 by omega) with
   | 0, _ => simp [q0]
   | 1, _ => simp [q1]
   | 2, _ => simp [q2]
   | 3, _ => simp [q3]
   | 4, _ => simp [q4]
   | 5, _ => simp [q5]
theorem Half.store {g n k : Nat} {ts : List RT} {w : World} (h : Half g n k ts w) (hk : k < ts.length) (hn : ts.length = n) (a : Option Addr) (cap : Nat) (hK : Kids (g + 1) w ts[k].kids a) (f0 : ts[k].set.size ≤ maxLen) (f1 : ts[k].kids.length ≤ maxLen) :
 Half g n (k + 1) ts (set6 w g (k * 6) ts[k] a cap) := by
 obtain ⟨h0, h1, h2⟩ := h
 have hs : ∀ j, j < 6 → (w.cell? ⟨g, k * 6 + j, none⟩).isSome = true := fun j hj => (h1 (k * 6 + j) (by omega)).1
 have hz := set6_size w g (k * 6) ts[k] a cap
 refine ⟨by rw [hz]; exact h0, fun j hj => ⟨set6_some _ _ _ _ _ _ _ hs (h1 j hj).1, by rw [set6_frozen]; exact (h1 j hj).2⟩, fun i hi hik => ?_⟩
 by_cases c : i = k
 · subst c
   obtain ⟨q0, q1, q2, q3, q4, q5⟩ := set6_at w g (i * 6) ts[i] a cap hs
   refine ⟨a, cap, ⟨g, 0, rfl, Nat.le_refl _, by rw [hz]; exact h0, by simpa using q0, by simpa using q1, by simpa using q2, by simpa using q3, by simpa using q4, by simpa using q5, f0, f1⟩, ?_⟩
   exact hK.of (by rw [hz]; exact Nat.le_refl _) fun b o hb _ => set6_off _ _ _ _ _ _ _ _ (.inl (by omega))
 · obtain ⟨a', cap', ⟨b, o, e, e0, e1, c0, c1, c2, c3, c4, c5, g0, g1⟩, kk⟩ := h2 i hi (by omega)
   cases e
   have hq : ∀ d, d < 6 → (set6 w g (k * 6) ts[k] a cap).cell? ⟨g, 0 + i * 6 + d, none⟩ = w.cell? ⟨g, 0 + i * 6 + d, none⟩ := fun d hd => set6_off _ _ _ _ _ _ _ _ (.inr (by omega))
   refine ⟨a', cap', ⟨g, 0, rfl, e0, by rw [hz]; exact e1, (hq 0 (by omega)).trans c0, (hq 1 (by omega)).trans c1, (hq 2 (by omega)).trans c2, (hq 3 (by omega)).trans c3, (hq 4 (by omega)).trans c4, (hq 5 (by omega)).trans c5, g0, g1⟩, ?_⟩
   exact kk.of (by rw [hz]; exact Nat.le_refl _) fun b o hb _ => set6_off _ _ _ _ _ _ _ _ (.inl (by omega))
end Go.Proofs.YtppfnaenamcnpaaDoor.kit
namespace Go.Proofs.YtppfnaenamcnpaaDoor.kit
open Go.ChangeShapes Go.WideShapes Go.ChangeAt Go.RowKit
theorem infoRe : (Tryd.prog.info? 26).map (fun i => (i.zero, i.size, i.bytes)) = some (some (.agg #[.int .i64 0, .string ⟨#[]⟩, .bool false, .int .i64 0, .int .i64 0, .slice none 0 0]), 6, 72) := by kernel_rfl
theorem Half.start {w : World} {n : Nat} {cs : Array Value} {e : TypeId} (hcs : cs.size = n * 6) (ts : List RT) : Half w.heap.size n 0 ts (w.alloc (.cells cs e)) := by
 refine ⟨by simp, fun j hj => ⟨?_, ?_⟩, fun i hi hk => by omega⟩
 · rw [World.cell?_alloc_at _ _ _ _ rfl]
   simp [show j < cs.size by omega]
 · have hb : (w.alloc (.cells cs e)).heap[w.heap.size]? = some (.cells cs e) := heap_alloc_new w _
   simp only [World.frozen?, hb]
   simp
end Go.Proofs.YtppfnaenamcnpaaDoor.kit
