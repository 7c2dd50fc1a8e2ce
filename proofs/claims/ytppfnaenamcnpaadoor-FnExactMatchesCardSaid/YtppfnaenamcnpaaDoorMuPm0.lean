/-
  Plain facts on trees of expressions that are marked: what marks they bear, and how a row of them that lies in a block of its own turns when one of its cells does. Conditions: each theorem names its own.
-/
import Derived.Test.YtppfnaenamcnpaaDoorMuPr2
import Derived.Test.YtppfnaenamcnpaaDoorMuRe5
import Derived.Test.YtppfnaenamcnpaaDoorMuMark
set_option linter.unusedVariables false
set_option linter.unusedSimpArgs false
open Go.ChangeShapes Go.WideShapes Go.ChangeAt Go.RowKit
namespace Go.Proofs.YtppfnaenamcnpaaDoor.kit
namespace RT
mutual
def mkd : RT → Nat → RT
 | node _ _ _ _ _ ts, m => node m ⟨(mt (m + 1)).toArray⟩ (((m : Int) + 2) % 3 == 0) ((m : Int) + 3) ((m : Int) + 4) (mks ts (m + 5))
def mks : List RT → Nat → List RT
 | [], _ => []
 | t :: ts, m => mkd t m :: mks ts (m + 5 * sz t)
end
theorem mkd_eq (t : RT) (m : Nat) : mkd t m = node m ⟨(mt (m + 1)).toArray⟩ (((m : Int) + 2) % 3 == 0) ((m : Int) + 3) ((m : Int) + 4) (mks t.kids (m + 5)) := by cases t; rw [mkd]; rfl
theorem mks_len : ∀ (ts : List RT) (m : Nat), (mks ts m).length = ts.length
 | [], m => by simp [mks]
 | t :: ts, m => by simp [mks, mks_len ts]
theorem mks_at : ∀ (ts : List RT) (m k : Nat) (h : k < ts.length), (mks ts m)[k]? = some (mkd ts[k] (m + 5 * szs (ts.take k)))
 | [], m, k, h => by simp at h
 | t :: ts, m, 0, h => by simp [mks, szs]
 | t :: ts, m, k + 1, h => by
   have := mks_at ts (m + 5 * sz t) k (by simpa using h)
   simp only [mks, List.getElem?_cons_succ, this, List.getElem_cons_succ, List.take_succ_cons, szs]
   rw [show m + 5 * sz t + 5 * szs (ts.take k) = m + 5 * (sz t + szs (ts.take k)) by omega]
theorem szs_take (ts : List RT) (i : Nat) (h : i < ts.length) : szs (ts.take (i + 1)) = szs (ts.take i) + sz ts[i] := by
 induction ts generalizing i with
 | nil => simp at h
 | cons t ts ih =>
   cases i with
   | zero => simp [szs]
   | succ i => simp only [List.take_succ_cons, szs, List.getElem_cons_succ, ih i (by simpa using h)]; omega
theorem szs_le (ts : List RT) (i : Nat) : szs (ts.take i) ≤ szs ts := by
 induction ts generalizing i with
 | nil => simp [szs]
 | cons t ts ih => cases i with
   | zero => simp [szs]
   | succ i => simp only [List.take_succ_cons, szs]; have := ih i; omega
def half (ts : List RT) (m k : Nat) : List RT := (mks ts m).take k ++ ts.drop k
theorem half_zero (ts : List RT) (m : Nat) : half ts m 0 = ts := by simp [half]
theorem half_all (ts : List RT) (m : Nat) : half ts m ts.length = mks ts m := by
 unfold half; rw [List.take_of_length_le (by rw [mks_len]; omega), List.drop_length, List.append_nil]
theorem half_len (ts : List RT) (m k : Nat) (h : k ≤ ts.length) : (half ts m k).length = ts.length := by
 unfold half; rw [List.length_append, List.length_take, mks_len, List.length_drop]; omega
theorem half_at (ts : List RT) (m k : Nat) (h : k < ts.length) : (half ts m k)[k]? = some ts[k] := by
 unfold half
 have hl : ((mks ts m).take k).length = k := by rw [List.length_take, mks_len]; omega
 rw [List.getElem?_append_right (by omega), hl, Nat.sub_self, List.getElem?_drop, Nat.add_zero, List.getElem?_eq_getElem h]
theorem half_step (ts : List RT) (m k : Nat) (h : k < ts.length) : (half ts m k).set k (mkd ts[k] (m + 5 * szs (ts.take k))) = half ts m (k + 1) := by
 unfold half
 have hl : ((mks ts m).take k).length = k := by rw [List.length_take, mks_len]; omega
 rw [List.set_append_right _ _ (by omega), hl, Nat.sub_self, List.drop_eq_getElem_cons h, List.set_cons_zero]
 have h1 : k < (mks ts m).length := by rw [mks_len]; exact h
 have h2 := mks_at ts m k h
 rw [List.getElem?_eq_getElem h1] at h2
 injection h2 with h2
 rw [← h2, List.take_succ_eq_append_getElem h1, List.append_assoc]; rfl
end RT
theorem mt_len (n : Nat) (h : n ≤ 100000000) : (mt n).length ≤ 21 := by
 have := @front_len n 0 (Lib.decDigits n) (by omega) (by rw [front, if_pos rfl]; rfl)
 unfold mt; simp only [List.length_cons]; omega
theorem mt_size (n : Nat) (h : n ≤ 100000000) : (ByteArray.mk (mt n).toArray).size ≤ 256 := by
 have := mt_len n h
 show (mt n).toArray.size ≤ 256
 simp; omega
structure KB (w : World) (b : Nat) (rs : List RV) : Prop where
 row : ∃ cs e, w.heap[b]? = some (.cells cs e (0, 0)) ∧ cs.toList = rvVals rs
 nice : ∀ r ∈ rs, Nice r.t
 kf : ∀ r ∈ rs, KF w r.t.kids r.a r.F
 off : ∀ r ∈ rs, b ∉ r.F
 apart : rs.Pairwise apartF
theorem KB.close {w : World} {b : Nat} {rs : List RV} (h : KB w b rs) : KF w (rs.map RV.t) (some ⟨b, 0, none⟩) (b :: rs.flatMap RV.F) := by
 obtain ⟨⟨cs, e, h1, h2⟩, h3, h4, h5, h6⟩ := h
 exact .mk b rs cs e h1 h2 h3 h4 h5 h6
theorem KF.opened {w : World} {ts : List RT} {a : Option Addr} {F : List Nat} (h : KF w ts a F) (hpos : 0 < ts.length) : ∃ b rs, ts = rs.map RV.t ∧ a = some ⟨b, 0, none⟩ ∧ F = b :: rs.flatMap RV.F ∧ KB w b rs := by
 cases h with
 | nil a => simp at hpos
 | mk b rs cs e hb hc hn hk hf hp => exact ⟨b, rs, rfl, rfl, rfl, ⟨⟨cs, e, hb, hc⟩, hn, hk, hf, hp⟩⟩
theorem KB.lt {w : World} {b : Nat} {rs : List RV} (h : KB w b rs) : b < w.heap.size := by
 obtain ⟨cs, e, h1, h2⟩ := h.row
 exact (Array.getElem?_eq_some_iff.1 h1).1
theorem KB.cell {w : World} {b : Nat} {rs : List RV} (h : KB w b rs) (k d : Nat) (hk : k < rs.length) (hd : d < 6) : w.cell? ⟨b, k * 6 + d, none⟩ = (rs.getD k default).cells[d]? := by
 obtain ⟨cs, e, h1, h2⟩ := h.row
 rw [cell_of_row w b _ cs e (0, 0) h1, ← rvVals_at rs k d hk hd, ← h2, Array.getElem?_toList]
theorem KB.frozen {w : World} {b : Nat} {rs : List RV} (h : KB w b rs) (j : Nat) : w.frozen? ⟨b, j, none⟩ = false := by
 obtain ⟨cs, e, h1, h2⟩ := h.row
 simp only [World.frozen?, h1]; rfl
theorem KB.kept {w w' : World} {b : Nat} {rs : List RV} (h : KB w b rs) (hb : Below w.heap.size w w') : KB w' b rs := by
 have hl := h.lt
 obtain ⟨⟨cs, e, h1, h2⟩, h3, h4, h5, h6⟩ := h
 exact ⟨⟨cs, e, (hb.block b hl).trans h1, h2⟩, h3, fun r hr => (h4 r hr).kept hb, h5, h6⟩
theorem getD_mem {rs : List RV} {k : Nat} (h : k < rs.length) : rs.getD k default ∈ rs := by
 rw [List.getD_eq_getElem?_getD, List.getElem?_eq_getElem h]; exact List.getElem_mem h
theorem rvVals_set (rs : List RV) (k d : Nat) (hk : k < rs.length) (hd : d < 6) (v : Value) (r' : RV) (hC : r'.cells = (rs.getD k default).cells.set d v) : (rvVals rs).set (k * 6 + d) v = rvVals (rs.set k r') := by
 induction rs generalizing k with
 | nil => simp at hk
 | cons t ts ih =>
   have hc : t.cells.length = 6 := rfl
   show (t.cells ++ rvVals ts).set (k * 6 + d) v = _
   cases k with
   | zero =>
     rw [List.set_append_left _ _ (by omega), Nat.zero_mul, Nat.zero_add, List.set_cons_zero]
     show _ = r'.cells ++ rvVals ts
     rw [hC]; rfl
   | succ k =>
     rw [List.set_append_right _ _ (by omega), hc, show (k + 1) * 6 + d - 6 = k * 6 + d by omega, ih k (by simpa using hk) (by simpa using hC), List.set_cons_succ]; rfl
theorem set_F (rs : List RV) (k : Nat) (hk : k < rs.length) (r' : RV) (hF : r'.F = (rs.getD k default).F) : (rs.set k r').map RV.F = rs.map RV.F := by
 rw [List.map_set, hF]
 apply List.ext_getElem?
 intro j
 rw [List.getElem?_set]
 split
 · rename_i e; subst e
   rw [if_pos (by simpa using hk), List.getElem?_map, List.getElem?_eq_getElem hk, List.getD_eq_getElem?_getD, List.getElem?_eq_getElem hk]; rfl
 · rfl
theorem set_flat (rs : List RV) (k : Nat) (hk : k < rs.length) (r' : RV) (hF : r'.F = (rs.getD k default).F) : (rs.set k r').flatMap RV.F = rs.flatMap RV.F := by
 rw [List.flatMap_def, List.flatMap_def, set_F rs k hk r' hF]
theorem set_apart (rs : List RV) (k : Nat) (hk : k < rs.length) (r' : RV) (hF : r'.F = (rs.getD k default).F) (h : rs.Pairwise apartF) : (rs.set k r').Pairwise apartF := by
 have h1 : (rs.map RV.F).Pairwise (fun F F' => ∀ x ∈ F, x ∉ F') := List.pairwise_map.2 h
 rw [← set_F rs k hk r' hF] at h1
 exact (List.pairwise_map (f := RV.F) (R := fun F F' => ∀ x ∈ F, x ∉ F')).1 h1
theorem KB.put {w : World} {b : Nat} {rs : List RV} (h : KB w b rs) (k d : Nat) (hk : k < rs.length) (hd : d < 6) (v : Value) (r' : RV) (hF : r'.F = (rs.getD k default).F) (hK : r'.t.kids = (rs.getD k default).t.kids) (ha : r'.a = (rs.getD k default).a) (hN : Nice r'.t) (hC : r'.cells = (rs.getD k default).cells.set d v) :
 KB (w.setCell ⟨b, k * 6 + d, none⟩ v) b (rs.set k r') := by
 obtain ⟨⟨cs, e, h1, h2⟩, h3, h4, h5, h6⟩ := h
 have hmem : ∀ r ∈ rs.set k r', r ∈ rs ∨ r = r' := fun r hr => List.mem_or_eq_of_mem_set hr
 have hg := getD_mem hk
 refine ⟨⟨cs.setIfInBounds (k * 6 + d) v, e, ?_, ?_⟩, ?_, ?_, ?_, set_apart rs k hk r' hF h6⟩
 · simp [World.setCell, Array.getElem?_modify, h1]
 · rw [Array.toList_setIfInBounds, h2, rvVals_set rs k d hk hd v r' hC]
 · intro r hr
   rcases hmem r hr with hr | rfl
   · exact h3 r hr
   · exact hN
 · have key : ∀ r ∈ rs, KF (w.setCell ⟨b, k * 6 + d, none⟩ v) r.t.kids r.a r.F := fun r hr => (h4 r hr).of fun x hx => Below.heap_setCell w ⟨b, k * 6 + d, none⟩ v x (fun q => h5 r hr (by rw [← show x = b from q]; exact hx))
   intro r hr
   rcases hmem r hr with hr | rfl
   · exact key r hr
   · rw [hK, ha, hF]; exact key _ hg
 · intro r hr
   rcases hmem r hr with hr | rfl
   · exact h5 r hr
   · rw [hF]; exact h5 _ hg
structure OnlyF (F : List Nat) (w w' : World) : Prop where
 os : w'.os = w.os
 tape : w'.tape = w.tape
 output : w'.output = w.output
 size : w.heap.size ≤ w'.heap.size
 block : ∀ k, k < w.heap.size → k ∉ F → w'.heap[k]? = w.heap[k]?
theorem OnlyF.refl (F : List Nat) (w : World) : OnlyF F w w := ⟨rfl, rfl, rfl, Nat.le_refl _, fun _ _ _ => rfl⟩
theorem OnlyF.trans {F : List Nat} {x y z : World} (h : OnlyF F x y) (k : OnlyF F y z) : OnlyF F x z :=
 ⟨k.os.trans h.os, k.tape.trans h.tape, k.output.trans h.output, Nat.le_trans h.size k.size, fun j hj hn => (k.block j (Nat.lt_of_lt_of_le hj h.size) hn).trans (h.block j hj hn)⟩
theorem OnlyF.of_below {F : List Nat} {w w' : World} (h : Below w.heap.size w w') : OnlyF F w w' := ⟨h.os, h.tape, h.output, h.size, fun k hk _ => h.block k hk⟩
theorem OnlyF.mono {F G : List Nat} {w w' : World} (h : OnlyF F w w') (hs : ∀ x ∈ F, x ∈ G) : OnlyF G w w' := ⟨h.os, h.tape, h.output, h.size, fun k hk hn => h.block k hk fun x => hn (hs k x)⟩
theorem OnlyF.set {F : List Nat} {w w' : World} (h : OnlyF F w w') (b o : Nat) (hb : b ∈ F) (v : Value) : OnlyF F w (w'.setCell ⟨b, o, none⟩ v) :=
 h.trans ⟨rfl, rfl, rfl, by simp, fun j _ hn => Below.heap_setCell _ _ _ j (fun e => hn (by rw [show j = b from e]; exact hb))⟩
theorem OnlyF.below {F : List Nat} {w w' : World} (h : OnlyF F w w') {B : Nat} (hF : ∀ x ∈ F, B ≤ x) (hB : B ≤ w.heap.size) : Below B w w' :=
 ⟨h.os, h.tape, h.output, h.size, fun k hk => h.block k (by omega) fun x => by have := hF k x; omega⟩
theorem KB.sub {w w' : World} {b : Nat} {rs : List RV} (h : KB w b rs) (k : Nat) (hk : k < rs.length) (ks : List RT) (hl : ks.length = (rs.getD k default).t.kids.length) (ho : OnlyF (rs.getD k default).F w w') (hf : KF w' ks (rs.getD k default).a (rs.getD k default).F)
 (r' : RV) (hr : r' = { rs.getD k default with t := .node (rs.getD k default).t.kind (rs.getD k default).t.set (rs.getD k default).t.neg (rs.getD k default).t.low (rs.getD k default).t.high ks }) : KB w' b (rs.set k r') := by
 have hlt := h.lt
 have hg := getD_mem hk
 obtain ⟨⟨cs, e, h1, h2⟩, h3, h4, h5, h6⟩ := h
 have hF : r'.F = (rs.getD k default).F := by rw [hr]
 have hmem : ∀ r ∈ rs.set k r', r ∈ rs ∨ r = r' := fun r hr => List.mem_or_eq_of_mem_set hr
 refine ⟨⟨cs, e, (ho.block b hlt (h5 _ hg)).trans h1, ?_⟩, ?_, ?_, ?_, set_apart rs k hk r' hF h6⟩
 · rw [h2]
   have hc : r'.cells = (rs.getD k default).cells.set 5 (.slice (rs.getD k default).a (rs.getD k default).t.kids.length (rs.getD k default).c) := by
    rw [hr]; simp only [RV.cells, RT.kind, RT.set, RT.neg, RT.low, RT.high, RT.kids, hl]; rfl
   rw [← rvVals_set rs k 5 hk (by omega) _ r' hc]
   have := rvVals_at rs k 5 hk (by omega)
   rw [show (rs.getD k default).cells[5]? = some (.slice (rs.getD k default).a (rs.getD k default).t.kids.length (rs.getD k default).c) from rfl] at this
   obtain ⟨q1, q2⟩ := List.getElem?_eq_some_iff.1 this
   rw [← q2, List.set_getElem_self]
 · intro r hr'
   rcases hmem r hr' with hr' | rfl
   · exact h3 r hr'
   · rw [hr]; have := h3 _ hg; exact ⟨this.1, by show ks.length ≤ 1048576; rw [hl]; exact this.2⟩
 · intro r hr'
   obtain ⟨j, hj, hjr⟩ := List.mem_iff_getElem.1 hr'
   rw [List.length_set] at hj
   by_cases e : j = k
   · subst e
     rw [List.getElem_set_self] at hjr
     subst hjr
     rw [hr]; exact hf
   · rw [List.getElem_set_ne (Ne.symm e)] at hjr
     subst hjr
     refine (h4 _ (List.getElem_mem hj)).of fun x hx => ho.block x ((h4 _ (List.getElem_mem hj)).lt x hx) fun hx2 => ?_
     have hgk : rs.getD k default = rs[k] := by rw [List.getD_eq_getElem?_getD, List.getElem?_eq_getElem hk]; rfl
     rw [hgk] at hx2
     have hp := List.pairwise_iff_getElem.1 h6
     rcases Nat.lt_or_gt_of_ne e with q | q
     · exact hp j k hj hk q x hx hx2
     · exact hp k j hk hj q x hx2 hx
 · intro r hr'
   rcases hmem r hr' with hr' | rfl
   · exact h5 r hr'
   · rw [hF]; exact h5 _ hg
theorem getD_set {rs : List RV} {k : Nat} (h : k < rs.length) (r : RV) : (rs.set k r).getD k default = r := by
 rw [List.getD_eq_getElem?_getD, List.getElem?_set_self h]; rfl
theorem set_getD {rs : List RV} {k : Nat} (h : k < rs.length) : rs.set k (rs.getD k default) = rs := by
 rw [List.getD_eq_getElem?_getD, List.getElem?_eq_getElem h]; simp
theorem KB.put1 {w : World} {b : Nat} {rs : List RV} {k : Nat} {r : RV} (h : KB w b (rs.set k r)) (hk : k < rs.length) (d : Nat) (hd : d < 6) (v : Value) (t' : RT) (hK : t'.kids = r.t.kids) (hN : Nice t') (hC : (⟨t', r.a, r.c, r.F⟩ : RV).cells = r.cells.set d v) :
 KB (w.setCell ⟨b, k * 6 + d, none⟩ v) b (rs.set k ⟨t', r.a, r.c, r.F⟩) := by
 have hk2 : k < (rs.set k r).length := by rw [List.length_set]; exact hk
 have := h.put k d hk2 hd v ⟨t', r.a, r.c, r.F⟩ (by rw [getD_set hk]) (by rw [getD_set hk]; exact hK) (by rw [getD_set hk]) hN (by rw [getD_set hk]; exact hC)
 rw [List.set_set] at this
 exact this
theorem KB.cell1 {w : World} {b : Nat} {rs : List RV} {k : Nat} {r : RV} (h : KB w b (rs.set k r)) (hk : k < rs.length) (d : Nat) (hd : d < 6) : w.cell? ⟨b, k * 6 + d, none⟩ = r.cells[d]? := by
 rw [h.cell k d (by rw [List.length_set]; exact hk) hd, getD_set hk]
theorem KB.kf1 {w : World} {b : Nat} {rs : List RV} {k : Nat} {r : RV} (h : KB w b (rs.set k r)) (hk : k < rs.length) : KF w r.t.kids r.a r.F := h.kf r (List.mem_iff_getElem.2 ⟨k, by rw [List.length_set]; exact hk, by rw [List.getElem_set_self]⟩)
theorem KB.nice1 {w : World} {b : Nat} {rs : List RV} {k : Nat} {r : RV} (h : KB w b (rs.set k r)) (hk : k < rs.length) : Nice r.t := h.nice r (List.mem_iff_getElem.2 ⟨k, by rw [List.length_set]; exact hk, by rw [List.getElem_set_self]⟩)
theorem KB.sub1 {w w' : World} {b : Nat} {rs : List RV} {k : Nat} {r : RV} (h : KB w b (rs.set k r)) (hk : k < rs.length) (ks : List RT) (hl : ks.length = r.t.kids.length) (ho : OnlyF r.F w w') (hf : KF w' ks r.a r.F) :
 KB w' b (rs.set k ⟨.node r.t.kind r.t.set r.t.neg r.t.low r.t.high ks, r.a, r.c, r.F⟩) := by
 have hk2 : k < (rs.set k r).length := by rw [List.length_set]; exact hk
 have := h.sub k hk2 ks (by rw [getD_set hk]; exact hl) (by rw [getD_set hk]; exact ho) (by rw [getD_set hk]; exact hf) _ rfl
 rw [List.set_set, getD_set hk] at this
 exact this
def MkAll (ts : List RT) : Prop := ∀ (a : Option Addr) (cap : Nat) (F : List Nat) (m : Nat) (w : World), KF w ts a F → 0 < m → m + 5 * RT.szs ts ≤ 10000000 →
 Calls Tryd.prog 50 #[.slice a ts.length cap, .int .i64 (m : Int)] w fun e w' => e = .returned (.int .i64 ((m + 5 * RT.szs ts : Nat) : Int)) ∧ KF w' (RT.mks ts m) a F ∧ OnlyF F w w'
theorem szs_len : ∀ (ts : List RT), ts.length ≤ RT.szs ts
 | [] => Nat.zero_le _
 | t :: ts => by have := szs_len ts; have := RT.sz_pos t; simp only [RT.szs, List.length_cons]; omega
set_option maxRecDepth 100000 in
set_option maxHeartbeats 2000000 in
theorem mkAll_of {ts : List RT} (h : ∀ t ∈ ts, MkAll t.kids) : MkAll ts := by
 intro a cap F m w hk hm0 hm
 have HK := Lib.hid hk
 have HS := Lib.hid h
 clear hk h
 have hln := szs_len ts
 go_enter Tryd.func50, Tryd.ntmps50
 go_wp2
 go_loopw [1, 5] (fun q i wr => ∃ (k M : Nat), k ≤ ts.length ∧ i = .int .i64 (k : Int) ∧ M = m + 5 * RT.szs (ts.take k) ∧ q = .int .i64 (M : Int) ∧ KF wr (RT.half ts m k) a F ∧ OnlyF F w wr) (fun _ i _ => ts.length - (intOf i).toNat)
 case atStart => exact ⟨0, m, Nat.zero_le _, rfl, by simp [RT.szs], rfl, by rw [RT.half_zero]; exact HK.out, OnlyF.refl _ _⟩
 case round =>
  obtain ⟨k, M, hkl, rfl, hM, rfl, hkf, ho⟩ := hrel
  by_cases hlt : k < ts.length
  · obtain ⟨b, rs, e1, rfl, e3, kb⟩ := hkf.opened (by rw [RT.half_len _ _ _ hkl]; omega)
    have hkr : k < rs.length := by have := congrArg List.length e1; rw [RT.half_len _ _ _ hkl, List.length_map] at this; omega
    have hrt : (rs.getD k default).t = ts[k] := by
        have h1 := RT.half_at ts m k hlt
        rw [e1, List.getElem?_map] at h1
        rw [List.getD_eq_getElem?_getD]
        rw [List.getElem?_eq_getElem hkr] at h1 ⊢
        simpa using h1
    have hbF : b ∈ F := by rw [e3]; exact List.mem_cons_self
    have hFF : ∀ x ∈ (rs.getD k default).F, x ∈ F := fun x hx => by rw [e3]; exact List.mem_cons_of_mem _ (List.mem_flatMap.2 ⟨_, getD_mem hkr, hx⟩)
    have hstep := RT.half_step ts m k hlt
    rw [← hM, e1] at hstep
    have hst := RT.szs_take ts k hlt
    have hsle := RT.szs_le ts (k + 1)
    have hsz := RT.sz_eq ts[k]
    have hI := HS.out ts[k] (List.getElem_mem hlt)
    rw [RT.mkd_eq] at hstep
    rw [← set_getD hkr] at kb
    have hclose := fun (w' : World) (r' : RV) (h1 : KB w' b (rs.set k r')) (h2 : r'.F = (rs.getD k default).F) => (show KF w' ((rs.map RV.t).set k r'.t) (some ⟨b, 0, none⟩) F by
        have := h1.close
        rw [List.map_set, set_flat rs k hkr r' h2, ← e3] at this
        exact this)
    obtain ⟨r, hr⟩ : ∃ r, r = rs.getD k default := ⟨_, rfl⟩
    rw [← hr] at hrt hFF kb hclose
    generalize ts[k] = T at *
    obtain ⟨T', ra, rc, rF⟩ := r
    simp only at hrt
    subst hrt
    obtain ⟨tk, tst, tn, tl, th, tks⟩ := T'
    simp only [RT.kids] at *
    have hMb : M + 5 + 5 * RT.szs tks ≤ 10000000 := by omega
    have HQ : Hid (M + 5 + 5 * RT.szs tks = m + 5 * RT.szs (ts.take (k + 1))) := Lib.hid (by omega)
    have K1 := kb.put1 hkr 0 (by omega) (.int .i64 (M : Int)) (.node M tst tn tl th tks) rfl (kb.nice1 hkr) rfl
    have O1 := ho.set b (k * 6 + 0) hbF (.int .i64 (M : Int))
    have hc0 := kb.cell1 hkr 0 (by omega)
    have hf0 := kb.frozen (k * 6)
    have HM := Lib.hid (fun W => markText_any (M + 1) W (by omega) (by omega))
    rw [show ((M + 1 : Nat) : Int) = (M : Int) + 1 by omega] at HM
    have K1 := Lib.hid K1
    have O1 := Lib.hid O1
    have HCL := Lib.hid hclose
    have HST := Lib.hid hstep
    have HI := Lib.hid hI
    have HFF := Lib.hid hFF
    clear hr kb hclose hstep hI hFF hkf ho e1 e3 HS HK hM hst hsle hsz
    replace hc0 : wr.cell? ⟨b, k * 6, none⟩ = some (.int .i64 tk) := hc0
    go_wp2_with fail
    refine (HM.out _).mono ?_
    rintro e w1 ⟨rfl, hb1⟩
    have hs1 := K1.out.kept hb1
    have os1 := O1.out.trans (OnlyF.of_below hb1)
    have hnk : tks.length ≤ 1048576 := (hs1.nice1 hkr).2
    have hms := mt_size (M + 1) (by omega)
    have d1 : w1.cell? ⟨b, k * 6 + 1, none⟩ = some (.string tst) := hs1.cell1 hkr 1 (by omega)
    have d2 : w1.cell? ⟨b, k * 6 + 2, none⟩ = some (.bool tn) := hs1.cell1 hkr 2 (by omega)
    have d3 : w1.cell? ⟨b, k * 6 + 3, none⟩ = some (.int .i64 tl) := hs1.cell1 hkr 3 (by omega)
    have d4 : w1.cell? ⟨b, k * 6 + 4, none⟩ = some (.int .i64 th) := hs1.cell1 hkr 4 (by omega)
    have d5 : w1.cell? ⟨b, k * 6 + 5, none⟩ = some (.slice ra tks.length rc) := hs1.cell1 hkr 5 (by omega)
    have f1 := hs1.frozen (k * 6 + 1)
    have f2 := hs1.frozen (k * 6 + 2)
    have f3 := hs1.frozen (k * 6 + 3)
    have f4 := hs1.frozen (k * 6 + 4)
    have K2 := hs1.put1 hkr 1 (by omega) (.string ⟨(mt (M + 1)).toArray⟩) (.node M ⟨(mt (M + 1)).toArray⟩ tn tl th tks) rfl ⟨Nat.le_trans hms (by omega), hnk⟩ rfl
    have K3 := K2.put1 hkr 2 (by omega) (.bool (((M : Int) + 2) % 3 == 0)) (.node M ⟨(mt (M + 1)).toArray⟩ (((M : Int) + 2) % 3 == 0) tl th tks) rfl ⟨Nat.le_trans hms (by omega), hnk⟩ rfl
    have K4 := K3.put1 hkr 3 (by omega) (.int .i64 ((M : Int) + 3)) (.node M ⟨(mt (M + 1)).toArray⟩ (((M : Int) + 2) % 3 == 0) ((M : Int) + 3) th tks) rfl ⟨Nat.le_trans hms (by omega), hnk⟩ rfl
    have K5 := Lib.hid (K4.put1 hkr 4 (by omega) (.int .i64 ((M : Int) + 4)) (.node M ⟨(mt (M + 1)).toArray⟩ (((M : Int) + 2) % 3 == 0) ((M : Int) + 3) ((M : Int) + 4) tks) rfl ⟨Nat.le_trans hms (by omega), hnk⟩ rfl)
    have O5 := Lib.hid ((((os1.set b (k * 6 + 1) hbF (.string ⟨(mt (M + 1)).toArray⟩)).set b (k * 6 + 2) hbF (.bool (((M : Int) + 2) % 3 == 0))).set b (k * 6 + 3) hbF (.int .i64 ((M : Int) + 3))).set b (k * 6 + 4) hbF (.int .i64 ((M : Int) + 4)))
    have HC := Lib.hid (fun W (h : KF W tks ra rF) => HI.out ra rc rF (M + 5) W h (by omega) (by omega))
    rw [show ((M + 5 : Nat) : Int) = (M : Int) + 5 by omega] at HC
    have h5 := Lib.hid (K5.out.kf1 hkr)
    clear hs1 os1 K2 K3 K4 K1 O1 HM hms hb1 hc0 hf0 HI
    unfold eS
    generalize mt (M + 1) = x at *
    go_wp2_with fail
    refine (HC.out _ h5.out).mono ?_
    rintro e w6 ⟨rfl, hk6, ho6⟩
    have K6 := Lib.hid (K5.out.sub1 hkr (RT.mks tks (M + 5)) (RT.mks_len _ _) ho6 hk6)
    have O6 := Lib.hid (O5.out.trans (ho6.mono HFF.out))
    clear K5 O5 h5 HC hk6 ho6 d1 d2 d3 d4 d5 f1 f2 f3 f4
    go_wp2_with fail
    go_roundw
    case rel => exact ⟨k + 1, M + 5 + 5 * RT.szs tks, by omega, by go_num, HQ.out, rfl, by rw [← HST.out]; exact HCL.out _ _ K6.out rfl, O6.out⟩
    case measure => simp [intOf]; omega
  · go_wp2
    go_ret
    obtain rfl : k = ts.length := by omega
    rw [RT.half_all] at hkf
    exact ⟨by rw [hM, List.take_length]; rfl, hkf, ho⟩
theorem mkAll_all : ∀ (N : Nat) (ts : List RT), RT.szs ts ≤ N → MkAll ts := by
 intro N
 induction N with
 | zero => intro ts h; exact mkAll_of fun t ht => by have := RT.sz_mem ts t ht; have := RT.sz_pos t; omega
 | succ N ih => intro ts h; exact mkAll_of fun t ht => ih _ (by have := RT.sz_mem ts t ht; have := RT.sz_eq t; omega)
def SixA (b o : Nat) (t : RT) (ra : Option Addr) (rc n : Nat) (w W : World) : Prop := (W.cell? ⟨b, o, none⟩ = some (.int .i64 t.kind) ∧ W.cell? ⟨b, o + 1, none⟩ = some (.string t.set) ∧ W.cell? ⟨b, o + 2, none⟩ = some (.bool t.neg) ∧ W.cell? ⟨b, o + 3, none⟩ = some (.int .i64 t.low) ∧ W.cell? ⟨b, o + 4, none⟩ = some (.int .i64 t.high) ∧ W.cell? ⟨b, o + 5, none⟩ = some (.slice ra n rc)) ∧ b < W.heap.size ∧ Below w.heap.size w W
theorem SixA.step {b o : Nat} {t : RT} {ra : Option Addr} {rc n : Nat} {w W W' : World} (h : SixA b o t ra rc n w W) (hb : Below W.heap.size W W') : SixA b o t ra rc n w W' := by
 obtain ⟨⟨h0, h1, h2, h3, h4, h5⟩, q, hB⟩ := h
 have e : ∀ j, W'.cell? ⟨b, j, none⟩ = W.cell? ⟨b, j, none⟩ := fun j => hb.cell (p := ⟨b, j, none⟩) q
 exact ⟨⟨(e _).trans h0, (e _).trans h1, (e _).trans h2, (e _).trans h3, (e _).trans h4, (e _).trans h5⟩, Nat.lt_of_lt_of_le q hb.size, hB.trans (hb.mono hB.size)⟩
theorem SixA.start {b o : Nat} {t : RT} {ra : Option Addr} {rc n : Nat} {w W : World} (h : SixA b o t ra rc n w W) : SixA b o t ra rc n w W.drew := ⟨h.1, h.2.1, h.2.2.drew⟩
theorem SixA.below {b o : Nat} {t : RT} {ra : Option Addr} {rc n : Nat} {w W : World} (h : SixA b o t ra rc n w W) : Below w.heap.size w W := h.2.2
set_option maxRecDepth 100000 in
set_option maxHeartbeats 1000000 in
theorem markRe_any (t : RT) (a : Option Addr) (c m : Nat) (F : List Nat) (w : World) (hk : KF w t.kids a F) (hm0 : 0 < m) (hm : m + 5 * RT.szs t.kids ≤ 10000000) :
 Calls Tryd.prog 25 #[reV t a c, .int .i64 (m : Int)] w fun e w' => e = .returned (.int .i64 ((m + 5 * RT.szs t.kids : Nat) : Int)) ∧ KF w' (RT.mks t.kids m) a F ∧ OnlyF F w w' := by
 have HC := Lib.hid (fun W h => mkAll_all _ t.kids (Nat.le_refl _) a c F m W h hm0 hm)
 have HB := Lib.hid (show ∀ o, Below w.heap.size w (w.alloc o) from fun o => (Below.refl w.heap.size w).alloc (Nat.le_refl _) _)
 have HK := Lib.hid hk
 clear hk hm0 hm
 obtain ⟨k, s, n, lo, hi, ts⟩ := t
 unfold reV
 simp only [RT.set, RT.kids, RT.kind, RT.neg, RT.low, RT.high] at *
 go_enter Tryd.func25, Tryd.ntmps25
 go_wp2_with fail
 refine (HC.out _ (HK.out.kept (HB.out _))).mono ?_
 rintro e w1 ⟨rfl, k1, o1⟩
 have K1 := Lib.hid k1
 have O1 := Lib.hid ((OnlyF.of_below (HB.out _)).trans o1)
 clear k1 o1
 go_wp2_with fail
 go_ret
 exact ⟨rfl, K1.out, O1.out⟩
theorem KF.set1 {w : World} {ts : List RT} {a : Option Addr} {F : List Nat} (h : KF w ts a F) (b o : Nat) (hb : b ∉ F) (v : Value) : KF (w.setCell ⟨b, o, none⟩ v) ts a F :=
 h.of fun x hx => Below.heap_setCell w ⟨b, o, none⟩ v x (fun q => hb (by rw [← show x = b from q]; exact hx))
theorem KF.drew {w : World} {ts : List RT} {a : Option Addr} {F : List Nat} (h : KF w ts a F) : KF w.drew ts a F := h.of fun x hx => rfl
def ToOneF (t : RT) : Prop := ∀ (a : Option Addr) (cap : Nat) (w : World), Kids 0 w t.kids a → RT.cost t ≤ 1048576 →
 Calls Tryd.prog 21 #[reV t a cap] w fun e w' => ∃ (a' : Option Addr) (cap' : Nat) (F : List Nat), e = .returned (reV t a' cap') ∧ KF w' t.kids a' F ∧ (∀ y ∈ F, w.heap.size ≤ y) ∧ Below w.heap.size w w'
def ToAllF (ts : List RT) : Prop := ∀ (a : Option Addr) (cap : Nat) (w : World), Kids 0 w ts a → RT.bill ts ≤ 1048576 →
 Calls Tryd.prog 46 #[.slice a ts.length cap] w fun e w' => ∃ (a' : Option Addr) (cap' : Nat) (F : List Nat), e = .returned (.slice a' ts.length cap') ∧ KF w' ts a' F ∧ (∀ y ∈ F, w.heap.size ≤ y) ∧ Below w.heap.size w w'
set_option maxRecDepth 100000 in
set_option maxHeartbeats 1000000 in
theorem toOneF_of {t : RT} (h : ToAllF t.kids) : ToOneF t := by
 intro a cap w hk hc
 have HK := Lib.hid hk
 have HS := Lib.hid h
 have HC := Lib.hid (RT.cost_eq t)
 clear hk h
 have hbill : RT.bill t.kids ≤ 1048576 := by have := HC.out; omega
 clear hc
 obtain ⟨k, s, n, lo, hi, ts⟩ := t
 unfold reV
 simp only [RT.set, RT.kids, RT.kind, RT.neg, RT.low, RT.high] at *
 have HB := Lib.hid (show ∀ o1 o2 o3, Below w.heap.size w (((w.alloc o1).alloc o2).alloc o3) from fun o1 o2 o3 => ((((Below.refl w.heap.size w).alloc (Nat.le_refl _) _).alloc (by simp) _).alloc (by simp; omega) _))
 go_enter Tryd.func21, Tryd.ntmps21
 go_wp2_with fail
 refine (HS.out a cap _ (HK.out.kept (Nat.le_refl _) (HB.out _ _ _)) hbill).mono ?_
 rintro e w1 ⟨a', cap', F, rfl, hk1, hl1, hb1⟩
 obtain ⟨hc1, hf1⟩ := bcellR hb1
 have HK1 := Lib.hid hk1
 have HL1 := Lib.hid (show ∀ y ∈ F, w.heap.size + 1 + 1 + 1 ≤ y from fun y hy => by have := hl1 y hy; simpa using this)
 have HB1 := Lib.hid hb1
 clear hk1 hb1 hl1
 have H1 : w.heap.size + 1 ∉ F := fun h => by have := HL1.out _ h; omega
 have H2 : w.heap.size + 1 + 1 ∉ F := fun h => by have := HL1.out _ h; omega
 have H1 := Lib.hid H1
 have H2 := Lib.hid H2
 go_wp2_with fail
 exact bodyPost_ret (v := .agg #[.int .i64 k, .string s, .bool n, .int .i64 lo, .int .i64 hi, .slice a' ts.length cap']) (by simp [results, Tryd.results21, go_sem, hc1]) rfl ⟨a', cap', F, rfl, (((((((HK1.out.set1 (w.heap.size + 1 + 1) 5 H2.out _).set1 (w.heap.size + 1) 0 H1.out _).set1 (w.heap.size + 1) 1 H1.out _).set1 (w.heap.size + 1) 2 H1.out _).set1 (w.heap.size + 1) 3 H1.out _).set1 (w.heap.size + 1) 4 H1.out _).set1 (w.heap.size + 1) 5 H1.out _), (fun y hy => by have := HL1.out y hy; omega), (((((((((HB.out _ _ _).trans (HB1.out.mono (HB.out _ _ _).size)).setCell (p := ⟨w.heap.size + 1 + 1, 5, none⟩) (by simp; try omega) _).setCell (p := ⟨w.heap.size + 1, 0, none⟩) (by simp; try omega) _).setCell (p := ⟨w.heap.size + 1, 1, none⟩) (by simp; try omega) _).setCell (p := ⟨w.heap.size + 1, 2, none⟩) (by simp; try omega) _).setCell (p := ⟨w.heap.size + 1, 3, none⟩) (by simp; try omega) _).setCell (p := ⟨w.heap.size + 1, 4, none⟩) (by simp; try omega) _).setCell (p := ⟨w.heap.size + 1, 5, none⟩) (by simp; try omega) _)⟩
theorem made_rv (z : Array Value) (hz : z.toList = (default : RV).cells) (n : Nat) : (madeCells z (n * 6)).toList = rvVals (List.replicate n default) := by
 have hs : z.size = 6 := by
  have := congrArg List.length hz
  rw [Array.length_toList] at this; exact this
 apply List.ext_getElem?
 intro j
 by_cases hj : j < n * 6
 · obtain ⟨i, d, hd, rfl⟩ : ∃ i d, d < 6 ∧ j = i * 6 + d := ⟨j / 6, j % 6, Nat.mod_lt _ (by omega), by omega⟩
   have hi : i < n := by omega
   rw [rvVals_at _ i d (by simpa using hi) hd]
   have h1 : (List.replicate n (default : RV)).getD i default = default := by
    rw [List.getD_eq_getElem?_getD, List.getElem?_replicate, if_pos hi]; rfl
   have h2 : (i * 6 + d) % 6 = d := by omega
   rw [h1, ← hz, Array.getElem?_toList, Array.getElem?_toList]
   have h3 : d < z.size := by omega
   simp [madeCells, hs, hj, h2]
   rw [getElem!_pos z d h3, Array.getElem?_eq_getElem h3]
 · rw [List.getElem?_eq_none (by rw [Array.length_toList, size_madeCells]; omega), List.getElem?_eq_none (by rw [rvVals_len, List.length_replicate]; omega)]
theorem make_resF (w : World) (n : Nat) (hn : n ≤ 1048576) : ∃ cs : Array Value, cs.toList = rvVals (List.replicate n default) ∧
 (Instr.makeSlice 24 (.int .i64 (n : Int)) (.int .i64 (n : Int))).run Tryd.prog w = .ok (.slice (some ⟨w.heap.size, 0, none⟩) n n) (w.alloc (.cells cs 26)) := by
 obtain ⟨i0, hi, hz0, hz1, hz2⟩ := info_parts infoRe
 have h := run_make (P := Tryd.prog) w 24 26 i0 _ Tryd.underlying24 hi hz0 .i64 .i64 n n (by omega) (by omega) (by rw [hz2]; omega) (by omega)
 rw [hz1] at h
 exact ⟨madeCells (Value.agg #[.int .i64 0, .string ⟨#[]⟩, .bool false, .int .i64 0, .int .i64 0, .slice none 0 0]).cells (n * 6), made_rv _ rfl n, by simpa using h⟩
structure HalfF (g n k : Nat) (ts : List RT) (w : World) : Prop where
 ex : ∃ rs : List RV, rs.length = k ∧ rs.map RV.t = ts.take k ∧ KB w g (rs ++ List.replicate (n - k) default) ∧ ∀ r ∈ rs, ∀ y ∈ r.F, g < y
theorem HalfF.lt {g n k : Nat} {ts : List RT} {w : World} (h : HalfF g n k ts w) : g < w.heap.size := by
 obtain ⟨rs, _, _, h, _⟩ := h.ex; exact h.lt
theorem HalfF.cells {g n k : Nat} {ts : List RT} {w : World} (h : HalfF g n k ts w) (hk : k ≤ n) (j : Nat) (hj : j < n * 6) : (w.cell? ⟨g, j, none⟩).isSome = true ∧ w.frozen? ⟨g, j, none⟩ = false := by
 obtain ⟨rs, h1, _, h, _⟩ := h.ex
 refine ⟨?_, h.frozen j⟩
 have hl : (rs ++ List.replicate (n - k) (default : RV)).length = n := by rw [List.length_append, List.length_replicate]; omega
 obtain ⟨i, d, hd, rfl⟩ : ∃ i d, d < 6 ∧ j = i * 6 + d := ⟨j / 6, j % 6, Nat.mod_lt _ (by omega), by omega⟩
 rw [h.cell i d (by omega) hd]
 simp only [RV.cells]
 match d, hd with
 | 0, _ => rfl
 | 1, _ => rfl
 | 2, _ => rfl
 | 3, _ => rfl
 | 4, _ => rfl
 | 5, _ => rfl
theorem HalfF.kept {g n k : Nat} {ts : List RT} {w w' : World} (h : HalfF g n k ts w) (hb : Below w.heap.size w w') : HalfF g n k ts w' := by
 obtain ⟨rs, h1, h2, h3, h4⟩ := h.ex
 exact ⟨rs, h1, h2, h3.kept hb, h4⟩
theorem HalfF.start {w : World} {n : Nat} {cs : Array Value} {e : TypeId} (hcs : cs.toList = rvVals (List.replicate n default)) (ts : List RT) : HalfF w.heap.size n 0 ts (w.alloc (.cells cs e)) := by
 have hd : ∀ r ∈ List.replicate n (default : RV), r = default := fun r hr => List.eq_of_mem_replicate hr
 refine ⟨[], rfl, by simp, ⟨⟨cs, e, heap_alloc_new w _, by simpa using hcs⟩, fun r hr => ?_, fun r hr => ?_, fun r hr => ?_, ?_⟩, fun r hr => absurd hr (by simp)⟩
 · rw [hd r (by simpa using hr)]; exact ⟨by decide, by decide⟩
 · rw [hd r (by simpa using hr)]; exact KF.nil _
 · rw [hd r (by simpa using hr)]; exact fun h => nomatch h
 · refine List.pairwise_of_forall_mem_list fun a ha b hb x hx => ?_
   rw [hd a (by simpa using ha)] at hx
   cases hx
theorem HalfF.all {g k : Nat} {ts : List RT} {w : World} (h : HalfF g k k ts w) (hk : k = ts.length) : ∃ F, KF w ts (some ⟨g, 0, none⟩) F ∧ ∀ y ∈ F, g ≤ y := by
 obtain ⟨rs, h1, h2, h3, h4⟩ := h.ex
 rw [Nat.sub_self, List.replicate_zero, List.append_nil] at h3
 have h5 := h3.close
 rw [h2, hk, List.take_length] at h5
 refine ⟨_, h5, fun y hy => ?_⟩
 rcases List.mem_cons.1 hy with rfl | hy
 · exact Nat.le_refl _
 · obtain ⟨r, hr, hy⟩ := List.mem_flatMap.1 hy
   exact Nat.le_of_lt (h4 r hr y hy)
theorem row_set {w : World} {g : Nat} {e : TypeId} {L : List Value} (h : ∃ cs, w.heap[g]? = some (.cells cs e (0, 0)) ∧ cs.toList = L) (j : Nat) (v : Value) : ∃ cs, (w.setCell ⟨g, j, none⟩ v).heap[g]? = some (.cells cs e (0, 0)) ∧ cs.toList = L.set j v := by
 obtain ⟨cs, h1, h2⟩ := h
 refine ⟨cs.setIfInBounds j v, ?_, ?_⟩
 · simp [World.setCell, Array.getElem?_modify, h1]
 · rw [Array.toList_setIfInBounds, h2]
theorem set6_list (A C : List Value) (n : Nat) (hn : A.length = n) (x0 x1 x2 x3 x4 x5 v0 v1 v2 v3 v4 v5 : Value) :
 ((((((A ++ (x0 :: x1 :: x2 :: x3 :: x4 :: x5 :: C)).set n v0).set (n + 1) v1).set (n + 2) v2).set (n + 3) v3).set (n + 4) v4).set (n + 5) v5 = A ++ (v0 :: v1 :: v2 :: v3 :: v4 :: v5 :: C) := by
 subst hn
 induction A with
 | nil => rfl
 | cons t A ih =>
   simp only [List.cons_append, List.length_cons, List.set_cons_succ, Nat.add_right_comm _ 1]
   rw [ih]
theorem HalfF.store {g n k : Nat} {ts : List RT} {w w1 : World} (h : HalfF g n k ts w) (hb : Below w.heap.size w w1) (hk : k < ts.length) (hn : ts.length = n) (a : Option Addr) (cap : Nat) (F : List Nat) (hK : KF w1 ts[k].kids a F) (hF : ∀ y ∈ F, w.heap.size ≤ y) (hN : Nice ts[k]) :
 HalfF g n (k + 1) ts (set6 w1 g (k * 6) ts[k] a cap) := by
 have hgl := h.lt
 obtain ⟨rs, h1, h2, h3, h4⟩ := h.ex
 have hlt := fun r hr => (h3.kf r (List.mem_append_left _ hr)).lt
 obtain ⟨⟨cs, e, q1, q2⟩, n1, n2, n3, n4⟩ := h3
 have hrep : List.replicate (n - k) (default : RV) = default :: List.replicate (n - (k + 1)) default := by
  rw [show n - k = (n - (k + 1)) + 1 by omega]; rfl
 rw [hrep] at q2 n1 n2 n3 n4
 have hgF : g ∉ F := fun x => by have := hF g x; omega
 have key : ∀ (us : List RT) (b : Option Addr) (G : List Nat), KF w1 us b G → g ∉ G → KF (set6 w1 g (k * 6) ts[k] a cap) us b G := fun us b G hG hn => by
  unfold set6
  exact (((((hG.set1 g _ hn _).set1 g _ hn _).set1 g _ hn _).set1 g _ hn _).set1 g _ hn _).set1 g _ hn _
 refine ⟨rs ++ [⟨ts[k], a, cap, F⟩], by rw [List.length_append, h1]; rfl, ?_, ?_, ?_⟩
 · rw [List.map_append, h2, List.take_succ_eq_append_getElem hk]; rfl
 · rw [List.append_assoc, List.singleton_append]
   have hmem : ∀ r ∈ rs ++ (⟨ts[k], a, cap, F⟩ :: List.replicate (n - (k + 1)) default : List RV), r ∈ rs ++ (default :: List.replicate (n - (k + 1)) default : List RV) ∨ r = ⟨ts[k], a, cap, F⟩ := fun r hr => by
    rcases List.mem_append.1 hr with hr | hr
    · exact .inl (List.mem_append_left _ hr)
    · rcases List.mem_cons.1 hr with hr | hr
      · exact .inr hr
      · exact .inl (List.mem_append_right _ (List.mem_cons_of_mem _ hr))
   refine ⟨?_, fun r hr => ?_, fun r hr => ?_, fun r hr => ?_, ?_⟩
   · have q3 : ∃ cs, w1.heap[g]? = some (.cells cs e (0, 0)) ∧ cs.toList = rvVals rs ++ (.int .i64 0 :: .string ⟨#[]⟩ :: .bool false :: .int .i64 0 :: .int .i64 0 :: .slice none 0 0 :: rvVals (List.replicate (n - (k + 1)) default)) := ⟨cs, (hb.block g hgl).trans q1, by rw [q2]; simp only [rvVals, List.flatMap_append, List.flatMap_cons]; rfl⟩
     obtain ⟨cs', r1, r2⟩ := row_set (row_set (row_set (row_set (row_set (row_set q3 (k * 6) (.int .i64 ts[k].kind)) (k * 6 + 1) (.string ts[k].set)) (k * 6 + 2) (.bool ts[k].neg)) (k * 6 + 3) (.int .i64 ts[k].low)) (k * 6 + 4) (.int .i64 ts[k].high)) (k * 6 + 5) (.slice a ts[k].kids.length cap)
     refine ⟨cs', e, r1, ?_⟩
     rw [r2, set6_list _ _ (k * 6) (by rw [rvVals_len, h1])]
     simp only [rvVals, List.flatMap_append, List.flatMap_cons]; rfl
   · rcases hmem r hr with hr | rfl
     · exact n1 r hr
     · exact hN
   · rcases hmem r hr with hr | rfl
     · exact key _ _ _ ((n2 r hr).kept hb) (n3 r hr)
     · exact key _ _ _ hK hgF
   · rcases hmem r hr with hr | rfl
     · exact n3 r hr
     · exact hgF
   · rw [List.pairwise_append, List.pairwise_cons] at n4 ⊢
     obtain ⟨m1, ⟨m2, m3⟩, m4⟩ := n4
     have hd : ∀ r ∈ List.replicate (n - (k + 1)) (default : RV), r.F = [] := fun r hr => by rw [List.eq_of_mem_replicate hr]; rfl
     refine ⟨m1, ⟨fun r hr x _ hx => (by rw [hd r hr] at hx; cases hx), m3⟩, fun r hr r' hr' x hx hx' => ?_⟩
     rcases List.mem_cons.1 hr' with rfl | hr'
     · have := hlt r hr x hx
       have := hF x hx'
       omega
     · rw [hd r' hr'] at hx'; cases hx'
 · intro r hr y hy
   rcases List.mem_append.1 hr with hr | hr
   · exact h4 r hr y hy
   · rw [List.mem_singleton.1 hr] at hy
     have := hF y hy; omega
theorem nice_cost {t : RT} (h : RT.cost t ≤ 1048576) : Nice t := by
 have h1 := RT.cost_eq t
 simp only [RT.bill] at h1
 exact ⟨by omega, by omega⟩
set_option maxRecDepth 100000 in
set_option maxHeartbeats 1000000 in
theorem toAllF_of {ts : List RT} (h : ∀ t ∈ ts, ToOneF t) : ToAllF ts := by
 intro a cap w hk hbill
 have HK := Lib.hid hk
 have HS := Lib.hid h
 clear hk h
 have hl : ts.length ≤ 1048576 := by simp only [RT.bill] at hbill; omega
 obtain ⟨cs, hcs, hmk⟩ := make_resF w ts.length hl
 have H0 := Lib.hid (HalfF.start (w := w) (e := 26) hcs ts)
 clear hcs
 go_enter Tryd.func46, Tryd.ntmps46
 go_wp2_with fail
 go_loopw [4] (fun i wr => ∃ k : Nat, k ≤ ts.length ∧ i = .int .i64 (k : Int) ∧ HalfF w.heap.size ts.length k ts wr ∧ Below w.heap.size w wr) (fun i _ => ts.length - (intOf i).toNat)
 case atStart => exact ⟨0, Nat.zero_le _, rfl, H0.out, (Below.refl _ _).alloc (Nat.le_refl _) _⟩
 case round =>
  obtain ⟨k, hkl, rfl, hh, hb⟩ := hrel
  have HB := Lib.hid hb
  have HH := Lib.hid hh
  clear hb hh
  by_cases hlt : k < ts.length
  · obtain ⟨a', cap', he, hk'⟩ := (HK.out.kept (Nat.le_refl _) HB.out).elem k hlt
    obtain ⟨b, o, rfl, _, hbl, e0, e1, e2, e3, e4, e5, f0, f1⟩ := he
    have HO := Lib.hid (HS.out ts[k] (List.getElem_mem hlt))
    have hcost : RT.cost ts[k] ≤ 1048576 := by
        have h1 := RT.costs_take ts k hlt
        have h2 := RT.costs_le ts (k + 1)
        simp only [RT.bill] at hbill; omega
    have hni := nice_cost hcost
    have HN := Lib.hid (fun W W1 (hw : HalfF w.heap.size ts.length k ts W) hb a cap F hK hF => HalfF.store (w1 := W1) hw hb hlt rfl a cap F hK hF hni)
    clear hni
    generalize ts[k] = t at *
    have HK' := Lib.hid hk'
    clear hk'
    have HC := Lib.hid (fun j hj => fun W1 (hb : Below _ _ W1) => (HH.out.kept hb).cells (Nat.le_of_lt hlt) (k * 6 + j) (by have : j < 6 := hj; omega))
    go_wp2_with fail
    refine (HO.out _ _ _ HK'.out hcost).mono ?_
    rintro e w1 ⟨a2, cap2, F, rfl, hk2, hl2, hb1⟩
    have hg := Nat.lt_of_lt_of_le HH.out.lt hb1.size
    have q0 := HC.out 0 (by omega) _ hb1
    have q1 := HC.out 1 (by omega) _ hb1
    have q2 := HC.out 2 (by omega) _ hb1
    have q3 := HC.out 3 (by omega) _ hb1
    have q4 := HC.out 4 (by omega) _ hb1
    have q5 := HC.out 5 (by omega) _ hb1
    rw [Nat.add_zero] at q0
    obtain ⟨q0, p0⟩ := q0
    obtain ⟨q1, p1⟩ := q1
    obtain ⟨q2, p2⟩ := q2
    obtain ⟨q3, p3⟩ := q3
    obtain ⟨q4, p4⟩ := q4
    obtain ⟨q5, p5⟩ := q5
    obtain ⟨y0, q0⟩ := Option.isSome_iff_exists.1 q0
    obtain ⟨y1, q1⟩ := Option.isSome_iff_exists.1 q1
    obtain ⟨y2, q2⟩ := Option.isSome_iff_exists.1 q2
    obtain ⟨y3, q3⟩ := Option.isSome_iff_exists.1 q3
    obtain ⟨y4, q4⟩ := Option.isSome_iff_exists.1 q4
    obtain ⟨y5, q5⟩ := Option.isSome_iff_exists.1 q5
    have HF := Lib.hid (HN.out _ w1 HH.out hb1 a2 cap2 F hk2 hl2)
    have HB1 := Lib.hid (HB.out.trans (hb1.mono HB.out.size))
    clear hk2 hb1 hl2
    unfold reV
    go_wp2_with fail
    go_roundw
    case rel => exact ⟨k + 1, by omega, by go_num, HF.out, set6_below HB1.out _ _ _ _ _ (Nat.le_refl _)⟩
    case measure => simp [intOf]; omega
  · obtain rfl : k = ts.length := by omega
    obtain ⟨F, hF, hFl⟩ := HH.out.all rfl
    have HF := Lib.hid hF
    have HFl := Lib.hid hFl
    clear hF hFl
    go_wp2_with fail
    go_ret
    exact ⟨_, _, F, rfl, HF.out, HFl.out, HB.out⟩
theorem toAllF_all : ∀ (N : Nat) (ts : List RT), RT.szs ts ≤ N → ToAllF ts := by
 intro N
 induction N with
 | zero => intro ts h; exact toAllF_of fun t ht => by have := RT.sz_mem ts t ht; have := RT.sz_pos t; omega
 | succ N ih => intro ts h; exact toAllF_of fun t ht => toOneF_of (ih _ (by have := RT.sz_mem ts t ht; have := RT.sz_eq t; omega))
theorem toReF_any (t : RT) : ToOneF t := toOneF_of (toAllF_all _ _ (Nat.le_refl _))
end Go.Proofs.YtppfnaenamcnpaaDoor.kit
