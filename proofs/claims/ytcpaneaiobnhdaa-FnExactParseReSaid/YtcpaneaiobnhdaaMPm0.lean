/-
  Plain facts on trees of expressions that are marked: what marks they bear, and how a row of them that lies in a block of its own turns when one of its cells does. Conditions: each theorem names its own.
-/
import Derived.Test.YtcpaneaiobnhdaaMPr2
import Derived.Test.YtcpaneaiobnhdaaMRe5
import Derived.Test.YtcpaneaiobnhdaaMMark
namespace Go.Proofs.Ytcpaneaiobnhdaa.kit
open Go.ChangeShapes Go.WideShapes Go.ChangeAt Go.RowKit
set_option linter.unusedVariables false

namespace RT
mutual
def mkd : RT → Nat → RT
  | node _ _ _ _ _ ts, m => node m ⟨(mt (m + 1)).toArray⟩ (((m : Int) + 2) % 3 == 0) ((m : Int) + 3) ((m : Int) + 4) (mks ts (m + 5))
def mks : List RT → Nat → List RT
  | [], _ => []
  | t :: ts, m => mkd t m :: mks ts (m + 5 * sz t)
end
theorem mkd_eq (t : RT) (m : Nat) : mkd t m = node m ⟨(mt (m + 1)).toArray⟩ (((m : Int) + 2) % 3 == 0) ((m : Int) + 3) ((m : Int) + 4) (mks t.kids (m + 5)) := by cases t; rw [mkd]; rfl
theorem mks_len : ∀ (ts : List RT) (m : Nat), (mks ts m).length = ts.length
  | [], m => by simp [mks]
  | t :: ts, m => by simp [mks, mks_len ts]
theorem mks_at : ∀ (ts : List RT) (m k : Nat) (h : k < ts.length), (mks ts m)[k]? = some (mkd ts[k] (m + 5 * szs (ts.take k)))
  | [], m, k, h => by simp at h
  | t :: ts, m, 0, h => by simp [mks, szs]
  | t :: ts, m, k + 1, h => by
    have := mks_at ts (m + 5 * sz t) k (by simpa using h)
    simp only [mks, List.getElem?_cons_succ, this, List.getElem_cons_succ, List.take_succ_cons, szs]
    rw [show m + 5 * sz t + 5 * szs (ts.take k) = m + 5 * (sz t + szs (ts.take k)) by omega]
theorem szs_take (ts : List RT) (i : Nat) (h : i < ts.length) : szs (ts.take (i + 1)) = szs (ts.take i) + sz ts[i] := by
  induction ts generalizing i with
  | nil => simp at h
  | cons t ts ih =>
    cases i with
    | zero => simp [szs]
    | succ i => simp only [List.take_succ_cons, szs, List.getElem_cons_succ, ih i (by simpa using h)]; omega
theorem szs_le (ts : List RT) (i : Nat) : szs (ts.take i) ≤ szs ts := by
  induction ts generalizing i with
  | nil => simp [szs]
  | cons t ts ih => cases i with
    | zero => simp [szs]
    | succ i => simp only [List.take_succ_cons, szs]; have := ih i; omega
/-- The first k trees are marked. -/
def half (ts : List RT) (m k : Nat) : List RT := (mks ts m).take k ++ ts.drop k
theorem half_zero (ts : List RT) (m : Nat) : half ts m 0 = ts := by simp [half]
theorem half_all (ts : List RT) (m : Nat) : half ts m ts.length = mks ts m := by
  unfold half; rw [List.take_of_length_le (by rw [mks_len]; omega), List.drop_length, List.append_nil]
theorem half_len (ts : List RT) (m k : Nat) (h : k ≤ ts.length) : (half ts m k).length = ts.length := by
  unfold half; rw [List.length_append, List.length_take, mks_len, List.length_drop]; omega
theorem half_at (ts : List RT) (m k : Nat) (h : k < ts.length) : (half ts m k)[k]? = some ts[k] := by
  unfold half
  have hl : ((mks ts m).take k).length = k := by rw [List.length_take, mks_len]; omega
  rw [List.getElem?_append_right (by omega), hl, Nat.sub_self, List.getElem?_drop, Nat.add_zero, List.getElem?_eq_getElem h]
theorem half_step (ts : List RT) (m k : Nat) (h : k < ts.length) : (half ts m k).set k (mkd ts[k] (m + 5 * szs (ts.take k))) = half ts m (k + 1) := by
  unfold half
  have hl : ((mks ts m).take k).length = k := by rw [List.length_take, mks_len]; omega
  rw [List.set_append_right _ _ (by omega), hl, Nat.sub_self, List.drop_eq_getElem_cons h, List.set_cons_zero]
  have h1 : k < (mks ts m).length := by rw [mks_len]; exact h
  have h2 := mks_at ts m k h
  rw [List.getElem?_eq_getElem h1] at h2
  injection h2 with h2
  rw [← h2, List.take_succ_eq_append_getElem h1, List.append_assoc]; rfl
end RT
theorem mt_len (n : Nat) (h : n ≤ 100000000) : (mt n).length ≤ 21 := by
  have := @front_len n 0 (Lib.decDigits n) (by omega) (by rw [front, if_pos rfl]; rfl)
  unfold mt; simp only [List.length_cons]; omega
theorem mt_size (n : Nat) (h : n ≤ 100000000) : (ByteArray.mk (mt n).toArray).size ≤ 256 := by
  have := mt_len n h
  show (mt n).toArray.size ≤ 256
  simp; omega

/-- The row of trees rs lies in block b. -/
structure KB (w : World) (b : Nat) (rs : List RV) : Prop where
  row : ∃ cs e, w.heap[b]? = some (.cells cs e (0, 0)) ∧ cs.toList = rvVals rs
  nice : ∀ r ∈ rs, Nice r.t
  kf : ∀ r ∈ rs, KF w r.t.kids r.a r.F
  off : ∀ r ∈ rs, b ∉ r.F
  apart : rs.Pairwise apartF
theorem KB.close {w : World} {b : Nat} {rs : List RV} (h : KB w b rs) : KF w (rs.map RV.t) (some ⟨b, 0, none⟩) (b :: rs.flatMap RV.F) := by
  obtain ⟨⟨cs, e, h1, h2⟩, h3, h4, h5, h6⟩ := h
  exact .mk b rs cs e h1 h2 h3 h4 h5 h6
theorem KF.opened {w : World} {ts : List RT} {a : Option Addr} {F : List Nat} (h : KF w ts a F) (hpos : 0 < ts.length) : ∃ b rs, ts = rs.map RV.t ∧ a = some ⟨b, 0, none⟩ ∧ F = b :: rs.flatMap RV.F ∧ KB w b rs := by
  cases h with
  | nil a => simp at hpos
  | mk b rs cs e hb hc hn hk hf hp => exact ⟨b, rs, rfl, rfl, rfl, ⟨⟨cs, e, hb, hc⟩, hn, hk, hf, hp⟩⟩
theorem KB.lt {w : World} {b : Nat} {rs : List RV} (h : KB w b rs) : b < w.heap.size := by
  obtain ⟨cs, e, h1, h2⟩ := h.row
  exact (Array.getElem?_eq_some_iff.1 h1).1
theorem KB.cell {w : World} {b : Nat} {rs : List RV} (h : KB w b rs) (k d : Nat) (hk : k < rs.length) (hd : d < 6) : w.cell? ⟨b, k * 6 + d, none⟩ = (rs.getD k default).cells[d]? := by
  obtain ⟨cs, e, h1, h2⟩ := h.row
  rw [cell_of_row w b _ cs e (0, 0) h1, ← rvVals_at rs k d hk hd, ← h2, Array.getElem?_toList]
theorem KB.frozen {w : World} {b : Nat} {rs : List RV} (h : KB w b rs) (j : Nat) : w.frozen? ⟨b, j, none⟩ = false := by
  obtain ⟨cs, e, h1, h2⟩ := h.row
  simp only [World.frozen?, h1]; rfl
theorem KB.kept {w w' : World} {b : Nat} {rs : List RV} (h : KB w b rs) (hb : Below w.heap.size w w') : KB w' b rs := by
  have hl := h.lt
  obtain ⟨⟨cs, e, h1, h2⟩, h3, h4, h5, h6⟩ := h
  exact ⟨⟨cs, e, (hb.block b hl).trans h1, h2⟩, h3, fun r hr => (h4 r hr).kept hb, h5, h6⟩
theorem getD_mem {rs : List RV} {k : Nat} (h : k < rs.length) : rs.getD k default ∈ rs := by
  rw [List.getD_eq_getElem?_getD, List.getElem?_eq_getElem h]; exact List.getElem_mem h
theorem rvVals_set (rs : List RV) (k d : Nat) (hk : k < rs.length) (hd : d < 6) (v : Value) (r' : RV) (hC : r'.cells = (rs.getD k default).cells.set d v) : (rvVals rs).set (k * 6 + d) v = rvVals (rs.set k r') := by
  induction rs generalizing k with
  | nil => simp at hk
  | cons t ts ih =>
    have hc : t.cells.length = 6 := rfl
    show (t.cells ++ rvVals ts).set (k * 6 + d) v = _
    cases k with
    | zero =>
      rw [List.set_append_left _ _ (by omega), Nat.zero_mul, Nat.zero_add, List.set_cons_zero]
      show _ = r'.cells ++ rvVals ts
      rw [hC]; rfl
    | succ k =>
      rw [List.set_append_right _ _ (by omega), hc, show (k + 1) * 6 + d - 6 = k * 6 + d by omega, ih k (by simpa using hk) (by simpa using hC), List.set_cons_succ]; rfl
theorem set_F (rs : List RV) (k : Nat) (hk : k < rs.length) (r' : RV) (hF : r'.F = (rs.getD k default).F) : (rs.set k r').map RV.F = rs.map RV.F := by
  rw [List.map_set, hF]
  apply List.ext_getElem?
  intro j
  rw [List.getElem?_set]
  split
  · rename_i e; subst e
    rw [if_pos (by simpa using hk), List.getElem?_map, List.getElem?_eq_getElem hk, List.getD_eq_getElem?_getD, List.getElem?_eq_getElem hk]; rfl
  · rfl
theorem set_flat (rs : List RV) (k : Nat) (hk : k < rs.length) (r' : RV) (hF : r'.F = (rs.getD k default).F) : (rs.set k r').flatMap RV.F = rs.flatMap RV.F := by
  rw [List.flatMap_def, List.flatMap_def, set_F rs k hk r' hF]
theorem set_apart (rs : List RV) (k : Nat) (hk : k < rs.length) (r' : RV) (hF : r'.F = (rs.getD k default).F) (h : rs.Pairwise apartF) : (rs.set k r').Pairwise apartF := by
  have h1 : (rs.map RV.F).Pairwise (fun F F' => ∀ x ∈ F, x ∉ F') := List.pairwise_map.2 h
  rw [← set_F rs k hk r' hF] at h1
  exact (List.pairwise_map (f := RV.F) (R := fun F F' => ∀ x ∈ F, x ∉ F')).1 h1
/-- One cell of the row turns. -/
theorem KB.put {w : World} {b : Nat} {rs : List RV} (h : KB w b rs) (k d : Nat) (hk : k < rs.length) (hd : d < 6) (v : Value) (r' : RV) (hF : r'.F = (rs.getD k default).F) (hK : r'.t.kids = (rs.getD k default).t.kids) (ha : r'.a = (rs.getD k default).a) (hN : Nice r'.t) (hC : r'.cells = (rs.getD k default).cells.set d v) :
    KB (w.setCell ⟨b, k * 6 + d, none⟩ v) b (rs.set k r') := by
  obtain ⟨⟨cs, e, h1, h2⟩, h3, h4, h5, h6⟩ := h
  have hmem : ∀ r ∈ rs.set k r', r ∈ rs ∨ r = r' := fun r hr => List.mem_or_eq_of_mem_set hr
  have hg := getD_mem hk
  refine ⟨⟨cs.setIfInBounds (k * 6 + d) v, e, ?_, ?_⟩, ?_, ?_, ?_, set_apart rs k hk r' hF h6⟩
  · simp [World.setCell, Array.getElem?_modify, h1]
  · rw [Array.toList_setIfInBounds, h2, rvVals_set rs k d hk hd v r' hC]
  · intro r hr
    rcases hmem r hr with hr | rfl
    · exact h3 r hr
    · exact hN
  · have key : ∀ r ∈ rs, KF (w.setCell ⟨b, k * 6 + d, none⟩ v) r.t.kids r.a r.F := fun r hr => (h4 r hr).of fun x hx => Below.heap_setCell w ⟨b, k * 6 + d, none⟩ v x (fun q => h5 r hr (by rw [← show x = b from q]; exact hx))
    intro r hr
    rcases hmem r hr with hr | rfl
    · exact key r hr
    · rw [hK, ha, hF]; exact key _ hg
  · intro r hr
    rcases hmem r hr with hr | rfl
    · exact h5 r hr
    · rw [hF]; exact h5 _ hg
/-- What turns in blocks of F alone. -/
structure OnlyF (F : List Nat) (w w' : World) : Prop where
  os : w'.os = w.os
  tape : w'.tape = w.tape
  output : w'.output = w.output
  size : w.heap.size ≤ w'.heap.size
  block : ∀ k, k < w.heap.size → k ∉ F → w'.heap[k]? = w.heap[k]?
theorem OnlyF.refl (F : List Nat) (w : World) : OnlyF F w w := ⟨rfl, rfl, rfl, Nat.le_refl _, fun _ _ _ => rfl⟩
theorem OnlyF.trans {F : List Nat} {x y z : World} (h : OnlyF F x y) (k : OnlyF F y z) : OnlyF F x z :=
  ⟨k.os.trans h.os, k.tape.trans h.tape, k.output.trans h.output, Nat.le_trans h.size k.size, fun j hj hn => (k.block j (Nat.lt_of_lt_of_le hj h.size) hn).trans (h.block j hj hn)⟩
theorem OnlyF.of_below {F : List Nat} {w w' : World} (h : Below w.heap.size w w') : OnlyF F w w' := ⟨h.os, h.tape, h.output, h.size, fun k hk _ => h.block k hk⟩
theorem OnlyF.mono {F G : List Nat} {w w' : World} (h : OnlyF F w w') (hs : ∀ x ∈ F, x ∈ G) : OnlyF G w w' := ⟨h.os, h.tape, h.output, h.size, fun k hk hn => h.block k hk fun x => hn (hs k x)⟩
theorem OnlyF.set {F : List Nat} {w w' : World} (h : OnlyF F w w') (b o : Nat) (hb : b ∈ F) (v : Value) : OnlyF F w (w'.setCell ⟨b, o, none⟩ v) :=
  h.trans ⟨rfl, rfl, rfl, by simp, fun j _ hn => Below.heap_setCell _ _ _ j (fun e => hn (by rw [show j = b from e]; exact hb))⟩
theorem OnlyF.below {F : List Nat} {w w' : World} (h : OnlyF F w w') {B : Nat} (hF : ∀ x ∈ F, B ≤ x) (hB : B ≤ w.heap.size) : Below B w w' :=
  ⟨h.os, h.tape, h.output, h.size, fun k hk => h.block k (by omega) fun x => by have := hF k x; omega⟩
/-- The kids of one tree of the row turn. -/
theorem KB.sub {w w' : World} {b : Nat} {rs : List RV} (h : KB w b rs) (k : Nat) (hk : k < rs.length) (ks : List RT) (hl : ks.length = (rs.getD k default).t.kids.length) (ho : OnlyF (rs.getD k default).F w w') (hf : KF w' ks (rs.getD k default).a (rs.getD k default).F)
    (r' : RV) (hr : r' = { rs.getD k default with t := .node (rs.getD k default).t.kind (rs.getD k default).t.set (rs.getD k default).t.neg (rs.getD k default).t.low (rs.getD k default).t.high ks }) : KB w' b (rs.set k r') := by
  have hlt := h.lt
  have hg := getD_mem hk
  obtain ⟨⟨cs, e, h1, h2⟩, h3, h4, h5, h6⟩ := h
  have hF : r'.F = (rs.getD k default).F := by rw [hr]
  have hmem : ∀ r ∈ rs.set k r', r ∈ rs ∨ r = r' := fun r hr => List.mem_or_eq_of_mem_set hr
  refine ⟨⟨cs, e, (ho.block b hlt (h5 _ hg)).trans h1, ?_⟩, ?_, ?_, ?_, set_apart rs k hk r' hF h6⟩
  · rw [h2]
    have hc : r'.cells = (rs.getD k default).cells.set 5 (.slice (rs.getD k default).a (rs.getD k default).t.kids.length (rs.getD k default).c) := by
      rw [hr]; simp only [RV.cells, RT.kind, RT.set, RT.neg, RT.low, RT.high, RT.kids, hl]; rfl
    rw [← rvVals_set rs k 5 hk (by omega) _ r' hc]
    have := rvVals_at rs k 5 hk (by omega)
    rw [show (rs.getD k default).cells[5]? = some (.slice (rs.getD k default).a (rs.getD k default).t.kids.length (rs.getD k default).c) from rfl] at this
    obtain ⟨q1, q2⟩ := List.getElem?_eq_some_iff.1 this
    rw [← q2, List.set_getElem_self]
  · intro r hr'
    rcases hmem r hr' with hr' | rfl
    · exact h3 r hr'
    · rw [hr]; have := h3 _ hg; exact ⟨this.1, by show ks.length ≤ 2; rw [hl]; exact this.2⟩
  · intro r hr'
    obtain ⟨j, hj, hjr⟩ := List.mem_iff_getElem.1 hr'
    rw [List.length_set] at hj
    by_cases e : j = k
    · subst e
      rw [List.getElem_set_self] at hjr
      subst hjr
      rw [hr]; exact hf
    · rw [List.getElem_set_ne (Ne.symm e)] at hjr
      subst hjr
      refine (h4 _ (List.getElem_mem hj)).of fun x hx => ho.block x ((h4 _ (List.getElem_mem hj)).lt x hx) fun hx2 => ?_
      have hgk : rs.getD k default = rs[k] := by rw [List.getD_eq_getElem?_getD, List.getElem?_eq_getElem hk]; rfl
      rw [hgk] at hx2
      have hp := List.pairwise_iff_getElem.1 h6
      rcases Nat.lt_or_gt_of_ne e with q | q
      · exact hp j k hj hk q x hx hx2
      · exact hp k j hk hj q x hx2 hx
  · intro r hr'
    rcases hmem r hr' with hr' | rfl
    · exact h5 r hr'
    · rw [hF]; exact h5 _ hg
end Go.Proofs.Ytcpaneaiobnhdaa.kit
/-
  Contracts of laws.markReS, laws.heldReS, laws.markRe and laws.heldRe over this seat's translation: trees that lie in blocks of their own are marked, and their marks are found again. Conditions: marks from 1 to 10000000.
-/
namespace Go.Proofs.Ytcpaneaiobnhdaa.kit
open Go.ChangeShapes Go.WideShapes Go.ChangeAt Go.RowKit
set_option linter.unusedVariables false

theorem getD_set {rs : List RV} {k : Nat} (h : k < rs.length) (r : RV) : (rs.set k r).getD k default = r := by
  rw [List.getD_eq_getElem?_getD, List.getElem?_set_self h]; rfl
theorem set_getD {rs : List RV} {k : Nat} (h : k < rs.length) : rs.set k (rs.getD k default) = rs := by
  rw [List.getD_eq_getElem?_getD, List.getElem?_eq_getElem h]; simp
/-- One cell of the k-th tree turns, its kids stay. -/
theorem KB.put1 {w : World} {b : Nat} {rs : List RV} {k : Nat} {r : RV} (h : KB w b (rs.set k r)) (hk : k < rs.length) (d : Nat) (hd : d < 6) (v : Value) (t' : RT) (hK : t'.kids = r.t.kids) (hN : Nice t') (hC : (⟨t', r.a, r.c, r.F⟩ : RV).cells = r.cells.set d v) :
    KB (w.setCell ⟨b, k * 6 + d, none⟩ v) b (rs.set k ⟨t', r.a, r.c, r.F⟩) := by
  have hk2 : k < (rs.set k r).length := by rw [List.length_set]; exact hk
  have := h.put k d hk2 hd v ⟨t', r.a, r.c, r.F⟩ (by rw [getD_set hk]) (by rw [getD_set hk]; exact hK) (by rw [getD_set hk]) hN (by rw [getD_set hk]; exact hC)
  rw [List.set_set] at this
  exact this
theorem KB.cell1 {w : World} {b : Nat} {rs : List RV} {k : Nat} {r : RV} (h : KB w b (rs.set k r)) (hk : k < rs.length) (d : Nat) (hd : d < 6) : w.cell? ⟨b, k * 6 + d, none⟩ = r.cells[d]? := by
  rw [h.cell k d (by rw [List.length_set]; exact hk) hd, getD_set hk]
theorem KB.kf1 {w : World} {b : Nat} {rs : List RV} {k : Nat} {r : RV} (h : KB w b (rs.set k r)) (hk : k < rs.length) : KF w r.t.kids r.a r.F := h.kf r (List.mem_iff_getElem.2 ⟨k, by rw [List.length_set]; exact hk, by rw [List.getElem_set_self]⟩)
theorem KB.nice1 {w : World} {b : Nat} {rs : List RV} {k : Nat} {r : RV} (h : KB w b (rs.set k r)) (hk : k < rs.length) : Nice r.t := h.nice r (List.mem_iff_getElem.2 ⟨k, by rw [List.length_set]; exact hk, by rw [List.getElem_set_self]⟩)
theorem KB.sub1 {w w' : World} {b : Nat} {rs : List RV} {k : Nat} {r : RV} (h : KB w b (rs.set k r)) (hk : k < rs.length) (ks : List RT) (hl : ks.length = r.t.kids.length) (ho : OnlyF r.F w w') (hf : KF w' ks r.a r.F) :
    KB w' b (rs.set k ⟨.node r.t.kind r.t.set r.t.neg r.t.low r.t.high ks, r.a, r.c, r.F⟩) := by
  have hk2 : k < (rs.set k r).length := by rw [List.length_set]; exact hk
  have := h.sub k hk2 ks (by rw [getD_set hk]; exact hl) (by rw [getD_set hk]; exact ho) (by rw [getD_set hk]; exact hf) _ rfl
  rw [List.set_set, getD_set hk] at this
  exact this
def MkAll (ts : List RT) : Prop := ∀ (a : Option Addr) (cap : Nat) (F : List Nat) (m : Nat) (w : World), KF w ts a F → 0 < m → m + 5 * RT.szs ts ≤ 10000000 →
  Calls Try.prog 20 #[.slice a ts.length cap, .int .i64 (m : Int)] w fun e w' => e = .returned (.int .i64 ((m + 5 * RT.szs ts : Nat) : Int)) ∧ KF w' (RT.mks ts m) a F ∧ OnlyF F w w'
theorem szs_len : ∀ (ts : List RT), ts.length ≤ RT.szs ts
  | [] => Nat.zero_le _
  | t :: ts => by have := szs_len ts; have := RT.sz_pos t; simp only [RT.szs, List.length_cons]; omega
set_option maxRecDepth 100000 in
set_option maxHeartbeats 2000000 in
theorem mkAll_of {ts : List RT} (h : ∀ t ∈ ts, MkAll t.kids) : MkAll ts := by
  intro a cap F m w hk hm0 hm
  have HK := Lib.hid hk
  have HS := Lib.hid h
  clear hk h
  have hln := szs_len ts
  go_enter Try.func20, Try.ntmps20
  go_wp2
  go_loopw [1, 5] (fun q i wr => ∃ (k M : Nat), k ≤ ts.length ∧ i = .int .i64 (k : Int) ∧ M = m + 5 * RT.szs (ts.take k) ∧ q = .int .i64 (M : Int) ∧ KF wr (RT.half ts m k) a F ∧ OnlyF F w wr) (fun _ i _ => ts.length - (intOf i).toNat)
  case atStart => exact ⟨0, m, Nat.zero_le _, rfl, by simp [RT.szs], rfl, by rw [RT.half_zero]; exact HK.out, OnlyF.refl _ _⟩
  case round =>
    obtain ⟨k, M, hkl, rfl, hM, rfl, hkf, ho⟩ := hrel
    by_cases hlt : k < ts.length
    · obtain ⟨b, rs, e1, rfl, e3, kb⟩ := hkf.opened (by rw [RT.half_len _ _ _ hkl]; omega)
      have hkr : k < rs.length := by have := congrArg List.length e1; rw [RT.half_len _ _ _ hkl, List.length_map] at this; omega
      have hrt : (rs.getD k default).t = ts[k] := by
        have h1 := RT.half_at ts m k hlt
        rw [e1, List.getElem?_map] at h1
        rw [List.getD_eq_getElem?_getD]
        rw [List.getElem?_eq_getElem hkr] at h1 ⊢
        simpa using h1
      have hbF : b ∈ F := by rw [e3]; exact List.mem_cons_self
      have hFF : ∀ x ∈ (rs.getD k default).F, x ∈ F := fun x hx => by rw [e3]; exact List.mem_cons_of_mem _ (List.mem_flatMap.2 ⟨_, getD_mem hkr, hx⟩)
      have hstep := RT.half_step ts m k hlt
      rw [← hM, e1] at hstep
      have hst := RT.szs_take ts k hlt
      have hsle := RT.szs_le ts (k + 1)
      have hsz := RT.sz_eq ts[k]
      have hI := HS.out ts[k] (List.getElem_mem hlt)
      rw [RT.mkd_eq] at hstep
      rw [← set_getD hkr] at kb
      have hclose := fun (w' : World) (r' : RV) (h1 : KB w' b (rs.set k r')) (h2 : r'.F = (rs.getD k default).F) => (show KF w' ((rs.map RV.t).set k r'.t) (some ⟨b, 0, none⟩) F by
        have := h1.close
        rw [List.map_set, set_flat rs k hkr r' h2, ← e3] at this
        exact this)
      obtain ⟨r, hr⟩ : ∃ r, r = rs.getD k default := ⟨_, rfl⟩
      rw [← hr] at hrt hFF kb hclose
      generalize ts[k] = T at *
      obtain ⟨T', ra, rc, rF⟩ := r
      simp only at hrt
      subst hrt
      obtain ⟨tk, tst, tn, tl, th, tks⟩ := T'
      simp only [RT.kids] at *
      have hMb : M + 5 + 5 * RT.szs tks ≤ 10000000 := by omega
      have HQ : Hid (M + 5 + 5 * RT.szs tks = m + 5 * RT.szs (ts.take (k + 1))) := Lib.hid (by omega)
      have K1 := kb.put1 hkr 0 (by omega) (.int .i64 (M : Int)) (.node M tst tn tl th tks) rfl (kb.nice1 hkr) rfl
      have O1 := ho.set b (k * 6 + 0) hbF (.int .i64 (M : Int))
      have hc0 := kb.cell1 hkr 0 (by omega)
      have hf0 := kb.frozen (k * 6)
      have HM := Lib.hid (fun W => markText_any (M + 1) W (by omega) (by omega))
      rw [show ((M + 1 : Nat) : Int) = (M : Int) + 1 by omega] at HM
      have K1 := Lib.hid K1
      have O1 := Lib.hid O1
      have HCL := Lib.hid hclose
      have HST := Lib.hid hstep
      have HI := Lib.hid hI
      have HFF := Lib.hid hFF
      clear hr kb hclose hstep hI hFF hkf ho e1 e3 HS HK hM hst hsle hsz
      replace hc0 : wr.cell? ⟨b, k * 6, none⟩ = some (.int .i64 tk) := hc0
      go_wp2_with fail
      refine (HM.out _).mono ?_
      rintro e w1 ⟨rfl, hb1⟩
      have hs1 := K1.out.kept hb1
      have os1 := O1.out.trans (OnlyF.of_below hb1)
      have hnk : tks.length ≤ 2 := (hs1.nice1 hkr).2
      have hms := mt_size (M + 1) (by omega)
      have d1 : w1.cell? ⟨b, k * 6 + 1, none⟩ = some (.string tst) := hs1.cell1 hkr 1 (by omega)
      have d2 : w1.cell? ⟨b, k * 6 + 2, none⟩ = some (.bool tn) := hs1.cell1 hkr 2 (by omega)
      have d3 : w1.cell? ⟨b, k * 6 + 3, none⟩ = some (.int .i64 tl) := hs1.cell1 hkr 3 (by omega)
      have d4 : w1.cell? ⟨b, k * 6 + 4, none⟩ = some (.int .i64 th) := hs1.cell1 hkr 4 (by omega)
      have d5 : w1.cell? ⟨b, k * 6 + 5, none⟩ = some (.slice ra tks.length rc) := hs1.cell1 hkr 5 (by omega)
      have f1 := hs1.frozen (k * 6 + 1)
      have f2 := hs1.frozen (k * 6 + 2)
      have f3 := hs1.frozen (k * 6 + 3)
      have f4 := hs1.frozen (k * 6 + 4)
      have K2 := hs1.put1 hkr 1 (by omega) (.string ⟨(mt (M + 1)).toArray⟩) (.node M ⟨(mt (M + 1)).toArray⟩ tn tl th tks) rfl ⟨hms, hnk⟩ rfl
      have K3 := K2.put1 hkr 2 (by omega) (.bool (((M : Int) + 2) % 3 == 0)) (.node M ⟨(mt (M + 1)).toArray⟩ (((M : Int) + 2) % 3 == 0) tl th tks) rfl ⟨hms, hnk⟩ rfl
      have K4 := K3.put1 hkr 3 (by omega) (.int .i64 ((M : Int) + 3)) (.node M ⟨(mt (M + 1)).toArray⟩ (((M : Int) + 2) % 3 == 0) ((M : Int) + 3) th tks) rfl ⟨hms, hnk⟩ rfl
      have K5 := Lib.hid (K4.put1 hkr 4 (by omega) (.int .i64 ((M : Int) + 4)) (.node M ⟨(mt (M + 1)).toArray⟩ (((M : Int) + 2) % 3 == 0) ((M : Int) + 3) ((M : Int) + 4) tks) rfl ⟨hms, hnk⟩ rfl)
      have O5 := Lib.hid ((((os1.set b (k * 6 + 1) hbF (.string ⟨(mt (M + 1)).toArray⟩)).set b (k * 6 + 2) hbF (.bool (((M : Int) + 2) % 3 == 0))).set b (k * 6 + 3) hbF (.int .i64 ((M : Int) + 3))).set b (k * 6 + 4) hbF (.int .i64 ((M : Int) + 4)))
      have HC := Lib.hid (fun W (h : KF W tks ra rF) => HI.out ra rc rF (M + 5) W h (by omega) (by omega))
      rw [show ((M + 5 : Nat) : Int) = (M : Int) + 5 by omega] at HC
      have h5 := Lib.hid (K5.out.kf1 hkr)
      clear hs1 os1 K2 K3 K4 K1 O1 HM hms hb1 hc0 hf0 HI
      unfold eS
      generalize mt (M + 1) = x at *
      go_wp2_with fail
      refine (HC.out _ h5.out).mono ?_
      rintro e w6 ⟨rfl, hk6, ho6⟩
      have K6 := Lib.hid (K5.out.sub1 hkr (RT.mks tks (M + 5)) (RT.mks_len _ _) ho6 hk6)
      have O6 := Lib.hid (O5.out.trans (ho6.mono HFF.out))
      clear K5 O5 h5 HC hk6 ho6 d1 d2 d3 d4 d5 f1 f2 f3 f4
      go_wp2_with fail
      go_roundw
      case rel => exact ⟨k + 1, M + 5 + 5 * RT.szs tks, by omega, by go_num, HQ.out, rfl, by rw [← HST.out]; exact HCL.out _ _ K6.out rfl, O6.out⟩
      case measure => simp [intOf]; omega
    · go_wp2
      go_ret
      obtain rfl : k = ts.length := by omega
      rw [RT.half_all] at hkf
      exact ⟨by rw [hM, List.take_length]; rfl, hkf, ho⟩
theorem mkAll_all : ∀ (N : Nat) (ts : List RT), RT.szs ts ≤ N → MkAll ts := by
  intro N
  induction N with
  | zero => intro ts h; exact mkAll_of fun t ht => by have := RT.sz_mem ts t ht; have := RT.sz_pos t; omega
  | succ N ih => intro ts h; exact mkAll_of fun t ht => ih _ (by have := RT.sz_mem ts t ht; have := RT.sz_eq t; omega)
def HeAll (ts : List RT) : Prop := ∀ (a : Option Addr) (cap : Nat) (F : List Nat) (m : Nat) (w : World), KF w (RT.mks ts m) a F → 0 < m → m + 5 * RT.szs ts ≤ 10000000 →
  Calls Try.prog 21 #[.slice a ts.length cap, .int .i64 (m : Int)] w fun e w' => e = .returned (.int .i64 ((m + 5 * RT.szs ts : Nat) : Int)) ∧ Below w.heap.size w w'
def SixA (b o : Nat) (t : RT) (ra : Option Addr) (rc n : Nat) (w W : World) : Prop := (W.cell? ⟨b, o, none⟩ = some (.int .i64 t.kind) ∧ W.cell? ⟨b, o + 1, none⟩ = some (.string t.set) ∧ W.cell? ⟨b, o + 2, none⟩ = some (.bool t.neg) ∧ W.cell? ⟨b, o + 3, none⟩ = some (.int .i64 t.low) ∧ W.cell? ⟨b, o + 4, none⟩ = some (.int .i64 t.high) ∧ W.cell? ⟨b, o + 5, none⟩ = some (.slice ra n rc)) ∧ b < W.heap.size ∧ Below w.heap.size w W
theorem SixA.step {b o : Nat} {t : RT} {ra : Option Addr} {rc n : Nat} {w W W' : World} (h : SixA b o t ra rc n w W) (hb : Below W.heap.size W W') : SixA b o t ra rc n w W' := by
  obtain ⟨⟨h0, h1, h2, h3, h4, h5⟩, q, hB⟩ := h
  have e : ∀ j, W'.cell? ⟨b, j, none⟩ = W.cell? ⟨b, j, none⟩ := fun j => hb.cell (p := ⟨b, j, none⟩) q
  exact ⟨⟨(e _).trans h0, (e _).trans h1, (e _).trans h2, (e _).trans h3, (e _).trans h4, (e _).trans h5⟩, Nat.lt_of_lt_of_le q hb.size, hB.trans (hb.mono hB.size)⟩
theorem SixA.start {b o : Nat} {t : RT} {ra : Option Addr} {rc n : Nat} {w W : World} (h : SixA b o t ra rc n w W) : SixA b o t ra rc n w W.drew := ⟨h.1, h.2.1, h.2.2.drew⟩
theorem SixA.below {b o : Nat} {t : RT} {ra : Option Addr} {rc n : Nat} {w W : World} (h : SixA b o t ra rc n w W) : Below w.heap.size w W := h.2.2
set_option maxRecDepth 100000 in
set_option maxHeartbeats 2000000 in
theorem heAll_of {ts : List RT} (h : ∀ t ∈ ts, HeAll t.kids) : HeAll ts := by
  intro a cap F m w hk hm0 hm
  have HK := Lib.hid hk
  have HS := Lib.hid h
  clear hk h
  have hln := szs_len ts
  go_enter Try.func21, Try.ntmps21
  go_wp2
  go_loopw [1, 5] (fun q i wr => ∃ (k M : Nat), k ≤ ts.length ∧ i = .int .i64 (k : Int) ∧ M = m + 5 * RT.szs (ts.take k) ∧ q = .int .i64 (M : Int) ∧ Below w.heap.size w wr) (fun _ i _ => ts.length - (intOf i).toNat)
  case atStart => exact ⟨0, m, Nat.zero_le _, rfl, by simp [RT.szs], rfl, Below.refl _ _⟩
  case round =>
    obtain ⟨k, M, hkl, rfl, hM, rfl, hbel⟩ := hrel
    have HB := Lib.hid hbel
    have hz := hbel.size
    clear hbel
    by_cases hlt : k < ts.length
    · obtain ⟨b, rs, e1, rfl, e3, kb⟩ := (HK.out.kept HB.out).opened (by rw [RT.mks_len]; omega)
      have hkr : k < rs.length := by have := congrArg List.length e1; rw [RT.mks_len, List.length_map] at this; omega
      have hrt : (rs.getD k default).t = RT.mkd ts[k] M := by
        have h1 := RT.mks_at ts m k hlt
        rw [e1, List.getElem?_map, ← hM] at h1
        rw [List.getD_eq_getElem?_getD]
        rw [List.getElem?_eq_getElem hkr] at h1 ⊢
        simpa using h1
      have hst := RT.szs_take ts k hlt
      have hsle := RT.szs_le ts (k + 1)
      have hsz := RT.sz_eq ts[k]
      have hI := HS.out ts[k] (List.getElem_mem hlt)
      have hkf := kb.kf _ (getD_mem hkr)
      have hc : ∀ d, d < 6 → wr.cell? ⟨b, k * 6 + d, none⟩ = (rs.getD k default).cells[d]? := fun d hd => kb.cell k d hkr hd
      have hbl := kb.lt
      rw [RT.mkd_eq] at hrt
      generalize rs.getD k default = r at *
      generalize ts[k] = T at *
      obtain ⟨T', ra, rc, rF⟩ := r
      simp only at hrt
      subst hrt
      obtain ⟨tk, tst, tn, tl, th, tks⟩ := T
      simp only [RT.kids] at *
      have hMb : M + 5 + 5 * RT.szs tks ≤ 10000000 := by omega
      have HQ : Hid (M + 5 + 5 * RT.szs tks = m + 5 * RT.szs (ts.take (k + 1))) := Lib.hid (by omega)
      have h0 : wr.cell? ⟨b, k * 6, none⟩ = some (.int .i64 (M : Int)) := hc 0 (by omega)
      have hml := RT.mks_len tks (M + 5)
      have hT : SixA b (k * 6) (.node M ⟨(mt (M + 1)).toArray⟩ (((M : Int) + 2) % 3 == 0) ((M : Int) + 3) ((M : Int) + 4) (RT.mks tks (M + 5))) ra rc tks.length wr wr := ⟨⟨h0, hc 1 (by omega), hc 2 (by omega), hc 3 (by omega), hc 4 (by omega), (hc 5 (by omega)).trans (by rw [← hml]; rfl)⟩, hbl, Below.refl _ _⟩
      have HM := Lib.hid (fun W => markText_any (M + 1) W (by omega) (by omega))
      rw [show ((M + 1 : Nat) : Int) = (M : Int) + 1 by omega] at HM
      have HC := Lib.hid (fun W (h : KF W (RT.mks tks (M + 5)) ra rF) => hI ra rc rF (M + 5) W h (by omega) (by omega))
      rw [show ((M + 5 : Nat) : Int) = (M : Int) + 5 by omega] at HC
      rw [show (M : Int) + 2 = (M : Int) + 1 + 1 by omega, show (M : Int) + 3 = (M : Int) + 1 + 1 + 1 by omega, show (M : Int) + 4 = (M : Int) + 1 + 1 + 1 + 1 by omega] at hT
      rw [show (M : Int) + 5 = (M : Int) + 1 + 1 + 1 + 1 + 1 by omega] at HC
      have KW := Lib.hid hkf
      have HT := Lib.hid hT
      have HWB : Hid (w.heap.size ≤ wr.heap.size) := Lib.hid hz
      simp only [eS] at HM
      generalize mt (M + 1) = x at *
      clear hc hT hkf kb hI e1 e3 hM hst hsle hsz HS HK hbl
      have i0 : (0 : Int) ≤ (k : Int) := by omega
      have i1 : (k : Int) < (ts.length : Int) := by omega
      obtain ⟨⟨g0, g1, g2, g3, g4, g5⟩, gl, _⟩ := HT.out
      simp only [RT.kind, RT.set, RT.neg, RT.low, RT.high] at g0 g1 g2 g3 g4 g5
      go_wp2_with fail
      go_region_held3 (fun w' => (w'.cell? ⟨b, k * 6, none⟩ = some (.int .i64 (M : Int)) ∧ w'.cell? ⟨b, k * 6 + 1, none⟩ = some (.string ⟨x.toArray⟩) ∧ w'.cell? ⟨b, k * 6 + 2, none⟩ = some (.bool (((M : Int) + 1 + 1) % 3 == 0)) ∧ w'.cell? ⟨b, k * 6 + 3, none⟩ = some (.int .i64 ((M : Int) + 1 + 1 + 1)) ∧ w'.cell? ⟨b, k * 6 + 4, none⟩ = some (.int .i64 ((M : Int) + 1 + 1 + 1 + 1)) ∧ w'.cell? ⟨b, k * 6 + 5, none⟩ = some (.slice ra tks.length rc)) ∧ b < w'.heap.size ∧ Below wr.heap.size wr w') (first | exact HT.out.start | exact SixA.step HT.out.start (by assumption)) (first | (go_at_call 35; refine (HM.out _).mono ?_; rintro e w2 ⟨rfl, hb2⟩))
      clear g0 g1 g2 g3 g4 g5 gl
      go_wp2_with fail
      refine (HC.out _ (KW.out.kept (SixA.below (b := b) (o := k * 6) (t := (.node M ⟨x.toArray⟩ (((M : Int) + 1 + 1) % 3 == 0) ((M : Int) + 1 + 1 + 1) ((M : Int) + 1 + 1 + 1 + 1) (RT.mks tks (M + 5)))) (ra := ra) (rc := rc) (n := tks.length) (by assumption)))).mono ?_
      rintro e w6 ⟨rfl, hb6⟩
      have HB6 := Lib.hid (HB.out.trans ((SixA.below (b := b) (o := k * 6) (t := (.node M ⟨x.toArray⟩ (((M : Int) + 1 + 1) % 3 == 0) ((M : Int) + 1 + 1 + 1) ((M : Int) + 1 + 1 + 1 + 1) (RT.mks tks (M + 5)))) (ra := ra) (rc := rc) (n := tks.length) (w := wr) (by assumption)).mono HWB.out))
      have HB7 := Lib.hid (HB6.out.trans (hb6.mono HB6.out.size))
      clear hb6 HB6
      have hq : ¬ (((M + 5 + 5 * RT.szs tks : Nat) : Int) < 0) := by omega
      go_wp2_with fail
      go_roundw
      case rel => exact ⟨k + 1, M + 5 + 5 * RT.szs tks, by omega, by go_num, HQ.out, rfl, HB7.out⟩
      case measure => simp [intOf]; omega
    · go_wp2
      go_ret
      obtain rfl : k = ts.length := by omega
      exact ⟨by rw [hM, List.take_length]; rfl, HB.out⟩
theorem heAll_all : ∀ (N : Nat) (ts : List RT), RT.szs ts ≤ N → HeAll ts := by
  intro N
  induction N with
  | zero => intro ts h; exact heAll_of fun t ht => by have := RT.sz_mem ts t ht; have := RT.sz_pos t; omega
  | succ N ih => intro ts h; exact heAll_of fun t ht => ih _ (by have := RT.sz_mem ts t ht; have := RT.sz_eq t; omega)
set_option maxRecDepth 100000 in
set_option maxHeartbeats 1000000 in
theorem markRe_any (t : RT) (a : Option Addr) (c m : Nat) (F : List Nat) (w : World) (hk : KF w t.kids a F) (hm0 : 0 < m) (hm : m + 5 * RT.szs t.kids ≤ 10000000) :
    Calls Try.prog 8 #[reV t a c, .int .i64 (m : Int)] w fun e w' => e = .returned (.int .i64 ((m + 5 * RT.szs t.kids : Nat) : Int)) ∧ KF w' (RT.mks t.kids m) a F ∧ OnlyF F w w' := by
  have HC := Lib.hid (fun W h => mkAll_all _ t.kids (Nat.le_refl _) a c F m W h hm0 hm)
  have HB := Lib.hid (show ∀ o, Below w.heap.size w (w.alloc o) from fun o => (Below.refl w.heap.size w).alloc (Nat.le_refl _) _)
  have HK := Lib.hid hk
  clear hk hm0 hm
  obtain ⟨k, s, n, lo, hi, ts⟩ := t
  unfold reV
  simp only [RT.set, RT.kids, RT.kind, RT.neg, RT.low, RT.high] at *
  go_enter Try.func8, Try.ntmps8
  go_wp2_with fail
  refine (HC.out _ (HK.out.kept (HB.out _))).mono ?_
  rintro e w1 ⟨rfl, k1, o1⟩
  have K1 := Lib.hid k1
  have O1 := Lib.hid ((OnlyF.of_below (HB.out _)).trans o1)
  clear k1 o1
  go_wp2_with fail
  go_ret
  exact ⟨rfl, K1.out, O1.out⟩
set_option maxRecDepth 100000 in
set_option maxHeartbeats 1000000 in
theorem heldRe_any (t : RT) (ts : List RT) (a : Option Addr) (c m : Nat) (F : List Nat) (w : World) (ht : t.kids = ts) (hk : KF w (RT.mks ts m) a F) (hm0 : 0 < m) (hm : m + 5 * RT.szs ts ≤ 10000000) :
    Calls Try.prog 9 #[reV t a c, .int .i64 (m : Int)] w fun e w' => e = .returned (.int .i64 ((m + 5 * RT.szs ts : Nat) : Int)) ∧ Below w.heap.size w w' := by
  have HC := Lib.hid (fun W h => heAll_all _ ts (Nat.le_refl _) a c F m W h hm0 hm)
  have HB := Lib.hid (show ∀ o, Below w.heap.size w (w.alloc o) from fun o => (Below.refl w.heap.size w).alloc (Nat.le_refl _) _)
  have HK := Lib.hid hk
  clear hk hm0
  have hq : ¬ ((m + 5 * RT.szs ts : Nat) : Int) < 0 := by omega
  clear hm
  obtain ⟨k, s, n, lo, hi, ts'⟩ := t
  unfold reV
  simp only [RT.set, RT.kids, RT.kind, RT.neg, RT.low, RT.high] at *
  subst ht
  go_enter Try.func9, Try.ntmps9
  go_wp2_with fail
  refine (HC.out _ (HK.out.kept (HB.out _))).mono ?_
  rintro e w1 ⟨rfl, b1⟩
  have B1 := Lib.hid ((HB.out _).trans (b1.mono (HB.out _).size))
  clear b1
  go_wp2_with fail
  go_ret
  exact ⟨rfl, B1.out⟩
end Go.Proofs.Ytcpaneaiobnhdaa.kit
