/-
  Contracts of laws.toNodeS and laws.toNode over this seat's translation: a tree of nodes is copied into new memory. Conditions: each theorem names its own.
-/
import Derived.Test.YtghmkfehohgmgaaNd2
import Derived.Test.YtghmkfehohgmgaaRe3
import Derived.Laws.MakeOwn
namespace Go.Proofs.Ytghmkfehohgmgaa.kit
open Go.ChangeShapes Go.WideShapes Go.ChangeAt Go.RowKit
set_option linter.unusedVariables false

def NtoOne (t : NT) : Prop := ∀ (a : Option Addr) (cap : Nat) (w : World), NKids 0 w t.kids a → NT.cost t ≤ 1048576 →
  Calls Try.prog 50 #[ndV t a cap] w fun e w' => ∃ (a' : Option Addr) (cap' : Nat), e = .returned (ndV t a' cap') ∧ NKids w.heap.size w' t.kids a' ∧ Below w.heap.size w w'
def NtoAll (ts : List NT) : Prop := ∀ (a : Option Addr) (cap : Nat) (w : World), NKids 0 w ts a → NT.bill ts ≤ 1048576 →
  Calls Try.prog 60 #[.slice a ts.length cap] w fun e w' => ∃ (a' : Option Addr) (cap' : Nat), e = .returned (.slice a' ts.length cap') ∧ NKids w.heap.size w' ts a' ∧ Below w.heap.size w w'
set_option maxRecDepth 100000 in
set_option maxHeartbeats 1000000 in
theorem ntoOne_of {t : NT} (h : NtoAll t.kids) : NtoOne t := by
  intro a cap w hk hc
  have HK := Lib.hid hk
  have HS := Lib.hid h
  have HC := Lib.hid (NT.cost_eq t)
  clear hk h
  have hbill : NT.bill t.kids ≤ 1048576 := by have := HC.out; omega
  clear hc
  obtain ⟨k, n, s, ts⟩ := t
  unfold ndV
  simp only [NT.text, NT.kids, NT.kind, NT.num] at *
  have HB := Lib.hid (show ∀ o1 o2 o3, Below w.heap.size w (((w.alloc o1).alloc o2).alloc o3) from fun o1 o2 o3 => ((((Below.refl w.heap.size w).alloc (Nat.le_refl _) _).alloc (by simp) _).alloc (by simp; omega) _))
  go_enter Try.func50, Try.ntmps50
  go_wp2_with fail
  refine (HS.out a cap _ (HK.out.kept (Nat.le_refl _) (HB.out _ _ _)) hbill).mono ?_
  rintro e w1 ⟨a', cap', rfl, hk1, hb1⟩
  obtain ⟨hc1, hf1⟩ := bcellR hb1
  have HK1 := Lib.hid hk1
  have HB1 := Lib.hid hb1
  clear hk1 hb1
  go_wp2_with fail
  exact bodyPost_ret (v := .agg #[.int .i64 k, .int .i64 n, .string s, .slice a' ts.length cap']) (by simp [results, Try.results50, go_sem, hc1]) rfl ⟨a', cap', rfl, (((((HK1.out.set (w.heap.size + 1 + 1) 3 (by simp; try omega) _).set (w.heap.size + 1) 0 (by simp; try omega) _).set (w.heap.size + 1) 1 (by simp; try omega) _).set (w.heap.size + 1) 2 (by simp; try omega) _).set (w.heap.size + 1) 3 (by simp; try omega) _).mono (by simp; try omega), ((((((HB.out _ _ _).trans (HB1.out.mono (HB.out _ _ _).size)).setCell (p := ⟨w.heap.size + 1 + 1, 3, none⟩) (by simp; try omega) _).setCell (p := ⟨w.heap.size + 1, 0, none⟩) (by simp; try omega) _).setCell (p := ⟨w.heap.size + 1, 1, none⟩) (by simp; try omega) _).setCell (p := ⟨w.heap.size + 1, 2, none⟩) (by simp; try omega) _).setCell (p := ⟨w.heap.size + 1, 3, none⟩) (by simp; try omega) _⟩

/-- A slice of which the first k have been laid: the block may be written whole. -/
def NHalf (g n k : Nat) (ts : List NT) (w : World) : Prop := (g < w.heap.size ∧ ∀ j, w.frozen? ⟨g, j, none⟩ = false) ∧ (∀ j, j < n * 4 → (w.cell? ⟨g, j, none⟩).isSome = true ∧ w.frozen? ⟨g, j, none⟩ = false) ∧
  ∀ i (hi : i < ts.length), i < k → ∃ a' cap', NElem g w (some ⟨g, 0, none⟩) i ts[i] a' cap' ∧ NKids (g + 1) w ts[i].kids a'
theorem NHalf.kept {g n k : Nat} {ts : List NT} {w w' : World} (h : NHalf g n k ts w) (hb : Below w.heap.size w w') : NHalf g n k ts w' := by
  obtain ⟨h0, h1, h2⟩ := h
  refine ⟨⟨Nat.lt_of_lt_of_le h0.1 hb.size, fun j => (hb.frozen (p := ⟨g, j, none⟩) h0.1).trans (h0.2 j)⟩, fun j hj => ?_, fun i hi hk => ?_⟩
  · rw [hb.cell (p := ⟨g, j, none⟩) h0.1, hb.frozen (p := ⟨g, j, none⟩) h0.1]; exact h1 j hj
  · obtain ⟨a', cap', e, kk⟩ := h2 i hi hk
    exact ⟨a', cap', e.of hb.size fun b o _ hl => ⟨hb.cell (p := ⟨b, o, none⟩) hl, hb.frozen (p := ⟨b, o, none⟩) hl⟩, kk.kept (Nat.le_refl _) hb⟩
theorem NHalf.all {g k : Nat} {ts : List NT} {w : World} (h : NHalf g k k ts w) (hk : k = ts.length) : NKids g w ts (some ⟨g, 0, none⟩) := by
  obtain ⟨h0, h1, h2⟩ := h
  subst hk
  have h3 : ∀ i, i < ts.length → ∃ x : Option Addr × Nat, ∀ (hi : i < ts.length), NElem g w (some ⟨g, 0, none⟩) i ts[i] x.1 x.2 ∧ NKids (g + 1) w ts[i].kids x.1 := by
    intro i hi
    obtain ⟨a', cap', e⟩ := h2 i hi hi
    exact ⟨(a', cap'), fun _ => e⟩
  obtain ⟨f, hf⟩ := Go.Deep.choose_lt h3
  exact .mk _ _ (fun i => (f i).1) (fun i => (f i).2) (fun i hi => (hf i hi hi).1) (fun i hi => ((hf i hi hi).2).mono (by omega))
/-- Four cells are written. -/
def set4n (w : World) (g o : Nat) (t : NT) (a : Option Addr) (cap : Nat) : World :=
  (((w.setCell ⟨g, o, none⟩ (.int .i64 t.kind)).setCell ⟨g, o + 1, none⟩ (.int .i64 t.num)).setCell ⟨g, o + 2, none⟩ (.string t.text)).setCell ⟨g, o + 3, none⟩ (.slice a t.kids.length cap)
theorem set4n_off (w : World) (g o : Nat) (t : NT) (a : Option Addr) (cap b j : Nat) (h : b ≠ g ∨ j < o ∨ o + 4 ≤ j) : (set4n w g o t a cap).cell? ⟨b, j, none⟩ = w.cell? ⟨b, j, none⟩ := by
  unfold set4n
  rw [World.cell?_setCell_other, World.cell?_setCell_other, World.cell?_setCell_other, World.cell?_setCell_other] <;> (intro x; injection x; omega)
theorem set4n_size (w : World) (g o : Nat) (t : NT) (a : Option Addr) (cap : Nat) : (set4n w g o t a cap).heap.size = w.heap.size := by simp [set4n]
theorem set4n_frozen (w : World) (g o : Nat) (t : NT) (a : Option Addr) (cap : Nat) (p : Addr) : (set4n w g o t a cap).frozen? p = w.frozen? p := by simp [set4n, World.frozen?_setCell]
theorem set4n_below {B : Nat} {w w' : World} (h : Below B w w') (g o : Nat) (t : NT) (a : Option Addr) (cap : Nat) (hg : B ≤ g) : Below B w (set4n w' g o t a cap) :=
  (((h.setCell (p := ⟨g, o, none⟩) hg _).setCell (p := ⟨g, o + 1, none⟩) hg _).setCell (p := ⟨g, o + 2, none⟩) hg _).setCell (p := ⟨g, o + 3, none⟩) hg _
theorem set4n_at (w : World) (g o : Nat) (t : NT) (a : Option Addr) (cap : Nat) (h : ∀ j, j < 4 → (w.cell? ⟨g, o + j, none⟩).isSome = true) : NCells (set4n w g o t a cap) g o t a cap := by
  have h0 := h 0 (by omega)
  have h1 := h 1 (by omega)
  have h2 := h 2 (by omega)
  have h3 := h 3 (by omega)
  simp only [Nat.add_zero] at h0
  unfold set4n
  refine ⟨?_, ?_, ?_, ?_⟩
  · rw [set_off _ _ _ _ _ (by omega), set_off _ _ _ _ _ (by omega), set_off _ _ _ _ _ (by omega), set_same _ _ _ _ h0]
  · rw [set_off _ _ _ _ _ (by omega), set_off _ _ _ _ _ (by omega)]
    exact set_same _ _ _ _ (by rw [set_off _ _ _ _ _ (by omega)]; exact h1)
  · rw [set_off _ _ _ _ _ (by omega)]
    exact set_same _ _ _ _ (by rw [set_off _ _ _ _ _ (by omega), set_off _ _ _ _ _ (by omega)]; exact h2)
  · exact set_same _ _ _ _ (by rw [set_off _ _ _ _ _ (by omega), set_off _ _ _ _ _ (by omega), set_off _ _ _ _ _ (by omega)]; exact h3)
theorem set4n_some (w : World) (g o : Nat) (t : NT) (a : Option Addr) (cap j : Nat) (h : ∀ j, j < 4 → (w.cell? ⟨g, o + j, none⟩).isSome = true) (hj : (w.cell? ⟨g, j, none⟩).isSome = true) : ((set4n w g o t a cap).cell? ⟨g, j, none⟩).isSome = true := by
  by_cases c : j < o ∨ o + 4 ≤ j
  · rw [set4n_off _ _ _ _ _ _ _ _ (.inr c)]; exact hj
  · obtain ⟨q0, q1, q2, q3⟩ := set4n_at w g o t a cap h
    obtain ⟨d, rfl⟩ : ∃ d, j = o + d := ⟨j - o, by omega⟩
    match d, (show d < 4 by omega) with
    | 0, _ => simp [q0]
    | 1, _ => simp [q1]
    | 2, _ => simp [q2]
    | 3, _ => simp [q3]
theorem NHalf.store {g n k : Nat} {ts : List NT} {w : World} (h : NHalf g n k ts w) (hk : k < ts.length) (hn : ts.length = n) (a : Option Addr) (cap : Nat) (hK : NKids (g + 1) w ts[k].kids a) (f0 : ts[k].text.size ≤ maxLen) (f1 : ts[k].kids.length ≤ maxLen) :
    NHalf g n (k + 1) ts (set4n w g (k * 4) ts[k] a cap) := by
  obtain ⟨h0, h1, h2⟩ := h
  have hs : ∀ j, j < 4 → (w.cell? ⟨g, k * 4 + j, none⟩).isSome = true := fun j hj => (h1 (k * 4 + j) (by omega)).1
  have hz := set4n_size w g (k * 4) ts[k] a cap
  refine ⟨⟨by rw [hz]; exact h0.1, fun j => by rw [set4n_frozen]; exact h0.2 j⟩, fun j hj => ⟨set4n_some _ _ _ _ _ _ _ hs (h1 j hj).1, by rw [set4n_frozen]; exact (h1 j hj).2⟩, fun i hi hik => ?_⟩
  by_cases c : i = k
  · subst c
    have q := set4n_at w g (i * 4) ts[i] a cap hs
    refine ⟨a, cap, ⟨g, 0, rfl, ⟨Nat.le_refl _, .inr fun j => by rw [set4n_frozen]; exact h0.2 j⟩, by rw [hz]; exact h0.1, by rw [Nat.zero_add]; exact q, f0, f1⟩, ?_⟩
    exact hK.of (by rw [hz]; exact Nat.le_refl _) fun b o hb _ => ⟨set4n_off _ _ _ _ _ _ _ _ (.inl (by omega)), set4n_frozen _ _ _ _ _ _ _⟩
  · obtain ⟨a', cap', ⟨b, o, e, e0, e1, ⟨c0, c1, c2, c3⟩, g0, g1⟩, kk⟩ := h2 i hi (by omega)
    cases e
    have hq : ∀ d, d < 4 → (set4n w g (k * 4) ts[k] a cap).cell? ⟨g, 0 + i * 4 + d, none⟩ = w.cell? ⟨g, 0 + i * 4 + d, none⟩ := fun d hd => set4n_off _ _ _ _ _ _ _ _ (.inr (by omega))
    refine ⟨a', cap', ⟨g, 0, rfl, ⟨e0.1, e0.2.imp id fun q j => by rw [set4n_frozen]; exact q j⟩, by rw [hz]; exact e1, ⟨(hq 0 (by omega)).trans c0, (hq 1 (by omega)).trans c1, (hq 2 (by omega)).trans c2, (hq 3 (by omega)).trans c3⟩, g0, g1⟩, ?_⟩
    exact kk.of (by rw [hz]; exact Nat.le_refl _) fun b o hb _ => ⟨set4n_off _ _ _ _ _ _ _ _ (.inl (by omega)), set4n_frozen _ _ _ _ _ _ _⟩
theorem infoNd : (Try.prog.info? 58).map (fun i => (i.zero, i.size, i.bytes)) = some (some (.agg #[.int .i64 0, .int .i64 0, .string ⟨#[]⟩, .slice none 0 0]), 4, 56) := by kernel_rfl
theorem make_resN (w : World) (n : Nat) (hn : n ≤ 1048576) : ∃ cs : Array Value, cs.size = n * 4 ∧
    (Instr.makeSlice 56 (.int .i64 (n : Int)) (.int .i64 (n : Int))).run Try.prog w = .ok (.slice (some ⟨w.heap.size, 0, none⟩) n n) (w.alloc (.cells cs 58)) := by
  obtain ⟨i0, hi, hz0, hz1, hz2⟩ := info_parts infoNd
  have h := run_make (P := Try.prog) w 56 58 i0 _ Try.underlying56 hi hz0 .i64 .i64 n n (by omega) (by omega) (by rw [hz2]; omega) (by omega)
  rw [hz1] at h
  exact ⟨_, size_madeCells _ _, by simpa using h⟩
theorem NHalf.start {w : World} {n : Nat} {cs : Array Value} {e : TypeId} (hcs : cs.size = n * 4) (ts : List NT) : NHalf w.heap.size n 0 ts (w.alloc (.cells cs e)) := by
  refine ⟨⟨by simp, fun j => ?_⟩, fun j hj => ⟨?_, ?_⟩, fun i hi hk => by omega⟩
  · have hb : (w.alloc (.cells cs e)).heap[w.heap.size]? = some (.cells cs e) := heap_alloc_new w _
    simp only [World.frozen?, hb]
    simp
  · rw [World.cell?_alloc_at _ _ _ _ rfl]
    simp [show j < cs.size by omega]
  · have hb : (w.alloc (.cells cs e)).heap[w.heap.size]? = some (.cells cs e) := heap_alloc_new w _
    simp only [World.frozen?, hb]
    simp
set_option maxRecDepth 100000 in
set_option maxHeartbeats 1000000 in
theorem ntoAll_of {ts : List NT} (h : ∀ t ∈ ts, NtoOne t) : NtoAll ts := by
  intro a cap w hk hbill
  have HK := Lib.hid hk
  have HS := Lib.hid h
  clear hk h
  have hl : ts.length ≤ 1048576 := by simp only [NT.bill] at hbill; omega
  obtain ⟨cs, hcs, hmk⟩ := make_resN w ts.length hl
  have H0 := Lib.hid (NHalf.start (w := w) (e := 58) hcs ts)
  go_enter Try.func60, Try.ntmps60
  go_wp2_with fail
  go_loopw [4] (fun i wr => ∃ k : Nat, k ≤ ts.length ∧ i = .int .i64 (k : Int) ∧ NHalf w.heap.size ts.length k ts wr ∧ Below w.heap.size w wr) (fun i _ => ts.length - (intOf i).toNat)
  case atStart => exact ⟨0, Nat.zero_le _, rfl, H0.out, (Below.refl _ _).alloc (Nat.le_refl _) _⟩
  case round =>
    obtain ⟨k, hkl, rfl, hh, hb⟩ := hrel
    have HB := Lib.hid hb
    have HH := Lib.hid hh
    clear hb hh
    by_cases hlt : k < ts.length
    · obtain ⟨a', cap', he, hk'⟩ := (HK.out.kept (Nat.le_refl _) HB.out).elem k hlt
      obtain ⟨b, o, rfl, _, hbl, ⟨e0, e1, e2, e3⟩, f0, f1⟩ := he
      have HO := Lib.hid (HS.out ts[k] (List.getElem_mem hlt))
      have hcost : NT.cost ts[k] ≤ 1048576 := by
        have h1 := NT.costs_take ts k hlt
        have h2 := NT.costs_le ts (k + 1)
        simp only [NT.bill] at hbill; omega
      have HN := Lib.hid (fun W (hw : NHalf w.heap.size ts.length k ts W) a cap hK => hw.store hlt rfl a cap hK f0 f1)
      generalize ts[k] = t at *
      have HK' := Lib.hid hk'
      clear hk'
      go_wp2_with fail
      refine (HO.out _ _ _ HK'.out hcost).mono ?_
      rintro e w1 ⟨a2, cap2, rfl, hk2, hb1⟩
      have hh1 := HH.out.kept hb1
      have hg := HH.out.1.1
      obtain ⟨q0, p0⟩ := hh1.2.1 (k * 4) (by omega)
      obtain ⟨q1, p1⟩ := hh1.2.1 (k * 4 + 1) (by omega)
      obtain ⟨q2, p2⟩ := hh1.2.1 (k * 4 + 2) (by omega)
      obtain ⟨q3, p3⟩ := hh1.2.1 (k * 4 + 3) (by omega)
      obtain ⟨y0, q0⟩ := Option.isSome_iff_exists.1 q0
      obtain ⟨y1, q1⟩ := Option.isSome_iff_exists.1 q1
      obtain ⟨y2, q2⟩ := Option.isSome_iff_exists.1 q2
      obtain ⟨y3, q3⟩ := Option.isSome_iff_exists.1 q3
      have HF := Lib.hid (HN.out w1 hh1 a2 cap2 (hk2.mono (by omega)))
      have HB1 := Lib.hid (HB.out.trans (hb1.mono HB.out.size))
      clear hk2 hb1 hh1
      unfold ndV
      go_wp2_with fail
      go_roundw
      case rel => exact ⟨k + 1, by omega, by go_num, HF.out, set4n_below HB1.out _ _ _ _ _ (Nat.le_refl _)⟩
      case measure => simp [intOf]; omega
    · obtain rfl : k = ts.length := by omega
      go_wp2_with fail
      go_ret
      exact ⟨_, _, rfl, HH.out.all rfl, HB.out⟩
theorem ntoAll_all : ∀ (N : Nat) (ts : List NT), NT.szs ts ≤ N → NtoAll ts := by
  intro N
  induction N with
  | zero => intro ts h; exact ntoAll_of fun t ht => by have := NT.sz_mem ts t ht; have := NT.sz_pos t; omega
  | succ N ih => intro ts h; exact ntoAll_of fun t ht => ntoOne_of (ih _ (by have := NT.sz_mem ts t ht; have := NT.sz_eq t; omega))
theorem toNode_any (t : NT) : NtoOne t := ntoOne_of (ntoAll_all _ _ (Nat.le_refl _))
end Go.Proofs.Ytghmkfehohgmgaa.kit
