/-
  Contract of impl.Matches over this seat's translation. Conditions: a text of at most 1048576 bytes, a tree that costs at most so much; the table by which bits are told is there.
-/
import Derived.Test.YtppfnaenamcnpaaDoorMrIo1
import Derived.Test.YtppfnaenamcnpaaDoorMrMc0
import Derived.Test.YtppfnaenamcnpaaDoorMrMs8
set_option linter.unusedVariables false
set_option linter.unusedSimpArgs false
open Go.ChangeShapes Go.WideShapes Go.ChangeAt Go.RowKit
namespace Go.Proofs.YtppfnaenamcnpaaDoor.kit
attribute [local go_sem] Oper.semAt_some
theorem matchesIn_in (n : Nat) (t : RT) (s : ByteArray) (a : Option Addr) (cap : Nat) (w : World) :
 CallsIn Fence.wide n Tryd.prog 47 #[reV t a cap, .string s] w fun e w' => e = .returned (.func (.func 70) #[] #[.pointer (some ⟨w.heap.size, 0, none⟩), .pointer (some ⟨w.heap.size + 1, 0, none⟩)]) ∧ w' = (w.alloc (.cells #[.int .i64 t.kind, .string t.set, .bool t.neg, .int .i64 t.low, .int .i64 t.high, .slice a t.kids.length cap] 26)).alloc (.cells #[.string s] 9) := by
 obtain ⟨k, ss, nn, lo, hi, ts⟩ := t
 unfold reV
 simp only [RT.kind, RT.set, RT.neg, RT.low, RT.high, RT.kids]
 refine callsIn_of_wp Tryd.func47 rfl trivial ?_ rfl
 simp only [Tryd.ntmps47, List.size_toArray, List.length_cons, List.length_nil, Nat.reduceAdd, Nat.reduceSub, Array.replicate_succ, Array.replicate_zero, List.push_toArray, List.append_toArray, List.nil_append, List.cons_append]
 gi_wp2
 go_ret
 exact ⟨rfl, rfl⟩
end Go.Proofs.YtppfnaenamcnpaaDoor.kit
namespace Go.Proofs.YtppfnaenamcnpaaDoor.kit
theorem matchRest_nil {Z : Int → Int} {n i : Nat} {acc : List (Nat × Nat)} {last : Int} (h : foundZ Z n i = []) (hw : ((foundZ Z n i).foldl matchStep (acc, last)).1 = matchesZ Z n) : acc = matchesZ Z n := by
 rw [h] at hw; exact hw
theorem matchStep_no {s : List (Nat × Nat) × Int} {p : Nat × Nat} (h : p.1 = p.2 ∧ (p.1 : Int) = s.2) : matchStep s p = s := by unfold matchStep; rw [if_pos h]
theorem matchStep_yes {s : List (Nat × Nat) × Int} {p : Nat × Nat} (h : ¬ (p.1 = p.2 ∧ (p.1 : Int) = s.2)) : matchStep s p = (s.1 ++ [p], (p.2 : Int)) := by unfold matchStep; rw [if_neg h]
theorem foundZ_out {Z : Int → Int} {n i : Nat} (h : n < i) : foundZ Z n i = [] := foundF_none _ _ _ (fun b hb => by have := ((begsL_mem Z n b).1 hb).1; omega)
theorem Box.below {p : Nat} {k : Int} {s : ByteArray} {n : Bool} {lo hi : Int} {ts : List RT} {a : Option Addr} {cap : Nat} {w w' : World} (h : Box p k s n lo hi ts a cap w) (hb : Below (p + 1) w w') : Box p k s n lo hi ts a cap w' := by
 obtain ⟨⟨h0, h1, h2, h3, h4, h5⟩, q⟩ := h
 have e : ∀ j, w'.cell? ⟨p, j, none⟩ = w.cell? ⟨p, j, none⟩ := fun j => World.cell?_of_block (a := ⟨p, j, none⟩) (hb.block p (Nat.lt_succ_self p))
 exact ⟨⟨(e _).trans h0, (e _).trans h1, (e _).trans h2, (e _).trans h3, (e _).trans h4, (e _).trans h5⟩, Nat.lt_of_lt_of_le q hb.size⟩
set_option maxRecDepth 100000 in
set_option maxHeartbeats 2000000 in
theorem specMatches_any (t : RT) (s : ByteArray) (a : Option Addr) (cap : Nat) (w : World) (hs : s.size ≤ 1048576) (hc : RT.cost t ≤ 1048576) (hk : Kids 0 w t.kids a) :
 Calls Tryd.prog 20 #[reV t a cap, .string s] w fun e w' => ∃ v, e = .returned v ∧ OwnPr w.heap.size w' v (matchesZ (matchZ s.data.toList t) s.size) ∧ Below w.heap.size w w' := by
 have HK := Lib.hid hk
 have HM := Lib.hid (fun W (j : Nat) h => specFindRe_any t s (j : Int) a cap W hs hc h)
 have hsm : (s.size : Int) ≤ 1048576 := by omega
 have HB := Lib.hid (show ∀ o, Below w.heap.size w (w.alloc o) from fun o => (Below.refl w.heap.size w).alloc (Nat.le_refl _) _)
 have HZL := Lib.hid (show ∀ j : Nat, j ≤ s.size → 0 ≤ matchZ s.data.toList t (j : Int) → (j : Int) ≤ matchZ s.data.toList t (j : Int) ∧ matchZ s.data.toList t (j : Int) ≤ s.size from matchZ_bd)
 generalize matchZ s.data.toList t = Z at *
 have HNX := Lib.hid (fun i => foundZ_next (fun j h1 h2 => (HZL.out j h1 h2).1) i)
 clear hk hs
 obtain ⟨k, ss, n, lo, hi, ts⟩ := t
 unfold reV
 simp only [RT.set, RT.kids, RT.kind, RT.neg, RT.low, RT.high, reV] at *
 have HBX0 := Lib.hid (Box.start (k := k) (s := ss) (n := n) (lo := lo) (hi := hi) (ts := ts) (a := a) (cap := cap) w 26)
 have HO0 := Lib.hid (show ∀ o, OwnPr (w.heap.size + 1) ((w.alloc o).alloc (.cells #[] 79)) (.slice (some ⟨w.heap.size + 1, 0, none⟩) 0 0) [] from fun o => by
  have h := ownPr_start (B := w.heap.size + 1) (w := w.alloc o) (by simp)
  rw [World.size_alloc] at h; exact h)
 go_enter Tryd.func20, Tryd.ntmps20
 go_wp2_with fail
 go_loopg [5, 6, 7] (s.size + 1) (fun gg vo vl vi wr => ∃ (a' : Option Addr) (cap' : Nat) (acc : List (Nat × Nat)) (last : Int) (i : Nat), vo = .slice a' acc.length cap' ∧ vl = .int .i64 last ∧ vi = .int .i64 (i : Int) ∧ gg = s.size + 1 - i ∧ i ≤ s.size + 1 ∧ acc.length ≤ i ∧ OwnPr (w.heap.size + 1) wr (.slice a' acc.length cap') acc ∧ ((foundZ Z s.size i).foldl matchStep (acc, last)).1 = matchesZ Z s.size ∧ Box w.heap.size k ss n lo hi ts a cap wr ∧ Below w.heap.size w wr)
 case atStart => exact ⟨_, _, [], -1, 0, rfl, rfl, rfl, rfl, Nat.zero_le _, Nat.le_refl _, HO0.out _, rfl, HBX0.out.step ((Below.refl _ _).alloc (Nat.le_refl _) _), (HB.out _).alloc (by simp) _⟩
 case round =>
  obtain ⟨a', cap', acc, last, i, rfl, rfl, rfl, hgk, hi1, hai, ho, hfz, hbx, hbe⟩ := hrel
  have HGK := Lib.hid hgk
  have HFZ := Lib.hid hfz
  have HBX := Lib.hid hbx
  have HBE := Lib.hid hbe
  have HO := Lib.hid ho
  clear hgk hfz hbx hbe ho
  obtain ⟨⟨x0, x1, x2, x3, x4, x5⟩, _⟩ := HBX.out
  obtain ⟨la, hla⟩ : ∃ la, la = acc.length := ⟨_, rfl⟩
  have HLA := Lib.hid hla
  rw [← hla] at hai HO ⊢
  clear hla
  by_cases h1 : i ≤ s.size
  · have h1' : (i : Int) ≤ (s.size : Int) := by omega
    rcases HNX.out i with ⟨e1, e2⟩ | ⟨b, hb1, hb2, hb3, hb4, hb5⟩
    · have HM1 := Lib.hid (fun W h => HM.out W i h)
      rw [e1] at HM1
      have HEND := Lib.hid (matchRest_nil e2 HFZ.out)
      clear e1 e2
      go_wp2_with fail
      refine (HM1.out _ (HK.out.kept (Nat.le_refl _) HBE.out)).mono ?_
      rintro e w2 ⟨rfl, hb2⟩
      have HB2 := Lib.hid hb2
      clear hb2
      go_wp2_with fail
      go_ret
      refine ⟨_, rfl, ?_, HBE.out.trans (HB2.out.mono HBE.out.size)⟩
      have h := (HO.out.kept HB2.out).mono (B' := w.heap.size) (by omega)
      rw [HLA.out, HEND.out] at h
      rw [HLA.out, HEND.out]
      exact h
    · have hz := HZL.out b hb2 hb4
      obtain ⟨zn, hzn⟩ : ∃ zn : Nat, zn = (Z (b : Int)).toNat := ⟨_, rfl⟩
      have hzx : Z (b : Int) = (zn : Int) := by omega
      have HM1 := Lib.hid (fun W h => HM.out W i h)
      rw [hb3, hzx] at HM1
      rw [← hzn] at hb5
      have HF5 := Lib.hid hb5
      have hzb : b ≤ zn ∧ zn ≤ s.size := by omega
      clear hb3 hb4 hb5 hz hzn hzx
      go_wp2_with fail
      refine (HM1.out _ (HK.out.kept (Nat.le_refl _) HBE.out)).mono ?_
      rintro e w2 ⟨rfl, hw2⟩
      have HB2 := Lib.hid (HBE.out.trans (hw2.mono HBE.out.size))
      have HX2 := Lib.hid (HBX.out.step hw2)
      have HO2 := Lib.hid (HO.out.kept hw2)
      have hbn : ¬ ((b : Int) < 0) := by omega
      have hbn2 : decide ((b : Int) < 0) = false := by rw [decide_eq_false_iff_not]; exact hbn
      clear hw2 x0 x1 x2 x3 x4 x5 HM1
      by_cases hbz : zn = b
      · subst hbz
        have hltd : decide ((zn : Int) < (zn : Int)) = false := by rw [decide_eq_false_iff_not]; omega
        have heq : ((zn : Int) == (zn : Int)) = true := by rw [beq_iff_eq]
        have hw : IntKind.i64.wrap ((zn : Int) + 1) = (zn : Int) + 1 := by rw [IntKind.wrap_i64]; omega
        by_cases hbl : (zn : Int) = last
        · have hbe : ((zn : Int) != last) = false := by simp [hbl]
          have HBL := Lib.hid hbl
          clear hbl
          go_wp2_with fail
          go_roundg (s.size + 1 - (zn + 1))
          case rel =>
           refine ⟨a', cap', acc, last, zn + 1, by rw [HLA.out], rfl, by go_num, rfl, by omega, by have := HLA.out; omega, by rw [← HLA.out]; exact HO2.out, ?_, HX2.out, HB2.out⟩
           have h := HFZ.out
           rw [HF5.out, List.foldl_cons, matchStep_no (s := (acc, last)) (p := (zn, zn)) ⟨rfl, HBL.out⟩] at h
           simpa using h
          case measure => have := HGK.out; omega
        · have hbe : ((zn : Int) != last) = true := by rw [bne_iff_ne]; exact hbl
          have HBL := Lib.hid hbl
          clear hbl
          go_wp2_with (at_builtin; refine wp_append_pair rfl _ _ rfl (w.heap.size + 1) (.slice a' la cap') acc rfl (HO2.out.kept ((Below.refl _ _).alloc (Nat.le_refl _) _)) w2.heap.size 1 (zn, zn) rfl (by rw [World.cell?_alloc_at _ _ _ _ (by simp)]; rfl) (by rw [World.cell?_alloc_at _ _ _ _ (by simp)]; rfl) (by have := HLA.out; omega) (by have := HX2.out.2; simp; omega) ?_; intro v3 w3 ho3 hg3 hb3; obtain ⟨a3, cap3, rfl, _⟩ := ho3.look; have hB3 := Lib.hid (show Below (w.heap.size + 1) w2 w3 from Below.grown ((Below.refl _ _).alloc HX2.out.2 _) hg3 (by have := HX2.out.2; simp; omega) (fun q hq => (HO2.out.lt q hq).1)); have HO3 := Lib.hid ho3; clear ho3 hg3 hb3; obtain ⟨l3, hl3⟩ : ∃ l3, l3 = (acc ++ [(zn, zn)]).length := ⟨_, rfl⟩; have HL3 := Lib.hid hl3; rw [← hl3] at HO3 ⊢; clear hl3)
          go_roundg (s.size + 1 - (zn + 1))
          case rel =>
           refine ⟨a3, cap3, acc ++ [(zn, zn)], (zn : Int), (zn + 1), by rw [HL3.out], rfl, by go_num, rfl, by omega, by rw [List.length_append]; have := HLA.out; simp; omega, by rw [← HL3.out]; exact HO3.out, ?_, HX2.out.below hB3.out, HB2.out.trans (hB3.out.mono (by omega))⟩
           have h := HFZ.out
           rw [HF5.out, List.foldl_cons, matchStep_yes (s := (acc, last)) (p := (zn, zn)) (fun h => HBL.out h.2)] at h
           simpa using h
          case measure => have := HGK.out; omega
      · have hlt : (b : Int) < (zn : Int) := by omega
        have hltd : decide ((b : Int) < (zn : Int)) = true := by rw [decide_eq_true_iff]; exact hlt
        have heq : ((zn : Int) == (b : Int)) = false := by rw [beq_eq_false_iff_ne]; omega
        go_wp2_with (at_builtin; refine wp_append_pair rfl _ _ rfl (w.heap.size + 1) (.slice a' la cap') acc rfl (HO2.out.kept ((Below.refl _ _).alloc (Nat.le_refl _) _)) w2.heap.size 1 (b, zn) rfl (by rw [World.cell?_alloc_at _ _ _ _ (by simp)]; rfl) (by rw [World.cell?_alloc_at _ _ _ _ (by simp)]; rfl) (by have := HLA.out; omega) (by have := HX2.out.2; simp; omega) ?_; intro v3 w3 ho3 hg3 hb3; obtain ⟨a3, cap3, rfl, _⟩ := ho3.look; have hB3 := Lib.hid (show Below (w.heap.size + 1) w2 w3 from Below.grown ((Below.refl _ _).alloc HX2.out.2 _) hg3 (by have := HX2.out.2; simp; omega) (fun q hq => (HO2.out.lt q hq).1)); have HO3 := Lib.hid ho3; clear ho3 hg3 hb3; obtain ⟨l3, hl3⟩ : ∃ l3, l3 = (acc ++ [(b, zn)]).length := ⟨_, rfl⟩; have HL3 := Lib.hid hl3; rw [← hl3] at HO3 ⊢; clear hl3)
        go_roundg (s.size + 1 - zn)
        case rel =>
         refine ⟨a3, cap3, acc ++ [(b, zn)], (zn : Int), zn, by rw [HL3.out], rfl, by go_num, rfl, by omega, by rw [List.length_append]; have := HLA.out; simp; omega, by rw [← HL3.out]; exact HO3.out, ?_, HX2.out.below hB3.out, HB2.out.trans (hB3.out.mono (by omega))⟩
         have h := HFZ.out
         rw [HF5.out, List.foldl_cons, matchStep_yes (s := (acc, last)) (p := (b, zn)) (fun h => hbz h.1.symm), if_neg hbz] at h
         exact h
        case measure => have := HGK.out; omega
  · have HEND := Lib.hid (matchRest_nil (foundZ_out (by omega)) HFZ.out)
    have h1' : ¬ (i : Int) ≤ (s.size : Int) := by omega
    go_wp2_with fail
    go_ret
    refine ⟨_, rfl, ?_, HBE.out⟩
    have h := HO.out.mono (B' := w.heap.size) (by omega)
    rw [HLA.out, HEND.out] at h
    rw [HLA.out, HEND.out]
    exact h
end Go.Proofs.YtppfnaenamcnpaaDoor.kit
