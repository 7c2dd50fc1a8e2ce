/-
  Contract of spec.l04Step over this seat's translation, at every right tree; of spec.MatchAt at every tree. Conditions: each theorem names its own.
-/
import Derived.Test.YtcimhpdpfckgiaaGreatDoorMxMs5
import Derived.Test.YtcimhpdpfckgiaaGreatDoorMxRe6
set_option linter.unusedVariables false
set_option linter.unusedSimpArgs false
open Go.ChangeShapes Go.WideShapes Go.ChangeAt Go.RowKit
namespace Go.Proofs.YtcimhpdpfckgiaaGreatDoor.kit
theorem RT.own_set {k : Int} {ss : ByteArray} {n : Bool} {lo hi : Int} {ts : List RT} (h : RT.own (.node k ss n lo hi ts) = true) : ss.size ≤ 1048576 := by
 have e : ss.data.toList.length = ss.size := by simp
 have hemp : ss.data.toList.isEmpty = true → ss.size ≤ 1048576 := fun h => by
  rw [List.isEmpty_iff] at h
  rw [h] at e
  simp at e; omega
 rw [own_eq] at h
 unfold ownB at h
 by_cases c1 : (k == 0 || k == 1 || k == 6 || k == 7) = true
 · rw [if_pos c1] at h; simp only [Bool.and_eq_true] at h; exact hemp h.1.2.1
 · rw [if_neg c1] at h
   by_cases c2 : (k == 2) = true
   · rw [if_pos c2] at h; simp only [Bool.and_eq_true] at h
     have := RT.asc_len _ h.1.2.1
     omega
   · rw [if_neg c2] at h
     by_cases c3 : (k == 3 || k == 4) = true
     · rw [if_pos c3] at h; simp only [Bool.and_eq_true] at h; exact hemp h.1.2.1
     · rw [if_neg c3] at h
       by_cases c4 : (k == 5) = true
       · rw [if_pos c4] at h; simp only [Bool.and_eq_true] at h; exact hemp h.1.1.1.1
       · rw [if_neg c4] at h; cases h
theorem RT.own_many {ss : ByteArray} {n : Bool} {lo hi : Int} {ts : List RT} (h : RT.own (.node 5 ss n lo hi ts) = true) : (0 ≤ lo ∧ lo ≤ 9) ∧ (hi = -1 ∨ (lo ≤ hi ∧ hi ≤ 9)) := by
 rw [own_eq] at h
 unfold ownB at h
 rw [if_neg (by decide), if_neg (by decide), if_neg (by decide), if_pos (by decide)] at h
 simp only [Bool.and_eq_true, Bool.or_eq_true, decide_eq_true_eq] at h
 exact ⟨h.1.2, h.2⟩
theorem stOne_of {t : RT} (h : ∀ u ∈ t.kids, stOne u) : stOne t := by
 intro hg s a cap w xs v hs hk hp
 have ho := RT.good_own hg
 have hgk := RT.good_kids hg
 obtain ⟨k, ss, n, lo, hi, ts⟩ := t
 have hss := RT.own_set ho
 rcases RT.own_shape ho with ⟨hk0, rfl⟩ | ⟨hk0, x, y, rfl⟩ | ⟨rfl, x, rfl⟩
 · rcases hk0 with rfl | rfl | rfl | rfl | rfl
   · exact stK0 ss n lo hi s a cap w xs v hs hp
   · exact stK1 ss n lo hi s a cap w xs v hs hss hp
   · exact stK6 ss n lo hi s a cap w xs v hs hss hp
   · exact stK7 ss n lo hi s a cap w xs v hs hss hp
   · exact stK2 ss n lo hi s a cap w xs v hs hss hp
 · rcases hk0 with rfl | rfl
   · exact stK3 ss n lo hi x y s a cap w xs v hs (h x (by simp [RT.kids])) (h y (by simp [RT.kids])) (hgk x (by simp [RT.kids])) (hgk y (by simp [RT.kids])) hk hp
   · exact stK4 ss n lo hi x y s a cap w xs v hs (h x (by simp [RT.kids])) (h y (by simp [RT.kids])) (hgk x (by simp [RT.kids])) (hgk y (by simp [RT.kids])) hk hp
 · have hm := RT.own_many ho
   exact stK5 ss n lo hi x s a cap w xs v hs hm.1 hm.2 (h x (by simp [RT.kids])) (hgk x (by simp [RT.kids])) hk hp
theorem stAll : ∀ (N : Nat) (t : RT), RT.sz t ≤ N → stOne t := by
 intro N
 induction N with
 | zero => intro t h; have := RT.sz_pos t; omega
 | succ N ih => intro t h; exact stOne_of fun u hu => ih u (by have := RT.sz_kid t u hu; omega)
theorem st_any (t : RT) : stOne t := stAll _ t (Nat.le_refl _)
noncomputable def lastZ (P : Nat → Prop) : Int := by
 classical exact if h : ∃ j, P j ∧ ∀ i, P i → i ≤ j then ((Classical.choose h : Nat) : Int) else -1
theorem lastZ_of {P : Nat → Prop} {j : Nat} (h : P j) (hm : ∀ i, P i → i ≤ j) : lastZ P = (j : Int) := by
 have hx : ∃ j, P j ∧ ∀ i, P i → i ≤ j := ⟨j, h, hm⟩
 unfold lastZ
 rw [dif_pos hx]
 have hc := Classical.choose_spec hx
 have h1 := hc.2 j h
 have h2 := hm _ hc.1
 omega
theorem lastZ_none {P : Nat → Prop} (h : ∀ j, ¬ P j) : lastZ P = -1 := by
 unfold lastZ
 rw [dif_neg (fun ⟨j, hj, _⟩ => h j hj)]
noncomputable def matchZ (l : List UInt8) (t : RT) (i : Int) : Int := by
 classical exact if 0 ≤ i ∧ i ≤ l.length ∧ RT.ok t = true then lastZ (fun j => RT.M l t i.toNat j) else -1
theorem matchZ_out {l : List UInt8} {t : RT} {i : Int} (h : ¬ (0 ≤ i ∧ i ≤ l.length)) : matchZ l t i = -1 := by
 unfold matchZ; rw [if_neg (fun c => h ⟨c.1, c.2.1⟩)]
theorem matchZ_bad {l : List UInt8} {t : RT} {i : Int} (h : RT.ok t = false) : matchZ l t i = -1 := by
 unfold matchZ; rw [if_neg (fun c => by rw [h] at c; exact absurd c.2.2 (by simp))]
theorem matchZ_in {l : List UInt8} {t : RT} {m : Nat} (h : m ≤ l.length) (ho : RT.ok t = true) : matchZ l t (m : Int) = lastZ (fun j => RT.M l t m j) := by
 unfold matchZ; rw [if_pos ⟨by omega, by omega, ho⟩]; rfl
theorem PRow.one (w : World) (y m : Nat) (h : y ≤ m) : PRow (w.alloc (.cells #[.int .i64 (y : Int)] 3)) [y] m (.slice (some ⟨w.heap.size, 0, none⟩) 1 1) where
 at_ := ⟨w.heap.size, 1, rfl, ⟨fun j hj => by
  obtain rfl : j = 0 := by simpa using hj
  exact cell_one w (.int .i64 (y : Int)) 3, by simp, Nat.le_refl _, by unfold maxLen; simp⟩⟩
 asc := List.pairwise_singleton _ _
 le := fun x hx => by simp at hx; omega
theorem matchZ_nil {l : List UInt8} {t : RT} {m : Nat} {ys : List Nat} (h : m ≤ l.length) (ho : RT.ok t = true) (hy : ∀ j, j ∈ ys ↔ ∃ i, i ∈ [m] ∧ RT.M l t i j) (h0 : ys.length = 0) : matchZ l t (m : Int) = -1 := by
 rw [matchZ_in h ho]
 refine lastZ_none fun j hj => ?_
 have := (hy j).2 ⟨m, by simp, hj⟩
 rw [List.length_eq_zero_iff.1 h0] at this
 simp at this
theorem matchZ_last {l : List UInt8} {t : RT} {m : Nat} {ys : List Nat} (h : m ≤ l.length) (ho : RT.ok t = true) (hy : ∀ j, j ∈ ys ↔ ∃ i, i ∈ [m] ∧ RT.M l t i j) (ha : AscN ys) (q : Nat) (hq : ys.length = q + 1) : matchZ l t (m : Int) = ((ys[q]'(by omega) : Nat) : Int) := by
 have hP : PlN ys (fun j => RT.M l t m j) := ⟨ha, fun j => (hy j).trans ⟨fun ⟨i, a, b⟩ => by
  obtain rfl : i = m := by simpa using a
  exact b, fun b => ⟨m, by simp, b⟩⟩⟩
 have hne : ys ≠ [] := fun e => by rw [e] at hq; simp at hq
 have hl := hP.last hne
 have e : ys.getLast hne = ys[q]'(by omega) := by
  rw [List.getLast_eq_getElem]
  congr 1
  omega
 rw [e] at hl
 rw [matchZ_in h ho]
 exact lastZ_of hl.1 hl.2
set_option maxRecDepth 100000 in
set_option maxHeartbeats 2000000 in
theorem specMatchAt_any (t : RT) (s : ByteArray) (i : Int) (a : Option Addr) (cap : Nat) (w : World) (hs : s.size ≤ 1048576) (hc : RT.cost t ≤ 1048576) (hk : Kids 0 w t.kids a) :
 Calls Tryz.prog 38 #[reV t a cap, .string s, .int .i64 i] w fun e w' => e = .returned (.int .i64 (matchZ s.data.toList t i)) ∧ Below w.heap.size w w' := by
 have HK := qd hk
 have HS := qd hs
 have HO := qd (fun W h => specReOk_any t a cap W h hc)
 have HG := qd (fun h => RT.ok_good (t := t) h)
 have HST := qd (st_any t)
 have hel : s.data.toList.length = s.size := by simp
 have HEL := qd hel
 have HB := qd (show ∀ o, Below w.heap.size w (w.alloc o) from fun o => (Below.refl w.heap.size w).alloc (Nat.le_refl _) _)
 clear hk hs hel
 by_cases hin : 0 ≤ i ∧ i ≤ s.size
 · have HI := qd (show ∀ W, Calls Tryz.prog 52 #[.int .i64 i, .int .i64 0, .int .i64 (s.size : Int)] W fun e w' => e = .returned (.bool true) ∧ W = w' from fun W => by
    have := in_any i 0 s.size W
    rwa [show inB i 0 s.size = true by simp [inB]; omega] at this)
   obtain ⟨m, rfl⟩ : ∃ m : Nat, i = (m : Int) := ⟨i.toNat, by omega⟩
   have hms : m ≤ s.size := by omega
   have HMS := qd hms
   clear hin hms
   cases hok : RT.ok t
   · have HZ := qd (matchZ_bad (l := s.data.toList) (i := (m : Int)) hok)
     rw [hok] at HO
     clear hok
     obtain ⟨k, ss, n, lo, hi, ts⟩ := t
     unfold reV
     simp only [RT.set, RT.kids, RT.kind, RT.neg, RT.low, RT.high, reV] at *
     have HBX := qd (Box.start (k := k) (s := ss) (n := n) (lo := lo) (hi := hi) (ts := ts) (a := a) (cap := cap) w 26)
     obtain ⟨⟨x0, x1, x2, x3, x4, x5⟩, _⟩ := HBX.out
     go_enter Tryz.func38, Tryz.ntmps38
     go_wp2_with (first | (go_at_call 52; refine (HI.out _).mono ?_; rintro e w1 ⟨rfl, rfl⟩) | (go_at_call 53; refine (HO.out _ (HK.out.alloc _)).mono ?_; rintro e w2 ⟨rfl, hb2⟩))
     go_ret
     exact ⟨by rw [HZ.out]; rfl, (HB.out _).trans (hb2.mono (HB.out _).size)⟩
   · have HG := qd (HG.out hok)
     have HNIL := qd (fun (ys : List Nat) hy h0 => matchZ_nil (l := s.data.toList) (t := t) (m := m) (ys := ys) (by rw [HEL.out]; exact HMS.out) hok hy h0)
     have HLAST := qd (fun (ys : List Nat) hy ha q hq => matchZ_last (l := s.data.toList) (t := t) (m := m) (ys := ys) (by rw [HEL.out]; exact HMS.out) hok hy ha q hq)
     have HCALL := qd (fun W (hW : Below w.heap.size w W) => (HST.out.step HG.out HS.out HK.out (cap := cap)).call (W.alloc (.cells #[.int .i64 (m : Int)] 3)) _ [m] (hW.trans (((Below.refl _ W).alloc (Nat.le_refl _) _).mono hW.size)) (PRow.one W m s.size HMS.out))
     rw [hok] at HO
     generalize matchZ s.data.toList t (m : Int) = z at *
     generalize RT.M s.data.toList t = R at *
     clear hok HST HG
     obtain ⟨k, ss, n, lo, hi, ts⟩ := t
     unfold reV
     simp only [RT.set, RT.kids, RT.kind, RT.neg, RT.low, RT.high, reV] at *
     have HBX := qd (Box.start (k := k) (s := ss) (n := n) (lo := lo) (hi := hi) (ts := ts) (a := a) (cap := cap) w 26)
     obtain ⟨⟨x0, x1, x2, x3, x4, x5⟩, _⟩ := HBX.out
     go_enter Tryz.func38, Tryz.ntmps38
     go_wp2_with (first | (go_at_call 52; refine (HI.out _).mono ?_; rintro e w1 ⟨rfl, rfl⟩) | (go_at_call 53; refine (HO.out _ (HK.out.alloc _)).mono ?_; rintro e w2 ⟨rfl, hb2⟩; have HB2 := qd ((HB.out _).trans (hb2.mono (HB.out _).size)); have HX2 := qd (HBX.out.step hb2); clear hb2 x0 x1 x2 x3 x4 x5; obtain ⟨⟨x0, x1, x2, x3, x4, x5⟩, _⟩ := HX2.out))
     refine (HCALL.out _ HB2.out).mono ?_
     rintro e w3 ⟨v3, ys, rfl, hp3, hy3, hb3⟩
     obtain ⟨b3, c3, rfl, hr3⟩ := hp3.at_
     have HBE := qd (show Below w.heap.size w w3 from (HB2.out.trans (((Below.refl _ w2).alloc (Nat.le_refl _) (.cells #[.int .i64 (m : Int)] 3)).mono HB2.out.size)).trans (hb3.mono (HB2.out.trans (((Below.refl _ w2).alloc (Nat.le_refl _) (.cells #[.int .i64 (m : Int)] 3)).mono HB2.out.size)).size))
     have hyl : (ys.length : Int) ≤ 1048577 := by have := hp3.len; have := HS.out; omega
     have HY3 := qd hy3
     have HA3 := qd hp3.asc
     have HR3 := qd hr3
     clear hp3 hy3 hb3 hr3 x0 x1 x2 x3 x4 x5
     by_cases h0 : ys.length = 0
     · have HF := qd (HNIL.out ys HY3.out h0)
       have e0 : ((ys.length : Int) == 0) = true := by rw [beq_iff_eq]; omega
       have e2 : (ys.length == 0) = true := by rw [beq_iff_eq]; exact h0
       go_wp2_with fail
       go_ret
       exact ⟨by rw [HF.out]; rfl, HBE.out⟩
     · obtain ⟨q, hq⟩ : ∃ q, ys.length = q + 1 := ⟨ys.length - 1, by omega⟩
       have hql : q < ys.length := by omega
       obtain ⟨y, hyq⟩ : ∃ y, y = ys[q] := ⟨_, rfl⟩
       have HF := qd (show z = (y : Int) from by rw [hyq]; exact HLAST.out ys HY3.out HA3.out q hq)
       have cq := HR3.out.cell q hql
       rw [← hyq] at cq
       unfold iV at cq
       have e0 : ((ys.length : Int) == 0) = false := by rw [beq_eq_false_iff_ne]; omega
       have e1 : (ys.length : Int) - 1 = (q : Int) := by omega
       have hq0 : (q : Int) < (ys.length : Int) := by omega
       have hq1 : (q : Int) ≤ 1048577 := by omega
       have e2 : (ys.length == 0) = false := by rw [beq_eq_false_iff_ne]; exact h0
       clear h0 hq hyq
       go_wp2_with fail
       go_ret
       exact ⟨by rw [HF.out]; rfl, HBE.out⟩
 · have HI := qd (show ∀ W, Calls Tryz.prog 52 #[.int .i64 i, .int .i64 0, .int .i64 (s.size : Int)] W fun e w' => e = .returned (.bool false) ∧ W = w' from fun W => by
    have := in_any i 0 s.size W
    rwa [show inB i 0 s.size = false by simp [inB]; omega] at this)
   have HZ := qd (matchZ_out (l := s.data.toList) (t := t) (i := i) (by rw [HEL.out]; exact hin))
   clear hin
   generalize matchZ s.data.toList t i = z at *
   obtain ⟨k, ss, n, lo, hi, ts⟩ := t
   unfold reV
   simp only [RT.set, RT.kids, RT.kind, RT.neg, RT.low, RT.high, reV] at *
   go_enter Tryz.func38, Tryz.ntmps38
   go_wp2_with (go_at_call 52; refine (HI.out _).mono ?_; rintro e w1 ⟨rfl, rfl⟩)
   go_ret
   exact ⟨by rw [HZ.out]; rfl, HB.out _⟩
def findF (Z : Int → Int) (n : Int) : Nat → Int → Int × Int
 | 0, _ => (-1, -1)
 | f + 1, i => if 0 ≤ i ∧ i ≤ n then (if 0 ≤ Z i then (i, Z i) else findF Z n f (i + 1)) else (-1, -1)
def findZ (Z : Int → Int) (n i : Int) : Int × Int := findF Z n (n + 1 - i).toNat i
theorem findZ_out {Z : Int → Int} {n i : Int} (h : ¬ (0 ≤ i ∧ i ≤ n)) : findZ Z n i = (-1, -1) := by
 unfold findZ
 cases (n + 1 - i).toNat with
 | zero => rfl
 | succ k => unfold findF; rw [if_neg h]
theorem findZ_hit {Z : Int → Int} {n i : Int} (h : 0 ≤ i) (h2 : i ≤ n) (hz : 0 ≤ Z i) : findZ Z n i = (i, Z i) := by
 unfold findZ
 obtain ⟨k, hk⟩ : ∃ k, (n + 1 - i).toNat = k + 1 := ⟨(n - i).toNat, by omega⟩
 rw [hk]
 unfold findF
 rw [if_pos ⟨h, h2⟩, if_pos hz]
theorem findZ_next {Z : Int → Int} {n i : Int} (h : 0 ≤ i) (h2 : i ≤ n) (hz : ¬ 0 ≤ Z i) : findZ Z n i = findZ Z n (i + 1) := by
 unfold findZ
 obtain ⟨k, hk⟩ : ∃ k, (n + 1 - i).toNat = k + 1 := ⟨(n - i).toNat, by omega⟩
 rw [hk, show (n + 1 - (i + 1)).toNat = k by omega]
 conv => lhs; unfold findF
 rw [if_pos ⟨h, h2⟩, if_neg hz]
set_option maxRecDepth 100000 in
set_option maxHeartbeats 2000000 in
theorem specFindRe_any (t : RT) (s : ByteArray) (i : Int) (a : Option Addr) (cap : Nat) (w : World) (hs : s.size ≤ 1048576) (hc : RT.cost t ≤ 1048576) (hk : Kids 0 w t.kids a) :
 Calls Tryz.prog 20 #[reV t a cap, .string s, .int .i64 i] w fun e w' => e = .returned (.tuple #[.int .i64 (findZ (matchZ s.data.toList t) s.size i).1, .int .i64 (findZ (matchZ s.data.toList t) s.size i).2]) ∧ Below w.heap.size w w' := by
 have HK := qd hk
 have HM := qd (fun W j h => specMatchAt_any t s j a cap W hs hc h)
 have hsm : (s.size : Int) ≤ 1048576 := by omega
 have HB := qd (show ∀ o, Below w.heap.size w (w.alloc o) from fun o => (Below.refl w.heap.size w).alloc (Nat.le_refl _) _)
 generalize matchZ s.data.toList t = Z at *
 clear hk hs
 obtain ⟨k, ss, n, lo, hi, ts⟩ := t
 unfold reV
 simp only [RT.set, RT.kids, RT.kind, RT.neg, RT.low, RT.high, reV] at *
 have HBX0 := qd (Box.start (k := k) (s := ss) (n := n) (lo := lo) (hi := hi) (ts := ts) (a := a) (cap := cap) w 26)
 go_enter Tryz.func20, Tryz.ntmps20
 go_wp2_with fail
 go_loopg [8] ((s.size + 1 - i).toNat) (fun gg vi wr => ∃ j : Int, vi = .int .i64 j ∧ gg = (s.size + 1 - j).toNat ∧ findZ Z s.size i = findZ Z s.size j ∧ Box w.heap.size k ss n lo hi ts a cap wr ∧ Below w.heap.size w wr)
 case atStart => exact ⟨i, rfl, rfl, rfl, HBX0.out, HB.out _⟩
 case round =>
  obtain ⟨j, rfl, hgk, hfz, hbx, hbe⟩ := hrel
  have HGK := qd hgk
  have HFZ := qd hfz
  have HBX := qd hbx
  have HBE := qd hbe
  clear hgk hfz hbx hbe
  obtain ⟨⟨x0, x1, x2, x3, x4, x5⟩, _⟩ := HBX.out
  by_cases h0 : 0 ≤ j
  · by_cases h1 : j ≤ (s.size : Int)
    · go_wp2_with fail
      refine (HM.out _ j (HK.out.kept (Nat.le_refl _) HBE.out)).mono ?_
      rintro e w2 ⟨rfl, hb2⟩
      have HB2 := qd (HBE.out.trans (hb2.mono HBE.out.size))
      have HX2 := qd (HBX.out.step hb2)
      clear hb2
      obtain ⟨zz, hzz⟩ : ∃ zz, zz = Z j := ⟨_, rfl⟩
      rw [← hzz]
      by_cases hz : 0 ≤ zz
      · have HF := qd (show findZ Z s.size i = (j, zz) from by rw [HFZ.out, hzz]; exact findZ_hit h0 h1 (by omega))
        clear hzz
        go_wp2_with fail
        go_ret2
        exact ⟨by rw [HF.out]; rfl, HB2.out⟩
      · have HF := qd (show findZ Z s.size i = findZ Z s.size (j + 1) from by rw [HFZ.out]; exact findZ_next h0 h1 (by omega))
        clear hzz
        go_wp2_with fail
        go_roundg (gk - 1)
        case rel => exact ⟨j + 1, by go_num, by have := HGK.out; omega, HF.out, HX2.out, HB2.out⟩
        case measure => have := HGK.out; omega
    · have HF := qd (show findZ Z s.size i = (-1, -1) from by rw [HFZ.out]; exact findZ_out (by omega))
      go_wp2_with fail
      go_ret2
      exact ⟨by rw [HF.out]; rfl, HBE.out⟩
  · have HF := qd (show findZ Z s.size i = (-1, -1) from by rw [HFZ.out]; exact findZ_out (by omega))
    go_wp2_with fail
    go_ret2
    exact ⟨by rw [HF.out]; rfl, HBE.out⟩
end Go.Proofs.YtcimhpdpfckgiaaGreatDoor.kit
