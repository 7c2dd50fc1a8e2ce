/-
 Contracts of spec.ReText and impl.ReText over this seat's translation: the text of an expression. Conditions: each theorem names its own.
-/
import Derived.Test.YtcpaneaiobnhdaaDoorMRt13
import Derived.Test.YtcpaneaiobnhdaaDoorMRe10
import Derived.Test.YtcpaneaiobnhdaaDoorMRe5
namespace Go.Proofs.YtcpaneaiobnhdaaDoor.kit
open Go.ChangeShapes Go.WideShapes Go.ChangeAt Go.RowKit
set_option linter.unusedVariables false

theorem own_set {s : ByteArray} {n : Bool} {lo hi : Int} {ts : List RT} (h : RT.own (.node 2 s n lo hi ts) = true) : RT.asc s.data.toList = true ∧ s.data.toList ≠ [] := by
 rw [own_eq] at h
 unfold ownB at h
 rw [if_neg (by decide), if_pos (by decide)] at h
 simp only [Bool.and_eq_true, Bool.not_eq_true'] at h
 refine ⟨h.1.2.1, fun e => ?_⟩
 have h3 := h.1.2.2
 rw [e] at h3
 cases h3
theorem txS_of {t : RT} (hg : RT.good t) (hc : RT.cost t ≤ 1048576) (h : ∀ u ∈ t.kids, TxS u) : TxS t := by
 intro a cap w hk
 have ho := RT.good_own hg
 have hgk := RT.good_kids hg
 have hcb := RT.cost_eq t
 have hlen : ∀ u ∈ t.kids, (RT.txt u).length ≤ 100000000 := fun u hu => by
  have h1 := RT.txt_len _ u (Nat.le_refl _) (hgk u hu)
  have h2 : RT.cost u ≤ RT.costs t.kids := by
   obtain ⟨i, hi, rfl⟩ := List.mem_iff_getElem.1 hu
   have h3 := RT.costs_take t.kids i hi
   have h4 := RT.costs_le t.kids (i + 1)
   omega
  simp only [RT.bill] at hcb
  omega
 obtain ⟨k, s, n, lo, hi, ts⟩ := t
 have hs : s.size ≤ 1048576 := by simp only [RT.set] at hcb; omega
 rcases RT.own_shape ho with ⟨hk0, rfl⟩ | ⟨hk0, x, y, rfl⟩ | ⟨rfl, x, rfl⟩
 ·rcases hk0 with rfl | rfl | rfl | rfl | rfl
  ·exact stK0 s n lo hi h hlen hs (fun h => absurd h (by decide)) (fun h => absurd h (by decide)) a cap w hk
  ·exact stK1 s n lo hi h hlen hs (fun h => absurd h (by decide)) (fun h => absurd h (by decide)) a cap w hk
  ·exact stK6 s n lo hi h hlen hs (fun h => absurd h (by decide)) (fun h => absurd h (by decide)) a cap w hk
  ·exact stK7 s n lo hi h hlen hs (fun h => absurd h (by decide)) (fun h => absurd h (by decide)) a cap w hk
  ·exact stK2 s n lo hi h hlen hs (fun h => absurd h (by decide)) (fun _ => own_set ho) a cap w hk
 ·rcases hk0 with rfl | rfl
  ·by_cases c : x.kind = 3
   ·exact stK3b s n lo hi x y h hlen hs (fun h => absurd h (by decide)) (fun h => absurd h (by decide)) c a cap w hk
   ·exact stK3a s n lo hi x y h hlen hs (fun h => absurd h (by decide)) (fun h => absurd h (by decide)) c a cap w hk
  ·exact stK4 s n lo hi x y h hlen hs (fun h => absurd h (by decide)) (fun h => absurd h (by decide)) a cap w hk
 ·by_cases c : x.kind = 2
  ·exact stK5b s n lo hi x h hlen hs (fun _ => own_tim ho) (fun h => absurd h (by decide)) c a cap w hk
  ·exact stK5a s n lo hi x h hlen hs (fun _ => own_tim ho) (fun h => absurd h (by decide)) ⟨c, own_kind (hgk x (by simp [RT.kids]))⟩ a cap w hk
theorem txS_all : ∀ (N : Nat) (t : RT), RT.sz t ≤ N → RT.good t → RT.cost t ≤ 1048576 → TxS t := by
 intro N
 induction N with
 | zero => intro t h; have := RT.sz_pos t; omega
 | succ N ih =>
  intro t h hg hc
  refine txS_of hg hc fun u hu => ih u (by have := RT.sz_kid t u hu; omega) (RT.good_kids hg u hu) ?_
  have hcb := RT.cost_eq t
  obtain ⟨i, hi, rfl⟩ := List.mem_iff_getElem.1 hu
  have h3 := RT.costs_take t.kids i hi
  have h4 := RT.costs_le t.kids (i + 1)
  simp only [RT.bill] at hcb
  omega
set_option maxRecDepth 100000 in
set_option maxHeartbeats 1000000 in
theorem specReText_any (t : RT) (a : Option Addr) (cap : Nat) (w : World) (hk : Kids 0 w t.kids a) (hc : RT.cost t ≤ 1048576) :
  Calls Tryd.prog 15 #[reV t a cap] w fun e w' => e = .returned (.string ⟨(if RT.ok t = true then RT.txt t else []).toArray⟩) ∧ Below w.heap.size w w' := by
 have HK := Lib.hid hk
 have HO := Lib.hid (fun W h => specReOk_any t a cap W h hc)
 have HL := Lib.hid (fun hg => txS_all _ t (Nat.le_refl _) hg hc)
 have HG := Lib.hid (fun h => RT.ok_good (t := t) h)
 have HB := Lib.hid (show ∀ o, Below w.heap.size w (w.alloc o) from fun o => (Below.refl w.heap.size w).alloc (Nat.le_refl _) _)
 clear hk
 cases hok : RT.ok t
 ·rw [hok] at HO
  rw [if_neg (by simp)]
  clear hok
  obtain ⟨k, s, n, lo, hi, ts⟩ := t
  unfold reV
  simp only [RT.set, RT.kids, RT.kind, RT.neg, RT.low, RT.high] at *
  go_enter Tryd.func15, Tryd.ntmps15
  go_wp2_with fail
  refine (HO.out _ (HK.out.alloc _)).mono ?_
  rintro e w1 ⟨rfl, hb1⟩
  have HB1 := Lib.hid hb1
  clear hb1
  go_wp2_with fail
  go_ret
  exact ⟨rfl, (HB.out _).trans (HB1.out.mono (HB.out _).size)⟩
 ·rw [hok] at HO
  have HG := Lib.hid (HG.out hok)
  clear hok
  rw [if_pos rfl]
  have HL := Lib.hid (fun W h => HL.out HG.out a cap W h)
  generalize RT.txt t = R at *
  obtain ⟨k, s, n, lo, hi, ts⟩ := t
  unfold reV
  simp only [RT.set, RT.kids, RT.kind, RT.neg, RT.low, RT.high] at *
  go_enter Tryd.func15, Tryd.ntmps15
  go_wp2_with fail
  refine (HO.out _ (HK.out.alloc _)).mono ?_
  rintro e w1 ⟨rfl, hb1⟩
  have BX1 := Lib.hid ((Box.start (k := k) (s := s) (n := n) (lo := lo) (hi := hi) (ts := ts) (a := a) (cap := cap) w 26).step hb1)
  have HB1 := Lib.hid ((HB.out _).trans (hb1.mono (HB.out _).size))
  clear hb1
  obtain ⟨⟨x0, x1, x2, x3, x4, x5⟩, _⟩ := BX1.out
  go_wp2_with fail
  refine (HL.out _ (HK.out.kept (Nat.le_refl _) HB1.out)).mono ?_
  rintro e w2 ⟨rfl, hb2⟩
  have HB2 := Lib.hid (HB1.out.trans (hb2.mono HB1.out.size))
  clear hb2 x0 x1 x2 x3 x4 x5
  go_wp2_with fail
  go_ret
  exact ⟨rfl, HB2.out⟩
set_option maxRecDepth 100000 in
set_option maxHeartbeats 1000000 in
theorem implReText_any (t : RT) (a : Option Addr) (cap : Nat) (w : World) (hk : Kids 0 w t.kids a) (hc : RT.cost t ≤ 1048576) (ht : Tab w) :
  Calls Tryd.prog 10 #[reV t a cap] w fun e w' => e = .returned (.string ⟨(if RT.ok t = true then RT.txt t else []).toArray⟩) ∧ Below w.heap.size w w' := by
 have HK := Lib.hid hk
 have HO := Lib.hid (fun W h => implReOk_any t a cap W h hc)
 have HL := Lib.hid (fun hg => txI_all _ t (Nat.le_refl _) hg hc)
 have HG := Lib.hid (fun h => RT.ok_good (t := t) h)
 have HB := Lib.hid (show ∀ o, Below w.heap.size w (w.alloc o) from fun o => (Below.refl w.heap.size w).alloc (Nat.le_refl _) _)
 have HT := Lib.hid ht
 clear ht
 clear hk
 cases hok : RT.ok t
 ·rw [hok] at HO
  rw [if_neg (by simp)]
  clear hok
  obtain ⟨k, s, n, lo, hi, ts⟩ := t
  unfold reV
  simp only [RT.set, RT.kids, RT.kind, RT.neg, RT.low, RT.high] at *
  go_enter Tryd.func10, Tryd.ntmps10
  go_wp2_with fail
  refine (HO.out _ (HK.out.alloc _)).mono ?_
  rintro e w1 ⟨rfl, hb1⟩
  have HB1 := Lib.hid hb1
  clear hb1
  go_wp2_with fail
  go_ret
  exact ⟨rfl, (HB.out _).trans (HB1.out.mono (HB.out _).size)⟩
 ·rw [hok] at HO
  have HG := Lib.hid (HG.out hok)
  clear hok
  rw [if_pos rfl]
  have HL := Lib.hid (fun W h ht => HL.out HG.out a cap W h ht)
  generalize RT.txt t = R at *
  obtain ⟨k, s, n, lo, hi, ts⟩ := t
  unfold reV
  simp only [RT.set, RT.kids, RT.kind, RT.neg, RT.low, RT.high] at *
  go_enter Tryd.func10, Tryd.ntmps10
  go_wp2_with fail
  refine (HO.out _ (HK.out.alloc _)).mono ?_
  rintro e w1 ⟨rfl, hb1⟩
  have BX1 := Lib.hid ((Box.start (k := k) (s := s) (n := n) (lo := lo) (hi := hi) (ts := ts) (a := a) (cap := cap) w 26).step hb1)
  have HB1 := Lib.hid ((HB.out _).trans (hb1.mono (HB.out _).size))
  clear hb1
  obtain ⟨⟨x0, x1, x2, x3, x4, x5⟩, _⟩ := BX1.out
  go_wp2_with fail
  refine (HL.out _ (HK.out.kept (Nat.le_refl _) HB1.out) (HT.out.on HB1.out)).mono ?_
  rintro e w2 ⟨rfl, hb2⟩
  have HB2 := Lib.hid (HB1.out.trans (hb2.mono HB1.out.size))
  clear hb2 x0 x1 x2 x3 x4 x5
  go_wp2_with fail
  go_ret
  exact ⟨rfl, HB2.out⟩
end Go.Proofs.YtcpaneaiobnhdaaDoor.kit
