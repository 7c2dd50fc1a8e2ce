/-
  Proves FnExactMatchesCardSaid: for every input the law returns true and leaves its arguments as they were. Conditions: none beyond the card's own (its cell 'loops': the argument's reading comes to an end); the library's table that it lists is tied to the program's text by the given tie.
-/
import Derived.Test.YtppfnaenamcnpaaDoorCards
import Derived.Test.YtppfnaenamcnpaaDoorTie
import Derived.Deep.DeepHandedRow
import Derived.Lay
import Derived.LaidSub
import Derived.ChangeVars
import Derived.OpenVars
import Derived.Test.YtppfnaenamcnpaaDoorMuMi15
import Derived.Test.YtppfnaenamcnpaaDoorMuMc1
import Derived.Test.YtppfnaenamcnpaaDoorMuMc3
import Derived.Test.YtppfnaenamcnpaaDoorMuPm0
import Derived.Test.YtppfnaenamcnpaaDoorMuRe5
set_option linter.unusedVariables false
set_option linter.unusedSimpArgs false
namespace Go.Proofs.YtppfnaenamcnpaaDoor.fnExactMatches
open Go.ChangeShapes Go.WideShapes Go.ChangeAt Go.RowKit
open Go.ChangeMaps (open_string shut_string)
open Go.Proofs.YtppfnaenamcnpaaDoor.kit
theorem own : ownKnob Tryd.prog.godebug = none := by kernel_rfl
theorem table {W : World} (h : laidMet Tryd.prog Rows.fnExactMatchesRow.laid W) : BT W := bt_of h (by kernel_rfl)
theorem szs_bill : ∀ (N : Nat) (ts : List RT), RT.szs ts ≤ N → RT.szs ts ≤ RT.bill ts := by
 intro N
 induction N with
 | zero => intro ts h; omega
 | succ N ih =>
   intro ts h
   induction ts with
   | nil => simp [RT.szs]
   | cons t ts iht =>
     have h1 := RT.sz_eq t
     have h2 := RT.cost_eq t
     simp only [RT.szs] at h ⊢
     have h3 := ih t.kids (by omega)
     have h4 := iht (by have := RT.sz_pos t; omega)
     simp only [RT.bill, RT.costs, List.length_cons] at *
     omega
theorem prR_of {w w' : World} {ps : List (Nat × Nat)} {a : Option Addr} (h : PrR w ps a) (hs : w.heap.size ≤ w'.heap.size) (hb : ∀ g, a = some ⟨g, 0, none⟩ → w'.heap[g]? = w.heap[g]?) : PrR w' ps a := fun j hj => by
 obtain ⟨g, e, h2, h3, h4⟩ := h j hj
 have q := hb g e
 exact ⟨g, e, Nat.lt_of_lt_of_le h2 hs, (World.cell?_of_block (a := ⟨g, j * 2, none⟩) q).trans h3, (World.cell?_of_block (a := ⟨g, j * 2 + 1, none⟩) q).trans h4⟩
theorem prM_mono {B B' : Nat} {w : World} {a : Option Addr} {n k m : Nat} (h : PrM B w a n k m) (hB : B' ≤ B) : PrM B' w a n k m := fun j hj => by
 obtain ⟨g, e, h1, r⟩ := h j hj
 exact ⟨g, e, Nat.le_trans hB h1, r⟩
structure St (w : World) (p D : Nat) (k : Int) (s : ByteArray) (n : Bool) (lo hi : Int) (ts : List RT) (a : Option Addr) (cap : Nat) (ps : List (Nat × Nat)) (az : Option Addr) (W : World) : Prop where
 below : Below p w W
 pd : p < D
 dle : D ≤ W.heap.size
 row : PrR W ps az
 rlt : ∀ g, az = some ⟨g, 0, none⟩ → g < D
 box : Box p k s n lo hi ts a cap W
theorem St.low {w : World} {p D : Nat} {k : Int} {s : ByteArray} {n : Bool} {lo hi : Int} {ts : List RT} {a : Option Addr} {cap : Nat} {ps : List (Nat × Nat)} {az : Option Addr} {W W' : World} (h : St w p D k s n lo hi ts a cap ps az W) (hb : Below D W W') : St w p D k s n lo hi ts a cap ps az W' :=
 ⟨h.below.trans (hb.mono (Nat.le_of_lt h.pd)), h.pd, Nat.le_trans h.dle hb.size, prR_of h.row hb.size (fun g e => hb.block g (h.rlt g e)), h.rlt, h.box.below (hb.mono h.pd)⟩
theorem St.step {w : World} {p D : Nat} {k : Int} {s : ByteArray} {n : Bool} {lo hi : Int} {ts : List RT} {a : Option Addr} {cap : Nat} {ps : List (Nat × Nat)} {az : Option Addr} {W W' : World} (h : St w p D k s n lo hi ts a cap ps az W) (hb : Below W.heap.size W W') : St w p D k s n lo hi ts a cap ps az W' := h.low (hb.mono h.dle)
set_option maxRecDepth 100000 in
set_option maxHeartbeats 8000000 in
theorem walk (t : RT) (a : Option Addr) (cap : Nat) (sb : ByteArray) (w : World) (hk : kit.Kids 0 w t.kids a) (hs : t.set.size ≤ maxLen) (hl : t.kids.length ≤ maxLen) (hsb : sb.size ≤ maxLen) (ht : BT w) :
 Calls Tryd.prog 4 #[reV t a cap, .string sb] w fun e w' => e = .returned (.bool true) ∧ Below w.heap.size w w' := by
 have HK := Lib.hid hk
 have HSZ := Lib.hid (szRe_any t)
 have HTO := Lib.hid (toReF_any t)
 have HEQ := Lib.hid (eqRe_any t)
 have HSP := Lib.hid (fun (hz : sb.size ≤ 1048576) a cap W h1 h2 => specMatches_any t sb a cap W hz h2 h1)
 have HIM := Lib.hid (fun (hz : sb.size ≤ 1048576) a cap W h1 h2 h3 => implMatches_any t sb a cap W hz h2 h1 h3)
 have HB := Lib.hid (show ∀ o, Below w.heap.size w (w.alloc o) from fun o => (Below.refl w.heap.size w).alloc (Nat.le_refl _) _)
 have HT := Lib.hid ht
 clear hk ht
 by_cases hz : sb.size ≤ 1048576
 · have HSP := Lib.hid (HSP.out hz)
   have HIM := Lib.hid (HIM.out hz)
   have hz0 : (sb.size : Int) ≤ 1048576 := by omega
   have hz1 : decide (1048576 < sb.size) = false := by rw [decide_eq_false_iff_not]; omega
   have hz2 : decide (1048576 < (sb.size : Int)) = false := by rw [decide_eq_false_iff_not]; omega
   have hpn : (matchesZ (matchZ sb.data.toList t) sb.size).length ≤ 2000000 := by have := matchesZ_len (matchZ sb.data.toList t) sb.size; omega
   clear hz hsb
   by_cases c : RT.cost t ≤ 1048576
   · have hc0 : (RT.cost t : Int) ≤ 1048576 := by omega
     have HCO := Lib.hid c
     have HL := Lib.hid (leftOf_pos hc0)
     have hsz : 1 + 5 * RT.szs t.kids ≤ 10000000 := by have := szs_bill _ t.kids (Nat.le_refl _); have := RT.cost_eq t; omega
     have HMK := Lib.hid (fun a c F W (h : KF W t.kids a F) => markRe_any t a c 1 F W h (by omega) hsz)
     obtain ⟨M, hM⟩ : ∃ M, M = 1 + 5 * RT.szs t.kids := ⟨_, rfl⟩
     rw [← hM] at HMK
     clear hM hsz
     have hM0 : ¬ ((M : Int) < 0) := by omega
     generalize matchesZ (matchZ sb.data.toList t) sb.size = ps at *
     obtain ⟨N, hN⟩ : ∃ N : Nat, ((1 : Nat) : Int) + 2 * (ps.length : Int) = (N : Int) := ⟨1 + 2 * ps.length, by omega⟩
     have HMA := Lib.hid (fun B a c W hB h => markPr_any B a c ps.length 1 W hB hpn (by omega) h)
     have HHE := Lib.hid (fun B a c W h => heldPr_any B a c ps.length 1 W hpn (by omega) h)
     have HPQ := Lib.hid (fun a a' c c' W h h' => eqPrs_any a a' c c' ps W hpn h h')
     rw [hN] at HMA HHE
     clear hN hpn
     have hN0 : ¬ ((N : Int) < 0) := by omega
     obtain ⟨k, s, n, lo, hi, ts⟩ := t
     unfold reV
     simp only [RT.set, RT.kids, RT.kind, RT.neg, RT.low, RT.high] at *
     go_enter Tryd.func4, Tryd.ntmps4
     go_wp2_with fail
     refine (HSZ.out a cap 1048576 _ (HK.out.alloc _) hs hl (by omega) (by omega)).mono ?_
     rintro e w1 ⟨rfl, hb1⟩
     rw [HL.out]
     generalize RT.cost (.node k s n lo hi ts) = co at hc0 ⊢
     have hc2 : ¬ (1048576 - (co : Int) < 0) := by omega
     have BX1 := Lib.hid ((Box.start (k := k) (s := s) (n := n) (lo := lo) (hi := hi) (ts := ts) (a := a) (cap := cap) w 39).step hb1)
     have HB1 := Lib.hid ((HB.out _).trans (hb1.mono (HB.out _).size))
     clear hb1
     obtain ⟨⟨x0, x1, x2, x3, x4, x5⟩, _⟩ := BX1.out
     go_wp2_with fail
     clear x0 x1 x2 x3 x4 x5
     refine (HTO.out a cap _ (HK.out.kept (Nat.le_refl _) HB1.out) HCO.out).mono ?_
     rintro e w2 ⟨a2, cap2, F2, rfl, hk2, hl2, hb2⟩
     have BX2 := Lib.hid (BX1.out.step hb2)
     have HB2 := Lib.hid (HB1.out.trans (hb2.mono HB1.out.size))
     have HK2 := Lib.hid (hk2.kids (B := 0) (fun _ _ => Nat.zero_le _))
     clear hb2 hk2 hl2
     go_wp2_with fail
     refine (HSP.out a2 cap2 _ HK2.out HCO.out).mono ?_
     rintro e w3 ⟨v3, rfl, ho3, hb3⟩
     obtain ⟨az, cs, rfl, hr3, _, hlt3⟩ := ho3.prm 0
     have ST3 := Lib.hid (show St w w.heap.size w3.heap.size k s n lo hi ts a cap ps az w3 from ⟨HB2.out.trans (hb3.mono HB2.out.size), Nat.lt_of_lt_of_le BX2.out.2 hb3.size, Nat.le_refl _, hr3, fun g e => (hlt3 g e).2, BX2.out.step hb3⟩)
     clear hb3 ho3 hr3 hlt3 BX1 BX2 HB1 HB2 HK2
     obtain ⟨⟨x0, x1, x2, x3, x4, x5⟩, _⟩ := ST3.out.box
     go_wp2_with fail
     clear x0 x1 x2 x3 x4 x5
     refine (HTO.out a cap _ (HK.out.kept (Nat.le_refl _) ST3.out.below) HCO.out).mono ?_
     rintro e w4 ⟨a4, cap4, F4, rfl, hk4, hl4, hb4⟩
     have ST4 := Lib.hid (ST3.out.step hb4)
     have HK4 := Lib.hid hk4
     have HL4 := Lib.hid hl4
     have HU4 := Lib.hid hk4.lt
     have HA4 := Lib.hid (show ∀ o, Below w4.heap.size w4 (w4.alloc o) from fun o => (Below.refl w4.heap.size w4).alloc (Nat.le_refl _) _)
     clear hb4 hk4 hl4 ST3
     unfold reV
     simp only [RT.set, RT.kids, RT.kind, RT.neg, RT.low, RT.high]
     go_wp2_with fail
     refine (HIM.out a4 cap4 _ ((HK4.out.kids (B := 0) (fun _ _ => Nat.zero_le _)).alloc _) HCO.out (HT.out.kept (ST4.out.step (HA4.out _)).below)).mono ?_
     rintro e w5 ⟨v5, rfl, ho5, hb5⟩
     obtain ⟨ag, cg, rfl, hr5, hm5, hlt5⟩ := ho5.prm 1
     have ST5 := Lib.hid ((ST4.out.step (HA4.out _)).step hb5)
     have BY5 := Lib.hid ((Box.start (k := k) (s := s) (n := n) (lo := lo) (hi := hi) (ts := ts) (a := a4) (cap := cap4) w4 26).step hb5)
     have HK5 := Lib.hid ((HK4.out.kept (HA4.out _)).kept hb5)
     have HR5 := Lib.hid hr5
     have HM5 := Lib.hid (prM_mono hm5 (HA4.out _).size)
     have HGB := Lib.hid (show ∀ g, ag = some ⟨g, 0, none⟩ → w4.heap.size ≤ g from fun g e => Nat.le_trans (HA4.out _).size (hlt5 g e).1)
     have HWB := Lib.hid (Nat.le_trans (HA4.out (.cells #[.int .i64 k, .string s, .bool n, .int .i64 lo, .int .i64 hi, .slice a4 ts.length cap4] 26)).size hb5.size)
     have HWD := Lib.hid ST4.out.dle
     have HGL := Lib.hid (show ∀ g, ag = some ⟨g, 0, none⟩ → g < w5.heap.size from fun g e => (hlt5 g e).2)
     clear hb5 ho5 hr5 hm5 hlt5 ST4 HK4
     --10
     go_wp2_with fail
     refine (HPQ.out ag az cg cs _ HR5.out ST5.out.row).mono ?_
     rintro e w6 ⟨rfl, hb6⟩
     have ST6 := Lib.hid (ST5.out.step hb6)
     have BY6 := Lib.hid (BY5.out.step hb6)
     have HK6 := Lib.hid (HK5.out.kept hb6)
     have HK6K := Lib.hid ((HK5.out.kept hb6).kids (B := 0) (fun _ _ => Nat.zero_le _))
     have HR6 := Lib.hid (HR5.out.kept hb6)
     have HM6 := Lib.hid (HM5.out.kept hb6)
     have HGL := Lib.hid (show ∀ g, ag = some ⟨g, 0, none⟩ → g < w6.heap.size from fun g e => Nat.lt_of_lt_of_le (HGL.out g e) hb6.size)
     have BX6 := Lib.hid ST6.out.box
     have HB6 := Lib.hid ST6.out.below
     have HWB := Lib.hid (Nat.le_trans HWB.out hb6.size)
     clear hb6 ST5 BY5 HK5 HR5 HM5
     go_wp2_with fail
     --12
     go_region_held3 (fun w' => ((w'.cell? ⟨w.heap.size, 0, none⟩ = some (.int .i64 k) ∧ w'.cell? ⟨w.heap.size, 1, none⟩ = some (.string s) ∧ w'.cell? ⟨w.heap.size, 2, none⟩ = some (.bool n) ∧ w'.cell? ⟨w.heap.size, 3, none⟩ = some (.int .i64 lo) ∧ w'.cell? ⟨w.heap.size, 4, none⟩ = some (.int .i64 hi) ∧ w'.cell? ⟨w.heap.size, 5, none⟩ = some (.slice a ts.length cap)) ∧ (w'.cell? ⟨w4.heap.size, 0, none⟩ = some (.int .i64 k) ∧ w'.cell? ⟨w4.heap.size, 1, none⟩ = some (.string s) ∧ w'.cell? ⟨w4.heap.size, 2, none⟩ = some (.bool n) ∧ w'.cell? ⟨w4.heap.size, 3, none⟩ = some (.int .i64 lo) ∧ w'.cell? ⟨w4.heap.size, 4, none⟩ = some (.int .i64 hi) ∧ w'.cell? ⟨w4.heap.size, 5, none⟩ = some (.slice a4 ts.length cap4))) ∧ (w.heap.size < w'.heap.size ∧ w4.heap.size < w'.heap.size) ∧ Below w6.heap.size w6 w') (first | exact Two6.start BX6.out BY6.out | exact Two6.step (p := w.heap.size) (q := w4.heap.size) (k := k) (s := s) (n := n) (lo := lo) (hi := hi) (ts := ts) (a := a) (cap := cap) (a2 := a4) (cap2 := cap4) (by assumption) (by assumption)) (first | (go_at_call 21; refine (HTO.out a cap _ (HK.out.kept (Nat.le_refl _) HB6.out.drew) HCO.out).mono ?_; rintro e wa ⟨a6, cap6, F6, rfl, hk6f, hl6, hb6⟩; have hk6 := hk6f.kids (B := 0) (fun _ _ => Nat.zero_le _); clear hk6f hl6) | (go_at_call 24; refine (HEQ.out a4 cap4 _ _ _ (HK6K.out.drew.kept (Nat.le_refl _) (by assumption)) (kit.Kids.mono (by assumption) (Nat.zero_le _)) HCO.out).mono ?_; rintro e w7 ⟨rfl, hb7a⟩))
     --13
     rename_i h7
     clear hb7a hk6 hb6
     have hb7 := Two6.below (p := w.heap.size) (q := w4.heap.size) (k := k) (s := s) (n := n) (lo := lo) (hi := hi) (ts := ts) (a := a) (cap := cap) (a2 := a4) (cap2 := cap4) (W := w6) h7
     have ST7 := Lib.hid (ST6.out.step hb7)
     have HK7 := Lib.hid (HK6.out.kept hb7)
     have HR7 := Lib.hid (HR6.out.kept hb7)
     have HM7 := Lib.hid (HM6.out.kept hb7)
     have HGL := Lib.hid (show ∀ g, ag = some ⟨g, 0, none⟩ → g < w7.heap.size from fun g e => Nat.lt_of_lt_of_le (HGL.out g e) hb7.size)
     have HWB := Lib.hid (Nat.le_trans HWB.out hb7.size)
     obtain ⟨⟨_, y0, y1, y2, y3, y4, y5⟩, _, _⟩ := h7
     clear hb7 ST6 BY6 HK6 HK6K HR6 HM6 BX6 HB6
     --15
     go_wp2_with fail
     clear y0 y1 y2 y3 y4 y5
     refine (HMK.out a4 cap4 F4 _ HK7.out).mono ?_
     rintro e w8 ⟨rfl, _, ho8⟩
     have hb8 := ho8.below (B := w3.heap.size) HL4.out ST7.out.dle
     have HE8 := Lib.hid (show ∀ g, ag = some ⟨g, 0, none⟩ → w8.heap[g]? = w7.heap[g]? from fun g e => ho8.block g (HGL.out g e) (fun hm => by have := HU4.out g hm; have := HGB.out g e; omega))
     have ST8 := Lib.hid (ST7.out.low hb8)
     have HR8 := Lib.hid (prR_of HR7.out ho8.size HE8.out)
     have HM8 := Lib.hid (HM7.out.of ho8.size HE8.out)
     have HWB := Lib.hid (Nat.le_trans HWB.out ho8.size)
     clear hb8 ho8 ST7 HK7 HR7 HM7 HE8
     --16
     go_wp2_with fail
     refine (HPQ.out ag az cg cs _ HR8.out ST8.out.row).mono ?_
     rintro e w9 ⟨rfl, hb9⟩
     have ST9 := Lib.hid (ST8.out.step hb9)
     have HM9 := Lib.hid (HM8.out.kept hb9)
     have HWB := Lib.hid (Nat.le_trans HWB.out hb9.size)
     clear hb9 ST8 HR8 HM8
     --19
     go_wp2_with fail
     refine (HMA.out _ ag cg _ (Nat.le_trans HWB.out (Nat.le_refl _)) HM9.out).mono ?_
     rintro e w10 ⟨rfl, hm10, hb10, _⟩
     have ST10 := Lib.hid (ST9.out.low (hb10.mono HWD.out))
     have HM10 := Lib.hid hm10
     clear hm10 hb10 ST9 HM9
     --21
     go_wp2_with fail
     refine (HHE.out _ ag cg _ HM10.out).mono ?_
     rintro e w11 ⟨rfl, hb11⟩
     have ST11 := Lib.hid (ST10.out.step hb11)
     have HM11 := Lib.hid (HM10.out.kept hb11)
     clear hb11 ST10 HM10
     obtain ⟨⟨x0, x1, x2, x3, x4, x5⟩, _⟩ := ST11.out.box
     --26
     go_wp2_with fail
     clear x0 x1 x2 x3 x4 x5
     refine (HTO.out a cap _ (HK.out.kept (Nat.le_refl _) ST11.out.below) HCO.out).mono ?_
     rintro e w12 ⟨a12, cap12, F12, rfl, hk12, hl12, hb12⟩
     have ST12 := Lib.hid (ST11.out.step hb12)
     have HM12 := Lib.hid (HM11.out.kept hb12)
     have HK12 := Lib.hid (hk12.kids (B := 0) (fun _ _ => Nat.zero_le _))
     clear hb12 hk12 hl12 ST11 HM11
     go_wp2_with fail
     refine (HIM.out a12 cap12 _ HK12.out HCO.out (HT.out.kept ST12.out.below)).mono ?_
     rintro e w13 ⟨v13, rfl, ho13, hb13⟩
     obtain ⟨ah, ch, rfl, hr13⟩ := ho13.look
     have ST13 := Lib.hid (ST12.out.step hb13)
     have HM13 := Lib.hid (HM12.out.kept hb13)
     have HR13 := Lib.hid hr13
     clear hb13 ho13 hr13 ST12 HM12 HK12
     --27
     go_wp2_with fail
     refine (HPQ.out ah az ch cs _ HR13.out ST13.out.row).mono ?_
     rintro e w14 ⟨rfl, hb14⟩
     have ST14 := Lib.hid (ST13.out.step hb14)
     have HM14 := Lib.hid (HM13.out.kept hb14)
     clear hb14 ST13 HM13 HR13
     --30
     go_wp2_with fail
     refine (HHE.out _ ag cg _ HM14.out).mono ?_
     rintro e w15 ⟨rfl, hb15⟩
     have ST15 := Lib.hid (ST14.out.step hb15)
     clear hb15 ST14 HM14
     go_wp2_with fail
     go_ret
     exact ⟨rfl, ST15.out.below⟩
   · have hc0 : (1048576 : Int) < (RT.cost t : Nat) := by omega
     have HL := Lib.hid (leftOf_neg hc0)
     obtain ⟨k, s, n, lo, hi, ts⟩ := t
     unfold reV
     simp only [RT.set, RT.kids, RT.kind, RT.neg, RT.low, RT.high] at *
     go_enter Tryd.func4, Tryd.ntmps4
     go_wp2_with fail
     refine (HSZ.out a cap 1048576 _ (HK.out.alloc _) hs hl (by omega) (by omega)).mono ?_
     rintro e w1 ⟨rfl, hb1⟩
     rw [HL.out]
     have HB1 := Lib.hid ((HB.out _).trans (hb1.mono (HB.out _).size))
     clear hb1
     go_wp2_with fail
     go_ret
     exact ⟨rfl, HB1.out⟩
 · have hz0 : 1048576 < (sb.size : Int) := by omega
   have hz1 : decide (1048576 < sb.size) = true := by rw [decide_eq_true_iff]; omega
   have hz2 : decide (1048576 < (sb.size : Int)) = true := by rw [decide_eq_true_iff]; omega
   obtain ⟨k, s, n, lo, hi, ts⟩ := t
   unfold reV
   simp only [RT.set, RT.kids, RT.kind, RT.neg, RT.low, RT.high] at *
   unfold maxLen at hsb
   clear hz
   go_enter Tryd.func4, Tryd.ntmps4
   go_wp2_with fail
   go_ret
   exact ⟨rfl, HB.out _⟩
set_option maxRecDepth 100000 in
theorem contract (H : Type) (enc : TypeId × Value → H) (W : World) (base : Nat) (args : Array Value) (ds gs : List (DataW H)) (before : List MemPlace)
 (hval : ∀ (j : Nat) t v, Tryd.f4.params[j]? = some t → args[j]? = some v → Value.okWide Tryd.prog W .any base t v)
 (hW : DataW.Whole enc Tryd.prog Tryd.f4.params.toList Rows.fnExactMatchesSpec.vars false W args.toList ds gs before) (hL : laidMet Tryd.prog Rows.fnExactMatchesRow.laid W) :
 Calls Tryd.prog 4 args W fun e W' => ∃ v, e = .returned v ∧ Rows.fnExactMatchesSpec.post enc Tryd.prog Tryd.f4 false true false false W args v W' := by
 have hW' := hW
 obtain ⟨p, q, hA0, hV, rfl, hfz, hnd⟩ := hW
 have hA : DataW.TrodAll enc Tryd.prog W 0 (fun _ => true) true Tryd.f4.params.toList args.toList ds p := hA0
 rw [Tryd.params4] at hA hval
 obtain ⟨v0, vs0, d0, ds0, p0, q0, hargs, rfl, rfl, h0, r0⟩ := trodAll_cons hA
 obtain ⟨v1, vs1, d1, ds1, p1, q1, rfl, rfl, rfl, h1, r1⟩ := trodAll_cons r0
 obtain ⟨rfl, rfl, rfl⟩ := trodAll_nil r1
 obtain rfl : args = #[v0, v1] := by cases args; simp_all
 obtain ⟨rfl, rfl⟩ := trodVars_none hV
 obtain ⟨t0, a0, c0, rfl, hk0, hs0, hl0⟩ := open_re (hval 0 39 v0 rfl rfl) h0
 have hlt0 : ∀ x ∈ p0, x.block < W.heap.size := fun x hx => by simpa using hW'.lt x (by simp [hx])
 obtain ⟨s1, rfl, rfl, rfl, hs1⟩ := open_string Tryd.underlying9 (hval 1 9 v1 rfl rfl) h1
 clear hA0
 refine (walk t0 a0 c0 s1 W hk0 hs0 hl0 hs1 (table hL)).mono fun e W' ⟨he, bel⟩ => ?_
 subst he
 exact ⟨_, rfl, _, _, _, [], _, [], hW', trodAll_mk1 (shut_bool Tryd.underlying4 _), (trodAll_cons_mk (Below.trod laidOutR (by kernel_rfl) (of_decide_eq_true (by kernel_rfl)) h0 bel hlt0) (trodAll_cons_mk (shut_string Tryd.underlying9 hs1) trodAll_mk0)), rfl, bel.frame _, fun h => by cases h⟩
noncomputable def laidWorld (os : Os) : World := World.laidAll Tryd.prog os Rows.fnExactMatchesRow.laid
theorem laid_met (os : Os) : laidMet Tryd.prog Rows.fnExactMatchesRow.laid ((laidWorld os).forCall (fun _ _ => 0) ⟨#[], #[.agg #[.int .i64 0, .string ⟨#[]⟩, .bool false, .int .i64 0, .int .i64 0, .slice none 0 0], .string ⟨#[]⟩], []⟩).memory :=
 laidMet_laidAll _ (by kernel_rfl) (by kernel_rfl)
theorem reads (os : Os) {H : Type} (enc : TypeId × Value → H) : ∃ places, DataW.whole enc Tryd.prog ((laidWorld os).forCall (fun _ _ => 0) ⟨#[], #[.agg #[.int .i64 0, .string ⟨#[]⟩, .bool false, .int .i64 0, .int .i64 0, .slice none 0 0], .string ⟨#[]⟩], []⟩).memory Tryd.f4.params.toList Rows.fnExactMatchesSpec.vars false #[Value.agg #[.int .i64 0, .string ⟨#[]⟩, .bool false, .int .i64 0, .int .i64 0, .slice none 0 0], .string ⟨#[]⟩].toList 8 = some ([.agg [.lit (.int .i64 0), .lit (.string []), .lit (.bool false), .lit (.int .i64 0), .lit (.int .i64 0), .nil], .lit (.string [])], [], places) :=
 ⟨[], by kernel_rfl⟩
set_option maxRecDepth 100000 in
theorem lifted (os : Os) (started : os.Started) (H : Type) (enc : TypeId × Value → H) (F : Stop.Interp) :
 ReturnsInHanded {} Tryd.checked os 4 .any ((OpenSpec.ofChange Rows.fnExactMatchesSpec).preRow enc Tryd.prog Tryd.f4 Rows.fnExactMatchesRow.domain false Rows.fnExactMatchesRow.laid) (((OpenSpec.ofChange Rows.fnExactMatchesSpec).at F).post enc Tryd.prog Tryd.f4 false true false false) := by
 obtain ⟨places, hx⟩ := reads os enc
 refine returnsInHanded_of_row (C := Tryd.checked) (s := OpenSpec.ofChange Rows.fnExactMatchesSpec) own started (by kernel_rfl) Tryd.func4
  (witness_row_at (enc := enc) (C := Tryd.checked) false (laidWorld os) #[.agg #[.int .i64 0, .string ⟨#[]⟩, .bool false, .int .i64 0, .int .i64 0, .slice none 0 0], .string ⟨#[]⟩] (World.laidAll_os _ _ _) (by kernel_rfl) (by kernel_rfl) (by kernel_rfl)
    (OpenSpec.preRow_of_cond 8 hx (by kernel_rfl) (fun k hk => by cases hk) (by kernel_rfl) (laid_met os))) ?_
 intro W base args ds gs before hval hW _ _ _ hL _ _
 exact contract H enc W base args ds gs before hval hW hL
theorem said : Rows.FnExactMatchesSaid :=
 OpenClaim.holds_of_cond 4 Tryd.f4 rfl rfl rfl rfl rfl rfl rfl ⟨rfl, rfl, rfl, rfl, rfl⟩ rfl rfl rfl rfl rfl (by kernel_rfl) Tryd.func4 (by kernel_rfl)
  (of_decide_eq_true (by kernel_rfl)) (by unfold Func.isWrapper; first | (rw [if_pos (by decide +kernel)]; kernel_rfl) | (rw [if_neg (by decide +kernel)]; exact ⟨rfl, rfl⟩))
  (fun os started H enc _ F => by rw [OpenClaim.pre_eq_preRow]; exact lifted os started H enc F)
theorem plain (f : FuncId) (fn : Func) (hf : Tryd.pinned.checked.prog.funcNamed Rows.fnExactMatchesRow.func = some f) (hfn : Tryd.pinned.checked.prog.funcs[f]? = some fn) :
 false = Tryd.pinned.checked.prog.looks [] ∧ ∀ (j : Nat) t, fn.params[j]? = some t → Tryd.pinned.checked.prog.wantsStandIn t = false := by
 obtain rfl : f = 4 := Option.some.inj ((show Tryd.prog.funcNamed Rows.fnExactMatchesRow.func = some 4 by kernel_rfl).symm.trans hf) |>.symm
 obtain rfl : fn = Tryd.f4 := (Option.some.inj (Tryd.func4.symm.trans hfn)).symm
 refine ⟨by kernel_rfl, fun j t ht => ?_⟩
 rw [Tryd.params4] at ht
 have hm := Array.mem_of_getElem? ht
 simp at hm
 rcases hm with rfl | rfl
 · exact (show Tryd.prog.wantsStandIn 39 = false by kernel_rfl)
 · exact (show Tryd.prog.wantsStandIn 9 = false by kernel_rfl)
theorem card : Rows.FnExactMatchesCardSaid :=
 Claim7.holds_tied_plain_at .later [] _ _ _ _ said (fun _ h => by cases h) (by kernel_rfl) (fun _ h => by cases h) fnExactMatches_row_tie rfl ⟨rfl, rfl⟩ (by kernel_rfl) rfl plain (by kernel_rfl)
#print axioms card
end Go.Proofs.YtppfnaenamcnpaaDoor.fnExactMatches
