/-
  Proves FnReplaceCardSaid: for every code the law returns true and leaves its argument as it was: what is put in the place of what is found. Conditions: none beyond the card's own; the library's table that it lists is tied to the program's text by the given tie, over a pruned copy of it.
-/
import Derived.Test.YtcimhpdpfckgiaaGreatDoorCards
import Derived.Test.YtcimhpdpfckgiaaGreatDoorTie
import Derived.Deep.DeepHandedRow
import Derived.Lay
import Derived.LaidSub
import Derived.ChangeVars
import Derived.OpenVars
import Derived.Deep.CutRange
import Derived.Deep.CutBlock
import Derived.Deep.RegionHeld3
import Derived.Test.YtcimhpdpfckgiaaGreatDoorMxFrK
import Derived.Test.YtcimhpdpfckgiaaGreatDoorMxEp0
import Derived.Test.YtcimhpdpfckgiaaGreatDoorMxCur
import Derived.Test.YtcimhpdpfckgiaaGreatDoorMxMi15
import Derived.Test.YtcimhpdpfckgiaaGreatDoorMxMi11
set_option linter.unusedVariables false
set_option linter.unusedSimpArgs false
namespace Go.Proofs.YtcimhpdpfckgiaaGreatDoor.fnReplace
open Go.ChangeShapes Go.WideShapes Go.ChangeAt Go.RowKit
open Go.ChangeMaps (open_string shut_string)
open Go.Proofs.YtcimhpdpfckgiaaGreatDoor.kit
theorem own : ownKnob Tryz.prog.godebug = none := by kernel_rfl
theorem table {W : World} (h : laidMet Tryz.prog Rows.fnReplaceRow.laid W) : BT W := bt_of h (by kernel_rfl)
theorem esc_le (s : ByteArray) (h : s.size ≤ 12) : (⟨(escL s.data.toList).toArray⟩ : ByteArray).size ≤ 1048576 := by
 have : ∀ l : List UInt8, (escL l).length ≤ 2 * l.length := fun l => by
  induction l with
  | nil => simp [escL]
  | cons c l ih =>
    show (escB c ++ escL l).length ≤ _
    have hb : (escB c).length ≤ 2 := by unfold escB; split <;> simp
    rw [List.length_append, List.length_cons]; omega
 have h2 := this s.data.toList
 have h3 : s.data.toList.length = s.size := Array.length_toList
 show (escL s.data.toList).toArray.size ≤ _
 rw [List.size_toArray]; omega
theorem put_esc (f es ez : ByteArray) (h : ez = ⟨(escL es.data.toList).toArray⟩) : (⟨(putL f.data.toList ez.data.toList).toArray⟩ : ByteArray) = es := by
 subst h
 show (⟨(putL f.data.toList (escL es.data.toList)).toArray⟩ : ByteArray) = es
 rw [putL_escL]
set_option maxRecDepth 100000 in
set_option maxHeartbeats 4000000 in
theorem walk1 (a : Option Addr) (n cap : Nat) (w : World) (hn : n ≤ 1048576) (hc : Code8 w a n) (ht : BT w) :
 Calls Tryz.prog 3 #[.slice a n cap] w fun e w' => e = .returned (.bool true) ∧ Below w.heap.size w w' := by
 have HC := qd hc
 have HT := qd ht
 have BW := qd (Below.refl w.heap.size w)
 clear hc ht
 go_enter Tryz.func3, Tryz.ntmps3
 go_wp2_with fail
 refine (big_noR a n cap _ hn).mono ?_
 rintro e wq ⟨rfl, rfl⟩
 go_wp2_with fail
 refine (drawMatches_any a n cap _ hn HC.out).mono ?_
 rintro e w1 ⟨r, ar, cr, s, rfl, hk, hcr, hs, hb⟩
 have BW := qd (BW.out.trans (hb.mono BW.out.size))
 clear hb
 have hk := hk.mono (Nat.zero_le _)
 have hcr : RT.cost r ≤ 1048576 := by omega
 unfold reV
 have Xr : Hid (BxR (w1.alloc (.cells #[.int .i64 r.kind, .string r.set, .bool r.neg, .int .i64 r.low, .int .i64 r.high, .slice ar r.kids.length cr] 26)) w1.heap.size r ar cr) := qd (bxR_new hk)
 clear hk
 have bx : Below w1.heap.size w1 (w1.alloc (.cells #[.int .i64 r.kind, .string r.set, .bool r.neg, .int .i64 r.low, .int .i64 r.high, .slice ar r.kids.length cr] 26)) := (Below.refl _ _).alloc (Nat.le_refl _) _
 have BW := qd (BW.out.trans (bx.mono BW.out.size))
 clear bx
 go_wp2_with fail
 obtain ⟨gr, hgr⟩ : ∃ g, g = w1.heap.size := ⟨_, rfl⟩
 rw [← hgr] at Xr ⊢
 generalize (w1.alloc (.cells #[.int .i64 r.kind, .string r.set, .bool r.neg, .int .i64 r.low, .int .i64 r.high, .slice ar r.kids.length cr] 26)) = xr at *
 clear hgr
 obtain ⟨ps, hps⟩ : ∃ ps, ps = matchesZ (matchZ s.data.toList r) s.size := ⟨_, rfl⟩
 have HIM := qd (fun W h z => implMatches_any r s ar cr W (by omega) hcr h z)
 have HSM := qd (fun W h => specMatches_any r s ar cr W (by omega) hcr h)
 have HSE := qd (fun W h z => implReplaceZ_any r ⟨#[38]⟩ s true ar cr W (by decide) (by omega) hcr h z)
 rw [self_at (by omega)] at HSE
 rw [← hps] at HIM HSM HSE
 have HPA := qd (pairs_at hps)
 have hpl : ps.length ≤ 9 := by have := matchesZ_len (matchZ s.data.toList r) s.size; rw [← hps] at this; omega
 clear hps
 unfold reV at HIM HSM HSE
 refine (HIM.out _ Xr.out.kids (HT.out.kept BW.out)).mono ?_
 rintro e w2 ⟨v1, rfl, ho, hb⟩
 have Xr := qd (Xr.out.kept hb)
 have BW := qd (BW.out.trans (hb.mono BW.out.size))
 clear hb
 obtain ⟨al, cl, rfl, hrl⟩ := ho.look
 have PL := qd hrl
 clear ho hrl HIM
 obtain ⟨y0, y1, y2, y3, y4, y5, y6⟩ := Xr.out.six.cells
 clear y6
 go_wp2_with fail
 refine (HSM.out _ Xr.out.kids).mono ?_
 rintro e w3 ⟨v2, rfl, ho, hb⟩
 clear y0 y1 y2 y3 y4 y5
 have Xr := qd (Xr.out.kept hb)
 have PL := qd (PL.out.kept hb)
 have BW := qd (BW.out.trans (hb.mono BW.out.size))
 clear hb
 obtain ⟨an, cn, rfl, hrl⟩ := ho.look
 have PN := qd hrl
 clear ho hrl HSM
 go_wp2_with fail
 refine (drawPut_any a n cap _ hn (HC.out.kept BW.out)).mono ?_
 rintro e w4 ⟨p, f, hp, hf, rfl, hb⟩
 have Xr := qd (Xr.out.kept hb)
 have PL := qd (PL.out.kept hb)
 have PN := qd (PN.out.kept hb)
 have BW := qd (BW.out.trans (hb.mono BW.out.size))
 clear hb
 go_wp2_with fail
 refine (drawReplace_any a n cap _ hn (HC.out.kept BW.out)).mono ?_
 rintro e w5 ⟨q, aq, cq, rp, t, al2, rfl, hk, hcq, hrp, ht9, hb⟩
 have Xr := qd (Xr.out.kept hb)
 have PL := qd (PL.out.kept hb)
 have PN := qd (PN.out.kept hb)
 have BW := qd (BW.out.trans (hb.mono BW.out.size))
 clear hb
 have hk := hk.mono (Nat.zero_le _)
 have hcq : RT.cost q ≤ 1048576 := by omega
 unfold reV
 have Xq : Hid (BxR (w5.alloc (.cells #[.int .i64 q.kind, .string q.set, .bool q.neg, .int .i64 q.low, .int .i64 q.high, .slice aq q.kids.length cq] 26)) w5.heap.size q aq cq) := qd (bxR_new hk)
 clear hk
 have bx : Below w5.heap.size w5 (w5.alloc (.cells #[.int .i64 q.kind, .string q.set, .bool q.neg, .int .i64 q.low, .int .i64 q.high, .slice aq q.kids.length cq] 26)) := (Below.refl _ _).alloc (Nat.le_refl _) _
 have Xr := qd (Xr.out.kept bx)
 have PL := qd (PL.out.kept bx)
 have PN := qd (PN.out.kept bx)
 have BW := qd (BW.out.trans (bx.mono BW.out.size))
 clear bx
 go_wp2_with fail
 obtain ⟨gq, hgq⟩ : ∃ g, g = w5.heap.size := ⟨_, rfl⟩
 rw [← hgq] at Xq ⊢
 generalize (w5.alloc (.cells #[.int .i64 q.kind, .string q.set, .bool q.neg, .int .i64 q.low, .int .i64 q.high, .slice aq q.kids.length cq] 26)) = xq at *
 clear hgq
 obtain ⟨x, m, ok, hrr, hno, hyes⟩ := repRes_ends rp t al2 (matchesZ (matchZ t.data.toList q) t.size)
 have HIR := qd (fun W h z => implReplaceZ_any q rp t al2 aq cq W (by omega) (by omega) hcq h z)
 have HSR := qd (fun W h => specReplace_any q rp t al2 aq cq W (by omega) (by omega) hcq h)
 rw [hrr] at HIR HSR
 clear hrr
 have HQM := qd (fun W h z => implMatches_any q t aq cq W (by omega) hcq h z)
 have hql : (matchesZ (matchZ t.data.toList q) t.size).length ≤ 67 := by have := matchesZ_len (matchZ t.data.toList q) t.size; omega
 generalize matchesZ (matchZ t.data.toList q) t.size = pq at *
 unfold reV at HIR HSR HQM
 have HNO := qd hno
 have HYES := qd hyes
 clear hno hyes
 refine (HIR.out _ Xq.out.kids (HT.out.kept BW.out)).mono ?_
 rintro e w6 ⟨rfl, hb⟩
 have Xr := qd (Xr.out.kept hb)
 have PL := qd (PL.out.kept hb)
 have PN := qd (PN.out.kept hb)
 have Xq := qd (Xq.out.kept hb)
 have BW := qd (BW.out.trans (hb.mono BW.out.size))
 clear hb
 obtain ⟨y0, y1, y2, y3, y4, y5, y6⟩ := Xq.out.six.cells
 clear y6
 go_wp2_with fail
 refine (HSR.out _ Xq.out.kids).mono ?_
 rintro e w7 ⟨rfl, hb⟩
 clear y0 y1 y2 y3 y4 y5
 have Xr := qd (Xr.out.kept hb)
 have PL := qd (PL.out.kept hb)
 have PN := qd (PN.out.kept hb)
 have Xq := qd (Xq.out.kept hb)
 have BW := qd (BW.out.trans (hb.mono BW.out.size))
 clear hb
 clear HIR HSR
 go_wp2_with fail
 refine (drawEscape_any a n cap _ hn (HC.out.kept BW.out)).mono ?_
 rintro e w8 ⟨es, hes, rfl, hb⟩
 have Xr := qd (Xr.out.kept hb)
 have PL := qd (PL.out.kept hb)
 have PN := qd (PN.out.kept hb)
 have Xq := qd (Xq.out.kept hb)
 have BW := qd (BW.out.trans (hb.mono BW.out.size))
 clear hb
 have CPI := qd (fun W => implPut_any p f W (by omega) (by omega))
 have CPS := qd (fun W => specPut_any p f W (by omega) (by omega))
 generalize (⟨(putL f.data.toList p.data.toList).toArray⟩ : ByteArray) = pz at CPI CPS
 have CEI := qd (fun W => implEsc_any es W (by omega))
 have CES := qd (fun W => specEsc_any es W (by omega))
 obtain ⟨ez, hez⟩ : ∃ ez : ByteArray, ez = ⟨(escL es.data.toList).toArray⟩ := ⟨_, rfl⟩
 have hez2 : ez.size ≤ 1048576 := by rw [hez]; exact esc_le es (by omega)
 have CPE := qd (fun W => implPut_any ez f W hez2 (by omega))
 rw [put_esc f es ez hez] at CPE
 rw [← hez] at CEI CES
 clear hez hez2
 go_wp2_with fail
 refine (CPI.out _).mono ?_
 rintro e w9 ⟨rfl, hb⟩
 have Xr := qd (Xr.out.kept hb)
 have PL := qd (PL.out.kept hb)
 have PN := qd (PN.out.kept hb)
 have Xq := qd (Xq.out.kept hb)
 have BW := qd (BW.out.trans (hb.mono BW.out.size))
 clear hb
 go_wp2_with fail
 refine (CPS.out _).mono ?_
 rintro e wz ⟨rfl, rfl⟩
 go_wp2_with fail
 refine (CEI.out _).mono ?_
 rintro e w10 ⟨rfl, hb⟩
 have Xr := qd (Xr.out.kept hb)
 have PL := qd (PL.out.kept hb)
 have PN := qd (PN.out.kept hb)
 have Xq := qd (Xq.out.kept hb)
 have BW := qd (BW.out.trans (hb.mono BW.out.size))
 clear hb
 go_wp2_with fail
 refine (CES.out _).mono ?_
 rintro e w11 ⟨rfl, hb⟩
 have Xr := qd (Xr.out.kept hb)
 have PL := qd (PL.out.kept hb)
 have PN := qd (PN.out.kept hb)
 have Xq := qd (Xq.out.kept hb)
 have BW := qd (BW.out.trans (hb.mono BW.out.size))
 clear hb
 go_wp2_with fail
 refine (CEI.out _).mono ?_
 rintro e w12 ⟨rfl, hb⟩
 have Xr := qd (Xr.out.kept hb)
 have PL := qd (PL.out.kept hb)
 have PN := qd (PN.out.kept hb)
 have Xq := qd (Xq.out.kept hb)
 have BW := qd (BW.out.trans (hb.mono BW.out.size))
 clear hb
 go_wp2_with fail
 refine (CPE.out _).mono ?_
 rintro e w13 ⟨rfl, hb⟩
 have Xr := qd (Xr.out.kept hb)
 have PL := qd (PL.out.kept hb)
 have PN := qd (PN.out.kept hb)
 have Xq := qd (Xq.out.kept hb)
 have BW := qd (BW.out.trans (hb.mono BW.out.size))
 clear hb
 clear CPI CPS CEI CES CPE
 have HF := qd (show FrS gr gq r q ar aq cr cq ps al an w w13 from ⟨Xr.out, Xq.out, PL.out, PN.out, BW.out⟩)
 clear Xr Xq PL PN BW
 have hp0 : 0 ≤ ps.length := Nat.zero_le _
 go_wp2_with fail
 go_loopw [20, 21] (fun v i wr => ∃ k : Nat, k ≤ ps.length ∧ i = .int .i64 (k : Int) ∧ v = .int .i64 ((lastP ps k : Nat) : Int) ∧ FrS gr gq r q ar aq cr cq ps al an w wr) (fun _ i _ => ps.length - (intOf i).toNat)
 case atStart => exact ⟨0, Nat.zero_le _, rfl, rfl, HF.out⟩
 case round =>
  obtain ⟨k, hk, rfl, rfl, hss⟩ := hrel
  have HF := qd hss
  clear hss
  by_cases hlt : k < ps.length
  · skip
    obtain ⟨h1, h2, h3, h4⟩ := HPA.out k hlt
    have HLN := qd (lastP_next ps k hlt)
    obtain ⟨gl, rfl⟩ := prR_at HF.out.lst k hlt
    obtain ⟨gn, rfl⟩ := prR_at HF.out.wnt k hlt
    obtain ⟨x0, hx0⟩ : ∃ x0, x0 = (ps[k]).1 := ⟨_, rfl⟩
    obtain ⟨y0, hy0⟩ : ∃ y0, y0 = (ps[k]).2 := ⟨_, rfl⟩
    have HS17 := qd (fun W (z : FrS gr gq r q ar aq cr cq ps (some ⟨gl, 0, none⟩) (some ⟨gn, 0, none⟩) w W) => z.s17 k x0 y0 hlt hx0 hy0)
    rw [← hx0, ← hy0] at h4
    rw [← hx0] at h1 h2
    rw [← hy0] at h2 h3 HLN
    clear hx0 hy0
    have HMA := qd (fun W (z : FrS gr gq r q ar aq cr cq ps (some ⟨gl, 0, none⟩) (some ⟨gn, 0, none⟩) w W) => implMatchAt_any r s (x0 : Int) ar cr W (by omega) hcr z.br.kids (HT.out.kept z.below))
    rw [h4] at HMA
    unfold reV at HMA
    clear h4
    generalize lastP ps k = lk at *
    have e1 : decide ((x0 : Int) < (lk : Int)) = false := by rw [decide_eq_false_iff_not]; omega
    have e2 : decide ((y0 : Int) < (x0 : Int)) = false := by rw [decide_eq_false_iff_not]; omega
    have e3 : decide (x0 < lk) = false := by rw [decide_eq_false_iff_not]; omega
    have e4 : decide (y0 < x0) = false := by rw [decide_eq_false_iff_not]; omega
    go_wp2_with fail
    have EQ := fun W => eqPair_run (x0 : Int) (y0 : Int) W
    go_region_held3 (fun w' => ((w'.cell? ⟨gr, 0, none⟩ = some (.int .i64 r.kind) ∧ w'.cell? ⟨gr, 1, none⟩ = some (.string r.set) ∧ w'.cell? ⟨gr, 2, none⟩ = some (.bool r.neg) ∧ w'.cell? ⟨gr, 3, none⟩ = some (.int .i64 r.low) ∧ w'.cell? ⟨gr, 4, none⟩ = some (.int .i64 r.high) ∧ w'.cell? ⟨gr, 5, none⟩ = some (.slice ar r.kids.length cr)) ∧ (w'.cell? ⟨gl, k * 2, none⟩ = some (.int .i64 (x0 : Int)) ∧ w'.cell? ⟨gl, k * 2 + 1, none⟩ = some (.int .i64 (y0 : Int)) ∧ w'.cell? ⟨gn, k * 2, none⟩ = some (.int .i64 (x0 : Int)) ∧ w'.cell? ⟨gn, k * 2 + 1, none⟩ = some (.int .i64 (y0 : Int))) ∧ FrS gr gq r q ar aq cr cq ps (some ⟨gl, 0, none⟩) (some ⟨gn, 0, none⟩) w w')) (first | exact HS17.out _ HF.out | exact HS17.out _ HF.out.drew | exact HS17.out _ (FrS.step (by assumption) (by assumption)) | exact HS17.out _ (FrS.step HF.out.drew (by assumption))) (first | (go_at_call 17; refine (HMA.out _ (by first | assumption | exact HF.out.drew)).mono ?_; rintro e wm ⟨rfl, hbm⟩))
    rename_i hH
    obtain ⟨_, ⟨_, u1, _, _⟩, hss⟩ := hH
    have HF := qd hss
    clear EQ hss
    have hkl : (k : Int) < (ps.length : Int) := by omega
    go_wp2_with fail
    go_roundw
    case rel => exact ⟨k + 1, by omega, by go_num, by rw [HLN.out], HF.out⟩
    case measure => simp [intOf]; omega
  · skip
    have hke : k = ps.length := by omega
    subst hke
    clear HPA hlt
    cases hok : ok
    · skip
      subst hok
      obtain ⟨hx, hm⟩ := HNO.out rfl
      subst hx
      subst hm
      clear HNO HYES
      clear HQM
      obtain ⟨y0, y1, y2, y3, y4, y5, y6⟩ := HF.out.br.six.cells
      clear y6
      go_wp2_with fail
      refine (HSE.out _ HF.out.br.kids (HT.out.kept HF.out.below)).mono ?_
      rintro e wx ⟨rfl, hb⟩
      clear y0 y1 y2 y3 y4 y5
      have HF := qd (HF.out.step hb)
      clear hb HSE
      have d3 : decide (4000 < s.size) = false := by rw [decide_eq_false_iff_not]; omega
      have d4 : decide ((4000 : Int) < (s.size : Int)) = false := by rw [decide_eq_false_iff_not]; omega
      go_wp2_with fail
      go_ret
      exact ⟨by simp, HF.out.below⟩
    · skip
      subst hok
      have hm := HYES.out rfl
      clear HNO HYES
      obtain ⟨y0, y1, y2, y3, y4, y5, y6⟩ := HF.out.bq.six.cells
      clear y6
      go_wp2_with fail
      refine (HQM.out _ HF.out.bq.kids (HT.out.kept HF.out.below)).mono ?_
      rintro e wy ⟨v3, rfl, ho, hb⟩
      obtain ⟨aq3, cq3, rfl, _⟩ := ho.look
      clear ho
      clear y0 y1 y2 y3 y4 y5
      have HF := qd (HF.out.step hb)
      clear hb HQM
      have d1 : decide ((pq.length : Int) < (m : Int)) = false := by rw [decide_eq_false_iff_not]; omega
      have d2 : decide (pq.length < m) = false := by rw [decide_eq_false_iff_not]; omega
      obtain ⟨y0, y1, y2, y3, y4, y5, y6⟩ := HF.out.br.six.cells
      clear y6
      go_wp2_with fail
      refine (HSE.out _ HF.out.br.kids (HT.out.kept HF.out.below)).mono ?_
      rintro e wx ⟨rfl, hb⟩
      clear y0 y1 y2 y3 y4 y5
      have HF := qd (HF.out.step hb)
      clear hb HSE
      have d3 : decide (4000 < s.size) = false := by rw [decide_eq_false_iff_not]; omega
      have d4 : decide ((4000 : Int) < (s.size : Int)) = false := by rw [decide_eq_false_iff_not]; omega
      go_wp2_with fail
      go_ret
      exact ⟨by simp, HF.out.below⟩
set_option maxRecDepth 100000 in
theorem walk (a : Option Addr) (n cap : Nat) (w : World) (hm : n ≤ maxLen) (hc : Code8 w a n) (ht : BT w) :
 Calls Tryz.prog 3 #[.slice a n cap] w fun e w' => e = .returned (.bool true) ∧ Below w.heap.size w w' := by
 by_cases hn : n ≤ 1048576
 · exact walk1 a n cap w hn hc ht
 · go_enter Tryz.func3, Tryz.ntmps3
   go_wp2_with fail
   refine (big_yesR a n cap _ (by omega)).mono ?_
   rintro e w1 ⟨rfl, rfl⟩
   go_wp2
   go_ret
   exact ⟨rfl, Below.refl _ _⟩
set_option maxRecDepth 100000 in
theorem contract (H : Type) (enc : TypeId × Value → H) (W : World) (base : Nat) (args : Array Value) (ds gs : List (DataW H)) (before : List MemPlace)
 (hval : ∀ (j : Nat) t v, Tryz.f3.params[j]? = some t → args[j]? = some v → Value.okWide Tryz.prog W .any base t v)
 (hW : DataW.Whole enc Tryz.prog Tryz.f3.params.toList Rows.fnReplaceSpec.vars false W args.toList ds gs before) (hL : laidMet Tryz.prog Rows.fnReplaceRow.laid W) :
 Calls Tryz.prog 3 args W fun e W' => ∃ v, e = .returned v ∧ Rows.fnReplaceSpec.post enc Tryz.prog Tryz.f3 false true false false W args v W' := by
 have hW' := hW
 obtain ⟨p, q, hA0, hV, rfl, hfz, hnd⟩ := hW
 have hA : DataW.TrodAll enc Tryz.prog W 0 (fun _ => true) true Tryz.f3.params.toList args.toList ds p := hA0
 rw [Tryz.params3] at hA hval
 obtain ⟨v0, vs0, d0, ds0, p0, q0, hargs, rfl, rfl, h0, r0⟩ := trodAll_cons hA
 obtain ⟨rfl, rfl, rfl⟩ := trodAll_nil r0
 obtain rfl : args = #[v0] := by cases args; simp_all
 obtain ⟨rfl, rfl⟩ := trodVars_none hV
 obtain ⟨a0, n0, c0, rfl, hn0, hc0⟩ := open_code (hval 0 22 v0 rfl rfl) h0
 have hlt0 : ∀ x ∈ p0, x.block < W.heap.size := fun x hx => by simpa using hW'.lt x (by simp [hx])
 clear hA0
 refine (walk a0 n0 c0 W hn0 hc0 (table hL)).mono fun e W' ⟨he, bel⟩ => ?_
 subst he
 exact ⟨_, rfl, _, _, _, [], _, [], hW', trodAll_mk1 (shut_bool Tryz.underlying4 _), (trodAll_cons_mk (Below.trod laidOut (by kernel_rfl) (of_decide_eq_true (by kernel_rfl)) h0 bel hlt0) trodAll_mk0), rfl, bel.frame _, fun h => by cases h⟩
noncomputable def laidWorld (os : Os) : World := World.laidAll Tryz.prog os Rows.fnReplaceRow.laid
theorem laid_met (os : Os) : laidMet Tryz.prog Rows.fnReplaceRow.laid ((laidWorld os).forCall (fun _ _ => 0) ⟨#[], #[.slice none 0 0], []⟩).memory :=
 laidMet_laidAll _ (by kernel_rfl) (by kernel_rfl)
theorem reads (os : Os) {H : Type} (enc : TypeId × Value → H) : ∃ places, DataW.whole enc Tryz.prog ((laidWorld os).forCall (fun _ _ => 0) ⟨#[], #[.slice none 0 0], []⟩).memory Tryz.f3.params.toList Rows.fnReplaceSpec.vars false #[Value.slice none 0 0].toList 8 = some ([.nil], [], places) :=
 ⟨[], by kernel_rfl⟩
set_option maxRecDepth 100000 in
theorem lifted (os : Os) (started : os.Started) (H : Type) (enc : TypeId × Value → H) (F : Stop.Interp) :
 ReturnsInHanded {} Tryz.checked os 3 .any ((OpenSpec.ofChange Rows.fnReplaceSpec).preRow enc Tryz.prog Tryz.f3 Rows.fnReplaceRow.domain false Rows.fnReplaceRow.laid) (((OpenSpec.ofChange Rows.fnReplaceSpec).at F).post enc Tryz.prog Tryz.f3 false true false false) := by
 obtain ⟨places, hx⟩ := reads os enc
 refine returnsInHanded_of_row (C := Tryz.checked) (s := OpenSpec.ofChange Rows.fnReplaceSpec) own started (by kernel_rfl) Tryz.func3
  (witness_row_at (enc := enc) (C := Tryz.checked) false (laidWorld os) #[.slice none 0 0] (World.laidAll_os _ _ _) (by kernel_rfl) (by kernel_rfl) (by kernel_rfl)
    (OpenSpec.preRow_of_cond 8 hx (by kernel_rfl) (fun k hk => by cases hk) (by kernel_rfl) (laid_met os))) ?_
 intro W base args ds gs before hval hW _ _ _ hL _ _
 exact contract H enc W base args ds gs before hval hW hL
theorem said : Rows.FnReplaceSaid :=
 OpenClaim.holds_of_cond 3 Tryz.f3 rfl rfl rfl rfl rfl rfl rfl ⟨rfl, rfl, rfl, rfl, rfl⟩ rfl rfl rfl rfl rfl (by kernel_rfl) Tryz.func3 (by kernel_rfl)
  (of_decide_eq_true (by kernel_rfl)) (by unfold Func.isWrapper; first | (rw [if_pos (by decide +kernel)]; kernel_rfl) | (rw [if_neg (by decide +kernel)]; exact ⟨rfl, rfl⟩))
  (fun os started H enc _ F => by rw [OpenClaim.pre_eq_preRow]; exact lifted os started H enc F)
theorem plain (f : FuncId) (fn : Func) (hf : Tryz.pinned.checked.prog.funcNamed Rows.fnReplaceRow.func = some f) (hfn : Tryz.pinned.checked.prog.funcs[f]? = some fn) :
 false = Tryz.pinned.checked.prog.looks [] ∧ ∀ (j : Nat) t, fn.params[j]? = some t → Tryz.pinned.checked.prog.wantsStandIn t = false := by
 obtain rfl : f = 3 := Option.some.inj ((show Tryz.prog.funcNamed Rows.fnReplaceRow.func = some 3 by kernel_rfl).symm.trans hf) |>.symm
 obtain rfl : fn = Tryz.f3 := (Option.some.inj (Tryz.func3.symm.trans hfn)).symm
 refine ⟨by kernel_rfl, fun j t ht => ?_⟩
 rw [Tryz.params3] at ht
 obtain rfl : t = 22 := by simpa using Array.mem_of_getElem? ht
 exact (show Tryz.prog.wantsStandIn 22 = false by kernel_rfl)
theorem card : Rows.FnReplaceCardSaid :=
 Claim7.holds_tied_plain_at .later [] _ _ _ _ said (fun _ h => by cases h) (by kernel_rfl) (fun _ h => by cases h) fnReplace_row_tie rfl ⟨rfl, rfl⟩ (by kernel_rfl) rfl plain (by kernel_rfl)
#print axioms card
end Go.Proofs.YtcimhpdpfckgiaaGreatDoor.fnReplace
