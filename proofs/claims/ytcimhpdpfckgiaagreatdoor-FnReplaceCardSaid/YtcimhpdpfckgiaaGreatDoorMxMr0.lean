/-
  Contract of spec.Replace over this seat's translation. Conditions: texts of at most 1048576 bytes, a tree that costs at most so much.
-/
import Derived.Test.YtcimhpdpfckgiaaGreatDoorMxMc1
import Derived.Test.YtcimhpdpfckgiaaGreatDoorMxPf1
import Derived.Test.YtcimhpdpfckgiaaGreatDoorMxPt1
import Derived.BigQuiet
import Derived.Deep.QuietTactic
set_option linter.unusedVariables false
set_option linter.unusedSimpArgs false
namespace Go.Proofs.YtcimhpdpfckgiaaGreatDoor.kit
open Go.ChangeShapes Go.WideShapes Go.ChangeAt Go.RowKit
theorem specMatches_chain (s : ByteArray) (t : RT) : ChainP s.size 0 (matchesZ (matchZ s.data.toList t) s.size) := matchesZ_chain matchZ_bd
theorem OwnPr.caps {B : Nat} {w : World} {a : Option Addr} {n cap : Nat} {ps : List (Nat × Nat)} (h : OwnPr B w (.slice a n cap) ps) : ps.length ≤ cap := by
 rcases h.2 with ⟨e, h0⟩ | ⟨g, cp, cur, e, hb, hg, h1, h2, h3⟩
 · injection e with e1 e2 e3; omega
 · injection e with e1 e2 e3; omega
theorem below_drew' {B : Nat} {w w' : World} (h : Below B w w') {n : Nat} : Below B w (w'.drewN n) := ⟨h.os, h.tape, h.output, h.size, h.block⟩
theorem PrR.take {w : World} {ps : List (Nat × Nat)} {a : Option Addr} (h : PrR w ps a) (k : Nat) : PrR w (ps.take k) a := fun j hj => by
 have hj2 : j < ps.length := Nat.lt_of_lt_of_le hj (List.length_take_le' _ _)
 obtain ⟨g, h1, h2, h3, h4⟩ := h j hj2
 rw [List.getElem_take]
 exact ⟨g, h1, h2, h3, h4⟩
set_option maxRecDepth 100000 in
set_option maxHeartbeats 4000000 in
theorem specReplace_any (t : RT) (r s : ByteArray) (all : Bool) (a : Option Addr) (cap : Nat) (w : World) (hr : r.size ≤ 1048576) (hs : s.size ≤ 1048576) (hc : RT.cost t ≤ 1048576) (hk : Kids 0 w t.kids a) :
 Calls Tryz.prog 11 #[reV t a cap, .string r, .string s, .bool all] w fun e w' => e = .returned (repRes r s all (matchesZ (matchZ s.data.toList t) s.size)) ∧ Below w.heap.size w w' := by
 have HM := qd (fun W h => specMatches_any t s a cap W hs hc h)
 have HP := qd (fun (f : ByteArray) W (hf : f.size ≤ 1048576) => specPut_any r f W hr hf)
 have HB := qd (show ∀ o, Below w.heap.size w (w.alloc o) from fun o => (Below.refl w.heap.size w).alloc (Nat.le_refl _) _)
 have HCH := qd (specMatches_chain s t)
 have HLEN := qd (matchesZ_len (matchZ s.data.toList t) s.size)
 have HK := qd hk
 generalize matchesZ (matchZ s.data.toList t) s.size = ps at *
 clear hk hc
 obtain ⟨k, ss, n, lo, hi, ts⟩ := t
 unfold reV
 simp only [RT.set, RT.kids, RT.kind, RT.neg, RT.low, RT.high, reV] at *
 go_enter Tryz.func11, Tryz.ntmps11
 go_wp2_with fail
 refine (HM.out _ (HK.out.kept (Nat.le_refl _) (HB.out _))).mono ?_
 rintro e w1 ⟨v1, rfl, ho1, hb1⟩
 obtain ⟨a1, c1, rfl, hp1⟩ := ho1.look
 have hcap := ho1.caps
 have HB1 := qd ((HB.out _).trans (hb1.mono (by simp)))
 have HP1 := qd hp1
 clear ho1 hb1 hp1 HM HK
 obtain ⟨l1, hl1⟩ : ∃ l1, l1 = ps.length := ⟨_, rfl⟩
 have HL1 := qd hl1
 rw [← hl1] at hcap HLEN ⊢
 clear hl1
 obtain ⟨qs, hqs⟩ : ∃ qs, qs = repPs all ps := ⟨_, rfl⟩
 obtain ⟨lq, hlq⟩ : ∃ lq, lq = qs.length := ⟨_, rfl⟩
 have hqk : (all = false ∧ 1 < l1 ∧ lq = 1) ∨ (lq = l1 ∧ (all = true ∨ ¬ 1 < l1)) := by
  rw [hlq, hqs, HL1.out]; unfold repPs
  cases all
  · by_cases h : 1 < ps.length
    · left; refine ⟨rfl, h, ?_⟩; simp; omega
    · right; refine ⟨?_, .inr h⟩; simp; omega
  · right; exact ⟨rfl, .inl rfl⟩
 have hpq : PrR w1 qs a1 := by rw [hqs]; unfold repPs; cases all; exact HP1.out.take 1; exact HP1.out
 have hch : ChainP s.size 0 qs := by rw [hqs]; unfold repPs; cases all; exact HCH.out.take 1; exact HCH.out
 have hlq9 : lq ≤ 1048577 := by rcases hqk with ⟨_, _, h⟩ | ⟨h, _⟩ <;> (have := HLEN.out; omega)
 have hlqc : lq ≤ c1 := by rcases hqk with ⟨_, _, h⟩ | ⟨h, _⟩ <;> omega
 have HRES := qd (show repRes r s all ps = if (repL s.data.toList r.data.toList qs).length ≤ 4000 then .tuple #[.string ⟨(repL s.data.toList r.data.toList qs).toArray⟩, .int .i64 (lq : Int), .bool true] else .tuple #[.string s, .int .i64 0, .bool false] from by rw [hlq, hqs]; rfl)
 have HLQ := qd hlq
 have HPQ := qd hpq
 have HCQ := qd hch
 have HR := qd hr
 have hsl9 : s.data.toList.length = s.size := by simp
 have hrl9 : r.data.toList.length = r.size := by simp
 have HSL := qd (And.intro hsl9 hrl9)
 clear hpq hch HP1 HCH HLEN HL1 hqs hlq hsl9 hrl9
 have hsplit : (all = false ∧ decide ((1 : Int) < (l1 : Int)) = true ∧ lq = 1 ∧ (1 : Int) ≤ (c1 : Int)) ∨ (lq = l1 ∧ (all = true ∧ decide ((1 : Int) < (l1 : Int)) = true)) ∨ (lq = l1 ∧ decide ((1 : Int) < (l1 : Int)) = false) := by
  rcases hqk with ⟨h1, h2, h3⟩ | ⟨h1, h2⟩
  · exact .inl ⟨h1, by rw [decide_eq_true_iff]; omega, h3, by omega⟩
  · by_cases h : 1 < l1
    · rcases h2 with h2 | h2
      · exact .inr (.inl ⟨h1, h2, by rw [decide_eq_true_iff]; omega⟩)
      · exact absurd h h2
    · exact .inr (.inr ⟨h1, by rw [decide_eq_false_iff_not]; omega⟩)
 clear hqk
 rcases hsplit with ⟨rfl, hd, hone, h1c⟩ | ⟨rfl, rfl, hd⟩ | ⟨rfl, hd⟩
 all_goals go_wp2_with fail
 · rw [show Value.slice a1 1 c1 = Value.slice a1 lq c1 from by rw [hone]]
   clear hone hd h1c
   go_loopg [12, 13, 14] lq (fun gg o f i wr => ∃ (j : Nat) (T : List UInt8) (fr : Nat), i = .int .i64 (j : Int) ∧ j ≤ lq ∧ gg = lq - j ∧ o = .string ⟨T.toArray⟩ ∧ f = .int .i64 (fr : Int) ∧ T.length ≤ 1099515000000 ∧ repSt s.data.toList r.data.toList (qs.take j) = (T, fr) ∧ Below w1.heap.size w1 wr)
   case atStart => exact ⟨0, [], 0, rfl, Nat.zero_le _, rfl, rfl, rfl, by simp, rfl, Below.refl _ _⟩
   case round =>
    obtain ⟨j, T, fr, rfl, hj, hgk, rfl, rfl, hTl, hst, hbe⟩ := hrel
    have HGK := qd hgk
    have HST := qd hst
    have HBE := qd hbe
    have hsz1 := bszP T
    have hfr : fr ≤ s.size := by
       have h := (HCQ.out.take j).fin s.data.toList r.data.toList
       rw [hst] at h; exact h
    clear hgk hst hbe
    by_cases hlt : j < lq
    · have hltd : decide ((j : Int) < (lq : Int)) = true := by rw [decide_eq_true_iff]; omega
      by_cases hT : T.length ≤ 4000
      · have hTd : decide ((T.length : Int) ≤ 4000) = true := by rw [decide_eq_true_iff]; omega
        have hjq : j < qs.length := by have := HLQ.out; omega
        obtain ⟨gr, rfl, hgr, p0, p1⟩ := (HPQ.out.kept HBE.out) j hjq
        have hat := HCQ.out.at s.data.toList r.data.toList j hjq
        rw [HST.out] at hat
        have hsnoc : repSt s.data.toList r.data.toList (qs.take (j + 1)) = repStep s.data.toList r.data.toList (T, fr) qs[j] := by
         rw [List.take_succ_eq_append_getElem hjq, repSt_snoc, HST.out]
        have HSN := qd hsnoc
        clear hsnoc
        generalize qs[j] = pq at *
        obtain ⟨q1, q2⟩ := pq
        simp only at p0 p1 hat HSN
        obtain ⟨ha1, ha2, ha3⟩ := hat
        have hs1 : ∀ W, (Instr.slice 9 (.string s) (some (.int .i64 (fr : Int))) (some (.int .i64 (q1 : Int))) none).run Tryz.prog W = .ok (.string ⟨((s.data.toList.take q1).drop fr).toArray⟩) W := fun W => by
         rw [run_slice_string W _ s .i64 .i64 _ _ Tryz.underlying9 (by omega) (by omega) (by omega), Int.toNat_natCast, Int.toNat_natCast, extract_drop]
        have hs2 : ∀ W, (Instr.slice 9 (.string s) (some (.int .i64 (q1 : Int))) (some (.int .i64 (q2 : Int))) none).run Tryz.prog W = .ok (.string ⟨((s.data.toList.take q2).drop q1).toArray⟩) W := fun W => by
         rw [run_slice_string W _ s .i64 .i64 _ _ Tryz.underlying9 (by omega) (by omega) (by omega), Int.toNat_natCast, Int.toNat_natCast, extract_drop]
        have hl1 : ((s.data.toList.take q1).drop fr).length ≤ 1048576 := by rw [List.length_drop, List.length_take]; omega
        have hl2 : ((s.data.toList.take q2).drop q1).length ≤ 1048576 := by rw [List.length_drop, List.length_take]; omega
        have hP := HP.out ⟨((s.data.toList.take q2).drop q1).toArray⟩
        have hpl := putL_len ((s.data.toList.take q2).drop q1) _ r.data.toList (Nat.le_refl _)
        unfold repStep at HSN
        simp only at HSN hP
        have hrl := HSL.out.2
        generalize hX1 : (s.data.toList.take q1).drop fr = X1 at *
        generalize hX2 : (s.data.toList.take q2).drop q1 = X2 at *
        have hbx2 := bszP X2
        have HPX := qd (fun W => hP W (by rw [hbx2]; exact hl2))
        generalize hX3 : putL X2 r.data.toList = X3 at *
        have hl3 : X3.length ≤ 1099512676352 := by
         have h1 : r.data.toList.length * (X2.length + 1) ≤ 1048576 * 1048577 := Nat.mul_le_mul (by have := HR.out; omega) (by omega)
         omega
        have hbx1 := bszP X1
        have hbx3 := bszP X3
        have e1 : (⟨T.toArray⟩ : ByteArray) ++ ⟨X1.toArray⟩ = ⟨(T ++ X1).toArray⟩ := app_litE T X1
        have e2 : (⟨(T ++ X1).toArray⟩ : ByteArray) ++ ⟨X3.toArray⟩ = ⟨(T ++ X1 ++ X3).toArray⟩ := app_litE (T ++ X1) X3
        have e3 : (ByteArray.mk (T ++ X1).toArray).size = T.length + X1.length := by rw [bszP, List.length_append]
        have hq1 : ¬ 9223372036854775807 < T.length + X1.length := by omega
        have hq2 : ¬ 9223372036854775807 < T.length + X1.length + X3.length := by omega
        have HT2 := qd (show (T ++ X1 ++ X3).length ≤ 1099515000000 ∧ repSt s.data.toList r.data.toList (qs.take (j + 1)) = (T ++ X1 ++ X3, q2) from ⟨by rw [List.length_append, List.length_append]; omega, by rw [HSN.out, List.append_assoc]⟩)
        clear hX1 hX2 hX3 hP hpl hrl hl1 hl2 hl3
        have i0 : (0 : Int) ≤ (j : Int) := by omega
        go_wp2_with fail
        go_quiet (first | (go_at_call 14; exact Calls.quiet_of_same ((HPX.out _).mono fun _ _ ⟨he, hw⟩ => ⟨he, hw.symm⟩)))
        go_wp2_with fail
        go_roundg (lq - (j + 1))
        case rel => exact ⟨j + 1, T ++ X1 ++ X3, q2, by go_num, by omega, rfl, by first | rfl | rw [List.append_assoc], rfl, HT2.out.1, HT2.out.2, below_drew' HBE.out⟩
        case measure => have := HGK.out; omega
      · have hTd : decide ((T.length : Int) ≤ 4000) = false := by rw [decide_eq_false_iff_not]; omega
        have HRB := qd (HRES.out.trans (if_neg (by
         have h := repL_mono s.data.toList r.data.toList (qs.take j) (qs.drop j)
         rw [List.take_append_drop, HST.out] at h
         simp only at h
         omega)))
        have hsl2 : ∀ W, (Instr.slice 9 (.string s) (some (.int .i64 (fr : Int))) none none).run Tryz.prog W = .ok (.string ⟨(s.data.toList.drop fr).toArray⟩) W := fun W => by
         rw [run_slice_string_from_if W _ s .i64 _ Tryz.underlying9, if_pos ⟨by omega, by omega⟩, Int.toNat_natCast, extract_drop, List.take_of_length_le (by simp)]
        have hdl : (s.data.toList.drop fr).length ≤ 1048576 := by have := HSL.out.1; rw [List.length_drop]; omega
        have HFIN := qd (show ∀ D, D = s.data.toList.drop fr → repL s.data.toList r.data.toList qs = repL s.data.toList r.data.toList qs from fun D hD => rfl)
        generalize hD : s.data.toList.drop fr = D at *
        have HFIN := qd (HFIN.out D rfl)
        have hsz2 := bszP D
        have happ : (⟨T.toArray⟩ : ByteArray) ++ ⟨D.toArray⟩ = ⟨(T ++ D).toArray⟩ := app_litE T D
        have hsz3 : (ByteArray.mk (T ++ D).toArray).size = T.length + D.length := by rw [bszP, List.length_append]
        have hq1 : ¬ 9223372036854775807 < T.length + D.length := by omega
        clear hD
        have hbig : decide (4000 < (T.length : Int) + (D.length : Int)) = true := by rw [decide_eq_true_iff]; omega
        go_wp2_with fail
        go_ret3
        exact ⟨by rw [HRB.out]; rfl, HB1.out.trans (HBE.out.mono HB1.out.size)⟩
    · obtain rfl : j = lq := by omega
      have hltd : decide ((j : Int) < (j : Int)) = false := by rw [decide_eq_false_iff_not]; omega
      have hsl2 : ∀ W, (Instr.slice 9 (.string s) (some (.int .i64 (fr : Int))) none none).run Tryz.prog W = .ok (.string ⟨(s.data.toList.drop fr).toArray⟩) W := fun W => by
       rw [run_slice_string_from_if W _ s .i64 _ Tryz.underlying9, if_pos ⟨by omega, by omega⟩, Int.toNat_natCast, extract_drop, List.take_of_length_le (by simp)]
      have hdl : (s.data.toList.drop fr).length ≤ 1048576 := by have := HSL.out.1; rw [List.length_drop]; omega
      have HFIN := qd (show ∀ D, D = s.data.toList.drop fr → repL s.data.toList r.data.toList qs = T ++ D from fun D hD => by
       have h := HST.out
       rw [List.take_of_length_le (by have := HLQ.out; omega)] at h
       unfold repL; rw [h, hD])
      generalize hD : s.data.toList.drop fr = D at *
      have HFIN := qd (HFIN.out D rfl)
      have hsz2 := bszP D
      have happ : (⟨T.toArray⟩ : ByteArray) ++ ⟨D.toArray⟩ = ⟨(T ++ D).toArray⟩ := app_litE T D
      have hsz3 : (ByteArray.mk (T ++ D).toArray).size = T.length + D.length := by rw [bszP, List.length_append]
      have hq1 : ¬ 9223372036854775807 < T.length + D.length := by omega
      clear hD
      by_cases hbg : 4000 < T.length + D.length
      · have hbig : decide (4000 < (T.length : Int) + (D.length : Int)) = true := by rw [decide_eq_true_iff]; omega
        have HRB := qd (HRES.out.trans (if_neg (by rw [HFIN.out, List.length_append]; omega)))
        clear hbg
        go_wp2_with fail
        go_ret3
        exact ⟨by rw [HRB.out]; rfl, HB1.out.trans (HBE.out.mono HB1.out.size)⟩
      · have hbig : decide (4000 < (T.length : Int) + (D.length : Int)) = false := by rw [decide_eq_false_iff_not]; omega
        have HRB := qd (HRES.out.trans (if_pos (by rw [HFIN.out, List.length_append]; omega)))
        rw [HFIN.out] at HRB
        clear hbg
        go_wp2_with fail
        go_ret3
        exact ⟨by rw [HRB.out]; rfl, HB1.out.trans (HBE.out.mono HB1.out.size)⟩
 · clear hd
   go_loopg [12, 13, 14] lq (fun gg o f i wr => ∃ (j : Nat) (T : List UInt8) (fr : Nat), i = .int .i64 (j : Int) ∧ j ≤ lq ∧ gg = lq - j ∧ o = .string ⟨T.toArray⟩ ∧ f = .int .i64 (fr : Int) ∧ T.length ≤ 1099515000000 ∧ repSt s.data.toList r.data.toList (qs.take j) = (T, fr) ∧ Below w1.heap.size w1 wr)
   case atStart => exact ⟨0, [], 0, rfl, Nat.zero_le _, rfl, rfl, rfl, by simp, rfl, Below.refl _ _⟩
   case round =>
    obtain ⟨j, T, fr, rfl, hj, hgk, rfl, rfl, hTl, hst, hbe⟩ := hrel
    have HGK := qd hgk
    have HST := qd hst
    have HBE := qd hbe
    have hsz1 := bszP T
    have hfr : fr ≤ s.size := by
        have h := (HCQ.out.take j).fin s.data.toList r.data.toList
        rw [hst] at h; exact h
    clear hgk hst hbe
    by_cases hlt : j < lq
    · have hltd : decide ((j : Int) < (lq : Int)) = true := by rw [decide_eq_true_iff]; omega
      by_cases hT : T.length ≤ 4000
      · have hTd : decide ((T.length : Int) ≤ 4000) = true := by rw [decide_eq_true_iff]; omega
        have hjq : j < qs.length := by have := HLQ.out; omega
        obtain ⟨gr, rfl, hgr, p0, p1⟩ := (HPQ.out.kept HBE.out) j hjq
        have hat := HCQ.out.at s.data.toList r.data.toList j hjq
        rw [HST.out] at hat
        have hsnoc : repSt s.data.toList r.data.toList (qs.take (j + 1)) = repStep s.data.toList r.data.toList (T, fr) qs[j] := by
         rw [List.take_succ_eq_append_getElem hjq, repSt_snoc, HST.out]
        have HSN := qd hsnoc
        clear hsnoc
        generalize qs[j] = pq at *
        obtain ⟨q1, q2⟩ := pq
        simp only at p0 p1 hat HSN
        obtain ⟨ha1, ha2, ha3⟩ := hat
        have hs1 : ∀ W, (Instr.slice 9 (.string s) (some (.int .i64 (fr : Int))) (some (.int .i64 (q1 : Int))) none).run Tryz.prog W = .ok (.string ⟨((s.data.toList.take q1).drop fr).toArray⟩) W := fun W => by
         rw [run_slice_string W _ s .i64 .i64 _ _ Tryz.underlying9 (by omega) (by omega) (by omega), Int.toNat_natCast, Int.toNat_natCast, extract_drop]
        have hs2 : ∀ W, (Instr.slice 9 (.string s) (some (.int .i64 (q1 : Int))) (some (.int .i64 (q2 : Int))) none).run Tryz.prog W = .ok (.string ⟨((s.data.toList.take q2).drop q1).toArray⟩) W := fun W => by
         rw [run_slice_string W _ s .i64 .i64 _ _ Tryz.underlying9 (by omega) (by omega) (by omega), Int.toNat_natCast, Int.toNat_natCast, extract_drop]
        have hl1 : ((s.data.toList.take q1).drop fr).length ≤ 1048576 := by rw [List.length_drop, List.length_take]; omega
        have hl2 : ((s.data.toList.take q2).drop q1).length ≤ 1048576 := by rw [List.length_drop, List.length_take]; omega
        have hP := HP.out ⟨((s.data.toList.take q2).drop q1).toArray⟩
        have hpl := putL_len ((s.data.toList.take q2).drop q1) _ r.data.toList (Nat.le_refl _)
        unfold repStep at HSN
        simp only at HSN hP
        have hrl := HSL.out.2
        generalize hX1 : (s.data.toList.take q1).drop fr = X1 at *
        generalize hX2 : (s.data.toList.take q2).drop q1 = X2 at *
        have hbx2 := bszP X2
        have HPX := qd (fun W => hP W (by rw [hbx2]; exact hl2))
        generalize hX3 : putL X2 r.data.toList = X3 at *
        have hl3 : X3.length ≤ 1099512676352 := by
         have h1 : r.data.toList.length * (X2.length + 1) ≤ 1048576 * 1048577 := Nat.mul_le_mul (by have := HR.out; omega) (by omega)
         omega
        have hbx1 := bszP X1
        have hbx3 := bszP X3
        have e1 : (⟨T.toArray⟩ : ByteArray) ++ ⟨X1.toArray⟩ = ⟨(T ++ X1).toArray⟩ := app_litE T X1
        have e2 : (⟨(T ++ X1).toArray⟩ : ByteArray) ++ ⟨X3.toArray⟩ = ⟨(T ++ X1 ++ X3).toArray⟩ := app_litE (T ++ X1) X3
        have e3 : (ByteArray.mk (T ++ X1).toArray).size = T.length + X1.length := by rw [bszP, List.length_append]
        have hq1 : ¬ 9223372036854775807 < T.length + X1.length := by omega
        have hq2 : ¬ 9223372036854775807 < T.length + X1.length + X3.length := by omega
        have HT2 := qd (show (T ++ X1 ++ X3).length ≤ 1099515000000 ∧ repSt s.data.toList r.data.toList (qs.take (j + 1)) = (T ++ X1 ++ X3, q2) from ⟨by rw [List.length_append, List.length_append]; omega, by rw [HSN.out, List.append_assoc]⟩)
        clear hX1 hX2 hX3 hP hpl hrl hl1 hl2 hl3
        have i0 : (0 : Int) ≤ (j : Int) := by omega
        go_wp2_with fail
        go_quiet (first | (go_at_call 14; exact Calls.quiet_of_same ((HPX.out _).mono fun _ _ ⟨he, hw⟩ => ⟨he, hw.symm⟩)))
        go_wp2_with fail
        go_roundg (lq - (j + 1))
        case rel => exact ⟨j + 1, T ++ X1 ++ X3, q2, by go_num, by omega, rfl, by first | rfl | rw [List.append_assoc], rfl, HT2.out.1, HT2.out.2, below_drew' HBE.out⟩
        case measure => have := HGK.out; omega
      · have hTd : decide ((T.length : Int) ≤ 4000) = false := by rw [decide_eq_false_iff_not]; omega
        have HRB := qd (HRES.out.trans (if_neg (by
         have h := repL_mono s.data.toList r.data.toList (qs.take j) (qs.drop j)
         rw [List.take_append_drop, HST.out] at h
         simp only at h
         omega)))
        have hsl2 : ∀ W, (Instr.slice 9 (.string s) (some (.int .i64 (fr : Int))) none none).run Tryz.prog W = .ok (.string ⟨(s.data.toList.drop fr).toArray⟩) W := fun W => by
         rw [run_slice_string_from_if W _ s .i64 _ Tryz.underlying9, if_pos ⟨by omega, by omega⟩, Int.toNat_natCast, extract_drop, List.take_of_length_le (by simp)]
        have hdl : (s.data.toList.drop fr).length ≤ 1048576 := by have := HSL.out.1; rw [List.length_drop]; omega
        have HFIN := qd (show ∀ D, D = s.data.toList.drop fr → repL s.data.toList r.data.toList qs = repL s.data.toList r.data.toList qs from fun D hD => rfl)
        generalize hD : s.data.toList.drop fr = D at *
        have HFIN := qd (HFIN.out D rfl)
        have hsz2 := bszP D
        have happ : (⟨T.toArray⟩ : ByteArray) ++ ⟨D.toArray⟩ = ⟨(T ++ D).toArray⟩ := app_litE T D
        have hsz3 : (ByteArray.mk (T ++ D).toArray).size = T.length + D.length := by rw [bszP, List.length_append]
        have hq1 : ¬ 9223372036854775807 < T.length + D.length := by omega
        clear hD
        have hbig : decide (4000 < (T.length : Int) + (D.length : Int)) = true := by rw [decide_eq_true_iff]; omega
        go_wp2_with fail
        go_ret3
        exact ⟨by rw [HRB.out]; rfl, HB1.out.trans (HBE.out.mono HB1.out.size)⟩
    · obtain rfl : j = lq := by omega
      have hltd : decide ((j : Int) < (j : Int)) = false := by rw [decide_eq_false_iff_not]; omega
      have hsl2 : ∀ W, (Instr.slice 9 (.string s) (some (.int .i64 (fr : Int))) none none).run Tryz.prog W = .ok (.string ⟨(s.data.toList.drop fr).toArray⟩) W := fun W => by
         rw [run_slice_string_from_if W _ s .i64 _ Tryz.underlying9, if_pos ⟨by omega, by omega⟩, Int.toNat_natCast, extract_drop, List.take_of_length_le (by simp)]
      have hdl : (s.data.toList.drop fr).length ≤ 1048576 := by have := HSL.out.1; rw [List.length_drop]; omega
      have HFIN := qd (show ∀ D, D = s.data.toList.drop fr → repL s.data.toList r.data.toList qs = T ++ D from fun D hD => by
       have h := HST.out
       rw [List.take_of_length_le (by have := HLQ.out; omega)] at h
       unfold repL; rw [h, hD])
      generalize hD : s.data.toList.drop fr = D at *
      have HFIN := qd (HFIN.out D rfl)
      have hsz2 := bszP D
      have happ : (⟨T.toArray⟩ : ByteArray) ++ ⟨D.toArray⟩ = ⟨(T ++ D).toArray⟩ := app_litE T D
      have hsz3 : (ByteArray.mk (T ++ D).toArray).size = T.length + D.length := by rw [bszP, List.length_append]
      have hq1 : ¬ 9223372036854775807 < T.length + D.length := by omega
      clear hD
      by_cases hbg : 4000 < T.length + D.length
      · have hbig : decide (4000 < (T.length : Int) + (D.length : Int)) = true := by rw [decide_eq_true_iff]; omega
        have HRB := qd (HRES.out.trans (if_neg (by rw [HFIN.out, List.length_append]; omega)))
        clear hbg
        go_wp2_with fail
        go_ret3
        exact ⟨by rw [HRB.out]; rfl, HB1.out.trans (HBE.out.mono HB1.out.size)⟩
      · have hbig : decide (4000 < (T.length : Int) + (D.length : Int)) = false := by rw [decide_eq_false_iff_not]; omega
        have HRB := qd (HRES.out.trans (if_pos (by rw [HFIN.out, List.length_append]; omega)))
        rw [HFIN.out] at HRB
        clear hbg
        go_wp2_with fail
        go_ret3
        exact ⟨by rw [HRB.out]; rfl, HB1.out.trans (HBE.out.mono HB1.out.size)⟩
 · clear hd
   go_loopg [12, 13, 14] lq (fun gg o f i wr => ∃ (j : Nat) (T : List UInt8) (fr : Nat), i = .int .i64 (j : Int) ∧ j ≤ lq ∧ gg = lq - j ∧ o = .string ⟨T.toArray⟩ ∧ f = .int .i64 (fr : Int) ∧ T.length ≤ 1099515000000 ∧ repSt s.data.toList r.data.toList (qs.take j) = (T, fr) ∧ Below w1.heap.size w1 wr)
   case atStart => exact ⟨0, [], 0, rfl, Nat.zero_le _, rfl, rfl, rfl, by simp, rfl, Below.refl _ _⟩
   case round =>
    obtain ⟨j, T, fr, rfl, hj, hgk, rfl, rfl, hTl, hst, hbe⟩ := hrel
    have HGK := qd hgk
    have HST := qd hst
    have HBE := qd hbe
    have hsz1 := bszP T
    have hfr : fr ≤ s.size := by
        have h := (HCQ.out.take j).fin s.data.toList r.data.toList
        rw [hst] at h; exact h
    clear hgk hst hbe
    by_cases hlt : j < lq
    · have hltd : decide ((j : Int) < (lq : Int)) = true := by rw [decide_eq_true_iff]; omega
      by_cases hT : T.length ≤ 4000
      · have hTd : decide ((T.length : Int) ≤ 4000) = true := by rw [decide_eq_true_iff]; omega
        have hjq : j < qs.length := by have := HLQ.out; omega
        obtain ⟨gr, rfl, hgr, p0, p1⟩ := (HPQ.out.kept HBE.out) j hjq
        have hat := HCQ.out.at s.data.toList r.data.toList j hjq
        rw [HST.out] at hat
        have hsnoc : repSt s.data.toList r.data.toList (qs.take (j + 1)) = repStep s.data.toList r.data.toList (T, fr) qs[j] := by
         rw [List.take_succ_eq_append_getElem hjq, repSt_snoc, HST.out]
        have HSN := qd hsnoc
        clear hsnoc
        generalize qs[j] = pq at *
        obtain ⟨q1, q2⟩ := pq
        simp only at p0 p1 hat HSN
        obtain ⟨ha1, ha2, ha3⟩ := hat
        have hs1 : ∀ W, (Instr.slice 9 (.string s) (some (.int .i64 (fr : Int))) (some (.int .i64 (q1 : Int))) none).run Tryz.prog W = .ok (.string ⟨((s.data.toList.take q1).drop fr).toArray⟩) W := fun W => by
         rw [run_slice_string W _ s .i64 .i64 _ _ Tryz.underlying9 (by omega) (by omega) (by omega), Int.toNat_natCast, Int.toNat_natCast, extract_drop]
        have hs2 : ∀ W, (Instr.slice 9 (.string s) (some (.int .i64 (q1 : Int))) (some (.int .i64 (q2 : Int))) none).run Tryz.prog W = .ok (.string ⟨((s.data.toList.take q2).drop q1).toArray⟩) W := fun W => by
         rw [run_slice_string W _ s .i64 .i64 _ _ Tryz.underlying9 (by omega) (by omega) (by omega), Int.toNat_natCast, Int.toNat_natCast, extract_drop]
        have hl1 : ((s.data.toList.take q1).drop fr).length ≤ 1048576 := by rw [List.length_drop, List.length_take]; omega
        have hl2 : ((s.data.toList.take q2).drop q1).length ≤ 1048576 := by rw [List.length_drop, List.length_take]; omega
        have hP := HP.out ⟨((s.data.toList.take q2).drop q1).toArray⟩
        have hpl := putL_len ((s.data.toList.take q2).drop q1) _ r.data.toList (Nat.le_refl _)
        unfold repStep at HSN
        simp only at HSN hP
        have hrl := HSL.out.2
        generalize hX1 : (s.data.toList.take q1).drop fr = X1 at *
        generalize hX2 : (s.data.toList.take q2).drop q1 = X2 at *
        have hbx2 := bszP X2
        have HPX := qd (fun W => hP W (by rw [hbx2]; exact hl2))
        generalize hX3 : putL X2 r.data.toList = X3 at *
        have hl3 : X3.length ≤ 1099512676352 := by
         have h1 : r.data.toList.length * (X2.length + 1) ≤ 1048576 * 1048577 := Nat.mul_le_mul (by have := HR.out; omega) (by omega)
         omega
        have hbx1 := bszP X1
        have hbx3 := bszP X3
        have e1 : (⟨T.toArray⟩ : ByteArray) ++ ⟨X1.toArray⟩ = ⟨(T ++ X1).toArray⟩ := app_litE T X1
        have e2 : (⟨(T ++ X1).toArray⟩ : ByteArray) ++ ⟨X3.toArray⟩ = ⟨(T ++ X1 ++ X3).toArray⟩ := app_litE (T ++ X1) X3
        have e3 : (ByteArray.mk (T ++ X1).toArray).size = T.length + X1.length := by rw [bszP, List.length_append]
        have hq1 : ¬ 9223372036854775807 < T.length + X1.length := by omega
        have hq2 : ¬ 9223372036854775807 < T.length + X1.length + X3.length := by omega
        have HT2 := qd (show (T ++ X1 ++ X3).length ≤ 1099515000000 ∧ repSt s.data.toList r.data.toList (qs.take (j + 1)) = (T ++ X1 ++ X3, q2) from ⟨by rw [List.length_append, List.length_append]; omega, by rw [HSN.out, List.append_assoc]⟩)
        clear hX1 hX2 hX3 hP hpl hrl hl1 hl2 hl3
        have i0 : (0 : Int) ≤ (j : Int) := by omega
        go_wp2_with fail
        go_quiet (first | (go_at_call 14; exact Calls.quiet_of_same ((HPX.out _).mono fun _ _ ⟨he, hw⟩ => ⟨he, hw.symm⟩)))
        go_wp2_with fail
        go_roundg (lq - (j + 1))
        case rel => exact ⟨j + 1, T ++ X1 ++ X3, q2, by go_num, by omega, rfl, by first | rfl | rw [List.append_assoc], rfl, HT2.out.1, HT2.out.2, below_drew' HBE.out⟩
        case measure => have := HGK.out; omega
      · have hTd : decide ((T.length : Int) ≤ 4000) = false := by rw [decide_eq_false_iff_not]; omega
        have HRB := qd (HRES.out.trans (if_neg (by
         have h := repL_mono s.data.toList r.data.toList (qs.take j) (qs.drop j)
         rw [List.take_append_drop, HST.out] at h
         simp only at h
         omega)))
        have hsl2 : ∀ W, (Instr.slice 9 (.string s) (some (.int .i64 (fr : Int))) none none).run Tryz.prog W = .ok (.string ⟨(s.data.toList.drop fr).toArray⟩) W := fun W => by
         rw [run_slice_string_from_if W _ s .i64 _ Tryz.underlying9, if_pos ⟨by omega, by omega⟩, Int.toNat_natCast, extract_drop, List.take_of_length_le (by simp)]
        have hdl : (s.data.toList.drop fr).length ≤ 1048576 := by have := HSL.out.1; rw [List.length_drop]; omega
        have HFIN := qd (show ∀ D, D = s.data.toList.drop fr → repL s.data.toList r.data.toList qs = repL s.data.toList r.data.toList qs from fun D hD => rfl)
        generalize hD : s.data.toList.drop fr = D at *
        have HFIN := qd (HFIN.out D rfl)
        have hsz2 := bszP D
        have happ : (⟨T.toArray⟩ : ByteArray) ++ ⟨D.toArray⟩ = ⟨(T ++ D).toArray⟩ := app_litE T D
        have hsz3 : (ByteArray.mk (T ++ D).toArray).size = T.length + D.length := by rw [bszP, List.length_append]
        have hq1 : ¬ 9223372036854775807 < T.length + D.length := by omega
        clear hD
        have hbig : decide (4000 < (T.length : Int) + (D.length : Int)) = true := by rw [decide_eq_true_iff]; omega
        go_wp2_with fail
        go_ret3
        exact ⟨by rw [HRB.out]; rfl, HB1.out.trans (HBE.out.mono HB1.out.size)⟩
    · obtain rfl : j = lq := by omega
      have hltd : decide ((j : Int) < (j : Int)) = false := by rw [decide_eq_false_iff_not]; omega
      have hsl2 : ∀ W, (Instr.slice 9 (.string s) (some (.int .i64 (fr : Int))) none none).run Tryz.prog W = .ok (.string ⟨(s.data.toList.drop fr).toArray⟩) W := fun W => by
         rw [run_slice_string_from_if W _ s .i64 _ Tryz.underlying9, if_pos ⟨by omega, by omega⟩, Int.toNat_natCast, extract_drop, List.take_of_length_le (by simp)]
      have hdl : (s.data.toList.drop fr).length ≤ 1048576 := by have := HSL.out.1; rw [List.length_drop]; omega
      have HFIN := qd (show ∀ D, D = s.data.toList.drop fr → repL s.data.toList r.data.toList qs = T ++ D from fun D hD => by
       have h := HST.out
       rw [List.take_of_length_le (by have := HLQ.out; omega)] at h
       unfold repL; rw [h, hD])
      generalize hD : s.data.toList.drop fr = D at *
      have HFIN := qd (HFIN.out D rfl)
      have hsz2 := bszP D
      have happ : (⟨T.toArray⟩ : ByteArray) ++ ⟨D.toArray⟩ = ⟨(T ++ D).toArray⟩ := app_litE T D
      have hsz3 : (ByteArray.mk (T ++ D).toArray).size = T.length + D.length := by rw [bszP, List.length_append]
      have hq1 : ¬ 9223372036854775807 < T.length + D.length := by omega
      clear hD
      by_cases hbg : 4000 < T.length + D.length
      · have hbig : decide (4000 < (T.length : Int) + (D.length : Int)) = true := by rw [decide_eq_true_iff]; omega
        have HRB := qd (HRES.out.trans (if_neg (by rw [HFIN.out, List.length_append]; omega)))
        clear hbg
        go_wp2_with fail
        go_ret3
        exact ⟨by rw [HRB.out]; rfl, HB1.out.trans (HBE.out.mono HB1.out.size)⟩
      · have hbig : decide (4000 < (T.length : Int) + (D.length : Int)) = false := by rw [decide_eq_false_iff_not]; omega
        have HRB := qd (HRES.out.trans (if_pos (by rw [HFIN.out, List.length_append]; omega)))
        rw [HFIN.out] at HRB
        clear hbg
        go_wp2_with fail
        go_ret3
        exact ⟨by rw [HRB.out]; rfl, HB1.out.trans (HBE.out.mono HB1.out.size)⟩
end Go.Proofs.YtcimhpdpfckgiaaGreatDoor.kit
