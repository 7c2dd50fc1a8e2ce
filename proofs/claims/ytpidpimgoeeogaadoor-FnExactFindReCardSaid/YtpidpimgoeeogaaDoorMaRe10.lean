/-
 Contracts of spec.l04Right and spec.ReOk over this seat's translation: whether an expression is right. Conditions: each theorem names its own.
-/
import Derived.Test.YtpidpimgoeeogaaDoorMaRe6
namespace Go.Proofs.YtpidpimgoeeogaaDoor.kit
open Go.ChangeShapes Go.WideShapes Go.ChangeAt Go.RowKit
set_option linter.unusedVariables false

def optV : Option Int → Value
 | none => .tuple #[.bool false, .int .i64 0]
 | some k => .tuple #[.bool true, .int .i64 k]
theorem RT.rights_step (ts : List RT) (i : Nat) (h : i < ts.length) (deep left n : Int) :
  RT.rights (ts.drop i) i deep left n = match RT.right ts[i] (if i = 1 then deep else deep - 1) (left - n) with | none => none | some k => RT.rights (ts.drop (i + 1)) (i + 1) deep left (n + k) := by
 rw [List.drop_eq_getElem_cons h, RT.rights]
 cases RT.right ts[i] (if i = 1 then deep else deep - 1) (left - n) <;> rfl
theorem RT.rights_end (ts : List RT) (i : Nat) (deep left n : Int) : RT.rights (ts.drop ts.length) i deep left n = some n := by rw [List.drop_length, RT.rights]
theorem RT.right_no (t : RT) (deep left : Int) (h : deep < 0 ∨ left ≤ 0 ∨ RT.own t = false) : RT.right t deep left = none := by
 obtain ⟨k, s, n, lo, hi, ts⟩ := t
 rw [RT.right, if_pos h]
theorem RT.right_go (t : RT) (deep left : Int) (h : ¬ (deep < 0 ∨ left ≤ 0 ∨ RT.own t = false)) : RT.right t deep left = RT.rights t.kids 0 deep left 1 := by
 obtain ⟨k, s, n, lo, hi, ts⟩ := t
 rw [RT.right, if_neg h, RT.kids]
def RiOne (t : RT) : Prop := ∀ (a : Option Addr) (cap : Nat) (deep left : Int) (w : World), Kids 0 w t.kids a → RT.cost t ≤ 1048576 → -1 ≤ deep → deep ≤ 12 → 0 ≤ left → left ≤ 200 →
 Calls Tryd.prog 48 #[reV t a cap, .int .i64 deep, .int .i64 left] w fun e w' => e = .returned (optV (RT.right t deep left)) ∧ Below w.heap.size w w'
set_option maxRecDepth 100000 in
set_option maxHeartbeats 4000000 in
theorem riOne_of {t : RT} (h : ∀ u ∈ t.kids, RiOne u) : RiOne t := by
 intro a cap deep left w hk hc d0 d1 l0 l1
 have HK := Lib.hid hk
 have HS := Lib.hid h
 have hcb := RT.cost_eq t
 have hset : t.set.size ≤ 1048576 := by omega
 have hbill : RT.bill t.kids ≤ 1048576 := by omega
 have hlen : t.kids.length ≤ 1048576 := by simp only [RT.bill] at hbill; omega
 have HNO := Lib.hid (RT.right_no t deep left)
 have HGO := Lib.hid (RT.right_go t deep left)
 have HBL := Lib.hid hbill
 have HB := Lib.hid (show ∀ o, Below w.heap.size w (w.alloc o) from fun o => (Below.refl w.heap.size w).alloc (Nat.le_refl _) _)
 clear hk h hcb hc hbill
 obtain ⟨k, s, n, lo, hi, ts⟩ := t
 unfold reV
 simp only [RT.set, RT.kids, RT.kind, RT.neg, RT.low, RT.high] at *
 have HP := Lib.hid (fun W => l04Own_any k s n lo hi ts.length a cap W hset hlen)
 rw [← own_eq] at HP
 by_cases c0 : deep < 0
 ·go_enter Tryd.func48, Tryd.ntmps48
  go_wp2_with fail
  go_ret2
  exact ⟨by rw [HNO.out (.inl c0)]; rfl, HB.out _⟩
 ·by_cases c1 : left ≤ 0
  ·go_enter Tryd.func48, Tryd.ntmps48
   go_wp2_with fail
   go_ret2
   exact ⟨by rw [HNO.out (.inr (.inl c1))]; rfl, HB.out _⟩
  ·cases c2 : RT.own (.node k s n lo hi ts)
   ·rw [c2] at HP
    go_enter Tryd.func48, Tryd.ntmps48
    go_wp2_with fail
    refine (HP.out _).mono ?_
    rintro e w1 ⟨rfl, hb1⟩
    have HB1 := Lib.hid hb1
    clear hb1
    go_wp2_with fail
    go_ret2
    exact ⟨by rw [HNO.out (.inr (.inr c2))]; rfl, (HB.out _).trans (HB1.out.mono (HB.out _).size)⟩
   ·rw [c2] at HP
    have HE := Lib.hid (HGO.out (by rintro (d | d | d); exact c0 d; exact c1 d; rw [c2] at d; cases d))
    go_enter Tryd.func48, Tryd.ntmps48
    go_wp2_with fail
    refine (HP.out _).mono ?_
    rintro e w1 ⟨rfl, hb1⟩
    have HBX := Lib.hid hb1
    clear hb1
    go_wp2_with fail
    go_loopw [8, 9] (fun q i wr => ∃ (j : Nat) (m : Int), j ≤ ts.length ∧ i = .int .i64 (j : Int) ∧ q = .int .i64 m ∧ 1 ≤ m ∧ m ≤ left ∧ RT.rights (ts.drop j) j deep left m = RT.right (.node k s n lo hi ts) deep left ∧ Below (w.heap.size + 1) (w.alloc (.cells #[.int .i64 k, .string s, .bool n, .int .i64 lo, .int .i64 hi, .slice a ts.length cap] 26)) wr) (fun _ i _ => ts.length - (intOf i).toNat)
    case atStart => exact ⟨0, 1, Nat.zero_le _, rfl, rfl, by omega, by omega, HE.out.symm, by have := HBX.out; simpa using this⟩
    case round =>
     obtain ⟨j, m, hj, rfl, rfl, m0, m1, hrec, hb⟩ := hrel
     have hcell : wr.cell? ⟨w.heap.size, 5, none⟩ = some (.slice a ts.length cap) := by
      rw [hb.cell (p := ⟨w.heap.size, 5, none⟩) (by simp), World.cell?_alloc_at _ _ _ _ rfl]; rfl
     have HBW := Lib.hid ((HB.out (.cells #[.int .i64 k, .string s, .bool n, .int .i64 lo, .int .i64 hi, .slice a ts.length cap] 26)).trans (hb.mono (by omega)))
     have HBB := Lib.hid hb
     have HR := Lib.hid hrec
     clear hb hrec
     by_cases hlt : j < ts.length
     ·obtain ⟨a', cap', he, hk'⟩ := (HK.out.kept (Nat.le_refl _) HBW.out).elem j hlt
      obtain ⟨b, o, rfl, _, hbl, e0, e1, e2, e3, e4, e5, f0, f1⟩ := he
      have HO := Lib.hid (HS.out ts[j] (List.getElem_mem hlt))
      have hcost : RT.cost ts[j] ≤ 1048576 := by
       have h1 := RT.costs_take ts j hlt
       have h2 := RT.costs_le ts (j + 1)
       have h3 := HBL.out
       simp only [RT.bill] at h3; omega
      have HSTEP := Lib.hid ((HR.out.symm.trans (RT.rights_step ts j hlt deep left m)))
      generalize ts[j] = t at *
      have HK' := Lib.hid hk'
      clear hk'
      by_cases cj : j = 1
      ·have HRG := Lib.hid (RT.right_range t deep (left - m))
       have cj' : ((j : Int) == 1) = true := by simp [cj]
       have CJ := Lib.hid cj
       clear cj
       go_wp2_with fail
       refine (HO.out _ _ deep (left - m) _ HK'.out hcost (by omega) (by omega) (by omega) (by omega)).mono ?_
       rintro e w2 ⟨rfl, hb2⟩
       have HB2 := Lib.hid (HBB.out.trans (hb2.mono (by have := HBB.out.size; simpa using this)))
       have HB3 := Lib.hid (HBW.out.trans (hb2.mono HBW.out.size))
       clear hb2
       have HST := HSTEP.out
       rw [if_pos CJ.out] at HST
       have hrg := HRG.out
       generalize RT.right t deep (left - m) = l at *
       cases l with
       | none =>
        have HST := Lib.hid HST
        rw [show optV none = .tuple #[.bool false, .int .i64 0] from rfl]
        go_wp2_with fail
        go_ret2
        exact ⟨by rw [HST.out]; rfl, HB3.out⟩
       | some q =>
        obtain ⟨q1, q2⟩ := hrg q (by omega) rfl
        clear hrg
        have HST := Lib.hid HST
        rw [show optV (some q) = .tuple #[.bool true, .int .i64 q] from rfl]
        go_wp2_with fail
        go_roundw
        case rel => exact ⟨j + 1, m + q, by omega, by go_num, by go_num, by omega, by omega, HST.out.symm, HB2.out⟩
        case measure => simp [intOf]; omega
      ·have HRG := Lib.hid (RT.right_range t (deep - 1) (left - m))
       have cj' : ((j : Int) == 1) = false := by simp only [beq_eq_false_iff_ne, ne_eq]; omega
       have CJ := Lib.hid cj
       clear cj
       go_wp2_with fail
       refine (HO.out _ _ (deep - 1) (left - m) _ HK'.out hcost (by omega) (by omega) (by omega) (by omega)).mono ?_
       rintro e w2 ⟨rfl, hb2⟩
       have HB2 := Lib.hid (HBB.out.trans (hb2.mono (by have := HBB.out.size; simpa using this)))
       have HB3 := Lib.hid (HBW.out.trans (hb2.mono HBW.out.size))
       clear hb2
       have HST := HSTEP.out
       rw [if_neg CJ.out] at HST
       have hrg := HRG.out
       generalize RT.right t (deep - 1) (left - m) = l at *
       cases l with
       | none =>
        have HST := Lib.hid HST
        rw [show optV none = .tuple #[.bool false, .int .i64 0] from rfl]
        go_wp2_with fail
        go_ret2
        exact ⟨by rw [HST.out]; rfl, HB3.out⟩
       | some q =>
        obtain ⟨q1, q2⟩ := hrg q (by omega) rfl
        clear hrg
        have HST := Lib.hid HST
        rw [show optV (some q) = .tuple #[.bool true, .int .i64 q] from rfl]
        go_wp2_with fail
        go_roundw
        case rel => exact ⟨j + 1, m + q, by omega, by go_num, by go_num, by omega, by omega, HST.out.symm, HB2.out⟩
        case measure => simp [intOf]; omega
     ·obtain rfl : j = ts.length := by omega
      have HN := HR.out
      rw [RT.rights_end] at HN
      have HN := Lib.hid HN
      go_wp2_with fail
      go_ret2
      exact ⟨by rw [← HN.out]; rfl, HBW.out⟩
theorem riAll : ∀ (N : Nat) (t : RT), RT.sz t ≤ N → RiOne t := by
 intro N
 induction N with
 | zero => intro t h; have := RT.sz_pos t; omega
 | succ N ih => intro t h; exact riOne_of fun u hu => ih u (by have := RT.sz_kid t u hu; omega)
theorem l04Right_any (t : RT) : RiOne t := riAll _ t (Nat.le_refl _)
set_option maxRecDepth 100000 in
theorem specReOk_any (t : RT) (a : Option Addr) (cap : Nat) (w : World) (hk : Kids 0 w t.kids a) (hc : RT.cost t ≤ 1048576) :
  Calls Tryd.prog 20 #[reV t a cap] w fun e w' => e = .returned (.bool (RT.ok t)) ∧ Below w.heap.size w w' := by
 have HK := Lib.hid hk
 have HP := Lib.hid (l04Right_any t)
 have HB := Lib.hid (show ∀ o, Below w.heap.size w (w.alloc o) from fun o => (Below.refl w.heap.size w).alloc (Nat.le_refl _) _)
 have HO := Lib.hid (RT.right_ok t)
 clear hk
 obtain ⟨k, s, n, lo, hi, ts⟩ := t
 unfold reV
 simp only [RT.set, RT.kids, RT.kind, RT.neg, RT.low, RT.high] at *
 go_enter Tryd.func20, Tryd.ntmps20
 go_wp2_with fail
 refine (HP.out a cap 12 200 _ (HK.out.alloc _) hc (by omega) (by omega) (by omega) (by omega)).mono ?_
 rintro e w1 ⟨rfl, hb1⟩
 have HB1 := Lib.hid hb1
 clear hb1
 have ho := HO.out
 generalize RT.right _ _ _ = l at *
 cases l with
 | none =>
  have HO := Lib.hid ho
  rw [show optV none = .tuple #[.bool false, .int .i64 0] from rfl]
  go_wp2_with fail
  go_ret
  exact ⟨ret_bool HO.out, (HB.out _).trans (HB1.out.mono (HB.out _).size)⟩
 | some q =>
  have HO := Lib.hid ho
  rw [show optV (some q) = .tuple #[.bool true, .int .i64 q] from rfl]
  go_wp2_with fail
  go_ret
  exact ⟨ret_bool HO.out, (HB.out _).trans (HB1.out.mono (HB.out _).size)⟩
end Go.Proofs.YtpidpimgoeeogaaDoor.kit
