/-
  Contracts of impl.partsLeft, spec.l04Right, impl.ReOk and spec.ReOk over this seat's translation: whether an expression is right. Conditions: each theorem names its own.
-/
import Derived.Test.YtiggdpckjmellaaDoorRe8
namespace Go.Proofs.YtiggdpckjmellaaDoor.kit
open Go.ChangeShapes Go.WideShapes Go.ChangeAt Go.RowKit
set_option linter.unusedVariables false

theorem RT.pl_range (t : RT) (deep left : Int) (h : 0 ≤ left) : -1 ≤ RT.pl t deep left ∧ RT.pl t deep left ≤ left := by
  rcases RT.said (RT.sz t) t (Nat.le_refl _) deep left h with ⟨_, e⟩ | ⟨k, _, h1, h2, e⟩ <;> omega
theorem RT.right_range (t : RT) (deep left k : Int) (h : 0 ≤ left) (e : RT.right t deep left = some k) : 1 ≤ k ∧ k ≤ left := by
  have h1 := RT.said (RT.sz t) t (Nat.le_refl _) (12 - deep) left h
  rw [show (12 : Int) - (12 - deep) = deep by omega, e] at h1
  rcases h1 with ⟨h2, _⟩ | ⟨k', h2, h3, h4, _⟩
  · cases h2
  · injection h2 with h2; omega
theorem RT.pls_step (ts : List RT) (k : Nat) (h : k < ts.length) (deep m : Int) :
    RT.pls (ts.drop k) k deep m = if RT.pl ts[k] (if k = 0 then deep + 1 else deep) m < 0 then -1 else RT.pls (ts.drop (k + 1)) (k + 1) deep (RT.pl ts[k] (if k = 0 then deep + 1 else deep) m) := by
  rw [List.drop_eq_getElem_cons h, RT.pls]
theorem RT.pls_end (ts : List RT) (i : Nat) (deep m : Int) : RT.pls (ts.drop ts.length) i deep m = m := by rw [List.drop_length, RT.pls]
theorem RT.pl_no (t : RT) (deep left : Int) (h : left = 0 ∨ 12 < deep ∨ RT.own t = false) : RT.pl t deep left = -1 := by
  obtain ⟨k, s, n, lo, hi, ts⟩ := t
  rw [RT.pl, if_pos h]
theorem RT.pl_go (t : RT) (deep left : Int) (h : ¬ (left = 0 ∨ 12 < deep ∨ RT.own t = false)) : RT.pl t deep left = RT.pls t.kids 0 deep (left - 1) := by
  obtain ⟨k, s, n, lo, hi, ts⟩ := t
  rw [RT.pl, if_neg h, RT.kids]
def PlOne (t : RT) : Prop := ∀ (a : Option Addr) (cap : Nat) (deep left : Int) (w : World), Kids 0 w t.kids a → RT.cost t ≤ 1048576 → 0 ≤ deep → deep ≤ 13 → 0 ≤ left → left ≤ 200 →
  Calls Tryd.prog 70 #[reV t a cap, .int .i64 deep, .int .i64 left] w fun e w' => e = .returned (.int .i64 (RT.pl t deep left)) ∧ Below w.heap.size w w'
set_option maxRecDepth 100000 in
set_option maxHeartbeats 4000000 in
theorem plOne_of {t : RT} (h : ∀ u ∈ t.kids, PlOne u) : PlOne t := by
  intro a cap deep left w hk hc d0 d1 l0 l1
  have HK := Lib.hid hk
  have HS := Lib.hid h
  have hcb := RT.cost_eq t
  have hset : t.set.size ≤ 1048576 := by omega
  have hbill : RT.bill t.kids ≤ 1048576 := by omega
  have hlen : t.kids.length ≤ 1048576 := by simp only [RT.bill] at hbill; omega
  have HNO := Lib.hid (RT.pl_no t deep left)
  have HGO := Lib.hid (RT.pl_go t deep left)
  have HBL := Lib.hid hbill
  have HB := Lib.hid (show ∀ o, Below w.heap.size w (w.alloc o) from fun o => (Below.refl w.heap.size w).alloc (Nat.le_refl _) _)
  clear hk h hcb hc hbill
  obtain ⟨k, s, n, lo, hi, ts⟩ := t
  unfold reV
  simp only [RT.set, RT.kids, RT.kind, RT.neg, RT.low, RT.high] at *
  have HP := Lib.hid (fun W => partOk_any k s n lo hi ts.length a cap W hset hlen)
  rw [← own_eq] at HP
  by_cases c0 : left = 0
  · go_enter Tryd.func70, Tryd.ntmps70
    go_wp2_with fail
    go_ret
    exact ⟨ret_int (HNO.out (.inl c0)).symm, HB.out _⟩
  · have c0' : (left == 0) = false := by simp [c0]
    by_cases c1 : 12 < deep
    · go_enter Tryd.func70, Tryd.ntmps70
      go_wp2_with fail
      go_ret
      exact ⟨ret_int (HNO.out (.inr (.inl c1))).symm, HB.out _⟩
    · cases c2 : RT.own (.node k s n lo hi ts)
      · rw [c2] at HP
        go_enter Tryd.func70, Tryd.ntmps70
        go_wp2_with fail
        refine (HP.out _).mono ?_
        rintro e w1 ⟨rfl, hb1⟩
        have HB1 := Lib.hid hb1
        clear hb1
        go_wp2_with fail
        go_ret
        exact ⟨ret_int (HNO.out (.inr (.inr c2))).symm, (HB.out _).trans (HB1.out.mono (HB.out _).size)⟩
      · rw [c2] at HP
        have HE := Lib.hid (HGO.out (by rintro (d | d | d); exact c0 d; exact c1 d; rw [c2] at d; cases d))
        go_enter Tryd.func70, Tryd.ntmps70
        go_wp2_with fail
        refine (HP.out _).mono ?_
        rintro e w1 ⟨rfl, hb1⟩
        obtain ⟨hc1, hf1⟩ := bcellR hb1
        have HB1 := Lib.hid ((HB.out _).trans (hb1.mono (HB.out _).size))
        clear hb1
        go_wp2_with fail
        go_loopw [2, 26] (fun l i wr => ∃ (j : Nat) (m : Int), j ≤ ts.length ∧ i = .int .i64 (j : Int) ∧ l = .int .i64 m ∧ 0 ≤ m ∧ m ≤ 200 ∧ RT.pls (ts.drop j) j deep m = RT.pl (.node k s n lo hi ts) deep left ∧ Below w.heap.size w wr) (fun _ i _ => ts.length - (intOf i).toNat)
        case atStart => exact ⟨0, left - 1, Nat.zero_le _, rfl, by go_num, by omega, by omega, HE.out.symm, HB1.out⟩
        case round =>
          obtain ⟨j, m, hj, rfl, rfl, m0, m1, hrec, hb⟩ := hrel
          have HBB := Lib.hid hb
          have HR := Lib.hid hrec
          clear hb hrec hc1 hf1
          by_cases hlt : j < ts.length
          · obtain ⟨a', cap', he, hk'⟩ := (HK.out.kept (Nat.le_refl _) HBB.out).elem j hlt
            obtain ⟨b, o, rfl, _, hbl, e0, e1, e2, e3, e4, e5, f0, f1⟩ := he
            have HO := Lib.hid (HS.out ts[j] (List.getElem_mem hlt))
            have hcost : RT.cost ts[j] ≤ 1048576 := by
              have h1 := RT.costs_take ts j hlt
              have h2 := RT.costs_le ts (j + 1)
              have h3 := HBL.out
              simp only [RT.bill] at h3; omega
            have HSTEP := Lib.hid ((HR.out.symm.trans (RT.pls_step ts j hlt deep m)))
            generalize ts[j] = t at *
            have HK' := Lib.hid hk'
            have HBW := Lib.hid (show ∀ o, Below w.heap.size w (wr.alloc o) from fun o => HBB.out.alloc HBB.out.size _)
            clear hk'
            by_cases cj : j = 0
            · have HRG := Lib.hid (RT.pl_range t (deep + 1) m m0)
              have cj' : ((j : Int) == 0) = true := by simp [cj]
              have CJ := Lib.hid cj
              clear cj
              go_wp2_with fail
              refine (HO.out _ _ (deep + 1) m _ (HK'.out.alloc _) hcost (by omega) (by omega) m0 m1).mono ?_
              rintro e w2 ⟨rfl, hb2⟩
              have HB2 := Lib.hid ((HBW.out _).trans (hb2.mono (HBW.out _).size))
              clear hb2
              have HST := HSTEP.out
              rw [if_pos CJ.out] at HST
              have hrg := HRG.out
              generalize RT.pl t (deep + 1) m = l at *
              by_cases cl : l < 0
              · rw [if_pos cl] at HST
                have HST := Lib.hid HST
                go_wp2_with fail
                go_ret
                exact ⟨ret_int HST.out.symm, HB2.out⟩
              · rw [if_neg cl] at HST
                have HST := Lib.hid HST
                go_wp2_with fail
                go_roundw
                case rel => exact ⟨j + 1, l, by omega, by go_num, rfl, by omega, by omega, HST.out.symm, HB2.out⟩
                case measure => simp [intOf]; omega
            · have HRG := Lib.hid (RT.pl_range t deep m m0)
              have cj' : ((j : Int) == 0) = false := by simp [cj]
              go_wp2_with fail
              refine (HO.out _ _ deep m _ (HK'.out.alloc _) hcost (by omega) (by omega) m0 m1).mono ?_
              rintro e w2 ⟨rfl, hb2⟩
              have HB2 := Lib.hid ((HBW.out _).trans (hb2.mono (HBW.out _).size))
              clear hb2
              have HST := HSTEP.out
              rw [if_neg cj] at HST
              have hrg := HRG.out
              generalize RT.pl t deep m = l at *
              by_cases cl : l < 0
              · rw [if_pos cl] at HST
                have HST := Lib.hid HST
                go_wp2_with fail
                go_ret
                exact ⟨ret_int HST.out.symm, HB2.out⟩
              · rw [if_neg cl] at HST
                have HST := Lib.hid HST
                go_wp2_with fail
                go_roundw
                case rel => exact ⟨j + 1, l, by omega, by go_num, rfl, by omega, by omega, HST.out.symm, HB2.out⟩
                case measure => simp [intOf]; omega
          · obtain rfl : j = ts.length := by omega
            have HN := HR.out
            rw [RT.pls_end] at HN
            have HN := Lib.hid HN
            go_wp2_with fail
            go_ret
            exact ⟨ret_int HN.out, HBB.out⟩
theorem plAll : ∀ (N : Nat) (t : RT), RT.sz t ≤ N → PlOne t := by
  intro N
  induction N with
  | zero => intro t h; have := RT.sz_pos t; omega
  | succ N ih => intro t h; exact plOne_of fun u hu => ih u (by have := RT.sz_kid t u hu; omega)
theorem partsLeft_any (t : RT) : PlOne t := plAll _ t (Nat.le_refl _)
theorem implReOk_any (t : RT) (a : Option Addr) (cap : Nat) (w : World) (hk : Kids 0 w t.kids a) (hc : RT.cost t ≤ 1048576) :
    Calls Tryd.prog 32 #[reV t a cap] w fun e w' => e = .returned (.bool (RT.ok t)) ∧ Below w.heap.size w w' := by
  have HK := Lib.hid hk
  have HP := Lib.hid (partsLeft_any t)
  have HB := Lib.hid (show ∀ o, Below w.heap.size w (w.alloc o) from fun o => (Below.refl w.heap.size w).alloc (Nat.le_refl _) _)
  have HO := Lib.hid (show RT.ok t = decide (0 ≤ RT.pl t 0 200) from rfl)
  clear hk
  obtain ⟨k, s, n, lo, hi, ts⟩ := t
  unfold reV
  simp only [RT.set, RT.kids, RT.kind, RT.neg, RT.low, RT.high] at *
  go_enter Tryd.func32, Tryd.ntmps32
  go_wp2_with fail
  refine (HP.out a cap 0 200 _ (HK.out.alloc _) hc (by omega) (by omega) (by omega) (by omega)).mono ?_
  rintro e w1 ⟨rfl, hb1⟩
  have HB1 := Lib.hid hb1
  clear hb1
  generalize RT.pl _ _ _ = l at *
  go_wp2_with fail
  go_ret
  exact ⟨ret_bool HO.out.symm, (HB.out _).trans (HB1.out.mono (HB.out _).size)⟩
end Go.Proofs.YtiggdpckjmellaaDoor.kit
