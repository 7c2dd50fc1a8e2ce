/-
  Contracts of slices.EqualFunc over impl.sameRule, impl.SameProg over this seat's translation. Conditions: each theorem names its own.
-/
import Derived.Test.YtghmkfehohgmgaaSp0
namespace Go.Proofs.Ytghmkfehohgmgaa.kit
open Go.ChangeShapes Go.WideShapes Go.ChangeAt Go.RowKit
set_option linter.unusedVariables false

set_option maxRecDepth 100000 in
set_option maxHeartbeats 2000000 in
theorem equalRules_any (ts us : List RuD) (B : Nat) (a : Option Addr) (cap : Nat) (a' : Option Addr) (cap' : Nat) (w : World) (hk : Rules B w ts a) (hk' : Rules B w us a') (hb1 : RuD.bill ts ≤ 1048576) (hb2 : RuD.bill us ≤ 1048576) (hB : 0 < ts.length → B ≠ 0) (hBw : B ≤ w.heap.size) :
    Calls Try.prog 35 #[.slice a ts.length cap, .slice a' us.length cap', .func (.func 36) #[] #[]] w fun e w' => e = .returned (.bool (RuD.sames ts us)) ∧ Below w.heap.size w w' := by
  have HK := Lib.hid hk
  have HK' := Lib.hid hk'
  have HBZ := Lib.hid hB
  have HBW := Lib.hid hBw
  clear hk hk' hB hBw
  have hl : ts.length ≤ 1048576 := by simp only [RuD.bill] at hb1; omega
  have hl2 : us.length ≤ 1048576 := by simp only [RuD.bill] at hb2; omega
  obtain ⟨res, hres⟩ : ∃ res, res = RuD.sames ts us := ⟨_, rfl⟩
  rw [← hres]
  have E := Lib.hid hres
  clear hres
  go_enter Try.func35, Try.ntmps35
  by_cases c4 : ts.length = us.length
  case neg =>
    have e1 : ((ts.length : Int) == (us.length : Int)) = false := by rw [beq_eq_false_iff_ne]; omega
    go_wp2_with fail
    go_ret
    exact ⟨ret_bool (by
      rw [E.out]
      cases h : RuD.sames ts us
      · rfl
      · exact absurd (RuD.sames_len ts us h) c4), Below.refl _ _⟩
  have c5 : us.length = ts.length := c4.symm
  have HL := Lib.hid c5
  rw [c5]
  clear c4 hl2
  go_wp2_with fail
  go_loopg [17] (ts.length) (fun gg i wr => ∃ k : Nat, k + gg = ts.length ∧ i = .int .i64 (k : Int) ∧ (∀ j (h : j < ts.length) (h' : j < us.length), j < k → RuD.same ts[j] us[j] = true) ∧ Below w.heap.size w wr)
  case atStart => exact ⟨0, by omega, rfl, fun j _ _ h => absurd h (Nat.not_lt_zero j), Below.refl _ _⟩
  case round =>
    obtain ⟨k, hkg, rfl, hal, hb⟩ := hrel
    have HB := Lib.hid hb
    have HA := Lib.hid hal
    have HKG := Lib.hid hkg
    clear hb hal hkg
    by_cases hlt : k < ts.length
    · have hlt2 : k < us.length := by omega
      obtain ⟨ap, cp, ab, cb, he, kp, kb⟩ := (HK.out.kept (Nat.le_refl _) HB.out) k hlt
      obtain ⟨ap2, cp2, ab2, cb2, he', kp2, kb2⟩ := (HK'.out.kept (Nat.le_refl _) HB.out) k hlt2
      obtain ⟨b, o, rfl, _, hbl, e0, p0, q0, f0, f1⟩ := he
      obtain ⟨b', o', rfl, _, hbl', e0', p0', q0', f2, f3⟩ := he'
      have hcost : NT.sz ts[k].pat ≤ 1048576 ∧ NT.sz ts[k].body ≤ 1048576 := by
        have h1 := RuD.costs_take ts k hlt
        have h2 := RuD.costs_le ts (k + 1)
        have h3 := NT.sz_cost ts[k].pat
        have h4 := NT.sz_cost ts[k].body
        unfold RuD.cost at h1
        simp only [RuD.bill] at hb1; omega
      have HN := Lib.hid (RuD.sames_take_no ts us k hlt hlt2)
      have HY : Hid (RuD.same ts[k] us[k] = true → ∀ j (h : j < ts.length) (h' : j < us.length), j < k + 1 → RuD.same ts[j] us[j] = true) := Lib.hid (fun hy j h h' hj => by
        by_cases e : j = k
        · subst e; exact hy
        · exact HA.out j h h' (by omega))
      generalize ts[k] = r at *
      generalize us[k] = s at *
      have HR := Lib.hid (fun W (hb : Below wr.heap.size wr W) => sameRule_any r s B ap ab ap2 ab2 cp cb cp2 cb2 W (kp.kept (Nat.le_refl _) hb) (kb.kept (Nat.le_refl _) hb) (kp2.kept (Nat.le_refl _) hb) (kb2.kept (Nat.le_refl _) hb) (HBZ.out (by omega)) (Nat.le_trans HBW.out (Nat.le_trans HB.out.size hb.size)) hcost f0 f1 f2 f3)
      have HB2 := Lib.hid (show ∀ o1 o2, Below wr.heap.size wr ((wr.alloc o1).alloc o2) from fun o1 o2 => (((Below.refl wr.heap.size wr).alloc (Nat.le_refl _) _).alloc (by simp) _))
      have i0 : (0 : Int) ≤ (k : Int) := by omega
      have i1 : (k : Int) < (ts.length : Int) := by omega
      obtain ⟨p1, p2, p3, p4⟩ := p0
      obtain ⟨q1, q2, q3, q4⟩ := q0
      obtain ⟨p1', p2', p3', p4'⟩ := p0'
      obtain ⟨q1', q2', q3', q4'⟩ := q0'
      clear kp kb kp2 kb2 hcost f0 f1 f2 f3
      unfold ruV at HR
      have HLT := Lib.hid hlt
      cases hsm : RuD.same r s
      · rw [hsm] at HR HN
        clear hsm HY hlt hlt2
        go_wp2_with fail
        refine (HR.out _ (HB2.out _ _)).mono ?_
        rintro e w2 ⟨rfl, b2⟩
        go_wp2_with fail
        go_ret
        exact ⟨ret_bool (by rw [E.out, HN.out (by trivial)]), HB.out.trans (((HB2.out _ _).trans (b2.mono (HB2.out _ _).size)).mono HB.out.size)⟩
      · rw [hsm] at HR HY
        clear hsm HN hlt hlt2
        go_wp2_with fail
        refine (HR.out _ (HB2.out _ _)).mono ?_
        rintro e w2 ⟨rfl, b2⟩
        have B2 := Lib.hid (HB.out.trans (((HB2.out _ _).trans (b2.mono (HB2.out _ _).size)).mono HB.out.size))
        clear b2
        go_wp2_with fail
        go_roundg (ts.length - (k + 1))
        case measure => have := HLT.out; have := HKG.out; omega
        case rel => exact ⟨k + 1, by have := HLT.out; omega, by go_num, HY.out (by trivial), B2.out⟩
    · obtain rfl : k = ts.length := by have := HKG.out; omega
      go_wp2_with fail
      go_ret
      exact ⟨ret_bool (by rw [E.out]; exact (RuD.sames_all ts us HL.out.symm fun j h h' => HA.out j h h' h).symm), HB.out⟩
theorem implSameProg_any (ts us : List RuD) (B : Nat) (a : Option Addr) (cap : Nat) (a' : Option Addr) (cap' : Nat) (w : World) (hk : Rules B w ts a) (hk' : Rules B w us a') (hb1 : RuD.bill ts ≤ 1048576) (hb2 : RuD.bill us ≤ 1048576) (hB : 0 < ts.length → B ≠ 0) (hBw : B ≤ w.heap.size) :
    Calls Try.prog 12 #[.slice a ts.length cap, .slice a' us.length cap'] w fun e w' => e = .returned (.bool (RuD.sames ts us)) ∧ Below w.heap.size w w' := by
  have HE := Lib.hid (equalRules_any ts us B a cap a' cap' w hk hk' hb1 hb2 hB hBw)
  clear hk hk' hb1 hb2 hB hBw
  generalize RuD.sames ts us = res at *
  go_enter Try.func12, Try.ntmps12
  go_wp2_with fail
  refine HE.out.mono ?_
  rintro e w1 ⟨rfl, hb⟩
  go_wp2_with fail
  go_ret
  exact ⟨rfl, hb⟩
end Go.Proofs.Ytghmkfehohgmgaa.kit
