/-
  Contracts of laws.eqRule and laws.eqRuleS over this seat's translation: two copies of a program are told to be the same. Conditions: each theorem names its own.
-/
import Derived.Test.YtghmkfehohgmgaaNd7
namespace Go.Proofs.Ytghmkfehohgmgaa.kit
open Go.ChangeShapes Go.WideShapes Go.ChangeAt Go.RowKit
set_option linter.unusedVariables false

set_option maxRecDepth 100000 in
set_option maxHeartbeats 1000000 in
theorem eqRule_any (r : RuD) (ap : Option Addr) (cp : Nat) (ab : Option Addr) (cb : Nat) (ap' : Option Addr) (cp' : Nat) (ab' : Option Addr) (cb' : Nat) (w : World) (kp : NKids 0 w r.pat.kids ap) (kb : NKids 0 w r.body.kids ab) (kp' : NKids 0 w r.pat.kids ap') (kb' : NKids 0 w r.body.kids ab') (hc : RuD.cost r ≤ 1048576) :
    Calls Try.prog 37 #[ruV r ap cp ab cb, ruV r ap' cp' ab' cb'] w fun e w' => e = .returned (.bool true) ∧ Below w.heap.size w w' := by
  have hcp : NT.cost r.pat ≤ 1048576 := by unfold RuD.cost at hc; omega
  have hcb : NT.cost r.body ≤ 1048576 := by unfold RuD.cost at hc; omega
  have HP := Lib.hid (fun W h h' => eqNode_any r.pat ap cp ap' cp' W h h' hcp)
  have HQ := Lib.hid (fun W h h' => eqNode_any r.body ab cb ab' cb' W h h' hcb)
  have HB := Lib.hid (show ∀ o1 o2, Below w.heap.size w ((w.alloc o1).alloc o2) from fun o1 o2 => (((Below.refl w.heap.size w).alloc (Nat.le_refl _) _).alloc (by simp) _))
  have KP := Lib.hid (fun o1 o2 => kp.kept (Nat.le_refl _) (HB.out o1 o2))
  have KB := Lib.hid (fun o1 o2 => kb.kept (Nat.le_refl _) (HB.out o1 o2))
  have KP' := Lib.hid (fun o1 o2 => kp'.kept (Nat.le_refl _) (HB.out o1 o2))
  have KB' := Lib.hid (fun o1 o2 => kb'.kept (Nat.le_refl _) (HB.out o1 o2))
  clear kp kb kp' kb' hc
  unfold ruV ndV at *
  go_enter Try.func37, Try.ntmps37
  go_wp2_with fail
  refine (HP.out _ (KP.out _ _) (KP'.out _ _)).mono ?_
  rintro e w1 ⟨rfl, hb1⟩
  obtain ⟨hc1, _⟩ := bcellR hb1
  have B1 := Lib.hid ((HB.out _ _).trans (hb1.mono (HB.out _ _).size))
  have KB1 := Lib.hid ((KB.out _ _).kept (Nat.le_refl _) hb1)
  have KB1' := Lib.hid ((KB'.out _ _).kept (Nat.le_refl _) hb1)
  clear hb1
  go_wp2_with fail
  refine (HQ.out _ KB1.out KB1'.out).mono ?_
  rintro e w2 ⟨rfl, hb2⟩
  have B2 := Lib.hid (B1.out.trans (hb2.mono B1.out.size))
  clear hb2
  go_wp2_with fail
  go_ret
  exact ⟨rfl, B2.out⟩
def REight (b o b' o' k : Nat) (t : RuD) (ap ab ap2 ab2 : Option Addr) (cp cb cp2 cb2 : Nat) (w W : World) : Prop := (W.cell? ⟨b, o + k * 9, none⟩ = some (.int .i64 t.when) ∧ W.cell? ⟨b, o + k * 9 + 1, none⟩ = some (.int .i64 t.pat.kind) ∧ W.cell? ⟨b, o + k * 9 + 2, none⟩ = some (.int .i64 t.pat.num) ∧ W.cell? ⟨b, o + k * 9 + 3, none⟩ = some (.string t.pat.text) ∧ W.cell? ⟨b, o + k * 9 + 4, none⟩ = some (.slice ap t.pat.kids.length cp) ∧ W.cell? ⟨b, o + k * 9 + 5, none⟩ = some (.int .i64 t.body.kind) ∧ W.cell? ⟨b, o + k * 9 + 6, none⟩ = some (.int .i64 t.body.num) ∧ W.cell? ⟨b, o + k * 9 + 7, none⟩ = some (.string t.body.text) ∧ W.cell? ⟨b, o + k * 9 + 8, none⟩ = some (.slice ab t.body.kids.length cb) ∧ W.cell? ⟨b', o' + k * 9, none⟩ = some (.int .i64 t.when) ∧ W.cell? ⟨b', o' + k * 9 + 1, none⟩ = some (.int .i64 t.pat.kind) ∧ W.cell? ⟨b', o' + k * 9 + 2, none⟩ = some (.int .i64 t.pat.num) ∧ W.cell? ⟨b', o' + k * 9 + 3, none⟩ = some (.string t.pat.text) ∧ W.cell? ⟨b', o' + k * 9 + 4, none⟩ = some (.slice ap2 t.pat.kids.length cp2) ∧ W.cell? ⟨b', o' + k * 9 + 5, none⟩ = some (.int .i64 t.body.kind) ∧ W.cell? ⟨b', o' + k * 9 + 6, none⟩ = some (.int .i64 t.body.num) ∧ W.cell? ⟨b', o' + k * 9 + 7, none⟩ = some (.string t.body.text) ∧ W.cell? ⟨b', o' + k * 9 + 8, none⟩ = some (.slice ab2 t.body.kids.length cb2)) ∧ (b < W.heap.size ∧ b' < W.heap.size) ∧ Below w.heap.size w W
theorem REight.start {b o b' o' k : Nat} {t : RuD} {ap ab ap2 ab2 : Option Addr} {cp cb cp2 cb2 : Nat} {w W : World} (h : REight b o b' o' k t ap ab ap2 ab2 cp cb cp2 cb2 w W) : REight b o b' o' k t ap ab ap2 ab2 cp cb cp2 cb2 w W.drew := ⟨h.1, h.2.1, h.2.2.drew⟩
theorem REight.step {b o b' o' k : Nat} {t : RuD} {ap ab ap2 ab2 : Option Addr} {cp cb cp2 cb2 : Nat} {w W W' : World} (h : REight b o b' o' k t ap ab ap2 ab2 cp cb cp2 cb2 w W) (hb : Below W.heap.size W W') : REight b o b' o' k t ap ab ap2 ab2 cp cb cp2 cb2 w W' := by
  obtain ⟨⟨h0, h1, h2, h3, h4, h5, h6, h7, h8, g0, g1, g2, g3, g4, g5, g6, g7, g8⟩, ⟨q, q'⟩, hB⟩ := h
  have e : ∀ j, W'.cell? ⟨b, j, none⟩ = W.cell? ⟨b, j, none⟩ := fun j => hb.cell (p := ⟨b, j, none⟩) q
  have e' : ∀ j, W'.cell? ⟨b', j, none⟩ = W.cell? ⟨b', j, none⟩ := fun j => hb.cell (p := ⟨b', j, none⟩) q'
  exact ⟨⟨(e _).trans h0, (e _).trans h1, (e _).trans h2, (e _).trans h3, (e _).trans h4, (e _).trans h5, (e _).trans h6, (e _).trans h7, (e _).trans h8, (e' _).trans g0, (e' _).trans g1, (e' _).trans g2, (e' _).trans g3, (e' _).trans g4, (e' _).trans g5, (e' _).trans g6, (e' _).trans g7, (e' _).trans g8⟩, ⟨Nat.lt_of_lt_of_le q hb.size, Nat.lt_of_lt_of_le q' hb.size⟩, hB.trans (hb.mono hB.size)⟩
theorem REight.below {b o b' o' k : Nat} {t : RuD} {ap ab ap2 ab2 : Option Addr} {cp cb cp2 cb2 : Nat} {w W : World} (h : REight b o b' o' k t ap ab ap2 ab2 cp cb cp2 cb2 w W) : Below w.heap.size w W := h.2.2
set_option maxRecDepth 100000 in
set_option maxHeartbeats 2000000 in
theorem eqRuleS_any (ts : List RuD) (a : Option Addr) (cap : Nat) (a' : Option Addr) (cap' : Nat) (w : World) (hk : Rules 0 w ts a) (hk' : Rules 0 w ts a') (hbill : RuD.bill ts ≤ 1048576) :
    Calls Try.prog 13 #[.slice a ts.length cap, .slice a' ts.length cap'] w fun e w' => e = .returned (.bool true) ∧ Below w.heap.size w w' := by
  have HK := Lib.hid hk
  have HK' := Lib.hid hk'
  clear hk hk'
  have hl : ts.length ≤ 1048576 := by simp only [RuD.bill] at hbill; omega
  go_enter Try.func13, Try.ntmps13
  go_wp2_with fail
  go_loopw [5] (fun i wr => ∃ k : Nat, k ≤ ts.length ∧ i = .int .i64 (k : Int) ∧ Below w.heap.size w wr) (fun i _ => ts.length - (intOf i).toNat)
  case atStart => exact ⟨0, Nat.zero_le _, rfl, Below.refl _ _⟩
  case round =>
    obtain ⟨k, hkl, rfl, hb⟩ := hrel
    have HB := Lib.hid hb
    clear hb
    by_cases hlt : k < ts.length
    · obtain ⟨ap, cp, ab, cb, he, kp, kb⟩ := (HK.out.kept (Nat.le_refl _) HB.out) k hlt
      obtain ⟨ap2, cp2, ab2, cb2, he', kp2, kb2⟩ := (HK'.out.kept (Nat.le_refl _) HB.out) k hlt
      obtain ⟨b, o, rfl, _, hbl, e0, ⟨p0, p1, p2, p3⟩, ⟨q0, q1, q2, q3⟩, _, _⟩ := he
      obtain ⟨b', o', rfl, _, hbl', g0, ⟨r0, r1, r2, r3⟩, ⟨s0, s1, s2, s3⟩, _, _⟩ := he'
      have hcost : RuD.cost ts[k] ≤ 1048576 := by
        have h1 := RuD.costs_take ts k hlt
        have h2 := RuD.costs_le ts (k + 1)
        simp only [RuD.bill] at hbill; omega
      generalize ts[k] = t at *
      have HT : REight b o b' o' k t ap ab ap2 ab2 cp cb cp2 cb2 wr wr := ⟨⟨e0, p0, p1, p2, p3, q0, q1, q2, q3, g0, r0, r1, r2, r3, s0, s1, s2, s3⟩, ⟨hbl, hbl'⟩, Below.refl _ _⟩
      have HT := Lib.hid HT
      have HO := Lib.hid (eqRule_any t ap cp ab cb ap2 cp2 ab2 cb2 wr.drew kp.drew kb.drew kp2.drew kb2.drew hcost)
      unfold ruV at HO
      have HZ := Lib.hid HB.out.size
      clear kp kb kp2 kb2 e0 p0 p1 p2 p3 q0 q1 q2 q3 g0 r0 r1 r2 r3 s0 s1 s2 s3
      go_wp2_with fail
      go_region_held3 (fun w' => (w'.cell? ⟨b, o + k * 9, none⟩ = some (.int .i64 t.when) ∧ w'.cell? ⟨b, o + k * 9 + 1, none⟩ = some (.int .i64 t.pat.kind) ∧ w'.cell? ⟨b, o + k * 9 + 2, none⟩ = some (.int .i64 t.pat.num) ∧ w'.cell? ⟨b, o + k * 9 + 3, none⟩ = some (.string t.pat.text) ∧ w'.cell? ⟨b, o + k * 9 + 4, none⟩ = some (.slice ap t.pat.kids.length cp) ∧ w'.cell? ⟨b, o + k * 9 + 5, none⟩ = some (.int .i64 t.body.kind) ∧ w'.cell? ⟨b, o + k * 9 + 6, none⟩ = some (.int .i64 t.body.num) ∧ w'.cell? ⟨b, o + k * 9 + 7, none⟩ = some (.string t.body.text) ∧ w'.cell? ⟨b, o + k * 9 + 8, none⟩ = some (.slice ab t.body.kids.length cb) ∧ w'.cell? ⟨b', o' + k * 9, none⟩ = some (.int .i64 t.when) ∧ w'.cell? ⟨b', o' + k * 9 + 1, none⟩ = some (.int .i64 t.pat.kind) ∧ w'.cell? ⟨b', o' + k * 9 + 2, none⟩ = some (.int .i64 t.pat.num) ∧ w'.cell? ⟨b', o' + k * 9 + 3, none⟩ = some (.string t.pat.text) ∧ w'.cell? ⟨b', o' + k * 9 + 4, none⟩ = some (.slice ap2 t.pat.kids.length cp2) ∧ w'.cell? ⟨b', o' + k * 9 + 5, none⟩ = some (.int .i64 t.body.kind) ∧ w'.cell? ⟨b', o' + k * 9 + 6, none⟩ = some (.int .i64 t.body.num) ∧ w'.cell? ⟨b', o' + k * 9 + 7, none⟩ = some (.string t.body.text) ∧ w'.cell? ⟨b', o' + k * 9 + 8, none⟩ = some (.slice ab2 t.body.kids.length cb2)) ∧ (b < w'.heap.size ∧ b' < w'.heap.size) ∧ Below wr.heap.size wr w') (first | exact HT.out.start | exact REight.step HT.out.start (by assumption)) (first | (go_at_call 37; refine HO.out.mono ?_; rintro e w2 ⟨rfl, hb2⟩))
      go_wp2_with fail
      go_roundw
      case rel =>
        exact ⟨k + 1, by omega, by go_num, HB.out.trans ((REight.below (b := b) (o := o) (b' := b') (o' := o') (k := k) (t := t) (ap := ap) (ab := ab) (ap2 := ap2) (ab2 := ab2) (cp := cp) (cb := cb) (cp2 := cp2) (cb2 := cb2) (w := wr) (by assumption)).mono HZ.out)⟩
      case measure => simp [intOf]; omega
    · obtain rfl : k = ts.length := by omega
      go_wp2_with fail
      go_ret
      exact ⟨rfl, HB.out⟩
end Go.Proofs.Ytghmkfehohgmgaa.kit
