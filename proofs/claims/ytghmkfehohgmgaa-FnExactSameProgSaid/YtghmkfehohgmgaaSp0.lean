/-
  Contracts of impl.sameRule, slices.EqualFunc over it, impl.SameProg over this seat's translation. Conditions: each theorem names its own.
-/
import Derived.Test.YtghmkfehohgmgaaNm7
import Derived.Test.YtghmkfehohgmgaaNs1
namespace Go.Proofs.Ytghmkfehohgmgaa.kit
open Go.ChangeShapes Go.WideShapes Go.ChangeAt Go.RowKit
set_option linter.unusedVariables false

theorem NT.szs_bill : ∀ (N : Nat) (ts : List NT), NT.szs ts ≤ N → NT.szs ts ≤ NT.bill ts
  | _, [], _ => by simp [NT.szs]
  | 0, t :: ts, h => by
    have := NT.sz_pos t
    simp only [NT.szs] at h; omega
  | N + 1, t :: ts, h => by
    have h1 := NT.sz_pos t
    have h2 := NT.sz_eq t
    simp only [NT.szs] at h
    have h3 := NT.szs_bill N ts (by omega)
    have h4 := NT.szs_bill N t.kids (by omega)
    have h5 := NT.cost_eq t
    simp only [NT.bill, NT.szs, NT.costs, List.length_cons] at h3 h4 h5 ⊢
    omega
theorem NT.sz_cost (t : NT) : NT.sz t ≤ NT.cost t + 1 := by
  have h1 := NT.szs_bill _ t.kids (Nat.le_refl _)
  have h2 := NT.sz_eq t
  have h3 := NT.cost_eq t
  omega
/-- What a rule's box holds behind a call that turns nothing there. -/
theorem ruBox {w W : World} {g : Nat} {l : List Value} (h : RowB w g l) (hb : Below w.heap.size w W) : ∀ j, W.cell? ⟨g, j, none⟩ = l[j]? := fun j => (h.kept hb).cell j
set_option maxRecDepth 100000 in
set_option maxHeartbeats 2000000 in
theorem sameRule_any (r s : RuD) (B : Nat) (ap ab ap2 ab2 : Option Addr) (cp cb cp2 cb2 : Nat) (w : World) (kp : NKids B w r.pat.kids ap) (kb : NKids B w r.body.kids ab) (kp2 : NKids B w s.pat.kids ap2) (kb2 : NKids B w s.body.kids ab2) (hB : B ≠ 0) (hBw : B ≤ w.heap.size)
    (hz : NT.sz r.pat ≤ 1048576 ∧ NT.sz r.body ≤ 1048576) (f0 : r.pat.text.size ≤ maxLen ∧ r.pat.kids.length ≤ maxLen) (f1 : r.body.text.size ≤ maxLen ∧ r.body.kids.length ≤ maxLen) (f2 : s.pat.text.size ≤ maxLen ∧ s.pat.kids.length ≤ maxLen) (f3 : s.body.text.size ≤ maxLen ∧ s.body.kids.length ≤ maxLen) :
    Calls Try.prog 36 #[ruV r ap cp ab cb, ruV s ap2 cp2 ab2 cb2] w fun e w' => e = .returned (.bool (RuD.same r s)) ∧ Below w.heap.size w w' := by
  have HP := Lib.hid (fun (W : World) (hb : Below w.heap.size w W) => sameNode_any r.pat s.pat B ap ap2 cp cp2 W (kp.kept (Nat.le_refl _) hb) (kp2.kept (Nat.le_refl _) hb) hB (Nat.le_trans hBw hb.size) hz.1 f0 f2)
  have HQ := Lib.hid (fun (W : World) (hb : Below w.heap.size w W) => sameNode_any r.body s.body B ab ab2 cb cb2 W (kb.kept (Nat.le_refl _) hb) (kb2.kept (Nat.le_refl _) hb) hB (Nat.le_trans hBw hb.size) hz.2 f1 f3)
  have HE := Lib.hid (show RuD.same r s = (r.when == s.when && NT.same r.pat s.pat && NT.same r.body s.body) from rfl)
  have HB := Lib.hid (show ∀ o1 o2, Below w.heap.size w ((w.alloc o1).alloc o2) from fun o1 o2 => (((Below.refl w.heap.size w).alloc (Nat.le_refl _) _).alloc (by simp) _))
  have R1 := Lib.hid (show ∀ T T', RowB ((w.alloc (.cells (ruL r ap cp ab cb).toArray T)).alloc (.cells (ruL s ap2 cp2 ab2 cb2).toArray T')) w.heap.size (ruL r ap cp ab cb) from fun T T' => (rowB_new w _ T).alloc _)
  have R2 := Lib.hid (show ∀ T T', RowB ((w.alloc (.cells (ruL r ap cp ab cb).toArray T)).alloc (.cells (ruL s ap2 cp2 ab2 cb2).toArray T')) (w.heap.size + 1) (ruL s ap2 cp2 ab2 cb2) from fun T T' => by
    have := rowB_new (w.alloc (.cells (ruL r ap cp ab cb).toArray T)) (ruL s ap2 cp2 ab2 cb2) T'
    simpa using this)
  clear kp kb kp2 kb2 hz f0 f1 f2 f3
  generalize RuD.same r s = res at *
  obtain ⟨rw0, rp, rb⟩ := r
  obtain ⟨sw0, sp0, sb0⟩ := s
  dsimp only at *
  generalize hsp : NT.same rp sp0 = sp at *
  generalize hsb : NT.same rb sb0 = sb at *
  clear hsp hsb
  unfold ndV at HP HQ
  unfold ruV
  go_enter Try.func36, Try.ntmps36
  by_cases cw : rw0 = sw0
  case neg =>
    have ew : (rw0 == sw0) = false := by simpa using cw
    have E := Lib.hid (show res = false by rw [HE.out, ew]; rfl)
    go_wp2_with fail
    go_ret
    exact ⟨ret_bool E.out.symm, HB.out _ _⟩
  subst cw
  have ew : (rw0 == rw0) = true := by simp
  have E := Lib.hid (show res = (sp && sb) by rw [HE.out, ew]; rfl)
  clear HE
  go_wp2_with fail
  refine (HP.out _ (HB.out _ _)).mono ?_
  rintro e w1 ⟨rfl, b1⟩
  have B1 := Lib.hid ((HB.out _ _).trans (b1.mono (HB.out _ _).size))
  cases sp
  · go_wp2_with fail
    go_ret
    exact ⟨ret_bool (by rw [E.out]; rfl), B1.out⟩
  · have c1 := ruBox (R1.out _ _) b1
    have c2 := ruBox (R2.out _ _) b1
    have a5 := c1 5
    have a6 := c1 6
    have a7 := c1 7
    have a8 := c1 8
    have d5 := c2 5
    have d6 := c2 6
    have d7 := c2 7
    have d8 := c2 8
    simp only [ruL, List.getElem?_cons_succ, List.getElem?_cons_zero] at a5 a6 a7 a8 d5 d6 d7 d8
    clear c1 c2 b1
    go_wp2_with fail
    refine (HQ.out _ B1.out).mono ?_
    rintro e w2 ⟨rfl, b2⟩
    go_wp2_with fail
    go_ret
    exact ⟨ret_bool (by rw [E.out]; rfl), B1.out.trans (b2.mono B1.out.size)⟩
end Go.Proofs.Ytghmkfehohgmgaa.kit
