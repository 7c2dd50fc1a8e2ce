/-
  Contracts of laws.szRuleS, laws.toRule and laws.eqRule over this seat's translation: what a program costs, a rule is copied, two copies of a rule are told to be the same. Conditions: each theorem names its own.
-/
import Derived.Test.YtghmkfehohgmgaaNd5
namespace Go.Proofs.Ytghmkfehohgmgaa.kit
open Go.ChangeShapes Go.WideShapes Go.ChangeAt Go.RowKit
set_option linter.unusedVariables false

set_option maxRecDepth 100000 in
set_option maxHeartbeats 1000000 in
theorem szRuleS_any (ts : List RuD) (a : Option Addr) (cap : Nat) (left : Int) (w : World) (hk : Rules 0 w ts a) (hl : ts.length ≤ maxLen) (h0 : 0 ≤ left) (h1 : left ≤ 1048576) :
    Calls Try.prog 9 #[.slice a ts.length cap, .int .i64 left] w fun e w' => e = .returned (.int .i64 (leftOf left (RuD.bill ts))) ∧ Below w.heap.size w w' := by
  have HK := Lib.hid hk
  clear hk
  have hml : maxLen = 9223372036854775807 := rfl
  go_enter Try.func9, Try.ntmps9
  by_cases c : left < ts.length
  · go_wp2_with fail
    go_ret
    exact ⟨ret_int (leftOf_neg (by simp only [RuD.bill]; omega)).symm, Below.refl _ _⟩
  · go_wp2_with fail
    go_loopw [1, 5] (fun l i wr => ∃ (k : Nat) (m : Int), k ≤ ts.length ∧ i = .int .i64 (k : Int) ∧ l = .int .i64 m ∧ m = left - ts.length - (RuD.costs (ts.take k) : Nat) ∧ 0 ≤ m ∧ Below w.heap.size w wr) (fun _ i _ => ts.length - (intOf i).toNat)
    case atStart => exact ⟨0, _, Nat.zero_le _, rfl, rfl, by simp [RuD.costs], by omega, Below.refl _ _⟩
    case round =>
      obtain ⟨k, m, hkl, rfl, rfl, hm, hm0, hb⟩ := hrel
      have HB := Lib.hid hb
      have HM := Lib.hid hm
      clear hb
      by_cases hlt : k < ts.length
      · obtain ⟨ap, cp, ab, cb, he, kp, kb⟩ := (HK.out.kept (Nat.le_refl _) HB.out) k hlt
        obtain ⟨b, o, rfl, _, hbl, e0, ⟨p0, p1, p2, p3⟩, ⟨q0, q1, q2, q3⟩, f0, f1⟩ := he
        replace p1 : wr.cell? ⟨b, o + k * 9 + 2, none⟩ = _ := p1
        replace p2 : wr.cell? ⟨b, o + k * 9 + 3, none⟩ = _ := p2
        replace p3 : wr.cell? ⟨b, o + k * 9 + 4, none⟩ = _ := p3
        replace q1 : wr.cell? ⟨b, o + k * 9 + 6, none⟩ = _ := q1
        replace q2 : wr.cell? ⟨b, o + k * 9 + 7, none⟩ = _ := q2
        replace q3 : wr.cell? ⟨b, o + k * 9 + 8, none⟩ = _ := q3
        have HT := Lib.hid (RuD.costs_take ts k hlt)
        have HL := Lib.hid (RuD.costs_le ts (k + 1))
        generalize ts[k] = t at *
        have hm2 : m ≤ 1048576 := by omega
        have HO := Lib.hid (szRule_any t ap cp ab cb m wr kp kb f0 f1 hm0 hm2)
        unfold ruV at HO
        clear hm kp kb f0 f1
        go_wp2_with fail
        refine HO.out.mono ?_
        rintro e w1 ⟨rfl, hb1⟩
        have HB1 := Lib.hid hb1
        clear hb1
        by_cases c2 : m < (RuD.cost t : Nat)
        · rw [leftOf_neg c2]
          go_wp2_with fail
          go_ret
          exact ⟨ret_int (leftOf_neg (by have := HM.out; have := HT.out; have := HL.out; simp only [RuD.bill]; omega)).symm, HB.out.trans (HB1.out.mono HB.out.size)⟩
        · have c3 : ¬ (m - (RuD.cost t : Nat) < 0) := by omega
          rw [leftOf_pos (by omega)]
          go_wp2_with fail
          go_roundw
          case rel => exact ⟨k + 1, _, by omega, by go_num, rfl, by have := HM.out; have := HT.out; omega, by omega, HB.out.trans (HB1.out.mono HB.out.size)⟩
          case measure => simp [intOf]; omega
      · obtain rfl : k = ts.length := by omega
        go_wp2_with fail
        go_ret
        exact ⟨ret_int (by rw [HM.out, leftOf_pos (by have := HM.out; simp only [RuD.bill]; rw [List.take_length] at this; omega)]; simp only [RuD.bill]; rw [List.take_length]; omega), HB.out⟩
/-- A block that holds these values. -/
def RowB (w : World) (g : Nat) (l : List Value) : Prop := ∃ T, w.heap[g]? = some (.cells l.toArray T (0, 0))
theorem RowB.cell {w : World} {g : Nat} {l : List Value} (h : RowB w g l) (j : Nat) : w.cell? ⟨g, j, none⟩ = l[j]? := by
  obtain ⟨T, h⟩ := h
  rw [cell_of_row w g j _ _ (0, 0) h]; simp
theorem RowB.frozen {w : World} {g : Nat} {l : List Value} (h : RowB w g l) (j : Nat) : w.frozen? ⟨g, j, none⟩ = false := by
  obtain ⟨T, h⟩ := h
  simp only [World.frozen?, h]; rfl
theorem RowB.lt {w : World} {g : Nat} {l : List Value} (h : RowB w g l) : g < w.heap.size := by
  obtain ⟨T, h⟩ := h; exact (Array.getElem?_eq_some_iff.1 h).1
theorem RowB.set {w : World} {g : Nat} {l : List Value} (h : RowB w g l) (j : Nat) (v : Value) : RowB (w.setCell ⟨g, j, none⟩ v) g (l.set j v) := by
  obtain ⟨T, h⟩ := h
  exact ⟨T, by simp [World.setCell, Array.getElem?_modify, h]⟩
theorem RowB.off {w : World} {g : Nat} {l : List Value} (h : RowB w g l) (g' j : Nat) (v : Value) (hg : g ≠ g') : RowB (w.setCell ⟨g', j, none⟩ v) g l := by
  obtain ⟨T, h⟩ := h
  exact ⟨T, (Below.heap_setCell w ⟨g', j, none⟩ v g hg).trans h⟩
theorem RowB.kept {w w' : World} {g : Nat} {l : List Value} (h : RowB w g l) (hb : Below w.heap.size w w') : RowB w' g l := by
  have hl := h.lt
  obtain ⟨T, h⟩ := h
  exact ⟨T, (hb.block g hl).trans h⟩
theorem rowB_new (w : World) (l : List Value) (T : TypeId) : RowB (w.alloc (.cells l.toArray T)) w.heap.size l := ⟨T, heap_alloc_new w _⟩
theorem RowB.alloc {w : World} {g : Nat} {l : List Value} (h : RowB w g l) (o : Obj) : RowB (w.alloc o) g l := h.kept ((Below.refl _ _).alloc (Nat.le_refl _) _)
set_option maxRecDepth 100000 in
set_option maxHeartbeats 2000000 in
theorem toRule_any (r : RuD) (ap : Option Addr) (cp : Nat) (ab : Option Addr) (cb : Nat) (w : World) (kp : NKids 0 w r.pat.kids ap) (kb : NKids 0 w r.body.kids ab) (hc : RuD.cost r ≤ 1048576) :
    Calls Try.prog 34 #[ruV r ap cp ab cb] w fun e w' => ∃ (ap' : Option Addr) (cp' : Nat) (ab' : Option Addr) (cb' : Nat), e = .returned (ruV r ap' cp' ab' cb') ∧ NKids w.heap.size w' r.pat.kids ap' ∧ NKids w.heap.size w' r.body.kids ab' ∧ Below w.heap.size w w' := by
  have hcp : NT.cost r.pat ≤ 1048576 := by unfold RuD.cost at hc; omega
  have hcb : NT.cost r.body ≤ 1048576 := by unfold RuD.cost at hc; omega
  have HP := Lib.hid (fun W h => toNode_any r.pat ap cp W h hcp)
  have HQ := Lib.hid (fun W h => toNode_any r.body ab cb W h hcb)
  unfold ruV ndV at *
  have r1 : RowB (((w.alloc (.cells #[.int .i64 r.when, .int .i64 r.pat.kind, .int .i64 r.pat.num, .string r.pat.text, .slice ap r.pat.kids.length cp, .int .i64 r.body.kind, .int .i64 r.body.num, .string r.body.text, .slice ab r.body.kids.length cb] 55)).alloc (.cells #[.int .i64 0, .int .i64 0, .int .i64 0, .string ⟨#[]⟩, .slice none 0 0, .int .i64 0, .int .i64 0, .string ⟨#[]⟩, .slice none 0 0] 60)).alloc (.cells #[.int .i64 r.when, .int .i64 0, .int .i64 0, .string ⟨#[]⟩, .slice none 0 0, .int .i64 0, .int .i64 0, .string ⟨#[]⟩, .slice none 0 0] 60)) (w.heap.size) [.int .i64 r.when, .int .i64 r.pat.kind, .int .i64 r.pat.num, .string r.pat.text, .slice ap r.pat.kids.length cp, .int .i64 r.body.kind, .int .i64 r.body.num, .string r.body.text, .slice ab r.body.kids.length cb] := ((rowB_new w [.int .i64 r.when, .int .i64 r.pat.kind, .int .i64 r.pat.num, .string r.pat.text, .slice ap r.pat.kids.length cp, .int .i64 r.body.kind, .int .i64 r.body.num, .string r.body.text, .slice ab r.body.kids.length cb] _).alloc _).alloc _
  have r2 : RowB (((w.alloc (.cells #[.int .i64 r.when, .int .i64 r.pat.kind, .int .i64 r.pat.num, .string r.pat.text, .slice ap r.pat.kids.length cp, .int .i64 r.body.kind, .int .i64 r.body.num, .string r.body.text, .slice ab r.body.kids.length cb] 55)).alloc (.cells #[.int .i64 0, .int .i64 0, .int .i64 0, .string ⟨#[]⟩, .slice none 0 0, .int .i64 0, .int .i64 0, .string ⟨#[]⟩, .slice none 0 0] 60)).alloc (.cells #[.int .i64 r.when, .int .i64 0, .int .i64 0, .string ⟨#[]⟩, .slice none 0 0, .int .i64 0, .int .i64 0, .string ⟨#[]⟩, .slice none 0 0] 60)) (w.heap.size + 1) [.int .i64 0, .int .i64 0, .int .i64 0, .string ⟨#[]⟩, .slice none 0 0, .int .i64 0, .int .i64 0, .string ⟨#[]⟩, .slice none 0 0] := by have := (rowB_new (w.alloc (.cells #[.int .i64 r.when, .int .i64 r.pat.kind, .int .i64 r.pat.num, .string r.pat.text, .slice ap r.pat.kids.length cp, .int .i64 r.body.kind, .int .i64 r.body.num, .string r.body.text, .slice ab r.body.kids.length cb] 55)) [.int .i64 0, .int .i64 0, .int .i64 0, .string ⟨#[]⟩, .slice none 0 0, .int .i64 0, .int .i64 0, .string ⟨#[]⟩, .slice none 0 0] 60).alloc (.cells #[.int .i64 r.when, .int .i64 0, .int .i64 0, .string ⟨#[]⟩, .slice none 0 0, .int .i64 0, .int .i64 0, .string ⟨#[]⟩, .slice none 0 0] 60); simpa using this
  have r3 : RowB (((w.alloc (.cells #[.int .i64 r.when, .int .i64 r.pat.kind, .int .i64 r.pat.num, .string r.pat.text, .slice ap r.pat.kids.length cp, .int .i64 r.body.kind, .int .i64 r.body.num, .string r.body.text, .slice ab r.body.kids.length cb] 55)).alloc (.cells #[.int .i64 0, .int .i64 0, .int .i64 0, .string ⟨#[]⟩, .slice none 0 0, .int .i64 0, .int .i64 0, .string ⟨#[]⟩, .slice none 0 0] 60)).alloc (.cells #[.int .i64 r.when, .int .i64 0, .int .i64 0, .string ⟨#[]⟩, .slice none 0 0, .int .i64 0, .int .i64 0, .string ⟨#[]⟩, .slice none 0 0] 60)) (w.heap.size + 1 + 1) [.int .i64 r.when, .int .i64 0, .int .i64 0, .string ⟨#[]⟩, .slice none 0 0, .int .i64 0, .int .i64 0, .string ⟨#[]⟩, .slice none 0 0] := by have := rowB_new ((w.alloc (.cells #[.int .i64 r.when, .int .i64 r.pat.kind, .int .i64 r.pat.num, .string r.pat.text, .slice ap r.pat.kids.length cp, .int .i64 r.body.kind, .int .i64 r.body.num, .string r.body.text, .slice ab r.body.kids.length cb] 55)).alloc (.cells #[.int .i64 0, .int .i64 0, .int .i64 0, .string ⟨#[]⟩, .slice none 0 0, .int .i64 0, .int .i64 0, .string ⟨#[]⟩, .slice none 0 0] 60)) [.int .i64 r.when, .int .i64 0, .int .i64 0, .string ⟨#[]⟩, .slice none 0 0, .int .i64 0, .int .i64 0, .string ⟨#[]⟩, .slice none 0 0] 60; simpa using this
  have b0 : Below w.heap.size w (((w.alloc (.cells #[.int .i64 r.when, .int .i64 r.pat.kind, .int .i64 r.pat.num, .string r.pat.text, .slice ap r.pat.kids.length cp, .int .i64 r.body.kind, .int .i64 r.body.num, .string r.body.text, .slice ab r.body.kids.length cb] 55)).alloc (.cells #[.int .i64 0, .int .i64 0, .int .i64 0, .string ⟨#[]⟩, .slice none 0 0, .int .i64 0, .int .i64 0, .string ⟨#[]⟩, .slice none 0 0] 60)).alloc (.cells #[.int .i64 r.when, .int .i64 0, .int .i64 0, .string ⟨#[]⟩, .slice none 0 0, .int .i64 0, .int .i64 0, .string ⟨#[]⟩, .slice none 0 0] 60)) := (((Below.refl w.heap.size w).alloc (Nat.le_refl _) _).alloc (by simp) _).alloc (by simp; omega) _
  have z0 : (((w.alloc (.cells #[.int .i64 r.when, .int .i64 r.pat.kind, .int .i64 r.pat.num, .string r.pat.text, .slice ap r.pat.kids.length cp, .int .i64 r.body.kind, .int .i64 r.body.num, .string r.body.text, .slice ab r.body.kids.length cb] 55)).alloc (.cells #[.int .i64 0, .int .i64 0, .int .i64 0, .string ⟨#[]⟩, .slice none 0 0, .int .i64 0, .int .i64 0, .string ⟨#[]⟩, .slice none 0 0] 60)).alloc (.cells #[.int .i64 r.when, .int .i64 0, .int .i64 0, .string ⟨#[]⟩, .slice none 0 0, .int .i64 0, .int .i64 0, .string ⟨#[]⟩, .slice none 0 0] 60)).heap.size = w.heap.size + 3 := by simp
  have HKB := Lib.hid kb
  have KP := Lib.hid (kp.kept (Nat.le_refl _) b0)
  have KB := Lib.hid (kb.kept (Nat.le_refl _) b0)
  have B0 := Lib.hid b0
  have R1 := Lib.hid r1
  have R2 := Lib.hid r2
  have R3 := Lib.hid r3
  clear r1 r2 r3 b0 kp kb hc
  go_enter Try.func34, Try.ntmps34
  go_wp2_with fail
  generalize (((w.alloc (.cells #[.int .i64 r.when, .int .i64 r.pat.kind, .int .i64 r.pat.num, .string r.pat.text, .slice ap r.pat.kids.length cp, .int .i64 r.body.kind, .int .i64 r.body.num, .string r.body.text, .slice ab r.body.kids.length cb] 55)).alloc (.cells #[.int .i64 0, .int .i64 0, .int .i64 0, .string ⟨#[]⟩, .slice none 0 0, .int .i64 0, .int .i64 0, .string ⟨#[]⟩, .slice none 0 0] 60)).alloc (.cells #[.int .i64 r.when, .int .i64 0, .int .i64 0, .string ⟨#[]⟩, .slice none 0 0, .int .i64 0, .int .i64 0, .string ⟨#[]⟩, .slice none 0 0] 60)) = w0 at *
  refine (HP.out _ KP.out).mono ?_
  rintro e w1 ⟨a1, c1, rfl, k1, b1⟩
  have z1 := b1.size
  have R1 := Lib.hid (R1.out.kept b1)
  have R2 := Lib.hid (R2.out.kept b1)
  have R3 := Lib.hid (R3.out.kept b1)
  have KB := Lib.hid (KB.out.kept (Nat.le_refl _) b1)
  have K1 := Lib.hid k1
  have B0 := Lib.hid (B0.out.trans (b1.mono B0.out.size))
  clear b1 k1 KP
  have x0 : w1.cell? ⟨w.heap.size, 0, none⟩ = some (.int .i64 r.when) := R1.out.cell 0
  have x1 : w1.cell? ⟨w.heap.size, 1, none⟩ = some (.int .i64 r.pat.kind) := R1.out.cell 1
  have x2 : w1.cell? ⟨w.heap.size, 2, none⟩ = some (.int .i64 r.pat.num) := R1.out.cell 2
  have x3 : w1.cell? ⟨w.heap.size, 3, none⟩ = some (.string r.pat.text) := R1.out.cell 3
  have x4 : w1.cell? ⟨w.heap.size, 4, none⟩ = some (.slice ap r.pat.kids.length cp) := R1.out.cell 4
  have x5 : w1.cell? ⟨w.heap.size, 5, none⟩ = some (.int .i64 r.body.kind) := R1.out.cell 5
  have x6 : w1.cell? ⟨w.heap.size, 6, none⟩ = some (.int .i64 r.body.num) := R1.out.cell 6
  have x7 : w1.cell? ⟨w.heap.size, 7, none⟩ = some (.string r.body.text) := R1.out.cell 7
  have x8 : w1.cell? ⟨w.heap.size, 8, none⟩ = some (.slice ab r.body.kids.length cb) := R1.out.cell 8
  have y0 : w1.cell? ⟨w.heap.size + 1 + 1, 0, none⟩ = some (.int .i64 r.when) := R3.out.cell 0
  have y1 : w1.cell? ⟨w.heap.size + 1 + 1, 1, none⟩ = some (.int .i64 0) := R3.out.cell 1
  have y2 : w1.cell? ⟨w.heap.size + 1 + 1, 2, none⟩ = some (.int .i64 0) := R3.out.cell 2
  have y3 : w1.cell? ⟨w.heap.size + 1 + 1, 3, none⟩ = some (.string ⟨#[]⟩) := R3.out.cell 3
  have y4 : w1.cell? ⟨w.heap.size + 1 + 1, 4, none⟩ = some (.slice none 0 0) := R3.out.cell 4
  have y5 : w1.cell? ⟨w.heap.size + 1 + 1, 5, none⟩ = some (.int .i64 0) := R3.out.cell 5
  have y6 : w1.cell? ⟨w.heap.size + 1 + 1, 6, none⟩ = some (.int .i64 0) := R3.out.cell 6
  have y7 : w1.cell? ⟨w.heap.size + 1 + 1, 7, none⟩ = some (.string ⟨#[]⟩) := R3.out.cell 7
  have y8 : w1.cell? ⟨w.heap.size + 1 + 1, 8, none⟩ = some (.slice none 0 0) := R3.out.cell 8
  have yf1 := R3.out.frozen 1
  have yf2 := R3.out.frozen 2
  have yf3 := R3.out.frozen 3
  have yf4 := R3.out.frozen 4
  have R3 : Hid (RowB ((((w1.setCell ⟨w.heap.size + 1 + 1, 1, none⟩ (.int .i64 r.pat.kind)).setCell ⟨w.heap.size + 1 + 1, 2, none⟩ (.int .i64 r.pat.num)).setCell ⟨w.heap.size + 1 + 1, 3, none⟩ (.string r.pat.text)).setCell ⟨w.heap.size + 1 + 1, 4, none⟩ (.slice a1 r.pat.kids.length c1)) (w.heap.size + 1 + 1) [.int .i64 r.when, .int .i64 r.pat.kind, .int .i64 r.pat.num, .string r.pat.text, .slice a1 r.pat.kids.length c1, .int .i64 0, .int .i64 0, .string ⟨#[]⟩, .slice none 0 0]) := Lib.hid ((((R3.out.set 1 (.int .i64 r.pat.kind)).set 2 (.int .i64 r.pat.num)).set 3 (.string r.pat.text)).set 4 (.slice a1 r.pat.kids.length c1))
  have R1 := Lib.hid ((((R1.out.off (w.heap.size + 1 + 1) 1 (.int .i64 r.pat.kind) (by omega)).off (w.heap.size + 1 + 1) 2 (.int .i64 r.pat.num) (by omega)).off (w.heap.size + 1 + 1) 3 (.string r.pat.text) (by omega)).off (w.heap.size + 1 + 1) 4 (.slice a1 r.pat.kids.length c1) (by omega))
  have R2 := Lib.hid ((((R2.out.off (w.heap.size + 1 + 1) 1 (.int .i64 r.pat.kind) (by omega)).off (w.heap.size + 1 + 1) 2 (.int .i64 r.pat.num) (by omega)).off (w.heap.size + 1 + 1) 3 (.string r.pat.text) (by omega)).off (w.heap.size + 1 + 1) 4 (.slice a1 r.pat.kids.length c1) (by omega))
  have K1 := Lib.hid ((((K1.out.set (w.heap.size + 1 + 1) 1 (by omega) (.int .i64 r.pat.kind)).set (w.heap.size + 1 + 1) 2 (by omega) (.int .i64 r.pat.num)).set (w.heap.size + 1 + 1) 3 (by omega) (.string r.pat.text)).set (w.heap.size + 1 + 1) 4 (by omega) (.slice a1 r.pat.kids.length c1))
  skip
  have B0 := Lib.hid ((((B0.out.setCell (p := ⟨w.heap.size + 1 + 1, 1, none⟩) (by show w.heap.size ≤ w.heap.size + 1 + 1; omega) (.int .i64 r.pat.kind)).setCell (p := ⟨w.heap.size + 1 + 1, 2, none⟩) (by show w.heap.size ≤ w.heap.size + 1 + 1; omega) (.int .i64 r.pat.num)).setCell (p := ⟨w.heap.size + 1 + 1, 3, none⟩) (by show w.heap.size ≤ w.heap.size + 1 + 1; omega) (.string r.pat.text)).setCell (p := ⟨w.heap.size + 1 + 1, 4, none⟩) (by show w.heap.size ≤ w.heap.size + 1 + 1; omega) (.slice a1 r.pat.kids.length c1))
  have KB := Lib.hid (HKB.out.kept (Nat.le_refl _) B0.out)
  have hz2 : w0.heap.size ≤ ((((w1.setCell ⟨w.heap.size + 1 + 1, 1, none⟩ (.int .i64 r.pat.kind)).setCell ⟨w.heap.size + 1 + 1, 2, none⟩ (.int .i64 r.pat.num)).setCell ⟨w.heap.size + 1 + 1, 3, none⟩ (.string r.pat.text)).setCell ⟨w.heap.size + 1 + 1, 4, none⟩ (.slice a1 r.pat.kids.length c1)).heap.size := by simpa using z1
  go_wp2_with fail
  generalize ((((w1.setCell ⟨w.heap.size + 1 + 1, 1, none⟩ (.int .i64 r.pat.kind)).setCell ⟨w.heap.size + 1 + 1, 2, none⟩ (.int .i64 r.pat.num)).setCell ⟨w.heap.size + 1 + 1, 3, none⟩ (.string r.pat.text)).setCell ⟨w.heap.size + 1 + 1, 4, none⟩ (.slice a1 r.pat.kids.length c1)) = w2 at *
  clear x0 x1 x2 x3 x4 x5 x6 x7 x8
  clear y0 y1 y2 y3 y4 y5 y6 y7 y8 yf1 yf2 yf3 yf4
  refine (HQ.out _ KB.out).mono ?_
  rintro e w3 ⟨a2, c2, rfl, k2, b2⟩
  have z2 := b2.size
  have R1 := Lib.hid (R1.out.kept b2)
  have R2 := Lib.hid (R2.out.kept b2)
  have R3 := Lib.hid (R3.out.kept b2)
  have K1 := Lib.hid (K1.out.kept (Nat.le_refl _) b2)
  have K2 := Lib.hid k2
  have B0 := Lib.hid (B0.out.trans (b2.mono B0.out.size))
  clear b2 k2 KB
  have y0 : w3.cell? ⟨w.heap.size + 1 + 1, 0, none⟩ = some (.int .i64 r.when) := R3.out.cell 0
  have y1 : w3.cell? ⟨w.heap.size + 1 + 1, 1, none⟩ = some (.int .i64 r.pat.kind) := R3.out.cell 1
  have y2 : w3.cell? ⟨w.heap.size + 1 + 1, 2, none⟩ = some (.int .i64 r.pat.num) := R3.out.cell 2
  have y3 : w3.cell? ⟨w.heap.size + 1 + 1, 3, none⟩ = some (.string r.pat.text) := R3.out.cell 3
  have y4 : w3.cell? ⟨w.heap.size + 1 + 1, 4, none⟩ = some (.slice a1 r.pat.kids.length c1) := R3.out.cell 4
  have y5 : w3.cell? ⟨w.heap.size + 1 + 1, 5, none⟩ = some (.int .i64 0) := R3.out.cell 5
  have y6 : w3.cell? ⟨w.heap.size + 1 + 1, 6, none⟩ = some (.int .i64 0) := R3.out.cell 6
  have y7 : w3.cell? ⟨w.heap.size + 1 + 1, 7, none⟩ = some (.string ⟨#[]⟩) := R3.out.cell 7
  have y8 : w3.cell? ⟨w.heap.size + 1 + 1, 8, none⟩ = some (.slice none 0 0) := R3.out.cell 8
  have yf5 := R3.out.frozen 5
  have yf6 := R3.out.frozen 6
  have yf7 := R3.out.frozen 7
  have yf8 := R3.out.frozen 8
  have x0 : w3.cell? ⟨w.heap.size + 1, 0, none⟩ = some (.int .i64 0) := R2.out.cell 0
  have x1 : w3.cell? ⟨w.heap.size + 1, 1, none⟩ = some (.int .i64 0) := R2.out.cell 1
  have x2 : w3.cell? ⟨w.heap.size + 1, 2, none⟩ = some (.int .i64 0) := R2.out.cell 2
  have x3 : w3.cell? ⟨w.heap.size + 1, 3, none⟩ = some (.string ⟨#[]⟩) := R2.out.cell 3
  have x4 : w3.cell? ⟨w.heap.size + 1, 4, none⟩ = some (.slice none 0 0) := R2.out.cell 4
  have x5 : w3.cell? ⟨w.heap.size + 1, 5, none⟩ = some (.int .i64 0) := R2.out.cell 5
  have x6 : w3.cell? ⟨w.heap.size + 1, 6, none⟩ = some (.int .i64 0) := R2.out.cell 6
  have x7 : w3.cell? ⟨w.heap.size + 1, 7, none⟩ = some (.string ⟨#[]⟩) := R2.out.cell 7
  have x8 : w3.cell? ⟨w.heap.size + 1, 8, none⟩ = some (.slice none 0 0) := R2.out.cell 8
  have xf0 := R2.out.frozen 0
  have xf1 := R2.out.frozen 1
  have xf2 := R2.out.frozen 2
  have xf3 := R2.out.frozen 3
  have xf4 := R2.out.frozen 4
  have xf5 := R2.out.frozen 5
  have xf6 := R2.out.frozen 6
  have xf7 := R2.out.frozen 7
  have xf8 := R2.out.frozen 8
  have R2 : Hid (RowB (((((((((((((w3.setCell ⟨w.heap.size + 1 + 1, 5, none⟩ (.int .i64 r.body.kind)).setCell ⟨w.heap.size + 1 + 1, 6, none⟩ (.int .i64 r.body.num)).setCell ⟨w.heap.size + 1 + 1, 7, none⟩ (.string r.body.text)).setCell ⟨w.heap.size + 1 + 1, 8, none⟩ (.slice a2 r.body.kids.length c2)).setCell ⟨w.heap.size + 1, 0, none⟩ (.int .i64 r.when)).setCell ⟨w.heap.size + 1, 1, none⟩ (.int .i64 r.pat.kind)).setCell ⟨w.heap.size + 1, 2, none⟩ (.int .i64 r.pat.num)).setCell ⟨w.heap.size + 1, 3, none⟩ (.string r.pat.text)).setCell ⟨w.heap.size + 1, 4, none⟩ (.slice a1 r.pat.kids.length c1)).setCell ⟨w.heap.size + 1, 5, none⟩ (.int .i64 r.body.kind)).setCell ⟨w.heap.size + 1, 6, none⟩ (.int .i64 r.body.num)).setCell ⟨w.heap.size + 1, 7, none⟩ (.string r.body.text)).setCell ⟨w.heap.size + 1, 8, none⟩ (.slice a2 r.body.kids.length c2)) (w.heap.size + 1) [.int .i64 r.when, .int .i64 r.pat.kind, .int .i64 r.pat.num, .string r.pat.text, .slice a1 r.pat.kids.length c1, .int .i64 r.body.kind, .int .i64 r.body.num, .string r.body.text, .slice a2 r.body.kids.length c2]) := Lib.hid ((((((((((((((R2.out.off (w.heap.size + 1 + 1) 5 (.int .i64 r.body.kind) (by omega)).off (w.heap.size + 1 + 1) 6 (.int .i64 r.body.num) (by omega)).off (w.heap.size + 1 + 1) 7 (.string r.body.text) (by omega)).off (w.heap.size + 1 + 1) 8 (.slice a2 r.body.kids.length c2) (by omega)).set 0 (.int .i64 r.when)).set 1 (.int .i64 r.pat.kind)).set 2 (.int .i64 r.pat.num)).set 3 (.string r.pat.text)).set 4 (.slice a1 r.pat.kids.length c1)).set 5 (.int .i64 r.body.kind)).set 6 (.int .i64 r.body.num)).set 7 (.string r.body.text)).set 8 (.slice a2 r.body.kids.length c2)))
  have K1 := Lib.hid (((((((((((((K1.out.set (w.heap.size + 1 + 1) 5 (by omega) (.int .i64 r.body.kind)).set (w.heap.size + 1 + 1) 6 (by omega) (.int .i64 r.body.num)).set (w.heap.size + 1 + 1) 7 (by omega) (.string r.body.text)).set (w.heap.size + 1 + 1) 8 (by omega) (.slice a2 r.body.kids.length c2)).set (w.heap.size + 1) 0 (by omega) (.int .i64 r.when)).set (w.heap.size + 1) 1 (by omega) (.int .i64 r.pat.kind)).set (w.heap.size + 1) 2 (by omega) (.int .i64 r.pat.num)).set (w.heap.size + 1) 3 (by omega) (.string r.pat.text)).set (w.heap.size + 1) 4 (by omega) (.slice a1 r.pat.kids.length c1)).set (w.heap.size + 1) 5 (by omega) (.int .i64 r.body.kind)).set (w.heap.size + 1) 6 (by omega) (.int .i64 r.body.num)).set (w.heap.size + 1) 7 (by omega) (.string r.body.text)).set (w.heap.size + 1) 8 (by omega) (.slice a2 r.body.kids.length c2))
  have K2 := Lib.hid (((((((((((((K2.out.set (w.heap.size + 1 + 1) 5 (by omega) (.int .i64 r.body.kind)).set (w.heap.size + 1 + 1) 6 (by omega) (.int .i64 r.body.num)).set (w.heap.size + 1 + 1) 7 (by omega) (.string r.body.text)).set (w.heap.size + 1 + 1) 8 (by omega) (.slice a2 r.body.kids.length c2)).set (w.heap.size + 1) 0 (by omega) (.int .i64 r.when)).set (w.heap.size + 1) 1 (by omega) (.int .i64 r.pat.kind)).set (w.heap.size + 1) 2 (by omega) (.int .i64 r.pat.num)).set (w.heap.size + 1) 3 (by omega) (.string r.pat.text)).set (w.heap.size + 1) 4 (by omega) (.slice a1 r.pat.kids.length c1)).set (w.heap.size + 1) 5 (by omega) (.int .i64 r.body.kind)).set (w.heap.size + 1) 6 (by omega) (.int .i64 r.body.num)).set (w.heap.size + 1) 7 (by omega) (.string r.body.text)).set (w.heap.size + 1) 8 (by omega) (.slice a2 r.body.kids.length c2))
  have B0 := Lib.hid (((((((((((((B0.out.setCell (p := ⟨w.heap.size + 1 + 1, 5, none⟩) (by show w.heap.size ≤ w.heap.size + 1 + 1; omega) (.int .i64 r.body.kind)).setCell (p := ⟨w.heap.size + 1 + 1, 6, none⟩) (by show w.heap.size ≤ w.heap.size + 1 + 1; omega) (.int .i64 r.body.num)).setCell (p := ⟨w.heap.size + 1 + 1, 7, none⟩) (by show w.heap.size ≤ w.heap.size + 1 + 1; omega) (.string r.body.text)).setCell (p := ⟨w.heap.size + 1 + 1, 8, none⟩) (by show w.heap.size ≤ w.heap.size + 1 + 1; omega) (.slice a2 r.body.kids.length c2)).setCell (p := ⟨w.heap.size + 1, 0, none⟩) (by show w.heap.size ≤ w.heap.size + 1; omega) (.int .i64 r.when)).setCell (p := ⟨w.heap.size + 1, 1, none⟩) (by show w.heap.size ≤ w.heap.size + 1; omega) (.int .i64 r.pat.kind)).setCell (p := ⟨w.heap.size + 1, 2, none⟩) (by show w.heap.size ≤ w.heap.size + 1; omega) (.int .i64 r.pat.num)).setCell (p := ⟨w.heap.size + 1, 3, none⟩) (by show w.heap.size ≤ w.heap.size + 1; omega) (.string r.pat.text)).setCell (p := ⟨w.heap.size + 1, 4, none⟩) (by show w.heap.size ≤ w.heap.size + 1; omega) (.slice a1 r.pat.kids.length c1)).setCell (p := ⟨w.heap.size + 1, 5, none⟩) (by show w.heap.size ≤ w.heap.size + 1; omega) (.int .i64 r.body.kind)).setCell (p := ⟨w.heap.size + 1, 6, none⟩) (by show w.heap.size ≤ w.heap.size + 1; omega) (.int .i64 r.body.num)).setCell (p := ⟨w.heap.size + 1, 7, none⟩) (by show w.heap.size ≤ w.heap.size + 1; omega) (.string r.body.text)).setCell (p := ⟨w.heap.size + 1, 8, none⟩) (by show w.heap.size ≤ w.heap.size + 1; omega) (.slice a2 r.body.kids.length c2))
  go_wp2_with fail
  change bodyPost _ _ _ _ _ (((((((((((((w3.setCell ⟨w.heap.size + 1 + 1, 5, none⟩ (.int .i64 r.body.kind)).setCell ⟨w.heap.size + 1 + 1, 6, none⟩ (.int .i64 r.body.num)).setCell ⟨w.heap.size + 1 + 1, 7, none⟩ (.string r.body.text)).setCell ⟨w.heap.size + 1 + 1, 8, none⟩ (.slice a2 r.body.kids.length c2)).setCell ⟨w.heap.size + 1, 0, none⟩ (.int .i64 r.when)).setCell ⟨w.heap.size + 1, 1, none⟩ (.int .i64 r.pat.kind)).setCell ⟨w.heap.size + 1, 2, none⟩ (.int .i64 r.pat.num)).setCell ⟨w.heap.size + 1, 3, none⟩ (.string r.pat.text)).setCell ⟨w.heap.size + 1, 4, none⟩ (.slice a1 r.pat.kids.length c1)).setCell ⟨w.heap.size + 1, 5, none⟩ (.int .i64 r.body.kind)).setCell ⟨w.heap.size + 1, 6, none⟩ (.int .i64 r.body.num)).setCell ⟨w.heap.size + 1, 7, none⟩ (.string r.body.text)).setCell ⟨w.heap.size + 1, 8, none⟩ (.slice a2 r.body.kids.length c2))
  generalize (((((((((((((w3.setCell ⟨w.heap.size + 1 + 1, 5, none⟩ (.int .i64 r.body.kind)).setCell ⟨w.heap.size + 1 + 1, 6, none⟩ (.int .i64 r.body.num)).setCell ⟨w.heap.size + 1 + 1, 7, none⟩ (.string r.body.text)).setCell ⟨w.heap.size + 1 + 1, 8, none⟩ (.slice a2 r.body.kids.length c2)).setCell ⟨w.heap.size + 1, 0, none⟩ (.int .i64 r.when)).setCell ⟨w.heap.size + 1, 1, none⟩ (.int .i64 r.pat.kind)).setCell ⟨w.heap.size + 1, 2, none⟩ (.int .i64 r.pat.num)).setCell ⟨w.heap.size + 1, 3, none⟩ (.string r.pat.text)).setCell ⟨w.heap.size + 1, 4, none⟩ (.slice a1 r.pat.kids.length c1)).setCell ⟨w.heap.size + 1, 5, none⟩ (.int .i64 r.body.kind)).setCell ⟨w.heap.size + 1, 6, none⟩ (.int .i64 r.body.num)).setCell ⟨w.heap.size + 1, 7, none⟩ (.string r.body.text)).setCell ⟨w.heap.size + 1, 8, none⟩ (.slice a2 r.body.kids.length c2)) = w5 at *
  clear x0 x1 x2 x3 x4 x5 x6 x7 x8 xf0 xf1 xf2 xf3 xf4 xf5 xf6 xf7 xf8
  clear y0 y1 y2 y3 y4 y5 y6 y7 y8 yf5 yf6 yf7 yf8
  have y0 : w5.cell? ⟨w.heap.size + 1, 0, none⟩ = some (.int .i64 r.when) := R2.out.cell 0
  have y1 : w5.cell? ⟨w.heap.size + 1, 1, none⟩ = some (.int .i64 r.pat.kind) := R2.out.cell 1
  have y2 : w5.cell? ⟨w.heap.size + 1, 2, none⟩ = some (.int .i64 r.pat.num) := R2.out.cell 2
  have y3 : w5.cell? ⟨w.heap.size + 1, 3, none⟩ = some (.string r.pat.text) := R2.out.cell 3
  have y4 : w5.cell? ⟨w.heap.size + 1, 4, none⟩ = some (.slice a1 r.pat.kids.length c1) := R2.out.cell 4
  have y5 : w5.cell? ⟨w.heap.size + 1, 5, none⟩ = some (.int .i64 r.body.kind) := R2.out.cell 5
  have y6 : w5.cell? ⟨w.heap.size + 1, 6, none⟩ = some (.int .i64 r.body.num) := R2.out.cell 6
  have y7 : w5.cell? ⟨w.heap.size + 1, 7, none⟩ = some (.string r.body.text) := R2.out.cell 7
  have y8 : w5.cell? ⟨w.heap.size + 1, 8, none⟩ = some (.slice a2 r.body.kids.length c2) := R2.out.cell 8
  refine bodyPost_ret (v := .agg #[.int .i64 r.when, .int .i64 r.pat.kind, .int .i64 r.pat.num, .string r.pat.text, .slice a1 r.pat.kids.length c1, .int .i64 r.body.kind, .int .i64 r.body.num, .string r.body.text, .slice a2 r.body.kids.length c2]) (by simp [results, Try.results34, go_sem, y0, y1, y2, y3, y4, y5, y6, y7, y8]) rfl ⟨a1, c1, a2, c2, rfl, K1.out.mono (by omega), K2.out.mono (by omega), B0.out⟩
end Go.Proofs.Ytghmkfehohgmgaa.kit
