/-
  Contracts of laws.szNodeS and laws.szNode over this seat's translation: what a tree of nodes costs. Conditions: each theorem names its own.
-/
import Derived.Test.YtghmkfehohgmgaaNd1
import Derived.Test.YtghmkfehohgmgaaRe2
namespace Go.Proofs.Ytghmkfehohgmgaa.kit
open Go.ChangeShapes Go.WideShapes Go.ChangeAt Go.RowKit
set_option linter.unusedVariables false

def NszOne (t : NT) : Prop := ∀ (a : Option Addr) (cap : Nat) (left : Int) (w : World), NKids 0 w t.kids a → t.text.size ≤ maxLen → t.kids.length ≤ maxLen → 0 ≤ left → left ≤ 1048576 →
  Calls Try.prog 49 #[ndV t a cap, .int .i64 left] w fun e w' => e = .returned (.int .i64 (leftOf left (NT.cost t))) ∧ Below w.heap.size w w'
def NszAll (ts : List NT) : Prop := ∀ (a : Option Addr) (cap : Nat) (left : Int) (w : World), NKids 0 w ts a → ts.length ≤ maxLen → 0 ≤ left → left ≤ 1048576 →
  Calls Try.prog 59 #[.slice a ts.length cap, .int .i64 left] w fun e w' => e = .returned (.int .i64 (leftOf left (NT.bill ts))) ∧ Below w.heap.size w w'
set_option maxRecDepth 100000 in
set_option maxHeartbeats 400000 in
theorem nszOne_of {t : NT} (h : NszAll t.kids) : NszOne t := by
  intro a cap left w hk hs hl h0 h1
  have HK := Lib.hid hk
  have HS := Lib.hid h
  have HC := Lib.hid (NT.cost_eq t)
  clear hk h
  obtain ⟨k, n, s, ts⟩ := t
  unfold ndV
  simp only [NT.text, NT.kids, NT.kind, NT.num] at *
  have hs0 : (0 : Int) ≤ s.size := by omega
  have hml : maxLen = 9223372036854775807 := rfl
  go_enter Try.func49, Try.ntmps49
  by_cases c : left < s.size
  · go_wp2_with fail
    go_ret
    exact ⟨ret_int (leftOf_neg (by rw [HC.out]; omega)).symm, (Below.refl _ _).alloc (Nat.le_refl _) _⟩
  · have hb : Below w.heap.size w (w.alloc (.cells #[.int .i64 k, .int .i64 n, .string s, .slice a ts.length cap] 53)) := (Below.refl _ _).alloc (Nat.le_refl _) _
    have HB := Lib.hid hb
    clear hb
    go_wp2_with fail
    refine (HS.out a cap _ _ (HK.out.alloc _) hl (by omega) (by omega)).mono ?_
    rintro e w1 ⟨rfl, hb1⟩
    have HB1 := Lib.hid hb1
    clear hb1
    by_cases c2 : left - s.size < (NT.bill ts : Nat)
    · rw [leftOf_neg c2]
      go_wp2_with fail
      go_ret
      exact ⟨ret_int (leftOf_neg (by rw [HC.out]; omega)).symm, HB.out.trans (HB1.out.mono HB.out.size)⟩
    · have c3 : ¬ (left - s.size - (NT.bill ts : Nat) < 0) := by omega
      rw [leftOf_pos (by omega)]
      go_wp2_with fail
      go_ret
      exact ⟨ret_int (by rw [leftOf_pos (by rw [HC.out]; omega), HC.out]; omega), HB.out.trans (HB1.out.mono HB.out.size)⟩
set_option maxRecDepth 100000 in
set_option maxHeartbeats 400000 in
theorem nszAll_of {ts : List NT} (h : ∀ t ∈ ts, NszOne t) : NszAll ts := by
  intro a cap left w hk hl h0 h1
  have HK := Lib.hid hk
  have HS := Lib.hid h
  clear hk h
  have hml : maxLen = 9223372036854775807 := rfl
  go_enter Try.func59, Try.ntmps59
  by_cases c : left < ts.length
  · go_wp2_with fail
    go_ret
    exact ⟨ret_int (leftOf_neg (by simp only [NT.bill]; omega)).symm, Below.refl _ _⟩
  · go_wp2_with fail
    go_loopw [1, 5] (fun l i wr => ∃ (k : Nat) (m : Int), k ≤ ts.length ∧ i = .int .i64 (k : Int) ∧ l = .int .i64 m ∧ m = left - ts.length - (NT.costs (ts.take k) : Nat) ∧ 0 ≤ m ∧ Below w.heap.size w wr) (fun _ i _ => ts.length - (intOf i).toNat)
    case atStart => exact ⟨0, _, Nat.zero_le _, rfl, rfl, by simp [NT.costs], by omega, Below.refl _ _⟩
    case round =>
      obtain ⟨k, m, hkl, rfl, rfl, hm, hm0, hb⟩ := hrel
      have HB := Lib.hid hb
      have HM := Lib.hid hm
      clear hb
      by_cases hlt : k < ts.length
      · obtain ⟨a', cap', he, hk'⟩ := (HK.out.kept (Nat.le_refl _) HB.out).elem k hlt
        obtain ⟨b, o, rfl, _, hbl, ⟨e0, e1, e2, e3⟩, f0, f1⟩ := he
        have HT := Lib.hid (NT.costs_take ts k hlt)
        have HL := Lib.hid (NT.costs_le ts (k + 1))
        have HO := Lib.hid (HS.out ts[k] (List.getElem_mem hlt))
        generalize ts[k] = t at *
        have HK' := Lib.hid hk'
        clear hk'
        have hm2 : m ≤ 1048576 := by omega
        clear hm
        go_wp2_with fail
        refine (HO.out _ _ _ _ HK'.out f0 f1 hm0 hm2).mono ?_
        rintro e w1 ⟨rfl, hb1⟩
        have HB1 := Lib.hid hb1
        clear hb1
        by_cases c2 : m < (NT.cost t : Nat)
        · rw [leftOf_neg c2]
          go_wp2_with fail
          go_ret
          exact ⟨ret_int (leftOf_neg (by have := HM.out; have := HT.out; have := HL.out; simp only [NT.bill]; omega)).symm, HB.out.trans (HB1.out.mono HB.out.size)⟩
        · have c3 : ¬ (m - (NT.cost t : Nat) < 0) := by omega
          rw [leftOf_pos (by omega)]
          go_wp2_with fail
          go_roundw
          case rel => exact ⟨k + 1, _, by omega, by go_num, rfl, by have := HM.out; have := HT.out; omega, by omega, HB.out.trans (HB1.out.mono HB.out.size)⟩
          case measure => simp [intOf]; omega
      · obtain rfl : k = ts.length := by omega
        go_wp2_with fail
        go_ret
        exact ⟨ret_int (by rw [HM.out, leftOf_pos (by have := HM.out; simp only [NT.bill]; rw [List.take_length] at this; omega)]; simp only [NT.bill]; rw [List.take_length]; omega), HB.out⟩
theorem nszAll_all : ∀ (N : Nat) (ts : List NT), NT.szs ts ≤ N → NszAll ts := by
  intro N
  induction N with
  | zero => intro ts h; exact nszAll_of fun t ht => by have := NT.sz_mem ts t ht; have := NT.sz_pos t; omega
  | succ N ih => intro ts h; exact nszAll_of fun t ht => nszOne_of (ih _ (by have := NT.sz_mem ts t ht; have := NT.sz_eq t; omega))
theorem szNode_any (t : NT) : NszOne t := nszOne_of (nszAll_all _ _ (Nat.le_refl _))
end Go.Proofs.Ytghmkfehohgmgaa.kit
