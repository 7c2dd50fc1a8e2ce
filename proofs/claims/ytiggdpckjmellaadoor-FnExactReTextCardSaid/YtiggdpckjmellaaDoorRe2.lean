/-
  Contracts of laws.szReS and laws.szRe over this seat's translation: what a tree of expressions costs. Conditions: each theorem names its own.
-/
import Derived.Test.YtiggdpckjmellaaDoorRe1
namespace Go.Proofs.YtiggdpckjmellaaDoor.kit
open Go.ChangeShapes Go.WideShapes Go.ChangeAt Go.RowKit
set_option linter.unusedVariables false

/-- What is left of left behind a cost. -/
def leftOf (left : Int) (cost : Nat) : Int := if (cost : Int) ≤ left then left - cost else -1
def SzOne (t : RT) : Prop := ∀ (a : Option Addr) (cap : Nat) (left : Int) (w : World), Kids 0 w t.kids a → t.set.size ≤ maxLen → t.kids.length ≤ maxLen → 0 ≤ left → left ≤ 1048576 →
  Calls Tryd.prog 47 #[reV t a cap, .int .i64 left] w fun e w' => e = .returned (.int .i64 (leftOf left (RT.cost t))) ∧ Below w.heap.size w w'
def SzAll (ts : List RT) : Prop := ∀ (a : Option Addr) (cap : Nat) (left : Int) (w : World), Kids 0 w ts a → ts.length ≤ maxLen → 0 ≤ left → left ≤ 1048576 →
  Calls Tryd.prog 83 #[.slice a ts.length cap, .int .i64 left] w fun e w' => e = .returned (.int .i64 (leftOf left (RT.bill ts))) ∧ Below w.heap.size w w'
theorem leftOf_neg {left : Int} {c : Nat} (h : left < c) : leftOf left c = -1 := if_neg (by omega)
theorem leftOf_pos {left : Int} {c : Nat} (h : (c : Int) ≤ left) : leftOf left c = left - c := if_pos h
set_option maxRecDepth 100000 in
set_option maxHeartbeats 400000 in
theorem szOne_of {t : RT} (h : SzAll t.kids) : SzOne t := by
  intro a cap left w hk hs hl h0 h1
  have HK := Lib.hid hk
  have HS := Lib.hid h
  have HC := Lib.hid (RT.cost_eq t)
  clear hk h
  obtain ⟨k, s, n, lo, hi, ts⟩ := t
  unfold reV
  simp only [RT.set, RT.kids, RT.kind, RT.neg, RT.low, RT.high] at *
  have hs0 : (0 : Int) ≤ s.size := by omega
  have hml : maxLen = 9223372036854775807 := rfl
  go_enter Tryd.func47, Tryd.ntmps47
  by_cases c : left < s.size
  · go_wp2_with fail
    go_ret
    exact ⟨ret_int (leftOf_neg (by rw [HC.out]; omega)).symm, (Below.refl _ _).alloc (Nat.le_refl _) _⟩
  · have hb : Below w.heap.size w (w.alloc (.cells #[.int .i64 k, .string s, .bool n, .int .i64 lo, .int .i64 hi, .slice a ts.length cap] 53)) := (Below.refl _ _).alloc (Nat.le_refl _) _
    have HB := Lib.hid hb
    clear hb
    go_wp2_with fail
    refine (HS.out a cap _ _ (HK.out.alloc _) hl (by omega) (by omega)).mono ?_
    rintro e w1 ⟨rfl, hb1⟩
    have HB1 := Lib.hid hb1
    clear hb1
    by_cases c2 : left - s.size < (RT.bill ts : Nat)
    · rw [leftOf_neg c2]
      go_wp2_with fail
      go_ret
      exact ⟨ret_int (leftOf_neg (by rw [HC.out]; omega)).symm, HB.out.trans (HB1.out.mono HB.out.size)⟩
    · have c3 : ¬ (left - s.size - (RT.bill ts : Nat) < 0) := by omega
      rw [leftOf_pos (by omega)]
      go_wp2_with fail
      go_ret
      exact ⟨ret_int (by rw [leftOf_pos (by rw [HC.out]; omega), HC.out]; omega), HB.out.trans (HB1.out.mono HB.out.size)⟩
set_option maxRecDepth 100000 in
set_option maxHeartbeats 400000 in
theorem szAll_of {ts : List RT} (h : ∀ t ∈ ts, SzOne t) : SzAll ts := by
  intro a cap left w hk hl h0 h1
  have HK := Lib.hid hk
  have HS := Lib.hid h
  clear hk h
  have hml : maxLen = 9223372036854775807 := rfl
  go_enter Tryd.func83, Tryd.ntmps83
  by_cases c : left < ts.length
  · go_wp2_with fail
    go_ret
    exact ⟨ret_int (leftOf_neg (by simp only [RT.bill]; omega)).symm, Below.refl _ _⟩
  · go_wp2_with fail
    go_loopw [1, 5] (fun l i wr => ∃ (k : Nat) (m : Int), k ≤ ts.length ∧ i = .int .i64 (k : Int) ∧ l = .int .i64 m ∧ m = left - ts.length - (RT.costs (ts.take k) : Nat) ∧ 0 ≤ m ∧ Below w.heap.size w wr) (fun _ i _ => ts.length - (intOf i).toNat)
    case atStart => exact ⟨0, _, Nat.zero_le _, rfl, rfl, by simp [RT.costs], by omega, Below.refl _ _⟩
    case round =>
      obtain ⟨k, m, hkl, rfl, rfl, hm, hm0, hb⟩ := hrel
      have HB := Lib.hid hb
      have HM := Lib.hid hm
      clear hb
      by_cases hlt : k < ts.length
      · obtain ⟨a', cap', he, hk'⟩ := (HK.out.kept (Nat.le_refl _) HB.out).elem k hlt
        obtain ⟨b, o, rfl, _, hbl, e0, e1, e2, e3, e4, e5, f0, f1⟩ := he
        have HT := Lib.hid (RT.costs_take ts k hlt)
        have HL := Lib.hid (RT.costs_le ts (k + 1))
        have HO := Lib.hid (HS.out ts[k] (List.getElem_mem hlt))
        generalize ts[k] = t at *
        have HK' := Lib.hid hk'
        clear hk'
        have hm2 : m ≤ 1048576 := by omega
        clear hm
        go_wp2_with fail
        refine (HO.out _ _ _ _ HK'.out f0 f1 hm0 hm2).mono ?_
        rintro e w1 ⟨rfl, hb1⟩
        have HB1 := Lib.hid hb1
        clear hb1
        by_cases c2 : m < (RT.cost t : Nat)
        · rw [leftOf_neg c2]
          go_wp2_with fail
          go_ret
          exact ⟨ret_int (leftOf_neg (by have := HM.out; have := HT.out; have := HL.out; simp only [RT.bill]; omega)).symm, HB.out.trans (HB1.out.mono HB.out.size)⟩
        · have c3 : ¬ (m - (RT.cost t : Nat) < 0) := by omega
          rw [leftOf_pos (by omega)]
          go_wp2_with fail
          go_roundw
          case rel => exact ⟨k + 1, _, by omega, by go_num, rfl, by have := HM.out; have := HT.out; omega, by omega, HB.out.trans (HB1.out.mono HB.out.size)⟩
          case measure => simp [intOf]; omega
      · obtain rfl : k = ts.length := by omega
        go_wp2_with fail
        go_ret
        exact ⟨ret_int (by rw [HM.out, leftOf_pos (by have := HM.out; simp only [RT.bill]; rw [List.take_length] at this; omega)]; simp only [RT.bill]; rw [List.take_length]; omega), HB.out⟩
theorem szAll_all : ∀ (N : Nat) (ts : List RT), RT.szs ts ≤ N → SzAll ts := by
  intro N
  induction N with
  | zero => intro ts h; exact szAll_of fun t ht => by have := RT.sz_mem ts t ht; have := RT.sz_pos t; omega
  | succ N ih => intro ts h; exact szAll_of fun t ht => szOne_of (ih _ (by have := RT.sz_mem ts t ht; have := RT.sz_eq t; omega))
theorem szRe_any (t : RT) : SzOne t := szOne_of (szAll_all _ _ (Nat.le_refl _))
end Go.Proofs.YtiggdpckjmellaaDoor.kit
