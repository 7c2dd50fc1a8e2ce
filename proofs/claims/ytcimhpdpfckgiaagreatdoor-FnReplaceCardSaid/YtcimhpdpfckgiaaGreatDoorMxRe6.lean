/-
  Contracts of spec.l04Set and impl.ascends over this seat's translation: whether bytes ascend. Conditions: each theorem names its own.
-/
import Derived.Test.YtcimhpdpfckgiaaGreatDoorMxRe1
import Derived.Deep.QuietTactic
import Derived.BigQuiet
set_option linter.unusedVariables false
open Go.ChangeShapes Go.WideShapes Go.ChangeAt Go.RowKit
namespace Go.Proofs.YtcimhpdpfckgiaaGreatDoor.kit
theorem belowK {B : Nat} {a w : World} (h : Below B a w) (n : Nat) : Below B a (w.drewN n) := ⟨h.os, h.tape, h.output, h.size, h.block⟩
theorem RT.asc_iff : ∀ (l : List UInt8), RT.asc l = true ↔ ∀ (j : Nat) (h : j + 1 < l.length), (l[j]'(by omega)).toNat < (l[j + 1]).toNat
 | [] => by simp [RT.asc]
 | [a] => by simp [RT.asc]
 | a :: b :: l => by
   rw [RT.asc, Bool.and_eq_true, decide_eq_true_eq, RT.asc_iff (b :: l)]
   constructor
   · rintro ⟨h1, h2⟩ j hj
     cases j with
     | zero => simpa using h1
     | succ j => exact h2 j (by simp only [List.length_cons] at *; omega)
   · intro h
     exact ⟨h 0 (by simp), fun j hj => h (j + 1) (by simp only [List.length_cons] at *; omega)⟩
theorem asc_start (l : List UInt8) : RT.asc (l.take 1) = true := by
 rw [RT.asc_iff]; intro j h; simp at h; omega
theorem asc_next {s : ByteArray} {j k : Nat} (hk : j + 1 = k) (hj : k < s.size) (hj' : j < s.size) (h : RT.asc (s.data.toList.take k) = true) (hc : ¬ s[k].toNat ≤ s[j].toNat) : RT.asc (s.data.toList.take (k + 1)) = true := by
 subst hk
 rw [RT.asc_iff] at *
 intro i hi
 have hl : s.data.toList.length = s.size := by simp
 simp only [List.length_take] at hi h
 by_cases c : i = j
 · subst c
   simp only [List.getElem_take]
   have e1 : s.data.toList[i]'(by omega) = s[i]'(by omega) := rfl
   have e2 : s.data.toList[i + 1]'(by omega) = s[i + 1] := rfl
   rw [e1, e2]; omega
 · have := h i (by omega)
   simpa only [List.getElem_take] using this
theorem asc_no {s : ByteArray} {j k : Nat} (hk : j + 1 = k) (hj : k < s.size) (hj' : j < s.size) (hc : s[k].toNat ≤ s[j].toNat) : RT.asc s.data.toList = false := by
 subst hk
 cases h : RT.asc s.data.toList
 · rfl
 · rw [RT.asc_iff] at h
   have hl : s.data.toList.length = s.size := by simp
   have := h j (by omega)
   have e1 : s.data.toList[j]'(by omega) = s[j]'(by omega) := rfl
   have e2 : s.data.toList[j + 1]'(by omega) = s[j + 1] := rfl
   rw [e1, e2] at this; omega
theorem asc_one {s : ByteArray} (h : ¬ 1 < s.size) : RT.asc s.data.toList = true := by
 rw [RT.asc_iff]; intro j hj; have hl : s.data.toList.length = s.size := by simp
 omega
theorem asc_in {s : ByteArray} (h : RT.asc s.data.toList = true) : inB (s.size : Int) 1 256 = !s.data.toList.isEmpty := by
 have h1 := RT.asc_len _ h
 have hl : s.data.toList.length = s.size := by simp
 by_cases c : s.size = 0
 · have := empty_of_size c
   rw [ByteArray.toList_eq] at this
   simp [inB, this, c]
 · have := not_empty_of_size c
   rw [ByteArray.toList_eq] at this
   simp [inB, this]; omega
theorem isE (s : ByteArray) : s.toList.isEmpty = s.data.toList.isEmpty := by rw [ByteArray.toList_eq]
set_option maxRecDepth 100000 in
set_option maxHeartbeats 1000000 in
theorem ascends_any (s : ByteArray) (w : World) (hs : s.size ≤ 1048576) :
 Calls Tryz.prog 65 #[.string s] w fun e w' => e = .returned (.bool (RT.asc s.data.toList && !s.data.toList.isEmpty)) ∧ Below w.heap.size w w' := by
 have H1 := qd (asc_start s.data.toList)
 go_enter Tryz.func65, Tryz.ntmps65
 go_wp2_with fail
 go_loopw [3] (fun i wr => ∃ k : Nat, 1 ≤ k ∧ (k ≤ s.size ∨ k = 1) ∧ i = .int .i64 (k : Int) ∧ RT.asc (s.data.toList.take k) = true ∧ Below w.heap.size w wr) (fun i _ => s.size - (intOf i).toNat)
 case atStart => exact ⟨1, by omega, by omega, rfl, H1.out, Below.refl _ _⟩
 case round =>
  obtain ⟨k, h1, h2, rfl, h3, hb⟩ := hrel
  have H3 := qd h3
  have HB := qd hb
  clear h3 hb
  by_cases hlt : k < s.size
  · obtain ⟨j, hjk⟩ : ∃ j, j + 1 = k := ⟨k - 1, by omega⟩
    have hj : j < s.size := by omega
    have hw : IntKind.i64.wrap ((k : Int) - 1) = (j : Int) := by rw [IntKind.wrap_i64]; omega
    have hj0 : (0 : Int) ≤ j := by omega
    have hj1 : (j : Int) < s.size := by omega
    have hk0 : (0 : Int) ≤ (k : Int) := by omega
    have hk1 : (k : Int) < s.size := by omega
    have HN := qd (fun hc => asc_next hjk hlt hj H3.out hc)
    have HQ := qd (fun hc => asc_no hjk hlt hj hc)
    clear hjk
    by_cases hc : s[k].toNat ≤ s[j].toNat
    · go_wp2_with fail
      go_quiet (fail)
      go_wp2_with fail
      go_ret
      exact ⟨ret_bool (by rw [HQ.out hc]; rfl), belowK HB.out _⟩
    · go_wp2_with fail
      go_quiet (fail)
      go_wp2_with fail
      go_roundw
      case rel => exact ⟨k + 1, by omega, by omega, by go_num, HN.out hc, belowK HB.out _⟩
      case measure => simp [intOf]; omega
  · have ha : RT.asc s.data.toList = true := by
        by_cases c : 1 < s.size
        · have h4 := H3.out
          rwa [take_all s k (by omega)] at h4
        · exact asc_one c
    have HA := qd ha
    clear ha
    have HE := qd (isE s)
    go_wp2_with fail
    go_ret
    exact ⟨ret_bool (by rw [HA.out, ← HE.out]; simp), HB.out⟩
set_option maxRecDepth 100000 in
set_option maxHeartbeats 1000000 in
theorem l04Set_any (s : ByteArray) (w : World) (hs : s.size ≤ 1048576) :
 Calls Tryz.prog 72 #[.string s] w fun e w' => e = .returned (.bool (RT.asc s.data.toList && !s.data.toList.isEmpty)) ∧ Below w.heap.size w w' := by
 have H1 := qd (asc_start s.data.toList)
 go_enter Tryz.func72, Tryz.ntmps72
 go_wp2_with fail
 go_loopw [3] (fun i wr => ∃ k : Nat, 1 ≤ k ∧ (k ≤ s.size ∨ k = 1) ∧ i = .int .i64 (k : Int) ∧ RT.asc (s.data.toList.take k) = true ∧ Below w.heap.size w wr) (fun i _ => s.size - (intOf i).toNat)
 case atStart => exact ⟨1, by omega, by omega, rfl, H1.out, Below.refl _ _⟩
 case round =>
  obtain ⟨k, h1, h2, rfl, h3, hb⟩ := hrel
  have H3 := qd h3
  have HB := qd hb
  clear h3 hb
  by_cases hlt : k < s.size
  · obtain ⟨j, hjk⟩ : ∃ j, j + 1 = k := ⟨k - 1, by omega⟩
    have hj : j < s.size := by omega
    have hw : IntKind.i64.wrap ((k : Int) - 1) = (j : Int) := by rw [IntKind.wrap_i64]; omega
    have hj0 : (0 : Int) ≤ j := by omega
    have hj1 : (j : Int) < s.size := by omega
    have hk0 : (0 : Int) ≤ (k : Int) := by omega
    have hk1 : (k : Int) < s.size := by omega
    have HN := qd (fun hc => asc_next hjk hlt hj H3.out hc)
    have HQ := qd (fun hc => asc_no hjk hlt hj hc)
    clear hjk
    by_cases hc : s[k].toNat ≤ s[j].toNat
    · go_wp2_with fail
      go_quiet (fail)
      go_wp2_with fail
      go_ret
      exact ⟨ret_bool (by rw [HQ.out hc]; rfl), belowK HB.out _⟩
    · go_wp2_with fail
      go_quiet (fail)
      go_wp2_with fail
      go_roundw
      case rel => exact ⟨k + 1, by omega, by omega, by go_num, HN.out hc, belowK HB.out _⟩
      case measure => simp [intOf]; omega
  · have ha : RT.asc s.data.toList = true := by
        by_cases c : 1 < s.size
        · have h4 := H3.out
          rwa [take_all s k (by omega)] at h4
        · exact asc_one c
    have HA := qd ha
    clear ha
    go_wp2_with fail
    refine (in_any _ _ _ _).mono ?_
    rintro e w1 ⟨rfl, rfl⟩
    go_wp2_with fail
    go_ret
    exact ⟨ret_bool (by rw [HA.out, asc_in HA.out]; rfl), HB.out⟩
def timB (lo hi : Int) : Bool := decide (0 ≤ lo) && decide (lo ≤ 9) && (decide (hi = -1) || decide (lo ≤ hi) && decide (hi ≤ 9))
set_option maxRecDepth 100000 in
set_option maxHeartbeats 1000000 in
theorem timesOk_any (lo hi : Int) (w : World) :
 Calls Tryz.prog 66 #[.int .i64 lo, .int .i64 hi] w fun e w' => e = .returned (.bool (timB lo hi)) ∧ w = w' := by
 by_cases c : hi = -1
 · go_enter Tryz.func66, Tryz.ntmps66
   go_wp2
   all_goals
    go_ret
    exact ⟨ret_bool (by simp [timB, *] <;> omega), rfl⟩
 · have c' : (hi == -1) = false := by simp [c]
   go_enter Tryz.func66, Tryz.ntmps66
   go_wp2
   all_goals
    go_ret
    exact ⟨ret_bool (by simp [timB, *] <;> omega), rfl⟩
def ownB (k : Int) (A E n : Bool) (lo hi : Int) (m : Nat) : Bool :=
 if (k == 0 || k == 1 || k == 6 || k == 7) = true then (decide (lo = 0) && decide (hi = 0)) && (E && !n) && ((m : Int) == 0)
 else if (k == 2) = true then (decide (lo = 0) && decide (hi = 0)) && (A && !E) && ((m : Int) == 0)
 else if (k == 3 || k == 4) = true then (decide (lo = 0) && decide (hi = 0)) && (E && !n) && ((m : Int) == 2)
 else if (k == 5) = true then (E && !n) && decide ((m : Int) = 1) && (decide (0 ≤ lo) && decide (lo ≤ 9)) && (decide (hi = -1) || decide (lo ≤ hi) && decide (hi ≤ 9))
 else false
theorem own_eq (k : Int) (s : ByteArray) (n : Bool) (lo hi : Int) (ts : List RT) : RT.own (.node k s n lo hi ts) = ownB k (RT.asc s.data.toList) s.data.toList.isEmpty n lo hi ts.length := by
 have z : ∀ x y : Int, (x == y) = decide (x = y) := fun x y => by rw [Bool.eq_iff_iff]; simp only [beq_iff_eq, decide_eq_true_eq]
 have h0 : (ts.length == 0) = decide ((ts.length : Int) = 0) := by rw [Bool.eq_iff_iff]; simp only [beq_iff_eq, decide_eq_true_eq]; omega
 have h1 : (ts.length == 1) = decide ((ts.length : Int) = 1) := by rw [Bool.eq_iff_iff]; simp only [beq_iff_eq, decide_eq_true_eq]; omega
 have h2 : (ts.length == 2) = decide ((ts.length : Int) = 2) := by rw [Bool.eq_iff_iff]; simp only [beq_iff_eq, decide_eq_true_eq]; omega
 simp only [RT.own, RT.kind, RT.set, RT.neg, RT.low, RT.high, RT.kids, ownB, h0, h1, h2, z, Bool.or_eq_true, decide_eq_true_eq, or_assoc, Bool.and_assoc]
 by_cases a1 : k = 0 ∨ k = 1 ∨ k = 6 ∨ k = 7
 · rw [if_pos a1, if_pos a1]
 · rw [if_neg a1, if_neg a1]
   by_cases a2 : k = 2
   · rw [if_pos a2, if_pos a2]
   · rw [if_neg a2, if_neg a2]
     by_cases a3 : k = 3 ∨ k = 4
     · rw [if_pos a3, if_pos a3]
     · rw [if_neg a3, if_neg a3]
       by_cases a4 : k = 5
       · rw [if_pos a4, if_pos a4]; congr
       · rw [if_neg a4, if_neg a4]
set_option maxRecDepth 100000 in
set_option maxHeartbeats 4000000 in
theorem l04Own0 (k : Int) (s : ByteArray) (lo hi : Int) (m : Nat) (a : Option Addr) (cap : Nat) (w : World) (hs : s.size ≤ 1048576) (hl : m ≤ 1048576) (c1 : lo = 0) (c2 : hi = 0) (c3 : s.toList.isEmpty = true) :
 Calls Tryz.prog 69 #[.agg #[.int .i64 k, .string s, .bool false, .int .i64 lo, .int .i64 hi, .slice a m cap]] w fun e w' => e = .returned (.bool (ownB k (RT.asc s.data.toList) s.data.toList.isEmpty false lo hi m)) ∧ Below w.heap.size w w' := by
 have C4 := qd (show s.data.toList.isEmpty = _ from (isE s).symm.trans c3)
 have HB := qd (show ∀ o, Below w.heap.size w (w.alloc o) from fun o => (Below.refl w.heap.size w).alloc (Nat.le_refl _) _)
 have HS := qd (fun W => l04Set_any s W hs)
 go_enter Tryz.func69, Tryz.ntmps69
 go_wp2_with (first | (go_at_call 72; refine (HS.out _).mono ?_; rintro e w1 ⟨rfl, hb1⟩; obtain ⟨hc1, hf1⟩ := bcellR hb1) | (go_at_call 52; refine (in_any _ _ _ _).mono ?_; rintro e w1 ⟨rfl, rfl⟩))
 all_goals
  go_ret
  have c4 := C4.out
  first
  | exact ⟨ret_bool (by simp [ownB, *] <;> simp_all), HB.out _⟩
  | exact ⟨ret_bool (by simp [ownB, *] <;> simp_all), (HB.out _).trans (Below.mono (show Below _ _ _ by assumption) (HB.out _).size)⟩
set_option maxRecDepth 100000 in
set_option maxHeartbeats 4000000 in
theorem l04Own1 (k : Int) (s : ByteArray) (lo hi : Int) (m : Nat) (a : Option Addr) (cap : Nat) (w : World) (hs : s.size ≤ 1048576) (hl : m ≤ 1048576) (c1 : lo = 0) (c2 : hi = 0) (c3 : s.toList.isEmpty = true) :
 Calls Tryz.prog 69 #[.agg #[.int .i64 k, .string s, .bool true, .int .i64 lo, .int .i64 hi, .slice a m cap]] w fun e w' => e = .returned (.bool (ownB k (RT.asc s.data.toList) s.data.toList.isEmpty true lo hi m)) ∧ Below w.heap.size w w' := by
 have C4 := qd (show s.data.toList.isEmpty = _ from (isE s).symm.trans c3)
 have HB := qd (show ∀ o, Below w.heap.size w (w.alloc o) from fun o => (Below.refl w.heap.size w).alloc (Nat.le_refl _) _)
 have HS := qd (fun W => l04Set_any s W hs)
 go_enter Tryz.func69, Tryz.ntmps69
 go_wp2_with (first | (go_at_call 72; refine (HS.out _).mono ?_; rintro e w1 ⟨rfl, hb1⟩; obtain ⟨hc1, hf1⟩ := bcellR hb1) | (go_at_call 52; refine (in_any _ _ _ _).mono ?_; rintro e w1 ⟨rfl, rfl⟩))
 all_goals
  go_ret
  have c4 := C4.out
  first
  | exact ⟨ret_bool (by simp [ownB, *] <;> simp_all), HB.out _⟩
  | exact ⟨ret_bool (by simp [ownB, *] <;> simp_all), (HB.out _).trans (Below.mono (show Below _ _ _ by assumption) (HB.out _).size)⟩
set_option maxRecDepth 100000 in
set_option maxHeartbeats 4000000 in
theorem l04Own2 (k : Int) (s : ByteArray) (n : Bool) (lo hi : Int) (m : Nat) (a : Option Addr) (cap : Nat) (w : World) (hs : s.size ≤ 1048576) (hl : m ≤ 1048576) (c1 : lo = 0) (c2 : hi = 0) (c3 : s.toList.isEmpty = false) :
 Calls Tryz.prog 69 #[.agg #[.int .i64 k, .string s, .bool n, .int .i64 lo, .int .i64 hi, .slice a m cap]] w fun e w' => e = .returned (.bool (ownB k (RT.asc s.data.toList) s.data.toList.isEmpty n lo hi m)) ∧ Below w.heap.size w w' := by
 have C4 := qd (show s.data.toList.isEmpty = _ from (isE s).symm.trans c3)
 have HB := qd (show ∀ o, Below w.heap.size w (w.alloc o) from fun o => (Below.refl w.heap.size w).alloc (Nat.le_refl _) _)
 have HS := qd (fun W => l04Set_any s W hs)
 go_enter Tryz.func69, Tryz.ntmps69
 go_wp2_with (first | (go_at_call 72; refine (HS.out _).mono ?_; rintro e w1 ⟨rfl, hb1⟩; obtain ⟨hc1, hf1⟩ := bcellR hb1) | (go_at_call 52; refine (in_any _ _ _ _).mono ?_; rintro e w1 ⟨rfl, rfl⟩))
 all_goals
  go_ret
  have c4 := C4.out
  first
  | exact ⟨ret_bool (by simp [ownB, *] <;> simp_all), HB.out _⟩
  | exact ⟨ret_bool (by simp [ownB, *] <;> simp_all), (HB.out _).trans (Below.mono (show Below _ _ _ by assumption) (HB.out _).size)⟩
set_option maxRecDepth 100000 in
set_option maxHeartbeats 4000000 in
theorem l04Own3 (k : Int) (s : ByteArray) (lo hi : Int) (m : Nat) (a : Option Addr) (cap : Nat) (w : World) (hs : s.size ≤ 1048576) (hl : m ≤ 1048576) (c1 : lo = 0) (c2 : ¬ hi = 0) (c3 : s.toList.isEmpty = true) :
 Calls Tryz.prog 69 #[.agg #[.int .i64 k, .string s, .bool false, .int .i64 lo, .int .i64 hi, .slice a m cap]] w fun e w' => e = .returned (.bool (ownB k (RT.asc s.data.toList) s.data.toList.isEmpty false lo hi m)) ∧ Below w.heap.size w w' := by
 have C4 := qd (show s.data.toList.isEmpty = _ from (isE s).symm.trans c3)
 have HB := qd (show ∀ o, Below w.heap.size w (w.alloc o) from fun o => (Below.refl w.heap.size w).alloc (Nat.le_refl _) _)
 have HS := qd (fun W => l04Set_any s W hs)
 go_enter Tryz.func69, Tryz.ntmps69
 go_wp2_with (first | (go_at_call 72; refine (HS.out _).mono ?_; rintro e w1 ⟨rfl, hb1⟩; obtain ⟨hc1, hf1⟩ := bcellR hb1) | (go_at_call 52; refine (in_any _ _ _ _).mono ?_; rintro e w1 ⟨rfl, rfl⟩))
 all_goals
  go_ret
  have c4 := C4.out
  first
  | exact ⟨ret_bool (by simp [ownB, *] <;> simp_all [inB] <;> omega), HB.out _⟩
  | exact ⟨ret_bool (by simp [ownB, *] <;> simp_all [inB] <;> omega), (HB.out _).trans (Below.mono (show Below _ _ _ by assumption) (HB.out _).size)⟩
set_option maxRecDepth 100000 in
set_option maxHeartbeats 4000000 in
theorem l04Own4 (k : Int) (s : ByteArray) (lo hi : Int) (m : Nat) (a : Option Addr) (cap : Nat) (w : World) (hs : s.size ≤ 1048576) (hl : m ≤ 1048576) (c1 : lo = 0) (c2 : ¬ hi = 0) (c3 : s.toList.isEmpty = true) :
 Calls Tryz.prog 69 #[.agg #[.int .i64 k, .string s, .bool true, .int .i64 lo, .int .i64 hi, .slice a m cap]] w fun e w' => e = .returned (.bool (ownB k (RT.asc s.data.toList) s.data.toList.isEmpty true lo hi m)) ∧ Below w.heap.size w w' := by
 have C4 := qd (show s.data.toList.isEmpty = _ from (isE s).symm.trans c3)
 have HB := qd (show ∀ o, Below w.heap.size w (w.alloc o) from fun o => (Below.refl w.heap.size w).alloc (Nat.le_refl _) _)
 have HS := qd (fun W => l04Set_any s W hs)
 go_enter Tryz.func69, Tryz.ntmps69
 go_wp2_with (first | (go_at_call 72; refine (HS.out _).mono ?_; rintro e w1 ⟨rfl, hb1⟩; obtain ⟨hc1, hf1⟩ := bcellR hb1) | (go_at_call 52; refine (in_any _ _ _ _).mono ?_; rintro e w1 ⟨rfl, rfl⟩))
 all_goals
  go_ret
  have c4 := C4.out
  first
  | exact ⟨ret_bool (by simp [ownB, *] <;> simp_all), HB.out _⟩
  | exact ⟨ret_bool (by simp [ownB, *] <;> simp_all), (HB.out _).trans (Below.mono (show Below _ _ _ by assumption) (HB.out _).size)⟩
set_option maxRecDepth 100000 in
set_option maxHeartbeats 4000000 in
theorem l04Own5 (k : Int) (s : ByteArray) (n : Bool) (lo hi : Int) (m : Nat) (a : Option Addr) (cap : Nat) (w : World) (hs : s.size ≤ 1048576) (hl : m ≤ 1048576) (c1 : lo = 0) (c2 : ¬ hi = 0) (c3 : s.toList.isEmpty = false) :
 Calls Tryz.prog 69 #[.agg #[.int .i64 k, .string s, .bool n, .int .i64 lo, .int .i64 hi, .slice a m cap]] w fun e w' => e = .returned (.bool (ownB k (RT.asc s.data.toList) s.data.toList.isEmpty n lo hi m)) ∧ Below w.heap.size w w' := by
 have C4 := qd (show s.data.toList.isEmpty = _ from (isE s).symm.trans c3)
 have HB := qd (show ∀ o, Below w.heap.size w (w.alloc o) from fun o => (Below.refl w.heap.size w).alloc (Nat.le_refl _) _)
 have HS := qd (fun W => l04Set_any s W hs)
 go_enter Tryz.func69, Tryz.ntmps69
 go_wp2_with (first | (go_at_call 72; refine (HS.out _).mono ?_; rintro e w1 ⟨rfl, hb1⟩; obtain ⟨hc1, hf1⟩ := bcellR hb1) | (go_at_call 52; refine (in_any _ _ _ _).mono ?_; rintro e w1 ⟨rfl, rfl⟩))
 all_goals
  go_ret
  have c4 := C4.out
  first
  | exact ⟨ret_bool (by simp [ownB, *] <;> simp_all), HB.out _⟩
  | exact ⟨ret_bool (by simp [ownB, *] <;> simp_all), (HB.out _).trans (Below.mono (show Below _ _ _ by assumption) (HB.out _).size)⟩
set_option maxRecDepth 100000 in
set_option maxHeartbeats 4000000 in
theorem l04Own6 (k : Int) (s : ByteArray) (lo hi : Int) (m : Nat) (a : Option Addr) (cap : Nat) (w : World) (hs : s.size ≤ 1048576) (hl : m ≤ 1048576) (c1 : ¬ lo = 0) (c3 : s.toList.isEmpty = true) :
 Calls Tryz.prog 69 #[.agg #[.int .i64 k, .string s, .bool false, .int .i64 lo, .int .i64 hi, .slice a m cap]] w fun e w' => e = .returned (.bool (ownB k (RT.asc s.data.toList) s.data.toList.isEmpty false lo hi m)) ∧ Below w.heap.size w w' := by
 have C4 := qd (show s.data.toList.isEmpty = _ from (isE s).symm.trans c3)
 have HB := qd (show ∀ o, Below w.heap.size w (w.alloc o) from fun o => (Below.refl w.heap.size w).alloc (Nat.le_refl _) _)
 have HS := qd (fun W => l04Set_any s W hs)
 go_enter Tryz.func69, Tryz.ntmps69
 go_wp2_with (first | (go_at_call 72; refine (HS.out _).mono ?_; rintro e w1 ⟨rfl, hb1⟩; obtain ⟨hc1, hf1⟩ := bcellR hb1) | (go_at_call 52; refine (in_any _ _ _ _).mono ?_; rintro e w1 ⟨rfl, rfl⟩))
 all_goals
  go_ret
  have c4 := C4.out
  first
  | exact ⟨ret_bool (by simp [ownB, *] <;> simp_all [inB] <;> omega), HB.out _⟩
  | exact ⟨ret_bool (by simp [ownB, *] <;> simp_all [inB] <;> omega), (HB.out _).trans (Below.mono (show Below _ _ _ by assumption) (HB.out _).size)⟩
set_option maxRecDepth 100000 in
set_option maxHeartbeats 4000000 in
theorem l04Own7 (k : Int) (s : ByteArray) (lo hi : Int) (m : Nat) (a : Option Addr) (cap : Nat) (w : World) (hs : s.size ≤ 1048576) (hl : m ≤ 1048576) (c1 : ¬ lo = 0) (c3 : s.toList.isEmpty = true) :
 Calls Tryz.prog 69 #[.agg #[.int .i64 k, .string s, .bool true, .int .i64 lo, .int .i64 hi, .slice a m cap]] w fun e w' => e = .returned (.bool (ownB k (RT.asc s.data.toList) s.data.toList.isEmpty true lo hi m)) ∧ Below w.heap.size w w' := by
 have C4 := qd (show s.data.toList.isEmpty = _ from (isE s).symm.trans c3)
 have HB := qd (show ∀ o, Below w.heap.size w (w.alloc o) from fun o => (Below.refl w.heap.size w).alloc (Nat.le_refl _) _)
 have HS := qd (fun W => l04Set_any s W hs)
 go_enter Tryz.func69, Tryz.ntmps69
 go_wp2_with (first | (go_at_call 72; refine (HS.out _).mono ?_; rintro e w1 ⟨rfl, hb1⟩; obtain ⟨hc1, hf1⟩ := bcellR hb1) | (go_at_call 52; refine (in_any _ _ _ _).mono ?_; rintro e w1 ⟨rfl, rfl⟩))
 all_goals
  go_ret
  have c4 := C4.out
  first
  | exact ⟨ret_bool (by simp [ownB, *] <;> simp_all), HB.out _⟩
  | exact ⟨ret_bool (by simp [ownB, *] <;> simp_all), (HB.out _).trans (Below.mono (show Below _ _ _ by assumption) (HB.out _).size)⟩
set_option maxRecDepth 100000 in
set_option maxHeartbeats 4000000 in
theorem l04Own8 (k : Int) (s : ByteArray) (n : Bool) (lo hi : Int) (m : Nat) (a : Option Addr) (cap : Nat) (w : World) (hs : s.size ≤ 1048576) (hl : m ≤ 1048576) (c1 : ¬ lo = 0) (c3 : s.toList.isEmpty = false) :
 Calls Tryz.prog 69 #[.agg #[.int .i64 k, .string s, .bool n, .int .i64 lo, .int .i64 hi, .slice a m cap]] w fun e w' => e = .returned (.bool (ownB k (RT.asc s.data.toList) s.data.toList.isEmpty n lo hi m)) ∧ Below w.heap.size w w' := by
 have C4 := qd (show s.data.toList.isEmpty = _ from (isE s).symm.trans c3)
 have HB := qd (show ∀ o, Below w.heap.size w (w.alloc o) from fun o => (Below.refl w.heap.size w).alloc (Nat.le_refl _) _)
 have HS := qd (fun W => l04Set_any s W hs)
 go_enter Tryz.func69, Tryz.ntmps69
 go_wp2_with (first | (go_at_call 72; refine (HS.out _).mono ?_; rintro e w1 ⟨rfl, hb1⟩; obtain ⟨hc1, hf1⟩ := bcellR hb1) | (go_at_call 52; refine (in_any _ _ _ _).mono ?_; rintro e w1 ⟨rfl, rfl⟩))
 all_goals
  go_ret
  have c4 := C4.out
  first
  | exact ⟨ret_bool (by simp [ownB, *] <;> simp_all), HB.out _⟩
  | exact ⟨ret_bool (by simp [ownB, *] <;> simp_all), (HB.out _).trans (Below.mono (show Below _ _ _ by assumption) (HB.out _).size)⟩
theorem l04Own_any (k : Int) (s : ByteArray) (n : Bool) (lo hi : Int) (m : Nat) (a : Option Addr) (cap : Nat) (w : World) (hs : s.size ≤ 1048576) (hl : m ≤ 1048576) :
 Calls Tryz.prog 69 #[.agg #[.int .i64 k, .string s, .bool n, .int .i64 lo, .int .i64 hi, .slice a m cap]] w fun e w' => e = .returned (.bool (ownB k (RT.asc s.data.toList) s.data.toList.isEmpty n lo hi m)) ∧ Below w.heap.size w w' := by
 by_cases c1 : lo = 0
 · by_cases c2 : hi = 0
   · cases c3 : s.toList.isEmpty
     · exact l04Own2 k s n lo hi m a cap w hs hl c1 c2 c3
     · cases n
       · exact l04Own0 k s lo hi m a cap w hs hl c1 c2 c3
       · exact l04Own1 k s lo hi m a cap w hs hl c1 c2 c3
   · cases c3 : s.toList.isEmpty
     · exact l04Own5 k s n lo hi m a cap w hs hl c1 c2 c3
     · cases n
       · exact l04Own3 k s lo hi m a cap w hs hl c1 c2 c3
       · exact l04Own4 k s lo hi m a cap w hs hl c1 c2 c3
 · cases c3 : s.toList.isEmpty
   · exact l04Own8 k s n lo hi m a cap w hs hl c1 c3
   · cases n
     · exact l04Own6 k s lo hi m a cap w hs hl c1 c3
     · exact l04Own7 k s lo hi m a cap w hs hl c1 c3
set_option maxRecDepth 100000 in
set_option maxHeartbeats 4000000 in
theorem partOk0 (k : Int) (s : ByteArray) (lo hi : Int) (m : Nat) (a : Option Addr) (cap : Nat) (w : World) (hs : s.size ≤ 1048576) (hl : m ≤ 1048576) (c1 : lo = 0) (c2 : hi = 0) (c3 : s.toList.isEmpty = true) :
 Calls Tryz.prog 56 #[.agg #[.int .i64 k, .string s, .bool false, .int .i64 lo, .int .i64 hi, .slice a m cap]] w fun e w' => e = .returned (.bool (ownB k (RT.asc s.data.toList) s.data.toList.isEmpty false lo hi m)) ∧ Below w.heap.size w w' := by
 have C4 := qd (show s.data.toList.isEmpty = _ from (isE s).symm.trans c3)
 have HB := qd (show ∀ o, Below w.heap.size w (w.alloc o) from fun o => (Below.refl w.heap.size w).alloc (Nat.le_refl _) _)
 have HS := qd (fun W => ascends_any s W hs)
 go_enter Tryz.func56, Tryz.ntmps56
 go_wp2_with fail
 go_quiet (fail)
 go_wp2_with (first | (go_at_call 65; refine (HS.out _).mono ?_; rintro e w1 ⟨rfl, hb1⟩; obtain ⟨hc1, hf1⟩ := bcellR hb1) | (go_at_call 66; refine (timesOk_any _ _ _).mono ?_; rintro e w1 ⟨rfl, rfl⟩))
 all_goals
  go_ret
  have c4 := C4.out
  first
  | exact ⟨ret_bool (by simp [ownB, timB, *] <;> simp_all), belowK (HB.out _) _⟩
  | exact ⟨ret_bool (by simp [ownB, *] <;> simp_all), (belowK (HB.out _) _).trans (Below.mono (show Below _ _ _ by assumption) (belowK (HB.out _) _).size)⟩
set_option maxRecDepth 100000 in
set_option maxHeartbeats 4000000 in
theorem partOk1 (k : Int) (s : ByteArray) (lo hi : Int) (m : Nat) (a : Option Addr) (cap : Nat) (w : World) (hs : s.size ≤ 1048576) (hl : m ≤ 1048576) (c1 : lo = 0) (c2 : hi = 0) (c3 : s.toList.isEmpty = true) :
 Calls Tryz.prog 56 #[.agg #[.int .i64 k, .string s, .bool true, .int .i64 lo, .int .i64 hi, .slice a m cap]] w fun e w' => e = .returned (.bool (ownB k (RT.asc s.data.toList) s.data.toList.isEmpty true lo hi m)) ∧ Below w.heap.size w w' := by
 have C4 := qd (show s.data.toList.isEmpty = _ from (isE s).symm.trans c3)
 have HB := qd (show ∀ o, Below w.heap.size w (w.alloc o) from fun o => (Below.refl w.heap.size w).alloc (Nat.le_refl _) _)
 have HS := qd (fun W => ascends_any s W hs)
 go_enter Tryz.func56, Tryz.ntmps56
 go_wp2_with fail
 go_quiet (fail)
 go_wp2_with (first | (go_at_call 65; refine (HS.out _).mono ?_; rintro e w1 ⟨rfl, hb1⟩; obtain ⟨hc1, hf1⟩ := bcellR hb1) | (go_at_call 66; refine (timesOk_any _ _ _).mono ?_; rintro e w1 ⟨rfl, rfl⟩))
 all_goals
  go_ret
  have c4 := C4.out
  first
  | exact ⟨ret_bool (by simp [ownB, *] <;> simp_all), belowK (HB.out _) _⟩
  | exact ⟨ret_bool (by simp [ownB, *] <;> simp_all), (belowK (HB.out _) _).trans (Below.mono (show Below _ _ _ by assumption) (belowK (HB.out _) _).size)⟩
set_option maxRecDepth 100000 in
set_option maxHeartbeats 4000000 in
theorem partOk2 (k : Int) (s : ByteArray) (n : Bool) (lo hi : Int) (m : Nat) (a : Option Addr) (cap : Nat) (w : World) (hs : s.size ≤ 1048576) (hl : m ≤ 1048576) (c1 : lo = 0) (c2 : hi = 0) (c3 : s.toList.isEmpty = false) :
 Calls Tryz.prog 56 #[.agg #[.int .i64 k, .string s, .bool n, .int .i64 lo, .int .i64 hi, .slice a m cap]] w fun e w' => e = .returned (.bool (ownB k (RT.asc s.data.toList) s.data.toList.isEmpty n lo hi m)) ∧ Below w.heap.size w w' := by
 have C4 := qd (show s.data.toList.isEmpty = _ from (isE s).symm.trans c3)
 have HB := qd (show ∀ o, Below w.heap.size w (w.alloc o) from fun o => (Below.refl w.heap.size w).alloc (Nat.le_refl _) _)
 have HS := qd (fun W => ascends_any s W hs)
 go_enter Tryz.func56, Tryz.ntmps56
 go_wp2_with fail
 go_quiet (fail)
 go_wp2_with (first | (go_at_call 65; refine (HS.out _).mono ?_; rintro e w1 ⟨rfl, hb1⟩; obtain ⟨hc1, hf1⟩ := bcellR hb1) | (go_at_call 66; refine (timesOk_any _ _ _).mono ?_; rintro e w1 ⟨rfl, rfl⟩))
 all_goals
  go_ret
  have c4 := C4.out
  first
  | exact ⟨ret_bool (by simp [ownB, *] <;> simp_all), belowK (HB.out _) _⟩
  | exact ⟨ret_bool (by simp [ownB, *] <;> simp_all), (belowK (HB.out _) _).trans (Below.mono (show Below _ _ _ by assumption) (belowK (HB.out _) _).size)⟩
set_option maxRecDepth 100000 in
set_option maxHeartbeats 4000000 in
theorem partOk3 (k : Int) (s : ByteArray) (lo hi : Int) (m : Nat) (a : Option Addr) (cap : Nat) (w : World) (hs : s.size ≤ 1048576) (hl : m ≤ 1048576) (c1 : lo = 0) (c2 : ¬ hi = 0) (c3 : s.toList.isEmpty = true) :
 Calls Tryz.prog 56 #[.agg #[.int .i64 k, .string s, .bool false, .int .i64 lo, .int .i64 hi, .slice a m cap]] w fun e w' => e = .returned (.bool (ownB k (RT.asc s.data.toList) s.data.toList.isEmpty false lo hi m)) ∧ Below w.heap.size w w' := by
 have C4 := qd (show s.data.toList.isEmpty = _ from (isE s).symm.trans c3)
 have HB := qd (show ∀ o, Below w.heap.size w (w.alloc o) from fun o => (Below.refl w.heap.size w).alloc (Nat.le_refl _) _)
 have HS := qd (fun W => ascends_any s W hs)
 go_enter Tryz.func56, Tryz.ntmps56
 go_wp2_with fail
 go_quiet (fail)
 go_wp2_with (first | (go_at_call 65; refine (HS.out _).mono ?_; rintro e w1 ⟨rfl, hb1⟩; obtain ⟨hc1, hf1⟩ := bcellR hb1) | (go_at_call 66; refine (timesOk_any _ _ _).mono ?_; rintro e w1 ⟨rfl, rfl⟩))
 all_goals
  go_ret
  have c4 := C4.out
  first
  | exact ⟨ret_bool (by simp [ownB, timB, *] <;> simp_all), belowK (HB.out _) _⟩
  | exact ⟨ret_bool (by simp [ownB, *] <;> simp_all), (belowK (HB.out _) _).trans (Below.mono (show Below _ _ _ by assumption) (belowK (HB.out _) _).size)⟩
set_option maxRecDepth 100000 in
set_option maxHeartbeats 4000000 in
theorem partOk4 (k : Int) (s : ByteArray) (lo hi : Int) (m : Nat) (a : Option Addr) (cap : Nat) (w : World) (hs : s.size ≤ 1048576) (hl : m ≤ 1048576) (c1 : lo = 0) (c2 : ¬ hi = 0) (c3 : s.toList.isEmpty = true) :
 Calls Tryz.prog 56 #[.agg #[.int .i64 k, .string s, .bool true, .int .i64 lo, .int .i64 hi, .slice a m cap]] w fun e w' => e = .returned (.bool (ownB k (RT.asc s.data.toList) s.data.toList.isEmpty true lo hi m)) ∧ Below w.heap.size w w' := by
 have C4 := qd (show s.data.toList.isEmpty = _ from (isE s).symm.trans c3)
 have HB := qd (show ∀ o, Below w.heap.size w (w.alloc o) from fun o => (Below.refl w.heap.size w).alloc (Nat.le_refl _) _)
 have HS := qd (fun W => ascends_any s W hs)
 go_enter Tryz.func56, Tryz.ntmps56
 go_wp2_with fail
 go_quiet (fail)
 go_wp2_with (first | (go_at_call 65; refine (HS.out _).mono ?_; rintro e w1 ⟨rfl, hb1⟩; obtain ⟨hc1, hf1⟩ := bcellR hb1) | (go_at_call 66; refine (timesOk_any _ _ _).mono ?_; rintro e w1 ⟨rfl, rfl⟩))
 all_goals
  go_ret
  have c4 := C4.out
  first
  | exact ⟨ret_bool (by simp [ownB, *] <;> simp_all), belowK (HB.out _) _⟩
  | exact ⟨ret_bool (by simp [ownB, *] <;> simp_all), (belowK (HB.out _) _).trans (Below.mono (show Below _ _ _ by assumption) (belowK (HB.out _) _).size)⟩
set_option maxRecDepth 100000 in
set_option maxHeartbeats 4000000 in
theorem partOk5 (k : Int) (s : ByteArray) (n : Bool) (lo hi : Int) (m : Nat) (a : Option Addr) (cap : Nat) (w : World) (hs : s.size ≤ 1048576) (hl : m ≤ 1048576) (c1 : lo = 0) (c2 : ¬ hi = 0) (c3 : s.toList.isEmpty = false) :
 Calls Tryz.prog 56 #[.agg #[.int .i64 k, .string s, .bool n, .int .i64 lo, .int .i64 hi, .slice a m cap]] w fun e w' => e = .returned (.bool (ownB k (RT.asc s.data.toList) s.data.toList.isEmpty n lo hi m)) ∧ Below w.heap.size w w' := by
 have C4 := qd (show s.data.toList.isEmpty = _ from (isE s).symm.trans c3)
 have HB := qd (show ∀ o, Below w.heap.size w (w.alloc o) from fun o => (Below.refl w.heap.size w).alloc (Nat.le_refl _) _)
 have HS := qd (fun W => ascends_any s W hs)
 go_enter Tryz.func56, Tryz.ntmps56
 go_wp2_with fail
 go_quiet (fail)
 go_wp2_with (first | (go_at_call 65; refine (HS.out _).mono ?_; rintro e w1 ⟨rfl, hb1⟩; obtain ⟨hc1, hf1⟩ := bcellR hb1) | (go_at_call 66; refine (timesOk_any _ _ _).mono ?_; rintro e w1 ⟨rfl, rfl⟩))
 all_goals
  go_ret
  have c4 := C4.out
  first
  | exact ⟨ret_bool (by simp [ownB, *] <;> simp_all), belowK (HB.out _) _⟩
  | exact ⟨ret_bool (by simp [ownB, *] <;> simp_all), (belowK (HB.out _) _).trans (Below.mono (show Below _ _ _ by assumption) (belowK (HB.out _) _).size)⟩
set_option maxRecDepth 100000 in
set_option maxHeartbeats 4000000 in
theorem partOk6 (k : Int) (s : ByteArray) (lo hi : Int) (m : Nat) (a : Option Addr) (cap : Nat) (w : World) (hs : s.size ≤ 1048576) (hl : m ≤ 1048576) (c1 : ¬ lo = 0) (c3 : s.toList.isEmpty = true) :
 Calls Tryz.prog 56 #[.agg #[.int .i64 k, .string s, .bool false, .int .i64 lo, .int .i64 hi, .slice a m cap]] w fun e w' => e = .returned (.bool (ownB k (RT.asc s.data.toList) s.data.toList.isEmpty false lo hi m)) ∧ Below w.heap.size w w' := by
 have C4 := qd (show s.data.toList.isEmpty = _ from (isE s).symm.trans c3)
 have HB := qd (show ∀ o, Below w.heap.size w (w.alloc o) from fun o => (Below.refl w.heap.size w).alloc (Nat.le_refl _) _)
 have HS := qd (fun W => ascends_any s W hs)
 go_enter Tryz.func56, Tryz.ntmps56
 go_wp2_with fail
 go_quiet (fail)
 go_wp2_with (first | (go_at_call 65; refine (HS.out _).mono ?_; rintro e w1 ⟨rfl, hb1⟩; obtain ⟨hc1, hf1⟩ := bcellR hb1) | (go_at_call 66; refine (timesOk_any _ _ _).mono ?_; rintro e w1 ⟨rfl, rfl⟩))
 all_goals
  go_ret
  have c4 := C4.out
  first
  | exact ⟨ret_bool (by simp [ownB, timB, *] <;> simp_all), belowK (HB.out _) _⟩
  | exact ⟨ret_bool (by simp [ownB, *] <;> simp_all), (belowK (HB.out _) _).trans (Below.mono (show Below _ _ _ by assumption) (belowK (HB.out _) _).size)⟩
set_option maxRecDepth 100000 in
set_option maxHeartbeats 4000000 in
theorem partOk7 (k : Int) (s : ByteArray) (lo hi : Int) (m : Nat) (a : Option Addr) (cap : Nat) (w : World) (hs : s.size ≤ 1048576) (hl : m ≤ 1048576) (c1 : ¬ lo = 0) (c3 : s.toList.isEmpty = true) :
 Calls Tryz.prog 56 #[.agg #[.int .i64 k, .string s, .bool true, .int .i64 lo, .int .i64 hi, .slice a m cap]] w fun e w' => e = .returned (.bool (ownB k (RT.asc s.data.toList) s.data.toList.isEmpty true lo hi m)) ∧ Below w.heap.size w w' := by
 have C4 := qd (show s.data.toList.isEmpty = _ from (isE s).symm.trans c3)
 have HB := qd (show ∀ o, Below w.heap.size w (w.alloc o) from fun o => (Below.refl w.heap.size w).alloc (Nat.le_refl _) _)
 have HS := qd (fun W => ascends_any s W hs)
 go_enter Tryz.func56, Tryz.ntmps56
 go_wp2_with fail
 go_quiet (fail)
 go_wp2_with (first | (go_at_call 65; refine (HS.out _).mono ?_; rintro e w1 ⟨rfl, hb1⟩; obtain ⟨hc1, hf1⟩ := bcellR hb1) | (go_at_call 66; refine (timesOk_any _ _ _).mono ?_; rintro e w1 ⟨rfl, rfl⟩))
 all_goals
  go_ret
  have c4 := C4.out
  first
  | exact ⟨ret_bool (by simp [ownB, *] <;> simp_all), belowK (HB.out _) _⟩
  | exact ⟨ret_bool (by simp [ownB, *] <;> simp_all), (belowK (HB.out _) _).trans (Below.mono (show Below _ _ _ by assumption) (belowK (HB.out _) _).size)⟩
set_option maxRecDepth 100000 in
set_option maxHeartbeats 4000000 in
theorem partOk8 (k : Int) (s : ByteArray) (n : Bool) (lo hi : Int) (m : Nat) (a : Option Addr) (cap : Nat) (w : World) (hs : s.size ≤ 1048576) (hl : m ≤ 1048576) (c1 : ¬ lo = 0) (c3 : s.toList.isEmpty = false) :
 Calls Tryz.prog 56 #[.agg #[.int .i64 k, .string s, .bool n, .int .i64 lo, .int .i64 hi, .slice a m cap]] w fun e w' => e = .returned (.bool (ownB k (RT.asc s.data.toList) s.data.toList.isEmpty n lo hi m)) ∧ Below w.heap.size w w' := by
 have C4 := qd (show s.data.toList.isEmpty = _ from (isE s).symm.trans c3)
 have HB := qd (show ∀ o, Below w.heap.size w (w.alloc o) from fun o => (Below.refl w.heap.size w).alloc (Nat.le_refl _) _)
 have HS := qd (fun W => ascends_any s W hs)
 go_enter Tryz.func56, Tryz.ntmps56
 go_wp2_with fail
 go_quiet (fail)
 go_wp2_with (first | (go_at_call 65; refine (HS.out _).mono ?_; rintro e w1 ⟨rfl, hb1⟩; obtain ⟨hc1, hf1⟩ := bcellR hb1) | (go_at_call 66; refine (timesOk_any _ _ _).mono ?_; rintro e w1 ⟨rfl, rfl⟩))
 all_goals
  go_ret
  have c4 := C4.out
  first
  | exact ⟨ret_bool (by simp [ownB, *] <;> simp_all), belowK (HB.out _) _⟩
  | exact ⟨ret_bool (by simp [ownB, *] <;> simp_all), (belowK (HB.out _) _).trans (Below.mono (show Below _ _ _ by assumption) (belowK (HB.out _) _).size)⟩
theorem partOk_any (k : Int) (s : ByteArray) (n : Bool) (lo hi : Int) (m : Nat) (a : Option Addr) (cap : Nat) (w : World) (hs : s.size ≤ 1048576) (hl : m ≤ 1048576) :
 Calls Tryz.prog 56 #[.agg #[.int .i64 k, .string s, .bool n, .int .i64 lo, .int .i64 hi, .slice a m cap]] w fun e w' => e = .returned (.bool (ownB k (RT.asc s.data.toList) s.data.toList.isEmpty n lo hi m)) ∧ Below w.heap.size w w' := by
 by_cases c1 : lo = 0
 · by_cases c2 : hi = 0
   · cases c3 : s.toList.isEmpty
     · exact partOk2 k s n lo hi m a cap w hs hl c1 c2 c3
     · cases n
       · exact partOk0 k s lo hi m a cap w hs hl c1 c2 c3
       · exact partOk1 k s lo hi m a cap w hs hl c1 c2 c3
   · cases c3 : s.toList.isEmpty
     · exact partOk5 k s n lo hi m a cap w hs hl c1 c2 c3
     · cases n
       · exact partOk3 k s lo hi m a cap w hs hl c1 c2 c3
       · exact partOk4 k s lo hi m a cap w hs hl c1 c2 c3
 · cases c3 : s.toList.isEmpty
   · exact partOk8 k s n lo hi m a cap w hs hl c1 c3
   · cases n
     · exact partOk6 k s lo hi m a cap w hs hl c1 c3
     · exact partOk7 k s lo hi m a cap w hs hl c1 c3
theorem RT.pl_range (t : RT) (deep left : Int) (h : 0 ≤ left) : -1 ≤ RT.pl t deep left ∧ RT.pl t deep left ≤ left := by
 rcases RT.said (RT.sz t) t (Nat.le_refl _) deep left h with ⟨_, e⟩ | ⟨k, _, h1, h2, e⟩ <;> omega
theorem RT.right_range (t : RT) (deep left k : Int) (h : 0 ≤ left) (e : RT.right t deep left = some k) : 1 ≤ k ∧ k ≤ left := by
 have h1 := RT.said (RT.sz t) t (Nat.le_refl _) (12 - deep) left h
 rw [show (12 : Int) - (12 - deep) = deep by omega, e] at h1
 rcases h1 with ⟨h2, _⟩ | ⟨k', h2, h3, h4, _⟩
 · cases h2
 · injection h2 with h2; omega
theorem RT.pls_step (ts : List RT) (k : Nat) (h : k < ts.length) (deep m : Int) :
 RT.pls (ts.drop k) k deep m = if RT.pl ts[k] (if k = 0 then deep + 1 else deep) m < 0 then -1 else RT.pls (ts.drop (k + 1)) (k + 1) deep (RT.pl ts[k] (if k = 0 then deep + 1 else deep) m) := by
 rw [List.drop_eq_getElem_cons h, RT.pls]
theorem RT.pls_end (ts : List RT) (i : Nat) (deep m : Int) : RT.pls (ts.drop ts.length) i deep m = m := by rw [List.drop_length, RT.pls]
theorem RT.pl_no (t : RT) (deep left : Int) (h : left = 0 ∨ 12 < deep ∨ RT.own t = false) : RT.pl t deep left = -1 := by
 obtain ⟨k, s, n, lo, hi, ts⟩ := t
 rw [RT.pl, if_pos h]
theorem RT.pl_go (t : RT) (deep left : Int) (h : ¬ (left = 0 ∨ 12 < deep ∨ RT.own t = false)) : RT.pl t deep left = RT.pls t.kids 0 deep (left - 1) := by
 obtain ⟨k, s, n, lo, hi, ts⟩ := t
 rw [RT.pl, if_neg h, RT.kids]
def PlOne (t : RT) : Prop := ∀ (a : Option Addr) (cap : Nat) (deep left : Int) (w : World), Kids 0 w t.kids a → RT.cost t ≤ 1048576 → 0 ≤ deep → deep ≤ 13 → 0 ≤ left → left ≤ 200 →
 Calls Tryz.prog 43 #[reV t a cap, .int .i64 deep, .int .i64 left] w fun e w' => e = .returned (.int .i64 (RT.pl t deep left)) ∧ Below w.heap.size w w'
set_option maxRecDepth 100000 in
set_option maxHeartbeats 4000000 in
theorem plOne_of {t : RT} (h : ∀ u ∈ t.kids, PlOne u) : PlOne t := by
 intro a cap deep left w hk hc d0 d1 l0 l1
 have HK := qd hk
 have HS := qd h
 have hcb := RT.cost_eq t
 have hset : t.set.size ≤ 1048576 := by omega
 have hbill : RT.bill t.kids ≤ 1048576 := by omega
 have hlen : t.kids.length ≤ 1048576 := by simp only [RT.bill] at hbill; omega
 have HNO := qd (RT.pl_no t deep left)
 have HGO := qd (RT.pl_go t deep left)
 have HBL := qd hbill
 have HB := qd (show ∀ o, Below w.heap.size w (w.alloc o) from fun o => (Below.refl w.heap.size w).alloc (Nat.le_refl _) _)
 clear hk h hcb hc hbill
 obtain ⟨k, s, n, lo, hi, ts⟩ := t
 unfold reV
 simp only [RT.set, RT.kids, RT.kind, RT.neg, RT.low, RT.high] at *
 have HP := qd (fun W => partOk_any k s n lo hi ts.length a cap W hset hlen)
 rw [← own_eq] at HP
 by_cases c0 : left = 0
 · go_enter Tryz.func43, Tryz.ntmps43
   go_wp2_with fail
   go_ret
   exact ⟨ret_int (HNO.out (.inl c0)).symm, HB.out _⟩
 · have c0' : (left == 0) = false := by simp [c0]
   by_cases c1 : 12 < deep
   · go_enter Tryz.func43, Tryz.ntmps43
     go_wp2_with fail
     go_ret
     exact ⟨ret_int (HNO.out (.inr (.inl c1))).symm, HB.out _⟩
   · cases c2 : RT.own (.node k s n lo hi ts)
     · rw [c2] at HP
       go_enter Tryz.func43, Tryz.ntmps43
       go_wp2_with fail
       refine (HP.out _).mono ?_
       rintro e w1 ⟨rfl, hb1⟩
       have HB1 := qd hb1
       clear hb1
       go_wp2_with fail
       go_ret
       exact ⟨ret_int (HNO.out (.inr (.inr c2))).symm, (HB.out _).trans (HB1.out.mono (HB.out _).size)⟩
     · rw [c2] at HP
       have HE := qd (HGO.out (by rintro (d | d | d); exact c0 d; exact c1 d; rw [c2] at d; cases d))
       go_enter Tryz.func43, Tryz.ntmps43
       go_wp2_with fail
       refine (HP.out _).mono ?_
       rintro e w1 ⟨rfl, hb1⟩
       obtain ⟨hc1, hf1⟩ := bcellR hb1
       have HB1 := qd ((HB.out _).trans (hb1.mono (HB.out _).size))
       clear hb1
       go_wp2_with fail
       go_loopw [2, 26] (fun l i wr => ∃ (j : Nat) (m : Int), j ≤ ts.length ∧ i = .int .i64 (j : Int) ∧ l = .int .i64 m ∧ 0 ≤ m ∧ m ≤ 200 ∧ RT.pls (ts.drop j) j deep m = RT.pl (.node k s n lo hi ts) deep left ∧ Below w.heap.size w wr) (fun _ i _ => ts.length - (intOf i).toNat)
       case atStart => exact ⟨0, left - 1, Nat.zero_le _, rfl, by go_num, by omega, by omega, HE.out.symm, HB1.out⟩
       case round =>
        obtain ⟨j, m, hj, rfl, rfl, m0, m1, hrec, hb⟩ := hrel
        have HBB := qd hb
        have HR := qd hrec
        clear hb hrec hc1 hf1
        by_cases hlt : j < ts.length
        · obtain ⟨a', cap', he, hk'⟩ := (HK.out.kept (Nat.le_refl _) HBB.out).elem j hlt
          obtain ⟨b, o, rfl, _, hbl, e0, e1, e2, e3, e4, e5, f0, f1⟩ := he
          have HO := qd (HS.out ts[j] (List.getElem_mem hlt))
          have hcost : RT.cost ts[j] ≤ 1048576 := by
           have h1 := RT.costs_take ts j hlt
           have h2 := RT.costs_le ts (j + 1)
           have h3 := HBL.out
           simp only [RT.bill] at h3; omega
          have HSTEP := qd ((HR.out.symm.trans (RT.pls_step ts j hlt deep m)))
          generalize ts[j] = t at *
          have HK' := qd hk'
          have HBW := qd (show ∀ o, Below w.heap.size w (wr.alloc o) from fun o => HBB.out.alloc HBB.out.size _)
          clear hk'
          by_cases cj : j = 0
          · have HRG := qd (RT.pl_range t (deep + 1) m m0)
            have cj' : ((j : Int) == 0) = true := by simp [cj]
            have CJ := qd cj
            clear cj
            go_wp2_with fail
            refine (HO.out _ _ (deep + 1) m _ (HK'.out.alloc _) hcost (by omega) (by omega) m0 m1).mono ?_
            rintro e w2 ⟨rfl, hb2⟩
            have HB2 := qd ((HBW.out _).trans (hb2.mono (HBW.out _).size))
            clear hb2
            have HST := HSTEP.out
            rw [if_pos CJ.out] at HST
            have hrg := HRG.out
            generalize RT.pl t (deep + 1) m = l at *
            by_cases cl : l < 0
            · rw [if_pos cl] at HST
              have HST := qd HST
              go_wp2_with fail
              go_ret
              exact ⟨ret_int HST.out.symm, HB2.out⟩
            · rw [if_neg cl] at HST
              have HST := qd HST
              go_wp2_with fail
              go_roundw
              case rel => exact ⟨j + 1, l, by omega, by go_num, rfl, by omega, by omega, HST.out.symm, HB2.out⟩
              case measure => simp [intOf]; omega
          · have HRG := qd (RT.pl_range t deep m m0)
            have cj' : ((j : Int) == 0) = false := by simp [cj]
            go_wp2_with fail
            refine (HO.out _ _ deep m _ (HK'.out.alloc _) hcost (by omega) (by omega) m0 m1).mono ?_
            rintro e w2 ⟨rfl, hb2⟩
            have HB2 := qd ((HBW.out _).trans (hb2.mono (HBW.out _).size))
            clear hb2
            have HST := HSTEP.out
            rw [if_neg cj] at HST
            have hrg := HRG.out
            generalize RT.pl t deep m = l at *
            by_cases cl : l < 0
            · rw [if_pos cl] at HST
              have HST := qd HST
              go_wp2_with fail
              go_ret
              exact ⟨ret_int HST.out.symm, HB2.out⟩
            · rw [if_neg cl] at HST
              have HST := qd HST
              go_wp2_with fail
              go_roundw
              case rel => exact ⟨j + 1, l, by omega, by go_num, rfl, by omega, by omega, HST.out.symm, HB2.out⟩
              case measure => simp [intOf]; omega
        · obtain rfl : j = ts.length := by omega
          have HN := HR.out
          rw [RT.pls_end] at HN
          have HN := qd HN
          go_wp2_with fail
          go_ret
          exact ⟨ret_int HN.out, HBB.out⟩
theorem plAll : ∀ (N : Nat) (t : RT), RT.sz t ≤ N → PlOne t := by
 intro N
 induction N with
 | zero => intro t h; have := RT.sz_pos t; omega
 | succ N ih => intro t h; exact plOne_of fun u hu => ih u (by have := RT.sz_kid t u hu; omega)
theorem partsLeft_any (t : RT) : PlOne t := plAll _ t (Nat.le_refl _)
theorem implReOk_any (t : RT) (a : Option Addr) (cap : Nat) (w : World) (hk : Kids 0 w t.kids a) (hc : RT.cost t ≤ 1048576) :
 Calls Tryz.prog 31 #[reV t a cap] w fun e w' => e = .returned (.bool (RT.ok t)) ∧ Below w.heap.size w w' := by
 have HK := qd hk
 have HP := qd (partsLeft_any t)
 have HB := qd (show ∀ o, Below w.heap.size w (w.alloc o) from fun o => (Below.refl w.heap.size w).alloc (Nat.le_refl _) _)
 have HO := qd (show RT.ok t = decide (0 ≤ RT.pl t 0 200) from rfl)
 clear hk
 obtain ⟨k, s, n, lo, hi, ts⟩ := t
 unfold reV
 simp only [RT.set, RT.kids, RT.kind, RT.neg, RT.low, RT.high] at *
 go_enter Tryz.func31, Tryz.ntmps31
 go_wp2_with fail
 refine (HP.out a cap 0 200 _ (HK.out.alloc _) hc (by omega) (by omega) (by omega) (by omega)).mono ?_
 rintro e w1 ⟨rfl, hb1⟩
 have HB1 := qd hb1
 clear hb1
 generalize RT.pl _ _ _ = l at *
 go_wp2_with fail
 go_ret
 exact ⟨ret_bool HO.out.symm, (HB.out _).trans (HB1.out.mono (HB.out _).size)⟩
def RT.good (t : RT) : Prop := ∃ deep left : Int, 0 ≤ left ∧ 0 ≤ RT.pl t deep left
theorem RT.good_own {t : RT} (h : RT.good t) : RT.own t = true := by
 obtain ⟨d, l, h0, h1⟩ := h
 cases c : RT.own t
 · rw [RT.pl_no t d l (.inr (.inr c))] at h1; omega
 · rfl
theorem RT.good_kids {t : RT} (h : RT.good t) (u : RT) (hu : u ∈ t.kids) : RT.good u := by
 have ho := RT.good_own h
 obtain ⟨d, l, h0, h1⟩ := h
 have hc : ¬ (l = 0 ∨ 12 < d ∨ RT.own t = false) := by
  intro c; rw [RT.pl_no t d l c] at h1; omega
 rw [RT.pl_go t d l hc] at h1
 have hk := RT.own_kids t ho
 have hl : 0 ≤ l - 1 := by
  have : l ≠ 0 := fun e => hc (.inl e)
  omega
 match hts : t.kids, hk with
 | [], _ => rw [hts] at hu; cases hu
 | [a], _ =>
   rw [hts] at hu h1
   simp only [List.mem_singleton] at hu
   subst hu
   simp only [RT.pls, if_true] at h1
   by_cases c : RT.pl u (d + 1) (l - 1) < 0
   · rw [if_pos c] at h1; omega
   · exact ⟨d + 1, l - 1, hl, by omega⟩
 | [a, b], _ =>
   rw [hts] at hu h1
   simp only [RT.pls, if_true] at h1
   by_cases c : RT.pl a (d + 1) (l - 1) < 0
   · rw [if_pos c] at h1; omega
   · rw [if_neg c] at h1
     have e1 : ((0 : Nat) + 1 = 0) = False := by simp
     simp only [e1, if_false] at h1
     by_cases c2 : RT.pl b d (RT.pl a (d + 1) (l - 1)) < 0
     · rw [if_pos c2] at h1; omega
     · rcases List.mem_cons.1 hu with rfl | hu
       · exact ⟨d + 1, l - 1, hl, by omega⟩
       · simp only [List.mem_singleton] at hu
         subst hu
         exact ⟨d, RT.pl a (d + 1) (l - 1), by omega, by omega⟩
theorem RT.ok_good {t : RT} (h : RT.ok t = true) : RT.good t := ⟨0, 200, by omega, by simpa [RT.ok] using h⟩
theorem RT.own_shape {k : Int} {s : ByteArray} {n : Bool} {lo hi : Int} {ts : List RT} (h : RT.own (.node k s n lo hi ts) = true) :
 ((k = 0 ∨ k = 1 ∨ k = 6 ∨ k = 7 ∨ k = 2) ∧ ts = []) ∨ ((k = 3 ∨ k = 4) ∧ ∃ x y, ts = [x, y]) ∨ (k = 5 ∧ ∃ x, ts = [x]) := by
 rw [own_eq] at h
 unfold ownB at h
 have hz : ∀ m : Int, ((ts.length : Int) == m) = true → (ts.length : Int) = m := fun m h => by simpa using h
 by_cases a1 : (k == 0 || k == 1 || k == 6 || k == 7) = true
 · rw [if_pos a1] at h
   simp only [Bool.and_eq_true] at h
   have h1 := hz 0 h.2
   simp only [Bool.or_eq_true, beq_iff_eq] at a1
   exact .inl ⟨by omega, List.length_eq_zero_iff.1 (by omega)⟩
 · rw [if_neg a1] at h
   by_cases a2 : (k == 2) = true
   · rw [if_pos a2] at h
     simp only [Bool.and_eq_true] at h
     have h1 := hz 0 h.2
     simp only [beq_iff_eq] at a2
     exact .inl ⟨by omega, List.length_eq_zero_iff.1 (by omega)⟩
   · rw [if_neg a2] at h
     by_cases a3 : (k == 3 || k == 4) = true
     · rw [if_pos a3] at h
       simp only [Bool.and_eq_true] at h
       have h1 := hz 2 h.2
       simp only [Bool.or_eq_true, beq_iff_eq] at a3
       refine .inr (.inl ⟨a3, ?_⟩)
       match ts, h1 with
       | [x, y], _ => exact ⟨x, y, rfl⟩
       | [], h1 => simp at h1
       | [x], h1 => simp at h1
       | x :: y :: z :: l, h1 => simp at h1; omega
     · rw [if_neg a3] at h
       by_cases a4 : (k == 5) = true
       · rw [if_pos a4] at h
         simp only [Bool.and_eq_true, decide_eq_true_eq] at h
         have h1 := h.1.1.2
         simp only [beq_iff_eq] at a4
         refine .inr (.inr ⟨a4, ?_⟩)
         match ts, h1 with
         | [x], _ => exact ⟨x, rfl⟩
         | [], h1 => simp at h1
         | x :: y :: l, h1 => simp at h1; omega
       · rw [if_neg a4] at h
         cases h
def optV : Option Int → Value
 | none => .tuple #[.bool false, .int .i64 0]
 | some k => .tuple #[.bool true, .int .i64 k]
theorem RT.rights_step (ts : List RT) (i : Nat) (h : i < ts.length) (deep left n : Int) :
 RT.rights (ts.drop i) i deep left n = match RT.right ts[i] (if i = 1 then deep else deep - 1) (left - n) with | none => none | some k => RT.rights (ts.drop (i + 1)) (i + 1) deep left (n + k) := by
 rw [List.drop_eq_getElem_cons h, RT.rights]
 cases RT.right ts[i] (if i = 1 then deep else deep - 1) (left - n) <;> rfl
theorem RT.rights_end (ts : List RT) (i : Nat) (deep left n : Int) : RT.rights (ts.drop ts.length) i deep left n = some n := by rw [List.drop_length, RT.rights]
theorem RT.right_no (t : RT) (deep left : Int) (h : deep < 0 ∨ left ≤ 0 ∨ RT.own t = false) : RT.right t deep left = none := by
 obtain ⟨k, s, n, lo, hi, ts⟩ := t
 rw [RT.right, if_pos h]
theorem RT.right_go (t : RT) (deep left : Int) (h : ¬ (deep < 0 ∨ left ≤ 0 ∨ RT.own t = false)) : RT.right t deep left = RT.rights t.kids 0 deep left 1 := by
 obtain ⟨k, s, n, lo, hi, ts⟩ := t
 rw [RT.right, if_neg h, RT.kids]
def RiOne (t : RT) : Prop := ∀ (a : Option Addr) (cap : Nat) (deep left : Int) (w : World), Kids 0 w t.kids a → RT.cost t ≤ 1048576 → -1 ≤ deep → deep ≤ 12 → 0 ≤ left → left ≤ 200 →
 Calls Tryz.prog 61 #[reV t a cap, .int .i64 deep, .int .i64 left] w fun e w' => e = .returned (optV (RT.right t deep left)) ∧ Below w.heap.size w w'
set_option maxRecDepth 100000 in
set_option maxHeartbeats 4000000 in
theorem riOne_of {t : RT} (h : ∀ u ∈ t.kids, RiOne u) : RiOne t := by
 intro a cap deep left w hk hc d0 d1 l0 l1
 have HK := qd hk
 have HS := qd h
 have hcb := RT.cost_eq t
 have hset : t.set.size ≤ 1048576 := by omega
 have hbill : RT.bill t.kids ≤ 1048576 := by omega
 have hlen : t.kids.length ≤ 1048576 := by simp only [RT.bill] at hbill; omega
 have HNO := qd (RT.right_no t deep left)
 have HGO := qd (RT.right_go t deep left)
 have HBL := qd hbill
 have HB := qd (show ∀ o, Below w.heap.size w (w.alloc o) from fun o => (Below.refl w.heap.size w).alloc (Nat.le_refl _) _)
 clear hk h hcb hc hbill
 obtain ⟨k, s, n, lo, hi, ts⟩ := t
 unfold reV
 simp only [RT.set, RT.kids, RT.kind, RT.neg, RT.low, RT.high] at *
 have HP := qd (fun W => l04Own_any k s n lo hi ts.length a cap W hset hlen)
 rw [← own_eq] at HP
 by_cases c0 : deep < 0
 · go_enter Tryz.func61, Tryz.ntmps61
   go_wp2_with fail
   go_ret2
   exact ⟨by rw [HNO.out (.inl c0)]; rfl, HB.out _⟩
 · by_cases c1 : left ≤ 0
   · go_enter Tryz.func61, Tryz.ntmps61
     go_wp2_with fail
     go_ret2
     exact ⟨by rw [HNO.out (.inr (.inl c1))]; rfl, HB.out _⟩
   · cases c2 : RT.own (.node k s n lo hi ts)
     · rw [c2] at HP
       go_enter Tryz.func61, Tryz.ntmps61
       go_wp2_with fail
       refine (HP.out _).mono ?_
       rintro e w1 ⟨rfl, hb1⟩
       have HB1 := qd hb1
       clear hb1
       go_wp2_with fail
       go_ret2
       exact ⟨by rw [HNO.out (.inr (.inr c2))]; rfl, (HB.out _).trans (HB1.out.mono (HB.out _).size)⟩
     · rw [c2] at HP
       have HE := qd (HGO.out (by rintro (d | d | d); exact c0 d; exact c1 d; rw [c2] at d; cases d))
       go_enter Tryz.func61, Tryz.ntmps61
       go_wp2_with fail
       refine (HP.out _).mono ?_
       rintro e w1 ⟨rfl, hb1⟩
       have HBX := qd hb1
       clear hb1
       go_wp2_with fail
       go_loopw [8, 9] (fun q i wr => ∃ (j : Nat) (m : Int), j ≤ ts.length ∧ i = .int .i64 (j : Int) ∧ q = .int .i64 m ∧ 1 ≤ m ∧ m ≤ left ∧ RT.rights (ts.drop j) j deep left m = RT.right (.node k s n lo hi ts) deep left ∧ Below (w.heap.size + 1) (w.alloc (.cells #[.int .i64 k, .string s, .bool n, .int .i64 lo, .int .i64 hi, .slice a ts.length cap] 26)) wr) (fun _ i _ => ts.length - (intOf i).toNat)
       case atStart => exact ⟨0, 1, Nat.zero_le _, rfl, rfl, by omega, by omega, HE.out.symm, by have := HBX.out; simpa using this⟩
       case round =>
        obtain ⟨j, m, hj, rfl, rfl, m0, m1, hrec, hb⟩ := hrel
        have hcell : wr.cell? ⟨w.heap.size, 5, none⟩ = some (.slice a ts.length cap) := by
           rw [hb.cell (p := ⟨w.heap.size, 5, none⟩) (by simp), World.cell?_alloc_at _ _ _ _ rfl]; rfl
        have HBW := qd ((HB.out (.cells #[.int .i64 k, .string s, .bool n, .int .i64 lo, .int .i64 hi, .slice a ts.length cap] 26)).trans (hb.mono (by omega)))
        have HBB := qd hb
        have HR := qd hrec
        clear hb hrec
        by_cases hlt : j < ts.length
        · obtain ⟨a', cap', he, hk'⟩ := (HK.out.kept (Nat.le_refl _) HBW.out).elem j hlt
          obtain ⟨b, o, rfl, _, hbl, e0, e1, e2, e3, e4, e5, f0, f1⟩ := he
          have HO := qd (HS.out ts[j] (List.getElem_mem hlt))
          have hcost : RT.cost ts[j] ≤ 1048576 := by
           have h1 := RT.costs_take ts j hlt
           have h2 := RT.costs_le ts (j + 1)
           have h3 := HBL.out
           simp only [RT.bill] at h3; omega
          have HSTEP := qd ((HR.out.symm.trans (RT.rights_step ts j hlt deep left m)))
          generalize ts[j] = t at *
          have HK' := qd hk'
          clear hk'
          by_cases cj : j = 1
          · have HRG := qd (RT.right_range t deep (left - m))
            have cj' : ((j : Int) == 1) = true := by simp [cj]
            have CJ := qd cj
            clear cj
            go_wp2_with fail
            refine (HO.out _ _ deep (left - m) _ HK'.out hcost (by omega) (by omega) (by omega) (by omega)).mono ?_
            rintro e w2 ⟨rfl, hb2⟩
            have HB2 := qd (HBB.out.trans (hb2.mono (by have := HBB.out.size; simpa using this)))
            have HB3 := qd (HBW.out.trans (hb2.mono HBW.out.size))
            clear hb2
            have HST := HSTEP.out
            rw [if_pos CJ.out] at HST
            have hrg := HRG.out
            generalize RT.right t deep (left - m) = l at *
            cases l with
            | none =>
              have HST := qd HST
              rw [show optV none = .tuple #[.bool false, .int .i64 0] from rfl]
              go_wp2_with fail
              go_ret2
              exact ⟨by rw [HST.out]; rfl, HB3.out⟩
            | some q =>
              obtain ⟨q1, q2⟩ := hrg q (by omega) rfl
              clear hrg
              have HST := qd HST
              rw [show optV (some q) = .tuple #[.bool true, .int .i64 q] from rfl]
              go_wp2_with fail
              go_roundw
              case rel => exact ⟨j + 1, m + q, by omega, by go_num, by go_num, by omega, by omega, HST.out.symm, HB2.out⟩
              case measure => simp [intOf]; omega
          · have HRG := qd (RT.right_range t (deep - 1) (left - m))
            have cj' : ((j : Int) == 1) = false := by simp only [beq_eq_false_iff_ne, ne_eq]; omega
            have CJ := qd cj
            clear cj
            go_wp2_with fail
            refine (HO.out _ _ (deep - 1) (left - m) _ HK'.out hcost (by omega) (by omega) (by omega) (by omega)).mono ?_
            rintro e w2 ⟨rfl, hb2⟩
            have HB2 := qd (HBB.out.trans (hb2.mono (by have := HBB.out.size; simpa using this)))
            have HB3 := qd (HBW.out.trans (hb2.mono HBW.out.size))
            clear hb2
            have HST := HSTEP.out
            rw [if_neg CJ.out] at HST
            have hrg := HRG.out
            generalize RT.right t (deep - 1) (left - m) = l at *
            cases l with
            | none =>
              have HST := qd HST
              rw [show optV none = .tuple #[.bool false, .int .i64 0] from rfl]
              go_wp2_with fail
              go_ret2
              exact ⟨by rw [HST.out]; rfl, HB3.out⟩
            | some q =>
              obtain ⟨q1, q2⟩ := hrg q (by omega) rfl
              clear hrg
              have HST := qd HST
              rw [show optV (some q) = .tuple #[.bool true, .int .i64 q] from rfl]
              go_wp2_with fail
              go_roundw
              case rel => exact ⟨j + 1, m + q, by omega, by go_num, by go_num, by omega, by omega, HST.out.symm, HB2.out⟩
              case measure => simp [intOf]; omega
        · obtain rfl : j = ts.length := by omega
          have HN := HR.out
          rw [RT.rights_end] at HN
          have HN := qd HN
          go_wp2_with fail
          go_ret2
          exact ⟨by rw [← HN.out]; rfl, HBW.out⟩
theorem riAll : ∀ (N : Nat) (t : RT), RT.sz t ≤ N → RiOne t := by
 intro N
 induction N with
 | zero => intro t h; have := RT.sz_pos t; omega
 | succ N ih => intro t h; exact riOne_of fun u hu => ih u (by have := RT.sz_kid t u hu; omega)
theorem l04Right_any (t : RT) : RiOne t := riAll _ t (Nat.le_refl _)
set_option maxRecDepth 100000 in
theorem specReOk_any (t : RT) (a : Option Addr) (cap : Nat) (w : World) (hk : Kids 0 w t.kids a) (hc : RT.cost t ≤ 1048576) :
 Calls Tryz.prog 53 #[reV t a cap] w fun e w' => e = .returned (.bool (RT.ok t)) ∧ Below w.heap.size w w' := by
 have HK := qd hk
 have HP := qd (l04Right_any t)
 have HB := qd (show ∀ o, Below w.heap.size w (w.alloc o) from fun o => (Below.refl w.heap.size w).alloc (Nat.le_refl _) _)
 have HO := qd (RT.right_ok t)
 clear hk
 obtain ⟨k, s, n, lo, hi, ts⟩ := t
 unfold reV
 simp only [RT.set, RT.kids, RT.kind, RT.neg, RT.low, RT.high] at *
 go_enter Tryz.func53, Tryz.ntmps53
 go_wp2_with fail
 refine (HP.out a cap 12 200 _ (HK.out.alloc _) hc (by omega) (by omega) (by omega) (by omega)).mono ?_
 rintro e w1 ⟨rfl, hb1⟩
 have HB1 := qd hb1
 clear hb1
 have ho := HO.out
 generalize RT.right _ _ _ = l at *
 cases l with
 | none =>
   have HO := qd ho
   rw [show optV none = .tuple #[.bool false, .int .i64 0] from rfl]
   go_wp2_with fail
   go_ret
   exact ⟨ret_bool HO.out, (HB.out _).trans (HB1.out.mono (HB.out _).size)⟩
 | some q =>
   have HO := qd ho
   rw [show optV (some q) = .tuple #[.bool true, .int .i64 q] from rfl]
   go_wp2_with fail
   go_ret
   exact ⟨ret_bool HO.out, (HB.out _).trans (HB1.out.mono (HB.out _).size)⟩
end Go.Proofs.YtcimhpdpfckgiaaGreatDoor.kit
