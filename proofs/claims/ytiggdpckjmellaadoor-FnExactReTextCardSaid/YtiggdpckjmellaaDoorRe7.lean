/-
  Contracts of spec.l04Own, impl.partOk and impl.timesOk over this seat's translation: whether what an expression has but its kids is right. Conditions: each theorem names its own.
-/
import Derived.Test.YtiggdpckjmellaaDoorRe6
namespace Go.Proofs.YtiggdpckjmellaaDoor.kit
open Go.ChangeShapes Go.WideShapes Go.ChangeAt Go.RowKit
set_option linter.unusedVariables false

def timB (lo hi : Int) : Bool := decide (0 ≤ lo) && decide (lo ≤ 9) && (decide (hi = -1) || decide (lo ≤ hi) && decide (hi ≤ 9))
set_option maxRecDepth 100000 in
set_option maxHeartbeats 1000000 in
theorem timesOk_any (lo hi : Int) (w : World) :
    Calls Tryd.prog 125 #[.int .i64 lo, .int .i64 hi] w fun e w' => e = .returned (.bool (timB lo hi)) ∧ w = w' := by
  by_cases c : hi = -1
  · go_enter Tryd.func125, Tryd.ntmps125
    go_wp2
    all_goals
      go_ret
      exact ⟨ret_bool (by simp [timB, *] <;> omega), rfl⟩
  · have c' : (hi == -1) = false := by simp [c]
    go_enter Tryd.func125, Tryd.ntmps125
    go_wp2
    all_goals
      go_ret
      exact ⟨ret_bool (by simp [timB, *] <;> omega), rfl⟩
/-- The same, told in the walk's own words. -/
def ownB (k : Int) (A E n : Bool) (lo hi : Int) (m : Nat) : Bool :=
  if (k == 0 || k == 1 || k == 6 || k == 7) = true then (decide (lo = 0) && decide (hi = 0)) && (E && !n) && ((m : Int) == 0)
  else if (k == 2) = true then (decide (lo = 0) && decide (hi = 0)) && (A && !E) && ((m : Int) == 0)
  else if (k == 3 || k == 4) = true then (decide (lo = 0) && decide (hi = 0)) && (E && !n) && ((m : Int) == 2)
  else if (k == 5) = true then (E && !n) && decide ((m : Int) = 1) && (decide (0 ≤ lo) && decide (lo ≤ 9)) && (decide (hi = -1) || decide (lo ≤ hi) && decide (hi ≤ 9))
  else false
theorem own_eq (k : Int) (s : ByteArray) (n : Bool) (lo hi : Int) (ts : List RT) : RT.own (.node k s n lo hi ts) = ownB k (RT.asc s.data.toList) s.data.toList.isEmpty n lo hi ts.length := by
  have z : ∀ x y : Int, (x == y) = decide (x = y) := fun x y => by rw [Bool.eq_iff_iff]; simp only [beq_iff_eq, decide_eq_true_eq]
  have h0 : (ts.length == 0) = decide ((ts.length : Int) = 0) := by rw [Bool.eq_iff_iff]; simp only [beq_iff_eq, decide_eq_true_eq]; omega
  have h1 : (ts.length == 1) = decide ((ts.length : Int) = 1) := by rw [Bool.eq_iff_iff]; simp only [beq_iff_eq, decide_eq_true_eq]; omega
  have h2 : (ts.length == 2) = decide ((ts.length : Int) = 2) := by rw [Bool.eq_iff_iff]; simp only [beq_iff_eq, decide_eq_true_eq]; omega
  simp only [RT.own, RT.kind, RT.set, RT.neg, RT.low, RT.high, RT.kids, ownB, h0, h1, h2, z, Bool.or_eq_true, decide_eq_true_eq, or_assoc, Bool.and_assoc]
  by_cases a1 : k = 0 ∨ k = 1 ∨ k = 6 ∨ k = 7
  · rw [if_pos a1, if_pos a1]
  · rw [if_neg a1, if_neg a1]
    by_cases a2 : k = 2
    · rw [if_pos a2, if_pos a2]
    · rw [if_neg a2, if_neg a2]
      by_cases a3 : k = 3 ∨ k = 4
      · rw [if_pos a3, if_pos a3]
      · rw [if_neg a3, if_neg a3]
        by_cases a4 : k = 5
        · rw [if_pos a4, if_pos a4]; congr
        · rw [if_neg a4, if_neg a4]
set_option maxRecDepth 100000 in
set_option maxHeartbeats 4000000 in
theorem l04Own0 (k : Int) (s : ByteArray) (lo hi : Int) (m : Nat) (a : Option Addr) (cap : Nat) (w : World) (hs : s.size ≤ 1048576) (hl : m ≤ 1048576) (c1 : lo = 0) (c2 : hi = 0) (c3 : s.toList.isEmpty = true) :
    Calls Tryd.prog 102 #[.agg #[.int .i64 k, .string s, .bool false, .int .i64 lo, .int .i64 hi, .slice a m cap]] w fun e w' => e = .returned (.bool (ownB k (RT.asc s.data.toList) s.data.toList.isEmpty false lo hi m)) ∧ Below w.heap.size w w' := by
  have C4 := Lib.hid (show s.data.toList.isEmpty = _ from (isE s).symm.trans c3)
  have HB := Lib.hid (show ∀ o, Below w.heap.size w (w.alloc o) from fun o => (Below.refl w.heap.size w).alloc (Nat.le_refl _) _)
  have HS := Lib.hid (fun W => l04Set_any s W hs)
  go_enter Tryd.func102, Tryd.ntmps102
  go_wp2_with (first | (go_at_call 126; refine (HS.out _).mono ?_; rintro e w1 ⟨rfl, hb1⟩; obtain ⟨hc1, hf1⟩ := bcellR hb1) | (go_at_call 65; refine (in_any _ _ _ _).mono ?_; rintro e w1 ⟨rfl, rfl⟩))
  all_goals
    go_ret
    have c4 := C4.out
    first
    | exact ⟨ret_bool (by simp [ownB, *] <;> simp_all), HB.out _⟩
    | exact ⟨ret_bool (by simp [ownB, *] <;> simp_all), (HB.out _).trans (Below.mono (show Below _ _ _ by assumption) (HB.out _).size)⟩
set_option maxRecDepth 100000 in
set_option maxHeartbeats 4000000 in
theorem l04Own1 (k : Int) (s : ByteArray) (lo hi : Int) (m : Nat) (a : Option Addr) (cap : Nat) (w : World) (hs : s.size ≤ 1048576) (hl : m ≤ 1048576) (c1 : lo = 0) (c2 : hi = 0) (c3 : s.toList.isEmpty = true) :
    Calls Tryd.prog 102 #[.agg #[.int .i64 k, .string s, .bool true, .int .i64 lo, .int .i64 hi, .slice a m cap]] w fun e w' => e = .returned (.bool (ownB k (RT.asc s.data.toList) s.data.toList.isEmpty true lo hi m)) ∧ Below w.heap.size w w' := by
  have C4 := Lib.hid (show s.data.toList.isEmpty = _ from (isE s).symm.trans c3)
  have HB := Lib.hid (show ∀ o, Below w.heap.size w (w.alloc o) from fun o => (Below.refl w.heap.size w).alloc (Nat.le_refl _) _)
  have HS := Lib.hid (fun W => l04Set_any s W hs)
  go_enter Tryd.func102, Tryd.ntmps102
  go_wp2_with (first | (go_at_call 126; refine (HS.out _).mono ?_; rintro e w1 ⟨rfl, hb1⟩; obtain ⟨hc1, hf1⟩ := bcellR hb1) | (go_at_call 65; refine (in_any _ _ _ _).mono ?_; rintro e w1 ⟨rfl, rfl⟩))
  all_goals
    go_ret
    have c4 := C4.out
    first
    | exact ⟨ret_bool (by simp [ownB, *] <;> simp_all), HB.out _⟩
    | exact ⟨ret_bool (by simp [ownB, *] <;> simp_all), (HB.out _).trans (Below.mono (show Below _ _ _ by assumption) (HB.out _).size)⟩
set_option maxRecDepth 100000 in
set_option maxHeartbeats 4000000 in
theorem l04Own2 (k : Int) (s : ByteArray) (n : Bool) (lo hi : Int) (m : Nat) (a : Option Addr) (cap : Nat) (w : World) (hs : s.size ≤ 1048576) (hl : m ≤ 1048576) (c1 : lo = 0) (c2 : hi = 0) (c3 : s.toList.isEmpty = false) :
    Calls Tryd.prog 102 #[.agg #[.int .i64 k, .string s, .bool n, .int .i64 lo, .int .i64 hi, .slice a m cap]] w fun e w' => e = .returned (.bool (ownB k (RT.asc s.data.toList) s.data.toList.isEmpty n lo hi m)) ∧ Below w.heap.size w w' := by
  have C4 := Lib.hid (show s.data.toList.isEmpty = _ from (isE s).symm.trans c3)
  have HB := Lib.hid (show ∀ o, Below w.heap.size w (w.alloc o) from fun o => (Below.refl w.heap.size w).alloc (Nat.le_refl _) _)
  have HS := Lib.hid (fun W => l04Set_any s W hs)
  go_enter Tryd.func102, Tryd.ntmps102
  go_wp2_with (first | (go_at_call 126; refine (HS.out _).mono ?_; rintro e w1 ⟨rfl, hb1⟩; obtain ⟨hc1, hf1⟩ := bcellR hb1) | (go_at_call 65; refine (in_any _ _ _ _).mono ?_; rintro e w1 ⟨rfl, rfl⟩))
  all_goals
    go_ret
    have c4 := C4.out
    first
    | exact ⟨ret_bool (by simp [ownB, *] <;> simp_all), HB.out _⟩
    | exact ⟨ret_bool (by simp [ownB, *] <;> simp_all), (HB.out _).trans (Below.mono (show Below _ _ _ by assumption) (HB.out _).size)⟩
set_option maxRecDepth 100000 in
set_option maxHeartbeats 4000000 in
theorem l04Own3 (k : Int) (s : ByteArray) (lo hi : Int) (m : Nat) (a : Option Addr) (cap : Nat) (w : World) (hs : s.size ≤ 1048576) (hl : m ≤ 1048576) (c1 : lo = 0) (c2 : ¬ hi = 0) (c3 : s.toList.isEmpty = true) :
    Calls Tryd.prog 102 #[.agg #[.int .i64 k, .string s, .bool false, .int .i64 lo, .int .i64 hi, .slice a m cap]] w fun e w' => e = .returned (.bool (ownB k (RT.asc s.data.toList) s.data.toList.isEmpty false lo hi m)) ∧ Below w.heap.size w w' := by
  have C4 := Lib.hid (show s.data.toList.isEmpty = _ from (isE s).symm.trans c3)
  have HB := Lib.hid (show ∀ o, Below w.heap.size w (w.alloc o) from fun o => (Below.refl w.heap.size w).alloc (Nat.le_refl _) _)
  have HS := Lib.hid (fun W => l04Set_any s W hs)
  go_enter Tryd.func102, Tryd.ntmps102
  go_wp2_with (first | (go_at_call 126; refine (HS.out _).mono ?_; rintro e w1 ⟨rfl, hb1⟩; obtain ⟨hc1, hf1⟩ := bcellR hb1) | (go_at_call 65; refine (in_any _ _ _ _).mono ?_; rintro e w1 ⟨rfl, rfl⟩))
  all_goals
    go_ret
    have c4 := C4.out
    first
    | exact ⟨ret_bool (by simp [ownB, *] <;> simp_all [inB] <;> omega), HB.out _⟩
    | exact ⟨ret_bool (by simp [ownB, *] <;> simp_all [inB] <;> omega), (HB.out _).trans (Below.mono (show Below _ _ _ by assumption) (HB.out _).size)⟩
set_option maxRecDepth 100000 in
set_option maxHeartbeats 4000000 in
theorem l04Own4 (k : Int) (s : ByteArray) (lo hi : Int) (m : Nat) (a : Option Addr) (cap : Nat) (w : World) (hs : s.size ≤ 1048576) (hl : m ≤ 1048576) (c1 : lo = 0) (c2 : ¬ hi = 0) (c3 : s.toList.isEmpty = true) :
    Calls Tryd.prog 102 #[.agg #[.int .i64 k, .string s, .bool true, .int .i64 lo, .int .i64 hi, .slice a m cap]] w fun e w' => e = .returned (.bool (ownB k (RT.asc s.data.toList) s.data.toList.isEmpty true lo hi m)) ∧ Below w.heap.size w w' := by
  have C4 := Lib.hid (show s.data.toList.isEmpty = _ from (isE s).symm.trans c3)
  have HB := Lib.hid (show ∀ o, Below w.heap.size w (w.alloc o) from fun o => (Below.refl w.heap.size w).alloc (Nat.le_refl _) _)
  have HS := Lib.hid (fun W => l04Set_any s W hs)
  go_enter Tryd.func102, Tryd.ntmps102
  go_wp2_with (first | (go_at_call 126; refine (HS.out _).mono ?_; rintro e w1 ⟨rfl, hb1⟩; obtain ⟨hc1, hf1⟩ := bcellR hb1) | (go_at_call 65; refine (in_any _ _ _ _).mono ?_; rintro e w1 ⟨rfl, rfl⟩))
  all_goals
    go_ret
    have c4 := C4.out
    first
    | exact ⟨ret_bool (by simp [ownB, *] <;> simp_all), HB.out _⟩
    | exact ⟨ret_bool (by simp [ownB, *] <;> simp_all), (HB.out _).trans (Below.mono (show Below _ _ _ by assumption) (HB.out _).size)⟩
set_option maxRecDepth 100000 in
set_option maxHeartbeats 4000000 in
theorem l04Own5 (k : Int) (s : ByteArray) (n : Bool) (lo hi : Int) (m : Nat) (a : Option Addr) (cap : Nat) (w : World) (hs : s.size ≤ 1048576) (hl : m ≤ 1048576) (c1 : lo = 0) (c2 : ¬ hi = 0) (c3 : s.toList.isEmpty = false) :
    Calls Tryd.prog 102 #[.agg #[.int .i64 k, .string s, .bool n, .int .i64 lo, .int .i64 hi, .slice a m cap]] w fun e w' => e = .returned (.bool (ownB k (RT.asc s.data.toList) s.data.toList.isEmpty n lo hi m)) ∧ Below w.heap.size w w' := by
  have C4 := Lib.hid (show s.data.toList.isEmpty = _ from (isE s).symm.trans c3)
  have HB := Lib.hid (show ∀ o, Below w.heap.size w (w.alloc o) from fun o => (Below.refl w.heap.size w).alloc (Nat.le_refl _) _)
  have HS := Lib.hid (fun W => l04Set_any s W hs)
  go_enter Tryd.func102, Tryd.ntmps102
  go_wp2_with (first | (go_at_call 126; refine (HS.out _).mono ?_; rintro e w1 ⟨rfl, hb1⟩; obtain ⟨hc1, hf1⟩ := bcellR hb1) | (go_at_call 65; refine (in_any _ _ _ _).mono ?_; rintro e w1 ⟨rfl, rfl⟩))
  all_goals
    go_ret
    have c4 := C4.out
    first
    | exact ⟨ret_bool (by simp [ownB, *] <;> simp_all), HB.out _⟩
    | exact ⟨ret_bool (by simp [ownB, *] <;> simp_all), (HB.out _).trans (Below.mono (show Below _ _ _ by assumption) (HB.out _).size)⟩
set_option maxRecDepth 100000 in
set_option maxHeartbeats 4000000 in
theorem l04Own6 (k : Int) (s : ByteArray) (lo hi : Int) (m : Nat) (a : Option Addr) (cap : Nat) (w : World) (hs : s.size ≤ 1048576) (hl : m ≤ 1048576) (c1 : ¬ lo = 0) (c3 : s.toList.isEmpty = true) :
    Calls Tryd.prog 102 #[.agg #[.int .i64 k, .string s, .bool false, .int .i64 lo, .int .i64 hi, .slice a m cap]] w fun e w' => e = .returned (.bool (ownB k (RT.asc s.data.toList) s.data.toList.isEmpty false lo hi m)) ∧ Below w.heap.size w w' := by
  have C4 := Lib.hid (show s.data.toList.isEmpty = _ from (isE s).symm.trans c3)
  have HB := Lib.hid (show ∀ o, Below w.heap.size w (w.alloc o) from fun o => (Below.refl w.heap.size w).alloc (Nat.le_refl _) _)
  have HS := Lib.hid (fun W => l04Set_any s W hs)
  go_enter Tryd.func102, Tryd.ntmps102
  go_wp2_with (first | (go_at_call 126; refine (HS.out _).mono ?_; rintro e w1 ⟨rfl, hb1⟩; obtain ⟨hc1, hf1⟩ := bcellR hb1) | (go_at_call 65; refine (in_any _ _ _ _).mono ?_; rintro e w1 ⟨rfl, rfl⟩))
  all_goals
    go_ret
    have c4 := C4.out
    first
    | exact ⟨ret_bool (by simp [ownB, *] <;> simp_all [inB] <;> omega), HB.out _⟩
    | exact ⟨ret_bool (by simp [ownB, *] <;> simp_all [inB] <;> omega), (HB.out _).trans (Below.mono (show Below _ _ _ by assumption) (HB.out _).size)⟩
set_option maxRecDepth 100000 in
set_option maxHeartbeats 4000000 in
theorem l04Own7 (k : Int) (s : ByteArray) (lo hi : Int) (m : Nat) (a : Option Addr) (cap : Nat) (w : World) (hs : s.size ≤ 1048576) (hl : m ≤ 1048576) (c1 : ¬ lo = 0) (c3 : s.toList.isEmpty = true) :
    Calls Tryd.prog 102 #[.agg #[.int .i64 k, .string s, .bool true, .int .i64 lo, .int .i64 hi, .slice a m cap]] w fun e w' => e = .returned (.bool (ownB k (RT.asc s.data.toList) s.data.toList.isEmpty true lo hi m)) ∧ Below w.heap.size w w' := by
  have C4 := Lib.hid (show s.data.toList.isEmpty = _ from (isE s).symm.trans c3)
  have HB := Lib.hid (show ∀ o, Below w.heap.size w (w.alloc o) from fun o => (Below.refl w.heap.size w).alloc (Nat.le_refl _) _)
  have HS := Lib.hid (fun W => l04Set_any s W hs)
  go_enter Tryd.func102, Tryd.ntmps102
  go_wp2_with (first | (go_at_call 126; refine (HS.out _).mono ?_; rintro e w1 ⟨rfl, hb1⟩; obtain ⟨hc1, hf1⟩ := bcellR hb1) | (go_at_call 65; refine (in_any _ _ _ _).mono ?_; rintro e w1 ⟨rfl, rfl⟩))
  all_goals
    go_ret
    have c4 := C4.out
    first
    | exact ⟨ret_bool (by simp [ownB, *] <;> simp_all), HB.out _⟩
    | exact ⟨ret_bool (by simp [ownB, *] <;> simp_all), (HB.out _).trans (Below.mono (show Below _ _ _ by assumption) (HB.out _).size)⟩
set_option maxRecDepth 100000 in
set_option maxHeartbeats 4000000 in
theorem l04Own8 (k : Int) (s : ByteArray) (n : Bool) (lo hi : Int) (m : Nat) (a : Option Addr) (cap : Nat) (w : World) (hs : s.size ≤ 1048576) (hl : m ≤ 1048576) (c1 : ¬ lo = 0) (c3 : s.toList.isEmpty = false) :
    Calls Tryd.prog 102 #[.agg #[.int .i64 k, .string s, .bool n, .int .i64 lo, .int .i64 hi, .slice a m cap]] w fun e w' => e = .returned (.bool (ownB k (RT.asc s.data.toList) s.data.toList.isEmpty n lo hi m)) ∧ Below w.heap.size w w' := by
  have C4 := Lib.hid (show s.data.toList.isEmpty = _ from (isE s).symm.trans c3)
  have HB := Lib.hid (show ∀ o, Below w.heap.size w (w.alloc o) from fun o => (Below.refl w.heap.size w).alloc (Nat.le_refl _) _)
  have HS := Lib.hid (fun W => l04Set_any s W hs)
  go_enter Tryd.func102, Tryd.ntmps102
  go_wp2_with (first | (go_at_call 126; refine (HS.out _).mono ?_; rintro e w1 ⟨rfl, hb1⟩; obtain ⟨hc1, hf1⟩ := bcellR hb1) | (go_at_call 65; refine (in_any _ _ _ _).mono ?_; rintro e w1 ⟨rfl, rfl⟩))
  all_goals
    go_ret
    have c4 := C4.out
    first
    | exact ⟨ret_bool (by simp [ownB, *] <;> simp_all), HB.out _⟩
    | exact ⟨ret_bool (by simp [ownB, *] <;> simp_all), (HB.out _).trans (Below.mono (show Below _ _ _ by assumption) (HB.out _).size)⟩
theorem l04Own_any (k : Int) (s : ByteArray) (n : Bool) (lo hi : Int) (m : Nat) (a : Option Addr) (cap : Nat) (w : World) (hs : s.size ≤ 1048576) (hl : m ≤ 1048576) :
    Calls Tryd.prog 102 #[.agg #[.int .i64 k, .string s, .bool n, .int .i64 lo, .int .i64 hi, .slice a m cap]] w fun e w' => e = .returned (.bool (ownB k (RT.asc s.data.toList) s.data.toList.isEmpty n lo hi m)) ∧ Below w.heap.size w w' := by
  by_cases c1 : lo = 0
  · by_cases c2 : hi = 0
    · cases c3 : s.toList.isEmpty
      · exact l04Own2 k s n lo hi m a cap w hs hl c1 c2 c3
      · cases n
        · exact l04Own0 k s lo hi m a cap w hs hl c1 c2 c3
        · exact l04Own1 k s lo hi m a cap w hs hl c1 c2 c3
    · cases c3 : s.toList.isEmpty
      · exact l04Own5 k s n lo hi m a cap w hs hl c1 c2 c3
      · cases n
        · exact l04Own3 k s lo hi m a cap w hs hl c1 c2 c3
        · exact l04Own4 k s lo hi m a cap w hs hl c1 c2 c3
  · cases c3 : s.toList.isEmpty
    · exact l04Own8 k s n lo hi m a cap w hs hl c1 c3
    · cases n
      · exact l04Own6 k s lo hi m a cap w hs hl c1 c3
      · exact l04Own7 k s lo hi m a cap w hs hl c1 c3
end Go.Proofs.YtiggdpckjmellaaDoor.kit
