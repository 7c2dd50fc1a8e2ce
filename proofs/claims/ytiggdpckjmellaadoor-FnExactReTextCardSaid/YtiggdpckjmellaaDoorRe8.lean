/-
  Contract of impl.partOk over this seat's translation: whether what an expression has but its kids is right. Conditions: the set has at most 1048576 bytes.
-/
import Derived.Test.YtiggdpckjmellaaDoorRe7
import Derived.Deep.QuietTactic
import Derived.BigQuiet
namespace Go.Proofs.YtiggdpckjmellaaDoor.kit
open Go.ChangeShapes Go.WideShapes Go.ChangeAt Go.RowKit
set_option linter.unusedVariables false

set_option maxRecDepth 100000 in
set_option maxHeartbeats 4000000 in
theorem partOk0 (k : Int) (s : ByteArray) (lo hi : Int) (m : Nat) (a : Option Addr) (cap : Nat) (w : World) (hs : s.size ≤ 1048576) (hl : m ≤ 1048576) (c1 : lo = 0) (c2 : hi = 0) (c3 : s.toList.isEmpty = true) :
    Calls Tryd.prog 101 #[.agg #[.int .i64 k, .string s, .bool false, .int .i64 lo, .int .i64 hi, .slice a m cap]] w fun e w' => e = .returned (.bool (ownB k (RT.asc s.data.toList) s.data.toList.isEmpty false lo hi m)) ∧ Below w.heap.size w w' := by
  have C4 := Lib.hid (show s.data.toList.isEmpty = _ from (isE s).symm.trans c3)
  have HB := Lib.hid (show ∀ o, Below w.heap.size w (w.alloc o) from fun o => (Below.refl w.heap.size w).alloc (Nat.le_refl _) _)
  have HS := Lib.hid (fun W => ascends_any s W hs)
  go_enter Tryd.func101, Tryd.ntmps101
  go_wp2_with fail
  go_quiet (fail)
  go_wp2_with (first | (go_at_call 124; refine (HS.out _).mono ?_; rintro e w1 ⟨rfl, hb1⟩; obtain ⟨hc1, hf1⟩ := bcellR hb1) | (go_at_call 125; refine (timesOk_any _ _ _).mono ?_; rintro e w1 ⟨rfl, rfl⟩))
  all_goals
    go_ret
    have c4 := C4.out
    first
    | exact ⟨ret_bool (by simp [ownB, timB, *] <;> simp_all), belowK (HB.out _) _⟩
    | exact ⟨ret_bool (by simp [ownB, *] <;> simp_all), (belowK (HB.out _) _).trans (Below.mono (show Below _ _ _ by assumption) (belowK (HB.out _) _).size)⟩
set_option maxRecDepth 100000 in
set_option maxHeartbeats 4000000 in
theorem partOk1 (k : Int) (s : ByteArray) (lo hi : Int) (m : Nat) (a : Option Addr) (cap : Nat) (w : World) (hs : s.size ≤ 1048576) (hl : m ≤ 1048576) (c1 : lo = 0) (c2 : hi = 0) (c3 : s.toList.isEmpty = true) :
    Calls Tryd.prog 101 #[.agg #[.int .i64 k, .string s, .bool true, .int .i64 lo, .int .i64 hi, .slice a m cap]] w fun e w' => e = .returned (.bool (ownB k (RT.asc s.data.toList) s.data.toList.isEmpty true lo hi m)) ∧ Below w.heap.size w w' := by
  have C4 := Lib.hid (show s.data.toList.isEmpty = _ from (isE s).symm.trans c3)
  have HB := Lib.hid (show ∀ o, Below w.heap.size w (w.alloc o) from fun o => (Below.refl w.heap.size w).alloc (Nat.le_refl _) _)
  have HS := Lib.hid (fun W => ascends_any s W hs)
  go_enter Tryd.func101, Tryd.ntmps101
  go_wp2_with fail
  go_quiet (fail)
  go_wp2_with (first | (go_at_call 124; refine (HS.out _).mono ?_; rintro e w1 ⟨rfl, hb1⟩; obtain ⟨hc1, hf1⟩ := bcellR hb1) | (go_at_call 125; refine (timesOk_any _ _ _).mono ?_; rintro e w1 ⟨rfl, rfl⟩))
  all_goals
    go_ret
    have c4 := C4.out
    first
    | exact ⟨ret_bool (by simp [ownB, *] <;> simp_all), belowK (HB.out _) _⟩
    | exact ⟨ret_bool (by simp [ownB, *] <;> simp_all), (belowK (HB.out _) _).trans (Below.mono (show Below _ _ _ by assumption) (belowK (HB.out _) _).size)⟩
set_option maxRecDepth 100000 in
set_option maxHeartbeats 4000000 in
theorem partOk2 (k : Int) (s : ByteArray) (n : Bool) (lo hi : Int) (m : Nat) (a : Option Addr) (cap : Nat) (w : World) (hs : s.size ≤ 1048576) (hl : m ≤ 1048576) (c1 : lo = 0) (c2 : hi = 0) (c3 : s.toList.isEmpty = false) :
    Calls Tryd.prog 101 #[.agg #[.int .i64 k, .string s, .bool n, .int .i64 lo, .int .i64 hi, .slice a m cap]] w fun e w' => e = .returned (.bool (ownB k (RT.asc s.data.toList) s.data.toList.isEmpty n lo hi m)) ∧ Below w.heap.size w w' := by
  have C4 := Lib.hid (show s.data.toList.isEmpty = _ from (isE s).symm.trans c3)
  have HB := Lib.hid (show ∀ o, Below w.heap.size w (w.alloc o) from fun o => (Below.refl w.heap.size w).alloc (Nat.le_refl _) _)
  have HS := Lib.hid (fun W => ascends_any s W hs)
  go_enter Tryd.func101, Tryd.ntmps101
  go_wp2_with fail
  go_quiet (fail)
  go_wp2_with (first | (go_at_call 124; refine (HS.out _).mono ?_; rintro e w1 ⟨rfl, hb1⟩; obtain ⟨hc1, hf1⟩ := bcellR hb1) | (go_at_call 125; refine (timesOk_any _ _ _).mono ?_; rintro e w1 ⟨rfl, rfl⟩))
  all_goals
    go_ret
    have c4 := C4.out
    first
    | exact ⟨ret_bool (by simp [ownB, *] <;> simp_all), belowK (HB.out _) _⟩
    | exact ⟨ret_bool (by simp [ownB, *] <;> simp_all), (belowK (HB.out _) _).trans (Below.mono (show Below _ _ _ by assumption) (belowK (HB.out _) _).size)⟩
set_option maxRecDepth 100000 in
set_option maxHeartbeats 4000000 in
theorem partOk3 (k : Int) (s : ByteArray) (lo hi : Int) (m : Nat) (a : Option Addr) (cap : Nat) (w : World) (hs : s.size ≤ 1048576) (hl : m ≤ 1048576) (c1 : lo = 0) (c2 : ¬ hi = 0) (c3 : s.toList.isEmpty = true) :
    Calls Tryd.prog 101 #[.agg #[.int .i64 k, .string s, .bool false, .int .i64 lo, .int .i64 hi, .slice a m cap]] w fun e w' => e = .returned (.bool (ownB k (RT.asc s.data.toList) s.data.toList.isEmpty false lo hi m)) ∧ Below w.heap.size w w' := by
  have C4 := Lib.hid (show s.data.toList.isEmpty = _ from (isE s).symm.trans c3)
  have HB := Lib.hid (show ∀ o, Below w.heap.size w (w.alloc o) from fun o => (Below.refl w.heap.size w).alloc (Nat.le_refl _) _)
  have HS := Lib.hid (fun W => ascends_any s W hs)
  go_enter Tryd.func101, Tryd.ntmps101
  go_wp2_with fail
  go_quiet (fail)
  go_wp2_with (first | (go_at_call 124; refine (HS.out _).mono ?_; rintro e w1 ⟨rfl, hb1⟩; obtain ⟨hc1, hf1⟩ := bcellR hb1) | (go_at_call 125; refine (timesOk_any _ _ _).mono ?_; rintro e w1 ⟨rfl, rfl⟩))
  all_goals
    go_ret
    have c4 := C4.out
    first
    | exact ⟨ret_bool (by simp [ownB, timB, *] <;> simp_all), belowK (HB.out _) _⟩
    | exact ⟨ret_bool (by simp [ownB, *] <;> simp_all), (belowK (HB.out _) _).trans (Below.mono (show Below _ _ _ by assumption) (belowK (HB.out _) _).size)⟩
set_option maxRecDepth 100000 in
set_option maxHeartbeats 4000000 in
theorem partOk4 (k : Int) (s : ByteArray) (lo hi : Int) (m : Nat) (a : Option Addr) (cap : Nat) (w : World) (hs : s.size ≤ 1048576) (hl : m ≤ 1048576) (c1 : lo = 0) (c2 : ¬ hi = 0) (c3 : s.toList.isEmpty = true) :
    Calls Tryd.prog 101 #[.agg #[.int .i64 k, .string s, .bool true, .int .i64 lo, .int .i64 hi, .slice a m cap]] w fun e w' => e = .returned (.bool (ownB k (RT.asc s.data.toList) s.data.toList.isEmpty true lo hi m)) ∧ Below w.heap.size w w' := by
  have C4 := Lib.hid (show s.data.toList.isEmpty = _ from (isE s).symm.trans c3)
  have HB := Lib.hid (show ∀ o, Below w.heap.size w (w.alloc o) from fun o => (Below.refl w.heap.size w).alloc (Nat.le_refl _) _)
  have HS := Lib.hid (fun W => ascends_any s W hs)
  go_enter Tryd.func101, Tryd.ntmps101
  go_wp2_with fail
  go_quiet (fail)
  go_wp2_with (first | (go_at_call 124; refine (HS.out _).mono ?_; rintro e w1 ⟨rfl, hb1⟩; obtain ⟨hc1, hf1⟩ := bcellR hb1) | (go_at_call 125; refine (timesOk_any _ _ _).mono ?_; rintro e w1 ⟨rfl, rfl⟩))
  all_goals
    go_ret
    have c4 := C4.out
    first
    | exact ⟨ret_bool (by simp [ownB, *] <;> simp_all), belowK (HB.out _) _⟩
    | exact ⟨ret_bool (by simp [ownB, *] <;> simp_all), (belowK (HB.out _) _).trans (Below.mono (show Below _ _ _ by assumption) (belowK (HB.out _) _).size)⟩
set_option maxRecDepth 100000 in
set_option maxHeartbeats 4000000 in
theorem partOk5 (k : Int) (s : ByteArray) (n : Bool) (lo hi : Int) (m : Nat) (a : Option Addr) (cap : Nat) (w : World) (hs : s.size ≤ 1048576) (hl : m ≤ 1048576) (c1 : lo = 0) (c2 : ¬ hi = 0) (c3 : s.toList.isEmpty = false) :
    Calls Tryd.prog 101 #[.agg #[.int .i64 k, .string s, .bool n, .int .i64 lo, .int .i64 hi, .slice a m cap]] w fun e w' => e = .returned (.bool (ownB k (RT.asc s.data.toList) s.data.toList.isEmpty n lo hi m)) ∧ Below w.heap.size w w' := by
  have C4 := Lib.hid (show s.data.toList.isEmpty = _ from (isE s).symm.trans c3)
  have HB := Lib.hid (show ∀ o, Below w.heap.size w (w.alloc o) from fun o => (Below.refl w.heap.size w).alloc (Nat.le_refl _) _)
  have HS := Lib.hid (fun W => ascends_any s W hs)
  go_enter Tryd.func101, Tryd.ntmps101
  go_wp2_with fail
  go_quiet (fail)
  go_wp2_with (first | (go_at_call 124; refine (HS.out _).mono ?_; rintro e w1 ⟨rfl, hb1⟩; obtain ⟨hc1, hf1⟩ := bcellR hb1) | (go_at_call 125; refine (timesOk_any _ _ _).mono ?_; rintro e w1 ⟨rfl, rfl⟩))
  all_goals
    go_ret
    have c4 := C4.out
    first
    | exact ⟨ret_bool (by simp [ownB, *] <;> simp_all), belowK (HB.out _) _⟩
    | exact ⟨ret_bool (by simp [ownB, *] <;> simp_all), (belowK (HB.out _) _).trans (Below.mono (show Below _ _ _ by assumption) (belowK (HB.out _) _).size)⟩
set_option maxRecDepth 100000 in
set_option maxHeartbeats 4000000 in
theorem partOk6 (k : Int) (s : ByteArray) (lo hi : Int) (m : Nat) (a : Option Addr) (cap : Nat) (w : World) (hs : s.size ≤ 1048576) (hl : m ≤ 1048576) (c1 : ¬ lo = 0) (c3 : s.toList.isEmpty = true) :
    Calls Tryd.prog 101 #[.agg #[.int .i64 k, .string s, .bool false, .int .i64 lo, .int .i64 hi, .slice a m cap]] w fun e w' => e = .returned (.bool (ownB k (RT.asc s.data.toList) s.data.toList.isEmpty false lo hi m)) ∧ Below w.heap.size w w' := by
  have C4 := Lib.hid (show s.data.toList.isEmpty = _ from (isE s).symm.trans c3)
  have HB := Lib.hid (show ∀ o, Below w.heap.size w (w.alloc o) from fun o => (Below.refl w.heap.size w).alloc (Nat.le_refl _) _)
  have HS := Lib.hid (fun W => ascends_any s W hs)
  go_enter Tryd.func101, Tryd.ntmps101
  go_wp2_with fail
  go_quiet (fail)
  go_wp2_with (first | (go_at_call 124; refine (HS.out _).mono ?_; rintro e w1 ⟨rfl, hb1⟩; obtain ⟨hc1, hf1⟩ := bcellR hb1) | (go_at_call 125; refine (timesOk_any _ _ _).mono ?_; rintro e w1 ⟨rfl, rfl⟩))
  all_goals
    go_ret
    have c4 := C4.out
    first
    | exact ⟨ret_bool (by simp [ownB, timB, *] <;> simp_all), belowK (HB.out _) _⟩
    | exact ⟨ret_bool (by simp [ownB, *] <;> simp_all), (belowK (HB.out _) _).trans (Below.mono (show Below _ _ _ by assumption) (belowK (HB.out _) _).size)⟩
set_option maxRecDepth 100000 in
set_option maxHeartbeats 4000000 in
theorem partOk7 (k : Int) (s : ByteArray) (lo hi : Int) (m : Nat) (a : Option Addr) (cap : Nat) (w : World) (hs : s.size ≤ 1048576) (hl : m ≤ 1048576) (c1 : ¬ lo = 0) (c3 : s.toList.isEmpty = true) :
    Calls Tryd.prog 101 #[.agg #[.int .i64 k, .string s, .bool true, .int .i64 lo, .int .i64 hi, .slice a m cap]] w fun e w' => e = .returned (.bool (ownB k (RT.asc s.data.toList) s.data.toList.isEmpty true lo hi m)) ∧ Below w.heap.size w w' := by
  have C4 := Lib.hid (show s.data.toList.isEmpty = _ from (isE s).symm.trans c3)
  have HB := Lib.hid (show ∀ o, Below w.heap.size w (w.alloc o) from fun o => (Below.refl w.heap.size w).alloc (Nat.le_refl _) _)
  have HS := Lib.hid (fun W => ascends_any s W hs)
  go_enter Tryd.func101, Tryd.ntmps101
  go_wp2_with fail
  go_quiet (fail)
  go_wp2_with (first | (go_at_call 124; refine (HS.out _).mono ?_; rintro e w1 ⟨rfl, hb1⟩; obtain ⟨hc1, hf1⟩ := bcellR hb1) | (go_at_call 125; refine (timesOk_any _ _ _).mono ?_; rintro e w1 ⟨rfl, rfl⟩))
  all_goals
    go_ret
    have c4 := C4.out
    first
    | exact ⟨ret_bool (by simp [ownB, *] <;> simp_all), belowK (HB.out _) _⟩
    | exact ⟨ret_bool (by simp [ownB, *] <;> simp_all), (belowK (HB.out _) _).trans (Below.mono (show Below _ _ _ by assumption) (belowK (HB.out _) _).size)⟩
set_option maxRecDepth 100000 in
set_option maxHeartbeats 4000000 in
theorem partOk8 (k : Int) (s : ByteArray) (n : Bool) (lo hi : Int) (m : Nat) (a : Option Addr) (cap : Nat) (w : World) (hs : s.size ≤ 1048576) (hl : m ≤ 1048576) (c1 : ¬ lo = 0) (c3 : s.toList.isEmpty = false) :
    Calls Tryd.prog 101 #[.agg #[.int .i64 k, .string s, .bool n, .int .i64 lo, .int .i64 hi, .slice a m cap]] w fun e w' => e = .returned (.bool (ownB k (RT.asc s.data.toList) s.data.toList.isEmpty n lo hi m)) ∧ Below w.heap.size w w' := by
  have C4 := Lib.hid (show s.data.toList.isEmpty = _ from (isE s).symm.trans c3)
  have HB := Lib.hid (show ∀ o, Below w.heap.size w (w.alloc o) from fun o => (Below.refl w.heap.size w).alloc (Nat.le_refl _) _)
  have HS := Lib.hid (fun W => ascends_any s W hs)
  go_enter Tryd.func101, Tryd.ntmps101
  go_wp2_with fail
  go_quiet (fail)
  go_wp2_with (first | (go_at_call 124; refine (HS.out _).mono ?_; rintro e w1 ⟨rfl, hb1⟩; obtain ⟨hc1, hf1⟩ := bcellR hb1) | (go_at_call 125; refine (timesOk_any _ _ _).mono ?_; rintro e w1 ⟨rfl, rfl⟩))
  all_goals
    go_ret
    have c4 := C4.out
    first
    | exact ⟨ret_bool (by simp [ownB, *] <;> simp_all), belowK (HB.out _) _⟩
    | exact ⟨ret_bool (by simp [ownB, *] <;> simp_all), (belowK (HB.out _) _).trans (Below.mono (show Below _ _ _ by assumption) (belowK (HB.out _) _).size)⟩
theorem partOk_any (k : Int) (s : ByteArray) (n : Bool) (lo hi : Int) (m : Nat) (a : Option Addr) (cap : Nat) (w : World) (hs : s.size ≤ 1048576) (hl : m ≤ 1048576) :
    Calls Tryd.prog 101 #[.agg #[.int .i64 k, .string s, .bool n, .int .i64 lo, .int .i64 hi, .slice a m cap]] w fun e w' => e = .returned (.bool (ownB k (RT.asc s.data.toList) s.data.toList.isEmpty n lo hi m)) ∧ Below w.heap.size w w' := by
  by_cases c1 : lo = 0
  · by_cases c2 : hi = 0
    · cases c3 : s.toList.isEmpty
      · exact partOk2 k s n lo hi m a cap w hs hl c1 c2 c3
      · cases n
        · exact partOk0 k s lo hi m a cap w hs hl c1 c2 c3
        · exact partOk1 k s lo hi m a cap w hs hl c1 c2 c3
    · cases c3 : s.toList.isEmpty
      · exact partOk5 k s n lo hi m a cap w hs hl c1 c2 c3
      · cases n
        · exact partOk3 k s lo hi m a cap w hs hl c1 c2 c3
        · exact partOk4 k s lo hi m a cap w hs hl c1 c2 c3
  · cases c3 : s.toList.isEmpty
    · exact partOk8 k s n lo hi m a cap w hs hl c1 c3
    · cases n
      · exact partOk6 k s lo hi m a cap w hs hl c1 c3
      · exact partOk7 k s lo hi m a cap w hs hl c1 c3
end Go.Proofs.YtiggdpckjmellaaDoor.kit
