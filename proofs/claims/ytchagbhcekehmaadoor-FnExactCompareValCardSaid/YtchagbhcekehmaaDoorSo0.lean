/-
  Contracts of spec.StrOf, impl.StrOf, and of the ways to compare two texts or two numbers. Conditions: the table of the powers of ten is as listed, where the program's own text of a number is made.
-/
import Derived.Test.YtchagbhcekehmaaDoorNt2
import Derived.Test.YtchagbhcekehmaaDoorAs0
import Derived.Test.YtchagbhcekehmaaDoorVag
import Derived.WalkLawsBesides
namespace Go.Proofs.YtchagbhcekehmaaDoor.kit
open Go.ChangeShapes Go.WideShapes Go.ChangeAt Go.RowKit
set_option linter.unusedVariables false

def cmpT (s t : ByteArray) : Int := if Op.bytesLess s.toList t.toList then -1 else if s.toList == t.toList then 0 else 1
def cmpI (a b : Int) : Int := if a < b then -1 else if b < a then 1 else 0
theorem texts_any (s t : ByteArray) (w : World) :
    Calls Tryd.prog 84 #[.string s, .string t] w fun e w' => e = .returned (.int .i64 (cmpT s t)) ∧ w = w' := by
  cases h1 : Op.bytesLess s.toList t.toList
  · cases h2 : s.toList == t.toList
    all_goals
      have E := Lib.hid (show cmpT s t = _ from by unfold cmpT; rw [h1, h2])
      go_enter Tryd.func84, Tryd.ntmps84
      go_wp2
      go_ret
      exact ⟨ret_int E.out.symm, rfl⟩
  · have E := Lib.hid (show cmpT s t = _ from by unfold cmpT; rw [h1])
    go_enter Tryd.func84, Tryd.ntmps84
    go_wp2
    go_ret
    exact ⟨ret_int E.out.symm, rfl⟩
theorem nanS_any (s : ByteArray) (w : World) :
    Calls Tryd.prog 95 #[.string s] w fun e w' => e = .returned (.bool false) ∧ w = w' := by
  go_enter Tryd.func95, Tryd.ntmps95
  go_wp2
  go_ret
  exact ⟨by simp, rfl⟩
theorem cmpS_any (s t : ByteArray) (w : World) :
    Calls Tryd.prog 85 #[.string s, .string t] w fun e w' => e = .returned (.int .i64 (cmpT s t)) ∧ w = w' := by
  cases h1 : Op.bytesLess s.toList t.toList
  · cases h2 : s.toList == t.toList
    all_goals
      have E := Lib.hid (show cmpT s t = _ from by unfold cmpT; rw [h1, h2])
      go_enter Tryd.func85, Tryd.ntmps85
      go_wp2_with (go_at_call 95; refine (nanS_any _ _).mono ?_; rintro e w' ⟨rfl, rfl⟩)
      go_ret
      exact ⟨ret_int E.out.symm, rfl⟩
  · have E := Lib.hid (show cmpT s t = _ from by unfold cmpT; rw [h1])
    go_enter Tryd.func85, Tryd.ntmps85
    go_wp2_with (go_at_call 95; refine (nanS_any _ _).mono ?_; rintro e w' ⟨rfl, rfl⟩)
    go_ret
    exact ⟨ret_int E.out.symm, rfl⟩
theorem nanI_any (a : Int) (w : World) :
    Calls Tryd.prog 96 #[.int .i64 a] w fun e w' => e = .returned (.bool false) ∧ w = w' := by
  go_enter Tryd.func96, Tryd.ntmps96
  go_wp2
  go_ret
  exact ⟨by simp, rfl⟩
theorem less_any (a b : Int) (w : World) :
    Calls Tryd.prog 82 #[.int .i64 a, .int .i64 b] w fun e w' => e = .returned (.int .i64 (cmpI a b)) ∧ w = w' := by
  by_cases h1 : a < b
  · have E := Lib.hid (show cmpI a b = _ from by unfold cmpI; rw [if_pos h1])
    go_enter Tryd.func82, Tryd.ntmps82
    go_wp2
    go_ret
    exact ⟨ret_int E.out.symm, rfl⟩
  · by_cases h2 : b < a
    · have E := Lib.hid (show cmpI a b = _ from by unfold cmpI; rw [if_neg h1, if_pos h2])
      go_enter Tryd.func82, Tryd.ntmps82
      go_wp2
      go_ret
      exact ⟨ret_int E.out.symm, rfl⟩
    · have E := Lib.hid (show cmpI a b = _ from by unfold cmpI; rw [if_neg h1, if_neg h2])
      go_enter Tryd.func82, Tryd.ntmps82
      go_wp2
      go_ret
      exact ⟨ret_int E.out.symm, rfl⟩
theorem cmpI_any (a b : Int) (w : World) :
    Calls Tryd.prog 86 #[.int .i64 a, .int .i64 b] w fun e w' => e = .returned (.int .i64 (cmpI a b)) ∧ w = w' := by
  by_cases h1 : a < b
  · have E := Lib.hid (show cmpI a b = _ from by unfold cmpI; rw [if_pos h1])
    go_enter Tryd.func86, Tryd.ntmps86
    go_wp2_with (go_at_call 96; refine (nanI_any _ _).mono ?_; rintro e w' ⟨rfl, rfl⟩)
    go_ret
    exact ⟨ret_int E.out.symm, rfl⟩
  · by_cases h2 : b < a
    · have E := Lib.hid (show cmpI a b = _ from by unfold cmpI; rw [if_neg h1, if_pos h2])
      go_enter Tryd.func86, Tryd.ntmps86
      go_wp2_with (go_at_call 96; refine (nanI_any _ _).mono ?_; rintro e w' ⟨rfl, rfl⟩)
      go_ret
      exact ⟨ret_int E.out.symm, rfl⟩
    · have E := Lib.hid (show cmpI a b = _ from by unfold cmpI; rw [if_neg h1, if_neg h2])
      go_enter Tryd.func86, Tryd.ntmps86
      go_wp2_with (go_at_call 96; refine (nanI_any _ _).mono ?_; rintro e w' ⟨rfl, rfl⟩)
      go_ret
      exact ⟨ret_int E.out.symm, rfl⟩
/-- What a value's text is. -/
def soB (k : Int) (s : ByteArray) (n : Int) : ByteArray := if k == 2 then ntA n else s
theorem specSo_any (k : Int) (s : ByteArray) (n : Int) (w : World) :
    Calls Tryd.prog 42 #[.agg #[.int .i64 k, .string s, .int .i64 n]] w fun e w' => e = .returned (.string (soB k s n)) ∧ Below w.heap.size w w' := by
  cases h : k == 2
  · have E := Lib.hid (show soB k s n = s by simp [soB, h])
    go_enter Tryd.func42, Tryd.ntmps42
    go_wp2
    go_ret
    exact ⟨ret_str E.out.symm, (Below.refl _ _).alloc (Nat.le_refl _) _⟩
  · have E := Lib.hid (show soB k s n = ntA n by simp [soB, h])
    go_enter Tryd.func42, Tryd.ntmps42
    go_wp2_with (go_at_call 37; refine (specNt_any _ _).mono ?_; rintro e w' ⟨rfl, rfl⟩)
    go_ret
    exact ⟨ret_str E.out.symm, (Below.refl _ _).alloc (Nat.le_refl _) _⟩
set_option maxRecDepth 100000 in
theorem implSo0 (s : ByteArray) (n : Int) (w : World) :
    Calls Tryd.prog 44 #[.agg #[.int .i64 0, .string s, .int .i64 n]] w fun e w' => e = .returned (.string s) ∧ Below w.heap.size w w' := by
  have a2 := as02
  go_enter Tryd.func44, Tryd.ntmps44
  go_wp2_with fail
  refine (valueOf0 _ _ _).mono ?_
  rintro e w1 ⟨rfl, hb1⟩
  obtain ⟨hc1, hf1⟩ := bcell hb1
  have z1 : w.heap.size < w1.heap.size := by have := hb1.size; simp at this; omega
  go_wp2
  go_ret
  exact ⟨rfl, ((Below.refl _ _).alloc (Nat.le_refl _) _).trans (hb1.mono (by simp))⟩
set_option maxRecDepth 100000 in
theorem implSo1 (s : ByteArray) (n : Int) (w : World) :
    Calls Tryd.prog 44 #[.agg #[.int .i64 1, .string s, .int .i64 n]] w fun e w' => e = .returned (.string s) ∧ Below w.heap.size w w' := by
  have a2 := as12
  go_enter Tryd.func44, Tryd.ntmps44
  go_wp2_with fail
  refine (valueOf1 _ _ _).mono ?_
  rintro e w1 ⟨rfl, hb1⟩
  obtain ⟨hc1, hf1⟩ := bcell hb1
  have z1 : w.heap.size < w1.heap.size := by have := hb1.size; simp at this; omega
  go_wp2
  go_ret
  exact ⟨rfl, ((Below.refl _ _).alloc (Nat.le_refl _) _).trans (hb1.mono (by simp))⟩
set_option maxRecDepth 100000 in
theorem implSo2 (s : ByteArray) (n : Int) (w : World) (ht : Tab w) :
    Calls Tryd.prog 44 #[.agg #[.int .i64 2, .string s, .int .i64 n]] w fun e w' => e = .returned (.string (ntA n)) ∧ Below w.heap.size w w' := by
  have HT := Lib.hid ht
  clear ht
  have a2 := as22
  go_enter Tryd.func44, Tryd.ntmps44
  go_wp2_with fail
  refine (valueOf2 _ _ _).mono ?_
  rintro e w1 ⟨rfl, hb1⟩
  obtain ⟨hc1, hf1⟩ := bcell hb1
  have z1 : w.heap.size < w1.heap.size := by have := hb1.size; simp at this; omega
  have HT1 := Lib.hid (HT.out.on (((Below.refl _ _).alloc (Nat.le_refl _) _).trans (hb1.mono (by simp))))
  go_wp2_with fail
  refine (implNt_any _ _ HT1.out).mono ?_
  rintro e w2 ⟨rfl, hb2⟩
  go_wp2
  go_ret
  exact ⟨rfl, (((Below.refl _ _).alloc (Nat.le_refl _) _).trans (hb1.mono (by simp))).trans (hb2.mono (by omega))⟩
set_option maxRecDepth 100000 in
theorem implSo3 (s : ByteArray) (n : Int) (w : World) :
    Calls Tryd.prog 44 #[.agg #[.int .i64 3, .string s, .int .i64 n]] w fun e w' => e = .returned (.string s) ∧ Below w.heap.size w w' := by
  have a2 := as32
  go_enter Tryd.func44, Tryd.ntmps44
  go_wp2_with fail
  refine (valueOf3 _ _ _).mono ?_
  rintro e w1 ⟨rfl, hb1⟩
  obtain ⟨hc1, hf1⟩ := bcell hb1
  have z1 : w.heap.size < w1.heap.size := by have := hb1.size; simp at this; omega
  go_wp2
  go_ret
  exact ⟨rfl, ((Below.refl _ _).alloc (Nat.le_refl _) _).trans (hb1.mono (by simp))⟩
set_option maxRecDepth 100000 in
theorem implSo4 (k : Int) (s : ByteArray) (n : Int) (w : World) (h0 : (k == 0) = false) (h1 : (k == 1) = false) (h2 : (k == 2) = false) (h3 : (k == 3) = false) :
    Calls Tryd.prog 44 #[.agg #[.int .i64 k, .string s, .int .i64 n]] w fun e w' => e = .returned (.string s) ∧ Below w.heap.size w w' := by
  have a2 := as42
  go_enter Tryd.func44, Tryd.ntmps44
  go_wp2_with fail
  refine (valueOf4 _ _ _ _ h0 h1 h2 h3).mono ?_
  rintro e w1 ⟨rfl, hb1⟩
  obtain ⟨hc1, hf1⟩ := bcell hb1
  have z1 : w.heap.size < w1.heap.size := by have := hb1.size; simp at this; omega
  go_wp2
  go_ret
  exact ⟨rfl, ((Below.refl _ _).alloc (Nat.le_refl _) _).trans (hb1.mono (by simp))⟩
theorem implSo_any (k : Int) (s : ByteArray) (n : Int) (w : World) (ht : Tab w) :
    Calls Tryd.prog 44 #[.agg #[.int .i64 k, .string s, .int .i64 n]] w fun e w' => e = .returned (.string (soB k s n)) ∧ Below w.heap.size w w' := by
  rcases ktell k with rfl | rfl | rfl | rfl | ⟨h0, h1, h2, h3⟩
  · exact implSo0 s n w
  · exact implSo1 s n w
  · exact implSo2 s n w ht
  · exact implSo3 s n w
  · rw [show soB k s n = s by simp only [soB, h2]; rfl]
    exact implSo4 k s n w h0 h1 h2 h3
end Go.Proofs.YtchagbhcekehmaaDoor.kit
