/-
  Contracts of spec.ValOk and impl.ValOk over this seat's translation. Conditions: the value's text has at most 1048576 bytes.
-/
import Derived.Test.YtchagbhcekehmaaNo0
import Derived.Test.YtchagbhcekehmaaVag
import Derived.Test.YtchagbhcekehmaaAs0
namespace Go.Proofs.Ytchagbhcekehmaa.kit
open Go.ChangeShapes Go.WideShapes Go.ChangeAt Go.RowKit
set_option linter.unusedVariables false

def voB (k : Int) (s : ByteArray) (n : Int) : Bool := if k == 0 then s.toList.isEmpty && n == 0 else if k == 1 then n == 0 else if k == 2 then s.toList.isEmpty && numB n else if k == 3 then lkB s && n == rnNum s else false
theorem specValOk0 (s : ByteArray) (n : Int) (w : World) :
    Calls Try.prog 49 #[.agg #[.int .i64 0, .string s, .int .i64 n]] w fun e w' => e = .returned (.bool (s.toList.isEmpty && n == 0)) ∧ Below w.heap.size w w' := by
  cases hE : s.toList.isEmpty
  · go_enter Try.func49, Try.ntmps49
    go_wp2
    go_ret
    exact ⟨by simp, (Below.refl _ _).alloc (Nat.le_refl _) _⟩
  · go_enter Try.func49, Try.ntmps49
    go_wp2
    go_ret
    exact ⟨by simp, (Below.refl _ _).alloc (Nat.le_refl _) _⟩
theorem specValOk2 (s : ByteArray) (n : Int) (w : World) :
    Calls Try.prog 49 #[.agg #[.int .i64 2, .string s, .int .i64 n]] w fun e w' => e = .returned (.bool (s.toList.isEmpty && numB n)) ∧ Below w.heap.size w w' := by
  cases hE : s.toList.isEmpty
  · go_enter Try.func49, Try.ntmps49
    go_wp2
    go_ret
    exact ⟨by simp, (Below.refl _ _).alloc (Nat.le_refl _) _⟩
  · go_enter Try.func49, Try.ntmps49
    go_wp2_with (go_at_call 74; refine (is_any _ _).mono ?_; rintro e w' ⟨rfl, rfl⟩)
    go_ret
    exact ⟨by simp, (Below.refl _ _).alloc (Nat.le_refl _) _⟩
theorem specValOk3 (s : ByteArray) (n : Int) (w : World) (hs : s.size ≤ 1048576) :
    Calls Try.prog 49 #[.agg #[.int .i64 3, .string s, .int .i64 n]] w fun e w' => e = .returned (.bool (lkB s && n == rnNum s)) ∧ Below w.heap.size w w' := by
  have C := Lib.hid (fun W => specRn_any s W hs)
  have D := fun W => specLn_any s W hs
  clear hs
  cases hl : lkB s
  all_goals
    rw [hl] at D
    have D := Lib.hid D
    clear hl
    go_enter Try.func49, Try.ntmps49
    go_wp2_with fail
    refine (C.out _).mono ?_
    rintro e w1 ⟨rfl, rfl⟩
    go_wp2_with fail
    refine (D.out _).mono ?_
    rintro e w1 ⟨rfl, rfl⟩
    go_wp2
    go_ret
    exact ⟨by simp, (Below.refl _ _).alloc (Nat.le_refl _) _⟩
theorem specValOk1 (s : ByteArray) (n : Int) (w : World) :
    Calls Try.prog 49 #[.agg #[.int .i64 1, .string s, .int .i64 n]] w fun e w' => e = .returned (.bool (n == 0)) ∧ Below w.heap.size w w' := by
  go_enter Try.func49, Try.ntmps49
  go_wp2
  go_ret
  exact ⟨rfl, (Below.refl _ _).alloc (Nat.le_refl _) _⟩
theorem specValOk4 (k : Int) (s : ByteArray) (n : Int) (w : World) (h0 : (k == 0) = false) (h1 : (k == 1) = false) (h2 : (k == 2) = false) (h3 : (k == 3) = false) :
    Calls Try.prog 49 #[.agg #[.int .i64 k, .string s, .int .i64 n]] w fun e w' => e = .returned (.bool false) ∧ Below w.heap.size w w' := by
  go_enter Try.func49, Try.ntmps49
  go_wp2
  go_ret
  exact ⟨rfl, (Below.refl _ _).alloc (Nat.le_refl _) _⟩
theorem specValOk_any (k : Int) (s : ByteArray) (n : Int) (w : World) (hs : s.size ≤ 1048576) :
    Calls Try.prog 49 #[.agg #[.int .i64 k, .string s, .int .i64 n]] w fun e w' => e = .returned (.bool (voB k s n)) ∧ Below w.heap.size w w' := by
  rcases ktell k with rfl | rfl | rfl | rfl | ⟨h0, h1, h2, h3⟩
  · exact specValOk0 s n w
  · exact specValOk1 s n w
  · exact specValOk2 s n w
  · exact specValOk3 s n w hs
  · rw [show voB k s n = false by simp only [voB, h0, h1, h2, h3]; rfl]
    exact specValOk4 k s n w h0 h1 h2 h3
set_option maxRecDepth 100000 in
theorem implValOk0 (s : ByteArray) (n : Int) (w : World) :
    Calls Try.prog 51 #[.agg #[.int .i64 0, .string s, .int .i64 n]] w fun e w' => e = .returned (.bool (s.toList.isEmpty && n == 0)) ∧ Below w.heap.size w w' := by
  cases hE : s.toList.isEmpty
  all_goals
    have a0 := as00
    go_enter Try.func51, Try.ntmps51
    go_wp2_with fail
    refine (valueOf0 _ _ _).mono ?_
    rintro e w1 ⟨rfl, hb1⟩
    obtain ⟨hc1, hf1⟩ := bcell hb1
    have z1 : w.heap.size < w1.heap.size := by have := hb1.size; simp at this; omega
    go_wp2
    go_ret
    exact ⟨by simp, (((Below.refl _ _).alloc (Nat.le_refl _) _).trans (hb1.mono (by simp))).alloc (by omega) _⟩
set_option maxRecDepth 100000 in
theorem implValOk1 (s : ByteArray) (n : Int) (w : World) :
    Calls Try.prog 51 #[.agg #[.int .i64 1, .string s, .int .i64 n]] w fun e w' => e = .returned (.bool (n == 0)) ∧ Below w.heap.size w w' := by
  have a0 := as10
  have a1 := as11
  go_enter Try.func51, Try.ntmps51
  go_wp2_with fail
  refine (valueOf1 _ _ _).mono ?_
  rintro e w1 ⟨rfl, hb1⟩
  obtain ⟨hc1, hf1⟩ := bcell hb1
  have z1 : w.heap.size < w1.heap.size := by have := hb1.size; simp at this; omega
  go_wp2
  go_ret
  exact ⟨rfl, ((Below.refl _ _).alloc (Nat.le_refl _) _).trans (hb1.mono (by simp))⟩
set_option maxRecDepth 100000 in
theorem implValOk2 (s : ByteArray) (n : Int) (w : World) :
    Calls Try.prog 51 #[.agg #[.int .i64 2, .string s, .int .i64 n]] w fun e w' => e = .returned (.bool (s.toList.isEmpty && numB n)) ∧ Below w.heap.size w w' := by
  cases hE : s.toList.isEmpty
  all_goals
    have a0 := as20
    have a1 := as21
    have a2 := as22
    go_enter Try.func51, Try.ntmps51
    go_wp2_with fail
    refine (valueOf2 _ _ _).mono ?_
    rintro e w1 ⟨rfl, hb1⟩
    obtain ⟨hc1, hf1⟩ := bcell hb1
    have z1 : w.heap.size < w1.heap.size := by have := hb1.size; simp at this; omega
    go_wp2_with (first | (go_at_call 83; refine (number2 _ _).mono ?_; rintro e w' ⟨rfl, rfl⟩) | (go_at_call 73; refine (isNum_any _ _).mono ?_; rintro e w' ⟨rfl, rfl⟩))
    go_ret
    exact ⟨by simp, ((Below.refl _ _).alloc (Nat.le_refl _) _).trans (hb1.mono (by simp))⟩
set_option maxRecDepth 100000 in
theorem implValOk3 (s : ByteArray) (n : Int) (w : World) (hs : s.size ≤ 1048576) :
    Calls Try.prog 51 #[.agg #[.int .i64 3, .string s, .int .i64 n]] w fun e w' => e = .returned (.bool (lkB s && n == rnNum s)) ∧ Below w.heap.size w w' := by
  have C := Lib.hid (fun W => implRn_any s W hs)
  have D := fun W => implLn_any s W hs
  clear hs
  cases hl : lkB s
  all_goals
    rw [hl] at D
    have D := Lib.hid D
    clear hl
    have a0 := as30
    have a1 := as31
    have a2 := as32
    have a3 := as33
    go_enter Try.func51, Try.ntmps51
    go_wp2_with fail
    refine (valueOf3 _ _ _).mono ?_
    rintro e w1 ⟨rfl, hb1⟩
    obtain ⟨hc1, hf1⟩ := bcell hb1
    have z1 : w.heap.size < w1.heap.size := by have := hb1.size; simp at this; omega
    go_wp2_with fail
    refine (C.out _).mono ?_
    rintro e w2 ⟨rfl, hb2⟩
    obtain ⟨hc2, hf2⟩ := bcell hb2
    have y2 := hb2.size
    have z2 : w1.heap.size < w2.heap.size := by simp at y2; omega
    go_wp2_with fail
    refine (D.out _).mono ?_
    rintro e w3 ⟨rfl, hb3⟩
    obtain ⟨hc3, hf3⟩ := bcell hb3
    have y3 := hb3.size
    have z3 : w1.heap.size < w3.heap.size := by omega
    go_wp2
    go_ret
    exact ⟨by first | (simp; done) | simp [BEq.comm], (((((Below.refl _ _).alloc (Nat.le_refl _) _).trans (hb1.mono (by simp))).alloc (by omega) _).trans (hb2.mono (by simp; omega))).trans (hb3.mono (by omega))⟩
set_option maxRecDepth 100000 in
theorem implValOk4 (k : Int) (s : ByteArray) (n : Int) (w : World) (h0 : (k == 0) = false) (h1 : (k == 1) = false) (h2 : (k == 2) = false) (h3 : (k == 3) = false) :
    Calls Try.prog 51 #[.agg #[.int .i64 k, .string s, .int .i64 n]] w fun e w' => e = .returned (.bool false) ∧ Below w.heap.size w w' := by
  have a0 := as40
  have a1 := as41
  have a2 := as42
  have a3 := as43
  go_enter Try.func51, Try.ntmps51
  go_wp2_with fail
  refine (valueOf4 _ _ _ _ h0 h1 h2 h3).mono ?_
  rintro e w1 ⟨rfl, hb1⟩
  go_wp2
  go_ret
  exact ⟨rfl, ((Below.refl _ _).alloc (Nat.le_refl _) _).trans (hb1.mono (by simp))⟩
theorem implValOk_any (k : Int) (s : ByteArray) (n : Int) (w : World) (hs : s.size ≤ 1048576) :
    Calls Try.prog 51 #[.agg #[.int .i64 k, .string s, .int .i64 n]] w fun e w' => e = .returned (.bool (voB k s n)) ∧ Below w.heap.size w w' := by
  rcases ktell k with rfl | rfl | rfl | rfl | ⟨h0, h1, h2, h3⟩
  · exact implValOk0 s n w
  · exact implValOk1 s n w
  · exact implValOk2 s n w
  · exact implValOk3 s n w hs
  · rw [show voB k s n = false by simp only [voB, h0, h1, h2, h3]; rfl]
    exact implValOk4 k s n w h0 h1 h2 h3
end Go.Proofs.Ytchagbhcekehmaa.kit
