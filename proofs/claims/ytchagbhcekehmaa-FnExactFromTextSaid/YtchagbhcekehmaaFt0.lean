/-
  Contracts of spec.FromText, impl.FromText and laws.eqVal over this seat's translation. Conditions: the text has at most 1048576 bytes.
-/
import Derived.Test.YtchagbhcekehmaaLn0
import Derived.Test.YtchagbhcekehmaaVag
namespace Go.Proofs.Ytchagbhcekehmaa.kit
open Go.ChangeShapes Go.WideShapes Go.ChangeAt Go.RowKit
set_option linter.unusedVariables false

def ftV (s : ByteArray) : Value := if lkB s then .agg #[.int .i64 3, .string s, .int .i64 (rnNum s)] else .agg #[.int .i64 1, .string s, .int .i64 0]
theorem specFt_any (s : ByteArray) (w : World) (hs : s.size ≤ 1048576) :
    Calls Try.prog 52 #[.string s] w fun e w' => e = .returned (ftV s) ∧ Below w.heap.size w w' := by
  cases hl : lkB s
  · have E := Lib.hid (show ftV s = .agg #[.int .i64 1, .string s, .int .i64 0] by simp [ftV, hl])
    have C := fun W => specLn_any s W hs
    rw [hl] at C
    have C := Lib.hid C
    clear hl hs
    go_enter Try.func52, Try.ntmps52
    go_wp2_with fail
    refine (C.out _).mono ?_
    rintro e w1 ⟨rfl, rfl⟩
    go_wp2
    exact bodyPost_ret (v := .agg #[.int .i64 1, .string s, .int .i64 0]) (by simp [results, Try.results52, go_sem]) rfl ⟨by rw [E.out], ((Below.refl _ _).alloc (Nat.le_refl _) _)⟩
  · have E := Lib.hid (show ftV s = .agg #[.int .i64 3, .string s, .int .i64 (rnNum s)] by simp [ftV, hl])
    have C := fun W => specLn_any s W hs
    rw [hl] at C
    have C := Lib.hid C
    have D := Lib.hid (fun W => specRn_any s W hs)
    clear hl hs
    go_enter Try.func52, Try.ntmps52
    go_wp2_with fail
    refine (C.out _).mono ?_
    rintro e w1 ⟨rfl, rfl⟩
    go_wp2_with fail
    refine (D.out _).mono ?_
    rintro e w1 ⟨rfl, rfl⟩
    go_wp2
    exact bodyPost_ret (v := .agg #[.int .i64 3, .string s, .int .i64 (rnNum s)]) (by simp [results, Try.results52, go_sem]) rfl ⟨by rw [E.out], ((Below.refl _ _).alloc (Nat.le_refl _) _)⟩
theorem implFt_any (s : ByteArray) (w : World) (hs : s.size ≤ 1048576) :
    Calls Try.prog 53 #[.string s] w fun e w' => e = .returned (ftV s) ∧ Below w.heap.size w w' := by
  cases hl : lkB s
  · have E := Lib.hid (show ftV s = .agg #[.int .i64 1, .string s, .int .i64 0] by simp [ftV, hl])
    have C := fun W => implLn_any s W hs
    rw [hl] at C
    have C := Lib.hid C
    clear hl hs
    go_enter Try.func53, Try.ntmps53
    go_wp2_with fail
    refine (C.out _).mono ?_
    rintro e w1 ⟨rfl, hb1⟩
    obtain ⟨hc1, hf1⟩ := bcell hb1
    have z1 : w.heap.size < w1.heap.size := by have := hb1.size; simp at this; omega
    go_wp2
    exact bodyPost_ret (v := .agg #[.int .i64 1, .string s, .int .i64 0]) (by simp [results, Try.results53, go_sem, hc1]) rfl ⟨by rw [E.out], (((((Below.refl _ _).alloc (Nat.le_refl _) _).trans (hb1.mono (by simp))).setCell (Nat.le_refl _) _).setCell (Nat.le_refl _) _).setCell (Nat.le_refl _) _⟩
  · have E := Lib.hid (show ftV s = .agg #[.int .i64 3, .string s, .int .i64 (rnNum s)] by simp [ftV, hl])
    have C := fun W => implLn_any s W hs
    rw [hl] at C
    have C := Lib.hid C
    have D := Lib.hid (fun W => implRn_any s W hs)
    clear hl hs
    go_enter Try.func53, Try.ntmps53
    go_wp2_with fail
    refine (C.out _).mono ?_
    rintro e w1 ⟨rfl, hb1⟩
    obtain ⟨hc1, hf1⟩ := bcell hb1
    have z1 : w.heap.size < w1.heap.size := by have := hb1.size; simp at this; omega
    go_wp2_with fail
    refine (D.out _).mono ?_
    rintro e w2 ⟨rfl, hb2⟩
    obtain ⟨hc2, hf2⟩ := bcell hb2
    have y2 := hb2.size
    have z2 : w.heap.size < w2.heap.size := by omega
    go_wp2
    exact bodyPost_ret (v := .agg #[.int .i64 3, .string s, .int .i64 (rnNum s)]) (by simp [results, Try.results53, go_sem, hc1, hc2, z1]) rfl ⟨by rw [E.out], ((((((Below.refl _ _).alloc (Nat.le_refl _) _).trans (hb1.mono (by simp))).trans (hb2.mono (by omega))).setCell (Nat.le_refl _) _).setCell (Nat.le_refl _) _).setCell (Nat.le_refl _) _⟩
theorem eqVal_same (k : Int) (s : ByteArray) (n : Int) (w : World) :
    Calls Try.prog 54 #[.agg #[.int .i64 k, .string s, .int .i64 n], .agg #[.int .i64 k, .string s, .int .i64 n]] w fun e w' => e = .returned (.bool true) ∧ Below w.heap.size w w' := by
  go_enter Try.func54, Try.ntmps54
  go_wp2
  go_ret
  exact ⟨rfl, ((Below.refl _ _).alloc (Nat.le_refl _) _).alloc (by simp) _⟩
end Go.Proofs.Ytchagbhcekehmaa.kit
