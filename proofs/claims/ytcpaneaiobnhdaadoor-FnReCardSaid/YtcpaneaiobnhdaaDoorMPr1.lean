/-
 Contracts of impl's reader of expressions for texts, its small methods, over this seat's translation: sees, take, next, digit, seesRange. Conditions: the reader's cells are known.
-/
import Derived.Test.YtcpaneaiobnhdaaDoorMPr0
import Derived.Test.YtcpaneaiobnhdaaDoorMCur
namespace Go.Proofs.YtcpaneaiobnhdaaDoor.kit
open Go.ChangeShapes Go.WideShapes Go.ChangeAt Go.RowKit
set_option linter.unusedVariables false

/-- A reader in block B: of a text, at a place, with so many brackets open. -/
structure Rdr (w : World) (B : Nat) (s : ByteArray) (i : Nat) (op : Int) : Prop where
 lt : B < w.heap.size
 c0 : w.cell? ⟨B, 0, none⟩ = some (.string s)
 c1 : w.cell? ⟨B, 1, none⟩ = some (.int .i64 (i : Int))
 c2 : w.cell? ⟨B, 2, none⟩ = some (.int .i64 op)
 f1 : w.frozen? ⟨B, 1, none⟩ = false
 f2 : w.frozen? ⟨B, 2, none⟩ = false
theorem Rdr.drewN {w : World} {B : Nat} {s : ByteArray} {i : Nat} {op : Int} (c : Rdr w B s i op) (k : Nat) : Rdr (w.drewN k) B s i op := ⟨c.lt, c.c0, c.c1, c.c2, c.f1, c.f2⟩
theorem Rdr.setI {w : World} {B : Nat} {s : ByteArray} {i : Nat} {op : Int} (c : Rdr w B s i op) (j : Nat) : Rdr (w.setCell ⟨B, 1, none⟩ (.int .i64 (j : Int))) B s j op := by
 refine ⟨by simpa using c.lt, ?_, ?_, ?_, ?_, ?_⟩
 ·exact (World.cell?_setCell_other w _ _ _ (by intro x; cases x)).trans c.c0
 ·exact World.cell?_setCell_same w _ _ c.c1
 ·exact (World.cell?_setCell_other w _ _ _ (by intro x; cases x)).trans c.c2
 ·exact (World.frozen?_setCell ..).trans c.f1
 ·exact (World.frozen?_setCell ..).trans c.f2
theorem Rdr.setO {w : World} {B : Nat} {s : ByteArray} {i : Nat} {op : Int} (c : Rdr w B s i op) (o : Int) : Rdr (w.setCell ⟨B, 2, none⟩ (.int .i64 o)) B s i o := by
 refine ⟨by simpa using c.lt, ?_, ?_, ?_, ?_, ?_⟩
 ·exact (World.cell?_setCell_other w _ _ _ (by intro x; cases x)).trans c.c0
 ·exact (World.cell?_setCell_other w _ _ _ (by intro x; cases x)).trans c.c1
 ·exact World.cell?_setCell_same w _ _ c.c2
 ·exact (World.frozen?_setCell ..).trans c.f1
 ·exact (World.frozen?_setCell ..).trans c.f2
theorem Rdr.kept {w w' : World} {B : Nat} {s : ByteArray} {i : Nat} {op : Int} (c : Rdr w B s i op) (h : Below w.heap.size w w') : Rdr w' B s i op :=
 ⟨Nat.lt_of_lt_of_le c.lt h.size, (h.cell (p := ⟨B, 0, none⟩) c.lt).trans c.c0, (h.cell (p := ⟨B, 1, none⟩) c.lt).trans c.c1, (h.cell (p := ⟨B, 2, none⟩) c.lt).trans c.c2, (h.frozen (p := ⟨B, 1, none⟩) c.lt).trans c.f1, (h.frozen (p := ⟨B, 2, none⟩) c.lt).trans c.f2⟩

set_option maxHeartbeats 400000 in
theorem sees_any (B : Nat) (s : ByteArray) (i : Nat) (op : Int) (c : UInt8) (w : World) (hs : s.size ≤ 1048576) (hr : Rdr w B s i op) :
  Calls Tryd.prog 49 #[.pointer (some ⟨B, 0, none⟩), .int .u8 (c.toNat : Int)] w fun e w' => e = .returned (.bool (atB s i c)) ∧ ∃ n, w' = w.drewN n := by
 obtain ⟨h0, h1, h2, h3, h4, h5⟩ := hr
 have i0 : (0 : Int) ≤ (i : Int) := by omega
 by_cases hlt : i < s.size
 ·have d1 : decide (i < s.size) = true := by simpa using hlt
  have d2 : decide ((i : Int) < (s.size : Int)) = true := by simp; omega
  have i1 : (i : Int) < (s.size : Int) := by omega
  have HA := Lib.hid (atB_in (c := c) hlt)
  go_enter Tryd.func49, Tryd.ntmps49
  go_wp2
  go_quiet (fail)
  go_wp2
  go_ret
  exact ⟨ret_bool HA.out, _, rfl⟩
 ·have d1 : decide (i < s.size) = false := by simpa using hlt
  have d2 : decide ((i : Int) < (s.size : Int)) = false := by simp; omega
  have HA : Hid (atB s i c = false) := Lib.hid (dif_neg hlt)
  go_enter Tryd.func49, Tryd.ntmps49
  go_wp2
  go_quiet (fail)
  go_wp2
  go_ret
  exact ⟨ret_bool HA.out.symm, _, rfl⟩
set_option maxHeartbeats 400000 in
theorem take_yes (B : Nat) (s : ByteArray) (i : Nat) (op : Int) (c : UInt8) (w : World) (hs : s.size ≤ 1048576) (hr : Rdr w B s i op) (hb : atB s i c = true) :
  Calls Tryd.prog 35 #[.pointer (some ⟨B, 0, none⟩), .int .u8 (c.toNat : Int)] w fun e w' => e = .returned (.bool true) ∧ Rdr w' B s (i + 1) op ∧ OnlyB B w w' := by
 have HR := Lib.hid hr
 have hlt := PR.atB_lt hb
 have HB := Lib.hid hb
 clear hb hr
 go_enter Tryd.func35, Tryd.ntmps35
 go_wp2_with fail
 refine (sees_any B s i op c _ hs HR.out).mono ?_
 rintro e w1 ⟨rfl, n, rfl⟩
 rw [HB.out]
 obtain ⟨h0, h1, h2, h3, h4, h5⟩ := HR.out.drewN n
 have HS := Lib.hid (fun j => (HR.out.drewN n).setI j)
 have HO := Lib.hid (fun j => ((OnlyB.refl B w).drewN n).set 1 (.int .i64 j))
 go_wp2_with fail
 go_ret
 exact ⟨rfl, by have := HS.out (i + 1); rwa [show ((i + 1 : Nat) : Int) = (i : Int) + 1 by omega] at this, HO.out _⟩
set_option maxHeartbeats 400000 in
theorem take_no (B : Nat) (s : ByteArray) (i : Nat) (op : Int) (c : UInt8) (w : World) (hs : s.size ≤ 1048576) (hr : Rdr w B s i op) (hb : atB s i c = false) :
  Calls Tryd.prog 35 #[.pointer (some ⟨B, 0, none⟩), .int .u8 (c.toNat : Int)] w fun e w' => e = .returned (.bool false) ∧ ∃ n, w' = w.drewN n := by
 have HR := Lib.hid hr
 have HB := Lib.hid hb
 clear hb hr
 go_enter Tryd.func35, Tryd.ntmps35
 go_wp2_with fail
 refine (sees_any B s i op c _ hs HR.out).mono ?_
 rintro e w1 ⟨rfl, n, rfl⟩
 rw [HB.out]
 go_wp2_with fail
 go_ret
 exact ⟨rfl, _, rfl⟩
set_option maxHeartbeats 400000 in
theorem next_no (B : Nat) (s : ByteArray) (i : Nat) (op : Int) (w : World) (hs : s.size ≤ 1048576) (hr : Rdr w B s i op) (hi : s.size ≤ i) :
  Calls Tryd.prog 74 #[.pointer (some ⟨B, 0, none⟩)] w fun e w' => e = .returned (.tuple #[.int .u8 0, .bool false]) ∧ ∃ n, w' = w.drewN n := by
 obtain ⟨h0, h1, h2, h3, h4, h5⟩ := hr
 have d1 : decide (s.size ≤ i) = true := by simpa using hi
 have d2 : decide ((s.size : Int) ≤ (i : Int)) = true := by simp; omega
 go_enter Tryd.func74, Tryd.ntmps74
 go_wp2
 go_quiet (fail)
 go_wp2
 go_ret2
 exact ⟨rfl, _, rfl⟩
set_option maxHeartbeats 400000 in
theorem next_yes (B : Nat) (s : ByteArray) (i : Nat) (op : Int) (w : World) (hs : s.size ≤ 1048576) (hr : Rdr w B s i op) (hi : i < s.size) :
  Calls Tryd.prog 74 #[.pointer (some ⟨B, 0, none⟩)] w fun e w' => e = .returned (.tuple #[.int .u8 ((at_ s i).toNat : Int), .bool true]) ∧ Rdr w' B s (i + 1) op ∧ OnlyB B w w' := by
 have HR := Lib.hid hr
 obtain ⟨h0, h1, h2, h3, h4, h5⟩ := hr
 have d1 : decide (s.size ≤ i) = false := by simpa using hi
 have d2 : decide ((s.size : Int) ≤ (i : Int)) = false := by simp; omega
 have HA : Hid (at_ s i = s[i]) := Lib.hid ((at_eq s i hi).symm)
 have i0 : (0 : Int) ≤ (i : Int) := by omega
 have i1 : (i : Int) < (s.size : Int) := by omega
 have HS := Lib.hid (fun n => (HR.out.drewN n).setI (i + 1))
 have HO := Lib.hid (fun n => ((OnlyB.refl B w).drewN n).set 1 (.int .i64 ((i + 1 : Nat) : Int)))
 rw [show ((i + 1 : Nat) : Int) = (i : Int) + 1 by omega] at HS HO
 go_enter Tryd.func74, Tryd.ntmps74
 go_wp2
 go_quiet (fail)
 go_wp2
 have s1 : IntKind.i64.wrap ((i : Int) + 1 - 1) = (i : Int) := by rw [IntWalk.i64_in _ (by omega)]; omega
 go_quiet (fail)
 go_wp2
 go_ret2
 exact ⟨by rw [HA.out]; rfl, (HS.out _).drewN _, (HO.out _).drewN _⟩
end Go.Proofs.YtcpaneaiobnhdaaDoor.kit
