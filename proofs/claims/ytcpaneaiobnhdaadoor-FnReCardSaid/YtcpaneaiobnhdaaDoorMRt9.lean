/-
 Contracts of slices.Index and slices.Contains at ints over this seat's translation. Conditions: the slice's numbers lie in one block.
-/
import Derived.Test.YtcpaneaiobnhdaaDoorMInfo
import Derived.Deep.LoopGhost
namespace Go.Proofs.YtcpaneaiobnhdaaDoor.kit
open Go.ChangeShapes Go.WideShapes Go.ChangeAt Go.RowKit
set_option linter.unusedVariables false

/-- The numbers ks lie in the block g, from its beginning on. -/
def IntsAt (w : World) (g : Nat) (ks : List Int) : Prop := ∀ j, j < ks.length → w.cell? ⟨g, j, none⟩ = some (.int .i64 (ks.getD j 0))
theorem has_take (ks : List Int) (k : Int) (j : Nat) (hj : j < ks.length) : (ks.take (j + 1)).contains k = ((ks.take j).contains k || k == ks.getD j 0) := by
 rw [List.take_succ_eq_append_getElem hj, Bool.eq_iff_iff, List.getD_eq_getElem?_getD, List.getElem?_eq_getElem hj]
 simp only [List.contains_iff_mem, List.mem_append, List.mem_singleton, Bool.or_eq_true, beq_iff_eq, Option.getD_some]
theorem has_mono (ks : List Int) (k : Int) (j : Nat) (h : (ks.take j).contains k = true) : ks.contains k = true := by
 simp only [List.contains_iff_mem] at *
 exact List.mem_of_mem_take h
def hasB (ks : List Int) (k : Int) : Bool := ks.contains k
set_option maxRecDepth 100000 in
set_option maxHeartbeats 1000000 in
theorem index_any (ks : List Int) (g cap : Nat) (k : Int) (w : World) (hn : ks.length ≤ 100) (h : IntsAt w g ks) :
  Calls Tryd.prog 71 #[.slice (some ⟨g, 0, none⟩) ks.length cap, .int .i64 k] w fun e w' => ∃ z : Int, e = .returned (.int .i64 z) ∧ (0 ≤ z ↔ hasB ks k = true) ∧ w = w' := by
 have HI := Lib.hid h
 clear h
 go_enter Tryd.func71, Tryd.ntmps71
 go_wp2_with fail
 go_loop [8] (fun i => ∃ j : Nat, j ≤ ks.length ∧ i = .int .i64 (j : Int) ∧ (ks.take j).contains k = false) (fun i => ks.length - (intOf i).toNat)
 case atStart => exact ⟨0, Nat.zero_le _, rfl, rfl⟩
 case round =>
  obtain ⟨j, hj, rfl, hno⟩ := hrel
  have HN := Lib.hid hno
  clear hno
  by_cases hlt : j < ks.length
  ·have hc := HI.out j hlt
   have HT := Lib.hid (has_take ks k j hlt)
   have HM := Lib.hid (show (ks.take (j + 1)).contains k = true → hasB ks k = true from has_mono ks k (j + 1))
   have hj0 : (0 : Int) ≤ j := by omega
   generalize ks.getD j 0 = x at *
   cases hx : (k == x)
   ·go_wp2_with fail
    go_round
    case rel => exact ⟨j + 1, by omega, by go_num, by rw [HT.out, HN.out, hx]; rfl⟩
    case measure => simp [intOf]; omega
   ·go_wp2_with fail
    go_ret
    exact ⟨_, rfl, ⟨fun _ => HM.out (by rw [HT.out, hx, Bool.or_true]), fun _ => hj0⟩, rfl⟩
  ·obtain rfl : j = ks.length := by omega
   have HA := Lib.hid (show hasB ks k = false by unfold hasB; have := HN.out; rwa [List.take_length] at this)
   go_wp2_with fail
   go_ret
   exact ⟨_, rfl, ⟨fun h => by simp at h, fun h => by rw [HA.out] at h; cases h⟩, rfl⟩
theorem contains_any (ks : List Int) (g cap : Nat) (k : Int) (w : World) (hn : ks.length ≤ 100) (h : IntsAt w g ks) :
  Calls Tryd.prog 56 #[.slice (some ⟨g, 0, none⟩) ks.length cap, .int .i64 k] w fun e w' => e = .returned (.bool (hasB ks k)) ∧ w = w' := by
 have HI := Lib.hid (index_any ks g cap k w hn h)
 go_enter Tryd.func56, Tryd.ntmps56
 go_wp2_with fail
 refine HI.out.mono ?_
 rintro e w1 ⟨z, rfl, hz, rfl⟩
 have HZ := Lib.hid (show decide (0 ≤ z) = hasB ks k by rw [Bool.eq_iff_iff, decide_eq_true_eq]; exact hz)
 clear hz
 go_wp2_with fail
 go_ret
 exact ⟨ret_bool HZ.out, rfl⟩
end Go.Proofs.YtcpaneaiobnhdaaDoor.kit
