/-
  Contracts of impl.Whole and impl.toldNumber over this seat's translation. Conditions: the tables are as listed.
-/
import Derived.Test.YthffjcclcladoaaGreatDoorMBs2
import Derived.Test.YthffjcclcladoaaGreatDoorMFx0
import Derived.Test.YthffjcclcladoaaGreatDoorMTab0
namespace Go.Proofs.YthffjcclcladoaaGreatDoor.kit
open Go.ChangeShapes Go.WideShapes Go.ChangeAt Go.RowKit
set_option linter.unusedVariables false

theorem whl_any (a : Int) (w : World) (h1 : -9223372036854775808 ≤ a) (h2 : a ≤ 9223372036854775807) :
    Calls Tryz.prog 125 #[.int .i64 a] w fun e w' => e = .returned (.int .i64 (a.tdiv 1000000 * 1000000)) ∧ w = w' := by
  have e : a - a.tmod 1000000 = a.tdiv 1000000 * 1000000 := by
    have := Int.tmod_add_mul_tdiv a 1000000
    omega
  have b1 : -9223372036854775808 ≤ a.tdiv 1000000 * 1000000 ∧ a.tdiv 1000000 * 1000000 ≤ 9223372036854775807 := by
    by_cases h : 0 ≤ a
    · rw [Int.tdiv_eq_ediv_of_nonneg h]; omega
    · obtain ⟨n, rfl⟩ : ∃ n : Int, a = -n := ⟨-a, by omega⟩
      rw [Int.neg_tdiv, Int.tdiv_eq_ediv_of_nonneg (by omega)]; omega
  have E := Lib.hid e
  obtain ⟨b2, b3⟩ := b1
  have b4 : -9223372036854775808 ≤ a - a.tmod 1000000 := by omega
  have b5 : a - a.tmod 1000000 ≤ 9223372036854775807 := by omega
  clear e
  go_enter Tryz.func125, Tryz.ntmps125
  go_wp2
  go_ret
  exact ⟨ret_int E.out, rfl⟩
theorem quo_mul (a : Int) : (a.tdiv 1000000 * 1000000).tdiv 1000000 = a.tdiv 1000000 := Int.mul_tdiv_cancel _ (by decide)
theorem tdiv_bd (a : Int) (h1 : -9223372036854775808 ≤ a) (h2 : a ≤ 9223372036854775807) : -9223372036855 ≤ a.tdiv 1000000 ∧ a.tdiv 1000000 ≤ 9223372036855 := by
  by_cases h : 0 ≤ a
  · rw [Int.tdiv_eq_ediv_of_nonneg h]; omega
  · obtain ⟨n, rfl⟩ : ∃ n : Int, a = -n := ⟨-a, by omega⟩
    rw [Int.neg_tdiv, Int.tdiv_eq_ediv_of_nonneg (by omega)]; omega
set_option maxRecDepth 100000 in
set_option maxHeartbeats 1000000 in
theorem tn_o (fl : ByteArray) (wd pc a : Int) (pr : Bool) (w : World) (h1 : -9223372036854775808 ≤ a) (h2 : a ≤ 9223372036854775807) (ht : Tab w) (hbt : BT w) :
    Calls Tryz.prog 94 #[.agg #[.string fl, .int .i64 wd, .bool pr, .int .i64 pc, .int .u8 111], .int .i64 a] w fun e w' => e = .returned (.string ⟨(bsT (a.tdiv 1000000) 8).toArray⟩) ∧ Below w.heap.size w w' := by
  have hq := tdiv_bd a h1 h2
  have W := Lib.hid (fun W => whl_any a W h1 h2)
  have hqm := quo_mul a
  have HBA := Lib.hid (show ∀ o, Below w.heap.size w (w.alloc o) from fun o => (Below.refl _ w).alloc (Nat.le_refl _) o)
  have HT := Lib.hid (show ∀ o, Tab (w.alloc o) from fun o => ht.on (HBA.out o))
  have HBT := Lib.hid (show ∀ o, BT (w.alloc o) from fun o => hbt.kept (HBA.out o))
  have C := Lib.hid (fun W (_ : Tab W) (h : BT W) => implBase_any (a.tdiv 1000000) 8 W (by omega) (by omega) h)
  clear ht hbt h1 h2
  obtain ⟨hq1, hq2⟩ := hq
  generalize a.tdiv 1000000 = q at *
  generalize hz : q * 1000000 = z at *
  clear hz
  go_enter Tryz.func94, Tryz.ntmps94
  go_wp2_with fail
  refine (W.out _).mono ?_
  rintro e w1 ⟨rfl, rfl⟩
  go_wp2_with fail
  refine (C.out _ (HT.out _) (HBT.out _)).mono ?_
  rintro e w1 ⟨rfl, hb1⟩
  go_wp2
  go_ret
  exact ⟨rfl, (HBA.out _).trans (hb1.mono (by simp))⟩
set_option maxRecDepth 100000 in
set_option maxHeartbeats 1000000 in
theorem tn_x (fl : ByteArray) (wd pc a : Int) (pr : Bool) (w : World) (h1 : -9223372036854775808 ≤ a) (h2 : a ≤ 9223372036854775807) (ht : Tab w) (hbt : BT w) :
    Calls Tryz.prog 94 #[.agg #[.string fl, .int .i64 wd, .bool pr, .int .i64 pc, .int .u8 120], .int .i64 a] w fun e w' => e = .returned (.string ⟨(bsT (a.tdiv 1000000) 16).toArray⟩) ∧ Below w.heap.size w w' := by
  have hq := tdiv_bd a h1 h2
  have W := Lib.hid (fun W => whl_any a W h1 h2)
  have hqm := quo_mul a
  have HBA := Lib.hid (show ∀ o, Below w.heap.size w (w.alloc o) from fun o => (Below.refl _ w).alloc (Nat.le_refl _) o)
  have HT := Lib.hid (show ∀ o, Tab (w.alloc o) from fun o => ht.on (HBA.out o))
  have HBT := Lib.hid (show ∀ o, BT (w.alloc o) from fun o => hbt.kept (HBA.out o))
  have C := Lib.hid (fun W (_ : Tab W) (h : BT W) => implBase_any (a.tdiv 1000000) 16 W (by omega) (by omega) h)
  clear ht hbt h1 h2
  obtain ⟨hq1, hq2⟩ := hq
  generalize a.tdiv 1000000 = q at *
  generalize hz : q * 1000000 = z at *
  clear hz
  go_enter Tryz.func94, Tryz.ntmps94
  go_wp2_with fail
  refine (W.out _).mono ?_
  rintro e w1 ⟨rfl, rfl⟩
  go_wp2_with fail
  refine (C.out _ (HT.out _) (HBT.out _)).mono ?_
  rintro e w1 ⟨rfl, hb1⟩
  go_wp2
  go_ret
  exact ⟨rfl, (HBA.out _).trans (hb1.mono (by simp))⟩
set_option maxRecDepth 100000 in
set_option maxHeartbeats 1000000 in
theorem tn_d (fl : ByteArray) (wd pc a : Int) (pr : Bool) (w : World) (h1 : -9223372036854775808 ≤ a) (h2 : a ≤ 9223372036854775807) (ht : Tab w) (hbt : BT w) :
    Calls Tryz.prog 94 #[.agg #[.string fl, .int .i64 wd, .bool pr, .int .i64 pc, .int .u8 100], .int .i64 a] w fun e w' => e = .returned (.string ⟨(Lib.itoa (a.tdiv 1000000)).toArray⟩) ∧ Below w.heap.size w w' := by
  have hq := tdiv_bd a h1 h2
  have W := Lib.hid (fun W => whl_any a W h1 h2)
  have hqm := quo_mul a
  have HBA := Lib.hid (show ∀ o, Below w.heap.size w (w.alloc o) from fun o => (Below.refl _ w).alloc (Nat.le_refl _) o)
  have HT := Lib.hid (show ∀ o, Tab (w.alloc o) from fun o => ht.on (HBA.out o))
  have HBT := Lib.hid (show ∀ o, BT (w.alloc o) from fun o => hbt.kept (HBA.out o))
  have C := Lib.hid (fun W (h : Tab W) (_ : BT W) => implDec_any (a.tdiv 1000000) W (by omega) (by omega) h)
  clear ht hbt h1 h2
  obtain ⟨hq1, hq2⟩ := hq
  generalize a.tdiv 1000000 = q at *
  generalize hz : q * 1000000 = z at *
  clear hz
  go_enter Tryz.func94, Tryz.ntmps94
  go_wp2_with fail
  refine (W.out _).mono ?_
  rintro e w1 ⟨rfl, rfl⟩
  go_wp2_with fail
  refine (C.out _ (HT.out _) (HBT.out _)).mono ?_
  rintro e w1 ⟨rfl, hb1⟩
  go_wp2
  go_ret
  exact ⟨rfl, (HBA.out _).trans (hb1.mono (by simp))⟩
set_option maxRecDepth 100000 in
set_option maxHeartbeats 1000000 in
theorem tn_i (fl : ByteArray) (wd pc a : Int) (pr : Bool) (w : World) (h1 : -9223372036854775808 ≤ a) (h2 : a ≤ 9223372036854775807) (ht : Tab w) (hbt : BT w) :
    Calls Tryz.prog 94 #[.agg #[.string fl, .int .i64 wd, .bool pr, .int .i64 pc, .int .u8 105], .int .i64 a] w fun e w' => e = .returned (.string ⟨(Lib.itoa (a.tdiv 1000000)).toArray⟩) ∧ Below w.heap.size w w' := by
  have hq := tdiv_bd a h1 h2
  have W := Lib.hid (fun W => whl_any a W h1 h2)
  have hqm := quo_mul a
  have HBA := Lib.hid (show ∀ o, Below w.heap.size w (w.alloc o) from fun o => (Below.refl _ w).alloc (Nat.le_refl _) o)
  have HT := Lib.hid (show ∀ o, Tab (w.alloc o) from fun o => ht.on (HBA.out o))
  have HBT := Lib.hid (show ∀ o, BT (w.alloc o) from fun o => hbt.kept (HBA.out o))
  have C := Lib.hid (fun W (h : Tab W) (_ : BT W) => implDec_any (a.tdiv 1000000) W (by omega) (by omega) h)
  clear ht hbt h1 h2
  obtain ⟨hq1, hq2⟩ := hq
  generalize a.tdiv 1000000 = q at *
  generalize hz : q * 1000000 = z at *
  clear hz
  go_enter Tryz.func94, Tryz.ntmps94
  go_wp2_with fail
  refine (W.out _).mono ?_
  rintro e w1 ⟨rfl, rfl⟩
  go_wp2_with fail
  refine (C.out _ (HT.out _) (HBT.out _)).mono ?_
  rintro e w1 ⟨rfl, hb1⟩
  go_wp2
  go_ret
  exact ⟨rfl, (HBA.out _).trans (hb1.mono (by simp))⟩
set_option maxRecDepth 100000 in
set_option maxHeartbeats 1000000 in
theorem tn_fp (fl : ByteArray) (wd pc a : Int) (pr : Bool) (w : World) (h1 : -9223372036854775808 ≤ a) (h2 : a ≤ 9223372036854775807) (ht : Tab w) (hbt : BT w) :
    Calls Tryz.prog 94 #[.agg #[.string fl, .int .i64 wd, .bool true, .int .i64 pc, .int .u8 102], .int .i64 a] w fun e w' => e = .returned (.string (fxA a pc)) ∧ Below w.heap.size w w' := by
  have hq := tdiv_bd a h1 h2
  have W := Lib.hid (fun W => whl_any a W h1 h2)
  have hqm := quo_mul a
  have HBA := Lib.hid (show ∀ o, Below w.heap.size w (w.alloc o) from fun o => (Below.refl _ w).alloc (Nat.le_refl _) o)
  have HT := Lib.hid (show ∀ o, Tab (w.alloc o) from fun o => ht.on (HBA.out o))
  have HBT := Lib.hid (show ∀ o, BT (w.alloc o) from fun o => hbt.kept (HBA.out o))
  have C := Lib.hid (fun W (h : Tab W) (_ : BT W) => implFx_any a pc W h)
  clear ht hbt h1 h2
  obtain ⟨hq1, hq2⟩ := hq
  generalize a.tdiv 1000000 = q at *
  generalize hz : q * 1000000 = z at *
  clear hz
  go_enter Tryz.func94, Tryz.ntmps94
  go_wp2_with fail
  refine (W.out _).mono ?_
  rintro e w1 ⟨rfl, rfl⟩
  go_wp2_with fail
  refine (C.out _ (HT.out _) (HBT.out _)).mono ?_
  rintro e w1 ⟨rfl, hb1⟩
  go_wp2
  go_ret
  exact ⟨rfl, (HBA.out _).trans (hb1.mono (by simp))⟩
set_option maxRecDepth 100000 in
set_option maxHeartbeats 1000000 in
theorem tn_fn (fl : ByteArray) (wd pc a : Int) (pr : Bool) (w : World) (h1 : -9223372036854775808 ≤ a) (h2 : a ≤ 9223372036854775807) (ht : Tab w) (hbt : BT w) :
    Calls Tryz.prog 94 #[.agg #[.string fl, .int .i64 wd, .bool false, .int .i64 pc, .int .u8 102], .int .i64 a] w fun e w' => e = .returned (.string (fxA a 6)) ∧ Below w.heap.size w w' := by
  have hq := tdiv_bd a h1 h2
  have W := Lib.hid (fun W => whl_any a W h1 h2)
  have hqm := quo_mul a
  have HBA := Lib.hid (show ∀ o, Below w.heap.size w (w.alloc o) from fun o => (Below.refl _ w).alloc (Nat.le_refl _) o)
  have HT := Lib.hid (show ∀ o, Tab (w.alloc o) from fun o => ht.on (HBA.out o))
  have HBT := Lib.hid (show ∀ o, BT (w.alloc o) from fun o => hbt.kept (HBA.out o))
  have C := Lib.hid (fun W (h : Tab W) (_ : BT W) => implFx_any a 6 W h)
  clear ht hbt h1 h2
  obtain ⟨hq1, hq2⟩ := hq
  generalize a.tdiv 1000000 = q at *
  generalize hz : q * 1000000 = z at *
  clear hz
  go_enter Tryz.func94, Tryz.ntmps94
  go_wp2_with fail
  refine (W.out _).mono ?_
  rintro e w1 ⟨rfl, rfl⟩
  go_wp2_with fail
  refine (C.out _ (HT.out _) (HBT.out _)).mono ?_
  rintro e w1 ⟨rfl, hb1⟩
  go_wp2
  go_ret
  exact ⟨rfl, (HBA.out _).trans (hb1.mono (by simp))⟩
end Go.Proofs.YthffjcclcladoaaGreatDoor.kit
