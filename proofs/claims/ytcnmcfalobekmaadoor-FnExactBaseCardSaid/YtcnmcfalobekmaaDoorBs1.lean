/-
  Contract of spec.Base over this seat's translation: a number's digits by its 64 bits in base 8 or 16. Conditions: none.
-/
import Derived.Test.YtcnmcfalobekmaaDoorBs0
import Derived.Test.YtcnmcfalobekmaaDoorRows
namespace Go.Proofs.YtcnmcfalobekmaaDoor.kit
open Go.ChangeShapes Go.WideShapes Go.ChangeAt Go.RowKit
set_option linter.unusedVariables false

theorem wrap_u64i (n : Int) (h0 : 0 ≤ n) (h : n < 18446744073709551616) : IntKind.u64.wrap n = n := by
  unfold IntKind.wrap
  simp [IntKind.signed, IntKind.bits]
  omega
set_option maxHeartbeats 1000000 in
theorem specBase8 (N : Nat) (n : Int) (w : World) (hN : N < 18446744073709551616) (hw : IntKind.u64.wrap n = (N : Int)) :
    Calls Tryd.prog 24 #[.int .i64 n, .int .i64 8] w fun e w' => e = .returned (.string ⟨(bdg 8 N).toArray⟩) ∧ w = w' := by
  have HN := Lib.hid hN
  by_cases h0 : N = 0
  · have HZ := Lib.hid (show bdg 8 N = [48] by rw [h0, bdg_small (by omega)]; rfl)
    subst h0
    clear hN
    go_enter Tryd.func24, Tryd.ntmps24
    go_wp2
    go_loop [5, 6] (fun m o => m = .int .u64 0 ∧ o = .string ⟨#[]⟩) (fun _ _ => 0)
    case atStart => exact ⟨rfl, rfl⟩
    case round =>
      obtain ⟨rfl, rfl⟩ := hrel
      go_wp2
      go_ret
      exact ⟨ret_str (by rw [HZ.out]), rfl⟩
  have HZ := Lib.hid (show bdg 8 N = bfr 8 N by rw [bfr, if_neg h0])
  have HNE := Lib.hid (bdg_ne 8 N)
  clear h0
  go_enter Tryd.func24, Tryd.ntmps24
  go_wp2
  go_loop [5, 6] (fun m o => ∃ (l : List UInt8) (j : Nat), o = .string ⟨l.toArray⟩ ∧ m = .int .u64 (j : Int) ∧ j < 18446744073709551616 ∧ bdg 8 N = bfr 8 j ++ l) (fun m _ => (intOf m).toNat)
  case atStart => exact ⟨[], N, rfl, rfl, HN.out, by rw [HZ.out]; simp⟩
  case round =>
    obtain ⟨l, j, rfl, rfl, hj, hfr⟩ := hrel
    have hl := bfr_len (by omega) HN.out hfr
    have HF := Lib.hid hfr; clear hfr
    by_cases hz : j = 0
    · subst hz
      have HL := Lib.hid (show bdg 8 N = l by have := HF.out; rwa [bfr_zero, List.nil_append] at this)
      have hln : l ≠ [] := by rw [← HL.out]; exact HNE.out
      have hem : (ByteArray.mk l.toArray).toList.isEmpty = false := not_empty_of_size (by
        have : (ByteArray.mk l.toArray).size = l.length := by simp [ByteArray.size]
        rw [this]; intro h; exact hln (List.length_eq_zero_iff.1 h))
      have E := Lib.hid (show (ByteArray.mk l.toArray) = ⟨(bdg 8 N).toArray⟩ by rw [HL.out])
      clear hln
      generalize (ByteArray.mk l.toArray) = x at *
      go_wp2
      go_ret
      exact ⟨ret_str E.out, rfl⟩
    · have e1 : (0 : Int) < (j : Int) := by omega
      have HS := Lib.hid (bfr_step (b := 8) (by omega) hz)
      have hsl := hex_slice (P := Tryd.prog) Tryd.underlying9 (j % 8) (by omega)
      rw [show ((j % 8 : Nat) : Int) = (j : Int) % 8 by omega] at hsl
      have hb0 : 0 ≤ (j : Int) % 8 := by omega
      have hb1 : (j : Int) % 8 < 8 := by omega
      have hw1 : IntKind.u64.wrap ((j : Int) % 8 + 1) = (j : Int) % 8 + 1 := wrap_u64i _ (by omega) (by omega)
      clear hz
      go_wp2
      go_round
      case rel => exact ⟨hexD (j % 8) :: l, j / 8, by rw [join_hex], by go_num, by omega, by rw [HF.out, HS.out]; simp⟩
      case measure => simp [intOf] at e1 ⊢; omega
set_option maxHeartbeats 1000000 in
theorem specBase16 (N : Nat) (n : Int) (w : World) (hN : N < 18446744073709551616) (hw : IntKind.u64.wrap n = (N : Int)) :
    Calls Tryd.prog 24 #[.int .i64 n, .int .i64 16] w fun e w' => e = .returned (.string ⟨(bdg 16 N).toArray⟩) ∧ w = w' := by
  have HN := Lib.hid hN
  by_cases h0 : N = 0
  · have HZ := Lib.hid (show bdg 16 N = [48] by rw [h0, bdg_small (by omega)]; rfl)
    subst h0
    clear hN
    go_enter Tryd.func24, Tryd.ntmps24
    go_wp2
    go_loop [5, 6] (fun m o => m = .int .u64 0 ∧ o = .string ⟨#[]⟩) (fun _ _ => 0)
    case atStart => exact ⟨rfl, rfl⟩
    case round =>
      obtain ⟨rfl, rfl⟩ := hrel
      go_wp2
      go_ret
      exact ⟨ret_str (by rw [HZ.out]), rfl⟩
  have HZ := Lib.hid (show bdg 16 N = bfr 16 N by rw [bfr, if_neg h0])
  have HNE := Lib.hid (bdg_ne 16 N)
  clear h0
  go_enter Tryd.func24, Tryd.ntmps24
  go_wp2
  go_loop [5, 6] (fun m o => ∃ (l : List UInt8) (j : Nat), o = .string ⟨l.toArray⟩ ∧ m = .int .u64 (j : Int) ∧ j < 18446744073709551616 ∧ bdg 16 N = bfr 16 j ++ l) (fun m _ => (intOf m).toNat)
  case atStart => exact ⟨[], N, rfl, rfl, HN.out, by rw [HZ.out]; simp⟩
  case round =>
    obtain ⟨l, j, rfl, rfl, hj, hfr⟩ := hrel
    have hl := bfr_len (by omega) HN.out hfr
    have HF := Lib.hid hfr; clear hfr
    by_cases hz : j = 0
    · subst hz
      have HL := Lib.hid (show bdg 16 N = l by have := HF.out; rwa [bfr_zero, List.nil_append] at this)
      have hln : l ≠ [] := by rw [← HL.out]; exact HNE.out
      have hem : (ByteArray.mk l.toArray).toList.isEmpty = false := not_empty_of_size (by
        have : (ByteArray.mk l.toArray).size = l.length := by simp [ByteArray.size]
        rw [this]; intro h; exact hln (List.length_eq_zero_iff.1 h))
      have E := Lib.hid (show (ByteArray.mk l.toArray) = ⟨(bdg 16 N).toArray⟩ by rw [HL.out])
      clear hln
      generalize (ByteArray.mk l.toArray) = x at *
      go_wp2
      go_ret
      exact ⟨ret_str E.out, rfl⟩
    · have e1 : (0 : Int) < (j : Int) := by omega
      have HS := Lib.hid (bfr_step (b := 16) (by omega) hz)
      have hsl := hex_slice (P := Tryd.prog) Tryd.underlying9 (j % 16) (by omega)
      rw [show ((j % 16 : Nat) : Int) = (j : Int) % 16 by omega] at hsl
      have hb0 : 0 ≤ (j : Int) % 16 := by omega
      have hb1 : (j : Int) % 16 < 16 := by omega
      have hw1 : IntKind.u64.wrap ((j : Int) % 16 + 1) = (j : Int) % 16 + 1 := wrap_u64i _ (by omega) (by omega)
      clear hz
      go_wp2
      go_round
      case rel => exact ⟨hexD (j % 16) :: l, j / 16, by rw [join_hex], by go_num, by omega, by rw [HF.out, HS.out]; simp⟩
      case measure => simp [intOf] at e1 ⊢; omega
theorem specBase_out (n b : Int) (w : World) (h : b ≠ 8 ∧ b ≠ 16) :
    Calls Tryd.prog 24 #[.int .i64 n, .int .i64 b] w fun e w' => e = .returned (.string ⟨#[]⟩) ∧ w = w' := by
  have h1 : (b != 8) = true := by simpa using h.1
  have h2 : (b != 16) = true := by simpa using h.2
  clear h
  go_enter Tryd.func24, Tryd.ntmps24
  go_wp2
  go_ret
  exact ⟨rfl, rfl⟩
theorem specBase_any (n b : Int) (w : World) (h1 : -9223372036854775808 ≤ n) (h2 : n ≤ 9223372036854775807) :
    Calls Tryd.prog 24 #[.int .i64 n, .int .i64 b] w fun e w' => e = .returned (.string ⟨(bsT n b).toArray⟩) ∧ w = w' := by
  obtain ⟨N, hN, hw, he⟩ := u64_of n h1 h2
  by_cases c : b = 8 ∨ b = 16
  · rw [bsT, if_pos c, he]
    rcases c with rfl | rfl
    · exact specBase8 N n w hN hw
    · exact specBase16 N n w hN hw
  · rw [bsT, if_neg c]
    exact specBase_out n b w (by omega)
end Go.Proofs.YtcnmcfalobekmaaDoor.kit
