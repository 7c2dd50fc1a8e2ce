/-
  Contract of spec.DecText over this seat's translation: for every int it gives the library's decimal text of it. Conditions: none.
-/
import Derived.Test.YtcimhpdpfckgiaaDoorRows
import Derived.Test.YtcimhpdpfckgiaaDoorKit
import Derived.Lib.ItoaNum
import Derived.Lib.ItoaLen
namespace Go.Proofs.YtcimhpdpfckgiaaDoor.kit
open Go.ChangeShapes Go.WideShapes Go.ChangeAt Go.RowKit
set_option linter.unusedVariables false

def front (j : Nat) : List UInt8 := if j = 0 then [] else Lib.decDigits j
theorem front_step {j : Nat} (h : j ≠ 0) : front j = front (j / 10) ++ [UInt8.ofNat (48 + j % 10)] := by
  rw [front, if_neg h, Lib.decDigits]
  by_cases h1 : j < 10
  · rw [dif_pos h1, show j / 10 = 0 by omega, show j % 10 = j by omega]; rfl
  · rw [dif_neg h1, front, if_neg (by omega)]
theorem digit10_at : ∀ r : Fin 10, (ByteArray.mk #[48, 49, 50, 51, 52, 53, 54, 55, 56, 57]).extract r.val (r.val + 1) = ⟨[UInt8.ofNat (48 + r.val)].toArray⟩ := by decide +kernel
theorem digit_slice {P : Program} {t : TypeId} (ht : P.underlying t = some .string) (r : Nat) (hr : r < 10) (W : World) :
    (Instr.slice t (.string ⟨#[48, 49, 50, 51, 52, 53, 54, 55, 56, 57]⟩) (some (.int .i64 (r : Int))) (some (.int .i64 ((r : Int) + 1))) none).run P W = .ok (.string ⟨[UInt8.ofNat (48 + r)].toArray⟩) W := by
  rw [run_slice_string W t _ .i64 .i64 (r : Int) ((r : Int) + 1) ht (by omega) (by omega) (by show (r : Int) + 1 ≤ ((10 : Nat) : Int); omega), show ((r : Int)).toNat = r by omega, show ((r : Int) + 1).toNat = r + 1 by omega, digit10_at ⟨r, hr⟩]
theorem join_digit (b : UInt8) (l : List UInt8) : (ByteArray.mk [b].toArray ++ ByteArray.mk l.toArray) = ⟨(b :: l).toArray⟩ := ByteArray.mk_append_mk [b] l
theorem join_zero (l : List UInt8) : ((ByteArray.mk #[48, 49, 50, 51, 52, 53, 54, 55, 56, 57]).extract 0 1 ++ ByteArray.mk l.toArray) = ⟨((48 : UInt8) :: l).toArray⟩ := by
  rw [show (ByteArray.mk #[48, 49, 50, 51, 52, 53, 54, 55, 56, 57]).extract 0 1 = ⟨[(48 : UInt8)].toArray⟩ from digit10_at 0]; exact join_digit 48 l
theorem front_len {N j : Nat} {l : List UInt8} (hN : N < 18446744073709551616) (h : Lib.decDigits N = front j ++ l) : l.length ≤ 20 := by
  have a := congrArg List.length h
  rw [Lib.decDigits_length, List.length_append] at a
  have := Lib.nDigits_le20 N hN
  omega

set_option maxHeartbeats 400000 in
theorem specDec_pos (N : Nat) (w : World) (hN : N ≤ 9223372036854775807) :
    Calls Tryd.prog 11 #[.int .i64 (N : Int)] w fun e w' => e = .returned (.string ⟨(Lib.decDigits N).toArray⟩) ∧ w = w' := by
  by_cases h0 : N = 0
  · subst h0
    go_enter Tryd.func11, Tryd.ntmps11
    go_wp2
    go_ret
    exact ⟨ret_str (by simp [Lib.decDigits]), rfl⟩
  have h0' : ((N : Int) == 0) = false := by simpa using h0
  have HZ := Lib.hid (show Lib.decDigits N = front N by rw [front, if_neg h0])
  clear h0
  go_enter Tryd.func11, Tryd.ntmps11
  go_wp2
  go_loop [3, 4] (fun o m => ∃ (l : List UInt8) (j : Nat), o = .string ⟨l.toArray⟩ ∧ m = .int .i64 (j : Int) ∧ j ≤ 9223372036854775807 ∧ Lib.decDigits N = front j ++ l) (fun _ m => (intOf m).toNat)
  case atStart => exact ⟨[], N, rfl, rfl, hN, by rw [HZ.out]; simp⟩
  case round =>
    obtain ⟨l, j, rfl, rfl, hj, hfr⟩ := hrel
    have hl := front_len (by omega) hfr
    have HF := Lib.hid hfr; clear hfr
    by_cases hz : j = 0
    · subst hz
      go_wp2
      go_ret
      exact ⟨ret_str (by rw [HF.out]; rfl), rfl⟩
    · have e1 : ((j : Int) != 0) = true := by simp; omega
      have HS := Lib.hid (front_step hz)
      have hq : ¬ (j : Int) % 10 < 0 := by omega
      have hsl := digit_slice (P := Tryd.prog) Tryd.underlying9 (j % 10) (by omega)
      rw [show ((j % 10 : Nat) : Int) = (j : Int) % 10 by omega] at hsl
      have hb0 : 0 ≤ (j : Int) % 10 := by omega
      have hb1 : (j : Int) % 10 < 10 := by omega
      clear hz
      go_wp2
      go_round
      case rel => exact ⟨UInt8.ofNat (48 + j % 10) :: l, j / 10, by rw [join_digit, UInt8.ofNat_add]; rfl, by go_num, by omega, by rw [HF.out, HS.out]; simp⟩
      case measure => simp [intOf] at e1 ⊢; omega

set_option maxHeartbeats 400000 in
theorem specDec_neg (N : Nat) (w : World) (hN : N ≤ 9223372036854775808) (h0 : 0 < N) :
    Calls Tryd.prog 11 #[.int .i64 (-(N : Int))] w fun e w' => e = .returned (.string ⟨((45 : UInt8) :: Lib.decDigits N).toArray⟩) ∧ w = w' := by
  have h0' : (-(N : Int) == 0) = false := by simp; omega
  have h0'' : -(N : Int) < 0 := by omega
  have HZ := Lib.hid (show Lib.decDigits N = front N by rw [front, if_neg (by omega)])
  go_enter Tryd.func11, Tryd.ntmps11
  go_wp2
  go_loop [3, 4] (fun o m => ∃ (l : List UInt8) (j : Nat), o = .string ⟨l.toArray⟩ ∧ m = .int .i64 (-(j : Int)) ∧ j ≤ 9223372036854775808 ∧ Lib.decDigits N = front j ++ l) (fun _ m => (intOf m).natAbs)
  case atStart => exact ⟨[], N, rfl, rfl, hN, by rw [HZ.out]; simp⟩
  case round =>
    obtain ⟨l, j, rfl, rfl, hj, hfr⟩ := hrel
    have hl := front_len (by omega) hfr
    have HF := Lib.hid hfr; clear hfr
    by_cases hz : j = 0
    · subst hz
      go_wp2
      go_ret
      exact ⟨ret_str (by rw [HF.out]; exact join_digit 45 _), rfl⟩
    · have e1 : (-(j : Int) != 0) = true := by simp; omega
      have HS := Lib.hid (front_step hz)
      have hsl := digit_slice (P := Tryd.prog) Tryd.underlying9 (j % 10) (by omega)
      rw [show ((j % 10 : Nat) : Int) = (j : Int) % 10 by omega] at hsl
      have e2 : (-(j : Int)).tmod 10 = -((j : Int) % 10) := by rw [Int.neg_tmod, Int.tmod_eq_emod_of_nonneg (by omega)]
      have e3 : (-(j : Int)).tdiv 10 = -((j : Int) / 10) := by rw [Int.neg_tdiv, Int.tdiv_eq_ediv_of_nonneg (by omega)]
      clear hz
      by_cases hd : (j : Int) % 10 = 0
      · have HD := Lib.hid (show j % 10 = 0 by omega)
        rw [hd] at e2 hsl
        clear hd
        go_wp2
        go_round
        case rel => exact ⟨(48 : UInt8) :: l, j / 10, by rw [join_zero], by go_num, by omega, by rw [HF.out, HS.out, HD.out]; simp⟩
        case measure => simp [intOf] at e1 ⊢; omega
      · have hd2 : 0 < (j : Int) % 10 := by omega
        have hb1 : (j : Int) % 10 < 10 := by omega
        clear hd
        go_wp2
        go_round
        case rel => exact ⟨UInt8.ofNat (48 + j % 10) :: l, j / 10, by rw [join_digit, UInt8.ofNat_add]; rfl, by go_num, by omega, by rw [HF.out, HS.out]; simp⟩
        case measure => simp [intOf] at e1 ⊢; omega

theorem specDec_any (n : Int) (w : World) (h1 : -9223372036854775808 ≤ n) (h2 : n ≤ 9223372036854775807) :
    Calls Tryd.prog 11 #[.int .i64 n] w fun e w' => e = .returned (.string ⟨(Lib.itoa n).toArray⟩) ∧ w = w' := by
  by_cases h : n < 0
  · obtain ⟨N, rfl⟩ : ∃ N : Nat, n = -(N : Int) := ⟨n.natAbs, by omega⟩
    rw [Lib.itoa, if_pos h, show (-(N : Int)).natAbs = N by omega]
    exact specDec_neg N w (by omega) (by omega)
  · obtain ⟨N, rfl⟩ : ∃ N : Nat, n = (N : Int) := ⟨n.toNat, by omega⟩
    rw [Lib.itoa, if_neg h, Int.toNat_natCast]
    exact specDec_pos N w (by omega)
end Go.Proofs.YtcimhpdpfckgiaaDoor.kit
