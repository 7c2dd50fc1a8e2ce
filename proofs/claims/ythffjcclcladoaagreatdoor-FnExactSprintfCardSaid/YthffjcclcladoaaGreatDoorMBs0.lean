/-
  A number's digits in base 8 or 16, from behind and from ahead: plain facts, of no program. Conditions: each theorem names its own.
-/
import Derived.Test.YthffjcclcladoaaGreatDoorMKit
import Derived.Test.YthffjcclcladoaaGreatDoorRows
namespace Go.Proofs.YthffjcclcladoaaGreatDoor.kit
set_option linter.unusedVariables false

/-- A digit. -/
def hexD (d : Nat) : UInt8 := if d < 10 then UInt8.ofNat (48 + d) else UInt8.ofNat (87 + d)
/-- A number's digits in a base of 2 at least. -/
def bdg (b n : Nat) : List UInt8 := if h : n < b ∨ b < 2 then [hexD n] else bdg b (n / b) ++ [hexD (n % b)]
termination_by n
decreasing_by exact Nat.div_lt_self (by omega) (by omega)
theorem bdg_small {b n : Nat} (h : n < b) : bdg b n = [hexD n] := by rw [bdg, dif_pos (.inl h)]
theorem bdg_big {b n : Nat} (hb : 2 ≤ b) (h : b ≤ n) : bdg b n = bdg b (n / b) ++ [hexD (n % b)] := by rw [bdg, dif_neg (by omega)]
theorem bdg_len (b n k : Nat) (hb : 2 ≤ b) (hn : n < b ^ (k + 1)) : (bdg b n).length ≤ k + 1 := by
  induction k generalizing n with
  | zero => rw [bdg_small (by simpa using hn)]; simp
  | succ k ih =>
    by_cases h : n < b
    · rw [bdg_small h]; simp
    · rw [bdg_big hb (by omega), List.length_append]
      have := ih (n / b) (by rw [Nat.pow_succ] at hn; exact Nat.div_lt_of_lt_mul (by rw [Nat.mul_comm]; exact hn))
      simp; omega
/-- What stands ahead of the digits that were told: nothing for none. -/
def bfr (b n : Nat) : List UInt8 := if n = 0 then [] else bdg b n
theorem bfr_step {b n : Nat} (hb : 2 ≤ b) (h : n ≠ 0) : bfr b n = bfr b (n / b) ++ [hexD (n % b)] := by
  rw [bfr, if_neg h]
  by_cases h1 : n < b
  · rw [bdg_small h1, bfr, if_pos (Nat.div_eq_of_lt h1), Nat.mod_eq_of_lt h1]; rfl
  · rw [bdg_big hb (by omega), bfr, if_neg (by have := Nat.div_pos (show b ≤ n by omega) (by omega); omega)]
theorem bdg_ne (b n : Nat) : bdg b n ≠ [] := by
  rw [bdg]; split <;> simp
theorem bfr_zero (b : Nat) : bfr b 0 = [] := by simp [bfr]
theorem hexD_zero : [hexD 0] = [48] := by decide
/-- What Base answers. -/
def bsT (n b : Int) : List UInt8 := if b = 8 ∨ b = 16 then bdg b.toNat (n % 18446744073709551616).toNat else []
def hexS : ByteArray := ⟨#[48, 49, 50, 51, 52, 53, 54, 55, 56, 57, 97, 98, 99, 100, 101, 102]⟩
theorem hex_at : ∀ r : Fin 16, (ByteArray.mk #[48, 49, 50, 51, 52, 53, 54, 55, 56, 57, 97, 98, 99, 100, 101, 102]).extract r.val (r.val + 1) = ⟨[hexD r.val].toArray⟩ := by decide +kernel
theorem hex_slice {P : Program} {t : TypeId} (ht : P.underlying t = some .string) (r : Nat) (hr : r < 16) (W : World) :
    (Instr.slice t (.string ⟨#[48, 49, 50, 51, 52, 53, 54, 55, 56, 57, 97, 98, 99, 100, 101, 102]⟩) (some (.int .u64 (r : Int))) (some (.int .u64 ((r : Int) + 1))) none).run P W = .ok (.string ⟨[hexD r].toArray⟩) W := by
  rw [run_slice_string W t _ .u64 .u64 (r : Int) ((r : Int) + 1) ht (by omega) (by omega) (by show (r : Int) + 1 ≤ ((16 : Nat) : Int); omega), show ((r : Int)).toNat = r by omega, show ((r : Int) + 1).toNat = r + 1 by omega, hex_at ⟨r, hr⟩]
theorem digit36_at (d : Nat) (h : d < 16) (hs : d < (⟨#[48, 49, 50, 51, 52, 53, 54, 55, 56, 57, 97, 98, 99, 100, 101, 102, 103, 104, 105, 106, 107, 108, 109, 110, 111, 112, 113, 114, 115, 116, 117, 118, 119, 120, 121, 122]⟩ : ByteArray).size) : (⟨#[48, 49, 50, 51, 52, 53, 54, 55, 56, 57, 97, 98, 99, 100, 101, 102, 103, 104, 105, 106, 107, 108, 109, 110, 111, 112, 113, 114, 115, 116, 117, 118, 119, 120, 121, 122]⟩ : ByteArray)[d] = hexD d := by
  rcases d with _|_|_|_|_|_|_|_|_|_|_|_|_|_|_|_|d
  all_goals first | omega | rfl
theorem join_hex (b : UInt8) (l : List UInt8) : (ByteArray.mk [b].toArray ++ ByteArray.mk l.toArray) = ⟨(b :: l).toArray⟩ := ByteArray.mk_append_mk [b] l
theorem bfr_len {b N j : Nat} {l : List UInt8} (hb : 8 ≤ b) (hN : N < 18446744073709551616) (h : bdg b N = bfr b j ++ l) : l.length ≤ 22 := by
  have a := congrArg List.length h
  rw [List.length_append] at a
  have := bdg_len b N 21 (by omega) (Nat.lt_of_lt_of_le (Nat.lt_trans hN (by decide : (18446744073709551616 : Nat) < 8 ^ 22)) (Nat.pow_le_pow_left hb 22))
  omega
theorem u64_of (n : Int) (h1 : -9223372036854775808 ≤ n) (h2 : n ≤ 9223372036854775807) : ∃ N : Nat, N < 18446744073709551616 ∧ IntKind.u64.wrap n = (N : Int) ∧ (n % 18446744073709551616).toNat = N := by
  have hm0 : 0 ≤ n % 18446744073709551616 := by omega
  have hm1 : n % 18446744073709551616 < 18446744073709551616 := by omega
  refine ⟨(n % 18446744073709551616).toNat, by omega, ?_, rfl⟩
  rw [IntKind.wrap]
  simp [IntKind.signed, IntKind.bits]
  omega
end Go.Proofs.YthffjcclcladoaaGreatDoor.kit
/-
  Contract of spec.Base over this seat's translation: a number's digits by its 64 bits in base 8 or 16. Conditions: none.
-/
namespace Go.Proofs.YthffjcclcladoaaGreatDoor.kit
open Go.ChangeShapes Go.WideShapes Go.ChangeAt Go.RowKit
set_option linter.unusedVariables false

theorem wrap_u64i (n : Int) (h0 : 0 ≤ n) (h : n < 18446744073709551616) : IntKind.u64.wrap n = n := by
  unfold IntKind.wrap
  simp [IntKind.signed, IntKind.bits]
  omega
set_option maxHeartbeats 1000000 in
theorem specBase8 (N : Nat) (n : Int) (w : World) (hN : N < 18446744073709551616) (hw : IntKind.u64.wrap n = (N : Int)) :
    Calls Tryz.prog 20 #[.int .i64 n, .int .i64 8] w fun e w' => e = .returned (.string ⟨(bdg 8 N).toArray⟩) ∧ w = w' := by
  have HN := Lib.hid hN
  by_cases h0 : N = 0
  · have HZ := Lib.hid (show bdg 8 N = [48] by rw [h0, bdg_small (by omega)]; rfl)
    subst h0
    clear hN
    go_enter Tryz.func20, Tryz.ntmps20
    go_wp2
    go_loop [5, 6] (fun m o => m = .int .u64 0 ∧ o = .string ⟨#[]⟩) (fun _ _ => 0)
    case atStart => exact ⟨rfl, rfl⟩
    case round =>
      obtain ⟨rfl, rfl⟩ := hrel
      go_wp2
      go_ret
      exact ⟨ret_str (by rw [HZ.out]), rfl⟩
  have HZ := Lib.hid (show bdg 8 N = bfr 8 N by rw [bfr, if_neg h0])
  have HNE := Lib.hid (bdg_ne 8 N)
  clear h0
  go_enter Tryz.func20, Tryz.ntmps20
  go_wp2
  go_loop [5, 6] (fun m o => ∃ (l : List UInt8) (j : Nat), o = .string ⟨l.toArray⟩ ∧ m = .int .u64 (j : Int) ∧ j < 18446744073709551616 ∧ bdg 8 N = bfr 8 j ++ l) (fun m _ => (intOf m).toNat)
  case atStart => exact ⟨[], N, rfl, rfl, HN.out, by rw [HZ.out]; simp⟩
  case round =>
    obtain ⟨l, j, rfl, rfl, hj, hfr⟩ := hrel
    have hl := bfr_len (by omega) HN.out hfr
    have HF := Lib.hid hfr; clear hfr
    by_cases hz : j = 0
    · subst hz
      have HL := Lib.hid (show bdg 8 N = l by have := HF.out; rwa [bfr_zero, List.nil_append] at this)
      have hln : l ≠ [] := by rw [← HL.out]; exact HNE.out
      have hem : (ByteArray.mk l.toArray).toList.isEmpty = false := not_empty_of_size (by
        have : (ByteArray.mk l.toArray).size = l.length := by simp [ByteArray.size]
        rw [this]; intro h; exact hln (List.length_eq_zero_iff.1 h))
      have E := Lib.hid (show (ByteArray.mk l.toArray) = ⟨(bdg 8 N).toArray⟩ by rw [HL.out])
      clear hln
      generalize (ByteArray.mk l.toArray) = x at *
      go_wp2
      go_ret
      exact ⟨ret_str E.out, rfl⟩
    · have e1 : (0 : Int) < (j : Int) := by omega
      have HS := Lib.hid (bfr_step (b := 8) (by omega) hz)
      have hsl := hex_slice (P := Tryz.prog) Tryz.underlying9 (j % 8) (by omega)
      rw [show ((j % 8 : Nat) : Int) = (j : Int) % 8 by omega] at hsl
      have hb0 : 0 ≤ (j : Int) % 8 := by omega
      have hb1 : (j : Int) % 8 < 8 := by omega
      have hw1 : IntKind.u64.wrap ((j : Int) % 8 + 1) = (j : Int) % 8 + 1 := wrap_u64i _ (by omega) (by omega)
      clear hz
      go_wp2
      go_round
      case rel => exact ⟨hexD (j % 8) :: l, j / 8, by rw [join_hex], by go_num, by omega, by rw [HF.out, HS.out]; simp⟩
      case measure => simp [intOf] at e1 ⊢; omega
set_option maxHeartbeats 1000000 in
theorem specBase16 (N : Nat) (n : Int) (w : World) (hN : N < 18446744073709551616) (hw : IntKind.u64.wrap n = (N : Int)) :
    Calls Tryz.prog 20 #[.int .i64 n, .int .i64 16] w fun e w' => e = .returned (.string ⟨(bdg 16 N).toArray⟩) ∧ w = w' := by
  have HN := Lib.hid hN
  by_cases h0 : N = 0
  · have HZ := Lib.hid (show bdg 16 N = [48] by rw [h0, bdg_small (by omega)]; rfl)
    subst h0
    clear hN
    go_enter Tryz.func20, Tryz.ntmps20
    go_wp2
    go_loop [5, 6] (fun m o => m = .int .u64 0 ∧ o = .string ⟨#[]⟩) (fun _ _ => 0)
    case atStart => exact ⟨rfl, rfl⟩
    case round =>
      obtain ⟨rfl, rfl⟩ := hrel
      go_wp2
      go_ret
      exact ⟨ret_str (by rw [HZ.out]), rfl⟩
  have HZ := Lib.hid (show bdg 16 N = bfr 16 N by rw [bfr, if_neg h0])
  have HNE := Lib.hid (bdg_ne 16 N)
  clear h0
  go_enter Tryz.func20, Tryz.ntmps20
  go_wp2
  go_loop [5, 6] (fun m o => ∃ (l : List UInt8) (j : Nat), o = .string ⟨l.toArray⟩ ∧ m = .int .u64 (j : Int) ∧ j < 18446744073709551616 ∧ bdg 16 N = bfr 16 j ++ l) (fun m _ => (intOf m).toNat)
  case atStart => exact ⟨[], N, rfl, rfl, HN.out, by rw [HZ.out]; simp⟩
  case round =>
    obtain ⟨l, j, rfl, rfl, hj, hfr⟩ := hrel
    have hl := bfr_len (by omega) HN.out hfr
    have HF := Lib.hid hfr; clear hfr
    by_cases hz : j = 0
    · subst hz
      have HL := Lib.hid (show bdg 16 N = l by have := HF.out; rwa [bfr_zero, List.nil_append] at this)
      have hln : l ≠ [] := by rw [← HL.out]; exact HNE.out
      have hem : (ByteArray.mk l.toArray).toList.isEmpty = false := not_empty_of_size (by
        have : (ByteArray.mk l.toArray).size = l.length := by simp [ByteArray.size]
        rw [this]; intro h; exact hln (List.length_eq_zero_iff.1 h))
      have E := Lib.hid (show (ByteArray.mk l.toArray) = ⟨(bdg 16 N).toArray⟩ by rw [HL.out])
      clear hln
      generalize (ByteArray.mk l.toArray) = x at *
      go_wp2
      go_ret
      exact ⟨ret_str E.out, rfl⟩
    · have e1 : (0 : Int) < (j : Int) := by omega
      have HS := Lib.hid (bfr_step (b := 16) (by omega) hz)
      have hsl := hex_slice (P := Tryz.prog) Tryz.underlying9 (j % 16) (by omega)
      rw [show ((j % 16 : Nat) : Int) = (j : Int) % 16 by omega] at hsl
      have hb0 : 0 ≤ (j : Int) % 16 := by omega
      have hb1 : (j : Int) % 16 < 16 := by omega
      have hw1 : IntKind.u64.wrap ((j : Int) % 16 + 1) = (j : Int) % 16 + 1 := wrap_u64i _ (by omega) (by omega)
      clear hz
      go_wp2
      go_round
      case rel => exact ⟨hexD (j % 16) :: l, j / 16, by rw [join_hex], by go_num, by omega, by rw [HF.out, HS.out]; simp⟩
      case measure => simp [intOf] at e1 ⊢; omega
theorem specBase_out (n b : Int) (w : World) (h : b ≠ 8 ∧ b ≠ 16) :
    Calls Tryz.prog 20 #[.int .i64 n, .int .i64 b] w fun e w' => e = .returned (.string ⟨#[]⟩) ∧ w = w' := by
  have h1 : (b != 8) = true := by simpa using h.1
  have h2 : (b != 16) = true := by simpa using h.2
  clear h
  go_enter Tryz.func20, Tryz.ntmps20
  go_wp2
  go_ret
  exact ⟨rfl, rfl⟩
theorem specBase_any (n b : Int) (w : World) (h1 : -9223372036854775808 ≤ n) (h2 : n ≤ 9223372036854775807) :
    Calls Tryz.prog 20 #[.int .i64 n, .int .i64 b] w fun e w' => e = .returned (.string ⟨(bsT n b).toArray⟩) ∧ w = w' := by
  obtain ⟨N, hN, hw, he⟩ := u64_of n h1 h2
  by_cases c : b = 8 ∨ b = 16
  · rw [bsT, if_pos c, he]
    rcases c with rfl | rfl
    · exact specBase8 N n w hN hw
    · exact specBase16 N n w hN hw
  · rw [bsT, if_neg c]
    exact specBase_out n b w (by omega)
end Go.Proofs.YthffjcclcladoaaGreatDoor.kit
