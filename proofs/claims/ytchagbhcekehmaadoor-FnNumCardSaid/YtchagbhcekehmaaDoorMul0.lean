/-
  Contracts of math/bits.Div64 at a million, of impl.sizeOf and of the two methods over, over this seat's translation. Conditions: each theorem names its own.
-/
import Derived.Test.YtchagbhcekehmaaDoorNum0
import Derived.Test.YtchagbhcekehmaaDoorShelf
import Derived.Test.YtchagbhcekehmaaDoorShelf2
import Derived.Laws.BitsLemmas
import Derived.BigFrame
import Derived.BigQuiet
import Derived.Deep.QuietTactic
namespace Go.Proofs.YtchagbhcekehmaaDoor.kit
open Go.ChangeShapes Go.WideShapes Go.ChangeAt Go.RowKit
set_option linter.unusedVariables false

theorem sizeOf_any (a : Int) (w : World) (h1 : -1000000000000 ≤ a) (h2 : a ≤ 1000000000000) :
    Calls Tryd.prog 79 #[.int .i64 a] w fun e w' => e = .returned (.int .u64 (a.natAbs : Int)) ∧ w = w' := by
  by_cases h : a < 0
  · have E := Lib.hid (show (a.natAbs : Int) = -a by omega)
    go_enter Tryd.func79, Tryd.ntmps79
    go_wp2
    go_ret
    exact ⟨ret_int E.out.symm, rfl⟩
  · have E := Lib.hid (show (a.natAbs : Int) = a by omega)
    go_enter Tryd.func79, Tryd.ntmps79
    go_wp2
    go_ret
    exact ⟨ret_int E.out.symm, rfl⟩

def divN (p q : Nat) : Int := ((p / q : Nat) : Int)
def dq (hi lo : Nat) : Int := divN (hi * 18446744073709551616 + lo) 1000000
theorem wraps64 (n : Int) (h₀ : 0 ≤ n) (h₁ : n < 2 ^ 64) : IntKind.u64.wrap n = n := by rw [IntKind.wrap_u64]; omega
theorem lead : ((64 : Int) - (Lib.bitLen (1000000 : Int).toNat : Int)) = 44 := by decide +kernel
theorem y_low : bits .and .u64 17592186044416000000 4294967295 = 0 := by decide +kernel
theorem join_u (hi lo : Nat) (h1 : hi < 1000000) (h2 : lo < 18446744073709551616) : bits .or .u64 ((hi : Int) * 17592186044416) ((lo : Int) / 1048576) = ((hi * 17592186044416 + lo / 1048576 : Nat) : Int) := by
  rw [bits_join .u64 64 (by decide) wraps64 44 ((hi : Int) * 17592186044416) ((lo : Int) / 1048576) (by omega) (by omega) (by omega) (by omega) (by omega) (by omega)]
  omega
theorem mask_n (a : Nat) (ha : a < 18446744073709551616) : bits .and .u64 (a : Int) 4294967295 = ((a % 4294967296 : Nat) : Int) := by
  have h := bits_and_u64_nat a 4294967295 ha (by omega)
  have e : a &&& 4294967295 = a % 4294967296 := Nat.and_two_pow_sub_one_eq_mod a 32
  rw [← e]; exact h
theorem dq_eq (hi lo U V R : Nat) (h1 : hi < 1000000) (h2 : lo < 18446744073709551616) (hU : U = hi * 17592186044416 + lo / 1048576) (hV : V = lo % 1048576 * 17592186044416) (hR : R = U % 4096000000 * 4294967296 + V / 4294967296) :
    ((U / 4096000000 * 4294967296 + R / 4096000000 : Nat) : Int) = dq hi lo := by
  unfold dq divN
  subst hU hV hR
  congr 1
  omega

theorem qhat_eq (U Q : Nat) (bU : U < 17592186044416000000) (hQ : Q = U / 4096000000) : IntKind.u64.wrap ((U : Int).tdiv 4096000000) = (Q : Int) := by
  have hq : (U : Int).tdiv 4096000000 = (Q : Int) := by rw [Int.tdiv_eq_ediv_of_nonneg (by omega)]; omega
  rw [hq]
  exact wraps64 _ (by omega) (by omega)
theorem rhat_eq (U Q T : Nat) (bU : U < 17592186044416000000) (hQ : Q = U / 4096000000) (hT : T = U % 4096000000) : IntKind.u64.wrap ((U : Int) - IntKind.u64.wrap ((Q : Int) * 4096000000)) = (T : Int) := by
  rw [wraps64 ((Q : Int) * 4096000000) (by omega) (by omega), show (U : Int) - (Q : Int) * 4096000000 = (T : Int) by omega]
  exact wraps64 _ (by omega) (by omega)

theorem mod3 (a v b m : Int) : ((a % m + v) % m - b % m) % m = (a + v - b) % m := by
  rw [← Int.sub_emod, show a % m + v - b = a % m + (v - b) by omega, Int.emod_add_emod]
  congr 1
  omega
theorem un21_eq (U Q T V1 R : Nat) (Y : Int) (bR : R < 17592186044416000000) (hQ : Q = U / 4096000000) (hT : T = U % 4096000000) (hR : R = T * 4294967296 + V1) (hY : Y = 17592186044416000000) :
    IntKind.u64.wrap (IntKind.u64.wrap (IntKind.u64.wrap ((U : Int) * 4294967296) + (V1 : Int)) - IntKind.u64.wrap ((Q : Int) * Y)) = (R : Int) := by
  subst hY
  rw [IntKind.wrap_u64, IntKind.wrap_u64, IntKind.wrap_u64, IntKind.wrap_u64, mod3, show (U : Int) * 4294967296 + (V1 : Int) - (Q : Int) * 17592186044416000000 = (R : Int) by omega]
  exact Int.emod_eq_of_lt (by omega) (by omega)
theorem lastq (Q S : Nat) (hQ : Q < 4294967296) (hS : S < 4294967296) : IntKind.u64.wrap (IntKind.u64.wrap ((Q : Int) * 4294967296) + (S : Int)) = ((Q * 4294967296 + S : Nat) : Int) := by
  rw [wraps64 ((Q : Int) * 4294967296) (by omega) (by omega), wraps64 _ (by omega) (by omega)]; omega
theorem ret_twoU {a a' b : Int} (h : a = a') : Ending.returned (.tuple #[.int .u64 a, .int .u64 b]) = .returned (.tuple #[.int .u64 a', .int .u64 b]) := by rw [h]

/-- What Div64 leaves: the quotient; of what is left nothing is said. -/
def DivPost (hi lo : Nat) (w : World) (e : Ending) (w' : World) : Prop := ∃ (r : Int) (n : Nat), e = .returned (.tuple #[.int .u64 (dq hi lo), .int .u64 r]) ∧ w' = w.drewN n

set_option maxRecDepth 1000000 in
set_option maxHeartbeats 2000000 in
theorem div64_high (hi lo : Nat) (M : Int) (w : World) (hhi : hi < 1000000) (hM : Hid (M = 1000000)) (m1 : 999999 < M) (m2 : M < 1000001) (h0 : (((hi : Int)) == 0) = false) (hlo : lo < 18446744073709551616) :
    Calls Tryd.prog 142 #[.int .u64 (hi : Int), .int .u64 (lo : Int), .int .u64 M] w (DivPost hi lo w) := by
  have hM0 : (M == 0) = false := by simp; omega
  obtain ⟨U, hU⟩ : ∃ U : Nat, U = hi * 17592186044416 + lo / 1048576 := ⟨_, rfl⟩
  obtain ⟨V, hV⟩ : ∃ V : Nat, V = lo % 1048576 * 17592186044416 := ⟨_, rfl⟩
  obtain ⟨R, hR⟩ : ∃ R : Nat, R = U % 4096000000 * 4294967296 + V / 4294967296 := ⟨_, rfl⟩
  have E := Lib.hid (dq_eq hi lo U V R hhi hlo hU hV hR)
  have bU : U < 17592186044416000000 := by omega
  have bV : V < 18446744073709551616 := by omega
  have bR : R < 17592186044416000000 := by omega
  have e2' := join_u hi lo hhi hlo
  rw [← hU] at e2'
  have e3' : IntKind.u64.wrap ((lo : Int) * 17592186044416) = (V : Int) := by rw [IntKind.wrap_u64]; omega
  have e4' := mask_n V bV
  have e2 := Lib.hid e2'
  have e3 := Lib.hid e3'
  have e4 := Lib.hid e4'
  clear e2' e3' e4'
  obtain ⟨Q, hQ⟩ : ∃ Q : Nat, Q = U / 4096000000 := ⟨_, rfl⟩
  obtain ⟨T, hT⟩ : ∃ T : Nat, T = U % 4096000000 := ⟨_, rfl⟩
  obtain ⟨V1, hV1⟩ : ∃ V1 : Nat, V1 = V / 4294967296 := ⟨_, rfl⟩
  obtain ⟨Y, hY⟩ : ∃ Y : Int, Y = 17592186044416000000 := ⟨_, rfl⟩
  have e5 : Hid (IntKind.u64.wrap ((U : Int).tdiv 4096000000) = (Q : Int)) := Lib.hid (qhat_eq U Q bU hQ)
  have e6 : Hid (IntKind.u64.wrap ((U : Int) - IntKind.u64.wrap ((Q : Int) * 4096000000)) = (T : Int)) := Lib.hid (rhat_eq U Q T bU hQ hT)
  have e7 : Hid ((V : Int) / 4294967296 = (V1 : Int)) := Lib.hid (by omega)
  have e8 := Lib.hid hY.symm
  have bQ : Q < 4294967296 := by omega
  have bT : T < 4096000000 := by omega
  have bV1 : V1 < 4294967296 := by omega
  obtain ⟨S, hS⟩ : ∃ S : Nat, S = R / 4096000000 := ⟨_, rfl⟩
  obtain ⟨T2, hT2⟩ : ∃ T2 : Nat, T2 = R % 4096000000 := ⟨_, rfl⟩
  have e9 : Hid (IntKind.u64.wrap (IntKind.u64.wrap (IntKind.u64.wrap ((U : Int) * 4294967296) + (V1 : Int)) - IntKind.u64.wrap ((Q : Int) * Y)) = (R : Int)) := Lib.hid (un21_eq U Q T V1 R Y bR hQ hT (by rw [hR, hT, hV1]) hY)
  have e10 : Hid (IntKind.u64.wrap ((R : Int).tdiv 4096000000) = (S : Int)) := Lib.hid (qhat_eq R S bR hS)
  have e11 : Hid (IntKind.u64.wrap ((R : Int) - IntKind.u64.wrap ((S : Int) * 4096000000)) = (T2 : Int)) := Lib.hid (rhat_eq R S T2 bR hS hT2)
  have bS : S < 4294967296 := by omega
  have HS := Lib.hid hS
  have BQ := Lib.hid bQ
  have BS := Lib.hid bS
  have HQ := Lib.hid hQ
  have HT := Lib.hid hT
  have HV1 := Lib.hid hV1
  clear hQ hT hV1 hY hS hT2
  have HU := Lib.hid hU
  have HV := Lib.hid hV
  have HR := Lib.hid hR
  clear hU hV hR
  go_enter Tryd.func142, Tryd.ntmps142
  go_wp2_with fail
  refine (Tryd.bits_LeadingZeros64 _ _ (by omega) (by omega)).mono ?_
  rw [hM.out]
  rw [lead]
  rintro e w' ⟨rfl, rfl⟩
  go_wp2_with fail
  rw [y_low, e2.out, e3.out, e4.out, e5.out, e6.out, e7.out, e8.out]
  clear hM m1 m2 hM0 bU bV bR hlo hhi h0
  have d1 : decide ((4294967296 : Int) ≤ (Q : Int)) = false := by simp; omega
  have d2 : decide (4294967296 ≤ Q) = false := by simp; omega
  have d3 : decide ((4294967296 : Int) ≤ (S : Int)) = false := by simp; omega
  have d4 : decide (4294967296 ≤ S) = false := by simp; omega
  clear bQ bT bV1 bS
  refine wp_loop_rounds 1 ?_
  rw [rounds_succ]
  repeat (first | go_guarded | go_step | go_upon)
  rw [e9.out, e10.out, e11.out]
  refine wp_loop_rounds 1 ?_
  rw [rounds_succ]
  repeat (first | go_guarded | go_step | go_upon)
  go_ret2
  exact ⟨_, 0, ret_twoU (by rw [← E.out, ← HQ.out, ← HS.out]; exact lastq Q S BQ.out BS.out), rfl⟩
set_option maxRecDepth 1000000 in
theorem div64_low (lo : Nat) (M : Int) (w : World) (hM : Hid (M = 1000000)) (m1 : 999999 < M) (m2 : M < 1000001) (hlo : lo < 18446744073709551616) :
    Calls Tryd.prog 142 #[.int .u64 0, .int .u64 (lo : Int), .int .u64 M] w (DivPost 0 lo w) := by
  have hM0 : (M == 0) = false := by simp; omega
  have hM1 : ¬ M = 0 := by omega
  have E : Hid (IntKind.u64.wrap ((lo : Int) / 1000000) = dq 0 lo) := Lib.hid (by
    rw [wraps64 _ (by omega) (by omega), dq, divN]; omega)
  go_enter Tryd.func142, Tryd.ntmps142
  go_wp2_with fail
  go_quiet (fail)
  go_wp2
  go_ret2
  exact ⟨_, _, ret_twoU (by rw [← E.out, hM.out]), rfl⟩
end Go.Proofs.YtchagbhcekehmaaDoor.kit
