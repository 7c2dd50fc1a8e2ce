/-
  Contracts of impl.Mul and impl.Div over this seat's translation: for every two ints they give what the models reckon. Conditions: none.
-/
import Derived.Test.YtchagbhcekehmaaDoorMul2
namespace Go.Proofs.YtchagbhcekehmaaDoor.kit
open Go.ChangeShapes Go.WideShapes Go.ChangeAt Go.RowKit
set_option linter.unusedVariables false

theorem dq_prod (p : Nat) : dq (p / 18446744073709551616) (p % 18446744073709551616) = divN p 1000000 := by
  unfold dq
  rw [show p / 18446744073709551616 * 18446744073709551616 + p % 18446744073709551616 = p by omega]
set_option maxHeartbeats 1000000 in
theorem implMul_any (a b : Int) (w : World) :
    Calls Tryd.prog 40 #[.int .i64 a, .int .i64 b] w fun e w' => e = .returned (.tuple #[.int .i64 (gotN (mulB a b) (mulV a b)), .bool (mulB a b)]) ∧ Below w.heap.size w w' := by
  cases h1 : numB a
  · have E := Lib.hid (show mulB a b = false by simp [mulB, h1])
    go_enter Tryd.func40, Tryd.ntmps40
    go_wp2_with (go_at_call 68; refine (isNum_any _ _).mono ?_; rintro e w' ⟨rfl, rfl⟩)
    go_ret2
    exact ⟨ret_two (gotN_no E.out _).symm E.out.symm, Below.refl _ _⟩
  · cases h2 : numB b
    · have E := Lib.hid (show mulB a b = false by simp [mulB, h2])
      go_enter Tryd.func40, Tryd.ntmps40
      go_wp2_with (go_at_call 68; refine (isNum_any _ _).mono ?_; rintro e w' ⟨rfl, rfl⟩)
      go_ret2
      exact ⟨ret_two (gotN_no E.out _).symm E.out.symm, Below.refl _ _⟩
    · obtain ⟨b1, b2⟩ := numB_yes h1
      obtain ⟨b3, b4⟩ := numB_yes h2
      have E := Lib.hid (show mulB a b = numB (mulV a b) by simp [mulB, h1, h2])
      obtain ⟨x, hx⟩ : ∃ x : Bool, decide (a < 0) = x := ⟨_, rfl⟩
      obtain ⟨y, hy⟩ : ∃ y : Bool, decide (b < 0) = y := ⟨_, rfl⟩
      have F := cut_got _ _ (x != y) (divN_nonneg _ _) (mulV_sign a b x y hx hy)
      have cp : a.natAbs * b.natAbs ≤ 1000000000000 * 1000000000000 := Nat.mul_le_mul (by omega) (by omega)
      have hA := Lib.hid (fun W => Tryd.bits_Mul64 a.natAbs b.natAbs (by omega) (by omega) W)
      rw [← dq_prod] at F
      have bh : a.natAbs * b.natAbs / 18446744073709551616 < 1000000 := by omega
      have bl : a.natAbs * b.natAbs % 18446744073709551616 < 18446744073709551616 := by omega
      clear cp
      generalize a.natAbs * b.natAbs / 18446744073709551616 = hi at *
      generalize a.natAbs * b.natAbs % 18446744073709551616 = lo at *
      obtain ⟨M, hM⟩ : ∃ M : Int, M = 1000000 := ⟨_, rfl⟩
      have m1 : 999999 < M := by omega
      have m2 : M < 1000001 := by omega
      have HM := Lib.hid hM
      have C := Lib.hid (fun (f : Bool) W => cutWide_any hi lo M f W bh HM m1 m2 bl)
      rw [hM] at C
      have F' := Lib.hid F
      clear hM m1 m2 HM F bl bh
      cases x <;> cases y
      all_goals
        go_enter Tryd.func40, Tryd.ntmps40
        go_wp2_with (first | (go_at_call 68; refine (isNum_any _ _).mono ?_; rintro e w' ⟨rfl, rfl⟩) | (go_at_call 79; refine (sizeOf_any _ _ (by omega) (by omega)).mono ?_; rintro e w' ⟨rfl, rfl⟩) | (go_at_call 78; refine (hA.out _).mono ?_; rintro e w' ⟨rfl, rfl⟩) | (go_at_call 80; refine (C.out _ _).mono ?_; rintro e w1 ⟨rfl, hb⟩))
        go_ret2
        exact ⟨ret_two (by rw [E.out]; exact F'.out.1) (by rw [E.out]; exact F'.out.2), hb⟩
end Go.Proofs.YtchagbhcekehmaaDoor.kit
