/-
  Contract of spec.l04Sets over this seat's translation: the text of a set. Conditions: the set has 1 to 1048576 bytes, ascending.
-/
import Derived.Test.YtiggdpckjmellaaDoorRt6
import Derived.Test.YtiggdpckjmellaaDoorRt0
namespace Go.Proofs.YtiggdpckjmellaaDoor.kit
open Go.ChangeShapes Go.WideShapes Go.ChangeAt Go.RowKit
set_option linter.unusedVariables false

set_option maxRecDepth 100000 in
set_option maxHeartbeats 4000000 in
theorem l04Sets_any (kk : Int) (s : ByteArray) (n : Bool) (lo hi : Int) (a : Option Addr) (m cap : Nat) (w : World) (hs : s.size ≤ 1048576) (hasc : RT.asc s.data.toList = true) (hne : s.data.toList ≠ []) :
    Calls Tryd.prog 103 #[.agg #[.int .i64 kk, .string s, .bool n, .int .i64 lo, .int .i64 hi, .slice a m cap]] w fun e w' => e = .returned (.string ⟨(setTxt s.data.toList n).toArray⟩) ∧ Below w.heap.size w w' := by
  by_cases c : s.size = 1 ∧ n = false
  · obtain ⟨c1, rfl⟩ := c
    have hl : s.data.toList.length = s.size := by simp
    have E := Lib.hid (show setTxt s.data.toList false = byTxt (s.data.toList.getD 0 0) by rw [setTxt, if_pos ⟨by omega, rfl⟩])
    have e0 := getD_at s 0 (by omega)
    have HP := Lib.hid (fun W => l04Plain_any (s.data.toList.getD 0 0) W)
    rw [e0] at HP E
    have HB := Lib.hid (show ∀ o, Below w.heap.size w (w.alloc o) from fun o => (Below.refl w.heap.size w).alloc (Nat.le_refl _) _)
    clear e0
    have h0 : 0 < s.size := by omega
    have c1' : ((s.size : Int) == 1) = true := by rw [c1]; rfl
    have hi : (0 : Int) < s.size := by omega
    go_enter Tryd.func103, Tryd.ntmps103
    go_wp2_with fail
    refine (HP.out _).mono ?_
    rintro e w1 ⟨rfl, hb1⟩
    go_wp2_with fail
    go_ret
    exact ⟨by rw [E.out]; rfl, (HB.out _).trans (hb1.mono (HB.out _).size)⟩
  · refine l04Sets_main kk s n _ lo hi a m cap w hs rfl ?_ hasc hne
    cases h : ((s.size : Int) == 1)
    · rfl
    · cases n
      · exact absurd ⟨by have : (s.size : Int) = 1 := (by simpa using h); omega, rfl⟩ c
      · rfl
end Go.Proofs.YtiggdpckjmellaaDoor.kit
