/-
  Contract of impl.readQuoted over this seat's translation: it reads one byte as it stands inside quotes. Conditions: the text has 1 .. 1048576 bytes.
-/
import Derived.Test.YtalobgebdpaecaaDoorUn2
namespace Go.Proofs.YtalobgebdpaecaaDoor.kit
open Go.ChangeShapes Go.WideShapes Go.ChangeAt Go.RowKit
set_option linter.unusedVariables false

set_option maxHeartbeats 400000 in
theorem implRq_any (t : ByteArray) (w : World) (hs : t.size ≤ 1048576) (h0 : 0 < t.size) :
    Calls Tryd.prog 135 #[.string t] w fun e w' => e = .returned (tupB (rd t.data.toList)) ∧ Below w.heap.size w w' := by
  have hg0 := at_eq t 0 h0
  have hb0 : (at_ t 0).toNat < 256 := (at_ t 0).toNat_lt
  have i00 : (0 : Int) < (t.size : Int) := by omega
  by_cases h92 : (at_ t 0).toNat = 92
  · rw [rd_esc h0 h92]
    have e0 : (((at_ t 0).toNat : Int) != 92) = false := by simp; omega
    generalize at_ t 0 = c0 at *
    clear h92
    by_cases h2 : t.size < 2
    · have E := Lib.hid (esc_end (s := t) (i := 1) (by omega))
      go_enter Tryd.func135, Tryd.ntmps135
      go_wp2
      go_ret2
      exact ⟨ret_val (by rw [E.out]; rfl), Below.refl _ _⟩
    · have h2' : ¬ (t.size : Int) < 2 := by omega
      have h1 : 1 < t.size := by omega
      have i01 : (1 : Int) < (t.size : Int) := by omega
      have hg1 := at_eq t 1 h1
      have hb1 : (at_ t 1).toNat < 256 := (at_ t 1).toNat_lt
      clear h2
      by_cases k1 : (at_ t 1).toNat = 34
      · have E := Lib.hid (esc_same h1 (.inl k1))
        have e1 : (((at_ t 1).toNat : Int) == 34) = true := by simp; omega
        generalize at_ t 1 = c at *
        clear k1
        go_enter Tryd.func135, Tryd.ntmps135
        go_wp2
        go_ret2
        exact ⟨ret_val (by rw [E.out]; rfl), Below.refl _ _⟩
      by_cases k2 : (at_ t 1).toNat = 92
      · have E := Lib.hid (esc_same h1 (.inr k2))
        have e1 : (((at_ t 1).toNat : Int) == 34) = false := by simp; omega
        have e2 : (((at_ t 1).toNat : Int) == 92) = true := by simp; omega
        generalize at_ t 1 = c at *
        clear k1 k2
        go_enter Tryd.func135, Tryd.ntmps135
        go_wp2
        go_ret2
        exact ⟨ret_val (by rw [E.out]; rfl), Below.refl _ _⟩
      have e1 : (((at_ t 1).toNat : Int) == 34) = false := by simp; omega
      have e2 : (((at_ t 1).toNat : Int) == 92) = false := by simp; omega
      by_cases k3 : (at_ t 1).toNat = 110
      · have E := Lib.hid (esc_n h1 k3)
        have e3 : (((at_ t 1).toNat : Int) == 110) = true := by simp; omega
        generalize at_ t 1 = c at *
        clear k1 k2 k3
        go_enter Tryd.func135, Tryd.ntmps135
        go_wp2
        go_ret2
        exact ⟨ret_val (by rw [E.out]; rfl), Below.refl _ _⟩
      have e3 : (((at_ t 1).toNat : Int) == 110) = false := by simp; omega
      by_cases k4 : (at_ t 1).toNat = 116
      · have E := Lib.hid (esc_t h1 k4)
        have e4 : (((at_ t 1).toNat : Int) == 116) = true := by simp; omega
        generalize at_ t 1 = c at *
        clear k1 k2 k3 k4
        go_enter Tryd.func135, Tryd.ntmps135
        go_wp2
        go_ret2
        exact ⟨ret_val (by rw [E.out]; rfl), Below.refl _ _⟩
      have e4 : (((at_ t 1).toNat : Int) == 116) = false := by simp; omega
      have E : Hid (esc t 1 = (if 4 ≤ t.size then (o3 fun j => at_ t (1 + j)).map fun b => (b, 4) else none)) := Lib.hid (by rw [esc_oct h1 k1 k2 k3 k4])
      have HC := Lib.hid (implOct_any t w hs)
      rw [← E.out] at HC
      generalize at_ t 1 = c at *
      clear k1 k2 k3 k4
      cases hes : esc t 1 with
      | none =>
        rw [hes] at HC
        clear hes E
        go_enter Tryd.func135, Tryd.ntmps135
        go_wp2_with fail
        refine HC.out.mono ?_
        rintro e w' ⟨rfl, hb⟩
        simp only [tupB]
        go_wp2
        go_ret2
        exact ⟨rfl, hb⟩
      | some x =>
        obtain ⟨b, n⟩ := x
        rw [hes] at HC
        clear hes E
        go_enter Tryd.func135, Tryd.ntmps135
        go_wp2_with fail
        refine HC.out.mono ?_
        rintro e w' ⟨rfl, hb⟩
        simp only [tupB]
        go_wp2
        go_ret2
        exact ⟨rfl, hb⟩
  · have E := Lib.hid (rd_plain h0 h92)
    have e0 : (((at_ t 0).toNat : Int) != 92) = true := by simp; omega
    generalize at_ t 0 = c0 at *
    clear h92
    go_enter Tryd.func135, Tryd.ntmps135
    go_wp2
    go_ret2
    exact ⟨ret_val (by rw [E.out]; rfl), Below.refl _ _⟩
end Go.Proofs.YtalobgebdpaecaaDoor.kit
