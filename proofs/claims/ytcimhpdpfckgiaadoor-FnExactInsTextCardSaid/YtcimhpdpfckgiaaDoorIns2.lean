/-
  Contract of impl.InsText over this seat's translation. Conditions: the step's texts have at most 1048576 bytes, and the tables are as listed.
-/
import Derived.Test.YtcimhpdpfckgiaaDoorIns1
namespace Go.Proofs.YtcimhpdpfckgiaaDoor.kit
open Go.ChangeShapes Go.WideShapes Go.ChangeAt Go.RowKit
set_option linter.unusedVariables false
set_option linter.unusedSimpArgs false

theorem below_drewI {B : Nat} {w w' : World} (h : Below B w w') {n : Nat} : Below B w (w'.drewN n) := ⟨h.os, h.tape, h.output, h.size, h.block⟩
theorem quZ_le (s : ByteArray) (h : s.size ≤ 1048576) : (⟨(qbs s.data.toList ++ [34]).toArray⟩ : ByteArray).size ≤ 4194307 := by
  show (qbs s.data.toList ++ [34]).toArray.size ≤ _
  rw [List.size_toArray, List.length_append]
  unfold qbs
  have h1 := flat_len s.data.toList
  have h2 : s.data.toList.length = s.size := Array.length_toList
  rw [List.length_cons, List.length_singleton]
  omega
set_option maxRecDepth 100000 in
set_option maxHeartbeats 1000000 in
theorem implIns_any (t : InD) (w : World) (hs : insCost t ≤ 1048576) (h1 : -9223372036854775808 ≤ t.n) (h2 : t.n ≤ 9223372036854775807) (ht : Tab w) (ho : OwT w) :
    Calls Tryd.prog 7 #[t.v] w fun e w' => e = .returned (.string (insZ t)) ∧ Below w.heap.size w w' := by
  obtain ⟨op, n, kd, s, nm⟩ := t
  unfold insCost at hs
  simp only at hs h1 h2
  have hs1 : s.size ≤ 1048576 := by omega
  have hs2 : nm.size ≤ 1048576 := by omega
  have HB := Lib.hid (show ∀ o, Below w.heap.size w (w.alloc o) from fun o => (Below.refl w.heap.size w).alloc (Nat.le_refl _) _)
  have HT := Lib.hid (show ∀ o, Tab (w.alloc o) from fun o => ht.on (HB.out o))
  by_cases c : 0 ≤ op ∧ op < 24
  · obtain ⟨k, rfl⟩ : ∃ k : Nat, op = (k : Int) := ⟨op.toNat, by omega⟩
    have hk : k < 24 := by omega
    have hcell : ∀ o, (w.alloc o).cell? ⟨0, k, none⟩ = some (.string (opW k)) := fun o => by rw [(ho.on (HB.out o)).cell k, opL_at k hk]
    have hsz := opW_short k
    clear ht ho
    by_cases c0 : k = 0
    · subst c0
      have E : Hid (insZ ⟨(0 : Nat), n, kd, s, nm⟩ = (opW 0 ++ ⟨#[32]⟩) ++ ntA n) := Lib.hid (by simp [insZ])
      have HC := Lib.hid (fun o => implNt_any n (w.alloc o) (HT.out o))
      have hz := ntA_le30 n
      clear HT
      generalize insZ ⟨(0 : Nat), n, kd, s, nm⟩ = z at *
      unfold InD.v
      go_enter Tryd.func7, Tryd.ntmps7
      go_wp2_with fail
      refine (HC.out _).mono ?_
      rintro e w1 ⟨rfl, hb1⟩
      go_wp2_with fail
      go_ret
      exact ⟨by rw [E.out]; rfl, (HB.out _).trans (hb1.mono (HB.out _).size)⟩
    by_cases c1 : k = 1
    · subst c1
      have E : Hid (insZ ⟨(1 : Nat), n, kd, s, nm⟩ = (opW 1 ++ ⟨#[32]⟩) ++ ⟨(qbs s.data.toList ++ [34]).toArray⟩) := Lib.hid (by simp [insZ])
      have HC := Lib.hid (fun W => implQuote_any s W hs1)
      have hz : (⟨(qbs s.data.toList ++ [34]).toArray⟩ : ByteArray).size ≤ 4194307 := quZ_le s hs1
      generalize (⟨(qbs s.data.toList ++ [34]).toArray⟩ : ByteArray) = q at *
      clear HT
      generalize insZ ⟨(1 : Nat), n, kd, s, nm⟩ = z at *
      unfold InD.v
      go_enter Tryd.func7, Tryd.ntmps7
      go_wp2_with fail
      refine (HC.out _).mono ?_
      rintro e w1 ⟨rfl, hb1⟩
      go_wp2_with fail
      go_ret
      exact ⟨by rw [E.out]; rfl, (HB.out _).trans (hb1.mono (HB.out _).size)⟩
    by_cases c2 : k = 2
    · subst c2
      have E : Hid (insZ ⟨(2 : Nat), n, kd, s, nm⟩ = (opW 2 ++ ⟨#[32]⟩) ++ ((⟨#[47]⟩ ++ s) ++ ⟨#[47]⟩)) := Lib.hid (by simp [insZ])
      have HC := Lib.hid (fun W => reWord_any s W hs1)
      have hz : ((⟨#[47]⟩ ++ s) ++ ⟨#[47]⟩ : ByteArray).size ≤ 1048578 := by rw [ByteArray.size_append, ByteArray.size_append]; show 1 + s.size + 1 ≤ _; omega
      generalize ((⟨#[47]⟩ ++ s) ++ ⟨#[47]⟩ : ByteArray) = q at *
      clear HT
      generalize insZ ⟨(2 : Nat), n, kd, s, nm⟩ = z at *
      unfold InD.v
      go_enter Tryd.func7, Tryd.ntmps7
      go_wp2_with fail
      refine (HC.out _).mono ?_
      rintro e w1 ⟨rfl, rfl⟩
      go_wp2_with fail
      go_ret
      exact ⟨by rw [E.out]; rfl, HB.out _⟩
    have E : Hid (insZ ⟨(k : Nat), n, kd, s, nm⟩ = ((opW k ++ baZ s) ++ baZ nm) ++ baZ (manyZ n)) := Lib.hid (by
      have g0 : ¬ ((k : Int) = 0) := by omega
      have g1 : ¬ ((k : Int) = 1) := by omega
      have g2 : ¬ ((k : Int) = 2) := by omega
      unfold insZ
      simp only [if_pos c, if_neg g0, if_neg g1, if_neg g2, Int.toNat_natCast])
    have HS := Lib.hid (fun W => blankAhead_any s W hs1)
    have HN := Lib.hid (fun W => blankAhead_any nm W hs2)
    have z1 : (baZ s).size ≤ 1048577 := by have := baZ_le s; omega
    have z2 : (baZ nm).size ≤ 1048577 := by have := baZ_le nm; omega
    have z3 : (baZ (manyZ n)).size ≤ 22 := by have := baZ_le (manyZ n); have := manyZ_le n h1 h2; omega
    have HM := Lib.hid (fun W => blankAhead_any (manyZ n) W (by have := manyZ_le n h1 h2; omega))
    have b0 : ((k : Int) == 0) = false := by simpa using c0
    have b1 : ((k : Int) == 1) = false := by simp only [beq_eq_false_iff_ne, ne_eq]; omega
    have b2 : ((k : Int) == 2) = false := by simp only [beq_eq_false_iff_ne, ne_eq]; omega
    generalize insZ ⟨(k : Nat), n, kd, s, nm⟩ = z at *
    by_cases hn : n = 0
    · subst hn
      rw [show manyZ 0 = ⟨#[]⟩ from if_pos rfl] at E HM z3
      generalize baZ s = ys at *
      generalize baZ nm = yn at *
      generalize baZ ⟨#[]⟩ = ym at *
      generalize opW k = yk at *
      clear HT c0 c1 c2 c
      unfold InD.v
      go_enter Tryd.func7, Tryd.ntmps7
      go_wp2_with fail
      go_quiet (first
        | (go_at_call 16; exact Calls.quiet_of_same ((HS.out _).mono fun _ _ ⟨he, hw⟩ => ⟨he, hw.symm⟩))
        | (go_at_call 16; exact Calls.quiet_of_same ((HN.out _).mono fun _ _ ⟨he, hw⟩ => ⟨he, hw.symm⟩))
        | (go_at_call 16; exact Calls.quiet_of_same ((HM.out _).mono fun _ _ ⟨he, hw⟩ => ⟨he, hw.symm⟩)))
      go_wp2_with fail
      go_ret
      exact ⟨by rw [E.out]; rfl, below_drewI (HB.out _)⟩
    · have bn : (n == 0) = false := by simpa using hn
      have HD := Lib.hid (fun o => implDec_any n (w.alloc o) h1 h2 (HT.out o))
      rw [show manyZ n = ⟨(Lib.itoa n).toArray⟩ from if_neg hn] at E HM z3
      have hit : (⟨(Lib.itoa n).toArray⟩ : ByteArray).size ≤ 21 := Lib.itoa_length_le _ (by omega) (by omega)
      generalize (⟨(Lib.itoa n).toArray⟩ : ByteArray) = it at *
      generalize baZ s = ys at *
      generalize baZ nm = yn at *
      generalize baZ it = ym at *
      generalize opW k = yk at *
      clear HT c0 c1 c2 c
      unfold InD.v
      go_enter Tryd.func7, Tryd.ntmps7
      go_wp2_with fail
      refine (HD.out _).mono ?_
      rintro e w1 ⟨rfl, hb1⟩
      have u3 := (hb1.cell (p := ⟨w.heap.size, 3, none⟩) (by simp)).trans (World.cell?_alloc_new w _ _ _)
      have u4 := (hb1.cell (p := ⟨w.heap.size, 4, none⟩) (by simp)).trans (World.cell?_alloc_new w _ _ _)
      have HB1 := Lib.hid ((HB.out _).trans (hb1.mono (HB.out _).size))
      clear hb1
      go_wp2_with fail
      go_quiet (first
        | (go_at_call 16; exact Calls.quiet_of_same ((HS.out _).mono fun _ _ ⟨he, hw⟩ => ⟨he, hw.symm⟩))
        | (go_at_call 16; exact Calls.quiet_of_same ((HN.out _).mono fun _ _ ⟨he, hw⟩ => ⟨he, hw.symm⟩))
        | (go_at_call 16; exact Calls.quiet_of_same ((HM.out _).mono fun _ _ ⟨he, hw⟩ => ⟨he, hw.symm⟩)))
      go_wp2_with fail
      go_ret
      exact ⟨by rw [E.out]; rfl, below_drewI HB1.out⟩
  · have E : Hid (insZ ⟨op, n, kd, s, nm⟩ = ⟨#[]⟩) := Lib.hid (if_neg c)
    generalize insZ ⟨op, n, kd, s, nm⟩ = z at *
    clear HT ht ho
    unfold InD.v
    by_cases c0 : op < 0
    · clear c
      go_enter Tryd.func7, Tryd.ntmps7
      go_wp2_with fail
      go_ret
      exact ⟨by rw [E.out]; rfl, HB.out _⟩
    · have c1 : 24 ≤ op := by omega
      clear c
      go_enter Tryd.func7, Tryd.ntmps7
      go_wp2_with fail
      go_ret
      exact ⟨by rw [E.out]; rfl, HB.out _⟩
end Go.Proofs.YtcimhpdpfckgiaaDoor.kit
