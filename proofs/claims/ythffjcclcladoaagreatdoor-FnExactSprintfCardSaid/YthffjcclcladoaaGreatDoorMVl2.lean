/-
  Contracts of laws.eqVal and laws.eqValS over this seat's translation: two copies of the same values are told to be the same. Conditions: each theorem names its own.
-/
import Derived.Test.YthffjcclcladoaaGreatDoorMVl0
import Derived.Deep.RegionHeld3
namespace Go.Proofs.YthffjcclcladoaaGreatDoor.kit
open Go.ChangeShapes Go.WideShapes Go.ChangeAt Go.RowKit
set_option linter.unusedVariables false

set_option maxRecDepth 100000 in
theorem eqVd_any (t : VD) (w : World) :
    Calls Tryz.prog 82 #[t.v, t.v] w fun e w' => e = .returned (.bool true) ∧ Below w.heap.size w w' := by
  obtain ⟨k, s, n⟩ := t
  unfold VD.v
  simp only at *
  go_enter Tryz.func82, Tryz.ntmps82
  go_wp2
  go_ret
  exact ⟨rfl, ((Below.refl _ _).alloc (Nat.le_refl _) _).alloc (by simp) _⟩
def Eight3 (b o b' o' : Nat) (t : VD) (w W : World) : Prop := (VdC W b o t ∧ VdC W b' o' t) ∧ (b < W.heap.size ∧ b' < W.heap.size) ∧ Below w.heap.size w W
theorem Eight3.start {b o b' o' : Nat} {t : VD} {w W : World} (h : Eight3 b o b' o' t w W) : Eight3 b o b' o' t w W.drew := ⟨h.1, h.2.1, h.2.2.drew⟩
theorem Eight3.step {b o b' o' : Nat} {t : VD} {w W W' : World} (h : Eight3 b o b' o' t w W) (hb : Below W.heap.size W W') : Eight3 b o b' o' t w W' := by
  obtain ⟨⟨h0, h1⟩, ⟨q, q'⟩, hB⟩ := h
  exact ⟨⟨h0.of fun j => hb.cell (p := ⟨b, j, none⟩) q, h1.of fun j => hb.cell (p := ⟨b', j, none⟩) q'⟩, ⟨Nat.lt_of_lt_of_le q hb.size, Nat.lt_of_lt_of_le q' hb.size⟩, hB.trans (hb.mono hB.size)⟩
theorem Eight3.below {b o b' o' : Nat} {t : VD} {w W : World} (h : Eight3 b o b' o' t w W) : Below w.heap.size w W := h.2.2
set_option maxRecDepth 100000 in
set_option maxHeartbeats 1000000 in
theorem eqVds_any (B C : Nat) (a a' : Option Addr) (cap cap' n : Nat) (f : Nat → VD) (w : World) (hn : n ≤ 2000000) (h1 : VdF B w a n f) (h2 : VdF C w a' n f) :
    Calls Tryz.prog 39 #[.slice a n cap, .slice a' n cap'] w fun e w' => e = .returned (.bool true) ∧ Below w.heap.size w w' := by
  have H1 := Lib.hid h1
  have H2 := Lib.hid h2
  clear h1 h2
  go_enter Tryz.func39, Tryz.ntmps39
  go_wp2_with fail
  go_loopw [5] (fun i wr => ∃ k : Nat, k ≤ n ∧ i = .int .i64 (k : Int) ∧ Below w.heap.size w wr) (fun i _ => n - (intOf i).toNat)
  case atStart => exact ⟨0, Nat.zero_le _, rfl, Below.refl _ _⟩
  case round =>
    obtain ⟨k, hkl, rfl, hb⟩ := hrel
    have HB := Lib.hid hb
    clear hb
    by_cases hlt : k < n
    · obtain ⟨g, rfl, hg1, hg2, hg3, hg4⟩ := (H1.out.kept HB.out) k hlt
      obtain ⟨g', rfl, hg1', hg2', hg3', hg4'⟩ := (H2.out.kept HB.out) k hlt
      have HO := Lib.hid (fun W => eqVd_any (f k) W)
      generalize f k = t at *
      have HT : Eight3 g (k * 3) g' (k * 3) t w _ := ⟨⟨hg3, hg3'⟩, ⟨hg2, hg2'⟩, HB.out⟩
      have HT := Lib.hid HT
      clear hg3 hg3' hg4 hg4' HB
      obtain ⟨kk, s, nn⟩ := t
      unfold VD.v at HO
      have i0 : (0 : Int) ≤ (k : Int) := by omega
      have i1 : (k : Int) < (n : Int) := by omega
      go_wp2_with fail
      go_region_held3 (fun w' => ((w'.cell? ⟨g, k * 3, none⟩ = some (.int .i64 kk) ∧ w'.cell? ⟨g, k * 3 + 1, none⟩ = some (.string s) ∧ w'.cell? ⟨g, k * 3 + 2, none⟩ = some (.int .i64 nn)) ∧ (w'.cell? ⟨g', k * 3, none⟩ = some (.int .i64 kk) ∧ w'.cell? ⟨g', k * 3 + 1, none⟩ = some (.string s) ∧ w'.cell? ⟨g', k * 3 + 2, none⟩ = some (.int .i64 nn))) ∧ (g < w'.heap.size ∧ g' < w'.heap.size) ∧ Below w.heap.size w w') (first | exact HT.out.start | exact Eight3.step HT.out.start (by assumption)) (first | (go_at_call 82; refine (HO.out _).mono ?_; rintro e w2 ⟨rfl, hb2⟩))
      go_wp2_with fail
      go_roundw
      case rel => exact ⟨k + 1, by omega, by go_num, Eight3.below (b := g) (o := k * 3) (b' := g') (o' := k * 3) (t := ⟨kk, s, nn⟩) (by assumption)⟩
      case measure => simp [intOf]; omega
    · obtain rfl : k = n := by omega
      go_wp2_with fail
      go_ret
      exact ⟨rfl, HB.out⟩
end Go.Proofs.YthffjcclcladoaaGreatDoor.kit
