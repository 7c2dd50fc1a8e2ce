/-
  Contracts of spec.CompareVal and impl.CompareVal over this seat's translation. Conditions: the texts have at most 1048576 bytes; the table of the powers of ten is as listed.
-/
import Derived.Test.YtchagbhcekehmaaDoorSo0
import Derived.Test.YtchagbhcekehmaaDoorNo0
import Derived.Deep.RegionHeld3
namespace Go.Proofs.YtchagbhcekehmaaDoor.kit
open Go.ChangeShapes Go.WideShapes Go.ChangeAt Go.RowKit
set_option linter.unusedVariables false

def cvB (ka : Int) (sa : ByteArray) (na : Int) (kb : Int) (sb : ByteArray) (nb : Int) : Int :=
  if ka == 1 || kb == 1 then cmpT (soB ka sa na) (soB kb sb nb) else cmpI (nmB ka sa na) (nmB kb sb nb)
/-- Two values in two blocks of a world that keeps what was below. -/
def TwoV (B0 : World) (w : World) : Prop := Below B0.heap.size B0 w ∧ B0.heap.size + 2 ≤ w.heap.size
theorem TwoV.start (w : World) (o1 o2 : Obj) : TwoV w ((w.alloc o1).alloc o2).drew :=
  ⟨(((Below.refl _ _).alloc (Nat.le_refl _) _).alloc (by simp) _).drew, by simp⟩
theorem TwoV.step {B0 W w2 : World} (h : TwoV B0 W) (hb : Below W.heap.size W w2) : TwoV B0 w2 :=
  ⟨h.1.trans (hb.mono (by have := h.2; omega)), Nat.le_trans h.2 hb.size⟩
theorem cvS_step {ka na kb nb : Int} {sa sb : ByteArray} {w W w2 : World} (h : (W.cell? ⟨w.heap.size, 0, none⟩ = some (.int .i64 ka) ∧ W.cell? ⟨w.heap.size, 1, none⟩ = some (.string sa) ∧ W.cell? ⟨w.heap.size, 2, none⟩ = some (.int .i64 na) ∧ W.cell? ⟨w.heap.size + 1, 0, none⟩ = some (.int .i64 kb) ∧ W.cell? ⟨w.heap.size + 1, 1, none⟩ = some (.string sb) ∧ W.cell? ⟨w.heap.size + 1, 2, none⟩ = some (.int .i64 nb)) ∧ TwoV w W) (hb : Below W.heap.size W w2) :
    (w2.cell? ⟨w.heap.size, 0, none⟩ = some (.int .i64 ka) ∧ w2.cell? ⟨w.heap.size, 1, none⟩ = some (.string sa) ∧ w2.cell? ⟨w.heap.size, 2, none⟩ = some (.int .i64 na) ∧ w2.cell? ⟨w.heap.size + 1, 0, none⟩ = some (.int .i64 kb) ∧ w2.cell? ⟨w.heap.size + 1, 1, none⟩ = some (.string sb) ∧ w2.cell? ⟨w.heap.size + 1, 2, none⟩ = some (.int .i64 nb)) ∧ TwoV w w2 := by
  have hz := h.2.2
  obtain ⟨⟨h1, h2, h3, h4, h5, h6⟩, h7⟩ := h
  have g : ∀ b o, b < w.heap.size + 2 → w2.cell? ⟨b, o, none⟩ = W.cell? ⟨b, o, none⟩ := fun b o h => hb.cell (p := ⟨b, o, none⟩) (by show b < W.heap.size; omega)
  exact ⟨⟨by rw [g _ _ (by omega), h1], by rw [g _ _ (by omega), h2], by rw [g _ _ (by omega), h3], by rw [g _ _ (by omega), h4], by rw [g _ _ (by omega), h5], by rw [g _ _ (by omega), h6]⟩, h7.step hb⟩
theorem ofTwo {A : Prop} {w W : World} (h : A ∧ TwoV w W) : Below w.heap.size w W := h.2.1
theorem cvS_drew {ka na kb nb : Int} {sa sb : ByteArray} {w W : World} (h : (W.cell? ⟨w.heap.size, 0, none⟩ = some (.int .i64 ka) ∧ W.cell? ⟨w.heap.size, 1, none⟩ = some (.string sa) ∧ W.cell? ⟨w.heap.size, 2, none⟩ = some (.int .i64 na) ∧ W.cell? ⟨w.heap.size + 1, 0, none⟩ = some (.int .i64 kb) ∧ W.cell? ⟨w.heap.size + 1, 1, none⟩ = some (.string sb) ∧ W.cell? ⟨w.heap.size + 1, 2, none⟩ = some (.int .i64 nb)) ∧ TwoV w W) :
    (W.drew.cell? ⟨w.heap.size, 0, none⟩ = some (.int .i64 ka) ∧ W.drew.cell? ⟨w.heap.size, 1, none⟩ = some (.string sa) ∧ W.drew.cell? ⟨w.heap.size, 2, none⟩ = some (.int .i64 na) ∧ W.drew.cell? ⟨w.heap.size + 1, 0, none⟩ = some (.int .i64 kb) ∧ W.drew.cell? ⟨w.heap.size + 1, 1, none⟩ = some (.string sb) ∧ W.drew.cell? ⟨w.heap.size + 1, 2, none⟩ = some (.int .i64 nb)) ∧ TwoV w W.drew := cvS_step h (Below.refl _ _).drew
theorem cvS_start (ka na kb nb : Int) (sa sb : ByteArray) (w : World) (T : TypeId) {W : World} (e : W = (w.alloc (.cells #[.int .i64 ka, .string sa, .int .i64 na] T)).alloc (.cells #[.int .i64 kb, .string sb, .int .i64 nb] T)) : (W.cell? ⟨w.heap.size, 0, none⟩ = some (.int .i64 ka) ∧ W.cell? ⟨w.heap.size, 1, none⟩ = some (.string sa) ∧ W.cell? ⟨w.heap.size, 2, none⟩ = some (.int .i64 na) ∧ W.cell? ⟨w.heap.size + 1, 0, none⟩ = some (.int .i64 kb) ∧ W.cell? ⟨w.heap.size + 1, 1, none⟩ = some (.string sb) ∧ W.cell? ⟨w.heap.size + 1, 2, none⟩ = some (.int .i64 nb)) ∧ TwoV w W := by
  subst e
  refine ⟨?_, ⟨(((Below.refl _ _).alloc (Nat.le_refl _) _).alloc (by simp) _), by simp⟩⟩
  go_keep
set_option maxRecDepth 100000 in
set_option maxHeartbeats 1000000 in
theorem specCvA (ka : Int) (sa : ByteArray) (na : Int) (kb : Int) (sb : ByteArray) (nb : Int) (w : World) (ha : (ka == 1) = true) :
    Calls Tryd.prog 45 #[.agg #[.int .i64 ka, .string sa, .int .i64 na], .agg #[.int .i64 kb, .string sb, .int .i64 nb]] w fun e w' => e = .returned (.int .i64 (cmpT (soB ka sa na) (soB kb sb nb))) ∧ Below w.heap.size w w' := by
  have ha' : (ka != 1) = false := by simpa using ha
  go_enter Tryd.func45, Tryd.ntmps45
  go_wp2
  go_region_held3 (fun w' => (w'.cell? ⟨w.heap.size, 0, none⟩ = some (.int .i64 ka) ∧ w'.cell? ⟨w.heap.size, 1, none⟩ = some (.string sa) ∧ w'.cell? ⟨w.heap.size, 2, none⟩ = some (.int .i64 na) ∧ w'.cell? ⟨w.heap.size + 1, 0, none⟩ = some (.int .i64 kb) ∧ w'.cell? ⟨w.heap.size + 1, 1, none⟩ = some (.string sb) ∧ w'.cell? ⟨w.heap.size + 1, 2, none⟩ = some (.int .i64 nb)) ∧ TwoV w w') (first | assumption | exact cvS_step (by assumption) (by assumption) | (refine ⟨?_, TwoV.start _ _ _⟩; go_keep)) (first | (go_at_call 42; refine (specSo_any _ _ _ _).mono ?_; rintro e w2 ⟨rfl, hb2⟩) | (go_at_call 84; refine (texts_any _ _ _).mono ?_; rintro e w2 ⟨rfl, rfl⟩))
  all_goals
    go_wp2
    go_ret
    exact ⟨rfl, ofTwo (by assumption)⟩
set_option maxRecDepth 100000 in
set_option maxHeartbeats 1000000 in
theorem specCvB (ka : Int) (sa : ByteArray) (na : Int) (kb : Int) (sb : ByteArray) (nb : Int) (w : World) (ha : (ka == 1) = false) (hb : (kb == 1) = true) :
    Calls Tryd.prog 45 #[.agg #[.int .i64 ka, .string sa, .int .i64 na], .agg #[.int .i64 kb, .string sb, .int .i64 nb]] w fun e w' => e = .returned (.int .i64 (cmpT (soB ka sa na) (soB kb sb nb))) ∧ Below w.heap.size w w' := by
  have ha' : (ka != 1) = true := by simpa using ha
  have hb' : (kb != 1) = false := by simpa using hb
  go_enter Tryd.func45, Tryd.ntmps45
  go_wp2
  go_region_held3 (fun w' => (w'.cell? ⟨w.heap.size, 0, none⟩ = some (.int .i64 ka) ∧ w'.cell? ⟨w.heap.size, 1, none⟩ = some (.string sa) ∧ w'.cell? ⟨w.heap.size, 2, none⟩ = some (.int .i64 na) ∧ w'.cell? ⟨w.heap.size + 1, 0, none⟩ = some (.int .i64 kb) ∧ w'.cell? ⟨w.heap.size + 1, 1, none⟩ = some (.string sb) ∧ w'.cell? ⟨w.heap.size + 1, 2, none⟩ = some (.int .i64 nb)) ∧ TwoV w w') (first | assumption | exact cvS_step (by assumption) (by assumption) | (refine ⟨?_, TwoV.start _ _ _⟩; go_keep)) (first | (go_at_call 42; refine (specSo_any _ _ _ _).mono ?_; rintro e w2 ⟨rfl, hb2⟩) | (go_at_call 84; refine (texts_any _ _ _).mono ?_; rintro e w2 ⟨rfl, rfl⟩))
  all_goals
    go_wp2
    go_ret
    exact ⟨rfl, ofTwo (by assumption)⟩
set_option maxRecDepth 100000 in
set_option maxHeartbeats 1000000 in
theorem specCvC (ka : Int) (sa : ByteArray) (na : Int) (kb : Int) (sb : ByteArray) (nb : Int) (w : World) (ha : (ka == 1) = false) (hb : (kb == 1) = false) (hsa : sa.size ≤ 1048576) (hsb : sb.size ≤ 1048576) :
    Calls Tryd.prog 45 #[.agg #[.int .i64 ka, .string sa, .int .i64 na], .agg #[.int .i64 kb, .string sb, .int .i64 nb]] w fun e w' => e = .returned (.int .i64 (cmpI (nmB ka sa na) (nmB kb sb nb))) ∧ Below w.heap.size w w' := by
  have ha' : (ka != 1) = true := by simpa using ha
  have hb' : (kb != 1) = true := by simpa using hb
  go_enter Tryd.func45, Tryd.ntmps45
  go_wp2
  go_region_held3 (fun w' => (w'.cell? ⟨w.heap.size, 0, none⟩ = some (.int .i64 ka) ∧ w'.cell? ⟨w.heap.size, 1, none⟩ = some (.string sa) ∧ w'.cell? ⟨w.heap.size, 2, none⟩ = some (.int .i64 na) ∧ w'.cell? ⟨w.heap.size + 1, 0, none⟩ = some (.int .i64 kb) ∧ w'.cell? ⟨w.heap.size + 1, 1, none⟩ = some (.string sb) ∧ w'.cell? ⟨w.heap.size + 1, 2, none⟩ = some (.int .i64 nb)) ∧ TwoV w w') (first | assumption | exact cvS_step (by assumption) (by assumption) | (refine ⟨?_, TwoV.start _ _ _⟩; go_keep)) (first | (go_at_call 83; refine (specNumOf_any _ _ _ _ (by assumption)).mono ?_; rintro e w2 ⟨rfl, hb2⟩) | (go_at_call 82; refine (less_any _ _ _).mono ?_; rintro e w2 ⟨rfl, rfl⟩))
  all_goals
    go_wp2
    go_ret
    exact ⟨rfl, ofTwo (by assumption)⟩
theorem specCv_any (ka : Int) (sa : ByteArray) (na : Int) (kb : Int) (sb : ByteArray) (nb : Int) (w : World) (hsa : sa.size ≤ 1048576) (hsb : sb.size ≤ 1048576) :
    Calls Tryd.prog 45 #[.agg #[.int .i64 ka, .string sa, .int .i64 na], .agg #[.int .i64 kb, .string sb, .int .i64 nb]] w fun e w' => e = .returned (.int .i64 (cvB ka sa na kb sb nb)) ∧ Below w.heap.size w w' := by
  cases ha : ka == 1
  · cases hb : kb == 1
    · rw [show cvB ka sa na kb sb nb = cmpI (nmB ka sa na) (nmB kb sb nb) by simp [cvB, ha, hb]]
      exact specCvC ka sa na kb sb nb w ha hb hsa hsb
    · rw [show cvB ka sa na kb sb nb = cmpT (soB ka sa na) (soB kb sb nb) by simp [cvB, ha, hb]]
      exact specCvB ka sa na kb sb nb w ha hb
  · rw [show cvB ka sa na kb sb nb = cmpT (soB ka sa na) (soB kb sb nb) by simp [cvB, ha]]
    exact specCvA ka sa na kb sb nb w ha
set_option maxRecDepth 100000 in
set_option maxHeartbeats 1000000 in
theorem implCvA (ka : Int) (sa : ByteArray) (na : Int) (kb : Int) (sb : ByteArray) (nb : Int) (w : World) (ha : (ka == 1) = true) (ht : Tab w) :
    Calls Tryd.prog 46 #[.agg #[.int .i64 ka, .string sa, .int .i64 na], .agg #[.int .i64 kb, .string sb, .int .i64 nb]] w fun e w' => e = .returned (.int .i64 (cmpT (soB ka sa na) (soB kb sb nb))) ∧ Below w.heap.size w w' := by
  have ha' : (ka != 1) = false := by simpa using ha
  have HT := Lib.hid ht
  clear ht
  go_enter Tryd.func46, Tryd.ntmps46
  go_wp2
  go_region_held3 (fun w' => (w'.cell? ⟨w.heap.size, 0, none⟩ = some (.int .i64 ka) ∧ w'.cell? ⟨w.heap.size, 1, none⟩ = some (.string sa) ∧ w'.cell? ⟨w.heap.size, 2, none⟩ = some (.int .i64 na) ∧ w'.cell? ⟨w.heap.size + 1, 0, none⟩ = some (.int .i64 kb) ∧ w'.cell? ⟨w.heap.size + 1, 1, none⟩ = some (.string sb) ∧ w'.cell? ⟨w.heap.size + 1, 2, none⟩ = some (.int .i64 nb)) ∧ TwoV w w') (first | assumption | exact cvS_step (by assumption) (by assumption) | (refine ⟨?_, TwoV.start _ _ _⟩; go_keep)) (first | (go_at_call 44; refine (implSo_any _ _ _ _ (HT.out.on (ofTwo (by assumption)))).mono ?_; rintro e w2 ⟨rfl, hb2⟩) | (go_at_call 85; refine (cmpS_any _ _ _).mono ?_; rintro e w2 ⟨rfl, rfl⟩))
  all_goals
    go_wp2
    go_ret
    exact ⟨rfl, ofTwo (by assumption)⟩
set_option maxRecDepth 100000 in
set_option maxHeartbeats 1000000 in
theorem implCvB (ka : Int) (sa : ByteArray) (na : Int) (kb : Int) (sb : ByteArray) (nb : Int) (w : World) (ha : (ka == 1) = false) (hb : (kb == 1) = true) (ht : Tab w) :
    Calls Tryd.prog 46 #[.agg #[.int .i64 ka, .string sa, .int .i64 na], .agg #[.int .i64 kb, .string sb, .int .i64 nb]] w fun e w' => e = .returned (.int .i64 (cmpT (soB ka sa na) (soB kb sb nb))) ∧ Below w.heap.size w w' := by
  have ha' : (ka != 1) = true := by simpa using ha
  have hb' : (kb != 1) = false := by simpa using hb
  have HT := Lib.hid ht
  clear ht
  go_enter Tryd.func46, Tryd.ntmps46
  go_wp2
  go_region_held3 (fun w' => (w'.cell? ⟨w.heap.size, 0, none⟩ = some (.int .i64 ka) ∧ w'.cell? ⟨w.heap.size, 1, none⟩ = some (.string sa) ∧ w'.cell? ⟨w.heap.size, 2, none⟩ = some (.int .i64 na) ∧ w'.cell? ⟨w.heap.size + 1, 0, none⟩ = some (.int .i64 kb) ∧ w'.cell? ⟨w.heap.size + 1, 1, none⟩ = some (.string sb) ∧ w'.cell? ⟨w.heap.size + 1, 2, none⟩ = some (.int .i64 nb)) ∧ TwoV w w') (first | assumption | exact cvS_step (by assumption) (by assumption) | (refine ⟨?_, TwoV.start _ _ _⟩; go_keep)) (first | (go_at_call 44; refine (implSo_any _ _ _ _ (HT.out.on (ofTwo (by assumption)))).mono ?_; rintro e w2 ⟨rfl, hb2⟩) | (go_at_call 85; refine (cmpS_any _ _ _).mono ?_; rintro e w2 ⟨rfl, rfl⟩))
  all_goals
    go_wp2
    go_ret
    exact ⟨rfl, ofTwo (by assumption)⟩
set_option maxRecDepth 100000 in
set_option maxHeartbeats 1000000 in
theorem implCvC (ka : Int) (sa : ByteArray) (na : Int) (kb : Int) (sb : ByteArray) (nb : Int) (w : World) (ha : (ka == 1) = false) (hb : (kb == 1) = false) (hsa : sa.size ≤ 1048576) (hsb : sb.size ≤ 1048576) :
    Calls Tryd.prog 46 #[.agg #[.int .i64 ka, .string sa, .int .i64 na], .agg #[.int .i64 kb, .string sb, .int .i64 nb]] w fun e w' => e = .returned (.int .i64 (cmpI (nmB ka sa na) (nmB kb sb nb))) ∧ Below w.heap.size w w' := by
  have ha' : (ka != 1) = true := by simpa using ha
  have hb' : (kb != 1) = true := by simpa using hb
  go_enter Tryd.func46, Tryd.ntmps46
  go_wp2
  go_region_held3 (fun w' => (w'.cell? ⟨w.heap.size, 0, none⟩ = some (.int .i64 ka) ∧ w'.cell? ⟨w.heap.size, 1, none⟩ = some (.string sa) ∧ w'.cell? ⟨w.heap.size, 2, none⟩ = some (.int .i64 na) ∧ w'.cell? ⟨w.heap.size + 1, 0, none⟩ = some (.int .i64 kb) ∧ w'.cell? ⟨w.heap.size + 1, 1, none⟩ = some (.string sb) ∧ w'.cell? ⟨w.heap.size + 1, 2, none⟩ = some (.int .i64 nb)) ∧ TwoV w w') (first | assumption | exact cvS_step (by assumption) (by assumption) | (refine ⟨?_, TwoV.start _ _ _⟩; go_keep)) (first | (go_at_call 87; refine (implNumOf_any _ _ _ _ (by assumption)).mono ?_; rintro e w2 ⟨rfl, hb2⟩) | (go_at_call 86; refine (cmpI_any _ _ _).mono ?_; rintro e w2 ⟨rfl, rfl⟩))
  all_goals
    go_wp2
    go_ret
    exact ⟨rfl, ofTwo (by assumption)⟩
theorem implCv_any (ka : Int) (sa : ByteArray) (na : Int) (kb : Int) (sb : ByteArray) (nb : Int) (w : World) (hsa : sa.size ≤ 1048576) (hsb : sb.size ≤ 1048576) (ht : Tab w) :
    Calls Tryd.prog 46 #[.agg #[.int .i64 ka, .string sa, .int .i64 na], .agg #[.int .i64 kb, .string sb, .int .i64 nb]] w fun e w' => e = .returned (.int .i64 (cvB ka sa na kb sb nb)) ∧ Below w.heap.size w w' := by
  cases ha : ka == 1
  · cases hb : kb == 1
    · rw [show cvB ka sa na kb sb nb = cmpI (nmB ka sa na) (nmB kb sb nb) by simp [cvB, ha, hb]]
      exact implCvC ka sa na kb sb nb w ha hb hsa hsb
    · rw [show cvB ka sa na kb sb nb = cmpT (soB ka sa na) (soB kb sb nb) by simp [cvB, ha, hb]]
      exact implCvB ka sa na kb sb nb w ha hb ht
  · rw [show cvB ka sa na kb sb nb = cmpT (soB ka sa na) (soB kb sb nb) by simp [cvB, ha]]
    exact implCvA ka sa na kb sb nb w ha ht
end Go.Proofs.YtchagbhcekehmaaDoor.kit
