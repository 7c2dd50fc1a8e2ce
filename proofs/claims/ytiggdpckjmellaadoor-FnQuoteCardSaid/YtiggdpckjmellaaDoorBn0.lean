/-
  Contract of spec.l01Bent over this seat's translation: a text that is at most two bytes longer. Conditions: the cursor is one; the text has at most 1048576 bytes.
-/
import Derived.Test.YtiggdpckjmellaaDoorCu3
import Derived.Deep.RegionHeld3
import Derived.IntWalk
namespace Go.Proofs.YtiggdpckjmellaaDoor.kit
open Go.ChangeShapes Go.WideShapes Go.ChangeAt Go.RowKit
set_option linter.unusedVariables false

/-- The cursor in block B goes on, and nothing else has turned since w. -/
def CurS (B : Nat) (w w' : World) : Prop := CurE w' B ∧ OnlyB B w w'
theorem CurS.drew {B : Nat} {w w' : World} (h : CurS B w w') : CurS B w w'.drew := ⟨h.1.kept (C := w'.heap.size) (Below.refl _ _).drew h.1.lt, h.2.drewN 1⟩
theorem CurS.alloc {B : Nat} {w w' : World} (h : CurS B w w') (o : Obj) : CurS B w (w'.alloc o) := ⟨h.1.alloc o, h.2.alloc o⟩
theorem CurS.step {B : Nat} {w W w' : World} (h : CurS B w W) (c : CurE w' B) (o : OnlyB B W w') : CurS B w w' := ⟨c, h.2.trans o⟩
theorem CurS.ne {B : Nat} {w w' : World} (h : CurS B w w') : w'.heap.size ≠ B := by have := h.1.lt; omega
theorem CurS.cur {B : Nat} {w w' : World} (h : CurS B w w') : CurE w' B := h.1
theorem CurS.only {B : Nat} {w w' : World} (h : CurS B w w') : OnlyB B w w' := h.2
def Short (k : Nat) (z : ByteArray) : Prop := z.size ≤ k
theorem ListS.drew {P : ByteArray → Prop} {w : World} {g m : Nat} (h : ListS P w g m) : ListS P w.drew g m := h
theorem ListI.drew {P : Int → Prop} {w : World} {g m : Nat} (h : ListI P w g m) : ListI P w.drew g m := h
def l10 : List ByteArray := [⟨#[48]⟩, ⟨#[32]⟩, ⟨#[255]⟩, ⟨#[34]⟩, ⟨#[10]⟩, ⟨#[97]⟩, ⟨#[44]⟩, ⟨#[61]⟩, ⟨#[41]⟩, ⟨#[36]⟩]
theorem l10_short : ∀ z ∈ l10, Short 1 z := by unfold l10 Short; decide
def l6 : List ByteArray := [⟨#[48]⟩, ⟨#[65]⟩, ⟨#[0]⟩, ⟨#[57]⟩, ⟨#[93]⟩, ⟨#[92]⟩]
theorem l6_short : ∀ z ∈ l6, Short 1 z := by unfold l6 Short; decide
set_option maxRecDepth 100000 in
set_option maxHeartbeats 1000000 in
theorem bent_any (B : Nat) (s : ByteArray) (w : World) (hc : CurE w B) (hs : s.size ≤ 1048576) :
    Calls Tryd.prog 53 #[.pointer (some ⟨B, 0, none⟩), .string s] w (GotS (Short (s.size + 1)) B w) := by
  go_enter Tryd.func53, Tryd.ntmps53
  go_wp2_with fail
  refine (below_any B (s.size + 1) _ hc (by omega) (by omega)).mono ?_
  rintro e w1 ⟨x, ⟨x0, x1⟩, rfl, c1, o1⟩
  obtain ⟨i, rfl⟩ : ∃ i : Nat, x = (i : Int) := ⟨x.toNat, by omega⟩
  have x2 : (i : Int) ≤ (s.size : Int) := by omega
  have hi : i ≤ s.size := by omega
  go_wp2_with fail
  refine (below_any B 8 _ c1 (by omega) (by omega)).mono ?_
  rintro e w2 ⟨y, ⟨y0, y1⟩, rfl, c2, o2⟩
  have S2 : CurS B w w2 := ⟨c2, o1.trans o2⟩
  have HS := Lib.hid S2
  have n2 := S2.ne
  by_cases h0 : y = 0
  · subst h0
    go_wp2
    go_ret
    exact ⟨_, by simp only [Short, ByteArray.size_extract]; omega, rfl, HS.out.1, HS.out.2⟩
  · have e0 : (y == 0) = false := by simpa using h0
    by_cases h1 : y = 1
    · subst h1
      go_wp2
      go_region_held3 (fun w' => CurS B w w') (first | assumption | exact CurS.drew (by assumption) | exact CurS.alloc (by assumption) _ | exact CurS.step (by assumption) (by assumption) (by assumption)) (first | (go_at_call 59; refine (pick_any (Short 1) B _ 10 _ _ (CurS.cur (w := w) (by assumption)) (ListS.drew (listS_alloc l10 _ _ _ rfl l10_short)) n2 (by omega) (by omega)).mono ?_; rintro e w3 ⟨z, hz, rfl, c3, o3⟩; have hz1 : z.size ≤ 1 := hz; have q1 : ¬ 9223372036854775807 < i + z.size := (by omega); have q2 : ¬ 9223372036854775807 < i + z.size + (s.size - i) := (by omega)))
      all_goals
        go_wp2
        go_ret
        refine ⟨_, ?_, rfl, CurS.cur (w := w) (by assumption), CurS.only (by assumption)⟩
        simp only [Short, ByteArray.size_append, ByteArray.size_extract]
        omega
    · have e1 : (y == 1) = false := by simpa using h1
      by_cases h2 : y = 2
      · subst h2
        by_cases hlt : i < s.size
        · have x3 : (i : Int) < (s.size : Int) := by omega
          have x4 : (i : Int) + 1 ≤ (s.size : Int) := by omega
          have w5 : IntKind.i64.wrap ((i : Int) + 1) = (i : Int) + 1 := IntWalk.i64_in _ (by omega)
          have w6 : (0 : Int) ≤ (i : Int) + 1 := by omega
          have w7 : ((i : Int) + 1).toNat = i + 1 := by omega
          go_wp2
          go_region_held3 (fun w' => CurS B w w') (first | assumption | exact CurS.drew (by assumption) | exact CurS.alloc (by assumption) _ | exact CurS.step (by assumption) (by assumption) (by assumption)) (first | (go_at_call 59; refine (pick_any (Short 1) B _ 6 _ _ (CurS.cur (w := w) (by assumption)) (ListS.drew (listS_alloc l6 _ _ _ rfl l6_short)) n2 (by omega) (by omega)).mono ?_; rintro e w3 ⟨z, hz, rfl, c3, o3⟩; have hz1 : z.size ≤ 1 := hz; have q1 : ¬ 9223372036854775807 < i + z.size := (by omega); have q2 : ¬ 9223372036854775807 < i + z.size + (s.size - (i + 1)) := (by omega)))
          all_goals
            clear w5 w7
            go_wp2
            go_ret
            refine ⟨_, ?_, rfl, CurS.cur (w := w) (by assumption), CurS.only (by assumption)⟩
            simp only [Short, ByteArray.size_append, ByteArray.size_extract]
            omega
        · go_wp2
          go_ret
          exact ⟨_, by simp only [Short]; omega, rfl, HS.out.1, HS.out.2⟩
      · have e2 : (y == 2) = false := by simpa using h2
        go_wp2
        go_ret
        exact ⟨_, by simp only [Short]; omega, rfl, HS.out.1, HS.out.2⟩
end Go.Proofs.YtiggdpckjmellaaDoor.kit
