/-
  Contracts of what draws numbers over this seat's translation: spec.l02Num, spec.l02Two. Conditions: the cursor is one; the code's bytes are known.
-/
import Derived.Test.YtebeoijoljlhiaaGreatDoorMCu2
import Derived.Deep.RegionHeld3
import Derived.IntWalk
namespace Go.Proofs.YtebeoijoljlhiaaGreatDoor.kit
open Go.ChangeShapes Go.WideShapes Go.ChangeAt Go.RowKit
set_option linter.unusedVariables false

def I64 (x : Int) : Prop := -9223372036854775808 ≤ x ∧ x ≤ 9223372036854775807
theorem OnlyB.alloc {B : Nat} {w w' : World} (h : OnlyB B w w') (o : Obj) : OnlyB B w (w'.alloc o) :=
  h.trans ⟨rfl, rfl, rfl, by simp, fun j hj _ => ((Below.refl w'.heap.size w').alloc (Nat.le_refl _) o).block j hj⟩
theorem CurE.alloc {w : World} {B : Nat} (h : CurE w B) (o : Obj) : CurE (w.alloc o) B := h.kept (C := w.heap.size) ((Below.refl _ _).alloc (Nat.le_refl _) o) h.lt
theorem listI_alloc {P : Int → Prop} (zs : List Int) (T : TypeId) (w : World) (cs : Array Value) (e : cs = (zs.map (Value.int .i64)).toArray) (hP : ∀ z ∈ zs, P z) : ListI P (w.alloc (.cells cs T)) w.heap.size zs.length := by
  refine ⟨by simp, fun j hj => ⟨zs[j], hP _ (List.getElem_mem hj), ?_⟩⟩
  rw [World.cell?_alloc_new, e]
  simp [hj]
theorem listS_alloc {P : ByteArray → Prop} (zs : List ByteArray) (T : TypeId) (w : World) (cs : Array Value) (e : cs = (zs.map Value.string).toArray) (hP : ∀ z ∈ zs, P z) : ListS P (w.alloc (.cells cs T)) w.heap.size zs.length := by
  refine ⟨by simp, fun j hj => ⟨zs[j], hP _ (List.getElem_mem hj), ?_⟩⟩
  rw [World.cell?_alloc_new, e]
  simp [hj]
set_option maxRecDepth 100000 in
set_option maxHeartbeats 1000000 in
theorem num_any (B : Nat) (w : World) (hc : CurE w B) :
    Calls Tryz.prog 77 #[.pointer (some ⟨B, 0, none⟩)] w (GotI I64 B w) := by
  go_enter Tryz.func77, Tryz.ntmps77
  go_wp2_with fail
  refine (below_any B 100 _ hc (by omega) (by omega)).mono ?_
  rintro e w1 ⟨x, ⟨x0, x1⟩, rfl, c1, o1⟩
  have n1 : w1.heap.size ≠ B := by have := c1.lt; omega
  go_wp2_with fail
  refine (pickInt_any (fun z => 0 ≤ z ∧ z ≤ 1000000000000) B w1.heap.size 13 _ _ (c1.alloc _) (listI_alloc [0, 1, 500000, 1000000, 1500000, 3000000, 2000001, 123456789, 999999999999, 1000000000000, 7, 10000000, x * 1000000] _ _ _ rfl (by intro z hz; simp at hz; omega)) n1 (by omega) (by omega)).mono ?_
  rintro e w2 ⟨y, ⟨y0, y1⟩, rfl, c2, o2⟩
  have O2 := Lib.hid ((o1.alloc _).trans o2)
  clear o1 o2
  go_wp2_with fail
  refine (once_any B 3 _ c2 (by omega) (by omega)).mono ?_
  rintro e w3 ⟨b, rfl, c3, o3⟩
  cases b
  all_goals
    go_wp2_with fail
    refine (once_any B 20 _ c3 (by omega) (by omega)).mono ?_
    rintro e w4 ⟨b2, rfl, c4, o4⟩
    have O4 := Lib.hid ((O2.out.trans o3).trans o4)
    clear o3 o4
    cases b2
    · go_wp2
      go_ret
      exact ⟨_, ⟨by omega, by omega⟩, rfl, c4, O4.out⟩
    · have n4 : w4.heap.size ≠ B := by have := c4.lt; omega
      go_wp2_with fail
      refine (pickInt_any I64 B w4.heap.size 4 _ _ (c4.alloc _) (listI_alloc [1000000000001, -1000000000001, 9223372036854775807, -9223372036854775808] _ _ _ rfl (by intro z hz; unfold I64; simp at hz; omega)) n4 (by omega) (by omega)).mono ?_
      rintro e w5 ⟨z, hz, rfl, c5, o5⟩
      go_wp2
      go_ret
      exact ⟨_, hz, rfl, c5, (O4.out.alloc _).trans o5⟩
def GotII (w : World) (e : Ending) (w' : World) : Prop := ∃ x y : Int, I64 x ∧ I64 y ∧ e = .returned (.tuple #[.int .i64 x, .int .i64 y]) ∧ Below w.heap.size w w'
end Go.Proofs.YtebeoijoljlhiaaGreatDoor.kit
/-
  Contract of spec.l01Bent over this seat's translation: a text that is at most two bytes longer. Conditions: the cursor is one; the text has at most 1048576 bytes.
-/
namespace Go.Proofs.YtebeoijoljlhiaaGreatDoor.kit
open Go.ChangeShapes Go.WideShapes Go.ChangeAt Go.RowKit
set_option linter.unusedVariables false

/-- The cursor in block B goes on, and nothing else has turned since w. -/
def CurS (B : Nat) (w w' : World) : Prop := CurE w' B ∧ OnlyB B w w'
theorem CurS.drew {B : Nat} {w w' : World} (h : CurS B w w') : CurS B w w'.drew := ⟨h.1.kept (C := w'.heap.size) (Below.refl _ _).drew h.1.lt, h.2.drewN 1⟩
theorem CurS.alloc {B : Nat} {w w' : World} (h : CurS B w w') (o : Obj) : CurS B w (w'.alloc o) := ⟨h.1.alloc o, h.2.alloc o⟩
theorem CurS.step {B : Nat} {w W w' : World} (h : CurS B w W) (c : CurE w' B) (o : OnlyB B W w') : CurS B w w' := ⟨c, h.2.trans o⟩
theorem CurS.ne {B : Nat} {w w' : World} (h : CurS B w w') : w'.heap.size ≠ B := by have := h.1.lt; omega
theorem CurS.cur {B : Nat} {w w' : World} (h : CurS B w w') : CurE w' B := h.1
theorem CurS.only {B : Nat} {w w' : World} (h : CurS B w w') : OnlyB B w w' := h.2
def Short (k : Nat) (z : ByteArray) : Prop := z.size ≤ k
theorem ListS.drew {P : ByteArray → Prop} {w : World} {g m : Nat} (h : ListS P w g m) : ListS P w.drew g m := h
theorem ListI.drew {P : Int → Prop} {w : World} {g m : Nat} (h : ListI P w g m) : ListI P w.drew g m := h
def l10 : List ByteArray := [⟨#[48]⟩, ⟨#[32]⟩, ⟨#[255]⟩, ⟨#[34]⟩, ⟨#[10]⟩, ⟨#[97]⟩, ⟨#[44]⟩, ⟨#[61]⟩, ⟨#[41]⟩, ⟨#[36]⟩]
theorem l10_short : ∀ z ∈ l10, Short 1 z := by unfold l10 Short; decide
def l6 : List ByteArray := [⟨#[48]⟩, ⟨#[65]⟩, ⟨#[0]⟩, ⟨#[57]⟩, ⟨#[93]⟩, ⟨#[92]⟩]
theorem l6_short : ∀ z ∈ l6, Short 1 z := by unfold l6 Short; decide
set_option maxRecDepth 100000 in
set_option maxHeartbeats 1000000 in
theorem bent_any (B : Nat) (s : ByteArray) (w : World) (hc : CurE w B) (hs : s.size ≤ 1048576) :
    Calls Tryz.prog 45 #[.pointer (some ⟨B, 0, none⟩), .string s] w (GotS (Short (s.size + 1)) B w) := by
  go_enter Tryz.func45, Tryz.ntmps45
  go_wp2_with fail
  refine (below_any B (s.size + 1) _ hc (by omega) (by omega)).mono ?_
  rintro e w1 ⟨x, ⟨x0, x1⟩, rfl, c1, o1⟩
  obtain ⟨i, rfl⟩ : ∃ i : Nat, x = (i : Int) := ⟨x.toNat, by omega⟩
  have x2 : (i : Int) ≤ (s.size : Int) := by omega
  have hi : i ≤ s.size := by omega
  go_wp2_with fail
  refine (below_any B 8 _ c1 (by omega) (by omega)).mono ?_
  rintro e w2 ⟨y, ⟨y0, y1⟩, rfl, c2, o2⟩
  have S2 : CurS B w w2 := ⟨c2, o1.trans o2⟩
  have HS := Lib.hid S2
  have n2 := S2.ne
  by_cases h0 : y = 0
  · subst h0
    go_wp2
    go_ret
    exact ⟨_, by simp only [Short, ByteArray.size_extract]; omega, rfl, HS.out.1, HS.out.2⟩
  · have e0 : (y == 0) = false := by simpa using h0
    by_cases h1 : y = 1
    · subst h1
      go_wp2
      go_region_held3 (fun w' => CurS B w w') (first | assumption | exact CurS.drew (by assumption) | exact CurS.alloc (by assumption) _ | exact CurS.step (by assumption) (by assumption) (by assumption)) (first | (go_at_call 43; refine (pick_any (Short 1) B _ 10 _ _ (CurS.cur (w := w) (by assumption)) (ListS.drew (listS_alloc l10 _ _ _ rfl l10_short)) n2 (by omega) (by omega)).mono ?_; rintro e w3 ⟨z, hz, rfl, c3, o3⟩; have hz1 : z.size ≤ 1 := hz; have q1 : ¬ 9223372036854775807 < i + z.size := (by omega); have q2 : ¬ 9223372036854775807 < i + z.size + (s.size - i) := (by omega)))
      all_goals
        go_wp2
        go_ret
        refine ⟨_, ?_, rfl, CurS.cur (w := w) (by assumption), CurS.only (by assumption)⟩
        simp only [Short, ByteArray.size_append, ByteArray.size_extract]
        omega
    · have e1 : (y == 1) = false := by simpa using h1
      by_cases h2 : y = 2
      · subst h2
        by_cases hlt : i < s.size
        · have x3 : (i : Int) < (s.size : Int) := by omega
          have x4 : (i : Int) + 1 ≤ (s.size : Int) := by omega
          have w5 : IntKind.i64.wrap ((i : Int) + 1) = (i : Int) + 1 := IntWalk.i64_in _ (by omega)
          have w6 : (0 : Int) ≤ (i : Int) + 1 := by omega
          have w7 : ((i : Int) + 1).toNat = i + 1 := by omega
          go_wp2
          go_region_held3 (fun w' => CurS B w w') (first | assumption | exact CurS.drew (by assumption) | exact CurS.alloc (by assumption) _ | exact CurS.step (by assumption) (by assumption) (by assumption)) (first | (go_at_call 43; refine (pick_any (Short 1) B _ 6 _ _ (CurS.cur (w := w) (by assumption)) (ListS.drew (listS_alloc l6 _ _ _ rfl l6_short)) n2 (by omega) (by omega)).mono ?_; rintro e w3 ⟨z, hz, rfl, c3, o3⟩; have hz1 : z.size ≤ 1 := hz; have q1 : ¬ 9223372036854775807 < i + z.size := (by omega); have q2 : ¬ 9223372036854775807 < i + z.size + (s.size - (i + 1)) := (by omega)))
          all_goals
            clear w5 w7
            go_wp2
            go_ret
            refine ⟨_, ?_, rfl, CurS.cur (w := w) (by assumption), CurS.only (by assumption)⟩
            simp only [Short, ByteArray.size_append, ByteArray.size_extract]
            omega
        · go_wp2
          go_ret
          exact ⟨_, by simp only [Short]; omega, rfl, HS.out.1, HS.out.2⟩
      · have e2 : (y == 2) = false := by simpa using h2
        go_wp2
        go_ret
        exact ⟨_, by simp only [Short]; omega, rfl, HS.out.1, HS.out.2⟩
end Go.Proofs.YtebeoijoljlhiaaGreatDoor.kit
