/-
  Contracts of the draws of expressions for texts over this seat's translation: spec.l04Make, spec.l04Any: an expression in memory of its own, of a size that is bounded. Conditions: the cursor is one.
-/
import Derived.Test.YtcimhpdpfckgiaaGreatDoorMxPs2a
import Derived.Test.YtcimhpdpfckgiaaGreatDoorMxCur
import Derived.Test.YtcimhpdpfckgiaaGreatDoorMxPr0
import Derived.Deep.RegionHeld3
import Derived.Deep.LoopGhost
set_option linter.unusedVariables false
set_option linter.unusedSimpArgs false
open Go.ChangeShapes Go.WideShapes Go.ChangeAt Go.RowKit
namespace Go.Proofs.YtcimhpdpfckgiaaGreatDoor.kit
open PR
def GotR (k B : Nat) (w : World) (e : Ending) (w' : World) : Prop :=
 ∃ (t : RT) (a : Option Addr) (c : Nat) (F : List Nat), e = .returned (reV t a c) ∧ KF w' t.kids a F ∧ (∀ y ∈ F, w.heap.size ≤ y) ∧ Nice t ∧ RT.cost t + 2 ≤ k ∧ CurE w' B ∧ OnlyB B w w'
theorem CurE.put {w : World} {B g : Nat} (h : CurE w B) (hg : B < g) (v0 v1 v2 v3 v4 v5 : Value) : CurE (put6 w g v0 v1 v2 v3 v4 v5) B := h.kept (C := g) (put6_below (Below.refl g w) g v0 v1 v2 v3 v4 v5 (Nat.le_refl _)) hg
theorem pair_cur {w w0 : World} {g B : Nat} {k : Int} {r s : RV} {t : RT} {a : Option Addr} {c : Nat} (h6 : Six w g t a c) (ho : OnlyB B w0 w) (hg : w0.heap.size ≤ g) (hc : CurE w B) (hne : B < g) :
 Six (pairW w g k r s) g (PR.pairT k r.t s.t) (some ⟨w.heap.size, 0, none⟩) 2 ∧ OnlyB B w0 (pairW w g k r s) ∧ CurE (pairW w g k r s) B := by
 have ba : Below (put6 w g (.int .i64 k) (.string ⟨#[]⟩) (.bool false) (.int .i64 0) (.int .i64 0) (.slice (some ⟨w.heap.size, 0, none⟩) 2 2)).heap.size (put6 w g (.int .i64 k) (.string ⟨#[]⟩) (.bool false) (.int .i64 0) (.int .i64 0) (.slice (some ⟨w.heap.size, 0, none⟩) 2 2)) (pairW w g k r s) := (Below.refl _ _).alloc (Nat.le_refl _) _
 have hl := hc.lt
 exact ⟨(h6.put (PR.pairT k r.t s.t) (some ⟨w.heap.size, 0, none⟩) 2).kept ba, (put6_only ho g _ _ _ _ _ _ hg).trans (OnlyB.of_below ba), (hc.put hne _ _ _ _ _ _).kept ba (by rw [put6_size]; exact hl)⟩
def manyW (w : World) (g : Nat) (lo hi : Int) (r : RV) : World :=
 (put6 w g (.int .i64 5) (.string ⟨#[]⟩) (.bool false) (.int .i64 lo) (.int .i64 hi) (.slice (some ⟨w.heap.size, 0, none⟩) 1 1)).alloc (.cells #[.int .i64 r.t.kind, .string r.t.set, .bool r.t.neg, .int .i64 r.t.low, .int .i64 r.t.high, .slice r.a r.t.kids.length r.c] 26)
theorem many_cur {w w0 : World} {g B : Nat} {lo hi : Int} {r : RV} {t : RT} {a : Option Addr} {c : Nat} (h6 : Six w g t a c) (ho : OnlyB B w0 w) (hg : w0.heap.size ≤ g) (hc : CurE w B) (hne : B < g) (hn : Nice r.t) (hk : KF w r.t.kids r.a r.F) (hgF : g ∉ r.F) :
 Six (manyW w g lo hi r) g (PR.manyT r.t lo hi) (some ⟨w.heap.size, 0, none⟩) 1 ∧ OnlyB B w0 (manyW w g lo hi r) ∧ CurE (manyW w g lo hi r) B ∧ KF (manyW w g lo hi r) [r.t] (some ⟨w.heap.size, 0, none⟩) (w.heap.size :: r.F) := by
 have ba : Below (put6 w g (.int .i64 5) (.string ⟨#[]⟩) (.bool false) (.int .i64 lo) (.int .i64 hi) (.slice (some ⟨w.heap.size, 0, none⟩) 1 1)).heap.size (put6 w g (.int .i64 5) (.string ⟨#[]⟩) (.bool false) (.int .i64 lo) (.int .i64 hi) (.slice (some ⟨w.heap.size, 0, none⟩) 1 1)) (manyW w g lo hi r) := (Below.refl _ _).alloc (Nat.le_refl _) _
 have hl := hc.lt
 refine ⟨(h6.put (PR.manyT r.t lo hi) (some ⟨w.heap.size, 0, none⟩) 1).kept ba, (put6_only ho g _ _ _ _ _ _ hg).trans (OnlyB.of_below ba), (hc.put hne _ _ _ _ _ _).kept ba (by rw [put6_size]; exact hl), ?_⟩
 exact KF.box (t := r.t) (a := r.a) (c := r.c) (put6_size ..).symm hn (hk.put g hgF _ _ _ _ _ _)
def mkL : List ByteArray := [⟨#[97, 98, 99]⟩, ⟨#[97, 98]⟩, ⟨#[45, 93, 94]⟩, ⟨#[94]⟩, ⟨#[93]⟩, ⟨#[45]⟩, ⟨#[48, 49, 50, 51, 52, 53, 54, 55, 56, 57]⟩, ⟨#[94, 98]⟩, ⟨#[45, 94]⟩, ⟨#[93, 97]⟩]
theorem mkL_short : ∀ z ∈ mkL, Short 10 z := by unfold mkL Short; decide
def mkB : List ByteArray := [⟨#[97]⟩, ⟨#[98]⟩, ⟨#[99]⟩, ⟨#[46]⟩, ⟨#[92]⟩, ⟨#[47]⟩, ⟨#[32]⟩, ⟨#[10]⟩, ⟨#[255]⟩, ⟨#[42]⟩]
theorem mkB_one : ∀ z ∈ mkB, z.size = 1 := by unfold mkB; decide
theorem one_of {z : ByteArray} (h : z.size = 1) : ∃ c, z = ⟨#[c]⟩ := by
 obtain ⟨⟨l⟩⟩ := z
 match l, h with
 | [c], _ => exact ⟨c, rfl⟩
def MakeOk (D : Nat) : Prop := ∀ (B : Nat) (w : World), CurE w B → Calls Tryz.prog 40 #[.pointer (some ⟨B, 0, none⟩), .int .i64 (D : Int)] w (GotR (14 * 2 ^ D) B w)
set_option maxRecDepth 100000 in
set_option maxHeartbeats 2000000 in
theorem make0 : MakeOk 0 := by
 intro B w hc
 have hBl := hc.lt
 have b1 : Below w.heap.size w (w.alloc (.cells #[.int .i64 0, .string ⟨#[]⟩, .bool false, .int .i64 0, .int .i64 0, .slice none 0 0] 26)) := (Below.refl w.heap.size w).alloc (Nat.le_refl _) _
 have O := qd (OnlyB.of_below (B := B) b1)
 have C := qd (hc.alloc (.cells #[.int .i64 0, .string ⟨#[]⟩, .bool false, .int .i64 0, .int .i64 0, .slice none 0 0] 26))
 have S2 : Hid (Six _ w.heap.size (PR.leaf 0) none 0) := qd (heap_alloc_new w (.cells #[.int .i64 0, .string ⟨#[]⟩, .bool false, .int .i64 0, .int .i64 0, .slice none 0 0] 26))
 clear b1 hc
 go_enter Tryz.func40, Tryz.ntmps40
 go_wp2_with fail
 refine (below_any B 8 _ C.out (by omega) (by omega)).mono ?_
 rintro e w1 ⟨x, ⟨x0, x1⟩, rfl, c1, o1⟩
 have O := qd (O.out.trans o1)
 have C := qd c1
 have S2 := qd (S2.out.only o1 (by omega))
 clear o1 c1
 by_cases h0 : x = 0
 · subst h0
   obtain ⟨z0, z1, z2, z3, z4, z5, z6⟩ := S2.out.cells
   have z60 := z6 0
   have z61 := z6 1
   have z62 := z6 2
   have z63 := z6 3
   have z64 := z6 4
   have z65 := z6 5
   clear z6
   have hzC := C.out.lt
   have h6 : Lk (Six (put6 w1 w.heap.size (.int .i64 1) (.string ⟨#[]⟩) (.bool false) (.int .i64 0) (.int .i64 0) (.slice none 0 0)) w.heap.size (PR.leaf 1) none 0) := Lk.mk (S2.out.put (PR.leaf 1) none 0)
   have PO := Lk.mk (put6_only O.out w.heap.size (.int .i64 1) (.string ⟨#[]⟩) (.bool false) (.int .i64 0) (.int .i64 0) (.slice none 0 0) (by omega))
   have PC := Lk.mk (C.out.put (g := w.heap.size) (by omega) (.int .i64 1) (.string ⟨#[]⟩) (.bool false) (.int .i64 0) (.int .i64 0) (.slice none 0 0))
   go_wp2_with fail
   change bodyPost _ _ _ _ _ (put6 w1 w.heap.size (.int .i64 1) (.string ⟨#[]⟩) (.bool false) (.int .i64 0) (.int .i64 0) (.slice none 0 0))
   generalize put6 w1 w.heap.size (.int .i64 1) (.string ⟨#[]⟩) (.bool false) (.int .i64 0) (.int .i64 0) (.slice none 0 0) = W at h6 PO PC ⊢
   obtain ⟨y0, y1, y2, y3, y4, y5, _⟩ := h6.out.cells
   replace y0 : _ = some (Value.int .i64 1) := y0
   replace y1 : _ = some (Value.string ⟨#[]⟩) := y1
   replace y2 : _ = some (Value.bool false) := y2
   replace y3 : _ = some (Value.int .i64 0) := y3
   replace y4 : _ = some (Value.int .i64 0) := y4
   replace y5 : _ = some (Value.slice none 0 0) := y5
   refine bodyPost_ret (v := .agg #[.int .i64 1, .string ⟨#[]⟩, .bool false, .int .i64 0, .int .i64 0, .slice none 0 0]) (by simp [results, Tryz.results40, go_sem, y0, y1, y2, y3, y4, y5]) rfl ?_
   exact ⟨(PR.leaf 1), none, 0, [], rfl, KF.nil _, fun y hy => absurd hy (by simp), ⟨(by show 0 ≤ 1048576; omega), (by show 0 ≤ 1048576; omega)⟩, by rw [PR.cost_leaf]; omega, PC.out, PO.out⟩
 · have e0 : (x == 0) = false := by simpa using h0
   by_cases h1 : x = 1
   · subst h1
     go_wp2_with fail
     have hCl := C.out.lt
     have n1 : w1.heap.size ≠ B := by omega
     have bx : Below w1.heap.size w1 (w1.alloc (.cells #[.int .i64 6, .int .i64 7, .int .i64 0] 3)) := (Below.refl _ _).alloc (Nat.le_refl _) _
     have S2 := qd (S2.out.kept bx)
     have O := qd (O.out.trans (OnlyB.of_below bx))
     clear bx
     refine (pickInt_any (fun _ => True) B w1.heap.size 3 _ _ (C.out.alloc _) (listI_alloc [6, 7, 0] _ _ _ rfl (by simp)) n1 (by omega) (by omega)).mono ?_
     rintro e w2 ⟨z, _, rfl, c1, o1⟩
     have O := qd (O.out.trans o1)
     have C := qd c1
     have S2 := qd (S2.out.only o1 (by omega))
     clear o1 c1
     obtain ⟨z0, z1, z2, z3, z4, z5, z6⟩ := S2.out.cells
     have z60 := z6 0
     have z61 := z6 1
     have z62 := z6 2
     have z63 := z6 3
     have z64 := z6 4
     have z65 := z6 5
     clear z6
     have hzC := C.out.lt
     have h6 : Lk (Six (put6 w2 w.heap.size (.int .i64 z) (.string ⟨#[]⟩) (.bool false) (.int .i64 0) (.int .i64 0) (.slice none 0 0)) w.heap.size (PR.leaf z) none 0) := Lk.mk (S2.out.put (PR.leaf z) none 0)
     have PO := Lk.mk (put6_only O.out w.heap.size (.int .i64 z) (.string ⟨#[]⟩) (.bool false) (.int .i64 0) (.int .i64 0) (.slice none 0 0) (by omega))
     have PC := Lk.mk (C.out.put (g := w.heap.size) (by omega) (.int .i64 z) (.string ⟨#[]⟩) (.bool false) (.int .i64 0) (.int .i64 0) (.slice none 0 0))
     go_wp2_with fail
     change bodyPost _ _ _ _ _ (put6 w2 w.heap.size (.int .i64 z) (.string ⟨#[]⟩) (.bool false) (.int .i64 0) (.int .i64 0) (.slice none 0 0))
     generalize put6 w2 w.heap.size (.int .i64 z) (.string ⟨#[]⟩) (.bool false) (.int .i64 0) (.int .i64 0) (.slice none 0 0) = W at h6 PO PC ⊢
     obtain ⟨y0, y1, y2, y3, y4, y5, _⟩ := h6.out.cells
     replace y0 : _ = some (Value.int .i64 z) := y0
     replace y1 : _ = some (Value.string ⟨#[]⟩) := y1
     replace y2 : _ = some (Value.bool false) := y2
     replace y3 : _ = some (Value.int .i64 0) := y3
     replace y4 : _ = some (Value.int .i64 0) := y4
     replace y5 : _ = some (Value.slice none 0 0) := y5
     refine bodyPost_ret (v := .agg #[.int .i64 z, .string ⟨#[]⟩, .bool false, .int .i64 0, .int .i64 0, .slice none 0 0]) (by simp [results, Tryz.results40, go_sem, y0, y1, y2, y3, y4, y5]) rfl ?_
     exact ⟨(PR.leaf z), none, 0, [], rfl, KF.nil _, fun y hy => absurd hy (by simp), ⟨(by show 0 ≤ 1048576; omega), (by show 0 ≤ 1048576; omega)⟩, by rw [PR.cost_leaf]; omega, PC.out, PO.out⟩
   · have e1 : (x == 1) = false := by simpa using h1
     by_cases h2 : x = 2
     · subst h2
       go_wp2_with fail
       have hCl := C.out.lt
       have n1 : w1.heap.size ≠ B := by omega
       have bx : Below w1.heap.size w1 (w1.alloc (.cells (mkL.map Value.string).toArray 9)) := (Below.refl _ _).alloc (Nat.le_refl _) _
       have S2 := qd (S2.out.kept bx)
       have O := qd (O.out.trans (OnlyB.of_below bx))
       clear bx
       refine (pick_any (Short 10) B w1.heap.size 10 _ _ (C.out.alloc _) (listS_alloc mkL _ _ _ rfl mkL_short) n1 (by omega) (by omega)).mono ?_
       rintro e w2 ⟨z, hz, rfl, c1, o1⟩
       have O := qd (O.out.trans o1)
       have C := qd c1
       have S2 := qd (S2.out.only o1 (by omega))
       clear o1 c1
       have hz1 : z.size ≤ 10 := hz
       go_wp2_with fail
       refine (once_any B 3 _ C.out (by omega) (by omega)).mono ?_
       rintro e w3 ⟨b, rfl, c1, o1⟩
       have O := qd (O.out.trans o1)
       have C := qd c1
       have S2 := qd (S2.out.only o1 (by omega))
       clear o1 c1
       obtain ⟨z0, z1, z2, z3, z4, z5, z6⟩ := S2.out.cells
       have z60 := z6 0
       have z61 := z6 1
       have z62 := z6 2
       have z63 := z6 3
       have z64 := z6 4
       have z65 := z6 5
       clear z6
       have hzC := C.out.lt
       have h6 : Lk (Six (put6 w3 w.heap.size (.int .i64 2) (.string z) (.bool b) (.int .i64 0) (.int .i64 0) (.slice none 0 0)) w.heap.size (.node 2 z b 0 0 []) none 0) := Lk.mk (S2.out.put (.node 2 z b 0 0 []) none 0)
       have PO := Lk.mk (put6_only O.out w.heap.size (.int .i64 2) (.string z) (.bool b) (.int .i64 0) (.int .i64 0) (.slice none 0 0) (by omega))
       have PC := Lk.mk (C.out.put (g := w.heap.size) (by omega) (.int .i64 2) (.string z) (.bool b) (.int .i64 0) (.int .i64 0) (.slice none 0 0))
       go_wp2_with fail
       change bodyPost _ _ _ _ _ (put6 w3 w.heap.size (.int .i64 2) (.string z) (.bool b) (.int .i64 0) (.int .i64 0) (.slice none 0 0))
       generalize put6 w3 w.heap.size (.int .i64 2) (.string z) (.bool b) (.int .i64 0) (.int .i64 0) (.slice none 0 0) = W at h6 PO PC ⊢
       obtain ⟨y0, y1, y2, y3, y4, y5, _⟩ := h6.out.cells
       replace y0 : _ = some (Value.int .i64 2) := y0
       replace y1 : _ = some (Value.string z) := y1
       replace y2 : _ = some (Value.bool b) := y2
       replace y3 : _ = some (Value.int .i64 0) := y3
       replace y4 : _ = some (Value.int .i64 0) := y4
       replace y5 : _ = some (Value.slice none 0 0) := y5
       refine bodyPost_ret (v := .agg #[.int .i64 2, .string z, .bool b, .int .i64 0, .int .i64 0, .slice none 0 0]) (by simp [results, Tryz.results40, go_sem, y0, y1, y2, y3, y4, y5]) rfl ?_
       exact ⟨(.node 2 z b 0 0 []), none, 0, [], rfl, KF.nil _, fun y hy => absurd hy (by simp), ⟨(by show z.size ≤ 1048576; omega), (by show 0 ≤ 1048576; omega)⟩, by simp only [RT.cost, RT.costs, List.length_nil]; omega, PC.out, PO.out⟩
     · have e2 : (x == 2) = false := by simpa using h2
       go_wp2_with fail
       have hCl := C.out.lt
       have n1 : w1.heap.size ≠ B := by omega
       have bx : Below w1.heap.size w1 (w1.alloc (.cells (mkB.map Value.string).toArray 9)) := (Below.refl _ _).alloc (Nat.le_refl _) _
       have S2 := qd (S2.out.kept bx)
       have O := qd (O.out.trans (OnlyB.of_below bx))
       clear bx
       refine (pick_any (fun z => z.size = 1) B w1.heap.size 10 _ _ (C.out.alloc _) (listS_alloc mkB _ _ _ rfl mkB_one) n1 (by omega) (by omega)).mono ?_
       rintro e w2 ⟨z, hz, rfl, c1, o1⟩
       have O := qd (O.out.trans o1)
       have C := qd c1
       have S2 := qd (S2.out.only o1 (by omega))
       clear o1 c1
       obtain ⟨ch, rfl⟩ := one_of hz
       clear hz
       go_wp2_with fail
       refine (one_any ch _ rfl _).mono ?_
       rintro e w3 ⟨rfl, b3⟩
       have hCl := C.out.lt
       have S2 := qd (S2.out.kept b3)
       have O := qd (O.out.trans (OnlyB.of_below b3))
       have C := qd (C.out.kept b3 C.out.lt)
       clear b3
       unfold reV
       obtain ⟨z0, z1, z2, z3, z4, z5, z6⟩ := S2.out.cells
       have z60 := z6 0
       have z61 := z6 1
       have z62 := z6 2
       have z63 := z6 3
       have z64 := z6 4
       have z65 := z6 5
       clear z6
       have hzC := C.out.lt
       have h6 : Lk (Six (put6 w3 w.heap.size (.int .i64 2) (.string ⟨#[ch]⟩) (.bool false) (.int .i64 0) (.int .i64 0) (.slice none 0 0)) w.heap.size (PR.oneT ch) none 0) := Lk.mk (S2.out.put (PR.oneT ch) none 0)
       have PO := Lk.mk (put6_only O.out w.heap.size (.int .i64 2) (.string ⟨#[ch]⟩) (.bool false) (.int .i64 0) (.int .i64 0) (.slice none 0 0) (by omega))
       have PC := Lk.mk (C.out.put (g := w.heap.size) (by omega) (.int .i64 2) (.string ⟨#[ch]⟩) (.bool false) (.int .i64 0) (.int .i64 0) (.slice none 0 0))
       go_wp2_with fail
       change bodyPost _ _ _ _ _ (put6 w3 w.heap.size (.int .i64 2) (.string ⟨#[ch]⟩) (.bool false) (.int .i64 0) (.int .i64 0) (.slice none 0 0))
       generalize put6 w3 w.heap.size (.int .i64 2) (.string ⟨#[ch]⟩) (.bool false) (.int .i64 0) (.int .i64 0) (.slice none 0 0) = W at h6 PO PC ⊢
       obtain ⟨y0, y1, y2, y3, y4, y5, _⟩ := h6.out.cells
       replace y0 : _ = some (Value.int .i64 2) := y0
       replace y1 : _ = some (Value.string ⟨#[ch]⟩) := y1
       replace y2 : _ = some (Value.bool false) := y2
       replace y3 : _ = some (Value.int .i64 0) := y3
       replace y4 : _ = some (Value.int .i64 0) := y4
       replace y5 : _ = some (Value.slice none 0 0) := y5
       refine bodyPost_ret (v := .agg #[.int .i64 2, .string ⟨#[ch]⟩, .bool false, .int .i64 0, .int .i64 0, .slice none 0 0]) (by simp [results, Tryz.results40, go_sem, y0, y1, y2, y3, y4, y5]) rfl ?_
       exact ⟨(PR.oneT ch), none, 0, [], rfl, KF.nil _, fun y hy => absurd hy (by simp), ⟨(by show 1 ≤ 1048576; omega), (by show 0 ≤ 1048576; omega)⟩, by rw [PR.cost_one]; omega, PC.out, PO.out⟩
set_option maxRecDepth 100000 in
set_option maxHeartbeats 4000000 in
theorem make_of (D : Nat) (hD : 1 ≤ D) (hD2 : D ≤ 10) (h : MakeOk (D - 1)) : MakeOk D := by
 intro B w hc
 have HM := qd h
 have hdi : ¬ (D : Int) ≤ 0 := by omega
 have hdw : IntKind.i64.wrap ((D : Int) - 1) = ((D - 1 : Nat) : Int) := by rw [IntWalk.i64_in _ (by omega)]; omega
 have hpw : 14 * 2 ^ D = 2 * (14 * 2 ^ (D - 1)) := by obtain ⟨d, rfl⟩ : ∃ d, D = d + 1 := ⟨D - 1, by omega⟩; rw [Nat.add_sub_cancel, Nat.pow_succ]; omega
 have hp0 : 14 ≤ 14 * 2 ^ (D - 1) := by have := Nat.one_le_two_pow (n := D - 1); omega
 have HP := qd hpw
 clear h
 have hBl := hc.lt
 have b1 : Below w.heap.size w (w.alloc (.cells #[.int .i64 0, .string ⟨#[]⟩, .bool false, .int .i64 0, .int .i64 0, .slice none 0 0] 26)) := (Below.refl w.heap.size w).alloc (Nat.le_refl _) _
 have O := qd (OnlyB.of_below (B := B) b1)
 have C := qd (hc.alloc (.cells #[.int .i64 0, .string ⟨#[]⟩, .bool false, .int .i64 0, .int .i64 0, .slice none 0 0] 26))
 have S2 : Hid (Six _ w.heap.size (PR.leaf 0) none 0) := qd (heap_alloc_new w (.cells #[.int .i64 0, .string ⟨#[]⟩, .bool false, .int .i64 0, .int .i64 0, .slice none 0 0] 26))
 clear b1 hc
 go_enter Tryz.func40, Tryz.ntmps40
 go_wp2_with fail
 refine (below_any B 5 _ C.out (by omega) (by omega)).mono ?_
 rintro e w1 ⟨x, ⟨x0, x1⟩, rfl, c1, o1⟩
 have O := qd (O.out.trans o1)
 have C := qd c1
 have S2 := qd (S2.out.only o1 (by omega))
 clear o1 c1
 by_cases h0 : x = 0
 · subst h0
   go_wp2_with fail
   (first | rw [hdw] | skip)
   have hC1 := C.out.lt
   have hS1 := S2.out.lt
   have hO1 := O.out.size
   refine (HM.out B _ C.out).mono ?_
   rintro e w2 ⟨T, ta, tc, tF, rfl, k1, l1, n1, c0, c1, o1⟩
   have O1 := qd o1
   have O := qd (O.out.trans o1)
   have C := qd c1
   have S2 := qd (S2.out.only o1 (by omega))
   have K1 := qd k1
   have L1 := qd l1
   have N1 := qd n1
   have HC1 := qd c0
   clear k1 l1 n1 c0 c1 o1 O1
   unfold reV
   have hGT := HP
   have HB1 : Hid (B ∉ tF) := qd (fun h => by have := L1.out _ h; omega)
   have HG1 : Hid (w.heap.size ∉ tF) := qd (fun h => by have := L1.out _ h; omega)
   have HU1 := qd (fun y hy => K1.out.lt y hy)
   go_wp2_with fail
   (first | rw [hdw] | skip)
   have hC2 := C.out.lt
   have hS2 := S2.out.lt
   have hO2 := O.out.size
   refine (HM.out B _ C.out).mono ?_
   rintro e w3 ⟨U, ua, uc, uF, rfl, k1, l1, n1, c0, c1, o1⟩
   have O1 := qd o1
   have O := qd (O.out.trans o1)
   have C := qd c1
   have S2 := qd (S2.out.only o1 (by omega))
   have K1 := qd (K1.out.only o1 HB1.out)
   have K2 := qd k1
   have L2 := qd l1
   have N2 := qd n1
   have HC2 := qd c0
   clear k1 l1 n1 c0 c1 o1 O1
   unfold reV
   have HG2 : Hid (w.heap.size ∉ uF) := qd (fun h => by have := L2.out _ h; omega)
   have hC3 := C.out.lt
   have hS3 := S2.out.lt
   have hO3 := O.out.size
   obtain ⟨z0, z1, z2, z3, z4, z5, z6⟩ := S2.out.cells
   have z60 := z6 0
   have z61 := z6 1
   have z62 := z6 2
   have z63 := z6 3
   have z64 := z6 4
   have z65 := z6 5
   clear z6
   have pb := pair_cur (k := 4) (r := ⟨T, ta, tc, tF⟩) (s := ⟨U, ua, uc, uF⟩) S2.out O.out (by omega) C.out (by omega)
   have h6 : Lk (Six (pairW w3 w.heap.size 4 ⟨T, ta, tc, tF⟩ ⟨U, ua, uc, uF⟩) _ _ _ _) := Lk.mk pb.1
   have PO := Lk.mk pb.2.1
   have PC := Lk.mk pb.2.2
   clear pb
   have hAP : apartF ⟨T, ta, tc, tF⟩ ⟨U, ua, uc, uF⟩ := fun x hx hx2 => by have h1 := HU1.out x hx; have h2 := L2.out x hx2; omega
   have PK := Lk.mk (pair_kf (g := w.heap.size) (k := 4) (r := ⟨T, ta, tc, tF⟩) (s := ⟨U, ua, uc, uF⟩) K1.out K2.out N1.out N2.out HG1.out HG2.out hAP)
   have HL2 : Hid (∀ y ∈ w3.heap.size :: (tF ++ uF), w.heap.size ≤ y) := qd (fun y hy => by rcases List.mem_cons.1 hy with rfl | hy; exact hO3; rcases List.mem_append.1 hy with h | h; have := L1.out y h; omega; have := L2.out y h; omega)
   go_wp2_with fail
   change bodyPost _ _ _ _ _ (pairW w3 w.heap.size 4 ⟨T, ta, tc, tF⟩ ⟨U, ua, uc, uF⟩)
   generalize pairW w3 w.heap.size 4 ⟨T, ta, tc, tF⟩ ⟨U, ua, uc, uF⟩ = W at h6 PO PC PK ⊢
   obtain ⟨y0, y1, y2, y3, y4, y5, _⟩ := h6.out.cells
   replace y0 : _ = some (Value.int .i64 4) := y0
   replace y1 : _ = some (Value.string ⟨#[]⟩) := y1
   replace y2 : _ = some (Value.bool false) := y2
   replace y3 : _ = some (Value.int .i64 0) := y3
   replace y4 : _ = some (Value.int .i64 0) := y4
   replace y5 : _ = some (Value.slice (some ⟨w3.heap.size, 0, none⟩) 2 2) := y5
   refine bodyPost_ret (v := .agg #[.int .i64 4, .string ⟨#[]⟩, .bool false, .int .i64 0, .int .i64 0, .slice (some ⟨w3.heap.size, 0, none⟩) 2 2]) (by simp [results, Tryz.results40, go_sem, y0, y1, y2, y3, y4, y5]) rfl ?_
   exact ⟨PR.pairT 4 T U, _, _, _, rfl, PK.out, HL2.out, ⟨Nat.zero_le _, (by show 2 ≤ 1048576; omega)⟩, by rw [PR.cost_pair]; have h1 := HC1.out; have h2 := HC2.out; have h3 := HP.out; omega, PC.out, PO.out⟩
 · have e0 : (x == 0) = false := by simpa using h0
   by_cases h1 : x = 1
   · subst h1
     go_wp2_with fail
     refine (below_any B 3 _ C.out (by omega) (by omega)).mono ?_
     rintro e w2 ⟨lo, ⟨l0, l1⟩, rfl, c1, o1⟩
     have O := qd (O.out.trans o1)
     have C := qd c1
     have S2 := qd (S2.out.only o1 (by omega))
     clear o1 c1
     go_wp2_with fail
     have hCl := C.out.lt
     have n1 : w2.heap.size ≠ B := by omega
     have bx : Below w2.heap.size w2 (w2.alloc (.cells #[.int .i64 (-1), .int .i64 (-1), .int .i64 lo, .int .i64 (lo + 1), .int .i64 9] 3)) := (Below.refl _ _).alloc (Nat.le_refl _) _
     have S2 := qd (S2.out.kept bx)
     have O := qd (O.out.trans (OnlyB.of_below bx))
     clear bx
     refine (pickInt_any (fun _ => True) B w2.heap.size 5 _ _ (C.out.alloc _) (listI_alloc [-1, -1, lo, lo + 1, 9] _ _ _ rfl (by simp)) n1 (by omega) (by omega)).mono ?_
     rintro e w3 ⟨hi, _, rfl, c1, o1⟩
     have O := qd (O.out.trans o1)
     have C := qd c1
     have S2 := qd (S2.out.only o1 (by omega))
     clear o1 c1
     go_wp2_with fail
     (first | rw [hdw] | skip)
     have hC1 := C.out.lt
     have hS1 := S2.out.lt
     have hO1 := O.out.size
     refine (HM.out B _ C.out).mono ?_
     rintro e w4 ⟨T, ta, tc, tF, rfl, k1, l1, n1, c0, c1, o1⟩
     have O1 := qd o1
     have O := qd (O.out.trans o1)
     have C := qd c1
     have S2 := qd (S2.out.only o1 (by omega))
     have K1 := qd k1
     have L1 := qd l1
     have N1 := qd n1
     have HC1 := qd c0
     clear k1 l1 n1 c0 c1 o1 O1
     unfold reV
     have HG1 : Hid (w.heap.size ∉ tF) := qd (fun h => by have := L1.out _ h; omega)
     have hC3 := C.out.lt
     have hS3 := S2.out.lt
     have hO3 := O.out.size
     obtain ⟨z0, z1, z2, z3, z4, z5, z6⟩ := S2.out.cells
     have z60 := z6 0
     have z61 := z6 1
     have z62 := z6 2
     have z63 := z6 3
     have z64 := z6 4
     have z65 := z6 5
     clear z6
     have pb := many_cur (lo := lo) (hi := hi) (r := ⟨T, ta, tc, tF⟩) S2.out O.out (by omega) C.out (by omega) N1.out K1.out HG1.out
     have h6 : Lk (Six (manyW w4 w.heap.size lo hi ⟨T, ta, tc, tF⟩) _ _ _ _) := Lk.mk pb.1
     have PO := Lk.mk pb.2.1
     have PC := Lk.mk pb.2.2.1
     have PK := Lk.mk pb.2.2.2
     clear pb
     have HL2 : Hid (∀ y ∈ w4.heap.size :: tF, w.heap.size ≤ y) := qd (fun y hy => by rcases List.mem_cons.1 hy with rfl | hy; exact hO3; have := L1.out y hy; omega)
     go_wp2_with fail
     change bodyPost _ _ _ _ _ (manyW w4 w.heap.size lo hi ⟨T, ta, tc, tF⟩)
     generalize manyW w4 w.heap.size lo hi ⟨T, ta, tc, tF⟩ = W at h6 PO PC PK ⊢
     obtain ⟨y0, y1, y2, y3, y4, y5, _⟩ := h6.out.cells
     replace y0 : _ = some (Value.int .i64 5) := y0
     replace y1 : _ = some (Value.string ⟨#[]⟩) := y1
     replace y2 : _ = some (Value.bool false) := y2
     replace y3 : _ = some (Value.int .i64 lo) := y3
     replace y4 : _ = some (Value.int .i64 hi) := y4
     replace y5 : _ = some (Value.slice (some ⟨w4.heap.size, 0, none⟩) 1 1) := y5
     refine bodyPost_ret (v := .agg #[.int .i64 5, .string ⟨#[]⟩, .bool false, .int .i64 lo, .int .i64 hi, .slice (some ⟨w4.heap.size, 0, none⟩) 1 1]) (by simp [results, Tryz.results40, go_sem, y0, y1, y2, y3, y4, y5]) rfl ?_
     exact ⟨PR.manyT T lo hi, _, _, _, rfl, PK.out, HL2.out, ⟨Nat.zero_le _, by show 1 ≤ 1048576; omega⟩, by rw [PR.cost_many]; have h1 := HC1.out; have h3 := HP.out; omega, PC.out, PO.out⟩
   · have e1 : (x == 1) = false := by simpa using h1
     by_cases h2 : x = 2
     · subst h2
       go_wp2_with fail
       have hC1 := C.out.lt
       have hS1 := S2.out.lt
       have hO1 := O.out.size
       refine (make0 B _ C.out).mono ?_
       rintro e w2 ⟨T, ta, tc, tF, rfl, k1, l1, n1, c0, c1, o1⟩
       have O1 := qd o1
       have O := qd (O.out.trans o1)
       have C := qd c1
       have S2 := qd (S2.out.only o1 (by omega))
       have K1 := qd k1
       have L1 := qd l1
       have N1 := qd n1
       have HC1 := qd c0
       clear k1 l1 n1 c0 c1 o1 O1
       unfold reV
       have HG1 : Hid (w.heap.size ∉ tF) := qd (fun h => by have := L1.out _ h; omega)
       obtain ⟨z0, z1, z2, z3, z4, z5, z6⟩ := S2.out.cells
       have z60 := z6 0
       have z61 := z6 1
       have z62 := z6 2
       have z63 := z6 3
       have z64 := z6 4
       have z65 := z6 5
       clear z6
       have hzC := C.out.lt
       have h6 : Lk (Six (put6 w2 w.heap.size (.int .i64 T.kind) (.string T.set) (.bool T.neg) (.int .i64 T.low) (.int .i64 T.high) (.slice ta T.kids.length tc)) w.heap.size T ta tc) := Lk.mk (S2.out.put T ta tc)
       have PO := Lk.mk (put6_only O.out w.heap.size (.int .i64 T.kind) (.string T.set) (.bool T.neg) (.int .i64 T.low) (.int .i64 T.high) (.slice ta T.kids.length tc) (by omega))
       have PC := Lk.mk (C.out.put (g := w.heap.size) (by omega) (.int .i64 T.kind) (.string T.set) (.bool T.neg) (.int .i64 T.low) (.int .i64 T.high) (.slice ta T.kids.length tc))
       have PK := Lk.mk (K1.out.put w.heap.size HG1.out (.int .i64 T.kind) (.string T.set) (.bool T.neg) (.int .i64 T.low) (.int .i64 T.high) (.slice ta T.kids.length tc))
       go_wp2_with fail
       change bodyPost _ _ _ _ _ (put6 w2 w.heap.size (.int .i64 T.kind) (.string T.set) (.bool T.neg) (.int .i64 T.low) (.int .i64 T.high) (.slice ta T.kids.length tc))
       generalize put6 w2 w.heap.size (.int .i64 T.kind) (.string T.set) (.bool T.neg) (.int .i64 T.low) (.int .i64 T.high) (.slice ta T.kids.length tc) = W at h6 PO PC PK ⊢
       obtain ⟨y0, y1, y2, y3, y4, y5, _⟩ := h6.out.cells
       replace y0 : _ = some (Value.int .i64 T.kind) := y0
       replace y1 : _ = some (Value.string T.set) := y1
       replace y2 : _ = some (Value.bool T.neg) := y2
       replace y3 : _ = some (Value.int .i64 T.low) := y3
       replace y4 : _ = some (Value.int .i64 T.high) := y4
       replace y5 : _ = some (Value.slice ta T.kids.length tc) := y5
       refine bodyPost_ret (v := .agg #[.int .i64 T.kind, .string T.set, .bool T.neg, .int .i64 T.low, .int .i64 T.high, .slice ta T.kids.length tc]) (by simp [results, Tryz.results40, go_sem, y0, y1, y2, y3, y4, y5]) rfl ?_
       exact ⟨T, ta, tc, tF, rfl, PK.out, fun y hy => by have := L1.out y hy; omega, N1.out, by have h1 := HC1.out; have h3 := HP.out; simp at h1; omega, PC.out, PO.out⟩
     · have e2 : (x == 2) = false := by simpa using h2
       go_wp2_with fail
       (first | rw [hdw] | skip)
       have hC1 := C.out.lt
       have hS1 := S2.out.lt
       have hO1 := O.out.size
       refine (HM.out B _ C.out).mono ?_
       rintro e w2 ⟨T, ta, tc, tF, rfl, k1, l1, n1, c0, c1, o1⟩
       have O1 := qd o1
       have O := qd (O.out.trans o1)
       have C := qd c1
       have S2 := qd (S2.out.only o1 (by omega))
       have K1 := qd k1
       have L1 := qd l1
       have N1 := qd n1
       have HC1 := qd c0
       clear k1 l1 n1 c0 c1 o1 O1
       unfold reV
       have hGT := HP
       have HB1 : Hid (B ∉ tF) := qd (fun h => by have := L1.out _ h; omega)
       have HG1 : Hid (w.heap.size ∉ tF) := qd (fun h => by have := L1.out _ h; omega)
       have HU1 := qd (fun y hy => K1.out.lt y hy)
       go_wp2_with fail
       (first | rw [hdw] | skip)
       have hC2 := C.out.lt
       have hS2 := S2.out.lt
       have hO2 := O.out.size
       refine (HM.out B _ C.out).mono ?_
       rintro e w3 ⟨U, ua, uc, uF, rfl, k1, l1, n1, c0, c1, o1⟩
       have O1 := qd o1
       have O := qd (O.out.trans o1)
       have C := qd c1
       have S2 := qd (S2.out.only o1 (by omega))
       have K1 := qd (K1.out.only o1 HB1.out)
       have K2 := qd k1
       have L2 := qd l1
       have N2 := qd n1
       have HC2 := qd c0
       clear k1 l1 n1 c0 c1 o1 O1
       unfold reV
       have HG2 : Hid (w.heap.size ∉ uF) := qd (fun h => by have := L2.out _ h; omega)
       have hC3 := C.out.lt
       have hS3 := S2.out.lt
       have hO3 := O.out.size
       obtain ⟨z0, z1, z2, z3, z4, z5, z6⟩ := S2.out.cells
       have z60 := z6 0
       have z61 := z6 1
       have z62 := z6 2
       have z63 := z6 3
       have z64 := z6 4
       have z65 := z6 5
       clear z6
       have pb := pair_cur (k := 3) (r := ⟨T, ta, tc, tF⟩) (s := ⟨U, ua, uc, uF⟩) S2.out O.out (by omega) C.out (by omega)
       have h6 : Lk (Six (pairW w3 w.heap.size 3 ⟨T, ta, tc, tF⟩ ⟨U, ua, uc, uF⟩) _ _ _ _) := Lk.mk pb.1
       have PO := Lk.mk pb.2.1
       have PC := Lk.mk pb.2.2
       clear pb
       have hAP : apartF ⟨T, ta, tc, tF⟩ ⟨U, ua, uc, uF⟩ := fun x hx hx2 => by have h1 := HU1.out x hx; have h2 := L2.out x hx2; omega
       have PK := Lk.mk (pair_kf (g := w.heap.size) (k := 3) (r := ⟨T, ta, tc, tF⟩) (s := ⟨U, ua, uc, uF⟩) K1.out K2.out N1.out N2.out HG1.out HG2.out hAP)
       have HL2 : Hid (∀ y ∈ w3.heap.size :: (tF ++ uF), w.heap.size ≤ y) := qd (fun y hy => by rcases List.mem_cons.1 hy with rfl | hy; exact hO3; rcases List.mem_append.1 hy with h | h; have := L1.out y h; omega; have := L2.out y h; omega)
       go_wp2_with fail
       change bodyPost _ _ _ _ _ (pairW w3 w.heap.size 3 ⟨T, ta, tc, tF⟩ ⟨U, ua, uc, uF⟩)
       generalize pairW w3 w.heap.size 3 ⟨T, ta, tc, tF⟩ ⟨U, ua, uc, uF⟩ = W at h6 PO PC PK ⊢
       obtain ⟨y0, y1, y2, y3, y4, y5, _⟩ := h6.out.cells
       replace y0 : _ = some (Value.int .i64 3) := y0
       replace y1 : _ = some (Value.string ⟨#[]⟩) := y1
       replace y2 : _ = some (Value.bool false) := y2
       replace y3 : _ = some (Value.int .i64 0) := y3
       replace y4 : _ = some (Value.int .i64 0) := y4
       replace y5 : _ = some (Value.slice (some ⟨w3.heap.size, 0, none⟩) 2 2) := y5
       refine bodyPost_ret (v := .agg #[.int .i64 3, .string ⟨#[]⟩, .bool false, .int .i64 0, .int .i64 0, .slice (some ⟨w3.heap.size, 0, none⟩) 2 2]) (by simp [results, Tryz.results40, go_sem, y0, y1, y2, y3, y4, y5]) rfl ?_
       exact ⟨PR.pairT 3 T U, _, _, _, rfl, PK.out, HL2.out, ⟨Nat.zero_le _, (by show 2 ≤ 1048576; omega)⟩, by rw [PR.cost_pair]; have h1 := HC1.out; have h2 := HC2.out; have h3 := HP.out; omega, PC.out, PO.out⟩
theorem make_all : ∀ (D : Nat), D ≤ 10 → MakeOk D := by
 intro D
 induction D with
 | zero => intro _; exact make0
 | succ D ih => intro h; exact make_of (D + 1) (by omega) h (ih (by omega))
end Go.Proofs.YtcimhpdpfckgiaaGreatDoor.kit
namespace Go.Proofs.YtcimhpdpfckgiaaGreatDoor.kit
open PR
structure AnyS (B g4 k : Nat) (w : World) (T : RT) (a : Option Addr) (c : Nat) (F : List Nat) (W : World) : Prop where
 s4 : Six W g4 T a c
 s2 : Six W w.heap.size (PR.leaf 0) none 0
 kf : KF W T.kids a F
 low : ∀ y ∈ F, w.heap.size < y
 off : g4 ∉ F
 nice : Nice T
 cost : RT.cost T + 2 ≤ k
 cur : CurE W B
 only : OnlyB B w W
 h4 : w.heap.size < g4
 hB : B < w.heap.size
theorem AnyS.stepB {B g4 k : Nat} {w : World} {T : RT} {a : Option Addr} {c : Nat} {F : List Nat} {W W' : World} (h : AnyS B g4 k w T a c F W) (hc : CurE W' B) (ho : OnlyB B W W') : AnyS B g4 k w T a c F W' := by
 have h1 := h.h4
 have h2 := h.hB
 exact ⟨h.s4.only ho (by omega), h.s2.only ho (by omega), h.kf.only ho (fun q => by have := h.low _ q; omega), h.low, h.off, h.nice, h.cost, hc, h.only.trans ho, h.h4, h.hB⟩
theorem AnyS.kept {B g4 k : Nat} {w : World} {T : RT} {a : Option Addr} {c : Nat} {F : List Nat} {W W' : World} (h : AnyS B g4 k w T a c F W) (hb : Below W.heap.size W W') : AnyS B g4 k w T a c F W' :=
 h.stepB (h.cur.kept hb h.cur.lt) (OnlyB.of_below hb)
theorem six_cell {w : World} {g : Nat} {t : RT} {a : Option Addr} {c : Nat} (h : Six w g t a c) (d : Nat) (v : Value) (t' : RT) (hK : t'.kids = t.kids) (hC : (⟨t', a, c, []⟩ : RV).cells = (⟨t, a, c, []⟩ : RV).cells.set d v) : Six (w.setCell ⟨g, d, none⟩ v) g t' a c := by
 unfold Six at h
 have e : ((w.setCell ⟨g, d, none⟩ v).heap)[g]? = some (.cells ((#[.int .i64 t.kind, .string t.set, .bool t.neg, .int .i64 t.low, .int .i64 t.high, .slice a t.kids.length c] : Array Value).setIfInBounds d v) 26 (0, 0)) := by
  simp [World.setCell, Array.getElem?_modify, h]
 show ((w.setCell ⟨g, d, none⟩ v).heap)[g]? = _
 rw [e]
 have e2 : ((#[.int .i64 t.kind, .string t.set, .bool t.neg, .int .i64 t.low, .int .i64 t.high, .slice a t.kids.length c] : Array Value).setIfInBounds d v) = #[.int .i64 t'.kind, .string t'.set, .bool t'.neg, .int .i64 t'.low, .int .i64 t'.high, .slice a t'.kids.length c] := by
  apply Array.ext'
  rw [Array.toList_setIfInBounds]
  exact hC.symm
 rw [e2]
theorem AnyS.put {B g4 k k' : Nat} {w : World} {T : RT} {a : Option Addr} {c : Nat} {F : List Nat} {W : World} (h : AnyS B g4 k w T a c F W) (d : Nat) (v : Value) (T' : RT) (hK : T'.kids = T.kids) (hC : (⟨T', a, c, []⟩ : RV).cells = (⟨T, a, c, []⟩ : RV).cells.set d v) (hn : Nice T') (hc : RT.cost T' + 2 ≤ k') :
 AnyS B g4 k' w T' a c F (W.setCell ⟨g4, d, none⟩ v) := by
 have h1 := h.h4
 have h2 := h.hB
 exact ⟨six_cell h.s4 d v T' hK hC, h.s2.cell g4 d (by omega) v, by rw [hK]; exact h.kf.of (fun b hb => Below.heap_setCell _ ⟨g4, d, none⟩ _ b (fun e => h.off (by rw [← show b = g4 from e]; exact hb))), h.low, h.off, hn, hc,
  h.cur.kept (C := g4) ((Below.refl g4 W).setCell (Nat.le_refl _) v) (by omega), h.only.cell g4 d (by omega) v, h.h4, h.hB⟩
theorem AnyS.many {B g4 k : Nat} {w : World} {T : RT} {a : Option Addr} {c : Nat} {F : List Nat} {W : World} (h : AnyS B g4 k w T a c F W) : AnyS B g4 (k + 1) w (PR.manyT T 1 1) (some ⟨W.heap.size, 0, none⟩) 1 (W.heap.size :: F) (manyW W g4 1 1 ⟨T, a, c, F⟩) := by
 have h1 := h.h4
 have h2 := h.hB
 have h3 := h.only.size
 have h4 := h.s4.lt
 obtain ⟨p1, p2, p3, p4⟩ := many_cur (lo := 1) (hi := 1) (r := ⟨T, a, c, F⟩) h.s4 h.only (by omega) h.cur (by omega) h.nice h.kf h.off
 refine ⟨p1, ?_, p4, fun y hy => ?_, fun q => ?_, ⟨Nat.zero_le _, by show 1 ≤ 1048576; omega⟩, by rw [PR.cost_many]; have := h.cost; omega, p3, p2, h.h4, h.hB⟩
 · have e : (manyW W g4 1 1 ⟨T, a, c, F⟩).heap[w.heap.size]? = W.heap[w.heap.size]? := by
    unfold manyW
    rw [heap_alloc_old _ _ (by rw [put6_size]; exact h.s2.lt), put6_off _ _ _ _ _ _ _ _ _ (by omega)]
   exact e.trans h.s2
 · rcases List.mem_cons.1 hy with rfl | hy
   · have := h.s2.lt; omega
   · exact h.low y hy
 · rcases List.mem_cons.1 q with q | q
   · omega
   · exact h.off q
theorem AnyS.pair {B g4 k : Nat} {w : World} {T : RT} {a : Option Addr} {c : Nat} {F : List Nat} {W : World} (h : AnyS B g4 k w T a c F W) (ch : UInt8) :
 AnyS B g4 (k + 3) w (PR.pairT 3 (PR.oneT ch) T) (some ⟨W.heap.size, 0, none⟩) 2 (W.heap.size :: ([] ++ F)) (pairW W g4 3 ⟨PR.oneT ch, none, 0, []⟩ ⟨T, a, c, F⟩) := by
 have h1 := h.h4
 have h2 := h.hB
 have h3 := h.only.size
 have h4 := h.s4.lt
 obtain ⟨p1, p2, p3⟩ := pair_cur (k := 3) (r := ⟨PR.oneT ch, none, 0, []⟩) (s := ⟨T, a, c, F⟩) h.s4 h.only (by omega) h.cur (by omega)
 refine ⟨p1, ?_, pair_kf (k := 3) (r := ⟨PR.oneT ch, none, 0, []⟩) (s := ⟨T, a, c, F⟩) (KF.nil _) h.kf ⟨(by show 1 ≤ 1048576; omega), (by show 0 ≤ 1048576; omega)⟩ h.nice (by simp) h.off (fun x hx => absurd hx (by simp)), fun y hy => ?_, fun q => ?_, ⟨Nat.zero_le _, (by show 2 ≤ 1048576; omega)⟩, by rw [PR.cost_pair, PR.cost_one]; have := h.cost; omega, p3, p2, h.h4, h.hB⟩
 · exact (pair_heap h.s2.lt (by omega)).trans h.s2
 · rcases List.mem_cons.1 hy with rfl | hy
   · have := h.s2.lt; omega
   · exact h.low y (by simpa using hy)
 · rcases List.mem_cons.1 q with q | q
   · omega
   · exact h.off (by simpa using q)
def anL : List ByteArray := [⟨#[98, 97]⟩, ⟨#[97, 97]⟩, ⟨#[]⟩, ⟨#[97]⟩]
theorem anL_short : ∀ z ∈ anL, Short 2 z := by unfold anL Short; decide
set_option maxRecDepth 100000 in
set_option maxHeartbeats 1500000 in
theorem any_any (B : Nat) (w : World) (hc : CurE w B) : Calls Tryz.prog 24 #[.pointer (some ⟨B, 0, none⟩)] w (GotR 1000 B w) := by
 have hBw := hc.lt
 have hBl := hc.lt
 have b1 : Below w.heap.size w (w.alloc (.cells #[.int .i64 0, .string ⟨#[]⟩, .bool false, .int .i64 0, .int .i64 0, .slice none 0 0] 26)) := (Below.refl w.heap.size w).alloc (Nat.le_refl _) _
 have O := qd (OnlyB.of_below (B := B) b1)
 have C := qd (hc.alloc (.cells #[.int .i64 0, .string ⟨#[]⟩, .bool false, .int .i64 0, .int .i64 0, .slice none 0 0] 26))
 have S2 : Hid (Six _ w.heap.size (PR.leaf 0) none 0) := qd (heap_alloc_new w (.cells #[.int .i64 0, .string ⟨#[]⟩, .bool false, .int .i64 0, .int .i64 0, .slice none 0 0] 26))
 clear b1 hc
 go_enter Tryz.func24, Tryz.ntmps24
 go_wp2_with fail
 refine (below_any B 3 _ C.out (by omega) (by omega)).mono ?_
 rintro e w1 ⟨x, ⟨x0, x1⟩, rfl, c1, o1⟩
 have O := qd (O.out.trans o1)
 have C := qd c1
 have S2 := qd (S2.out.only o1 (by omega))
 clear o1 c1
 obtain ⟨D, hD⟩ : ∃ D : Nat, 1 + x = (D : Int) := ⟨(1 + x).toNat, by omega⟩
 have hDw : IntKind.i64.wrap (1 + x) = (D : Int) := by rw [IntWalk.i64_in _ (by omega)]; exact hD
 have hD3 : D ≤ 3 := by omega
 have hpw : 14 * 2 ^ D ≤ 112 := by
  have : D = 0 ∨ D = 1 ∨ D = 2 ∨ D = 3 := by omega
  rcases this with rfl | rfl | rfl | rfl <;> decide
 go_wp2_with fail
 (first | rw [hDw] | rw [hD] | skip)
 have hC1 := C.out.lt
 have hS1 := S2.out.lt
 have hO1 := O.out.size
 refine (make_all D (by omega) B _ C.out).mono ?_
 rintro e w2 ⟨T, ta, tc, tF, rfl, k1, l1, n1, c0, c1, o1⟩
 have O1 := qd o1
 have O := qd (O.out.trans o1)
 have C := qd c1
 have S2 := qd (S2.out.only o1 (by omega))
 have K1 := qd k1
 have L1 := qd l1
 have N1 := qd n1
 have HC1 := qd c0
 clear k1 l1 n1 c0 c1 o1 O1
 unfold reV
 have hS2 := S2.out.lt
 have hC2 := C.out.lt
 have hO2 := O.out.size
 have bx : Below w2.heap.size w2 (w2.alloc (.cells #[.int .i64 T.kind, .string T.set, .bool T.neg, .int .i64 T.low, .int .i64 T.high, .slice ta T.kids.length tc] 26)) := (Below.refl _ _).alloc (Nat.le_refl _) _
 have A0 : AnyS B w2.heap.size 112 w T ta tc tF (w2.alloc (.cells #[.int .i64 T.kind, .string T.set, .bool T.neg, .int .i64 T.low, .int .i64 T.high, .slice ta T.kids.length tc] 26)) := ⟨six_new rfl rfl, S2.out.kept bx, K1.out.kept bx, fun y hy => by have := L1.out y hy; omega, fun q => by have := K1.out.lt _ q; omega, N1.out, by have := HC1.out; omega, C.out.alloc _, O.out.trans (OnlyB.of_below bx), by omega, hBw⟩
 have A := qd A0
 clear A0 bx hD hDw hpw K1 L1 N1 HC1 S2 C O
 go_wp2_with fail
 generalize (w2.alloc (.cells #[.int .i64 T.kind, .string T.set, .bool T.neg, .int .i64 T.low, .int .i64 T.high, .slice ta T.kids.length tc] 26)) = w3 at *
 obtain ⟨g4, hg4⟩ : ∃ g4, g4 = w2.heap.size := ⟨_, rfl⟩
 rw [← hg4] at A ⊢
 clear hg4 hS2 hC2 hO2 hS1 hC1 hO1
 refine (below_any B 20 _ A.out.cur (by omega) (by omega)).mono ?_
 rintro e w4 ⟨y, ⟨y0, y1⟩, rfl, c1, o1⟩
 have A := qd (A.out.stepB c1 o1)
 clear c1 o1
 obtain ⟨tk, ts, tn, tl, th, tks⟩ := T
 simp only [RT.set, RT.kids, RT.kind, RT.neg, RT.low, RT.high] at *
 by_cases h0 : y = 0
 · subst h0
   go_wp2_with fail
   refine (below_any B 10 _ A.out.cur (by omega) (by omega)).mono ?_
   rintro e w5 ⟨z, ⟨z0, z1⟩, rfl, c1, o1⟩
   have A := qd (A.out.stepB c1 o1)
   clear c1 o1
   have q2 := qd A.out.s2
   have q4 := qd A.out.s4
   obtain ⟨z0, z1, z2, z3, z4, z5, z6⟩ := q2.out.cells
   have z60 := z6 0
   have z61 := z6 1
   have z62 := z6 2
   have z63 := z6 3
   have z64 := z6 4
   have z65 := z6 5
   clear z6
   obtain ⟨k0, k1, k2, k3, k4, k5, k6⟩ := q4.out.cells
   have k60 := k6 0
   have k61 := k6 1
   have k62 := k6 2
   have k63 := k6 3
   have k64 := k6 4
   have k65 := k6 5
   clear k6
   have hl2 := q2.out.lt
   have hl4 := q4.out.lt
   have h24 := A.out.h4
   have hne24 : w.heap.size ≠ g4 := by omega
   clear q2 q4
   have A := qd (A.out.put (k' := 120) 0 (.int .i64 (z - 1)) (RT.node (z - 1) ts tn tl th tks) rfl rfl ⟨A.out.nice.1, A.out.nice.2⟩ (by have := A.out.cost; simp only [RT.cost] at this ⊢; omega))
   have h6 : Lk (Six (put6 (w5.setCell ⟨g4, 0, none⟩ (.int .i64 (z - 1))) w.heap.size (.int .i64 (z - 1)) (.string ts) (.bool tn) (.int .i64 tl) (.int .i64 th) (.slice ta tks.length tc)) w.heap.size (RT.node (z - 1) ts tn tl th tks) ta tc) := Lk.mk (A.out.s2.put (RT.node (z - 1) ts tn tl th tks) ta tc)
   have PO := Lk.mk (put6_only A.out.only w.heap.size (.int .i64 (z - 1)) (.string ts) (.bool tn) (.int .i64 tl) (.int .i64 th) (.slice ta tks.length tc) (by omega))
   have PC := Lk.mk (A.out.cur.put (g := w.heap.size) A.out.hB (.int .i64 (z - 1)) (.string ts) (.bool tn) (.int .i64 tl) (.int .i64 th) (.slice ta tks.length tc))
   have PK := Lk.mk (A.out.kf.put w.heap.size (fun q => by have := A.out.low _ q; omega) (.int .i64 (z - 1)) (.string ts) (.bool tn) (.int .i64 tl) (.int .i64 th) (.slice ta tks.length tc))
   go_wp2_with fail
   change bodyPost _ _ _ _ _ (put6 (w5.setCell ⟨g4, 0, none⟩ (.int .i64 (z - 1))) w.heap.size (.int .i64 (z - 1)) (.string ts) (.bool tn) (.int .i64 tl) (.int .i64 th) (.slice ta tks.length tc))
   generalize put6 (w5.setCell ⟨g4, 0, none⟩ (.int .i64 (z - 1))) w.heap.size (.int .i64 (z - 1)) (.string ts) (.bool tn) (.int .i64 tl) (.int .i64 th) (.slice ta tks.length tc) = W at h6 PO PC PK ⊢
   obtain ⟨y0, y1, y2, y3, y4, y5, _⟩ := h6.out.cells
   replace y0 : _ = some (Value.int .i64 (z - 1)) := y0
   replace y1 : _ = some (Value.string ts) := y1
   replace y2 : _ = some (Value.bool tn) := y2
   replace y3 : _ = some (Value.int .i64 tl) := y3
   replace y4 : _ = some (Value.int .i64 th) := y4
   replace y5 : _ = some (Value.slice ta tks.length tc) := y5
   refine bodyPost_ret (v := .agg #[.int .i64 (z - 1), .string ts, .bool tn, .int .i64 tl, .int .i64 th, .slice ta tks.length tc]) (by simp [results, Tryz.results24, go_sem, y0, y1, y2, y3, y4, y5]) rfl ?_
   exact ⟨(RT.node (z - 1) ts tn tl th tks), ta, tc, tF, rfl, PK.out, fun y hy => Nat.le_of_lt (A.out.low y hy), A.out.nice, by have := A.out.cost; omega, PC.out, PO.out⟩
 · have e0 : (y == 0) = false := by simpa using h0
   by_cases h1 : y = 1
   · subst h1
     go_wp2_with fail
     have n1 : w4.heap.size ≠ B := by have := A.out.cur.lt; omega
     have hC := qd A.out.cur
     have A := qd (A.out.kept (W' := (w4.alloc (.cells (anL.map Value.string).toArray 9))) ((Below.refl _ _).alloc (Nat.le_refl _) _))
     refine (pick_any (Short 2) B w4.heap.size 4 _ _ (hC.out.alloc _) (listS_alloc anL _ _ _ rfl anL_short) n1 (by omega) (by omega)).mono ?_
     rintro e w5 ⟨z, hz, rfl, c1, o1⟩
     have A := qd (A.out.stepB c1 o1)
     clear c1 o1
     have hz1 : z.size ≤ 2 := hz
     have q2 := qd A.out.s2
     have q4 := qd A.out.s4
     obtain ⟨z0, z1, z2, z3, z4, z5, z6⟩ := q2.out.cells
     have z60 := z6 0
     have z61 := z6 1
     have z62 := z6 2
     have z63 := z6 3
     have z64 := z6 4
     have z65 := z6 5
     clear z6
     obtain ⟨k0, k1, k2, k3, k4, k5, k6⟩ := q4.out.cells
     have k60 := k6 0
     have k61 := k6 1
     have k62 := k6 2
     have k63 := k6 3
     have k64 := k6 4
     have k65 := k6 5
     clear k6
     have hl2 := q2.out.lt
     have hl4 := q4.out.lt
     have h24 := A.out.h4
     have hne24 : w.heap.size ≠ g4 := by omega
     clear q2 q4
     have A := qd (A.out.put (k' := 120) 1 (.string z) (RT.node tk z tn tl th tks) rfl rfl ⟨(by show z.size ≤ 1048576; omega), A.out.nice.2⟩ (by have := A.out.cost; simp only [RT.cost] at this ⊢; omega))
     have h6 : Lk (Six (put6 (w5.setCell ⟨g4, 1, none⟩ (.string z)) w.heap.size (.int .i64 (tk)) (.string z) (.bool tn) (.int .i64 tl) (.int .i64 th) (.slice ta tks.length tc)) w.heap.size (RT.node tk z tn tl th tks) ta tc) := Lk.mk (A.out.s2.put (RT.node tk z tn tl th tks) ta tc)
     have PO := Lk.mk (put6_only A.out.only w.heap.size (.int .i64 (tk)) (.string z) (.bool tn) (.int .i64 tl) (.int .i64 th) (.slice ta tks.length tc) (by omega))
     have PC := Lk.mk (A.out.cur.put (g := w.heap.size) A.out.hB (.int .i64 (tk)) (.string z) (.bool tn) (.int .i64 tl) (.int .i64 th) (.slice ta tks.length tc))
     have PK := Lk.mk (A.out.kf.put w.heap.size (fun q => by have := A.out.low _ q; omega) (.int .i64 (tk)) (.string z) (.bool tn) (.int .i64 tl) (.int .i64 th) (.slice ta tks.length tc))
     go_wp2_with fail
     change bodyPost _ _ _ _ _ (put6 (w5.setCell ⟨g4, 1, none⟩ (.string z)) w.heap.size (.int .i64 (tk)) (.string z) (.bool tn) (.int .i64 tl) (.int .i64 th) (.slice ta tks.length tc))
     generalize put6 (w5.setCell ⟨g4, 1, none⟩ (.string z)) w.heap.size (.int .i64 (tk)) (.string z) (.bool tn) (.int .i64 tl) (.int .i64 th) (.slice ta tks.length tc) = W at h6 PO PC PK ⊢
     obtain ⟨y0, y1, y2, y3, y4, y5, _⟩ := h6.out.cells
     replace y0 : _ = some (Value.int .i64 (tk)) := y0
     replace y1 : _ = some (Value.string z) := y1
     replace y2 : _ = some (Value.bool tn) := y2
     replace y3 : _ = some (Value.int .i64 tl) := y3
     replace y4 : _ = some (Value.int .i64 th) := y4
     replace y5 : _ = some (Value.slice ta tks.length tc) := y5
     refine bodyPost_ret (v := .agg #[.int .i64 (tk), .string z, .bool tn, .int .i64 tl, .int .i64 th, .slice ta tks.length tc]) (by simp [results, Tryz.results24, go_sem, y0, y1, y2, y3, y4, y5]) rfl ?_
     exact ⟨(RT.node tk z tn tl th tks), ta, tc, tF, rfl, PK.out, fun y hy => Nat.le_of_lt (A.out.low y hy), A.out.nice, by have := A.out.cost; omega, PC.out, PO.out⟩
   · have e1 : (y == 1) = false := by simpa using h1
     by_cases h2 : y = 2
     · subst h2
       go_wp2_with fail
       have n1 : w4.heap.size ≠ B := by have := A.out.cur.lt; omega
       have hC := qd A.out.cur
       have A := qd (A.out.kept (W' := (w4.alloc (.cells #[.int .i64 (-2), .int .i64 10, .int .i64 1] 3))) ((Below.refl _ _).alloc (Nat.le_refl _) _))
       refine (pickInt_any (fun _ => True) B w4.heap.size 3 _ _ (hC.out.alloc _) (listI_alloc [-2, 10, 1] _ _ _ rfl (by simp)) n1 (by omega) (by omega)).mono ?_
       rintro e w5 ⟨z, _, rfl, c1, o1⟩
       have A := qd (A.out.stepB c1 o1)
       clear c1 o1
       have q2 := qd A.out.s2
       have q4 := qd A.out.s4
       obtain ⟨z0, z1, z2, z3, z4, z5, z6⟩ := q2.out.cells
       have z60 := z6 0
       have z61 := z6 1
       have z62 := z6 2
       have z63 := z6 3
       have z64 := z6 4
       have z65 := z6 5
       clear z6
       obtain ⟨k0, k1, k2, k3, k4, k5, k6⟩ := q4.out.cells
       have k60 := k6 0
       have k61 := k6 1
       have k62 := k6 2
       have k63 := k6 3
       have k64 := k6 4
       have k65 := k6 5
       clear k6
       have hl2 := q2.out.lt
       have hl4 := q4.out.lt
       have h24 := A.out.h4
       have hne24 : w.heap.size ≠ g4 := by omega
       clear q2 q4
       have A := qd (A.out.put (k' := 120) 4 (.int .i64 z) (RT.node tk ts tn tl z tks) rfl rfl ⟨A.out.nice.1, A.out.nice.2⟩ (by have := A.out.cost; simp only [RT.cost] at this ⊢; omega))
       have h6 : Lk (Six (put6 (w5.setCell ⟨g4, 4, none⟩ (.int .i64 z)) w.heap.size (.int .i64 (tk)) (.string ts) (.bool tn) (.int .i64 tl) (.int .i64 z) (.slice ta tks.length tc)) w.heap.size (RT.node tk ts tn tl z tks) ta tc) := Lk.mk (A.out.s2.put (RT.node tk ts tn tl z tks) ta tc)
       have PO := Lk.mk (put6_only A.out.only w.heap.size (.int .i64 (tk)) (.string ts) (.bool tn) (.int .i64 tl) (.int .i64 z) (.slice ta tks.length tc) (by omega))
       have PC := Lk.mk (A.out.cur.put (g := w.heap.size) A.out.hB (.int .i64 (tk)) (.string ts) (.bool tn) (.int .i64 tl) (.int .i64 z) (.slice ta tks.length tc))
       have PK := Lk.mk (A.out.kf.put w.heap.size (fun q => by have := A.out.low _ q; omega) (.int .i64 (tk)) (.string ts) (.bool tn) (.int .i64 tl) (.int .i64 z) (.slice ta tks.length tc))
       go_wp2_with fail
       change bodyPost _ _ _ _ _ (put6 (w5.setCell ⟨g4, 4, none⟩ (.int .i64 z)) w.heap.size (.int .i64 (tk)) (.string ts) (.bool tn) (.int .i64 tl) (.int .i64 z) (.slice ta tks.length tc))
       generalize put6 (w5.setCell ⟨g4, 4, none⟩ (.int .i64 z)) w.heap.size (.int .i64 (tk)) (.string ts) (.bool tn) (.int .i64 tl) (.int .i64 z) (.slice ta tks.length tc) = W at h6 PO PC PK ⊢
       obtain ⟨y0, y1, y2, y3, y4, y5, _⟩ := h6.out.cells
       replace y0 : _ = some (Value.int .i64 (tk)) := y0
       replace y1 : _ = some (Value.string ts) := y1
       replace y2 : _ = some (Value.bool tn) := y2
       replace y3 : _ = some (Value.int .i64 tl) := y3
       replace y4 : _ = some (Value.int .i64 z) := y4
       replace y5 : _ = some (Value.slice ta tks.length tc) := y5
       refine bodyPost_ret (v := .agg #[.int .i64 (tk), .string ts, .bool tn, .int .i64 tl, .int .i64 z, .slice ta tks.length tc]) (by simp [results, Tryz.results24, go_sem, y0, y1, y2, y3, y4, y5]) rfl ?_
       exact ⟨(RT.node tk ts tn tl z tks), ta, tc, tF, rfl, PK.out, fun y hy => Nat.le_of_lt (A.out.low y hy), A.out.nice, by have := A.out.cost; omega, PC.out, PO.out⟩
     · have e2 : (y == 2) = false := by simpa using h2
       by_cases h3 : y = 3
       · subst h3
         go_wp2_with fail
         refine (below_any B 3 _ A.out.cur (by omega) (by omega)).mono ?_
         rintro e w5 ⟨z, ⟨z0, z1⟩, rfl, c1, o1⟩
         have A := qd (A.out.stepB c1 o1)
         clear c1 o1
         go_wp2_with fail
         skip
         go_loopw [5] (fun i wr => ∃ (k : Nat) (T : RT) (a : Option Addr) (c : Nat) (F : List Nat), (k : Int) ≤ 11 + z ∧ i = .int .i64 (k : Int) ∧ AnyS B g4 (112 + 1 * k) w T a c F wr) (fun i _ => (11 + z).toNat - (intOf i).toNat)
         case atStart => exact ⟨0, _, _, _, _, by omega, rfl, A.out⟩
         case round =>
           clear A
           obtain ⟨k, T, a, c, F, hk, rfl, hA⟩ := hrel
           have A := qd hA
           clear hA
           have q2 := qd A.out.s2
           have q4 := qd A.out.s4
           obtain ⟨z0, z1, z2, z3, z4, z5, z6⟩ := q2.out.cells
           have z60 := z6 0
           have z61 := z6 1
           have z62 := z6 2
           have z63 := z6 3
           have z64 := z6 4
           have z65 := z6 5
           clear z6
           obtain ⟨k0, k1, k2, k3, k4, k5, k6⟩ := q4.out.cells
           have k60 := k6 0
           have k61 := k6 1
           have k62 := k6 2
           have k63 := k6 3
           have k64 := k6 4
           have k65 := k6 5
           clear k6
           have hl2 := q2.out.lt
           have hl4 := q4.out.lt
           have h24 := A.out.h4
           have hne24 : w.heap.size ≠ g4 := by omega
           clear q2 q4
           by_cases hlt : (k : Int) < 11 + z
           · have d1 : decide ((k : Int) < 11 + z) = true := by simpa using hlt
             have A := qd A.out.many
             go_wp2_with fail
             go_roundw
             case rel => exact ⟨k + 1, _, _, _, _, by omega, by go_num, by have := A.out; rwa [show 112 + 1 * k + 1 = 112 + 1 * (k + 1) by omega] at this⟩
             case measure => simp [intOf]; omega
           · have d1 : decide ((k : Int) < 11 + z) = false := by simpa using hlt
             have h6 : Lk (Six (put6 wr w.heap.size (.int .i64 T.kind) (.string T.set) (.bool T.neg) (.int .i64 T.low) (.int .i64 T.high) (.slice a T.kids.length c)) w.heap.size T a c) := Lk.mk (A.out.s2.put T a c)
             have PO := Lk.mk (put6_only A.out.only w.heap.size (.int .i64 T.kind) (.string T.set) (.bool T.neg) (.int .i64 T.low) (.int .i64 T.high) (.slice a T.kids.length c) (by omega))
             have PC := Lk.mk (A.out.cur.put (g := w.heap.size) A.out.hB (.int .i64 T.kind) (.string T.set) (.bool T.neg) (.int .i64 T.low) (.int .i64 T.high) (.slice a T.kids.length c))
             have PK := Lk.mk (A.out.kf.put w.heap.size (fun q => by have := A.out.low _ q; omega) (.int .i64 T.kind) (.string T.set) (.bool T.neg) (.int .i64 T.low) (.int .i64 T.high) (.slice a T.kids.length c))
             go_wp2_with fail
             change bodyPost _ _ _ _ _ (put6 wr w.heap.size (.int .i64 T.kind) (.string T.set) (.bool T.neg) (.int .i64 T.low) (.int .i64 T.high) (.slice a T.kids.length c))
             generalize put6 wr w.heap.size (.int .i64 T.kind) (.string T.set) (.bool T.neg) (.int .i64 T.low) (.int .i64 T.high) (.slice a T.kids.length c) = W at h6 PO PC PK ⊢
             obtain ⟨y0, y1, y2, y3, y4, y5, _⟩ := h6.out.cells
             replace y0 : _ = some (Value.int .i64 T.kind) := y0
             replace y1 : _ = some (Value.string T.set) := y1
             replace y2 : _ = some (Value.bool T.neg) := y2
             replace y3 : _ = some (Value.int .i64 T.low) := y3
             replace y4 : _ = some (Value.int .i64 T.high) := y4
             replace y5 : _ = some (Value.slice a T.kids.length c) := y5
             refine bodyPost_ret (v := .agg #[.int .i64 T.kind, .string T.set, .bool T.neg, .int .i64 T.low, .int .i64 T.high, .slice a T.kids.length c]) (by simp [results, Tryz.results24, go_sem, y0, y1, y2, y3, y4, y5]) rfl ?_
             exact ⟨T, a, c, F, rfl, PK.out, fun y hy => Nat.le_of_lt (A.out.low y hy), A.out.nice, by have := A.out.cost; omega, PC.out, PO.out⟩
       · have e3 : (y == 3) = false := by simpa using h3
         by_cases h4 : y = 4
         · subst h4
           go_wp2_with fail
           refine (below_any B 5 _ A.out.cur (by omega) (by omega)).mono ?_
           rintro e w5 ⟨z, ⟨z0, z1⟩, rfl, c1, o1⟩
           have A := qd (A.out.stepB c1 o1)
           clear c1 o1
           go_wp2_with fail
           skip
           go_loopw [7] (fun i wr => ∃ (k : Nat) (T : RT) (a : Option Addr) (c : Nat) (F : List Nat), (k : Int) ≤ 97 + z ∧ i = .int .i64 (k : Int) ∧ AnyS B g4 (112 + 3 * k) w T a c F wr) (fun i _ => (97 + z).toNat - (intOf i).toNat)
           case atStart => exact ⟨0, _, _, _, _, by omega, rfl, A.out⟩
           case round =>
             clear A
             obtain ⟨k, T, a, c, F, hk, rfl, hA⟩ := hrel
             have A := qd hA
             clear hA
             have q2 := qd A.out.s2
             have q4 := qd A.out.s4
             obtain ⟨z0, z1, z2, z3, z4, z5, z6⟩ := q2.out.cells
             have z60 := z6 0
             have z61 := z6 1
             have z62 := z6 2
             have z63 := z6 3
             have z64 := z6 4
             have z65 := z6 5
             clear z6
             obtain ⟨k0, k1, k2, k3, k4, k5, k6⟩ := q4.out.cells
             have k60 := k6 0
             have k61 := k6 1
             have k62 := k6 2
             have k63 := k6 3
             have k64 := k6 4
             have k65 := k6 5
             clear k6
             have hl2 := q2.out.lt
             have hl4 := q4.out.lt
             have h24 := A.out.h4
             have hne24 : w.heap.size ≠ g4 := by omega
             clear q2 q4
             by_cases hlt : (k : Int) < 97 + z
             · have d1 : decide ((k : Int) < 97 + z) = true := by simpa using hlt
               go_wp2_with fail
               go_region_with (go_at_call 42; refine (one_any 97 97 rfl _).mono ?_; rintro e w7 ⟨rfl, b7⟩; unfold reV; have A7 := qd (by first | exact A.out.kept b7 | exact (A.out.kept ((Below.refl _ _).drew)).kept b7); have q2 := qd A7.out.s2; have q4 := qd A7.out.s4; obtain ⟨z0, z1, z2, z3, z4, z5, z6⟩ := q2.out.cells; have z60 := z6 0; have z61 := z6 1; have z62 := z6 2; have z63 := z6 3; have z64 := z6 4; have z65 := z6 5; clear z6; have hl7 := q2.out.lt; have hl8 := q4.out.lt; obtain ⟨k0, k1, k2, k3, k4, k5, k6⟩ := q4.out.cells; have k60 := k6 0; have k61 := k6 1; have k62 := k6 2; have k63 := k6 3; have k64 := k6 4; have k65 := k6 5; clear k6)
               all_goals
                 have AP := qd (A7.out.pair 97)
                 go_wp2_with fail
                 go_roundw
                 case rel => exact ⟨k + 1, _, _, _, _, by omega, by go_num, by have := AP.out; rwa [show 112 + 3 * k + 3 = 112 + 3 * (k + 1) by omega] at this⟩
                 case measure => simp [intOf]; omega
             · have d1 : decide ((k : Int) < 97 + z) = false := by simpa using hlt
               have h6 : Lk (Six (put6 wr w.heap.size (.int .i64 T.kind) (.string T.set) (.bool T.neg) (.int .i64 T.low) (.int .i64 T.high) (.slice a T.kids.length c)) w.heap.size T a c) := Lk.mk (A.out.s2.put T a c)
               have PO := Lk.mk (put6_only A.out.only w.heap.size (.int .i64 T.kind) (.string T.set) (.bool T.neg) (.int .i64 T.low) (.int .i64 T.high) (.slice a T.kids.length c) (by omega))
               have PC := Lk.mk (A.out.cur.put (g := w.heap.size) A.out.hB (.int .i64 T.kind) (.string T.set) (.bool T.neg) (.int .i64 T.low) (.int .i64 T.high) (.slice a T.kids.length c))
               have PK := Lk.mk (A.out.kf.put w.heap.size (fun q => by have := A.out.low _ q; omega) (.int .i64 T.kind) (.string T.set) (.bool T.neg) (.int .i64 T.low) (.int .i64 T.high) (.slice a T.kids.length c))
               go_wp2_with fail
               change bodyPost _ _ _ _ _ (put6 wr w.heap.size (.int .i64 T.kind) (.string T.set) (.bool T.neg) (.int .i64 T.low) (.int .i64 T.high) (.slice a T.kids.length c))
               generalize put6 wr w.heap.size (.int .i64 T.kind) (.string T.set) (.bool T.neg) (.int .i64 T.low) (.int .i64 T.high) (.slice a T.kids.length c) = W at h6 PO PC PK ⊢
               obtain ⟨y0, y1, y2, y3, y4, y5, _⟩ := h6.out.cells
               replace y0 : _ = some (Value.int .i64 T.kind) := y0
               replace y1 : _ = some (Value.string T.set) := y1
               replace y2 : _ = some (Value.bool T.neg) := y2
               replace y3 : _ = some (Value.int .i64 T.low) := y3
               replace y4 : _ = some (Value.int .i64 T.high) := y4
               replace y5 : _ = some (Value.slice a T.kids.length c) := y5
               refine bodyPost_ret (v := .agg #[.int .i64 T.kind, .string T.set, .bool T.neg, .int .i64 T.low, .int .i64 T.high, .slice a T.kids.length c]) (by simp [results, Tryz.results24, go_sem, y0, y1, y2, y3, y4, y5]) rfl ?_
               exact ⟨T, a, c, F, rfl, PK.out, fun y hy => Nat.le_of_lt (A.out.low y hy), A.out.nice, by have := A.out.cost; omega, PC.out, PO.out⟩
         · have e4 : (y == 4) = false := by simpa using h4
           have q2 := qd A.out.s2
           have q4 := qd A.out.s4
           obtain ⟨z0, z1, z2, z3, z4, z5, z6⟩ := q2.out.cells
           have z60 := z6 0
           have z61 := z6 1
           have z62 := z6 2
           have z63 := z6 3
           have z64 := z6 4
           have z65 := z6 5
           clear z6
           obtain ⟨k0, k1, k2, k3, k4, k5, k6⟩ := q4.out.cells
           have k60 := k6 0
           have k61 := k6 1
           have k62 := k6 2
           have k63 := k6 3
           have k64 := k6 4
           have k65 := k6 5
           clear k6
           have hl2 := q2.out.lt
           have hl4 := q4.out.lt
           have h24 := A.out.h4
           have hne24 : w.heap.size ≠ g4 := by omega
           clear q2 q4
           have h6 : Lk (Six (put6 w4 w.heap.size (.int .i64 (tk)) (.string ts) (.bool tn) (.int .i64 tl) (.int .i64 th) (.slice ta tks.length tc)) w.heap.size (RT.node tk ts tn tl th tks) ta tc) := Lk.mk (A.out.s2.put (RT.node tk ts tn tl th tks) ta tc)
           have PO := Lk.mk (put6_only A.out.only w.heap.size (.int .i64 (tk)) (.string ts) (.bool tn) (.int .i64 tl) (.int .i64 th) (.slice ta tks.length tc) (by omega))
           have PC := Lk.mk (A.out.cur.put (g := w.heap.size) A.out.hB (.int .i64 (tk)) (.string ts) (.bool tn) (.int .i64 tl) (.int .i64 th) (.slice ta tks.length tc))
           have PK := Lk.mk (A.out.kf.put w.heap.size (fun q => by have := A.out.low _ q; omega) (.int .i64 (tk)) (.string ts) (.bool tn) (.int .i64 tl) (.int .i64 th) (.slice ta tks.length tc))
           go_wp2_with fail
           change bodyPost _ _ _ _ _ (put6 w4 w.heap.size (.int .i64 (tk)) (.string ts) (.bool tn) (.int .i64 tl) (.int .i64 th) (.slice ta tks.length tc))
           generalize put6 w4 w.heap.size (.int .i64 (tk)) (.string ts) (.bool tn) (.int .i64 tl) (.int .i64 th) (.slice ta tks.length tc) = W at h6 PO PC PK ⊢
           obtain ⟨y0, y1, y2, y3, y4, y5, _⟩ := h6.out.cells
           replace y0 : _ = some (Value.int .i64 (tk)) := y0
           replace y1 : _ = some (Value.string ts) := y1
           replace y2 : _ = some (Value.bool tn) := y2
           replace y3 : _ = some (Value.int .i64 tl) := y3
           replace y4 : _ = some (Value.int .i64 th) := y4
           replace y5 : _ = some (Value.slice ta tks.length tc) := y5
           refine bodyPost_ret (v := .agg #[.int .i64 (tk), .string ts, .bool tn, .int .i64 tl, .int .i64 th, .slice ta tks.length tc]) (by simp [results, Tryz.results24, go_sem, y0, y1, y2, y3, y4, y5]) rfl ?_
           exact ⟨(RT.node tk ts tn tl th tks), ta, tc, tF, rfl, PK.out, fun y hy => Nat.le_of_lt (A.out.low y hy), A.out.nice, by have := A.out.cost; omega, PC.out, PO.out⟩
end Go.Proofs.YtcimhpdpfckgiaaGreatDoor.kit
namespace Go.Proofs.YtcimhpdpfckgiaaGreatDoor.kit
def OneT (z : ByteArray) : Prop := z.size ≤ 1
def sdT : List ByteArray := [⟨#[97]⟩, ⟨#[98]⟩, ⟨#[99]⟩, ⟨#[46]⟩, ⟨#[92]⟩, ⟨#[47]⟩, ⟨#[32]⟩, ⟨#[10]⟩, ⟨#[255]⟩, ⟨#[42]⟩, ⟨#[93]⟩, ⟨#[45]⟩, ⟨#[94]⟩, ⟨#[53]⟩]
theorem sdT_one : ∀ z ∈ sdT, OneT z := by unfold sdT OneT; decide
set_option maxRecDepth 100000 in
set_option maxHeartbeats 1000000 in
theorem said_any (B : Nat) (w : World) (hc : CurE w B) : Calls Tryz.prog 23 #[.pointer (some ⟨B, 0, none⟩)] w (GotS (fun z => z.size ≤ 8) B w) := by
 have L1 := qd hc.lt
 go_enter Tryz.func23, Tryz.ntmps23
 go_wp2_with fail
 refine (below_any B 9 _ hc (by omega) (by omega)).mono ?_
 rintro e w2 ⟨x, ⟨x0, x1⟩, rfl, c2, o2⟩
 obtain ⟨m, rfl⟩ : ∃ m : Nat, x = (m : Int) := ⟨x.toNat, by omega⟩
 have C2 := qd c2
 have O2 := qd o2
 clear c2 o2 hc
 go_wp2_with fail
 go_loopw [3, 5] (fun v i wr => ∃ (k : Nat) (s : ByteArray), k ≤ m ∧ i = .int .i64 (k : Int) ∧ v = .string s ∧ s.size ≤ k ∧ CurE wr B ∧ OnlyB B w wr) (fun _ i _ => m - (intOf i).toNat)
 case atStart => exact ⟨0, ⟨#[]⟩, Nat.zero_le _, rfl, rfl, by show 0 ≤ 0; omega, C2.out, O2.out⟩
 case round =>
  obtain ⟨k, s, hk, rfl, rfl, hs, hcu, hon⟩ := hrel
  have HC := qd hcu
  have HO := qd hon
  clear hcu hon
  by_cases hlt : k < m
  · have nw : wr.heap.size ≠ B := by have := HC.out.lt; omega
    go_wp2_with fail
    refine (pick_any OneT B wr.heap.size 14 _ _ (HC.out.alloc _) (listS_alloc sdT _ _ _ rfl sdT_one) nw (by omega) (by omega)).mono ?_
    rintro e w3 ⟨z, hz, rfl, c3, o3⟩
    have hz1 : z.size ≤ 1 := hz
    have C3 := qd c3
    have O3 := qd ((HO.out.alloc _).trans o3)
    clear c3 o3 hz
    go_wp2_with fail
    go_roundw
    case rel => exact ⟨k + 1, s ++ z, by omega, by go_num, rfl, by rw [ByteArray.size_append]; omega, C3.out, O3.out⟩
    case measure => simp [intOf]; omega
  · go_wp2_with fail
    go_ret
    exact ⟨s, by omega, rfl, HC.out, HO.out⟩
end Go.Proofs.YtcimhpdpfckgiaaGreatDoor.kit
namespace Go.Proofs.YtcimhpdpfckgiaaGreatDoor.kit
open PR
def DrawnH (w : World) (e : Ending) (w' : World) : Prop := ∃ (t : RT) (a : Option Addr) (c : Nat) (s : ByteArray), e = .returned (.tuple #[reV t a c, .string s]) ∧ Kids w.heap.size w' t.kids a ∧ RT.cost t ≤ 1000 ∧ s.size ≤ 8 ∧ Below w.heap.size w w'
set_option maxRecDepth 100000 in
set_option maxHeartbeats 2000000 in
theorem drawHas_any (a : Option Addr) (n cap : Nat) (w : World) (hn : n ≤ 1048576) (hc : Code8 w a n) : Calls Tryz.prog 18 #[.slice a n cap] w (DrawnH w) := by
 have b1 : Below w.heap.size w (w.alloc (.cells #[.int .i64 0, .string ⟨#[]⟩, .bool false, .int .i64 0, .int .i64 0, .slice none 0 0] 26)) := (Below.refl w.heap.size w).alloc (Nat.le_refl _) _
 have HC : Hid (Code8 (w.alloc (.cells #[.int .i64 0, .string ⟨#[]⟩, .bool false, .int .i64 0, .int .i64 0, .slice none 0 0] 26)) a n) := qd (hc.kept b1)
 have S2 : Hid (Six (w.alloc (.cells #[.int .i64 0, .string ⟨#[]⟩, .bool false, .int .i64 0, .int .i64 0, .slice none 0 0] 26)) w.heap.size (PR.leaf 0) none 0) := qd (heap_alloc_new w (.cells #[.int .i64 0, .string ⟨#[]⟩, .bool false, .int .i64 0, .int .i64 0, .slice none 0 0] 26))
 have B1 := qd b1
 clear b1 hc
 go_enter Tryz.func18, Tryz.ntmps18
 go_wp2_with fail
 refine (new_any a n cap _ hn HC.out).mono ?_
 rintro e w1 ⟨rfl, c1, hb1⟩
 have e1 : (w.alloc (.cells #[.int .i64 0, .string ⟨#[]⟩, .bool false, .int .i64 0, .int .i64 0, .slice none 0 0] 26)).heap.size = w.heap.size + 1 := by simp
 have S2 := qd (S2.out.kept hb1)
 have B1 := qd (B1.out.trans (hb1.mono B1.out.size))
 rw [e1] at c1
 try rw [e1]
 clear hb1 e1
 have C1 := qd c1
 clear c1
 go_wp2_with fail
 refine (any_any (w.heap.size + 1) _ C1.out).mono ?_
 rintro e w2 ⟨T, ta, tc, tF, rfl, k1, l1, n1, c0, c1, o1⟩
 have hl1 := C1.out.lt
 obtain ⟨W5, hW5⟩ : ∃ W5, W5 = w2.alloc (.cells #[.int .i64 T.kind, .string T.set, .bool T.neg, .int .i64 T.low, .int .i64 T.high, .slice ta T.kids.length tc] 26) := ⟨_, rfl⟩
 obtain ⟨q, hq⟩ : ∃ q, q = w2.heap.size := ⟨_, rfl⟩
 have b25 : Below w2.heap.size w2 W5 := by rw [hW5]; exact (Below.refl _ _).alloc (Nat.le_refl _) _
 have s5 : Six W5 q T ta tc := by rw [hW5, hq]; exact heap_alloc_new w2 _
 have hz := o1.size
 have S2 := qd ((S2.out.only o1 (by omega)).kept b25)
 have B1 := qd ((B1.out.trans ((o1.below hl1).mono (by omega))).trans (b25.mono ((B1.out.trans ((o1.below hl1).mono (by omega))).size)))
 have K1 := qd (k1.kept b25)
 have L1 := qd (show (∀ y ∈ tF, w1.heap.size ≤ y) ∧ w.heap.size + 1 < w1.heap.size ∧ w1.heap.size ≤ q from ⟨l1, hl1, by omega⟩)
 have HC0 := qd c0
 have C5 := qd (c1.kept b25 c1.lt)
 have S5 := qd s5
 have HW5 := qd (And.intro hW5 hq)
 clear k1 l1 n1 c0 c1 o1 C1 hW5 hq b25 s5 hz hl1
 unfold reV
 go_wp2_with fail
 rw [← HW5.out.2, ← HW5.out.1]
 refine wp_region_held_drew (S := (fun w' : World => w'.cell? ⟨q, 0, none⟩ = some (.int .i64 T.kind) ∧ w'.cell? ⟨q, 1, none⟩ = some (.string T.set) ∧ w'.cell? ⟨q, 2, none⟩ = some (.bool T.neg) ∧ w'.cell? ⟨q, 3, none⟩ = some (.int .i64 T.low) ∧ w'.cell? ⟨q, 4, none⟩ = some (.int .i64 T.high) ∧ w'.cell? ⟨q, 5, none⟩ = some (.slice ta T.kids.length tc))) (by kernel_rfl) (by have h := S5.out.cells; exact ⟨h.1, h.2.1, h.2.2.1, h.2.2.2.1, h.2.2.2.2.1, h.2.2.2.2.2.1⟩) (fun hHeld => ?_)
 refine tkA 0 ?_
 try simp only [nmA, Act.put]
 refine tkA 1 ?_
 try simp only [nmA, Act.put]
 refine rdA 2 (fun K hK => ?_)
 go_simp
 refine (said_any (w.heap.size + 1) W5.drew (C5.out.kept (Below.refl _ _).drew C5.out.lt)).mono ?_
 rintro e w3 ⟨z, hz8, rfl, c3, o3⟩
 have S3 := qd ((show Six W5.drew q T ta tc from S5.out).only o3 (by have := L1.out; omega))
 have S2 := qd ((show Six W5.drew w.heap.size (PR.leaf 0) none 0 from S2.out).only o3 (by omega))
 have K3 := qd ((K1.out.kept (Below.refl _ _).drew).only o3 (fun hy => by have := L1.out.1 _ hy; have := L1.out.2.1; omega))
 have hl5 : w.heap.size + 1 < W5.drew.heap.size := C5.out.lt
 have B3 := qd (B1.out.drew.trans ((o3.below hl5).mono (by omega)))
 have HZ8 := qd hz8
 clear o3 c3 hz8
 go_wp2_with fail
 have h3 := S3.out.cells
 refine hK.out _ _ ⟨h3.1, h3.2.1, h3.2.2.1, h3.2.2.2.1, h3.2.2.2.2.1, h3.2.2.2.2.2.1⟩ (fun hHeld => ?_)
 clear hK K h3
 obtain ⟨z0, z1, z2, z3, z4, z5, z6⟩ := S2.out.cells
 have z60 := z6 0
 have z61 := z6 1
 have z62 := z6 2
 have z63 := z6 3
 have z64 := z6 4
 have z65 := z6 5
 clear z6
 try simp only [nmA, Act.put]
 refine rdA 3 (fun K hK => ?_)
 go_simp
 have h6 : Lk (Six (put6 w3 w.heap.size (.int .i64 T.kind) (.string T.set) (.bool T.neg) (.int .i64 T.low) (.int .i64 T.high) (.slice ta T.kids.length tc)) w.heap.size T ta tc) := Lk.mk (S2.out.put T ta tc)
 have PO := Lk.mk (put6_below B3.out w.heap.size (.int .i64 T.kind) (.string T.set) (.bool T.neg) (.int .i64 T.low) (.int .i64 T.high) (.slice ta T.kids.length tc) (Nat.le_refl _))
 have PK := Lk.mk ((K3.out.put w.heap.size (fun y => by have := L1.out.1 _ y; have := L1.out.2.1; omega) (.int .i64 T.kind) (.string T.set) (.bool T.neg) (.int .i64 T.low) (.int .i64 T.high) (.slice ta T.kids.length tc)).kids (B := w.heap.size) (fun y hy => by have := L1.out.1 y hy; have := L1.out.2.1; omega))
 have PS := Lk.mk (show Six (put6 w3 w.heap.size (.int .i64 T.kind) (.string T.set) (.bool T.neg) (.int .i64 T.low) (.int .i64 T.high) (.slice ta T.kids.length tc)) q T ta tc from (put6_off w3 w.heap.size q _ _ _ _ _ _ (by have := L1.out; omega)).trans S3.out)
 change K _ (put6 w3 w.heap.size (.int .i64 T.kind) (.string T.set) (.bool T.neg) (.int .i64 T.low) (.int .i64 T.high) (.slice ta T.kids.length tc))
 generalize put6 w3 w.heap.size (.int .i64 T.kind) (.string T.set) (.bool T.neg) (.int .i64 T.low) (.int .i64 T.high) (.slice ta T.kids.length tc) = W at h6 PO PK PS ⊢
 have h3 := PS.out.cells
 refine hK.out _ _ ⟨h3.1, h3.2.1, h3.2.2.1, h3.2.2.2.1, h3.2.2.2.2.1, h3.2.2.2.2.2.1⟩ (fun hHeld => ?_)
 clear hK K h3 z0 z1 z2 z3 z4 z5 z60 z61 z62 z63 z64 z65
 try simp only [nmA, Act.put]
 refine tkA 4 ?_
 try simp only [nmA, Act.put]
 refine wpAnyH_done (by kernel_rfl) ?_ _
 go_wp2_with fail
 obtain ⟨y0, y1, y2, y3, y4, y5, _⟩ := h6.out.cells
 replace y0 : _ = some (Value.int .i64 T.kind) := y0
 replace y1 : _ = some (Value.string T.set) := y1
 replace y2 : _ = some (Value.bool T.neg) := y2
 replace y3 : _ = some (Value.int .i64 T.low) := y3
 replace y4 : _ = some (Value.int .i64 T.high) := y4
 replace y5 : _ = some (Value.slice ta T.kids.length tc) := y5
 refine bodyPost_ret (v := .tuple #[.agg #[.int .i64 T.kind, .string T.set, .bool T.neg, .int .i64 T.low, .int .i64 T.high, .slice ta T.kids.length tc], .string z]) (by simp [results, Tryz.results18, go_sem, y0, y1, y2, y3, y4, y5]) rfl ?_
 exact ⟨T, ta, tc, z, rfl, PK.out, by have := HC0.out; omega, HZ8.out, PO.out⟩
end Go.Proofs.YtcimhpdpfckgiaaGreatDoor.kit
namespace Go.Proofs.YtcimhpdpfckgiaaGreatDoor.kit
def FourT (z : ByteArray) : Prop := z.size ≤ 4
def rpT : List ByteArray := [⟨#[]⟩, ⟨#[120]⟩, ⟨#[91, 38, 93]⟩, ⟨#[92, 38]⟩, ⟨#[92, 92, 38]⟩, ⟨#[38, 38]⟩, ⟨#[97, 92, 98]⟩, ⟨#[92]⟩]
theorem rpT_four : ∀ z ∈ rpT, FourT z := by unfold rpT FourT; decide
def esT : List ByteArray := [⟨#[]⟩, ⟨#[38]⟩, ⟨#[92]⟩, ⟨#[92, 38]⟩]
theorem esT_four : ∀ z ∈ esT, FourT z := by unfold esT FourT; decide
set_option maxRecDepth 100000 in
set_option maxHeartbeats 1000000 in
theorem repl9_any (B : Nat) (w : World) (hc : CurE w B) : Calls Tryz.prog 22 #[.pointer (some ⟨B, 0, none⟩)] w (GotS FourT B w) := by
 have nw : w.heap.size ≠ B := by have := hc.lt; omega
 have HC := qd hc
 clear hc
 go_enter Tryz.func22, Tryz.ntmps22
 go_wp2_with fail
 refine (pick_any FourT B w.heap.size 8 _ _ (HC.out.alloc _) (listS_alloc rpT _ _ _ rfl rpT_four) nw (by omega) (by omega)).mono ?_
 rintro e w3 ⟨z, hz, rfl, c3, o3⟩
 have C3 := qd c3
 have O3 := qd (((OnlyB.refl B w).alloc _).trans o3)
 have HZ := qd hz
 clear c3 o3 hz
 go_wp2_with fail
 go_ret
 exact ⟨z, HZ.out, rfl, C3.out, O3.out⟩
def DrawnP (w : World) (e : Ending) (w' : World) : Prop := ∃ (s t : ByteArray), s.size ≤ 4 ∧ t.size ≤ 8 ∧ e = .returned (.tuple #[.string s, .string t]) ∧ Below w.heap.size w w'
set_option maxRecDepth 100000 in
set_option maxHeartbeats 1000000 in
theorem drawPut_any (a : Option Addr) (n cap : Nat) (w : World) (hn : n ≤ 1048576) (hc : Code8 w a n) : Calls Tryz.prog 8 #[.slice a n cap] w (DrawnP w) := by
 go_enter Tryz.func8, Tryz.ntmps8
 go_wp2_with fail
 refine (new_any a n cap _ hn hc).mono ?_
 rintro e w1 ⟨rfl, c1, hb1⟩
 have C1 := qd c1
 have HB1 := qd hb1
 have L1 := qd c1.lt
 clear c1 hb1 hc
 go_wp2_with fail
 refine (repl9_any w.heap.size _ C1.out).mono ?_
 rintro e w2 ⟨z, hz, rfl, c2, o2⟩
 have C2 := qd c2
 have O2 := qd o2
 have HZ := qd hz
 clear c2 o2 hz
 go_wp2_with fail
 refine (said_any w.heap.size _ C2.out).mono ?_
 rintro e w3 ⟨y, hy, rfl, c3, o3⟩
 have O3 := qd (O2.out.trans o3)
 have HY := qd hy
 clear c3 o3 hy
 go_wp2_with fail
 exact bodyPost_ret (v := .tuple #[.string z, .string y]) (by simp [results, Tryz.results8, go_sem]) rfl ⟨z, y, HZ.out, HY.out, rfl, HB1.out.trans (O3.out.below L1.out)⟩
def DrawnE (w : World) (e : Ending) (w' : World) : Prop := ∃ s : ByteArray, s.size ≤ 12 ∧ e = .returned (.string s) ∧ Below w.heap.size w w'
set_option maxRecDepth 100000 in
set_option maxHeartbeats 1000000 in
theorem drawEscape_any (a : Option Addr) (n cap : Nat) (w : World) (hn : n ≤ 1048576) (hc : Code8 w a n) : Calls Tryz.prog 12 #[.slice a n cap] w (DrawnE w) := by
 go_enter Tryz.func12, Tryz.ntmps12
 go_wp2_with fail
 refine (new_any a n cap _ hn hc).mono ?_
 rintro e w1 ⟨rfl, c1, hb1⟩
 have C1 := qd c1
 have HB1 := qd hb1
 have L1 := qd c1.lt
 clear c1 hb1 hc
 go_wp2_with fail
 refine (said_any w.heap.size _ C1.out).mono ?_
 rintro e w2 ⟨z, hz, rfl, c2, o2⟩
 have nw : w2.heap.size ≠ w.heap.size := by have := c2.lt; omega
 have C2 := qd c2
 have O2 := qd o2
 have HZ := qd hz
 clear c2 o2 hz
 go_wp2_with fail
 refine (pick_any FourT w.heap.size w2.heap.size 4 _ _ (C2.out.alloc _) (listS_alloc esT _ _ _ rfl esT_four) nw (by omega) (by omega)).mono ?_
 rintro e w3 ⟨y, hy, rfl, c3, o3⟩
 have O3 := qd ((O2.out.alloc _).trans o3)
 have HY := qd hy
 have hzy : ¬ 9223372036854775807 < z.size + y.size := by have h1 : z.size ≤ 8 := HZ.out; have h2 : y.size ≤ 4 := HY.out; omega
 clear c3 o3 hy
 go_wp2_with fail
 go_ret
 exact ⟨z ++ y, by have h1 : z.size ≤ 8 := HZ.out; have h2 : y.size ≤ 4 := HY.out; rw [ByteArray.size_append]; omega, rfl, HB1.out.trans (O3.out.below L1.out)⟩
end Go.Proofs.YtcimhpdpfckgiaaGreatDoor.kit
namespace Go.Proofs.YtcimhpdpfckgiaaGreatDoor.kit
open PR
def DrawnR (w : World) (e : Ending) (w' : World) : Prop := ∃ (t : RT) (a : Option Addr) (c : Nat) (r s : ByteArray) (b : Bool), e = .returned (.tuple #[reV t a c, .string r, .string s, .bool b]) ∧ Kids w.heap.size w' t.kids a ∧ RT.cost t ≤ 1000 ∧ r.size ≤ 66 ∧ s.size ≤ 66 ∧ Below w.heap.size w w'
set_option maxRecDepth 100000 in
set_option maxHeartbeats 2000000 in
theorem drawReplace_any (a : Option Addr) (n cap : Nat) (w : World) (hn : n ≤ 1048576) (hc : Code8 w a n) : Calls Tryz.prog 9 #[.slice a n cap] w (DrawnR w) := by
 have b1 : Below w.heap.size w (w.alloc (.cells #[.int .i64 0, .string ⟨#[]⟩, .bool false, .int .i64 0, .int .i64 0, .slice none 0 0] 26)) := (Below.refl w.heap.size w).alloc (Nat.le_refl _) _
 have HC : Hid (Code8 (w.alloc (.cells #[.int .i64 0, .string ⟨#[]⟩, .bool false, .int .i64 0, .int .i64 0, .slice none 0 0] 26)) a n) := qd (hc.kept b1)
 have S2 : Hid (Six (w.alloc (.cells #[.int .i64 0, .string ⟨#[]⟩, .bool false, .int .i64 0, .int .i64 0, .slice none 0 0] 26)) w.heap.size (PR.leaf 0) none 0) := qd (heap_alloc_new w (.cells #[.int .i64 0, .string ⟨#[]⟩, .bool false, .int .i64 0, .int .i64 0, .slice none 0 0] 26))
 have B1 := qd b1
 clear b1 hc
 go_enter Tryz.func9, Tryz.ntmps9
 go_wp2_with fail
 refine (new_any a n cap _ hn HC.out).mono ?_
 rintro e w1 ⟨rfl, c1, hb1⟩
 have e1 : (w.alloc (.cells #[.int .i64 0, .string ⟨#[]⟩, .bool false, .int .i64 0, .int .i64 0, .slice none 0 0] 26)).heap.size = w.heap.size + 1 := by simp
 have S2 := qd (S2.out.kept hb1)
 have B1 := qd (B1.out.trans (hb1.mono B1.out.size))
 rw [e1] at c1
 try rw [e1]
 clear hb1 e1
 have C1 := qd c1
 clear c1
 go_wp2_with fail
 refine (any_any (w.heap.size + 1) _ C1.out).mono ?_
 rintro e w2 ⟨T, ta, tc, tF, rfl, k1, l1, n1, c0, c1, o1⟩
 have hl1 := C1.out.lt
 obtain ⟨W5, hW5⟩ : ∃ W5, W5 = w2.alloc (.cells #[.int .i64 T.kind, .string T.set, .bool T.neg, .int .i64 T.low, .int .i64 T.high, .slice ta T.kids.length tc] 26) := ⟨_, rfl⟩
 obtain ⟨q, hq⟩ : ∃ q, q = w2.heap.size := ⟨_, rfl⟩
 have b25 : Below w2.heap.size w2 W5 := by rw [hW5]; exact (Below.refl _ _).alloc (Nat.le_refl _) _
 have s5 : Six W5 q T ta tc := by rw [hW5, hq]; exact heap_alloc_new w2 _
 have hz := o1.size
 have S2 := qd ((S2.out.only o1 (by omega)).kept b25)
 have B1 := qd ((B1.out.trans ((o1.below hl1).mono (by omega))).trans (b25.mono ((B1.out.trans ((o1.below hl1).mono (by omega))).size)))
 have K1 := qd (k1.kept b25)
 have L1 := qd (show (∀ y ∈ tF, w1.heap.size ≤ y) ∧ w.heap.size + 1 < w1.heap.size ∧ w1.heap.size ≤ q from ⟨l1, hl1, by omega⟩)
 have HC0 := qd c0
 have C5 := qd (c1.kept b25 c1.lt)
 have S5 := qd s5
 have HW5 := qd (And.intro hW5 hq)
 clear k1 l1 n1 c0 c1 o1 C1 hW5 hq b25 s5 hz hl1
 unfold reV
 go_wp2_with fail
 rw [← HW5.out.2, ← HW5.out.1]
 refine (said_any (w.heap.size + 1) W5 C5.out).mono ?_
 rintro e w3 ⟨zz, hz8, rfl, c3, o3⟩
 have hl5 : w.heap.size + 1 < W5.heap.size := C5.out.lt
 have S3 := qd (S5.out.only o3 (by have := L1.out; omega))
 have S23 := qd (S2.out.only o3 (by omega))
 have K3 := qd (K1.out.only o3 (fun hy => by have := L1.out.1 _ hy; have := L1.out.2.1; omega))
 have B3 := qd (B1.out.trans ((o3.below hl5).mono (by omega)))
 have HZ8 := qd hz8
 have C3 := qd c3
 clear o3 c3 hz8 hl5 S2 S5 K1 B1 C5
 go_wp2_with fail
 refine (repl9_any (w.heap.size + 1) _ C3.out).mono ?_
 rintro e w4 ⟨rr, hr4, rfl, c3, o3⟩
 have hl5 : w.heap.size + 1 < w3.heap.size := C3.out.lt
 have S4 := qd (S3.out.only o3 (by have := L1.out; omega))
 have S24 := qd (S23.out.only o3 (by omega))
 have K4 := qd (K3.out.only o3 (fun hy => by have := L1.out.1 _ hy; have := L1.out.2.1; omega))
 have B4 := qd (B3.out.trans ((o3.below hl5).mono (by omega)))
 have HR4 := qd hr4
 have C4 := qd c3
 clear o3 c3 hr4 hl5 S3 S23 K3 B3 C3
 go_wp2_with fail
 refine (once_any (w.heap.size + 1) 24 _ C4.out (by omega) (by omega)).mono ?_
 rintro e W6 ⟨ob, rfl, c3, o3⟩
 have hl5 : w.heap.size + 1 < w4.heap.size := C4.out.lt
 have S6 := qd (S4.out.only o3 (by have := L1.out; omega))
 have S26 := qd (S24.out.only o3 (by omega))
 have K6 := qd (K4.out.only o3 (fun hy => by have := L1.out.1 _ hy; have := L1.out.2.1; omega))
 have B6 := qd (B4.out.trans ((o3.below hl5).mono (by omega)))
 have C6 := qd c3
 clear o3 c3 hl5 S4 S24 K4 B4 C4
 cases ob
 · have HRZ := qd (show rr.size ≤ 66 ∧ zz.size ≤ 66 from ⟨by have h : rr.size ≤ 4 := HR4.out; omega, by have h : zz.size ≤ 8 := HZ8.out; omega⟩)
   go_wp2_with fail
   refine wp_region_held_drew (S := (fun w' : World => w'.cell? ⟨q, 0, none⟩ = some (.int .i64 T.kind) ∧ w'.cell? ⟨q, 1, none⟩ = some (.string T.set) ∧ w'.cell? ⟨q, 2, none⟩ = some (.bool T.neg) ∧ w'.cell? ⟨q, 3, none⟩ = some (.int .i64 T.low) ∧ w'.cell? ⟨q, 4, none⟩ = some (.int .i64 T.high) ∧ w'.cell? ⟨q, 5, none⟩ = some (.slice ta T.kids.length tc))) (by kernel_rfl) (by have h := S6.out.cells; exact ⟨h.1, h.2.1, h.2.2.1, h.2.2.2.1, h.2.2.2.2.1, h.2.2.2.2.2.1⟩) (fun hHeld => ?_)
   refine tkA 0 ?_
   try simp only [nmA, Act.put]
   refine tkA 1 ?_
   try simp only [nmA, Act.put]
   refine tkA 2 ?_
   try simp only [nmA, Act.put]
   refine tkA 3 ?_
   try simp only [nmA, Act.put]
   refine rdA 4 (fun K hK => ?_)
   go_simp
   refine (once_any (w.heap.size + 1) 2 W6.drew (C6.out.kept (Below.refl _ _).drew C6.out.lt) (by omega) (by omega)).mono ?_
   rintro e w3 ⟨bb, rfl, c3, o3⟩
   have S3 := qd ((show Six W6.drew q T ta tc from S6.out).only o3 (by have := L1.out; omega))
   have S2 := qd ((show Six W6.drew w.heap.size (PR.leaf 0) none 0 from S26.out).only o3 (by omega))
   have K3 := qd ((K6.out.kept (Below.refl _ _).drew).only o3 (fun hy => by have := L1.out.1 _ hy; have := L1.out.2.1; omega))
   have hl5 : w.heap.size + 1 < W6.drew.heap.size := C6.out.lt
   have B3 := qd (B6.out.drew.trans ((o3.below hl5).mono (by omega)))
   clear o3 c3
   go_wp2_with fail
   have h3 := S3.out.cells
   refine hK.out _ _ ⟨h3.1, h3.2.1, h3.2.2.1, h3.2.2.2.1, h3.2.2.2.2.1, h3.2.2.2.2.2.1⟩ (fun hHeld => ?_)
   clear hK K h3
   obtain ⟨z0, z1, z2, z3, z4, z5, z6⟩ := S2.out.cells
   have z60 := z6 0
   have z61 := z6 1
   have z62 := z6 2
   have z63 := z6 3
   have z64 := z6 4
   have z65 := z6 5
   clear z6
   try simp only [nmA, Act.put]
   refine rdA 5 (fun K hK => ?_)
   go_simp
   have h6 : Lk (Six (put6 w3 w.heap.size (.int .i64 T.kind) (.string T.set) (.bool T.neg) (.int .i64 T.low) (.int .i64 T.high) (.slice ta T.kids.length tc)) w.heap.size T ta tc) := Lk.mk (S2.out.put T ta tc)
   have PO := Lk.mk (put6_below B3.out w.heap.size (.int .i64 T.kind) (.string T.set) (.bool T.neg) (.int .i64 T.low) (.int .i64 T.high) (.slice ta T.kids.length tc) (Nat.le_refl _))
   have PK := Lk.mk ((K3.out.put w.heap.size (fun y => by have := L1.out.1 _ y; have := L1.out.2.1; omega) (.int .i64 T.kind) (.string T.set) (.bool T.neg) (.int .i64 T.low) (.int .i64 T.high) (.slice ta T.kids.length tc)).kids (B := w.heap.size) (fun y hy => by have := L1.out.1 y hy; have := L1.out.2.1; omega))
   have PS := Lk.mk (show Six (put6 w3 w.heap.size (.int .i64 T.kind) (.string T.set) (.bool T.neg) (.int .i64 T.low) (.int .i64 T.high) (.slice ta T.kids.length tc)) q T ta tc from (put6_off w3 w.heap.size q _ _ _ _ _ _ (by have := L1.out; omega)).trans S3.out)
   change K _ (put6 w3 w.heap.size (.int .i64 T.kind) (.string T.set) (.bool T.neg) (.int .i64 T.low) (.int .i64 T.high) (.slice ta T.kids.length tc))
   generalize put6 w3 w.heap.size (.int .i64 T.kind) (.string T.set) (.bool T.neg) (.int .i64 T.low) (.int .i64 T.high) (.slice ta T.kids.length tc) = W at h6 PO PK PS ⊢
   have h3 := PS.out.cells
   refine hK.out _ _ ⟨h3.1, h3.2.1, h3.2.2.1, h3.2.2.2.1, h3.2.2.2.2.1, h3.2.2.2.2.2.1⟩ (fun hHeld => ?_)
   clear hK K h3 z0 z1 z2 z3 z4 z5 z60 z61 z62 z63 z64 z65
   try simp only [nmA, Act.put]
   refine tkA 6 ?_
   try simp only [nmA, Act.put]
   refine tkA 7 ?_
   try simp only [nmA, Act.put]
   refine tkA 8 ?_
   try simp only [nmA, Act.put]
   refine wpAnyH_done (by kernel_rfl) ?_ _
   go_wp2_with fail
   obtain ⟨y0, y1, y2, y3, y4, y5, _⟩ := h6.out.cells
   replace y0 : _ = some (Value.int .i64 T.kind) := y0
   replace y1 : _ = some (Value.string T.set) := y1
   replace y2 : _ = some (Value.bool T.neg) := y2
   replace y3 : _ = some (Value.int .i64 T.low) := y3
   replace y4 : _ = some (Value.int .i64 T.high) := y4
   replace y5 : _ = some (Value.slice ta T.kids.length tc) := y5
   refine bodyPost_ret (v := .tuple #[.agg #[.int .i64 T.kind, .string T.set, .bool T.neg, .int .i64 T.low, .int .i64 T.high, .slice ta T.kids.length tc], .string rr, .string zz, .bool bb]) (by simp [results, Tryz.results9, go_sem, y0, y1, y2, y3, y4, y5]) rfl ?_
   exact ⟨T, ta, tc, rr, zz, bb, rfl, PK.out, by have := HC0.out; omega, HRZ.out.1, HRZ.out.2, PO.out⟩
 · go_wp2_with fail
   have hz8 : zz.size ≤ 8 := HZ8.out
   go_loopg [8] (100 - zz.size) (fun gg v wr => ∃ s : ByteArray, v = .string s ∧ s.size ≤ 66 ∧ gg + s.size = 100 ∧ wr = W6)
   case atStart => exact ⟨zz, rfl, by omega, by omega, rfl⟩
   case round =>
    obtain ⟨xx, rfl, hx, hg, hwr⟩ := hrel
    have hwr := hwr.symm
    subst hwr
    have HX := qd hg
    clear hg
    by_cases hlt : xx.size < 64
    · have hlz : (xx.size : Int) < 64 := by omega
      go_wp2_with fail
      go_roundg (100 - (xx.size + 2))
      case rel => exact ⟨xx ++ ⟨#[97, 98]⟩, rfl, by rw [ByteArray.size_append]; show xx.size + 2 ≤ 66; omega, by rw [ByteArray.size_append]; show _ + (xx.size + 2) = 100; omega, rfl⟩
      case measure => have := HX.out; omega
    · have hlz : ¬ (xx.size : Int) < 64 := by omega
      have HRZ := qd (show xx.size ≤ 66 ∧ xx.size ≤ 66 from ⟨hx, hx⟩)
      go_wp2_with fail
      refine wp_region_held_drew (S := (fun w' : World => w'.cell? ⟨q, 0, none⟩ = some (.int .i64 T.kind) ∧ w'.cell? ⟨q, 1, none⟩ = some (.string T.set) ∧ w'.cell? ⟨q, 2, none⟩ = some (.bool T.neg) ∧ w'.cell? ⟨q, 3, none⟩ = some (.int .i64 T.low) ∧ w'.cell? ⟨q, 4, none⟩ = some (.int .i64 T.high) ∧ w'.cell? ⟨q, 5, none⟩ = some (.slice ta T.kids.length tc))) (by kernel_rfl) (by have h := S6.out.cells; exact ⟨h.1, h.2.1, h.2.2.1, h.2.2.2.1, h.2.2.2.2.1, h.2.2.2.2.2.1⟩) (fun hHeld => ?_)
      refine tkA 0 ?_
      try simp only [nmA, Act.put]
      refine tkA 1 ?_
      try simp only [nmA, Act.put]
      refine tkA 2 ?_
      try simp only [nmA, Act.put]
      refine tkA 3 ?_
      try simp only [nmA, Act.put]
      refine rdA 4 (fun K hK => ?_)
      go_simp
      refine (once_any (w.heap.size + 1) 2 W6.drew (C6.out.kept (Below.refl _ _).drew C6.out.lt) (by omega) (by omega)).mono ?_
      rintro e w3 ⟨bb, rfl, c3, o3⟩
      have S3 := qd ((show Six W6.drew q T ta tc from S6.out).only o3 (by have := L1.out; omega))
      have S2 := qd ((show Six W6.drew w.heap.size (PR.leaf 0) none 0 from S26.out).only o3 (by omega))
      have K3 := qd ((K6.out.kept (Below.refl _ _).drew).only o3 (fun hy => by have := L1.out.1 _ hy; have := L1.out.2.1; omega))
      have hl5 : w.heap.size + 1 < W6.drew.heap.size := C6.out.lt
      have B3 := qd (B6.out.drew.trans ((o3.below hl5).mono (by omega)))
      clear o3 c3
      go_wp2_with fail
      have h3 := S3.out.cells
      refine hK.out _ _ ⟨h3.1, h3.2.1, h3.2.2.1, h3.2.2.2.1, h3.2.2.2.2.1, h3.2.2.2.2.2.1⟩ (fun hHeld => ?_)
      clear hK K h3
      obtain ⟨z0, z1, z2, z3, z4, z5, z6⟩ := S2.out.cells
      have z60 := z6 0
      have z61 := z6 1
      have z62 := z6 2
      have z63 := z6 3
      have z64 := z6 4
      have z65 := z6 5
      clear z6
      try simp only [nmA, Act.put]
      refine rdA 5 (fun K hK => ?_)
      go_simp
      have h6 : Lk (Six (put6 w3 w.heap.size (.int .i64 T.kind) (.string T.set) (.bool T.neg) (.int .i64 T.low) (.int .i64 T.high) (.slice ta T.kids.length tc)) w.heap.size T ta tc) := Lk.mk (S2.out.put T ta tc)
      have PO := Lk.mk (put6_below B3.out w.heap.size (.int .i64 T.kind) (.string T.set) (.bool T.neg) (.int .i64 T.low) (.int .i64 T.high) (.slice ta T.kids.length tc) (Nat.le_refl _))
      have PK := Lk.mk ((K3.out.put w.heap.size (fun y => by have := L1.out.1 _ y; have := L1.out.2.1; omega) (.int .i64 T.kind) (.string T.set) (.bool T.neg) (.int .i64 T.low) (.int .i64 T.high) (.slice ta T.kids.length tc)).kids (B := w.heap.size) (fun y hy => by have := L1.out.1 y hy; have := L1.out.2.1; omega))
      have PS := Lk.mk (show Six (put6 w3 w.heap.size (.int .i64 T.kind) (.string T.set) (.bool T.neg) (.int .i64 T.low) (.int .i64 T.high) (.slice ta T.kids.length tc)) q T ta tc from (put6_off w3 w.heap.size q _ _ _ _ _ _ (by have := L1.out; omega)).trans S3.out)
      change K _ (put6 w3 w.heap.size (.int .i64 T.kind) (.string T.set) (.bool T.neg) (.int .i64 T.low) (.int .i64 T.high) (.slice ta T.kids.length tc))
      generalize put6 w3 w.heap.size (.int .i64 T.kind) (.string T.set) (.bool T.neg) (.int .i64 T.low) (.int .i64 T.high) (.slice ta T.kids.length tc) = W at h6 PO PK PS ⊢
      have h3 := PS.out.cells
      refine hK.out _ _ ⟨h3.1, h3.2.1, h3.2.2.1, h3.2.2.2.1, h3.2.2.2.2.1, h3.2.2.2.2.2.1⟩ (fun hHeld => ?_)
      clear hK K h3 z0 z1 z2 z3 z4 z5 z60 z61 z62 z63 z64 z65
      try simp only [nmA, Act.put]
      refine tkA 6 ?_
      try simp only [nmA, Act.put]
      refine tkA 7 ?_
      try simp only [nmA, Act.put]
      refine tkA 8 ?_
      try simp only [nmA, Act.put]
      refine wpAnyH_done (by kernel_rfl) ?_ _
      go_wp2_with fail
      obtain ⟨y0, y1, y2, y3, y4, y5, _⟩ := h6.out.cells
      replace y0 : _ = some (Value.int .i64 T.kind) := y0
      replace y1 : _ = some (Value.string T.set) := y1
      replace y2 : _ = some (Value.bool T.neg) := y2
      replace y3 : _ = some (Value.int .i64 T.low) := y3
      replace y4 : _ = some (Value.int .i64 T.high) := y4
      replace y5 : _ = some (Value.slice ta T.kids.length tc) := y5
      refine bodyPost_ret (v := .tuple #[.agg #[.int .i64 T.kind, .string T.set, .bool T.neg, .int .i64 T.low, .int .i64 T.high, .slice ta T.kids.length tc], .string xx, .string xx, .bool bb]) (by simp [results, Tryz.results9, go_sem, y0, y1, y2, y3, y4, y5]) rfl ?_
      exact ⟨T, ta, tc, xx, xx, bb, rfl, PK.out, by have := HC0.out; omega, HRZ.out.1, HRZ.out.2, PO.out⟩
end Go.Proofs.YtcimhpdpfckgiaaGreatDoor.kit
