/-
 Contracts of spec.l04One and spec.l04Times over this seat's translation: a byte as a set; an item with what tells how often it stands. Conditions: the reader's cells are known.
-/
import Derived.Test.YtcpaneaiobnhdaaDoorMPr2
import Derived.Test.YtcpaneaiobnhdaaDoorMPr5
namespace Go.Proofs.YtcpaneaiobnhdaaDoor.kit
open Go.ChangeShapes Go.WideShapes Go.ChangeAt Go.RowKit
set_option linter.unusedVariables false

/-- What the model's reader answers: the tree that r tells and the place behind it, in new memory, or that it has gone bad. -/
def PostS (B : Nat) (s : ByteArray) (bnd : Nat) (w : World) (r : Option (RT × Nat)) (e : Ending) (w' : World) : Prop :=
 OnlyB B w w' ∧ match r with
 | none => ∃ t a c j, e = .returned (reV t a c) ∧ j ≤ bnd ∧ Par w' B s j true
 | some x => ∃ a c F, e = .returned (reV x.1 a c) ∧ KF w' x.1.kids a F ∧ (∀ y ∈ F, w.heap.size ≤ y) ∧ Nice x.1 ∧ Par w' B s x.2 false
theorem Par.put {w : World} {B : Nat} {s : ByteArray} {i : Nat} {bad : Bool} (c : Par w B s i bad) (g : Nat) (hg : g ≠ B) (v0 v1 v2 v3 v4 v5 : Value) : Par (put6 w g v0 v1 v2 v3 v4 v5) B s i bad := by
 have e := put6_off w g B v0 v1 v2 v3 v4 v5 (Ne.symm hg)
 exact ⟨by rw [put6_size]; exact c.lt, (World.cell?_of_block (w := w) (a := ⟨B, 0, none⟩) e).trans c.c0, (World.cell?_of_block (w := w) (a := ⟨B, 1, none⟩) e).trans c.c1, (World.cell?_of_block (w := w) (a := ⟨B, 2, none⟩) e).trans c.c2,
  (World.frozen?_of_block (w := w) (a := ⟨B, 1, none⟩) e).trans c.f1, (World.frozen?_of_block (w := w) (a := ⟨B, 2, none⟩) e).trans c.f2⟩
set_option maxRecDepth 100000 in
set_option maxHeartbeats 400000 in
theorem one_spec (c : UInt8) (w : World) : Calls Tryd.prog 34 #[.int .u8 (c.toNat : Int)] w fun e w' => e = .returned (reV (PR.oneT c) none 0) ∧ Below w.heap.size w w' := by
 have hb1 := back_lit (P := Tryd.prog) Tryd.underlying22 Tryd.underlying5 Tryd.underlying9 [c] [.int .u8 (c.toNat : Int)] rfl 1 1 rfl
 have hb2 := hb1 (w.alloc (.cells #[.int .i64 0, .string ⟨#[]⟩, .bool false, .int .i64 0, .int .i64 0, .slice none 0 0] 26))
 rw [show (w.alloc (.cells #[.int .i64 0, .string ⟨#[]⟩, .bool false, .int .i64 0, .int .i64 0, .slice none 0 0] 26)).heap.size = w.heap.size + 1 by simp] at hb2
 clear hb1
 go_enter Tryd.func34, Tryd.ntmps34
 go_wp2_with fail
 refine bodyPost_ret (v := .agg #[.int .i64 2, .string ⟨#[c]⟩, .bool false, .int .i64 0, .int .i64 0, .slice none 0 0]) (by simp [results, Tryd.results34, go_sem]) rfl ⟨rfl, ?_⟩
 exact (((Below.refl w.heap.size w).alloc (Nat.le_refl _) _).alloc (by simp) _)
end Go.Proofs.YtcpaneaiobnhdaaDoor.kit
/-
 Contract of spec.l04Times over this seat's translation: an item with what tells how often it stands. Conditions: the reader's cells are known.
-/
namespace Go.Proofs.YtcpaneaiobnhdaaDoor.kit
open Go.ChangeShapes Go.WideShapes Go.ChangeAt Go.RowKit
set_option linter.unusedVariables false

theorem KF.box {W : World} {t : RT} {a : Option Addr} {c : Nat} {F : List Nat} {b : Nat} (hb : b = W.heap.size) (hn : Nice t) (hk : KF W t.kids a F) :
  KF (W.alloc (.cells #[.int .i64 t.kind, .string t.set, .bool t.neg, .int .i64 t.low, .int .i64 t.high, .slice a t.kids.length c] 26)) [t] (some ⟨b, 0, none⟩) (b :: F) := by
 subst hb
 exact KF.one (r := ⟨t, a, c, F⟩) (heap_alloc_new W _) rfl hn (hk.kept ((Below.refl _ _).alloc (Nat.le_refl _) _)) (fun h => absurd (hk.lt _ h) (Nat.lt_irrefl _))
set_option maxRecDepth 100000 in
set_option maxHeartbeats 8000000 in
theorem times_spec (B : Nat) (s : ByteArray) (i : Nat) (t : RT) (a : Option Addr) (c : Nat) (F : List Nat) (w : World) (hs : s.size ≤ 4000) (hi : i ≤ 4000) (hr : Par w B s i false) (hk : KF w t.kids a F) (hB : B ∉ F) (hn : Nice t) {w0 : World} (h0 : OnlyB B w0 w) (hF : ∀ y ∈ F, w0.heap.size ≤ y) :
  Calls Tryd.prog 52 #[.pointer (some ⟨B, 0, none⟩), reV t a c] w (PostS B s (i + 10) w0 (PR.times s t i)) := by
 have hs2 : s.size ≤ 1048576 := by omega
 have hBl := hr.lt
 have hz0 := h0.size
 obtain ⟨t6, t7⟩ := six_two w (.cells #[.int .i64 t.kind, .string t.set, .bool t.neg, .int .i64 t.low, .int .i64 t.high, .slice a t.kids.length c] 26) (.cells #[.int .i64 0, .string ⟨#[]⟩, .bool false, .int .i64 0, .int .i64 0, .slice none 0 0] 26)
 have b2 : Below w.heap.size w ((w.alloc (.cells #[.int .i64 t.kind, .string t.set, .bool t.neg, .int .i64 t.low, .int .i64 t.high, .slice a t.kids.length c] 26)).alloc (.cells #[.int .i64 0, .string ⟨#[]⟩, .bool false, .int .i64 0, .int .i64 0, .slice none 0 0] 26)) := ((Below.refl w.heap.size w).alloc (Nat.le_refl _) _).alloc (by simp) _
 have O := Lib.hid (h0.trans (OnlyB.of_below b2))
 have P := Lib.hid (hr.kept b2)
 have K := Lib.hid (hk.kept b2)
 have S1 : Hid (Six _ w.heap.size t a c) := Lib.hid t6
 have S2 : Hid (Six _ (w.heap.size + 1) (PR.leaf 0) none 0) := Lib.hid t7
 have HL := Lib.hid hF
 have HLT := Lib.hid hk.lt
 have HBF := Lib.hid hB
 have HNI := Lib.hid hn
 clear t6 t7 b2 hr hk h0 hF hB hn
 unfold reV
 obtain ⟨k, st, n, tl, th, ts⟩ := t
 simp only [RT.set, RT.kids, RT.kind, RT.neg, RT.low, RT.high] at *
 go_enter Tryd.func52, Tryd.ntmps52
 cases h42 : atB s i 42
 case true =>
  have H42 := Lib.hid h42
  clear h42
  go_wp2_with fail
  refine (pIs_any B s i false 42 42 rfl true _ hs2 P.out (by rw [H42.out]; rfl)).mono ?_
  rintro e w1 ⟨rfl, hn⟩
  have o := OnlyB.drewAll (B := B) hn
  have p := P.out.drewAll hn
  clear hn
  have O := Lib.hid (O.out.trans o)
  have P := Lib.hid p
  have S1 := Lib.hid (S1.out.only o (by omega))
  have S2 := Lib.hid (S2.out.only o (by omega))
  have K := Lib.hid (K.out.only o HBF.out)
  clear o p
  obtain ⟨h0, h1, h2, h3, h4, h5⟩ := P.out
  obtain ⟨k0, k1, k2, k3, k4, k5, k6⟩ := S1.out.cells
  have k60 := k6 0
  have k61 := k6 1
  have k62 := k6 2
  have k63 := k6 3
  have k64 := k6 4
  have k65 := k6 5
  clear k6
  have HE : Hid (PR.times s (.node k st n tl th ts) i = some (PR.manyT (.node k st n tl th ts) 0 (-1), i + 1)) := Lib.hid (by rw [PR.times]; simp only [H42.out, if_true])
  have P := Lib.hid (P.out.setI (i + 1))
  rw [show ((i + 1 : Nat) : Int) = (i : Int) + 1 by omega] at P
  have O := Lib.hid (O.out.set 1 (.int .i64 ((i : Int) + 1)))
  have hS2 := S2.out.lt
  have S1 := Lib.hid (S1.out.cell B 1 (by omega) (.int .i64 ((i : Int) + 1)))
  have S2 := Lib.hid (S2.out.cell B 1 (by omega) (.int .i64 ((i : Int) + 1)))
  have K := Lib.hid (K.out.of (w' := w1.setCell ⟨B, 1, none⟩ (.int .i64 ((i : Int) + 1))) (fun b hb => Below.heap_setCell _ ⟨B, 1, none⟩ _ b (fun e => HBF.out (by rw [← show b = B from e]; exact hb))))
  obtain ⟨z0, z1, z2, z3, z4, z5, z6⟩ := S2.out.cells
  have z60 := z6 0
  have z61 := z6 1
  have z62 := z6 2
  have z63 := z6 3
  have z64 := z6 4
  have z65 := z6 5
  clear z6
  have hzO := O.out.size
  have hS2b := S2.out.lt
  skip
  have ba : Below (put6 (w1.setCell ⟨B, 1, none⟩ (.int .i64 ((i : Int) + 1))) (w.heap.size + 1) (.int .i64 5) (.string ⟨#[]⟩) (.bool false) (.int .i64 0) (.int .i64 (-1)) (.slice (some ⟨w1.heap.size, 0, none⟩) 1 1)).heap.size (put6 (w1.setCell ⟨B, 1, none⟩ (.int .i64 ((i : Int) + 1))) (w.heap.size + 1) (.int .i64 5) (.string ⟨#[]⟩) (.bool false) (.int .i64 0) (.int .i64 (-1)) (.slice (some ⟨w1.heap.size, 0, none⟩) 1 1)) ((put6 (w1.setCell ⟨B, 1, none⟩ (.int .i64 ((i : Int) + 1))) (w.heap.size + 1) (.int .i64 5) (.string ⟨#[]⟩) (.bool false) (.int .i64 0) (.int .i64 (-1)) (.slice (some ⟨w1.heap.size, 0, none⟩) 1 1)).alloc (.cells #[.int .i64 k, .string st, .bool n, .int .i64 tl, .int .i64 th, .slice a ts.length c] 26)) := (Below.refl _ _).alloc (Nat.le_refl _) _
  have hsz : (put6 (w1.setCell ⟨B, 1, none⟩ (.int .i64 ((i : Int) + 1))) (w.heap.size + 1) (.int .i64 5) (.string ⟨#[]⟩) (.bool false) (.int .i64 0) (.int .i64 (-1)) (.slice (some ⟨w1.heap.size, 0, none⟩) 1 1)).heap.size = w1.heap.size := by rw [put6_size]; try simp
  have h6 : Lk (Six ((put6 (w1.setCell ⟨B, 1, none⟩ (.int .i64 ((i : Int) + 1))) (w.heap.size + 1) (.int .i64 5) (.string ⟨#[]⟩) (.bool false) (.int .i64 0) (.int .i64 (-1)) (.slice (some ⟨w1.heap.size, 0, none⟩) 1 1)).alloc (.cells #[.int .i64 k, .string st, .bool n, .int .i64 tl, .int .i64 th, .slice a ts.length c] 26)) (w.heap.size + 1) (PR.manyT (.node k st n tl th ts) 0 (-1)) (some ⟨w1.heap.size, 0, none⟩) 1) := Lk.mk ((S2.out.put (PR.manyT (.node k st n tl th ts) 0 (-1)) (some ⟨w1.heap.size, 0, none⟩) 1).kept ba)
  have PO := Lk.mk ((put6_only O.out (w.heap.size + 1) (.int .i64 5) (.string ⟨#[]⟩) (.bool false) (.int .i64 0) (.int .i64 (-1)) (.slice (some ⟨w1.heap.size, 0, none⟩) 1 1) (by omega)).trans (OnlyB.of_below (B := B) ba))
  have PP := Lk.mk ((P.out.put (w.heap.size + 1) (by omega) (.int .i64 5) (.string ⟨#[]⟩) (.bool false) (.int .i64 0) (.int .i64 (-1)) (.slice (some ⟨w1.heap.size, 0, none⟩) 1 1)).kept ba)
  have hltb : w.heap.size + 1 < w1.heap.size := by simpa using hS2b
  have PK : Lk (KF ((put6 (w1.setCell ⟨B, 1, none⟩ (.int .i64 ((i : Int) + 1))) (w.heap.size + 1) (.int .i64 5) (.string ⟨#[]⟩) (.bool false) (.int .i64 0) (.int .i64 (-1)) (.slice (some ⟨w1.heap.size, 0, none⟩) 1 1)).alloc (.cells #[.int .i64 k, .string st, .bool n, .int .i64 tl, .int .i64 th, .slice a ts.length c] 26)) [(.node k st n tl th ts)] (some ⟨w1.heap.size, 0, none⟩) (w1.heap.size :: F)) := Lk.mk (KF.box (t := (.node k st n tl th ts)) (a := a) (c := c) hsz.symm HNI.out (K.out.put (w.heap.size + 1) (fun h => by have := HLT.out _ h; omega) (.int .i64 5) (.string ⟨#[]⟩) (.bool false) (.int .i64 0) (.int .i64 (-1)) (.slice (some ⟨w1.heap.size, 0, none⟩) 1 1)))
  have HLB : Hid (∀ y ∈ w1.heap.size :: F, w0.heap.size ≤ y) := Lib.hid (fun y hy => by rcases List.mem_cons.1 hy with rfl | hy; (first | omega | (simp at hzO; omega)); exact HL.out y hy)
  clear ba hsz
  go_wp2_with fail
  change bodyPost _ _ _ _ _ ((put6 (w1.setCell ⟨B, 1, none⟩ (.int .i64 ((i : Int) + 1))) (w.heap.size + 1) (.int .i64 5) (.string ⟨#[]⟩) (.bool false) (.int .i64 0) (.int .i64 (-1)) (.slice (some ⟨w1.heap.size, 0, none⟩) 1 1)).alloc (.cells #[.int .i64 k, .string st, .bool n, .int .i64 tl, .int .i64 th, .slice a ts.length c] 26))
  generalize (put6 (w1.setCell ⟨B, 1, none⟩ (.int .i64 ((i : Int) + 1))) (w.heap.size + 1) (.int .i64 5) (.string ⟨#[]⟩) (.bool false) (.int .i64 0) (.int .i64 (-1)) (.slice (some ⟨w1.heap.size, 0, none⟩) 1 1)).alloc (.cells #[.int .i64 k, .string st, .bool n, .int .i64 tl, .int .i64 th, .slice a ts.length c] 26) = W at h6 PO PP PK ⊢
  obtain ⟨y0, y1, y2, y3, y4, y5, _⟩ := h6.out.cells
  replace y0 : _ = some (Value.int .i64 5) := y0
  replace y1 : _ = some (Value.string ⟨#[]⟩) := y1
  replace y2 : _ = some (Value.bool false) := y2
  replace y3 : _ = some (Value.int .i64 0) := y3
  replace y4 : _ = some (Value.int .i64 (-1)) := y4
  replace y5 : _ = some (Value.slice (some ⟨w1.heap.size, 0, none⟩) 1 1) := y5
  refine bodyPost_ret (v := .agg #[.int .i64 5, .string ⟨#[]⟩, .bool false, .int .i64 0, .int .i64 (-1), .slice (some ⟨w1.heap.size, 0, none⟩) 1 1]) (by simp [results, Tryd.results52, go_sem, y0, y1, y2, y3, y4, y5]) rfl ⟨PO.out, ?_⟩
  rw [HE.out]
  exact ⟨(some ⟨w1.heap.size, 0, none⟩), 1, w1.heap.size :: F, rfl, PK.out, HLB.out, ⟨Nat.zero_le _, by simp [PR.manyT, RT.kids]⟩, PP.out⟩
 case false =>
  have H42 := Lib.hid h42
  clear h42
  go_wp2_with fail
  refine (pIs_any B s i false 42 42 rfl false _ hs2 P.out (by rw [H42.out]; rfl)).mono ?_
  rintro e w2 ⟨rfl, hn⟩
  have o := OnlyB.drewAll (B := B) hn
  have p := P.out.drewAll hn
  clear hn
  have O := Lib.hid (O.out.trans o)
  have P := Lib.hid p
  have S1 := Lib.hid (S1.out.only o (by omega))
  have S2 := Lib.hid (S2.out.only o (by omega))
  have K := Lib.hid (K.out.only o HBF.out)
  clear o p
  cases h43 : atB s i 43
  case true =>
   have H43 := Lib.hid h43
   clear h43
   go_wp2_with fail
   refine (pIs_any B s i false 43 43 rfl true _ hs2 P.out (by rw [H43.out]; rfl)).mono ?_
   rintro e w3 ⟨rfl, hn⟩
   have o := OnlyB.drewAll (B := B) hn
   have p := P.out.drewAll hn
   clear hn
   have O := Lib.hid (O.out.trans o)
   have P := Lib.hid p
   have S1 := Lib.hid (S1.out.only o (by omega))
   have S2 := Lib.hid (S2.out.only o (by omega))
   have K := Lib.hid (K.out.only o HBF.out)
   clear o p
   obtain ⟨h0, h1, h2, h3, h4, h5⟩ := P.out
   obtain ⟨k0, k1, k2, k3, k4, k5, k6⟩ := S1.out.cells
   have k60 := k6 0
   have k61 := k6 1
   have k62 := k6 2
   have k63 := k6 3
   have k64 := k6 4
   have k65 := k6 5
   clear k6
   have HE : Hid (PR.times s (.node k st n tl th ts) i = some (PR.manyT (.node k st n tl th ts) 1 (-1), i + 1)) := Lib.hid (by rw [PR.times]; simp only [H42.out, H43.out, if_true, if_false, Bool.false_eq_true])
   have P := Lib.hid (P.out.setI (i + 1))
   rw [show ((i + 1 : Nat) : Int) = (i : Int) + 1 by omega] at P
   have O := Lib.hid (O.out.set 1 (.int .i64 ((i : Int) + 1)))
   have hS2 := S2.out.lt
   have S1 := Lib.hid (S1.out.cell B 1 (by omega) (.int .i64 ((i : Int) + 1)))
   have S2 := Lib.hid (S2.out.cell B 1 (by omega) (.int .i64 ((i : Int) + 1)))
   have K := Lib.hid (K.out.of (w' := w3.setCell ⟨B, 1, none⟩ (.int .i64 ((i : Int) + 1))) (fun b hb => Below.heap_setCell _ ⟨B, 1, none⟩ _ b (fun e => HBF.out (by rw [← show b = B from e]; exact hb))))
   obtain ⟨z0, z1, z2, z3, z4, z5, z6⟩ := S2.out.cells
   have z60 := z6 0
   have z61 := z6 1
   have z62 := z6 2
   have z63 := z6 3
   have z64 := z6 4
   have z65 := z6 5
   clear z6
   have hzO := O.out.size
   have hS2b := S2.out.lt
   skip
   have ba : Below (put6 (w3.setCell ⟨B, 1, none⟩ (.int .i64 ((i : Int) + 1))) (w.heap.size + 1) (.int .i64 5) (.string ⟨#[]⟩) (.bool false) (.int .i64 1) (.int .i64 (-1)) (.slice (some ⟨w3.heap.size, 0, none⟩) 1 1)).heap.size (put6 (w3.setCell ⟨B, 1, none⟩ (.int .i64 ((i : Int) + 1))) (w.heap.size + 1) (.int .i64 5) (.string ⟨#[]⟩) (.bool false) (.int .i64 1) (.int .i64 (-1)) (.slice (some ⟨w3.heap.size, 0, none⟩) 1 1)) ((put6 (w3.setCell ⟨B, 1, none⟩ (.int .i64 ((i : Int) + 1))) (w.heap.size + 1) (.int .i64 5) (.string ⟨#[]⟩) (.bool false) (.int .i64 1) (.int .i64 (-1)) (.slice (some ⟨w3.heap.size, 0, none⟩) 1 1)).alloc (.cells #[.int .i64 k, .string st, .bool n, .int .i64 tl, .int .i64 th, .slice a ts.length c] 26)) := (Below.refl _ _).alloc (Nat.le_refl _) _
   have hsz : (put6 (w3.setCell ⟨B, 1, none⟩ (.int .i64 ((i : Int) + 1))) (w.heap.size + 1) (.int .i64 5) (.string ⟨#[]⟩) (.bool false) (.int .i64 1) (.int .i64 (-1)) (.slice (some ⟨w3.heap.size, 0, none⟩) 1 1)).heap.size = w3.heap.size := by rw [put6_size]; try simp
   have h6 : Lk (Six ((put6 (w3.setCell ⟨B, 1, none⟩ (.int .i64 ((i : Int) + 1))) (w.heap.size + 1) (.int .i64 5) (.string ⟨#[]⟩) (.bool false) (.int .i64 1) (.int .i64 (-1)) (.slice (some ⟨w3.heap.size, 0, none⟩) 1 1)).alloc (.cells #[.int .i64 k, .string st, .bool n, .int .i64 tl, .int .i64 th, .slice a ts.length c] 26)) (w.heap.size + 1) (PR.manyT (.node k st n tl th ts) 1 (-1)) (some ⟨w3.heap.size, 0, none⟩) 1) := Lk.mk ((S2.out.put (PR.manyT (.node k st n tl th ts) 1 (-1)) (some ⟨w3.heap.size, 0, none⟩) 1).kept ba)
   have PO := Lk.mk ((put6_only O.out (w.heap.size + 1) (.int .i64 5) (.string ⟨#[]⟩) (.bool false) (.int .i64 1) (.int .i64 (-1)) (.slice (some ⟨w3.heap.size, 0, none⟩) 1 1) (by omega)).trans (OnlyB.of_below (B := B) ba))
   have PP := Lk.mk ((P.out.put (w.heap.size + 1) (by omega) (.int .i64 5) (.string ⟨#[]⟩) (.bool false) (.int .i64 1) (.int .i64 (-1)) (.slice (some ⟨w3.heap.size, 0, none⟩) 1 1)).kept ba)
   have hltb : w.heap.size + 1 < w3.heap.size := by simpa using hS2b
   have PK : Lk (KF ((put6 (w3.setCell ⟨B, 1, none⟩ (.int .i64 ((i : Int) + 1))) (w.heap.size + 1) (.int .i64 5) (.string ⟨#[]⟩) (.bool false) (.int .i64 1) (.int .i64 (-1)) (.slice (some ⟨w3.heap.size, 0, none⟩) 1 1)).alloc (.cells #[.int .i64 k, .string st, .bool n, .int .i64 tl, .int .i64 th, .slice a ts.length c] 26)) [(.node k st n tl th ts)] (some ⟨w3.heap.size, 0, none⟩) (w3.heap.size :: F)) := Lk.mk (KF.box (t := (.node k st n tl th ts)) (a := a) (c := c) hsz.symm HNI.out (K.out.put (w.heap.size + 1) (fun h => by have := HLT.out _ h; omega) (.int .i64 5) (.string ⟨#[]⟩) (.bool false) (.int .i64 1) (.int .i64 (-1)) (.slice (some ⟨w3.heap.size, 0, none⟩) 1 1)))
   have HLB : Hid (∀ y ∈ w3.heap.size :: F, w0.heap.size ≤ y) := Lib.hid (fun y hy => by rcases List.mem_cons.1 hy with rfl | hy; (first | omega | (simp at hzO; omega)); exact HL.out y hy)
   clear ba hsz
   go_wp2_with fail
   change bodyPost _ _ _ _ _ ((put6 (w3.setCell ⟨B, 1, none⟩ (.int .i64 ((i : Int) + 1))) (w.heap.size + 1) (.int .i64 5) (.string ⟨#[]⟩) (.bool false) (.int .i64 1) (.int .i64 (-1)) (.slice (some ⟨w3.heap.size, 0, none⟩) 1 1)).alloc (.cells #[.int .i64 k, .string st, .bool n, .int .i64 tl, .int .i64 th, .slice a ts.length c] 26))
   generalize (put6 (w3.setCell ⟨B, 1, none⟩ (.int .i64 ((i : Int) + 1))) (w.heap.size + 1) (.int .i64 5) (.string ⟨#[]⟩) (.bool false) (.int .i64 1) (.int .i64 (-1)) (.slice (some ⟨w3.heap.size, 0, none⟩) 1 1)).alloc (.cells #[.int .i64 k, .string st, .bool n, .int .i64 tl, .int .i64 th, .slice a ts.length c] 26) = W at h6 PO PP PK ⊢
   obtain ⟨y0, y1, y2, y3, y4, y5, _⟩ := h6.out.cells
   replace y0 : _ = some (Value.int .i64 5) := y0
   replace y1 : _ = some (Value.string ⟨#[]⟩) := y1
   replace y2 : _ = some (Value.bool false) := y2
   replace y3 : _ = some (Value.int .i64 1) := y3
   replace y4 : _ = some (Value.int .i64 (-1)) := y4
   replace y5 : _ = some (Value.slice (some ⟨w3.heap.size, 0, none⟩) 1 1) := y5
   refine bodyPost_ret (v := .agg #[.int .i64 5, .string ⟨#[]⟩, .bool false, .int .i64 1, .int .i64 (-1), .slice (some ⟨w3.heap.size, 0, none⟩) 1 1]) (by simp [results, Tryd.results52, go_sem, y0, y1, y2, y3, y4, y5]) rfl ⟨PO.out, ?_⟩
   rw [HE.out]
   exact ⟨(some ⟨w3.heap.size, 0, none⟩), 1, w3.heap.size :: F, rfl, PK.out, HLB.out, ⟨Nat.zero_le _, by simp [PR.manyT, RT.kids]⟩, PP.out⟩
  case false =>
   have H43 := Lib.hid h43
   clear h43
   go_wp2_with fail
   refine (pIs_any B s i false 43 43 rfl false _ hs2 P.out (by rw [H43.out]; rfl)).mono ?_
   rintro e w4 ⟨rfl, hn⟩
   have o := OnlyB.drewAll (B := B) hn
   have p := P.out.drewAll hn
   clear hn
   have O := Lib.hid (O.out.trans o)
   have P := Lib.hid p
   have S1 := Lib.hid (S1.out.only o (by omega))
   have S2 := Lib.hid (S2.out.only o (by omega))
   have K := Lib.hid (K.out.only o HBF.out)
   clear o p
   cases h63 : atB s i 63
   case true =>
    have H63 := Lib.hid h63
    clear h63
    go_wp2_with fail
    refine (pIs_any B s i false 63 63 rfl true _ hs2 P.out (by rw [H63.out]; rfl)).mono ?_
    rintro e w5 ⟨rfl, hn⟩
    have o := OnlyB.drewAll (B := B) hn
    have p := P.out.drewAll hn
    clear hn
    have O := Lib.hid (O.out.trans o)
    have P := Lib.hid p
    have S1 := Lib.hid (S1.out.only o (by omega))
    have S2 := Lib.hid (S2.out.only o (by omega))
    have K := Lib.hid (K.out.only o HBF.out)
    clear o p
    obtain ⟨h0, h1, h2, h3, h4, h5⟩ := P.out
    obtain ⟨k0, k1, k2, k3, k4, k5, k6⟩ := S1.out.cells
    have k60 := k6 0
    have k61 := k6 1
    have k62 := k6 2
    have k63 := k6 3
    have k64 := k6 4
    have k65 := k6 5
    clear k6
    have HE : Hid (PR.times s (.node k st n tl th ts) i = some (PR.manyT (.node k st n tl th ts) 0 1, i + 1)) := Lib.hid (by rw [PR.times]; simp only [H42.out, H43.out, H63.out, if_true, if_false, Bool.false_eq_true])
    have P := Lib.hid (P.out.setI (i + 1))
    rw [show ((i + 1 : Nat) : Int) = (i : Int) + 1 by omega] at P
    have O := Lib.hid (O.out.set 1 (.int .i64 ((i : Int) + 1)))
    have hS2 := S2.out.lt
    have S1 := Lib.hid (S1.out.cell B 1 (by omega) (.int .i64 ((i : Int) + 1)))
    have S2 := Lib.hid (S2.out.cell B 1 (by omega) (.int .i64 ((i : Int) + 1)))
    have K := Lib.hid (K.out.of (w' := w5.setCell ⟨B, 1, none⟩ (.int .i64 ((i : Int) + 1))) (fun b hb => Below.heap_setCell _ ⟨B, 1, none⟩ _ b (fun e => HBF.out (by rw [← show b = B from e]; exact hb))))
    obtain ⟨z0, z1, z2, z3, z4, z5, z6⟩ := S2.out.cells
    have z60 := z6 0
    have z61 := z6 1
    have z62 := z6 2
    have z63 := z6 3
    have z64 := z6 4
    have z65 := z6 5
    clear z6
    have hzO := O.out.size
    have hS2b := S2.out.lt
    skip
    have ba : Below (put6 (w5.setCell ⟨B, 1, none⟩ (.int .i64 ((i : Int) + 1))) (w.heap.size + 1) (.int .i64 5) (.string ⟨#[]⟩) (.bool false) (.int .i64 0) (.int .i64 1) (.slice (some ⟨w5.heap.size, 0, none⟩) 1 1)).heap.size (put6 (w5.setCell ⟨B, 1, none⟩ (.int .i64 ((i : Int) + 1))) (w.heap.size + 1) (.int .i64 5) (.string ⟨#[]⟩) (.bool false) (.int .i64 0) (.int .i64 1) (.slice (some ⟨w5.heap.size, 0, none⟩) 1 1)) ((put6 (w5.setCell ⟨B, 1, none⟩ (.int .i64 ((i : Int) + 1))) (w.heap.size + 1) (.int .i64 5) (.string ⟨#[]⟩) (.bool false) (.int .i64 0) (.int .i64 1) (.slice (some ⟨w5.heap.size, 0, none⟩) 1 1)).alloc (.cells #[.int .i64 k, .string st, .bool n, .int .i64 tl, .int .i64 th, .slice a ts.length c] 26)) := (Below.refl _ _).alloc (Nat.le_refl _) _
    have hsz : (put6 (w5.setCell ⟨B, 1, none⟩ (.int .i64 ((i : Int) + 1))) (w.heap.size + 1) (.int .i64 5) (.string ⟨#[]⟩) (.bool false) (.int .i64 0) (.int .i64 1) (.slice (some ⟨w5.heap.size, 0, none⟩) 1 1)).heap.size = w5.heap.size := by rw [put6_size]; try simp
    have h6 : Lk (Six ((put6 (w5.setCell ⟨B, 1, none⟩ (.int .i64 ((i : Int) + 1))) (w.heap.size + 1) (.int .i64 5) (.string ⟨#[]⟩) (.bool false) (.int .i64 0) (.int .i64 1) (.slice (some ⟨w5.heap.size, 0, none⟩) 1 1)).alloc (.cells #[.int .i64 k, .string st, .bool n, .int .i64 tl, .int .i64 th, .slice a ts.length c] 26)) (w.heap.size + 1) (PR.manyT (.node k st n tl th ts) 0 1) (some ⟨w5.heap.size, 0, none⟩) 1) := Lk.mk ((S2.out.put (PR.manyT (.node k st n tl th ts) 0 1) (some ⟨w5.heap.size, 0, none⟩) 1).kept ba)
    have PO := Lk.mk ((put6_only O.out (w.heap.size + 1) (.int .i64 5) (.string ⟨#[]⟩) (.bool false) (.int .i64 0) (.int .i64 1) (.slice (some ⟨w5.heap.size, 0, none⟩) 1 1) (by omega)).trans (OnlyB.of_below (B := B) ba))
    have PP := Lk.mk ((P.out.put (w.heap.size + 1) (by omega) (.int .i64 5) (.string ⟨#[]⟩) (.bool false) (.int .i64 0) (.int .i64 1) (.slice (some ⟨w5.heap.size, 0, none⟩) 1 1)).kept ba)
    have hltb : w.heap.size + 1 < w5.heap.size := by simpa using hS2b
    have PK : Lk (KF ((put6 (w5.setCell ⟨B, 1, none⟩ (.int .i64 ((i : Int) + 1))) (w.heap.size + 1) (.int .i64 5) (.string ⟨#[]⟩) (.bool false) (.int .i64 0) (.int .i64 1) (.slice (some ⟨w5.heap.size, 0, none⟩) 1 1)).alloc (.cells #[.int .i64 k, .string st, .bool n, .int .i64 tl, .int .i64 th, .slice a ts.length c] 26)) [(.node k st n tl th ts)] (some ⟨w5.heap.size, 0, none⟩) (w5.heap.size :: F)) := Lk.mk (KF.box (t := (.node k st n tl th ts)) (a := a) (c := c) hsz.symm HNI.out (K.out.put (w.heap.size + 1) (fun h => by have := HLT.out _ h; omega) (.int .i64 5) (.string ⟨#[]⟩) (.bool false) (.int .i64 0) (.int .i64 1) (.slice (some ⟨w5.heap.size, 0, none⟩) 1 1)))
    have HLB : Hid (∀ y ∈ w5.heap.size :: F, w0.heap.size ≤ y) := Lib.hid (fun y hy => by rcases List.mem_cons.1 hy with rfl | hy; (first | omega | (simp at hzO; omega)); exact HL.out y hy)
    clear ba hsz
    go_wp2_with fail
    change bodyPost _ _ _ _ _ ((put6 (w5.setCell ⟨B, 1, none⟩ (.int .i64 ((i : Int) + 1))) (w.heap.size + 1) (.int .i64 5) (.string ⟨#[]⟩) (.bool false) (.int .i64 0) (.int .i64 1) (.slice (some ⟨w5.heap.size, 0, none⟩) 1 1)).alloc (.cells #[.int .i64 k, .string st, .bool n, .int .i64 tl, .int .i64 th, .slice a ts.length c] 26))
    generalize (put6 (w5.setCell ⟨B, 1, none⟩ (.int .i64 ((i : Int) + 1))) (w.heap.size + 1) (.int .i64 5) (.string ⟨#[]⟩) (.bool false) (.int .i64 0) (.int .i64 1) (.slice (some ⟨w5.heap.size, 0, none⟩) 1 1)).alloc (.cells #[.int .i64 k, .string st, .bool n, .int .i64 tl, .int .i64 th, .slice a ts.length c] 26) = W at h6 PO PP PK ⊢
    obtain ⟨y0, y1, y2, y3, y4, y5, _⟩ := h6.out.cells
    replace y0 : _ = some (Value.int .i64 5) := y0
    replace y1 : _ = some (Value.string ⟨#[]⟩) := y1
    replace y2 : _ = some (Value.bool false) := y2
    replace y3 : _ = some (Value.int .i64 0) := y3
    replace y4 : _ = some (Value.int .i64 1) := y4
    replace y5 : _ = some (Value.slice (some ⟨w5.heap.size, 0, none⟩) 1 1) := y5
    refine bodyPost_ret (v := .agg #[.int .i64 5, .string ⟨#[]⟩, .bool false, .int .i64 0, .int .i64 1, .slice (some ⟨w5.heap.size, 0, none⟩) 1 1]) (by simp [results, Tryd.results52, go_sem, y0, y1, y2, y3, y4, y5]) rfl ⟨PO.out, ?_⟩
    rw [HE.out]
    exact ⟨(some ⟨w5.heap.size, 0, none⟩), 1, w5.heap.size :: F, rfl, PK.out, HLB.out, ⟨Nat.zero_le _, by simp [PR.manyT, RT.kids]⟩, PP.out⟩
   case false =>
    have H63 := Lib.hid h63
    clear h63
    go_wp2_with fail
    refine (pIs_any B s i false 63 63 rfl false _ hs2 P.out (by rw [H63.out]; rfl)).mono ?_
    rintro e w6 ⟨rfl, hn⟩
    have o := OnlyB.drewAll (B := B) hn
    have p := P.out.drewAll hn
    clear hn
    have O := Lib.hid (O.out.trans o)
    have P := Lib.hid p
    have S1 := Lib.hid (S1.out.only o (by omega))
    have S2 := Lib.hid (S2.out.only o (by omega))
    have K := Lib.hid (K.out.only o HBF.out)
    clear o p
    cases h123 : atB s i 123
    case true =>
     have H123 := Lib.hid h123
     clear h123
     go_wp2_with fail
     refine (pIs_any B s i false 123 123 rfl true _ hs2 P.out (by rw [H123.out]; rfl)).mono ?_
     rintro e w7 ⟨rfl, hn⟩
     have o := OnlyB.drewAll (B := B) hn
     have p := P.out.drewAll hn
     clear hn
     have O := Lib.hid (O.out.trans o)
     have P := Lib.hid p
     have S1 := Lib.hid (S1.out.only o (by omega))
     have S2 := Lib.hid (S2.out.only o (by omega))
     have K := Lib.hid (K.out.only o HBF.out)
     clear o p
     obtain ⟨h0, h1, h2, h3, h4, h5⟩ := P.out
     obtain ⟨k0, k1, k2, k3, k4, k5, k6⟩ := S1.out.cells
     have k60 := k6 0
     have k61 := k6 1
     have k62 := k6 2
     have k63 := k6 3
     have k64 := k6 4
     have k65 := k6 5
     clear k6
     have P := Lib.hid (P.out.setI (i + 1))
     rw [show ((i + 1 : Nat) : Int) = (i : Int) + 1 by omega] at P
     have O := Lib.hid (O.out.set 1 (.int .i64 ((i : Int) + 1)))
     have hS2 := S2.out.lt
     have S1 := Lib.hid (S1.out.cell B 1 (by omega) (.int .i64 ((i : Int) + 1)))
     have S2 := Lib.hid (S2.out.cell B 1 (by omega) (.int .i64 ((i : Int) + 1)))
     have K := Lib.hid (K.out.of (w' := w7.setCell ⟨B, 1, none⟩ (.int .i64 ((i : Int) + 1))) (fun b hb => Below.heap_setCell _ ⟨B, 1, none⟩ _ b (fun e => HBF.out (by rw [← show b = B from e]; exact hb))))
     clear k0 k60 k1 k61 k2 k62 k3 k63 k4 k64 k5 k65
     have HBR := Lib.hid (braces_any B s (i + 1) (w7.setCell ⟨B, 1, none⟩ (.int .i64 ((i : Int) + 1))) hs (by have := PR.atB_lt H123.out; omega) P.out)
     go_wp2_with fail
     refine HBR.out.mono ?_
     rintro e wb ⟨o, hp⟩
     clear h0 h1 h2 h3 h4 h5 HBR
     have O := Lib.hid (O.out.trans o)
     have S1 := Lib.hid (S1.out.only o (by omega))
     have S2 := Lib.hid (S2.out.only o (by omega))
     have K := Lib.hid (K.out.only o HBF.out)
     clear o
     obtain ⟨k0, k1, k2, k3, k4, k5, k6⟩ := S1.out.cells
     have k60 := k6 0
     have k61 := k6 1
     have k62 := k6 2
     have k63 := k6 3
     have k64 := k6 4
     have k65 := k6 5
     clear k6
     cases hres : PR.braces s (i + 1) with
     | none =>
      rw [hres] at hp
      obtain ⟨lo, hi2, j, rfl, hj, p⟩ := hp
      have HE : Hid (PR.times s (.node k st n tl th ts) i = none) := Lib.hid (by rw [PR.times]; simp only [H42.out, H43.out, H63.out, H123.out, if_true, if_false, Bool.false_eq_true, hres]; rfl)
      have P := Lib.hid p
      clear hres p
      obtain ⟨z0, z1, z2, z3, z4, z5, z6⟩ := S2.out.cells
      have z60 := z6 0
      have z61 := z6 1
      have z62 := z6 2
      have z63 := z6 3
      have z64 := z6 4
      have z65 := z6 5
      clear z6
      have hzO := O.out.size
      have hS2b := S2.out.lt
      skip
      have ba : Below (put6 wb (w.heap.size + 1) (.int .i64 5) (.string ⟨#[]⟩) (.bool false) (.int .i64 lo) (.int .i64 hi2) (.slice (some ⟨wb.heap.size, 0, none⟩) 1 1)).heap.size (put6 wb (w.heap.size + 1) (.int .i64 5) (.string ⟨#[]⟩) (.bool false) (.int .i64 lo) (.int .i64 hi2) (.slice (some ⟨wb.heap.size, 0, none⟩) 1 1)) ((put6 wb (w.heap.size + 1) (.int .i64 5) (.string ⟨#[]⟩) (.bool false) (.int .i64 lo) (.int .i64 hi2) (.slice (some ⟨wb.heap.size, 0, none⟩) 1 1)).alloc (.cells #[.int .i64 k, .string st, .bool n, .int .i64 tl, .int .i64 th, .slice a ts.length c] 26)) := (Below.refl _ _).alloc (Nat.le_refl _) _
      have hsz : (put6 wb (w.heap.size + 1) (.int .i64 5) (.string ⟨#[]⟩) (.bool false) (.int .i64 lo) (.int .i64 hi2) (.slice (some ⟨wb.heap.size, 0, none⟩) 1 1)).heap.size = wb.heap.size := by rw [put6_size]; try simp
      have h6 : Lk (Six ((put6 wb (w.heap.size + 1) (.int .i64 5) (.string ⟨#[]⟩) (.bool false) (.int .i64 lo) (.int .i64 hi2) (.slice (some ⟨wb.heap.size, 0, none⟩) 1 1)).alloc (.cells #[.int .i64 k, .string st, .bool n, .int .i64 tl, .int .i64 th, .slice a ts.length c] 26)) (w.heap.size + 1) (PR.manyT (.node k st n tl th ts) lo hi2) (some ⟨wb.heap.size, 0, none⟩) 1) := Lk.mk ((S2.out.put (PR.manyT (.node k st n tl th ts) lo hi2) (some ⟨wb.heap.size, 0, none⟩) 1).kept ba)
      have PO := Lk.mk ((put6_only O.out (w.heap.size + 1) (.int .i64 5) (.string ⟨#[]⟩) (.bool false) (.int .i64 lo) (.int .i64 hi2) (.slice (some ⟨wb.heap.size, 0, none⟩) 1 1) (by omega)).trans (OnlyB.of_below (B := B) ba))
      have PP := Lk.mk ((P.out.put (w.heap.size + 1) (by omega) (.int .i64 5) (.string ⟨#[]⟩) (.bool false) (.int .i64 lo) (.int .i64 hi2) (.slice (some ⟨wb.heap.size, 0, none⟩) 1 1)).kept ba)
      clear ba hsz
      go_wp2_with fail
      change bodyPost _ _ _ _ _ ((put6 wb (w.heap.size + 1) (.int .i64 5) (.string ⟨#[]⟩) (.bool false) (.int .i64 lo) (.int .i64 hi2) (.slice (some ⟨wb.heap.size, 0, none⟩) 1 1)).alloc (.cells #[.int .i64 k, .string st, .bool n, .int .i64 tl, .int .i64 th, .slice a ts.length c] 26))
      generalize (put6 wb (w.heap.size + 1) (.int .i64 5) (.string ⟨#[]⟩) (.bool false) (.int .i64 lo) (.int .i64 hi2) (.slice (some ⟨wb.heap.size, 0, none⟩) 1 1)).alloc (.cells #[.int .i64 k, .string st, .bool n, .int .i64 tl, .int .i64 th, .slice a ts.length c] 26) = W at h6 PO PP ⊢
      obtain ⟨y0, y1, y2, y3, y4, y5, _⟩ := h6.out.cells
      replace y0 : _ = some (Value.int .i64 5) := y0
      replace y1 : _ = some (Value.string ⟨#[]⟩) := y1
      replace y2 : _ = some (Value.bool false) := y2
      replace y3 : _ = some (Value.int .i64 lo) := y3
      replace y4 : _ = some (Value.int .i64 hi2) := y4
      replace y5 : _ = some (Value.slice (some ⟨wb.heap.size, 0, none⟩) 1 1) := y5
      refine bodyPost_ret (v := .agg #[.int .i64 5, .string ⟨#[]⟩, .bool false, .int .i64 lo, .int .i64 hi2, .slice (some ⟨wb.heap.size, 0, none⟩) 1 1]) (by simp [results, Tryd.results52, go_sem, y0, y1, y2, y3, y4, y5]) rfl ⟨PO.out, ?_⟩
      rw [HE.out]
      exact ⟨(PR.manyT (.node k st n tl th ts) lo hi2), (some ⟨wb.heap.size, 0, none⟩), 1, j, rfl, by omega, PP.out⟩
     | some x =>
      rw [hres] at hp
      obtain ⟨lo, hi2, j⟩ := x
      obtain ⟨rfl, p⟩ := hp
      simp only at p
      have HE : Hid (PR.times s (.node k st n tl th ts) i = some (PR.manyT (.node k st n tl th ts) lo hi2, j)) := Lib.hid (by rw [PR.times]; simp only [H42.out, H43.out, H63.out, H123.out, if_true, if_false, Bool.false_eq_true, hres]; rfl)
      have P := Lib.hid p
      clear hres p
      obtain ⟨z0, z1, z2, z3, z4, z5, z6⟩ := S2.out.cells
      have z60 := z6 0
      have z61 := z6 1
      have z62 := z6 2
      have z63 := z6 3
      have z64 := z6 4
      have z65 := z6 5
      clear z6
      have hzO := O.out.size
      have hS2b := S2.out.lt
      skip
      have ba : Below (put6 wb (w.heap.size + 1) (.int .i64 5) (.string ⟨#[]⟩) (.bool false) (.int .i64 lo) (.int .i64 hi2) (.slice (some ⟨wb.heap.size, 0, none⟩) 1 1)).heap.size (put6 wb (w.heap.size + 1) (.int .i64 5) (.string ⟨#[]⟩) (.bool false) (.int .i64 lo) (.int .i64 hi2) (.slice (some ⟨wb.heap.size, 0, none⟩) 1 1)) ((put6 wb (w.heap.size + 1) (.int .i64 5) (.string ⟨#[]⟩) (.bool false) (.int .i64 lo) (.int .i64 hi2) (.slice (some ⟨wb.heap.size, 0, none⟩) 1 1)).alloc (.cells #[.int .i64 k, .string st, .bool n, .int .i64 tl, .int .i64 th, .slice a ts.length c] 26)) := (Below.refl _ _).alloc (Nat.le_refl _) _
      have hsz : (put6 wb (w.heap.size + 1) (.int .i64 5) (.string ⟨#[]⟩) (.bool false) (.int .i64 lo) (.int .i64 hi2) (.slice (some ⟨wb.heap.size, 0, none⟩) 1 1)).heap.size = wb.heap.size := by rw [put6_size]; try simp
      have h6 : Lk (Six ((put6 wb (w.heap.size + 1) (.int .i64 5) (.string ⟨#[]⟩) (.bool false) (.int .i64 lo) (.int .i64 hi2) (.slice (some ⟨wb.heap.size, 0, none⟩) 1 1)).alloc (.cells #[.int .i64 k, .string st, .bool n, .int .i64 tl, .int .i64 th, .slice a ts.length c] 26)) (w.heap.size + 1) (PR.manyT (.node k st n tl th ts) lo hi2) (some ⟨wb.heap.size, 0, none⟩) 1) := Lk.mk ((S2.out.put (PR.manyT (.node k st n tl th ts) lo hi2) (some ⟨wb.heap.size, 0, none⟩) 1).kept ba)
      have PO := Lk.mk ((put6_only O.out (w.heap.size + 1) (.int .i64 5) (.string ⟨#[]⟩) (.bool false) (.int .i64 lo) (.int .i64 hi2) (.slice (some ⟨wb.heap.size, 0, none⟩) 1 1) (by omega)).trans (OnlyB.of_below (B := B) ba))
      have PP := Lk.mk ((P.out.put (w.heap.size + 1) (by omega) (.int .i64 5) (.string ⟨#[]⟩) (.bool false) (.int .i64 lo) (.int .i64 hi2) (.slice (some ⟨wb.heap.size, 0, none⟩) 1 1)).kept ba)
      have hltb : w.heap.size + 1 < wb.heap.size := by simpa using hS2b
      have PK : Lk (KF ((put6 wb (w.heap.size + 1) (.int .i64 5) (.string ⟨#[]⟩) (.bool false) (.int .i64 lo) (.int .i64 hi2) (.slice (some ⟨wb.heap.size, 0, none⟩) 1 1)).alloc (.cells #[.int .i64 k, .string st, .bool n, .int .i64 tl, .int .i64 th, .slice a ts.length c] 26)) [(.node k st n tl th ts)] (some ⟨wb.heap.size, 0, none⟩) (wb.heap.size :: F)) := Lk.mk (KF.box (t := (.node k st n tl th ts)) (a := a) (c := c) hsz.symm HNI.out (K.out.put (w.heap.size + 1) (fun h => by have := HLT.out _ h; omega) (.int .i64 5) (.string ⟨#[]⟩) (.bool false) (.int .i64 lo) (.int .i64 hi2) (.slice (some ⟨wb.heap.size, 0, none⟩) 1 1)))
      have HLB : Hid (∀ y ∈ wb.heap.size :: F, w0.heap.size ≤ y) := Lib.hid (fun y hy => by rcases List.mem_cons.1 hy with rfl | hy; (first | omega | (simp at hzO; omega)); exact HL.out y hy)
      clear ba hsz
      go_wp2_with fail
      change bodyPost _ _ _ _ _ ((put6 wb (w.heap.size + 1) (.int .i64 5) (.string ⟨#[]⟩) (.bool false) (.int .i64 lo) (.int .i64 hi2) (.slice (some ⟨wb.heap.size, 0, none⟩) 1 1)).alloc (.cells #[.int .i64 k, .string st, .bool n, .int .i64 tl, .int .i64 th, .slice a ts.length c] 26))
      generalize (put6 wb (w.heap.size + 1) (.int .i64 5) (.string ⟨#[]⟩) (.bool false) (.int .i64 lo) (.int .i64 hi2) (.slice (some ⟨wb.heap.size, 0, none⟩) 1 1)).alloc (.cells #[.int .i64 k, .string st, .bool n, .int .i64 tl, .int .i64 th, .slice a ts.length c] 26) = W at h6 PO PP PK ⊢
      obtain ⟨y0, y1, y2, y3, y4, y5, _⟩ := h6.out.cells
      replace y0 : _ = some (Value.int .i64 5) := y0
      replace y1 : _ = some (Value.string ⟨#[]⟩) := y1
      replace y2 : _ = some (Value.bool false) := y2
      replace y3 : _ = some (Value.int .i64 lo) := y3
      replace y4 : _ = some (Value.int .i64 hi2) := y4
      replace y5 : _ = some (Value.slice (some ⟨wb.heap.size, 0, none⟩) 1 1) := y5
      refine bodyPost_ret (v := .agg #[.int .i64 5, .string ⟨#[]⟩, .bool false, .int .i64 lo, .int .i64 hi2, .slice (some ⟨wb.heap.size, 0, none⟩) 1 1]) (by simp [results, Tryd.results52, go_sem, y0, y1, y2, y3, y4, y5]) rfl ⟨PO.out, ?_⟩
      rw [HE.out]
      exact ⟨(some ⟨wb.heap.size, 0, none⟩), 1, wb.heap.size :: F, rfl, PK.out, HLB.out, ⟨Nat.zero_le _, by simp [PR.manyT, RT.kids]⟩, PP.out⟩
    case false =>
     have H123 := Lib.hid h123
     clear h123
     go_wp2_with fail
     refine (pIs_any B s i false 123 123 rfl false _ hs2 P.out (by rw [H123.out]; rfl)).mono ?_
     rintro e w8 ⟨rfl, hn⟩
     have o := OnlyB.drewAll (B := B) hn
     have p := P.out.drewAll hn
     clear hn
     have O := Lib.hid (O.out.trans o)
     have P := Lib.hid p
     have S1 := Lib.hid (S1.out.only o (by omega))
     have S2 := Lib.hid (S2.out.only o (by omega))
     have K := Lib.hid (K.out.only o HBF.out)
     clear o p
     have HE : Hid (PR.times s (.node k st n tl th ts) i = some ((.node k st n tl th ts), i)) := Lib.hid (by rw [PR.times]; simp only [H42.out, H43.out, H63.out, H123.out, if_false, Bool.false_eq_true])
     obtain ⟨k0, k1, k2, k3, k4, k5, k6⟩ := S1.out.cells
     have k60 := k6 0
     have k61 := k6 1
     have k62 := k6 2
     have k63 := k6 3
     have k64 := k6 4
     have k65 := k6 5
     clear k6
     obtain ⟨z0, z1, z2, z3, z4, z5, z6⟩ := S2.out.cells
     have z60 := z6 0
     have z61 := z6 1
     have z62 := z6 2
     have z63 := z6 3
     have z64 := z6 4
     have z65 := z6 5
     clear z6
     have hzO := O.out.size
     have HGF : Hid (w.heap.size + 1 ∉ F) := Lib.hid (fun h => by have := HLT.out _ h; omega)
     have h6 : Lk (Six (put6 w8 (w.heap.size + 1) (.int .i64 k) (.string st) (.bool n) (.int .i64 tl) (.int .i64 th) (.slice a ts.length c)) (w.heap.size + 1) (.node k st n tl th ts) a c) := Lk.mk (S2.out.put (.node k st n tl th ts) a c)
     have PO := Lk.mk (put6_only O.out (w.heap.size + 1) (.int .i64 k) (.string st) (.bool n) (.int .i64 tl) (.int .i64 th) (.slice a ts.length c) (by omega))
     have PP := Lk.mk (P.out.put (w.heap.size + 1) (by omega) (.int .i64 k) (.string st) (.bool n) (.int .i64 tl) (.int .i64 th) (.slice a ts.length c))
     have PK := Lk.mk (K.out.put (w.heap.size + 1) HGF.out (.int .i64 k) (.string st) (.bool n) (.int .i64 tl) (.int .i64 th) (.slice a ts.length c))
     go_wp2_with fail
     change bodyPost _ _ _ _ _ (put6 w8 (w.heap.size + 1) (.int .i64 k) (.string st) (.bool n) (.int .i64 tl) (.int .i64 th) (.slice a ts.length c))
     generalize (put6 w8 (w.heap.size + 1) (.int .i64 k) (.string st) (.bool n) (.int .i64 tl) (.int .i64 th) (.slice a ts.length c)) = W at h6 PO PP PK ⊢
     obtain ⟨y0, y1, y2, y3, y4, y5, _⟩ := h6.out.cells
     replace y0 : _ = some (Value.int .i64 k) := y0
     replace y1 : _ = some (Value.string st) := y1
     replace y2 : _ = some (Value.bool n) := y2
     replace y3 : _ = some (Value.int .i64 tl) := y3
     replace y4 : _ = some (Value.int .i64 th) := y4
     replace y5 : _ = some (Value.slice a ts.length c) := y5
     refine bodyPost_ret (v := .agg #[.int .i64 k, .string st, .bool n, .int .i64 tl, .int .i64 th, .slice a ts.length c]) (by simp [results, Tryd.results52, go_sem, y0, y1, y2, y3, y4, y5]) rfl ⟨PO.out, ?_⟩
     rw [HE.out]
     exact ⟨a, c, F, rfl, PK.out, HL.out, HNI.out, PP.out⟩
end Go.Proofs.YtcpaneaiobnhdaaDoor.kit
