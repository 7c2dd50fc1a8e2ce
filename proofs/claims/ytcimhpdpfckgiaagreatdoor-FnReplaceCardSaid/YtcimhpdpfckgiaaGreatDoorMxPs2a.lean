/-
  Contracts of spec.l04One and spec.l04Times over this seat's translation: a byte as a set; an item with what tells how often it stands. Conditions: the reader's cells are known.
-/
import Derived.Test.YtcimhpdpfckgiaaGreatDoorMxPr2
import Derived.Test.YtcimhpdpfckgiaaGreatDoorMxPr5
set_option linter.unusedVariables false
set_option linter.unusedSimpArgs false
open Go.ChangeShapes Go.WideShapes Go.ChangeAt Go.RowKit
namespace Go.Proofs.YtcimhpdpfckgiaaGreatDoor.kit
theorem Par.put {w : World} {B : Nat} {s : ByteArray} {i : Nat} {bad : Bool} (c : Par w B s i bad) (g : Nat) (hg : g ≠ B) (v0 v1 v2 v3 v4 v5 : Value) : Par (put6 w g v0 v1 v2 v3 v4 v5) B s i bad := by
 have e := put6_off w g B v0 v1 v2 v3 v4 v5 (Ne.symm hg)
 exact ⟨by rw [put6_size]; exact c.lt, (cob (w := w) (a := ⟨B, 0, none⟩) e).trans c.c0, (cob (w := w) (a := ⟨B, 1, none⟩) e).trans c.c1, (cob (w := w) (a := ⟨B, 2, none⟩) e).trans c.c2,
  (World.frozen?_of_block (w := w) (a := ⟨B, 1, none⟩) e).trans c.f1, (World.frozen?_of_block (w := w) (a := ⟨B, 2, none⟩) e).trans c.f2⟩
set_option maxRecDepth 100000 in
set_option maxHeartbeats 400000 in
theorem one_spec (c : UInt8) (w : World) : Calls Tryz.prog 42 #[.int .u8 (c.toNat : Int)] w fun e w' => e = .returned (reV (PR.oneT c) none 0) ∧ Below w.heap.size w w' := by
 have hb1 := back_lit (P := Tryz.prog) Tryz.underlying22 Tryz.underlying5 Tryz.underlying9 [c] [.int .u8 (c.toNat : Int)] rfl 1 1 rfl
 have hb2 := hb1 (w.alloc (.cells #[.int .i64 0, .string ⟨#[]⟩, .bool false, .int .i64 0, .int .i64 0, .slice none 0 0] 26))
 rw [show (w.alloc (.cells #[.int .i64 0, .string ⟨#[]⟩, .bool false, .int .i64 0, .int .i64 0, .slice none 0 0] 26)).heap.size = w.heap.size + 1 by simp] at hb2
 clear hb1
 go_enter Tryz.func42, Tryz.ntmps42
 go_wp2_with fail
 refine bodyPost_ret (v := .agg #[.int .i64 2, .string ⟨#[c]⟩, .bool false, .int .i64 0, .int .i64 0, .slice none 0 0]) (by simp [results, Tryz.results42, go_sem]) rfl ⟨rfl, ?_⟩
 exact (((Below.refl w.heap.size w).alloc (Nat.le_refl _) _).alloc (by simp) _)
theorem KF.box {W : World} {t : RT} {a : Option Addr} {c : Nat} {F : List Nat} {b : Nat} (hb : b = W.heap.size) (hn : Nice t) (hk : KF W t.kids a F) :
 KF (W.alloc (.cells #[.int .i64 t.kind, .string t.set, .bool t.neg, .int .i64 t.low, .int .i64 t.high, .slice a t.kids.length c] 26)) [t] (some ⟨b, 0, none⟩) (b :: F) := by
 subst hb
 exact KF.one (r := ⟨t, a, c, F⟩) (heap_alloc_new W _) rfl hn (hk.kept ((Below.refl _ _).alloc (Nat.le_refl _) _)) (fun h => absurd (hk.lt _ h) (Nat.lt_irrefl _))
end Go.Proofs.YtcimhpdpfckgiaaGreatDoor.kit
namespace Go.Proofs.YtcimhpdpfckgiaaGreatDoor.kit
open PR
theorem Par.cell {w : World} {B : Nat} {s : ByteArray} {i : Nat} {bad : Bool} (c : Par w B s i bad) (g j : Nat) (hg : g ≠ B) (v : Value) : Par (w.setCell ⟨g, j, none⟩ v) B s i bad := by
 have e := Below.heap_setCell w ⟨g, j, none⟩ v B (Ne.symm hg)
 exact ⟨by simpa using c.lt, (cob (w := w) (a := ⟨B, 0, none⟩) e).trans c.c0, (cob (w := w) (a := ⟨B, 1, none⟩) e).trans c.c1, (cob (w := w) (a := ⟨B, 2, none⟩) e).trans c.c2,
  (World.frozen?_of_block (w := w) (a := ⟨B, 1, none⟩) e).trans c.f1, (World.frozen?_of_block (w := w) (a := ⟨B, 2, none⟩) e).trans c.f2⟩
theorem Par.setB {w : World} {B : Nat} {s : ByteArray} {i : Nat} {bad : Bool} (c : Par w B s i bad) (b : Bool) : Par (w.setCell ⟨B, 2, none⟩ (.bool b)) B s i b := by
 refine ⟨by simpa using c.lt, ?_, ?_, ?_, ?_, ?_⟩
 · exact (World.cell?_setCell_other w _ _ _ (by intro x; cases x)).trans c.c0
 · exact (World.cell?_setCell_other w _ _ _ (by intro x; cases x)).trans c.c1
 · exact World.cell?_setCell_same w _ _ c.c2
 · exact (World.frozen?_setCell ..).trans c.f1
 · exact (World.frozen?_setCell ..).trans c.f2
end Go.Proofs.YtcimhpdpfckgiaaGreatDoor.kit
namespace Go.Proofs.YtcimhpdpfckgiaaGreatDoor.kit
open PR
theorem one_any (c : UInt8) (n : Int) (hn : (c.toNat : Int) = n) (w : World) : Calls Tryz.prog 42 #[.int .u8 n] w fun e w' => e = .returned (reV (PR.oneT c) none 0) ∧ Below w.heap.size w w' := by
 subst hn; exact one_spec c w
end Go.Proofs.YtcimhpdpfckgiaaGreatDoor.kit
namespace Go.Proofs.YtcimhpdpfckgiaaGreatDoor.kit
open PR
def pairW (w : World) (g : Nat) (k : Int) (r s : RV) : World :=
 (put6 w g (.int .i64 k) (.string ⟨#[]⟩) (.bool false) (.int .i64 0) (.int .i64 0) (.slice (some ⟨w.heap.size, 0, none⟩) 2 2)).alloc (.cells #[.int .i64 r.t.kind, .string r.t.set, .bool r.t.neg, .int .i64 r.t.low, .int .i64 r.t.high, .slice r.a r.t.kids.length r.c,
    .int .i64 s.t.kind, .string s.t.set, .bool s.t.neg, .int .i64 s.t.low, .int .i64 s.t.high, .slice s.a s.t.kids.length s.c] 26)
theorem pair_heap {w : World} {g b : Nat} {k : Int} {r s : RV} (hb : b < w.heap.size) (hg : b ≠ g) : (pairW w g k r s).heap[b]? = w.heap[b]? := by
 unfold pairW
 rw [heap_alloc_old _ _ (by rw [put6_size]; exact hb), put6_off _ _ _ _ _ _ _ _ _ hg]
theorem pair_kf {w : World} {g : Nat} {k : Int} {r s : RV} (hr : KF w r.t.kids r.a r.F) (hs : KF w s.t.kids s.a s.F) (hn : Nice r.t) (hn' : Nice s.t) (hg : g ∉ r.F) (hg' : g ∉ s.F) (ha : apartF r s) :
 KF (pairW w g k r s) (PR.pairT k r.t s.t).kids (some ⟨w.heap.size, 0, none⟩) (w.heap.size :: (r.F ++ s.F)) := by
 refine KF.two (r := r) (s := s) (cs := #[.int .i64 r.t.kind, .string r.t.set, .bool r.t.neg, .int .i64 r.t.low, .int .i64 r.t.high, .slice r.a r.t.kids.length r.c, .int .i64 s.t.kind, .string s.t.set, .bool s.t.neg, .int .i64 s.t.low, .int .i64 s.t.high, .slice s.a s.t.kids.length s.c]) (e := 26) ?_ rfl hn hn' (hr.of fun b hb => ?_) (hs.of fun b hb => ?_) (fun h => by have := hr.lt _ h; omega) (fun h => by have := hs.lt _ h; omega) ha
 · have := heap_alloc_new (put6 w g (.int .i64 k) (.string ⟨#[]⟩) (.bool false) (.int .i64 0) (.int .i64 0) (.slice (some ⟨w.heap.size, 0, none⟩) 2 2)) (.cells #[.int .i64 r.t.kind, .string r.t.set, .bool r.t.neg, .int .i64 r.t.low, .int .i64 r.t.high, .slice r.a r.t.kids.length r.c, .int .i64 s.t.kind, .string s.t.set, .bool s.t.neg, .int .i64 s.t.low, .int .i64 s.t.high, .slice s.a s.t.kids.length s.c] 26)
   rw [put6_size] at this; exact this
 · exact pair_heap (hr.lt b hb) (fun e => hg (e ▸ hb))
 · exact pair_heap (hs.lt b hb) (fun e => hg' (e ▸ hb))
end Go.Proofs.YtcimhpdpfckgiaaGreatDoor.kit
