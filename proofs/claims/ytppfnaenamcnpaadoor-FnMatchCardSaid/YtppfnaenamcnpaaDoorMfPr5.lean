/-
  Contract of impl's reader of sets of bytes over this seat's translation: which bytes there are, and whether they are meant or the others. Conditions: the reader's cells are known.
-/
import Derived.Test.YtppfnaenamcnpaaDoorMfPr2
import Derived.Laws.Tables
import Derived.Deep.LoopGhost
import Derived.Test.YtppfnaenamcnpaaDoorShelf
set_option linter.unusedVariables false
set_option linter.unusedSimpArgs false
open Go.ChangeShapes Go.WideShapes Go.ChangeAt Go.RowKit
namespace Go.Proofs.YtppfnaenamcnpaaDoor.kit
open PR
theorem Six.cell {w : World} {g0 : Nat} {t : RT} {a : Option Addr} {c : Nat} (h : Six w g0 t a c) (g j : Nat) (hg : g0 ≠ g) (v : Value) : Six (w.setCell ⟨g, j, none⟩ v) g0 t a c := (Below.heap_setCell w ⟨g, j, none⟩ v g0 hg).trans h
theorem OnlyB.cell {B : Nat} {w w' : World} (h : OnlyB B w w') (g j : Nat) (hg : w.heap.size ≤ g) (v : Value) : OnlyB B w (w'.setCell ⟨g, j, none⟩ v) :=
 ⟨h.os, h.tape, h.output, by simpa using h.size, fun k hk hn => (Below.heap_setCell w' ⟨g, j, none⟩ v k (by show k ≠ g; omega)).trans (h.block k hk hn)⟩
theorem Six.below {w w' : World} {g C : Nat} {t : RT} {a : Option Addr} {c : Nat} (h : Six w g t a c) (hb : Below C w w') (hC : g < C) : Six w' g t a c := (hb.block g hC).trans h
theorem OnlyB.and {B C : Nat} {w0 w w' : World} (h : OnlyB B w0 w) (hb : Below C w w') (hC : w0.heap.size ≤ C) : OnlyB B w0 w' :=
 ⟨hb.os.trans h.os, hb.tape.trans h.tape, hb.output.trans h.output, Nat.le_trans h.size hb.size, fun k hk hn => (hb.block k (Nat.lt_of_lt_of_le hk hC)).trans (h.block k hk hn)⟩
end Go.Proofs.YtppfnaenamcnpaaDoor.kit
namespace Go.Proofs.YtppfnaenamcnpaaDoor.kit
theorem six_new {w : World} {g : Nat} {t : RT} {a : Option Addr} {c : Nat} {o : Obj} (hg : g = w.heap.size) (ho : o = .cells #[.int .i64 t.kind, .string t.set, .bool t.neg, .int .i64 t.low, .int .i64 t.high, .slice a t.kids.length c] 26) : Six (w.alloc o) g t a c := by
 subst hg ho; exact heap_alloc_new _ _
set_option maxRecDepth 100000 in
set_option maxHeartbeats 400000 in
theorem one_spec (c : UInt8) (w : World) : Calls Tryd.prog 58 #[.int .u8 (c.toNat : Int)] w fun e w' => e = .returned (reV (PR.oneT c) none 0) ∧ Below w.heap.size w w' := by
 have hb1 := back_lit (P := Tryd.prog) Tryd.underlying22 Tryd.underlying5 Tryd.underlying9 [c] [.int .u8 (c.toNat : Int)] rfl 1 1 rfl
 have hb2 := hb1 (w.alloc (.cells #[.int .i64 0, .string ⟨#[]⟩, .bool false, .int .i64 0, .int .i64 0, .slice none 0 0] 26))
 rw [show (w.alloc (.cells #[.int .i64 0, .string ⟨#[]⟩, .bool false, .int .i64 0, .int .i64 0, .slice none 0 0] 26)).heap.size = w.heap.size + 1 by simp] at hb2
 clear hb1
 go_enter Tryd.func58, Tryd.ntmps58
 go_wp2_with fail
 refine bodyPost_ret (v := .agg #[.int .i64 2, .string ⟨#[c]⟩, .bool false, .int .i64 0, .int .i64 0, .slice none 0 0]) (by simp [results, Tryd.results58, go_sem]) rfl ⟨rfl, ?_⟩
 exact (((Below.refl w.heap.size w).alloc (Nat.le_refl _) _).alloc (by simp) _)
theorem KF.box {W : World} {t : RT} {a : Option Addr} {c : Nat} {F : List Nat} {b : Nat} (hb : b = W.heap.size) (hn : Nice t) (hk : KF W t.kids a F) :
 KF (W.alloc (.cells #[.int .i64 t.kind, .string t.set, .bool t.neg, .int .i64 t.low, .int .i64 t.high, .slice a t.kids.length c] 26)) [t] (some ⟨b, 0, none⟩) (b :: F) := by
 subst hb
 exact KF.one (r := ⟨t, a, c, F⟩) (heap_alloc_new W _) rfl hn (hk.kept ((Below.refl _ _).alloc (Nat.le_refl _) _)) (fun h => absurd (hk.lt _ h) (Nat.lt_irrefl _))
end Go.Proofs.YtppfnaenamcnpaaDoor.kit
namespace Go.Proofs.YtppfnaenamcnpaaDoor.kit
open PR
theorem one_any (c : UInt8) (n : Int) (hn : (c.toNat : Int) = n) (w : World) : Calls Tryd.prog 58 #[.int .u8 n] w fun e w' => e = .returned (reV (PR.oneT c) none 0) ∧ Below w.heap.size w w' := by
 subst hn; exact one_spec c w
end Go.Proofs.YtppfnaenamcnpaaDoor.kit
namespace Go.Proofs.YtppfnaenamcnpaaDoor.kit
open PR
def pairW (w : World) (g : Nat) (k : Int) (r s : RV) : World :=
 (put6 w g (.int .i64 k) (.string ⟨#[]⟩) (.bool false) (.int .i64 0) (.int .i64 0) (.slice (some ⟨w.heap.size, 0, none⟩) 2 2)).alloc (.cells #[.int .i64 r.t.kind, .string r.t.set, .bool r.t.neg, .int .i64 r.t.low, .int .i64 r.t.high, .slice r.a r.t.kids.length r.c,
    .int .i64 s.t.kind, .string s.t.set, .bool s.t.neg, .int .i64 s.t.low, .int .i64 s.t.high, .slice s.a s.t.kids.length s.c] 26)
theorem pair_heap {w : World} {g b : Nat} {k : Int} {r s : RV} (hb : b < w.heap.size) (hg : b ≠ g) : (pairW w g k r s).heap[b]? = w.heap[b]? := by
 unfold pairW
 rw [heap_alloc_old _ _ (by rw [put6_size]; exact hb), put6_off _ _ _ _ _ _ _ _ _ hg]
theorem pair_kf {w : World} {g : Nat} {k : Int} {r s : RV} (hr : KF w r.t.kids r.a r.F) (hs : KF w s.t.kids s.a s.F) (hn : Nice r.t) (hn' : Nice s.t) (hg : g ∉ r.F) (hg' : g ∉ s.F) (ha : apartF r s) :
 KF (pairW w g k r s) (PR.pairT k r.t s.t).kids (some ⟨w.heap.size, 0, none⟩) (w.heap.size :: (r.F ++ s.F)) := by
 refine KF.two (r := r) (s := s) (cs := #[.int .i64 r.t.kind, .string r.t.set, .bool r.t.neg, .int .i64 r.t.low, .int .i64 r.t.high, .slice r.a r.t.kids.length r.c, .int .i64 s.t.kind, .string s.t.set, .bool s.t.neg, .int .i64 s.t.low, .int .i64 s.t.high, .slice s.a s.t.kids.length s.c]) (e := 26) ?_ rfl hn hn' (hr.of fun b hb => ?_) (hs.of fun b hb => ?_) (fun h => by have := hr.lt _ h; omega) (fun h => by have := hs.lt _ h; omega) ha
 · have := heap_alloc_new (put6 w g (.int .i64 k) (.string ⟨#[]⟩) (.bool false) (.int .i64 0) (.int .i64 0) (.slice (some ⟨w.heap.size, 0, none⟩) 2 2)) (.cells #[.int .i64 r.t.kind, .string r.t.set, .bool r.t.neg, .int .i64 r.t.low, .int .i64 r.t.high, .slice r.a r.t.kids.length r.c, .int .i64 s.t.kind, .string s.t.set, .bool s.t.neg, .int .i64 s.t.low, .int .i64 s.t.high, .slice s.a s.t.kids.length s.c] 26)
   rw [put6_size] at this; exact this
 · exact pair_heap (hr.lt b hb) (fun e => hg (e ▸ hb))
 · exact pair_heap (hs.lt b hb) (fun e => hg' (e ▸ hb))
end Go.Proofs.YtppfnaenamcnpaaDoor.kit
