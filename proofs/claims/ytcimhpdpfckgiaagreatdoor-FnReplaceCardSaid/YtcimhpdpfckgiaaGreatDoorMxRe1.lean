/-
  How an expression of the laws (a struct of six fields, the last one a slice of such structs) is read as a tree that lies in memory. Conditions: each theorem names its own.
-/
import Derived.Test.YtcimhpdpfckgiaaGreatDoorMxInfo
import Derived.Test.YtcimhpdpfckgiaaGreatDoorMxKit
import Derived.Deep.Slices
import Derived.Deep.Fields
import Derived.ChangeSame
import Derived.Lib.SmallJoins
import Derived.Laws.MakeOwn
import Derived.Deep.RegionHeld3
set_option linter.unusedVariables false
namespace Go.Proofs.YtcimhpdpfckgiaaGreatDoor.kit
open Go.Joins Go.ChangeShapes Go.WideShapes Go.ChangeAt Go.RowKit Go.Deep
instance : Inhabited RT := ⟨.node 0 ⟨#[]⟩ false 0 0 []⟩
end Go.Proofs.YtcimhpdpfckgiaaGreatDoor.kit
namespace Go.Proofs.YtcimhpdpfckgiaaGreatDoor.kit
open Go.ChangeShapes Go.WideShapes Go.ChangeAt Go.RowKit
def Half (g n k : Nat) (ts : List RT) (w : World) : Prop := g < w.heap.size ∧ (∀ j, j < n * 6 → (w.cell? ⟨g, j, none⟩).isSome = true ∧ w.frozen? ⟨g, j, none⟩ = false) ∧
 ∀ i (hi : i < ts.length), i < k → ∃ a' cap', ElemAt g w (some ⟨g, 0, none⟩) i ts[i] a' cap' ∧ Kids (g + 1) w ts[i].kids a'
theorem Half.kept {g n k : Nat} {ts : List RT} {w w' : World} (h : Half g n k ts w) (hb : Below w.heap.size w w') : Half g n k ts w' := by
 obtain ⟨h0, h1, h2⟩ := h
 refine ⟨Nat.lt_of_lt_of_le h0 hb.size, fun j hj => ?_, fun i hi hk => ?_⟩
 · rw [hb.cell (p := ⟨g, j, none⟩) h0, hb.frozen (p := ⟨g, j, none⟩) h0]; exact h1 j hj
 · obtain ⟨a', cap', e, kk⟩ := h2 i hi hk
   exact ⟨a', cap', e.of hb.size fun b o _ hl => hb.cell (p := ⟨b, o, none⟩) hl, kk.kept (Nat.le_refl _) hb⟩
theorem Half.all {g k : Nat} {ts : List RT} {w : World} (h : Half g k k ts w) (hk : k = ts.length) : Kids g w ts (some ⟨g, 0, none⟩) := by
 obtain ⟨h0, h1, h2⟩ := h
 subst hk
 have h3 : ∀ i, i < ts.length → ∃ x : Option Addr × Nat, ∀ (hi : i < ts.length), ElemAt g w (some ⟨g, 0, none⟩) i ts[i] x.1 x.2 ∧ Kids (g + 1) w ts[i].kids x.1 := by
  intro i hi
  obtain ⟨a', cap', e⟩ := h2 i hi hi
  exact ⟨(a', cap'), fun _ => e⟩
 obtain ⟨f, hf⟩ := Go.Deep.choose_lt h3
 exact .mk _ _ (fun i => (f i).1) (fun i => (f i).2) (fun i hi => (hf i hi hi).1) (fun i hi => ((hf i hi hi).2).mono (by omega))
theorem set_same (w : World) (g j : Nat) (v : Value) (h : (w.cell? ⟨g, j, none⟩).isSome = true) : (w.setCell ⟨g, j, none⟩ v).cell? ⟨g, j, none⟩ = some v := by
 obtain ⟨u, hu⟩ := Option.isSome_iff_exists.1 h
 exact World.cell?_setCell_same w _ _ hu
theorem set_off (w : World) (g j j' : Nat) (v : Value) (h : j ≠ j') : (w.setCell ⟨g, j, none⟩ v).cell? ⟨g, j', none⟩ = w.cell? ⟨g, j', none⟩ :=
 World.cell?_setCell_other w _ _ _ (by intro x; injection x; omega)
def set6 (w : World) (g o : Nat) (t : RT) (a : Option Addr) (cap : Nat) : World :=
 (((((w.setCell ⟨g, o, none⟩ (.int .i64 t.kind)).setCell ⟨g, o + 1, none⟩ (.string t.set)).setCell ⟨g, o + 2, none⟩ (.bool t.neg)).setCell ⟨g, o + 3, none⟩ (.int .i64 t.low)).setCell ⟨g, o + 4, none⟩ (.int .i64 t.high)).setCell ⟨g, o + 5, none⟩ (.slice a t.kids.length cap)
theorem set6_off (w : World) (g o : Nat) (t : RT) (a : Option Addr) (cap b j : Nat) (h : b ≠ g ∨ j < o ∨ o + 6 ≤ j) : (set6 w g o t a cap).cell? ⟨b, j, none⟩ = w.cell? ⟨b, j, none⟩ := by
 unfold set6
 rw [World.cell?_setCell_other, World.cell?_setCell_other, World.cell?_setCell_other, World.cell?_setCell_other, World.cell?_setCell_other, World.cell?_setCell_other] <;> (intro x; injection x; omega)
theorem set6_size (w : World) (g o : Nat) (t : RT) (a : Option Addr) (cap : Nat) : (set6 w g o t a cap).heap.size = w.heap.size := by simp [set6]
theorem set6_frozen (w : World) (g o : Nat) (t : RT) (a : Option Addr) (cap : Nat) (p : Addr) : (set6 w g o t a cap).frozen? p = w.frozen? p := by simp [set6, World.frozen?_setCell]
theorem set6_at (w : World) (g o : Nat) (t : RT) (a : Option Addr) (cap : Nat) (h : ∀ j, j < 6 → (w.cell? ⟨g, o + j, none⟩).isSome = true) :
 (set6 w g o t a cap).cell? ⟨g, o, none⟩ = some (.int .i64 t.kind) ∧ (set6 w g o t a cap).cell? ⟨g, o + 1, none⟩ = some (.string t.set) ∧ (set6 w g o t a cap).cell? ⟨g, o + 2, none⟩ = some (.bool t.neg) ∧
 (set6 w g o t a cap).cell? ⟨g, o + 3, none⟩ = some (.int .i64 t.low) ∧ (set6 w g o t a cap).cell? ⟨g, o + 4, none⟩ = some (.int .i64 t.high) ∧ (set6 w g o t a cap).cell? ⟨g, o + 5, none⟩ = some (.slice a t.kids.length cap) := by
 have h0 := h 0 (by omega)
 have h1 := h 1 (by omega)
 have h2 := h 2 (by omega)
 have h3 := h 3 (by omega)
 have h4 := h 4 (by omega)
 have h5 := h 5 (by omega)
 simp only [Nat.add_zero] at h0
 unfold set6
 refine ⟨?_, ?_, ?_, ?_, ?_, ?_⟩
 · rw [set_off _ _ _ _ _ (by omega), set_off _ _ _ _ _ (by omega), set_off _ _ _ _ _ (by omega), set_off _ _ _ _ _ (by omega), set_off _ _ _ _ _ (by omega), set_same _ _ _ _ h0]
 · rw [set_off _ _ _ _ _ (by omega), set_off _ _ _ _ _ (by omega), set_off _ _ _ _ _ (by omega), set_off _ _ _ _ _ (by omega)]
   exact set_same _ _ _ _ (by rw [set_off _ _ _ _ _ (by omega)]; exact h1)
 · rw [set_off _ _ _ _ _ (by omega), set_off _ _ _ _ _ (by omega), set_off _ _ _ _ _ (by omega)]
   exact set_same _ _ _ _ (by rw [set_off _ _ _ _ _ (by omega), set_off _ _ _ _ _ (by omega)]; exact h2)
 · rw [set_off _ _ _ _ _ (by omega), set_off _ _ _ _ _ (by omega)]
   exact set_same _ _ _ _ (by rw [set_off _ _ _ _ _ (by omega), set_off _ _ _ _ _ (by omega), set_off _ _ _ _ _ (by omega)]; exact h3)
 · rw [set_off _ _ _ _ _ (by omega)]
   exact set_same _ _ _ _ (by rw [set_off _ _ _ _ _ (by omega), set_off _ _ _ _ _ (by omega), set_off _ _ _ _ _ (by omega), set_off _ _ _ _ _ (by omega)]; exact h4)
 · exact set_same _ _ _ _ (by rw [set_off _ _ _ _ _ (by omega), set_off _ _ _ _ _ (by omega), set_off _ _ _ _ _ (by omega), set_off _ _ _ _ _ (by omega), set_off _ _ _ _ _ (by omega)]; exact h5)
theorem set6_some (w : World) (g o : Nat) (t : RT) (a : Option Addr) (cap j : Nat) (h : ∀ j, j < 6 → (w.cell? ⟨g, o + j, none⟩).isSome = true) (hj : (w.cell? ⟨g, j, none⟩).isSome = true) : ((set6 w g o t a cap).cell? ⟨g, j, none⟩).isSome = true := by
 by_cases c : j < o ∨ o + 6 ≤ j
 · rw [set6_off _ _ _ _ _ _ _ _ (.inr c)]; exact hj
 · obtain ⟨q0, q1, q2, q3, q4, q5⟩ := set6_at w g o t a cap h
   obtain ⟨d, rfl⟩ : ∃ d, j = o + d := ⟨j - o, by omega⟩
   match d, (show d < 6 by omega) with
   | 0, _ => simp [q0]
   | 1, _ => simp [q1]
   | 2, _ => simp [q2]
   | 3, _ => simp [q3]
   | 4, _ => simp [q4]
   | 5, _ => simp [q5]
theorem Half.store {g n k : Nat} {ts : List RT} {w : World} (h : Half g n k ts w) (hk : k < ts.length) (hn : ts.length = n) (a : Option Addr) (cap : Nat) (hK : Kids (g + 1) w ts[k].kids a) (f0 : ts[k].set.size ≤ maxLen) (f1 : ts[k].kids.length ≤ maxLen) :
 Half g n (k + 1) ts (set6 w g (k * 6) ts[k] a cap) := by
 obtain ⟨h0, h1, h2⟩ := h
 have hs : ∀ j, j < 6 → (w.cell? ⟨g, k * 6 + j, none⟩).isSome = true := fun j hj => (h1 (k * 6 + j) (by omega)).1
 have hz := set6_size w g (k * 6) ts[k] a cap
 refine ⟨by rw [hz]; exact h0, fun j hj => ⟨set6_some _ _ _ _ _ _ _ hs (h1 j hj).1, by rw [set6_frozen]; exact (h1 j hj).2⟩, fun i hi hik => ?_⟩
 by_cases c : i = k
 · subst c
   obtain ⟨q0, q1, q2, q3, q4, q5⟩ := set6_at w g (i * 6) ts[i] a cap hs
   refine ⟨a, cap, ⟨g, 0, rfl, Nat.le_refl _, by rw [hz]; exact h0, by simpa using q0, by simpa using q1, by simpa using q2, by simpa using q3, by simpa using q4, by simpa using q5, f0, f1⟩, ?_⟩
   exact hK.of (by rw [hz]; exact Nat.le_refl _) fun b o hb _ => set6_off _ _ _ _ _ _ _ _ (.inl (by omega))
 · obtain ⟨a', cap', ⟨b, o, e, e0, e1, c0, c1, c2, c3, c4, c5, g0, g1⟩, kk⟩ := h2 i hi (by omega)
   cases e
   have hq : ∀ d, d < 6 → (set6 w g (k * 6) ts[k] a cap).cell? ⟨g, 0 + i * 6 + d, none⟩ = w.cell? ⟨g, 0 + i * 6 + d, none⟩ := fun d hd => set6_off _ _ _ _ _ _ _ _ (.inr (by omega))
   refine ⟨a', cap', ⟨g, 0, rfl, e0, by rw [hz]; exact e1, (hq 0 (by omega)).trans c0, (hq 1 (by omega)).trans c1, (hq 2 (by omega)).trans c2, (hq 3 (by omega)).trans c3, (hq 4 (by omega)).trans c4, (hq 5 (by omega)).trans c5, g0, g1⟩, ?_⟩
   exact kk.of (by rw [hz]; exact Nat.le_refl _) fun b o hb _ => set6_off _ _ _ _ _ _ _ _ (.inl (by omega))
end Go.Proofs.YtcimhpdpfckgiaaGreatDoor.kit
namespace Go.Proofs.YtcimhpdpfckgiaaGreatDoor.kit
open Go.ChangeShapes Go.WideShapes Go.ChangeAt Go.RowKit
theorem Half.start {w : World} {n : Nat} {cs : Array Value} {e : TypeId} (hcs : cs.size = n * 6) (ts : List RT) : Half w.heap.size n 0 ts (w.alloc (.cells cs e)) := by
 refine ⟨by simp, fun j hj => ⟨?_, ?_⟩, fun i hi hk => by omega⟩
 · rw [World.cell?_alloc_at _ _ _ _ rfl]
   simp [show j < cs.size by omega]
 · have hb : (w.alloc (.cells cs e)).heap[w.heap.size]? = some (.cells cs e) := heap_alloc_new w _
   simp only [World.frozen?, hb]
   simp
end Go.Proofs.YtcimhpdpfckgiaaGreatDoor.kit
namespace Go.Proofs.YtcimhpdpfckgiaaGreatDoor.kit
open Go.ChangeShapes Go.WideShapes Go.ChangeAt Go.RowKit
def Twelve (b o b' o' k : Nat) (t : RT) (a1 a2 : Option Addr) (c1 c2 : Nat) (w W : World) : Prop := (W.cell? ⟨b, o + k * 6, none⟩ = some (.int .i64 t.kind) ∧ W.cell? ⟨b, o + k * 6 + 1, none⟩ = some (.string t.set) ∧ W.cell? ⟨b, o + k * 6 + 2, none⟩ = some (.bool t.neg) ∧ W.cell? ⟨b, o + k * 6 + 3, none⟩ = some (.int .i64 t.low) ∧ W.cell? ⟨b, o + k * 6 + 4, none⟩ = some (.int .i64 t.high) ∧ W.cell? ⟨b, o + k * 6 + 5, none⟩ = some (.slice a1 t.kids.length c1) ∧ W.cell? ⟨b', o' + k * 6, none⟩ = some (.int .i64 t.kind) ∧ W.cell? ⟨b', o' + k * 6 + 1, none⟩ = some (.string t.set) ∧ W.cell? ⟨b', o' + k * 6 + 2, none⟩ = some (.bool t.neg) ∧ W.cell? ⟨b', o' + k * 6 + 3, none⟩ = some (.int .i64 t.low) ∧ W.cell? ⟨b', o' + k * 6 + 4, none⟩ = some (.int .i64 t.high) ∧ W.cell? ⟨b', o' + k * 6 + 5, none⟩ = some (.slice a2 t.kids.length c2)) ∧ (b < W.heap.size ∧ b' < W.heap.size) ∧ Below w.heap.size w W
theorem Twelve.start {b o b' o' k : Nat} {t : RT} {a1 a2 : Option Addr} {c1 c2 : Nat} {w W : World} (h : Twelve b o b' o' k t a1 a2 c1 c2 w W) : Twelve b o b' o' k t a1 a2 c1 c2 w W.drew := ⟨h.1, h.2.1, h.2.2.drew⟩
theorem Twelve.step {b o b' o' k : Nat} {t : RT} {a1 a2 : Option Addr} {c1 c2 : Nat} {w W W' : World} (h : Twelve b o b' o' k t a1 a2 c1 c2 w W) (hb : Below W.heap.size W W') : Twelve b o b' o' k t a1 a2 c1 c2 w W' := by
 obtain ⟨⟨h0, h1, h2, h3, h4, h5, g0, g1, g2, g3, g4, g5⟩, ⟨q, q'⟩, hB⟩ := h
 have e : ∀ j, W'.cell? ⟨b, j, none⟩ = W.cell? ⟨b, j, none⟩ := fun j => hb.cell (p := ⟨b, j, none⟩) q
 have e' : ∀ j, W'.cell? ⟨b', j, none⟩ = W.cell? ⟨b', j, none⟩ := fun j => hb.cell (p := ⟨b', j, none⟩) q'
 exact ⟨⟨(e _).trans h0, (e _).trans h1, (e _).trans h2, (e _).trans h3, (e _).trans h4, (e _).trans h5, (e' _).trans g0, (e' _).trans g1, (e' _).trans g2, (e' _).trans g3, (e' _).trans g4, (e' _).trans g5⟩, ⟨Nat.lt_of_lt_of_le q hb.size, Nat.lt_of_lt_of_le q' hb.size⟩, hB.trans (hb.mono hB.size)⟩
theorem Twelve.below {b o b' o' k : Nat} {t : RT} {a1 a2 : Option Addr} {c1 c2 : Nat} {w W : World} (h : Twelve b o b' o' k t a1 a2 c1 c2 w W) : Below w.heap.size w W := h.2.2
end Go.Proofs.YtcimhpdpfckgiaaGreatDoor.kit
namespace Go.Proofs.YtcimhpdpfckgiaaGreatDoor.kit
open Go.ChangeShapes Go.WideShapes Go.ChangeAt Go.RowKit
def Box (p : Nat) (k : Int) (s : ByteArray) (n : Bool) (lo hi : Int) (ts : List RT) (a : Option Addr) (cap : Nat) (w : World) : Prop := (w.cell? ⟨p, 0, none⟩ = some (.int .i64 k) ∧ w.cell? ⟨p, 1, none⟩ = some (.string s) ∧ w.cell? ⟨p, 2, none⟩ = some (.bool n) ∧ w.cell? ⟨p, 3, none⟩ = some (.int .i64 lo) ∧ w.cell? ⟨p, 4, none⟩ = some (.int .i64 hi) ∧ w.cell? ⟨p, 5, none⟩ = some (.slice a ts.length cap)) ∧ p < w.heap.size
theorem Box.step {p : Nat} {k : Int} {s : ByteArray} {n : Bool} {lo hi : Int} {ts : List RT} {a : Option Addr} {cap : Nat} {w w' : World} (h : Box p k s n lo hi ts a cap w) (hb : Below w.heap.size w w') : Box p k s n lo hi ts a cap w' := by
 obtain ⟨⟨h0, h1, h2, h3, h4, h5⟩, q⟩ := h
 have e : ∀ j, w'.cell? ⟨p, j, none⟩ = w.cell? ⟨p, j, none⟩ := fun j => hb.cell (p := ⟨p, j, none⟩) q
 exact ⟨⟨(e _).trans h0, (e _).trans h1, (e _).trans h2, (e _).trans h3, (e _).trans h4, (e _).trans h5⟩, Nat.lt_of_lt_of_le q hb.size⟩
theorem Box.drew {p : Nat} {k : Int} {s : ByteArray} {n : Bool} {lo hi : Int} {ts : List RT} {a : Option Addr} {cap : Nat} {w : World} (h : Box p k s n lo hi ts a cap w) : Box p k s n lo hi ts a cap w.drew := ⟨h.1, h.2⟩
theorem Box.start {k : Int} {s : ByteArray} {n : Bool} {lo hi : Int} {ts : List RT} {a : Option Addr} {cap : Nat} (w : World) (T : TypeId) : Box w.heap.size k s n lo hi ts a cap (w.alloc (.cells #[.int .i64 k, .string s, .bool n, .int .i64 lo, .int .i64 hi, .slice a ts.length cap] T)) := by
 refine ⟨⟨?_, ?_, ?_, ?_, ?_, ?_⟩, by simp⟩ <;> (rw [World.cell?_alloc_at _ _ _ _ rfl]; rfl)
def Two6 (p q : Nat) (k : Int) (s : ByteArray) (n : Bool) (lo hi : Int) (ts : List RT) (a : Option Addr) (cap : Nat) (a2 : Option Addr) (cap2 : Nat) (W w : World) : Prop := ((w.cell? ⟨p, 0, none⟩ = some (.int .i64 k) ∧ w.cell? ⟨p, 1, none⟩ = some (.string s) ∧ w.cell? ⟨p, 2, none⟩ = some (.bool n) ∧ w.cell? ⟨p, 3, none⟩ = some (.int .i64 lo) ∧ w.cell? ⟨p, 4, none⟩ = some (.int .i64 hi) ∧ w.cell? ⟨p, 5, none⟩ = some (.slice a ts.length cap)) ∧ (w.cell? ⟨q, 0, none⟩ = some (.int .i64 k) ∧ w.cell? ⟨q, 1, none⟩ = some (.string s) ∧ w.cell? ⟨q, 2, none⟩ = some (.bool n) ∧ w.cell? ⟨q, 3, none⟩ = some (.int .i64 lo) ∧ w.cell? ⟨q, 4, none⟩ = some (.int .i64 hi) ∧ w.cell? ⟨q, 5, none⟩ = some (.slice a2 ts.length cap2))) ∧ (p < w.heap.size ∧ q < w.heap.size) ∧ Below W.heap.size W w
theorem Two6.step {p q : Nat} {k : Int} {s : ByteArray} {n : Bool} {lo hi : Int} {ts : List RT} {a : Option Addr} {cap : Nat} {a2 : Option Addr} {cap2 : Nat} {W w w' : World} (h : Two6 p q k s n lo hi ts a cap a2 cap2 W w) (hb : Below w.heap.size w w') : Two6 p q k s n lo hi ts a cap a2 cap2 W w' :=
 ⟨⟨(Box.step ⟨h.1.1, h.2.1.1⟩ hb).1, (Box.step ⟨h.1.2, h.2.1.2⟩ hb).1⟩, ⟨Nat.lt_of_lt_of_le h.2.1.1 hb.size, Nat.lt_of_lt_of_le h.2.1.2 hb.size⟩, h.2.2.trans (hb.mono h.2.2.size)⟩
theorem Two6.start {p q : Nat} {k : Int} {s : ByteArray} {n : Bool} {lo hi : Int} {ts : List RT} {a : Option Addr} {cap : Nat} {a2 : Option Addr} {cap2 : Nat} {W : World} (h : Box p k s n lo hi ts a cap W) (h2 : Box q k s n lo hi ts a2 cap2 W) : Two6 p q k s n lo hi ts a cap a2 cap2 W W.drew :=
 ⟨⟨h.1, h2.1⟩, ⟨h.2, h2.2⟩, (Below.refl _ _).drew⟩
theorem Two6.below {p q : Nat} {k : Int} {s : ByteArray} {n : Bool} {lo hi : Int} {ts : List RT} {a : Option Addr} {cap : Nat} {a2 : Option Addr} {cap2 : Nat} {W w : World} (h : Two6 p q k s n lo hi ts a cap a2 cap2 W w) : Below W.heap.size W w := h.2.2
end Go.Proofs.YtcimhpdpfckgiaaGreatDoor.kit
