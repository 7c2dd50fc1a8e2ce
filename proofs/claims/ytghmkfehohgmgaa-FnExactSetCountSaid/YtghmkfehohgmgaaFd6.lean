/-
  Contracts of impl.copyRec, spec.l07Copy, impl.joinRec, spec.l07Made over this seat's translation: a record is copied; a record that was made, where it is right, else the old one. Conditions: each theorem names its own.
-/
import Derived.Test.YtghmkfehohgmgaaFd5
import Derived.Deep.RegionHeld3
namespace Go.Proofs.Ytghmkfehohgmgaa.kit
open Go.ChangeShapes Go.WideShapes Go.ChangeAt Go.RowKit
set_option linter.unusedVariables false

/-- What a cell holds. -/
def cellOr (w : World) (b o : Nat) : Value := (w.cell? ⟨b, o, none⟩).getD undef
theorem cellOr_some {w : World} {b o : Nat} {v : Value} (h : w.cell? ⟨b, o, none⟩ = some v) : w.cell? ⟨b, o, none⟩ = some (cellOr w b o) := by simp [cellOr, h]
theorem cellOr_set {w : World} {b o : Nat} {v : Value} (h : w.cell? ⟨b, o, none⟩ = some v) (o' : Nat) (x : Value) : (w.setCell ⟨b, o', none⟩ x).cell? ⟨b, o, none⟩ = some (cellOr (w.setCell ⟨b, o', none⟩ x) b o) := by
  by_cases e : o' = o
  · subst e; exact cellOr_some (World.cell?_setCell_same w _ _ h)
  · exact cellOr_some ((World.cell?_setCell_other w _ _ _ (by intro y; injection y; omega)).trans h)
/-- A box of a record, and another one that may be written. -/
def TwoE (p q : Nat) (s : ByteArray) (a : Option Addr) (n c : Nat) (W w : World) : Prop :=
  (w.cell? ⟨p, 0, none⟩ = some (.string s) ∧ w.cell? ⟨p, 1, none⟩ = some (.slice a n c)) ∧ (w.cell? ⟨q, 0, none⟩ = some (cellOr w q 0) ∧ w.cell? ⟨q, 1, none⟩ = some (cellOr w q 1)) ∧
  (w.frozen? ⟨q, 0, none⟩ = false ∧ w.frozen? ⟨q, 1, none⟩ = false) ∧ (p < w.heap.size ∧ q < w.heap.size) ∧ Below W.heap.size W w
theorem TwoE.b {p q : Nat} {s : ByteArray} {a : Option Addr} {n c : Nat} {W w : World} (h : TwoE p q s a n c W w) : Below W.heap.size W w := h.2.2.2.2
theorem TwoE.step {p q : Nat} {s : ByteArray} {a : Option Addr} {n c : Nat} {W w w' : World} (h : TwoE p q s a n c W w) (hb : Below w.heap.size w w') : TwoE p q s a n c W w' := by
  obtain ⟨⟨x0, x1⟩, ⟨y0, y1⟩, ⟨f0, f1⟩, ⟨l0, l1⟩, b⟩ := h
  have e : ∀ j, w'.cell? ⟨p, j, none⟩ = w.cell? ⟨p, j, none⟩ := fun j => hb.cell (p := ⟨p, j, none⟩) l0
  have e2 : ∀ j, w'.cell? ⟨q, j, none⟩ = w.cell? ⟨q, j, none⟩ := fun j => hb.cell (p := ⟨q, j, none⟩) l1
  have e3 : ∀ j, w'.frozen? ⟨q, j, none⟩ = w.frozen? ⟨q, j, none⟩ := fun j => hb.frozen (p := ⟨q, j, none⟩) l1
  exact ⟨⟨(e _).trans x0, (e _).trans x1⟩, ⟨cellOr_some ((e2 _).trans y0), cellOr_some ((e2 _).trans y1)⟩, ⟨(e3 _).trans f0, (e3 _).trans f1⟩, ⟨Nat.lt_of_lt_of_le l0 hb.size, Nat.lt_of_lt_of_le l1 hb.size⟩, b.trans (hb.mono b.size)⟩
theorem TwoE.put {p q : Nat} {s : ByteArray} {a : Option Addr} {n c : Nat} {W w : World} (h : TwoE p q s a n c W w) (hpq : p ≠ q) (hq : W.heap.size ≤ q) (o : Nat) (x : Value) : TwoE p q s a n c W (w.setCell ⟨q, o, none⟩ x) := by
  obtain ⟨⟨x0, x1⟩, ⟨y0, y1⟩, ⟨f0, f1⟩, ⟨l0, l1⟩, b⟩ := h
  have e : ∀ j, (w.setCell ⟨q, o, none⟩ x).cell? ⟨p, j, none⟩ = w.cell? ⟨p, j, none⟩ := fun j => World.cell?_setCell_other w _ _ _ (by intro y; injection y; omega)
  exact ⟨⟨(e _).trans x0, (e _).trans x1⟩, ⟨cellOr_set y0 o x, cellOr_set y1 o x⟩, ⟨by rw [World.frozen?_setCell]; exact f0, by rw [World.frozen?_setCell]; exact f1⟩, ⟨by simpa using l0, by simpa using l1⟩, b.setCell (p := ⟨q, o, none⟩) hq _⟩
theorem TwoE.start {s : ByteArray} {a : Option Addr} {n c : Nat} (w : World) (T T' : TypeId) (u v : Value) : TwoE w.heap.size (w.heap.size + 1) s a n c w ((w.alloc (.cells #[.string s, .slice a n c] T)).alloc (.cells #[u, v] T')) := by
  have hw : ((w.alloc (.cells #[.string s, .slice a n c] T)).alloc (.cells #[u, v] T')).heap[w.heap.size + 1]? = some (.cells #[u, v] T') := by
    have := heap_alloc_new (w.alloc (.cells #[.string s, .slice a n c] T)) (.cells #[u, v] T')
    simpa using this
  have hw0 : ((w.alloc (.cells #[.string s, .slice a n c] T)).alloc (.cells #[u, v] T')).heap[w.heap.size]? = some (.cells #[.string s, .slice a n c] T) := by
    rw [((Below.refl (w.heap.size + 1) (w.alloc (.cells #[.string s, .slice a n c] T))).alloc (by simp) _).block w.heap.size (by omega)]
    exact heap_alloc_new w _
  refine ⟨⟨?_, ?_⟩, ⟨cellOr_some (v := u) ?_, cellOr_some (v := v) ?_⟩, ⟨?_, ?_⟩, ⟨by simp; omega, by simp⟩, (((Below.refl w.heap.size w).alloc (Nat.le_refl _) _).alloc (by simp) _)⟩
  · simp only [World.cell?, hw0]; rfl
  · simp only [World.cell?, hw0]; rfl
  · simp only [World.cell?, hw]; rfl
  · simp only [World.cell?, hw]; rfl
  · simp only [World.frozen?, hw]; rfl
  · simp only [World.frozen?, hw]; rfl
theorem TwoE.drew {p q : Nat} {s : ByteArray} {a : Option Addr} {n c : Nat} {W w : World} (h : TwoE p q s a n c W w) : TwoE p q s a n c W w.drew := h.step (Below.refl _ _).drew
/-- What two stores leave. -/
theorem two_put {w : World} {q : Nat} {u v : Value} (h0 : w.cell? ⟨q, 0, none⟩ = some u) (h1 : w.cell? ⟨q, 1, none⟩ = some v) (x y : Value) :
    ((w.setCell ⟨q, 0, none⟩ x).setCell ⟨q, 1, none⟩ y).cell? ⟨q, 0, none⟩ = some x ∧ ((w.setCell ⟨q, 0, none⟩ x).setCell ⟨q, 1, none⟩ y).cell? ⟨q, 1, none⟩ = some y := by
  have e1 : (w.setCell ⟨q, 0, none⟩ x).cell? ⟨q, 1, none⟩ = some v := (World.cell?_setCell_other w _ _ _ (by intro y; injection y; omega)).trans h1
  exact ⟨(World.cell?_setCell_other _ _ _ _ (by intro y; injection y; omega)).trans (World.cell?_setCell_same w _ _ h0), World.cell?_setCell_same _ _ _ e1⟩
set_option maxRecDepth 100000 in
set_option maxHeartbeats 1000000 in
theorem copyRec_any (B : Nat) (l : List UInt8) (a : Option Addr) (cap n : Nat) (f : Nat → List UInt8) (w : World) (hn : n ≤ 1048576) (hl : Laid n cap a w) (hsl : SlF B w a n f) :
    Calls Try.prog 44 #[recV l a n cap] w fun e w' => ∃ (a' : Option Addr) (c' : Nat), e = .returned (recV l a' n c') ∧ SlF w.heap.size w' a' n f ∧ Laid n c' a' w' ∧ Below w.heap.size w w' := by
  unfold recV eS
  have HB := Lib.hid (show ∀ o1 o2, Below w.heap.size w ((w.alloc o1).alloc o2) from fun o1 o2 => (((Below.refl w.heap.size w).alloc (Nat.le_refl _) _).alloc (by simp) _))
  have HC := Lib.hid (fun (W : World) (hb : Below w.heap.size w W) => copyFields_any B a cap n n f W hn (by omega) (hl.kept hb.size) (hsl.kept hb))
  clear hsl hl
  generalize (⟨l.toArray⟩ : ByteArray) = s
  have HT := Lib.hid (TwoE.drew (TwoE.start (s := s) (a := a) (n := n) (c := cap) w 33 33 (.string ⟨#[]⟩) (.slice none 0 0)))
  go_enter Try.func44, Try.ntmps44
  go_wp2_with fail
  go_region_held3 (fun w' => (w'.cell? ⟨w.heap.size, 0, none⟩ = some (.string s) ∧ w'.cell? ⟨w.heap.size, 1, none⟩ = some (.slice a n cap)) ∧ (w'.cell? ⟨w.heap.size + 1, 0, none⟩ = some (cellOr w' (w.heap.size + 1) 0) ∧ w'.cell? ⟨w.heap.size + 1, 1, none⟩ = some (cellOr w' (w.heap.size + 1) 1)) ∧ (w'.frozen? ⟨w.heap.size + 1, 0, none⟩ = false ∧ w'.frozen? ⟨w.heap.size + 1, 1, none⟩ = false) ∧ (w.heap.size < w'.heap.size ∧ w.heap.size + 1 < w'.heap.size) ∧ Below w.heap.size w w') (first | exact HT.out | exact TwoE.step (p := w.heap.size) (q := w.heap.size + 1) (s := s) (a := a) (n := n) (c := cap) (by assumption) (by assumption) | exact TwoE.put (TwoE.put (p := w.heap.size) (q := w.heap.size + 1) (s := s) (a := a) (n := n) (c := cap) (by assumption) (by omega) (by omega) _ _) (by omega) (by omega) _ _) (first | (go_at_call 45; refine (HC.out _ (TwoE.b (p := w.heap.size) (q := w.heap.size + 1) (s := s) (a := a) (n := n) (c := cap) (by assumption))).mono ?_; rintro e w6 ⟨a6, c6, rfl, hk6, hc6, b6⟩))
  have h6 := HT.out.step b6
  obtain ⟨hx, ⟨y0, y1⟩, hf, ⟨hl0, hl1⟩, hb⟩ := h6
  obtain ⟨z0, z1⟩ := two_put y0 y1 (.string s) (.slice a6 n c6)
  have HF := Lib.hid (show SlF w.heap.size ((w6.setCell ⟨w.heap.size + 1, 0, none⟩ (.string s)).setCell ⟨w.heap.size + 1, 1, none⟩ (.slice a6 n c6)) a6 n f from
    (((hk6.congr (fun j hj => by simp [hj])).set (w.heap.size + 1) 0 (by simp) _).set (w.heap.size + 1) 1 (by simp) _).mono (by simp; omega))
  have HL := Lib.hid (hc6.kept (w' := (w6.setCell ⟨w.heap.size + 1, 0, none⟩ (.string s)).setCell ⟨w.heap.size + 1, 1, none⟩ (.slice a6 n c6)) (by simp))
  have HW := Lib.hid ((hb.setCell (p := ⟨w.heap.size + 1, 0, none⟩) (by simp) (.string s)).setCell (p := ⟨w.heap.size + 1, 1, none⟩) (by simp) (.slice a6 n c6))
  generalize (w6.setCell ⟨w.heap.size + 1, 0, none⟩ (.string s)).setCell ⟨w.heap.size + 1, 1, none⟩ (.slice a6 n c6) = W at *
  clear hx y0 y1 hf hl0 hl1 hb hk6 hc6 b6
  go_wp2_with fail
  exact bodyPost_ret (v := .agg #[.string s, .slice a6 n c6]) (by simp [results, Try.results44, go_sem, z0, z1]) rfl ⟨a6, c6, rfl, HF.out, HL.out, HW.out⟩
end Go.Proofs.Ytghmkfehohgmgaa.kit
