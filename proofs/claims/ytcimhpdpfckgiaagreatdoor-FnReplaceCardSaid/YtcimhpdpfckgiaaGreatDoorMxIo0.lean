/-
  A loop over an iterator that itself loops over another iterator: what both sides promise one another, and the law of the loop's statement. No conditions of its own.
-/
import Derived.RangeFuncWrites
import Derived.RangeFuncNested
import Derived.RangeFuncBound
import Derived.RangeFuncCalls
import Derived.RangeFuncLeaves
set_option linter.unusedVariables false
namespace Go.Proofs.YtcimhpdpfckgiaaGreatDoor.kit
open Go.RowKit
structure Turns (B m : Nat) (A A' : World) : Prop where
 os : A'.os = A.os
 tape : A'.tape = A.tape
 output : A'.output = A.output
 size : A.heap.size ≤ A'.heap.size
 block : ∀ k o, A.heap[k]? = some o → (k < B ∨ (m ≤ k ∧ o.isCells = true)) → A'.heap[k]? = some o
theorem Turns.refl (B m : Nat) (A : World) : Turns B m A A := ⟨rfl, rfl, rfl, Nat.le_refl _, fun _ _ h _ => h⟩
theorem Turns.mono {B B' m m' : Nat} {A A' : World} (h : Turns B' m' A A') (hB : B ≤ B') (hm : m' ≤ m) : Turns B m A A' :=
 ⟨h.os, h.tape, h.output, h.size, fun k o hk hb => h.block k o hk (by rcases hb with hb | ⟨hb, hc⟩; exact .inl (by omega); exact .inr ⟨by omega, hc⟩)⟩
theorem Turns.of_below {B m n : Nat} {A A' : World} (h : Below n A A') (hn : A.heap.size ≤ n) : Turns B m A A' :=
 ⟨h.os, h.tape, h.output, h.size, fun k o hk _ => (h.block k (Nat.lt_of_lt_of_le (Array.getElem?_eq_some_iff.1 hk).1 hn)).trans hk⟩
theorem Turns.of_grown {B m : Nat} {A A' : World} {row : Option Nat} (h : A.grownBy A' row) (hr : ∀ r, row = some r → B ≤ r ∧ ∃ o : Obj, A.heap[r]? = some o ∧ o.isCells = false) : Turns B m A A' :=
 ⟨h.os, h.tape, h.output, h.size, fun k o hk hb => (h.block k (Array.getElem?_eq_some_iff.1 hk).1 (fun e => by
   obtain ⟨h1, o', h2, h3⟩ := hr k e.symm
   rcases hb with hb | ⟨_, hc⟩
   · omega
   · rw [hk] at h2; cases h2; rw [h3] at hc; cases hc)).trans hk⟩
theorem Turns.putObj {B m l : Nat} (A : World) (o : Obj) (h1 : B ≤ l) (h2 : l < m) : Turns B m A (A.putObj l o) :=
 ⟨rfl, rfl, rfl, by simp, fun k o' hk hb => (World.putObj_heap_other (by rcases hb with hb | ⟨hb, _⟩ <;> omega)).trans hk⟩
theorem Turns.putOther {B m l : Nat} {A : World} {o : Obj} (o' : Obj) (h1 : B ≤ l) (h2 : A.heap[l]? = some o) (h3 : o.isCells = false) : Turns B m A (A.putObj l o') :=
 ⟨rfl, rfl, rfl, by simp, fun k u hk hb => (World.putObj_heap_other (by
   rintro rfl
   rcases hb with hb | ⟨_, hc⟩
   · omega
   · rw [hk] at h2; cases h2; rw [h3] at hc; cases hc)).trans hk⟩
theorem Turns.alloc {B m : Nat} (A : World) (o : Obj) : Turns B m A (A.alloc o) :=
 Turns.of_below ((Below.refl _ A).alloc (Nat.le_refl _) o) (Nat.le_refl _)
theorem Turns.drew {B m : Nat} (A : World) : Turns B m A A.drew := ⟨rfl, rfl, rfl, Nat.le_refl _, fun _ _ h _ => h⟩
theorem Turns.setCell {B m b j : Nat} (A : World) (v : Value) (h1 : B ≤ b) (h2 : b < m) : Turns B m A (A.setCell ⟨b, j, none⟩ v) :=
 ⟨rfl, rfl, rfl, by simp, fun k o hk hb => (Below.heap_setCell _ _ _ _ (by show k ≠ b; rcases hb with hb | ⟨hb, _⟩ <;> omega)).trans hk⟩
theorem Turns.low {B m k : Nat} {A A' : World} (h : Turns B m A A') (hk : k < B) (hz : k < A.heap.size) : A'.heap[k]? = A.heap[k]? := by
 have e : A.heap[k]? = some A.heap[k] := Array.getElem?_eq_getElem hz
 exact (h.block k _ e (.inl hk)).trans e.symm
structure Leaves (B m : Nat) (A A' : World) : Prop where
 others : KeepsFrom B A A'
 block : ∀ k, B ≤ k → k < m → A'.heap[k]? = A.heap[k]?
theorem Leaves.refl (B m : Nat) (A : World) : Leaves B m A A := ⟨KeepsFrom.refl _ _, fun _ _ _ => rfl⟩
theorem Leaves.trans {B m : Nat} {X Y Z : World} (h : Leaves B m X Y) (k : Leaves B m Y Z) : Leaves B m X Z :=
 ⟨h.others.trans k.others, fun i h1 h2 => (k.block i h1 h2).trans (h.block i h1 h2)⟩
theorem KeepsFrom.up {B B' : Nat} {A A' : World} (h : KeepsFrom B A A') (hB : B ≤ B') : KeepsFrom B' A A' := ⟨h.size, fun k o hk h1 h2 => h.same k o (Nat.le_trans hB hk) h1 h2⟩
theorem Leaves.up {B B' m m' : Nat} {A A' : World} (h : Leaves B m A A') (hB : B ≤ B') (hm : m' ≤ m) : Leaves B' m' A A' := ⟨KeepsFrom.up h.others hB, fun k h1 h2 => h.block k (by omega) (by omega)⟩
theorem KeepsFrom.putLow {B l : Nat} (A : World) (o : Obj) (h : l < B) : KeepsFrom B A (A.putObj l o) := ⟨by simp, fun k o' hk h1 _ => (World.putObj_heap_other (by omega)).trans h1⟩
theorem Leaves.putLow {B m l : Nat} (A : World) (o : Obj) (h : l < B) : Leaves B m A (A.putObj l o) := ⟨KeepsFrom.putLow A o h, fun k h1 _ => World.putObj_heap_other (by omega)⟩
variable {F : Fence} {n : Nat} {P : Program}
def SeqO {α : Type} (F : Fence) (n : Nat) (P : Program) (g : Nat) (lb : Array Value) (encs : α → Array Value) (Kw : World → World → Prop) (S Sp : List α → Prop) (Nx : List α → α → Prop) (w : World) : Prop :=
 ∀ (l : Nat) (J Jx : Nat → List α → World → Prop) (W : World), Below w.heap.size w W →
   (∀ m s A A', W.heap.size ≤ m → J m s A → Turns W.heap.size m A A' → J m s A') →
   (∀ m s A A', W.heap.size ≤ m → Jx m s A → Turns W.heap.size m A A' → Jx m s A') →
   (∀ m pre x W1, W.heap.size ≤ m → m ≤ W1.heap.size → J m pre W1 → Nx pre x → YieldAt F (n - 1) P l (encs x) W1 fun e W' =>
     Leaves W.heap.size m W1 W' ∧ ((e = .returned (.bool true) ∧ J m (pre ++ [x]) W' ∧ Kw W1 W') ∨ (e = .returned (.bool false) ∧ Jx m (pre ++ [x]) W'))) →
   (∀ m, W.heap.size ≤ m → J m [] W) →
   CallsIn F n P g (#[.func (.yield l) #[] #[]] ++ lb) W fun e W' => (∃ v, e = .returned v) ∧ ∃ m, W.heap.size ≤ m ∧ m ≤ W'.heap.size ∧ ((∃ xs, S xs ∧ J m xs W') ∨ (∃ pre, Sp pre ∧ Jx m pre W'))
def postO {α : Type} (B m : Nat) (Kw : World → World → Prop) (I : Nat → List α → World → Prop) (Ix : Nat → Code → List α → World → Prop) (xs : List α) (W : World) : Exit → Act → World → Prop
 | .normal, _, W' => KeepsFrom B W W' ∧ Leaves (B + 2) m W W' ∧ I m xs W' ∧ Kw W W'
 | .ret, _, W' => KeepsFrom B W W' ∧ Leaves (B + 2) m W W' ∧ Ix m .ret xs W'
 | .exit id, _, W' => KeepsFrom B W W' ∧ Leaves (B + 2) m W W' ∧ Ix m (.exit id) xs W'
 | .goto t, _, W' => KeepsFrom B W W' ∧ Leaves (B + 2) m W W' ∧ Ix m (.goto t) xs W'
 | .panic _, _, _ => False
 | .outgrown, _, _ => False
theorem roundIn_wide {n n' : Nat} {l : Nat} {f : FuncId} {tmps : Array Value} {assign body : Code} {w : World} {R : Ending → World → Prop} (h : RoundIn Fence.wide n P l f tmps assign body w R) (l' : Nat) : RoundIn (Fence.wide.inRound l') n' P l f tmps assign body w R :=
 ⟨trivial, fun c cs _ => h.2 c cs (fun d hd => by cases hd)⟩
theorem wpIn_rangeO {α : Type} {g : Operand} {ps : Array Tmp} {assign body : Code} {Q : Exit → Act → World → Prop} {a : Act} {w : World}
 (hro : F.round = none) (h1 : 1 ≤ n) {gf : Nat} {lb : Array Value} (hg : a.eval g = .func (.func gf) #[] lb) (hFg : F.fn gf) (eg : ∀ args w, (callFunc gf args).run P w = .ok (.enter gf args) w)
 {encs : α → Array Value} {Kw : World → World → Prop} {S Sp : List α → Prop} {Nx : List α → α → Prop} {w0 : World} (hseq : SeqO F (n - 1) P gf lb encs Kw S Sp Nx w0)
 (hKt : ∀ {A B C : World}, Kw A B → Kw B C → Kw A C) (hKb : ∀ (W : World) (o' : Obj), Kw W (W.putObj (w.heap.size + 1) o')) (hb0 : Below w0.heap.size w0 w) (hps : ∀ x, (encs x).size = ps.size)
 (I : Nat → List α → World → Prop) (Ix : Nat → Code → List α → World → Prop)
 (hI : ∀ m s A A', w.heap.size + 2 ≤ m → I m s A → Turns w.heap.size m A A' → I m s A')
 (hIx : ∀ m c s A A', w.heap.size + 2 ≤ m → Ix m c s A → Turns w.heap.size m A A' → Ix m c s A')
 (h0 : ∀ m W, w.heap.size + 2 ≤ m → Below w.heap.size w W → I m [] W) (a₁ : α → Act)
 (hassign : ∀ (l : Nat) (x : α) (W : World) (K : Act → World → Prop), K (a₁ x) W →
   assign.wpIn (F.inRound l) (n - 1 - 1) P (Exit.then K (fun _ _ _ => False)) { tmps := (ps.zip (encs x)).foldl (fun t (p, v) => t.setIfInBounds p v) a.tmps, defers := [] } W)
 (hbody : ∀ (l m : Nat) (pre : List α) (x : α) (W : World), w.heap.size + 2 ≤ m → m ≤ W.heap.size → I m pre W → Nx pre x → body.wpIn (F.inRound l) (n - 1 - 1) P (postO w.heap.size m Kw I Ix (pre ++ [x]) W) (a₁ x) W)
 (hdone : ∀ (D m : Nat) (xs : List α) (W : World), w.heap.size + 2 ≤ m → m ≤ W.heap.size → w.heap.size ≤ D → D < m → S xs → I m xs W → W.heap[D]? = some (.deferred (some [])) → Q .normal { a with defers := { target := .collected D, args := #[] } :: a.defers } W)
 (hstop : ∀ (D m : Nat) (c : Code) (pre : List α) (W : World), w.heap.size + 2 ≤ m → m ≤ W.heap.size → w.heap.size ≤ D → D < m → Sp pre → Ix m c pre W → W.heap[D]? = some (.deferred (some [])) → c.wpIn F n P Q { a with defers := { target := .collected D, args := #[] } :: a.defers } W) :
 (Code.rangeFunc g ps assign body).wpIn F n P Q a w := by
 refine wpIn_rangeFunc (fun fn hfn => ?_)
 rw [hro]
 obtain ⟨B, hB⟩ : ∃ B, B = w.heap.size := ⟨_, rfl⟩
 obtain ⟨rec, hrec⟩ : ∃ rec : LoopState → Option Code → Loop, rec = fun st pe => { state := st, pending := pe, fn, tmps := a.tmps, params := ps, assign, body, defers := B } := ⟨_, rfl⟩
 obtain ⟨W1, hW1⟩ : ∃ W1, W1 = (w.alloc (.deferred (some []))).alloc (.loop (rec .ready none)) := ⟨_, rfl⟩
 have hz : W1.heap.size = B + 2 := by rw [hW1, hB]; simp
 have hL : W1.heap[B + 1]? = some (.loop (rec .ready none)) := by
  have h := World.alloc_heap_new (w.alloc (.deferred (some []))) (.loop (rec .ready none))
  rw [World.size_alloc] at h
  rw [hW1, hB]; exact h
 have hD : W1.heap[B]? = some (.deferred (some [])) := by
  rw [hW1, hB]; exact (Below.heap_alloc _ _ _ (by simp)).trans (World.alloc_heap_new w _)
 have hwW : Below w.heap.size w W1 := by rw [hW1]; exact ((Below.refl _ w).alloc (Nat.le_refl _) _).alloc (by simp) _
 rw [← hB] at hI hIx hbody hdone hstop
 rw [← hB] at hKb
 refine ⟨B + 1, [{ target := .collected B, args := #[] }], W1, { target := .fn (.func gf) lb, args := #[.func (.yield (B + 1)) #[] #[]] }, W1, gf, #[.func (.yield (B + 1)) #[] #[]] ++ lb, W1, ?_, ?_, ?_, ?_, fun _ => h1, ?_⟩
 · have h := run_enterLoop_outer (P := P) (w := w) fn a.tmps ps assign body
   rw [hW1, hrec, hB]; exact h
 · simp only [resolve, hg]
   simp [go_sem]
 · intro f' hf'; simp [Target.leads] at hf'; subst hf'; exact hFg
 · simp [invoke, go_sem, eg]
 -- the loop's record and the block for deferred calls lie ahead of the iterator's blocks
 have hkeep : ∀ {m : Nat} {A A' : World} {k : Nat} {o : Obj}, k < B + 2 → Turns W1.heap.size m A A' → A.heap[k]? = some o → A'.heap[k]? = some o := fun hk ht ho =>
  ht.block _ _ ho (.inl (by omega))
 refine (hseq (B + 1)
  (fun m pre W => I m pre W ∧ W.heap[B + 1]? = some (.loop (rec .ready none)) ∧ W.heap[B]? = some (.deferred (some [])))
  (fun m pre W => ∃ c, Ix m c pre W ∧ W.heap[B + 1]? = some (.loop (rec .done (some c))) ∧ W.heap[B]? = some (.deferred (some [])))
  W1 (hb0.trans (hwW.mono hb0.size)) ?abides ?abidesx ?round (fun m hm => ⟨h0 m W1 (by omega) hwW, hL, hD⟩)).mono ?behind
 case abides =>
  rintro m s A A' hm ⟨hi, hl, hd⟩ ht
  exact ⟨hI m s A A' (by omega) hi (ht.mono (by omega) (Nat.le_refl _)), hkeep (by omega) ht hl, hkeep (by omega) ht hd⟩
 case abidesx =>
  rintro m s A A' hm ⟨c, hi, hl, hd⟩ ht
  exact ⟨c, hIx m c s A A' (by omega) hi (ht.mono (by omega) (Nat.le_refl _)), hkeep (by omega) ht hl, hkeep (by omega) ht hd⟩
 case round =>
  rintro m pre x W hm hmW ⟨hi, hl, hd⟩ hlen
  rw [hz] at hm
  have hy := run_yield (P := P) (args := encs x) hl (by rw [hrec]; exact hps x)
  rw [hrec] at hy
  refine ⟨fn, _, assign, body, hy, roundIn_of_wpIn hfn (hassign _ x W _ ⟨_, run_beginRound hl (by rw [hrec]), ?_⟩)⟩
  obtain ⟨W2, hW2⟩ : ∃ W2, W2 = W.putObj (B + 1) (.loop { rec .ready none with state := .busy }) := ⟨_, rfl⟩
  rw [← hW2]
  have hl2 : W2.heap[B + 1]? = some (.loop { rec .ready none with state := .busy }) := by rw [hW2]; exact World.putObj_heap_same (by omega)
  have hd2 : W2.heap[B]? = some (.deferred (some [])) := by rw [hW2]; exact (World.putObj_heap_other (by omega)).trans hd
  have hk2 : Kw W W2 := by rw [hW2]; exact hKb _ _
  have hv2 : Leaves (B + 2) m W W2 := by rw [hW2]; exact Leaves.putLow _ _ (by omega)
  have hz2 : m ≤ W2.heap.size := by rw [hW2]; simpa using hmW
  have hi2 : I m pre W2 := hI m pre W W2 hm hi (by rw [hW2]; exact Turns.putObj _ _ (by omega) (by omega))
  refine wpIn_mono (hbody _ m pre x W2 hm hz2 hi2 hlen) ?_
  have fin : ∀ (jump : Option Code) (W3 : World), KeepsFrom B W2 W3 →
        (Instr.endRound (B + 1) jump).run P W3 = .ok (.bool jump.isNone) (W3.putObj (B + 1) (.loop (rec (if jump.isNone then .ready else .done) jump))) ∧ m ≤ W3.heap.size ∧
        (W3.putObj (B + 1) (.loop (rec (if jump.isNone then .ready else .done) jump))).heap[B + 1]? = some (.loop (rec (if jump.isNone then .ready else .done) jump)) ∧
        (W3.putObj (B + 1) (.loop (rec (if jump.isNone then .ready else .done) jump))).heap[B]? = some (.deferred (some [])) := fun jump W3 hk3 => by
   have hl3 := hk3.same _ _ (by omega) hl2 rfl
   have h := run_endRound (P := P) jump hl3
   rw [hrec] at h ⊢
   exact ⟨h, Nat.le_trans hz2 hk3.size, World.putObj_heap_same (Array.getElem?_eq_some_iff.1 hl3).1, (World.putObj_heap_other (by omega)).trans (hk3.same _ _ (Nat.le_refl _) hd2 rfl)⟩
  have turn : ∀ (W3 : World) (o : Obj), Turns B m W3 (W3.putObj (B + 1) o) := fun W3 o => Turns.putObj _ _ (by omega) (by omega)
  have leave : ∀ (W3 : World) (o : Obj), Leaves (B + 2) m W2 W3 → Leaves W1.heap.size m W (W3.putObj (B + 1) o) := fun W3 o h => by
   rw [hz]; exact (hv2.trans h).trans (Leaves.putLow _ _ (by omega))
  rintro e a3 W3 hp
  cases e with
  | normal =>
    obtain ⟨hf, hv, hi3, hk3⟩ := hp
    obtain ⟨hr, hm3, hl4, hd4⟩ := fin none W3 hf
    exact ⟨_, _, hr, leave _ _ hv, .inl ⟨rfl, ⟨hI m _ _ _ hm hi3 (turn _ _), hl4, hd4⟩, hKt (hKt hk2 hk3) (hKb _ _)⟩⟩
  | ret =>
    obtain ⟨hf, hv, hi3⟩ := hp
    obtain ⟨hr, hm3, hl4, hd4⟩ := fin (some .ret) W3 hf
    exact ⟨_, _, hr, leave _ _ hv, .inr ⟨rfl, .ret, hIx m _ _ _ _ hm hi3 (turn _ _), hl4, hd4⟩⟩
  | exit id =>
    obtain ⟨hf, hv, hi3⟩ := hp
    obtain ⟨hr, hm3, hl4, hd4⟩ := fin (some (.exit id)) W3 hf
    exact ⟨_, _, hr, leave _ _ hv, .inr ⟨rfl, .exit id, hIx m _ _ _ _ hm hi3 (turn _ _), hl4, hd4⟩⟩
  | goto t =>
    obtain ⟨hf, hv, hi3⟩ := hp
    obtain ⟨hr, hm3, hl4, hd4⟩ := fin (some (.goto t)) W3 hf
    exact ⟨_, _, hr, leave _ _ hv, .inr ⟨rfl, .goto t, hIx m _ _ _ _ hm hi3 (turn _ _), hl4, hd4⟩⟩
  | panic ch => exact hp.elim
  | outgrown => exact hp.elim
 case behind =>
  rintro e W2 ⟨⟨v, rfl⟩, m, hm, hm2, (⟨xs, hS, hi, hl, hd⟩ | ⟨pre, hSp, c, hi, hl, hd⟩)⟩
  · rw [hz] at hm
    have hr := run_endLoop (P := P) hl (by rw [hrec]; simp)
    rw [hrec] at hr
    exact ⟨none, _, hr, hdone B m xs _ hm (by simpa using hm2) (Nat.le_refl _) (by omega) hS (hI m _ _ _ hm hi (Turns.putObj _ _ (by omega) (by omega))) ((World.putObj_heap_other (by omega)).trans hd)⟩
  · rw [hz] at hm
    have hr := run_endLoop (P := P) hl (by rw [hrec]; simp)
    rw [hrec] at hr
    exact ⟨some c, _, hr, hstop B m c pre _ hm (by simpa using hm2) (Nat.le_refl _) (by omega) hSp (hIx m _ _ _ _ hm hi (Turns.putObj _ _ (by omega) (by omega))) ((World.putObj_heap_other (by omega)).trans hd)⟩
end Go.Proofs.YtcimhpdpfckgiaaGreatDoor.kit
