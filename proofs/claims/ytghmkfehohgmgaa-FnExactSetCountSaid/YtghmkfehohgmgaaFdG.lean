/-
  What both sides of SetField answer, in one statement; rows and boxes while one row is marked. Conditions: each theorem names its own.
-/
import Derived.Test.YtghmkfehohgmgaaFdE
namespace Go.Proofs.Ytghmkfehohgmgaa.kit
open Go.ChangeShapes Go.WideShapes Go.ChangeAt Go.RowKit
set_option linter.unusedVariables false

theorem lensF_bd (n M : Nat) (f : Nat → List UInt8) (h : ∀ j, j < n → (f j).length ≤ M) : lensF n f ≤ n * M := by
  induction n with
  | zero => simp [lensF_zero]
  | succ n ih =>
    rw [lensF_succ, Nat.add_mul, Nat.one_mul]
    have := ih (fun j hj => h j (by omega))
    have := h n (by omega)
    omega
theorem joinF_bd (N : Nat) (F : Nat → List UInt8) (o : List UInt8) (hN : N ≤ 1048640) (ho : o.length ≤ 1048576) (hF : ∀ j, j < N → (F j).length ≤ 1048576) : (joinF N F o).length ≤ 140737488355328 := by
  rw [joinF_length]
  have h1 := lensF_bd N 1048576 F hF
  have h2 := Nat.mul_le_mul ho (show N - 1 ≤ 1048640 by omega)
  omega
theorem setField_both (l : List UInt8) (n : Nat) (f : Nat → List UInt8) (i : Int) (s o : List UInt8) (hn : n ≤ 1048576) (hs : s.length ≤ 1048576) (ho : o.length ≤ 1048576) (hf : ∀ j, j < n → (f j).length ≤ 1048576) :
    ∃ (L : List UInt8) (N : Nat) (F : Nat → List UInt8) (q : Bool), N ≤ 1048640 ∧
      (∀ W a1 c1 B, Laid n c1 a1 W → SlF B W a1 n f → Calls Try.prog 26 #[recV l a1 n c1, .int .i64 i, eS s, eS o] W (RecPost L N F q W)) ∧
      (∀ W a1 c1 B, Laid n c1 a1 W → SlF B W a1 n f → Calls Try.prog 27 #[recV l a1 n c1, .int .i64 i, eS s, eS o] W (RecPostL L N F q W)) := by
  by_cases hc : 1 ≤ i ∧ i ≤ 60
  · obtain ⟨k, rfl⟩ : ∃ k : Nat, i = (k : Int) := ⟨i.toNat, by omega⟩
    obtain ⟨N, hN⟩ : ∃ N, N = max k n := ⟨_, rfl⟩
    have hj := joinF_bd N (sfF n f k s) o (by omega) ho (fun j hj => by
      unfold sfF
      split
      · exact hs
      · split
        · exact hf j (by assumption)
        · simp)
    by_cases h60 : N ≤ 60
    · have hr := recOk_made N (sfF n f k s) o h60
      by_cases hg : (joinF N (sfF n f k s) o).length ≤ 2000
      · rw [decide_eq_true hg] at hr
        exact ⟨_, N, _, true, by omega, fun W a1 c1 B h1 h2 => specSet_good B l a1 c1 n f k N s o W hn (by omega) (by omega) hN hj hr h1 h2, fun W a1 c1 B h1 h2 => implSet_good B l a1 c1 n f k N s o W (by omega) hN h60 hg h1 h2⟩
      · rw [decide_eq_false hg] at hr
        exact ⟨l, n, f, false, by omega, fun W a1 c1 B h1 h2 => specSet_bad B l a1 c1 n f k N s o W hn (by omega) (by omega) hN hj hr h1 h2, fun W a1 c1 B h1 h2 => implSet_bad B l a1 c1 n f k N s o W (by omega) hN h60 (by omega) hj h1 h2⟩
    · have hr := recOk_many (joinF N (sfF n f k s) o) N (sfF n f k s) (by omega)
      exact ⟨l, n, f, false, by omega, fun W a1 c1 B h1 h2 => specSet_bad B l a1 c1 n f k N s o W hn (by omega) (by omega) hN hj hr h1 h2, fun W a1 c1 B h1 h2 => implSet_no B l a1 c1 n f (k : Int) s o W hn (.inr (by simp; omega)) h1 h2⟩
  · exact ⟨l, n, f, false, by omega, fun W a1 c1 B h1 h2 => specSet_no B l a1 c1 n f i s o W hn hc h1 h2, fun W a1 c1 B h1 h2 => implSet_no B l a1 c1 n f i s o W hn (by omega) h1 h2⟩

/-- A row, where it is one, lies below a block. -/
def LowF (n : Nat) (a : Option Addr) (C : Nat) : Prop := 0 < n → ∃ g, a = some ⟨g, 0, none⟩ ∧ g < C
theorem SlF.lowF {B : Nat} {w : World} {a : Option Addr} {n : Nat} {f : Nat → List UInt8} (h : SlF B w a n f) : LowF n a w.heap.size := fun h0 => by
  obtain ⟨g, e, _, h2, _⟩ := h 0 h0
  exact ⟨g, e, h2⟩
theorem SlF.onlyLow {B C g : Nat} {w w' : World} {a : Option Addr} {n : Nat} {f : Nat → List UInt8} (h : SlF B w a n f) (hl : LowF n a C) (hC : C ≤ g) (hb : OnlyF g w w') : SlF B w' a n f := by
  by_cases h0 : 0 < n
  · obtain ⟨g', e, hg⟩ := hl h0
    refine h.only hb fun b e2 => ?_
    rw [e] at e2; cases e2; omega
  · intro j hj; omega
theorem SlF.onlyHigh {B g : Nat} {w w' : World} {a : Option Addr} {n : Nat} {f : Nat → List UInt8} (h : SlF B w a n f) (hC : g < B) (hb : OnlyF g w w') : SlF B w' a n f := by
  by_cases h0 : 0 < n
  · obtain ⟨g', e, h1, _⟩ := h 0 h0
    refine h.only hb fun b e2 => ?_
    rw [e] at e2; cases e2; omega
  · intro j hj; omega
theorem Wb.only {q g : Nat} {x y : Value} {w w' : World} (h : Wb q x y w) (hb : OnlyF g w w') (hq : q ≠ g) : Wb q x y w' := h.grown hb (fun e => hq (Option.some.inj e).symm)
theorem Laid.at {n c : Nat} {a : Option Addr} {w : World} (h : Laid n c a w) : ∃ g, a = some ⟨g, 0, none⟩ ∧ g < w.heap.size := h.2
/-- What lies in no block from B on and ahead of C is as it was. -/
structure Mk (B C : Nat) (w w' : World) : Prop where
  os : w'.os = w.os
  tape : w'.tape = w.tape
  output : w'.output = w.output
  size : w.heap.size ≤ w'.heap.size
  block : ∀ k, k < w.heap.size → (k < B ∨ C ≤ k) → w'.heap[k]? = w.heap[k]?
theorem Mk.ofOnly {B C g : Nat} {w w' : World} (h : OnlyF g w w') (h1 : B ≤ g) (h2 : g < C) : Mk B C w w' :=
  ⟨h.os, h.tape, h.output, h.size, fun k hk hor => h.block k hk (fun e => by have := Option.some.inj e; omega)⟩
theorem Mk.ofBelow {B C : Nat} {w w' : World} (h : Below w.heap.size w w') : Mk B C w w' := ⟨h.os, h.tape, h.output, h.size, fun k hk _ => h.block k hk⟩
theorem Mk.below {B C : Nat} {w w' : World} (h : Mk B C w w') (hB : B ≤ w.heap.size) : Below B w w' := ⟨h.os, h.tape, h.output, h.size, fun k hk => h.block k (by omega) (.inl hk)⟩
theorem Wb.mk' {B C q : Nat} {x y : Value} {w w' : World} (h : Wb q x y w) (hb : Mk B C w w') (hq : q < B ∨ C ≤ q) : Wb q x y w' := by
  have hk := hb.block q h.lt hq
  exact ⟨(World.cell?_of_block (a := ⟨q, 0, none⟩) hk).trans h.c0, (World.cell?_of_block (a := ⟨q, 1, none⟩) hk).trans h.c1, (World.frozen?_of_block (a := ⟨q, 0, none⟩) hk).trans h.f0, (World.frozen?_of_block (a := ⟨q, 1, none⟩) hk).trans h.f1, Nat.lt_of_lt_of_le h.lt hb.size⟩
theorem SlF.mkOff {B C D : Nat} {w w' : World} {a : Option Addr} {n : Nat} {f : Nat → List UInt8} (h : SlF D w a n f) (hb : Mk B C w w') (hs : (∃ E, LowF n a E ∧ E ≤ B) ∨ C ≤ D) : SlF D w' a n f := by
  intro j hj
  obtain ⟨b, e, h1, h2, h3, h4⟩ := h j hj
  have hor : b < B ∨ C ≤ b := by
    rcases hs with ⟨E, hE, hEB⟩ | hs
    · obtain ⟨g, e2, hg⟩ := hE (by omega)
      rw [e] at e2; cases e2; left; omega
    · right; omega
  have hk := hb.block b h2 hor
  exact ⟨b, e, h1, Nat.lt_of_lt_of_le h2 hb.size, (World.cell?_of_block (a := ⟨b, j, none⟩) hk).trans h3, (World.frozen?_of_block (a := ⟨b, j, none⟩) hk).trans h4⟩
theorem markRecMk_any (B C : Nat) (l : List UInt8) (a : Option Addr) (cap n : Nat) (f : Nat → List UInt8) (w : World) (hn : n ≤ 2000000) (hC : LowF n a C) (hsl : SlF B w a n f) :
    Calls Try.prog 28 #[recV l a n cap, .int .i64 1] w fun e w' => e = .returned (.int .i64 (1 + (n : Int))) ∧ SlF B w' a n (fun j => mt (1 + j)) ∧ Mk B C w w' := by
  by_cases h0 : n = 0
  · subst h0
    exact (markRec_any w.heap.size l a cap 0 1 f w (Nat.le_refl _) (by omega) (by omega) (by omega) (fun j hj => by omega)).mono fun e w' ⟨h1, h2, h3⟩ => ⟨h1, fun j hj => by omega, Mk.ofBelow h3⟩
  · obtain ⟨g, e, hg⟩ := hC (by omega)
    subst e
    obtain ⟨g', e, hB, _⟩ := hsl 0 (by omega)
    cases e
    exact (markRecOnly_any B g l cap n 1 f w hn (by omega) (by omega) hsl).mono fun e w' ⟨h1, h2, h3⟩ => ⟨h1, h2, Mk.ofOnly h3 hB hg⟩
theorem heldRec1_any (B : Nat) (l : List UInt8) (a : Option Addr) (cap n : Nat) (w : World) (hn : n ≤ 2000000) (hsl : SlF B w a n (fun j => mt (1 + j))) :
    Calls Try.prog 29 #[recV l a n cap, .int .i64 1] w fun e w' => e = .returned (.int .i64 (1 + (n : Int))) ∧ Below w.heap.size w w' :=
  heldRec_any B l a cap n 1 w hn (by omega) (by omega) hsl
end Go.Proofs.Ytghmkfehohgmgaa.kit
