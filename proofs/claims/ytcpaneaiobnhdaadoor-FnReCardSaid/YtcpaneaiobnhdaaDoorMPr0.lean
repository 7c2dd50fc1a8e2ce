/-
 Plain facts on reading expressions for texts, of no program: one reader of a text's bytes, whose answers are trees; how far it goes; sets of bytes, added to one by one. Conditions: each theorem names its own.
-/
import Derived.Test.YtcpaneaiobnhdaaDoorMKit
import Derived.Test.YtcpaneaiobnhdaaDoorMRn2
import Derived.Test.YtcpaneaiobnhdaaDoorMQb
namespace Go.Proofs.YtcpaneaiobnhdaaDoor.kit
open Go.ChangeShapes Go.WideShapes Go.ChangeAt Go.RowKit
set_option linter.unusedVariables false

namespace PR
/-- A tree of a kind alone. -/
def leaf (k : Int) : RT := .node k ⟨#[]⟩ false 0 0 []
def oneT (c : UInt8) : RT := .node 2 ⟨#[c]⟩ false 0 0 []
def manyT (t : RT) (lo hi : Int) : RT := .node 5 ⟨#[]⟩ false lo hi [t]
def pairT (k : Int) (a b : RT) : RT := .node k ⟨#[]⟩ false 0 0 [a, b]
/-- What is behind one another, as a tree. -/
def chain (k : Int) : RT → List RT → RT
 | t, [] => t
 | t, u :: us => pairT k t (chain k u us)
def alT : List RT → RT | [] => leaf 0 | t :: ts => chain 4 t ts
def caT : List RT → RT | [] => leaf 0 | t :: ts => chain 3 t ts
/-- The bytes of which f holds, ascending. -/
def mem (f : Nat → Bool) : List UInt8 := ((List.range 256).filter f).map fun n => UInt8.ofNat n
def span (f : Nat → Bool) (a b : Nat) : Nat → Bool := fun n => f n || (decide (a ≤ n) && decide (n ≤ b))
/-- The bytes of a set from place i on: which ones, and the place behind its ]. -/
def setR (s : ByteArray) : Nat → Nat → Bool → (Nat → Bool) → Option ((Nat → Bool) × Nat)
 | 0, _, _, _ => none
 | f + 1, i, first, m =>
  if i < s.size then
   if atB s i 93 && !first then some (m, i + 1)
   else if i + 2 < s.size ∧ atB s (i + 1) 45 = true ∧ atB s (i + 2) 93 = false then
    if (at_ s (i + 2)).toNat < (at_ s i).toNat then none else setR s f (i + 3) false (span m (at_ s i).toNat (at_ s (i + 2)).toNat)
   else setR s f (i + 1) false (span m (at_ s i).toNat (at_ s i).toNat)
  else none
def setT (s : ByteArray) (i : Nat) : Option (RT × Nat) :=
 (setR s (s.size + 1) (if atB s i 94 then i + 1 else i) true (fun _ => false)).map fun x => (.node 2 ⟨(mem x.1).toArray⟩ (atB s i 94) 0 0 [], x.2)
def digAt (s : ByteArray) (i : Nat) : Option Int := if i < s.size ∧ 48 ≤ (at_ s i).toNat ∧ (at_ s i).toNat ≤ 57 then some ((at_ s i).toNat - 48 : Int) else none
/-- What tells how often: behind { at place i. -/
def braces (s : ByteArray) (i : Nat) : Option (Int × Int × Nat) :=
 match digAt s i with
 | none => none
 | some lo =>
  if atB s (i + 1) 44 then
   match digAt s (i + 2) with
   | some hi => if atB s (i + 3) 125 then some (lo, hi, i + 4) else none
   | none => if atB s (i + 2) 125 then some (lo, -1, i + 3) else none
  else if atB s (i + 1) 125 then some (lo, lo, i + 2) else none
def times (s : ByteArray) (t : RT) (i : Nat) : Option (RT × Nat) :=
 if atB s i 42 then some (manyT t 0 (-1), i + 1)
 else if atB s i 43 then some (manyT t 1 (-1), i + 1)
 else if atB s i 63 then some (manyT t 0 1, i + 1)
 else if atB s i 123 then (braces s (i + 1)).map fun x => (manyT t x.1 x.2.1, x.2.2)
 else some (t, i)
/-- Whether a part ends at a place. -/
def ends (s : ByteArray) (i : Nat) : Bool := decide (s.size ≤ i) || atB s i 124 || atB s i 41
def escT (s : ByteArray) (i : Nat) : Option (RT × Nat) := if i < s.size then some (oneT (at_ s i), i + 1) else none
mutual
/-- The parts between | from place i on; d brackets more may be opened. -/
def alts (s : ByteArray) : Nat → Nat → Nat → Option (List RT × Nat)
 | 0, _, _ => none
 | f + 1, d, i => match cats s f d i with
  | none => none
  | some x => if atB s x.2 124 then (match alts s f d (x.2 + 1) with | none => none | some y => some (caT x.1 :: y.1, y.2)) else some ([caT x.1], x.2)
def cats (s : ByteArray) : Nat → Nat → Nat → Option (List RT × Nat)
 | 0, _, _ => none
 | f + 1, d, i => if ends s i then some ([], i) else match item s f d i with
  | none => none
  | some x => match times s x.1 x.2 with
   | none => none
   | some y => match cats s f d y.2 with
    | none => none
    | some z => some (y.1 :: z.1, z.2)
def item (s : ByteArray) : Nat → Nat → Nat → Option (RT × Nat)
 | 0, _, _ => none
 | f + 1, d, i =>
  if atB s i 46 then some (leaf 1, i + 1)
  else if atB s i 94 then some (leaf 6, i + 1)
  else if atB s i 36 then some (leaf 7, i + 1)
  else if atB s i 91 then setT s (i + 1)
  else if atB s i 42 || atB s i 43 || atB s i 63 || atB s i 123 then none
  else if atB s i 40 then (if d = 0 then none else match alts s f (d - 1) (i + 1) with
    | none => none
    | some x => if atB s x.2 41 then some (alT x.1, x.2 + 1) else none)
  else if atB s i 92 then escT s (i + 1)
  else some (oneT (at_ s i), i + 1)
end
theorem atB_lt {s : ByteArray} {i : Nat} {c : UInt8} (h : atB s i c = true) : i < s.size := by
 unfold atB at h; split at h
 ·assumption
 ·cases h
theorem setR_adv (s : ByteArray) : ∀ (f i : Nat) (b : Bool) (m : Nat → Bool) (x : (Nat → Bool) × Nat), setR s f i b m = some x → i < x.2 ∧ x.2 ≤ s.size := by
 intro f
 induction f with
 | zero => intro i b m x h; cases h
 | succ f ih =>
  intro i b m x h
  rw [setR] at h
  split at h
  ·split at h
   ·cases h; exact ⟨Nat.lt_succ_self _, by assumption⟩
   ·split at h
    ·split at h
     ·cases h
     ·have := ih _ _ _ _ h; omega
    ·have := ih _ _ _ _ h; omega
  ·cases h
theorem setT_adv {s : ByteArray} {i : Nat} {x : RT × Nat} (h : setT s i = some x) : i < x.2 ∧ x.2 ≤ s.size := by
 unfold setT at h
 rw [Option.map_eq_some_iff] at h
 obtain ⟨y, h1, rfl⟩ := h
 have := setR_adv s _ _ _ _ _ h1
 dsimp only; split at this <;> omega
theorem digAt_lt {s : ByteArray} {i : Nat} {x : Int} (h : digAt s i = some x) : i < s.size := by
 unfold digAt at h; split at h
 ·rename_i g; exact g.1
 ·cases h
theorem braces_adv {s : ByteArray} {i : Nat} {x : Int × Int × Nat} (h : braces s i = some x) : i < x.2.2 ∧ x.2.2 ≤ s.size := by
 unfold braces at h
 split at h
 ·cases h
 ·split at h
  ·split at h
   ·split at h
    ·rename_i g; cases h; have := atB_lt g; dsimp only; omega
    ·cases h
   ·split at h
    ·rename_i g; cases h; have := atB_lt g; dsimp only; omega
    ·cases h
  ·split at h
   ·rename_i g; cases h; have := atB_lt g; dsimp only; omega
   ·cases h
theorem times_adv {s : ByteArray} {t : RT} {i : Nat} {x : RT × Nat} (hi : i ≤ s.size) (h : times s t i = some x) : i ≤ x.2 ∧ x.2 ≤ s.size := by
 unfold times at h
 split at h
 ·rename_i g; cases h; have := atB_lt g; dsimp only; omega
 ·split at h
  ·rename_i g; cases h; have := atB_lt g; dsimp only; omega
  ·split at h
   ·rename_i g; cases h; have := atB_lt g; dsimp only; omega
   ·split at h
    ·rw [Option.map_eq_some_iff] at h
     obtain ⟨y, h1, rfl⟩ := h
     have := braces_adv h1; dsimp only; omega
    ·cases h; exact ⟨Nat.le_refl _, hi⟩
theorem adv (s : ByteArray) : ∀ (f : Nat), (∀ d i x, i ≤ s.size → alts s f d i = some x → i ≤ x.2 ∧ x.2 ≤ s.size) ∧ (∀ d i x, i ≤ s.size → cats s f d i = some x → i ≤ x.2 ∧ x.2 ≤ s.size) ∧ (∀ d i x, i < s.size → item s f d i = some x → i < x.2 ∧ x.2 ≤ s.size) := by
 intro f
 induction f with
 | zero => exact ⟨fun d i x _ h => by simp [alts] at h, fun d i x _ h => by simp [cats] at h, fun d i x _ h => by simp [item] at h⟩
 | succ f ih =>
  obtain ⟨ia, ic, ii⟩ := ih
  refine ⟨fun d i x hi h => ?_, fun d i x hi h => ?_, fun d i x hi h => ?_⟩
  ·rw [alts] at h
   split at h
   ·cases h
   ·rename_i y hy
    have g := ic _ _ _ hi hy
    split at h
    ·rename_i hb
     have := atB_lt hb
     split at h
     ·cases h
     ·rename_i z hz; cases h
      have := ia _ _ _ (by omega) hz
      dsimp only; omega
    ·cases h; exact g
  ·rw [cats] at h
   split at h
   ·cases h; exact ⟨Nat.le_refl _, hi⟩
   ·rename_i he
    have hlt : i < s.size := by
     have he : ends s i = false := by simpa using he
     unfold ends at he
     simp at he; omega
    split at h
    ·cases h
    ·rename_i y hy
     have g := ii _ _ _ hlt hy
     split at h
     ·cases h
     ·rename_i z hz
      have g2 := times_adv g.2 hz
      split at h
      ·cases h
      ·rename_i v hv; cases h
       have := ic _ _ _ g2.2 hv
       dsimp only; omega
  ·rw [item] at h
   split at h
   ·cases h; exact ⟨Nat.lt_succ_self _, hi⟩
   ·split at h
    ·cases h; exact ⟨Nat.lt_succ_self _, hi⟩
    ·split at h
     ·cases h; exact ⟨Nat.lt_succ_self _, hi⟩
     ·split at h
      ·have := setT_adv h; omega
      ·split at h
       ·cases h
       ·split at h
        ·split at h
         ·cases h
         ·split at h
          ·cases h
          ·rename_i y hy
           have := ia _ _ _ (by omega) hy
           split at h
           ·rename_i hb; cases h; have := atB_lt hb; dsimp only; omega
           ·cases h
        ·split at h
         ·unfold escT at h; split at h
          ·cases h; dsimp only; omega
          ·cases h
         ·cases h; exact ⟨Nat.lt_succ_self _, hi⟩

/-! Sets of bytes -/
theorem mem_none : mem (fun _ => false) = [] := by
 unfold mem; rw [List.filter_eq_nil_iff.2 (by simp)]; rfl
theorem mem_congr {f g : Nat → Bool} (h : ∀ n, n < 256 → f n = g n) : mem f = mem g := by
 unfold mem; congr 1
 exact List.filter_congr fun n hn => h n (by simpa using hn)
/-- Ascending numbers with one more. -/
def ins (b : Nat) : List Nat → List Nat
 | [] => [b]
 | x :: l => if x = b then x :: l else if b < x then b :: x :: l else x :: ins b l
theorem ins_filter (b : Nat) (f : Nat → Bool) : ∀ (n a : Nat), a ≤ b → b < a + n → ins b ((List.range' a n).filter f) = (List.range' a n).filter (fun x => f x || decide (x = b)) := by
 intro n
 induction n with
 | zero => intro a h1 h2; omega
 | succ n ih =>
  intro a h1 h2
  rw [List.range'_succ, List.filter_cons, List.filter_cons]
  by_cases e : a = b
  ·subst e
   have hrest : (List.range' (a + 1) n).filter (fun x => f x || decide (x = a)) = (List.range' (a + 1) n).filter f := by
    apply List.filter_congr
    intro x hx
    rw [List.mem_range'_1] at hx
    have : x ≠ a := by omega
    simp [this]
   cases hf : f a
   ·simp only [Bool.false_eq_true, if_false, decide_true, Bool.or_true, if_true]
    rw [hrest]
    cases hl : (List.range' (a + 1) n).filter f with
    | nil => rfl
    | cons x l =>
     have hx : x ∈ (List.range' (a + 1) n).filter f := by rw [hl]; exact List.mem_cons_self
     rw [List.mem_filter, List.mem_range'_1] at hx
     rw [ins, if_neg (by omega), if_pos (by omega)]
   ·simp only [if_true, Bool.true_or]
    rw [hrest, ins, if_pos rfl]
  ·have g := ih (a + 1) (by omega) (by omega)
   cases hf : f a
   ·simp only [Bool.false_eq_true, if_false, Bool.false_or, decide_eq_true_eq, e]
    exact g
   ·simp only [if_true, Bool.true_or]
    rw [ins, if_neg e, if_neg (by omega), g]
/-- Ascending bytes with one more. -/
def addB (b : UInt8) : List UInt8 → List UInt8
 | [] => [b]
 | x :: l => if x = b then x :: l else if b.toNat < x.toNat then b :: x :: l else x :: addB b l
theorem addB_map (b : Nat) (hb : b < 256) : ∀ (l : List Nat), (∀ x ∈ l, x < 256) → addB (UInt8.ofNat b) (l.map fun n => UInt8.ofNat n) = (ins b l).map fun n => UInt8.ofNat n
 | [], _ => rfl
 | x :: l, h => by
  have hx : x < 256 := h x List.mem_cons_self
  have tx : (UInt8.ofNat x).toNat = x := by simp; omega
  have tb : (UInt8.ofNat b).toNat = b := by simp; omega
  have e : (UInt8.ofNat x = UInt8.ofNat b) ↔ x = b := ⟨fun g => by rw [← tx, ← tb, g], fun g => by rw [g]⟩
  simp only [List.map_cons, addB, ins, e, tx, tb]
  by_cases c : x = b
  ·rw [if_pos c, if_pos c, List.map_cons]
  ·rw [if_neg c, if_neg c]
   by_cases c2 : b < x
   ·rw [if_pos c2, if_pos c2]; rfl
   ·rw [if_neg c2, if_neg c2, List.map_cons, addB_map b hb l fun y hy => h y (List.mem_cons_of_mem _ hy)]
theorem mem_add (f : Nat → Bool) (b : Nat) (hb : b < 256) : addB (UInt8.ofNat b) (mem f) = mem fun n => f n || decide (n = b) := by
 unfold mem
 rw [addB_map b hb _ (fun x hx => by rw [List.mem_filter, List.mem_range] at hx; exact hx.1), List.range_eq_range', ins_filter b f 256 0 (Nat.zero_le _) (by omega)]
theorem mem_len (f : Nat → Bool) : (mem f).length ≤ 256 := by
 unfold mem; rw [List.length_map]
 exact Nat.le_trans (List.length_filter_le _ _) (by simp)
theorem addB_len (b : UInt8) : ∀ (l : List UInt8), (addB b l).length ≤ l.length + 1
 | [] => by simp [addB]
 | x :: l => by
  unfold addB; split
  ·simp
  ·split
   ·simp
   ·have := addB_len b l; simp; omega
theorem alT_cons (t u : RT) (us : List RT) : alT (t :: u :: us) = pairT 4 t (alT (u :: us)) := rfl
theorem caT_cons (t u : RT) (us : List RT) : caT (t :: u :: us) = pairT 3 t (caT (u :: us)) := rfl
end PR
end Go.Proofs.YtcpaneaiobnhdaaDoor.kit
/-
 Plain facts on reading expressions for texts, of no program: what a tree that was read costs, by the bytes that were read. Conditions: each theorem names its own.
-/
namespace Go.Proofs.YtcpaneaiobnhdaaDoor.kit
open Go.ChangeShapes Go.WideShapes Go.ChangeAt Go.RowKit
set_option linter.unusedVariables false
namespace PR
theorem cost_leaf (k : Int) : RT.cost (leaf k) = 0 := by simp [leaf, RT.cost, RT.costs, ByteArray.size]
theorem cost_one (c : UInt8) : RT.cost (oneT c) = 1 := by simp [oneT, RT.cost, RT.costs, ByteArray.size]
theorem cost_many (t : RT) (lo hi : Int) : RT.cost (manyT t lo hi) = RT.cost t + 1 := by simp [manyT, RT.cost, RT.costs, ByteArray.size]
theorem cost_pair (k : Int) (a b : RT) : RT.cost (pairT k a b) = RT.cost a + RT.cost b + 2 := by simp [pairT, RT.cost, RT.costs, ByteArray.size]
theorem cost_chain (k : Int) : ∀ (us : List RT) (t : RT), RT.cost (chain k t us) ≤ RT.cost t + RT.costs us + 2 * us.length
 | [], t => by simp [chain]
 | u :: us, t => by
  have := cost_chain k us u
  rw [chain, cost_pair]; simp only [RT.costs, List.length_cons]; omega
theorem cost_alT (ts : List RT) : RT.cost (alT ts) ≤ RT.costs ts + 2 * ts.length := by
 cases ts with
 | nil => rw [alT, cost_leaf]; omega
 | cons t us => have := cost_chain 4 us t; rw [alT]; simp only [RT.costs, List.length_cons]; omega
theorem cost_caT (ts : List RT) : RT.cost (caT ts) ≤ RT.costs ts + 2 * ts.length := by
 cases ts with
 | nil => rw [caT, cost_leaf]; omega
 | cons t us => have := cost_chain 3 us t; rw [caT]; simp only [RT.costs, List.length_cons]; omega
theorem cost_set {s : ByteArray} {i : Nat} {x : RT × Nat} (h : setT s i = some x) : RT.cost x.1 ≤ 256 := by
 unfold setT at h
 rw [Option.map_eq_some_iff] at h
 obtain ⟨y, _, rfl⟩ := h
 have := mem_len y.1
 simp only [RT.cost, RT.costs, List.length_nil, ByteArray.size, List.size_toArray]; omega
theorem cost_times {s : ByteArray} {t : RT} {i : Nat} {x : RT × Nat} (hi : i ≤ s.size) (h : times s t i = some x) : RT.cost x.1 ≤ RT.cost t + 260 * (x.2 - i) := by
 unfold times at h
 split at h
 ·cases h; simp only [cost_many]; omega
 ·split at h
  ·cases h; simp only [cost_many]; omega
  ·split at h
   ·cases h; simp only [cost_many]; omega
   ·split at h
    ·rw [Option.map_eq_some_iff] at h
     obtain ⟨y, h1, rfl⟩ := h
     have := braces_adv h1
     simp only [cost_many]; omega
    ·cases h; simp
theorem costs_read (s : ByteArray) : ∀ (f : Nat), (∀ d i x, i ≤ s.size → alts s f d i = some x → RT.costs x.1 + 2 * x.1.length ≤ 260 * (x.2 - i) + 2) ∧ (∀ d i x, i ≤ s.size → cats s f d i = some x → RT.costs x.1 + 2 * x.1.length ≤ 260 * (x.2 - i)) ∧ (∀ d i x, i < s.size → item s f d i = some x → RT.cost x.1 + 4 ≤ 260 * (x.2 - i)) := by
 intro f
 induction f with
 | zero => exact ⟨fun d i x _ h => by simp [alts] at h, fun d i x _ h => by simp [cats] at h, fun d i x _ h => by simp [item] at h⟩
 | succ f ih =>
  obtain ⟨ia, ic, ii⟩ := ih
  refine ⟨fun d i x hi h => ?_, fun d i x hi h => ?_, fun d i x hi h => ?_⟩
  ·rw [alts] at h
   split at h
   ·cases h
   ·rename_i y hy
    have g := ic _ _ _ hi hy
    have a := (adv s f).2.1 _ _ _ hi hy
    have c := cost_caT y.1
    split at h
    ·rename_i hb
     have := atB_lt hb
     split at h
     ·cases h
     ·rename_i z hz; cases h
      have g2 := ia _ _ _ (by omega) hz
      have a2 := (adv s f).1 _ _ _ (by omega) hz
      simp only [RT.costs, List.length_cons]; omega
    ·cases h; simp only [RT.costs, List.length_cons, List.length_nil]; omega
  ·rw [cats] at h
   split at h
   ·cases h; simp [RT.costs]
   ·rename_i he
    have hlt : i < s.size := by
     have he : ends s i = false := by simpa using he
     unfold ends at he
     simp at he; omega
    split at h
    ·cases h
    ·rename_i y hy
     have g := ii _ _ _ hlt hy
     have a := (adv s f).2.2 _ _ _ hlt hy
     split at h
     ·cases h
     ·rename_i z hz
      have g2 := cost_times a.2 hz
      have a2 := times_adv a.2 hz
      split at h
      ·cases h
      ·rename_i v hv; cases h
       have g3 := ic _ _ _ a2.2 hv
       have a3 := (adv s f).2.1 _ _ _ a2.2 hv
       simp only [RT.costs, List.length_cons]; omega
  ·have a := (adv s (f + 1)).2.2 _ _ _ hi h
   rw [item] at h
   split at h
   ·cases h; simp only [cost_leaf]; omega
   ·split at h
    ·cases h; simp only [cost_leaf]; omega
    ·split at h
     ·cases h; simp only [cost_leaf]; omega
     ·split at h
      ·have := cost_set h; omega
      ·split at h
       ·cases h
       ·split at h
        ·split at h
         ·cases h
         ·split at h
          ·cases h
          ·rename_i y hy
           have g := ia _ _ _ (by omega) hy
           have a1 := (adv s f).1 _ _ _ (by omega) hy
           have c := cost_alT y.1
           split at h
           ·cases h; dsimp only at *; omega
           ·cases h
        ·split at h
         ·unfold escT at h; split at h
          ·cases h; simp only [cost_one]; omega
          ·cases h
         ·cases h; simp only [cost_one]; omega
theorem cost_alts {s : ByteArray} (hs : s.size ≤ 4000) {f d : Nat} {x : List RT × Nat} (h : alts s f d 0 = some x) : RT.cost (alT x.1) ≤ 1048576 := by
 have g := (costs_read s f).1 d 0 x (Nat.zero_le _) h
 have a := (adv s f).1 d 0 x (Nat.zero_le _) h
 have c := cost_alT x.1
 omega
/-- The expression that a text is. -/
def parse (s : ByteArray) : Option RT := if 4000 < s.size then none else match alts s (3 * s.size + 3) 200 0 with
 | none => none
 | some x => if x.2 < s.size then none else if RT.ok (alT x.1) then some (alT x.1) else none
theorem parse_cost {s : ByteArray} {t : RT} (h : parse s = some t) : RT.cost t ≤ 1048576 ∧ RT.ok t = true := by
 unfold parse at h
 split at h
 ·cases h
 ·split at h
  ·cases h
  ·rename_i x hx
   split at h
   ·cases h
   ·split at h
    ·cases h; exact ⟨cost_alts (by omega) hx, by assumption⟩
    ·cases h
end PR
end Go.Proofs.YtcpaneaiobnhdaaDoor.kit
