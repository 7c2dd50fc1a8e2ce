/-
  Plain facts on trees of expressions, of no program: how they are counted in two ways, and how they lie in memory as slices of structs of six cells. Conditions: each theorem names its own.
-/
import Derived.Test.YtghmkfehohgmgaaKit
namespace Go.Proofs.Ytghmkfehohgmgaa.kit
open Go.ChangeShapes Go.WideShapes Go.ChangeAt Go.RowKit
set_option linter.unusedVariables false

inductive RT where
  | node (k : Int) (s : ByteArray) (n : Bool) (lo hi : Int) (kids : List RT)
namespace RT
def kind : RT → Int | node k _ _ _ _ _ => k
def set : RT → ByteArray | node _ s _ _ _ _ => s
def neg : RT → Bool | node _ _ n _ _ _ => n
def low : RT → Int | node _ _ _ lo _ _ => lo
def high : RT → Int | node _ _ _ _ hi _ => hi
def kids : RT → List RT | node _ _ _ _ _ ts => ts
mutual
def sz : RT → Nat | node _ _ _ _ _ ts => 1 + szs ts
def szs : List RT → Nat | [] => 0 | t :: ts => sz t + szs ts
end
theorem sz_mem : ∀ (ts : List RT) (t : RT), t ∈ ts → sz t ≤ szs ts
  | [], _, h => by cases h
  | a :: ts, t, h => by
    simp only [szs]
    rcases List.mem_cons.1 h with rfl | h
    · omega
    · have := sz_mem ts t h; omega
theorem sz_kid (t u : RT) (h : u ∈ t.kids) : sz u < sz t := by
  cases t; simp only [sz, kids] at *; have := sz_mem _ _ h; omega
theorem sz_pos (t : RT) : 0 < sz t := by cases t; simp only [sz]; omega
mutual
/-- What a tree costs a law's counter. -/
def cost : RT → Nat | node _ s _ _ _ ts => s.size + costs ts + ts.length
def costs : List RT → Nat | [] => 0 | t :: ts => cost t + costs ts
end
/-- Ascending bytes. -/
def asc : List UInt8 → Bool
  | a :: b :: l => decide (a.toNat < b.toNat) && asc (b :: l)
  | _ => true
def own (t : RT) : Bool :=
  let free := t.low == 0 && t.high == 0
  let none := t.set.data.toList.isEmpty && !t.neg
  if t.kind = 0 ∨ t.kind = 1 ∨ t.kind = 6 ∨ t.kind = 7 then free && none && t.kids.length == 0
  else if t.kind = 2 then free && (asc t.set.data.toList && !t.set.data.toList.isEmpty) && t.kids.length == 0
  else if t.kind = 3 ∨ t.kind = 4 then free && none && t.kids.length == 2
  else if t.kind = 5 then none && t.kids.length == 1 && decide (0 ≤ t.low) && decide (t.low ≤ 9) && (t.high == -1 || decide (t.low ≤ t.high) && decide (t.high ≤ 9))
  else false
mutual
def right : RT → Int → Int → Option Int
  | node k s n lo hi ts, deep, left => if deep < 0 ∨ left ≤ 0 ∨ own (node k s n lo hi ts) = false then none else rights ts 0 deep left 1
def rights : List RT → Nat → Int → Int → Int → Option Int
  | [], _, _, _, n => some n
  | t :: ts, i, deep, left, n => match right t (if i = 1 then deep else deep - 1) (left - n) with
    | none => none
    | some k => rights ts (i + 1) deep left (n + k)
end
mutual
def pl : RT → Int → Int → Int
  | node k s n lo hi ts, deep, left => if left = 0 ∨ 12 < deep ∨ own (node k s n lo hi ts) = false then -1 else pls ts 0 deep (left - 1)
def pls : List RT → Nat → Int → Int → Int
  | [], _, _, left => left
  | t :: ts, i, deep, left => if pl t (if i = 0 then deep + 1 else deep) left < 0 then -1 else pls ts (i + 1) deep (pl t (if i = 0 then deep + 1 else deep) left)
end
theorem asc_ge : ∀ (l : List UInt8) (a : UInt8), asc (a :: l) = true → a.toNat + l.length ≤ 255
  | [], a, _ => by have := a.toNat_lt; simp; omega
  | b :: l, a, h => by
    simp only [asc, Bool.and_eq_true, decide_eq_true_eq] at h
    have := asc_ge l b h.2
    simp only [List.length_cons]; omega
theorem asc_len (l : List UInt8) (h : asc l = true) : l.length ≤ 256 := by
  cases l with
  | nil => simp
  | cons a l => have := asc_ge l a h; simp only [List.length_cons]; omega
theorem own_kids (t : RT) (h : own t = true) : t.kids.length ≤ 2 := by
  simp only [own] at h
  split at h
  · simp at h; simp [h.2]
  · split at h
    · simp at h; simp [h.2]
    · split at h
      · simp at h; simp [h.2]
      · split at h
        · simp at h; omega
        · cases h
/-- What the two ways of counting have to do with one another. -/
def Said (o : Option Int) (l left : Int) : Prop := (o = none ∧ l = -1) ∨ ∃ k, o = some k ∧ 1 ≤ k ∧ k ≤ left ∧ l = left - k
theorem said : ∀ (N : Nat) (t : RT), sz t ≤ N → ∀ (deep left : Int), 0 ≤ left → Said (right t (12 - deep) left) (pl t deep left) left := by
  intro N
  induction N with
  | zero => intro t h; have := sz_pos t; omega
  | succ N ih =>
    intro t hN deep left hl
    obtain ⟨k, s, n, lo, hi, ts⟩ := t
    rw [right, pl]
    by_cases c : left = 0 ∨ 12 < deep ∨ own (node k s n lo hi ts) = false
    · have c' : 12 - deep < 0 ∨ left ≤ 0 ∨ own (node k s n lo hi ts) = false := by
        rcases c with c | c | c
        · exact .inr (.inl (by omega))
        · exact .inl (by omega)
        · exact .inr (.inr c)
      rw [if_pos c, if_pos c']; exact .inl ⟨rfl, rfl⟩
    · have c' : ¬(12 - deep < 0 ∨ left ≤ 0 ∨ own (node k s n lo hi ts) = false) := by
        rintro (d | d | d)
        · exact c (.inr (.inl (by omega)))
        · exact c (.inl (by omega))
        · exact c (.inr (.inr d))
      rw [if_neg c, if_neg c']
      have hown : own (node k s n lo hi ts) = true := by cases h : own (node k s n lo hi ts) <;> simp_all
      have hk := own_kids _ hown
      simp only [kids] at hk
      have hsz : ∀ u ∈ ts, sz u ≤ N := fun u hu => by have := sz_kid (node k s n lo hi ts) u hu; omega
      match ts, hk with
      | [], _ => exact .inr ⟨1, rfl, by omega, by omega, rfl⟩
      | [a], _ =>
        have h0 := ih a (hsz a (by simp)) (deep + 1) (left - 1) (by omega)
        rw [show (12 : Int) - (deep + 1) = 12 - deep - 1 by omega] at h0
        rcases h0 with ⟨h1, h2⟩ | ⟨k1, h1, h2, h3, h4⟩
        · simp [rights, pls, h1, h2, Said]
        · refine .inr ⟨1 + k1, by simp [rights, h1], by omega, by omega, ?_⟩
          have : ¬ (left - 1 - k1 < 0) := by omega
          simp [pls, h4, this]; omega
      | [a, b], _ =>
        have h0 := ih a (hsz a (by simp)) (deep + 1) (left - 1) (by omega)
        rw [show (12 : Int) - (deep + 1) = 12 - deep - 1 by omega] at h0
        rcases h0 with ⟨h1, h2⟩ | ⟨k1, h1, h2, h3, h4⟩
        · simp [rights, pls, h1, h2, Said]
        · have g0 := ih b (hsz b (by simp)) deep (left - 1 - k1) (by omega)
          rw [show left - 1 - k1 = left - (1 + k1) by omega] at g0
          have q : ¬ (left - 1 - k1 < 0) := by omega
          have q' : ¬ (left - (1 + k1) < 0) := by omega
          rcases g0 with ⟨g1, g2⟩ | ⟨k2, g1, g2, g3, g4⟩
          · left
            rw [show left - (1 + k1) = left - 1 - k1 by omega] at g2
            refine ⟨by simp [rights, h1, g1], ?_⟩
            simp [pls, h4, q, g2]
          · refine .inr ⟨1 + k1 + k2, by simp [rights, h1, g1], by omega, by omega, ?_⟩
            rw [show left - (1 + k1) = left - 1 - k1 by omega] at g4
            have q2 : ¬ (left - 1 - k1 - k2 < 0) := by omega
            simp [pls, h4, q, g4, q2]; omega
/-- Whether an expression is right. -/
def ok (t : RT) : Bool := decide (0 ≤ pl t 0 200)
theorem right_ok (t : RT) : (right t 12 200).isSome = ok t := by
  have := said (sz t) t (Nat.le_refl _) 0 200 (by omega)
  simp only [Int.sub_zero] at this
  rcases this with ⟨h1, h2⟩ | ⟨k, h1, h2, h3, h4⟩
  · simp [ok, h1, h2]
  · simp [ok, h1, h4]; omega
end RT

theorem bcellR {W w1 : World} (hb : Below W.heap.size W w1) : (∀ b o, b < W.heap.size → w1.cell? ⟨b, o, none⟩ = W.cell? ⟨b, o, none⟩) ∧ (∀ b o, b < W.heap.size → w1.frozen? ⟨b, o, none⟩ = W.frozen? ⟨b, o, none⟩) :=
  ⟨fun b o h => hb.cell (p := ⟨b, o, none⟩) h, fun b o h => hb.frozen (p := ⟨b, o, none⟩) h⟩
/-- A tree's own value: its kids lie at a. -/
def reV (t : RT) (a : Option Addr) (cap : Nat) : Value := .agg #[.int .i64 t.kind, .string t.set, .bool t.neg, .int .i64 t.low, .int .i64 t.high, .slice a t.kids.length cap]
/-- The i-th element of a slice at a: its six cells. -/
def ElemAt (B : Nat) (w : World) (a : Option Addr) (i : Nat) (u : RT) (a' : Option Addr) (cap' : Nat) : Prop :=
  ∃ b o, a = some ⟨b, o, none⟩ ∧ B ≤ b ∧ b < w.heap.size ∧ w.cell? ⟨b, o + i * 6, none⟩ = some (.int .i64 u.kind) ∧ w.cell? ⟨b, o + i * 6 + 1, none⟩ = some (.string u.set) ∧ w.cell? ⟨b, o + i * 6 + 2, none⟩ = some (.bool u.neg) ∧
    w.cell? ⟨b, o + i * 6 + 3, none⟩ = some (.int .i64 u.low) ∧ w.cell? ⟨b, o + i * 6 + 4, none⟩ = some (.int .i64 u.high) ∧ w.cell? ⟨b, o + i * 6 + 5, none⟩ = some (.slice a' u.kids.length cap') ∧ u.set.size ≤ maxLen ∧ u.kids.length ≤ maxLen
theorem ElemAt.of {B : Nat} {w w' : World} {a : Option Addr} {i : Nat} {u : RT} {a' : Option Addr} {cap' : Nat} (h : ElemAt B w a i u a' cap') (hs : w.heap.size ≤ w'.heap.size)
    (hc : ∀ b o, B ≤ b → b < w.heap.size → w'.cell? ⟨b, o, none⟩ = w.cell? ⟨b, o, none⟩) : ElemAt B w' a i u a' cap' := by
  obtain ⟨b, o, e, h0, h1, c0, c1, c2, c3, c4, c5, f0, f1⟩ := h
  exact ⟨b, o, e, h0, Nat.lt_of_lt_of_le h1 hs, (hc _ _ h0 h1).trans c0, (hc _ _ h0 h1).trans c1, (hc _ _ h0 h1).trans c2, (hc _ _ h0 h1).trans c3, (hc _ _ h0 h1).trans c4, (hc _ _ h0 h1).trans c5, f0, f1⟩
theorem ElemAt.mono {B B' : Nat} {w : World} {a : Option Addr} {i : Nat} {u : RT} {a' : Option Addr} {cap' : Nat} (h : ElemAt B w a i u a' cap') (hB : B' ≤ B) : ElemAt B' w a i u a' cap' := by
  obtain ⟨b, o, e, h0, r⟩ := h
  exact ⟨b, o, e, Nat.le_trans hB h0, r⟩
/-- The trees ts lie at a, in blocks from B on. -/
inductive Kids (B : Nat) (w : World) : List RT → Option Addr → Prop
  | mk (ts : List RT) (a : Option Addr) (A : Nat → Option Addr) (C : Nat → Nat) (h : ∀ i (hi : i < ts.length), ElemAt B w a i ts[i] (A i) (C i)) (hk : ∀ i (hi : i < ts.length), Kids B w ts[i].kids (A i)) : Kids B w ts a
theorem Kids.of {B : Nat} {w w' : World} {ts : List RT} {a : Option Addr} (h : Kids B w ts a) (hs : w.heap.size ≤ w'.heap.size)
    (hc : ∀ b o, B ≤ b → b < w.heap.size → w'.cell? ⟨b, o, none⟩ = w.cell? ⟨b, o, none⟩) : Kids B w' ts a := by
  induction h with
  | mk ts a A C h hk ih => exact .mk ts a A C (fun i hi => (h i hi).of hs hc) (fun i hi => ih i hi)
theorem Kids.mono {B B' : Nat} {w : World} {ts : List RT} {a : Option Addr} (h : Kids B w ts a) (hB : B' ≤ B) : Kids B' w ts a := by
  induction h with
  | mk ts a A C h hk ih => exact .mk ts a A C (fun i hi => (h i hi).mono hB) (fun i hi => ih i hi)
theorem Kids.kept {B C : Nat} {w w' : World} {ts : List RT} {a : Option Addr} (h : Kids B w ts a) (hC : w.heap.size ≤ C) (hb : Below C w w') : Kids B w' ts a :=
  h.of hb.size fun b o _ hl => hb.cell (p := ⟨b, o, none⟩) (Nat.lt_of_lt_of_le hl hC)
theorem Kids.alloc {B : Nat} {w : World} {ts : List RT} {a : Option Addr} (h : Kids B w ts a) (o : Obj) : Kids B (w.alloc o) ts a :=
  h.kept (Nat.le_refl _) ((Below.refl _ _).alloc (Nat.le_refl _) _)
theorem Kids.drew {B : Nat} {w : World} {ts : List RT} {a : Option Addr} (h : Kids B w ts a) : Kids B w.drew ts a := h.of (Nat.le_refl _) fun _ _ _ _ => rfl
theorem Kids.set {B : Nat} {w : World} {ts : List RT} {a : Option Addr} (h : Kids B w ts a) (g j : Nat) (hg : g < B) (v : Value) : Kids B (w.setCell ⟨g, j, none⟩ v) ts a :=
  h.of (by simp) fun b o hb _ => World.cell?_setCell_other w _ _ _ (by intro x; injection x; omega)
theorem Kids.elem {B : Nat} {w : World} {ts : List RT} {a : Option Addr} (h : Kids B w ts a) (i : Nat) (hi : i < ts.length) : ∃ a' cap', ElemAt B w a i ts[i] a' cap' ∧ Kids B w ts[i].kids a' := by
  cases h with
  | mk _ _ A C h hk => exact ⟨_, _, h i hi, hk i hi⟩
theorem Kids.nil (B : Nat) (w : World) (a : Option Addr) : Kids B w [] a := .mk [] a (fun _ => none) (fun _ => 0) (fun i hi => by simp at hi) (fun i hi => by simp at hi)
namespace RT
/-- What the slice of the trees ts costs a law's counter. -/
def bill (ts : List RT) : Nat := ts.length + costs ts
theorem cost_eq (t : RT) : cost t = t.set.size + bill t.kids := by cases t; simp only [cost, set, kids, bill]; omega
theorem sz_eq (t : RT) : sz t = 1 + szs t.kids := by cases t; simp only [sz, kids]
theorem costs_take (ts : List RT) (i : Nat) (h : i < ts.length) : costs (ts.take (i + 1)) = costs (ts.take i) + cost ts[i] := by
  induction ts generalizing i with
  | nil => simp at h
  | cons t ts ih =>
    cases i with
    | zero => simp [costs]
    | succ i => simp only [List.take_succ_cons, costs, List.getElem_cons_succ, ih i (by simpa using h)]; omega
theorem costs_le (ts : List RT) (i : Nat) : costs (ts.take i) ≤ costs ts := by
  induction ts generalizing i with
  | nil => simp [costs]
  | cons t ts ih => cases i with
    | zero => simp [costs]
    | succ i => simp only [List.take_succ_cons, costs]; have := ih i; omega
end RT
end Go.Proofs.Ytghmkfehohgmgaa.kit
