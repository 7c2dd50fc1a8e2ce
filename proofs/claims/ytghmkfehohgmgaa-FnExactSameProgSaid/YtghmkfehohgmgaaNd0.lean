/-
  Plain facts on trees of a program's nodes, of no program: how they are counted, and how they lie in memory as slices of structs of four cells. Conditions: each theorem names its own.
-/
import Derived.Test.YtghmkfehohgmgaaKit
namespace Go.Proofs.Ytghmkfehohgmgaa.kit
open Go.ChangeShapes Go.WideShapes Go.ChangeAt Go.RowKit
set_option linter.unusedVariables false

inductive NT where
  | node (k n : Int) (s : ByteArray) (kids : List NT)
namespace NT
def kind : NT → Int | node k _ _ _ => k
def num : NT → Int | node _ n _ _ => n
def text : NT → ByteArray | node _ _ s _ => s
def kids : NT → List NT | node _ _ _ ts => ts
mutual
def sz : NT → Nat | node _ _ _ ts => 1 + szs ts
def szs : List NT → Nat | [] => 0 | t :: ts => sz t + szs ts
end
mutual
/-- What a tree costs a law's counter. -/
def cost : NT → Nat | node _ _ s ts => s.size + costs ts + ts.length
def costs : List NT → Nat | [] => 0 | t :: ts => cost t + costs ts
end
theorem sz_mem : ∀ (ts : List NT) (t : NT), t ∈ ts → sz t ≤ szs ts
  | [], _, h => by cases h
  | a :: ts, t, h => by
    simp only [szs]
    rcases List.mem_cons.1 h with rfl | h
    · omega
    · have := sz_mem ts t h; omega
theorem sz_eq (t : NT) : sz t = 1 + szs t.kids := by cases t; simp only [sz, kids]
theorem sz_pos (t : NT) : 0 < sz t := by rw [sz_eq]; omega
theorem sz_kid (t u : NT) (h : u ∈ t.kids) : sz u < sz t := by have := sz_mem _ _ h; rw [sz_eq t]; omega
/-- What the slice of the trees ts costs a law's counter. -/
def bill (ts : List NT) : Nat := ts.length + costs ts
theorem cost_eq (t : NT) : cost t = t.text.size + bill t.kids := by cases t; simp only [cost, text, kids, bill]; omega
theorem costs_take (ts : List NT) (i : Nat) (h : i < ts.length) : costs (ts.take (i + 1)) = costs (ts.take i) + cost ts[i] := by
  induction ts generalizing i with
  | nil => simp at h
  | cons t ts ih =>
    cases i with
    | zero => simp [costs]
    | succ i => simp only [List.take_succ_cons, costs, List.getElem_cons_succ, ih i (by simpa using h)]; omega
theorem costs_le (ts : List NT) (i : Nat) : costs (ts.take i) ≤ costs ts := by
  induction ts generalizing i with
  | nil => simp [costs]
  | cons t ts ih => cases i with
    | zero => simp [costs]
    | succ i => simp only [List.take_succ_cons, costs]; have := ih i; omega
end NT
instance : Inhabited NT := ⟨.node 0 0 ⟨#[]⟩ []⟩
/-- A tree's own value: its kids lie at a. -/
def ndV (t : NT) (a : Option Addr) (cap : Nat) : Value := .agg #[.int .i64 t.kind, .int .i64 t.num, .string t.text, .slice a t.kids.length cap]
/-- The four cells of a tree from place o of block b on. -/
def NCells (w : World) (b o : Nat) (u : NT) (a' : Option Addr) (cap' : Nat) : Prop :=
  w.cell? ⟨b, o, none⟩ = some (.int .i64 u.kind) ∧ w.cell? ⟨b, o + 1, none⟩ = some (.int .i64 u.num) ∧ w.cell? ⟨b, o + 2, none⟩ = some (.string u.text) ∧ w.cell? ⟨b, o + 3, none⟩ = some (.slice a' u.kids.length cap')
theorem NCells.of {w w' : World} {b o : Nat} {u : NT} {a' : Option Addr} {cap' : Nat} (h : NCells w b o u a' cap') (hc : ∀ j, w'.cell? ⟨b, j, none⟩ = w.cell? ⟨b, j, none⟩) : NCells w' b o u a' cap' :=
  ⟨(hc _).trans h.1, (hc _).trans h.2.1, (hc _).trans h.2.2.1, (hc _).trans h.2.2.2⟩
/-- The i-th element of a slice at a. -/
def NElem (B : Nat) (w : World) (a : Option Addr) (i : Nat) (u : NT) (a' : Option Addr) (cap' : Nat) : Prop :=
  ∃ b o, a = some ⟨b, o, none⟩ ∧ (B ≤ b ∧ (B = 0 ∨ ∀ j, w.frozen? ⟨b, j, none⟩ = false)) ∧ b < w.heap.size ∧ NCells w b (o + i * 4) u a' cap' ∧ u.text.size ≤ maxLen ∧ u.kids.length ≤ maxLen
theorem NElem.of {B : Nat} {w w' : World} {a : Option Addr} {i : Nat} {u : NT} {a' : Option Addr} {cap' : Nat} (h : NElem B w a i u a' cap') (hs : w.heap.size ≤ w'.heap.size)
    (hc : ∀ b o, B ≤ b → b < w.heap.size → w'.cell? ⟨b, o, none⟩ = w.cell? ⟨b, o, none⟩ ∧ w'.frozen? ⟨b, o, none⟩ = w.frozen? ⟨b, o, none⟩) : NElem B w' a i u a' cap' := by
  obtain ⟨b, o, e, ⟨h0, hz⟩, h1, c, f0, f1⟩ := h
  exact ⟨b, o, e, ⟨h0, hz.imp id fun q j => ((hc b j h0 h1).2).trans (q j)⟩, Nat.lt_of_lt_of_le h1 hs, c.of fun j => (hc b j h0 h1).1, f0, f1⟩
theorem NElem.mono {B B' : Nat} {w : World} {a : Option Addr} {i : Nat} {u : NT} {a' : Option Addr} {cap' : Nat} (h : NElem B w a i u a' cap') (hB : B' ≤ B) : NElem B' w a i u a' cap' := by
  obtain ⟨b, o, e, ⟨h0, hz⟩, r⟩ := h
  exact ⟨b, o, e, ⟨Nat.le_trans hB h0, hz.imp (fun e => by omega) id⟩, r⟩
/-- The trees ts lie at a, in blocks from B on. -/
inductive NKids (B : Nat) (w : World) : List NT → Option Addr → Prop
  | mk (ts : List NT) (a : Option Addr) (A : Nat → Option Addr) (C : Nat → Nat) (h : ∀ i (hi : i < ts.length), NElem B w a i ts[i] (A i) (C i)) (hk : ∀ i (hi : i < ts.length), NKids B w ts[i].kids (A i)) : NKids B w ts a
theorem NKids.of {B : Nat} {w w' : World} {ts : List NT} {a : Option Addr} (h : NKids B w ts a) (hs : w.heap.size ≤ w'.heap.size)
    (hc : ∀ b o, B ≤ b → b < w.heap.size → w'.cell? ⟨b, o, none⟩ = w.cell? ⟨b, o, none⟩ ∧ w'.frozen? ⟨b, o, none⟩ = w.frozen? ⟨b, o, none⟩) : NKids B w' ts a := by
  induction h with
  | mk ts a A C h hk ih => exact .mk ts a A C (fun i hi => (h i hi).of hs hc) (fun i hi => ih i hi)
theorem NKids.mono {B B' : Nat} {w : World} {ts : List NT} {a : Option Addr} (h : NKids B w ts a) (hB : B' ≤ B) : NKids B' w ts a := by
  induction h with
  | mk ts a A C h hk ih => exact .mk ts a A C (fun i hi => (h i hi).mono hB) (fun i hi => ih i hi)
theorem NKids.kept {B C : Nat} {w w' : World} {ts : List NT} {a : Option Addr} (h : NKids B w ts a) (hC : w.heap.size ≤ C) (hb : Below C w w') : NKids B w' ts a :=
  h.of hb.size fun b o _ hl => ⟨hb.cell (p := ⟨b, o, none⟩) (Nat.lt_of_lt_of_le hl hC), hb.frozen (p := ⟨b, o, none⟩) (Nat.lt_of_lt_of_le hl hC)⟩
theorem NKids.alloc {B : Nat} {w : World} {ts : List NT} {a : Option Addr} (h : NKids B w ts a) (o : Obj) : NKids B (w.alloc o) ts a :=
  h.kept (Nat.le_refl _) ((Below.refl _ _).alloc (Nat.le_refl _) _)
theorem NKids.drew {B : Nat} {w : World} {ts : List NT} {a : Option Addr} (h : NKids B w ts a) : NKids B w.drew ts a := h.of (Nat.le_refl _) fun _ _ _ _ => ⟨rfl, rfl⟩
theorem NKids.set {B : Nat} {w : World} {ts : List NT} {a : Option Addr} (h : NKids B w ts a) (g j : Nat) (hg : g < B) (v : Value) : NKids B (w.setCell ⟨g, j, none⟩ v) ts a :=
  h.of (by simp) fun b o hb _ => ⟨World.cell?_setCell_other w _ _ _ (by intro x; injection x; omega), by simp⟩
theorem NKids.elem {B : Nat} {w : World} {ts : List NT} {a : Option Addr} (h : NKids B w ts a) (i : Nat) (hi : i < ts.length) : ∃ a' cap', NElem B w a i ts[i] a' cap' ∧ NKids B w ts[i].kids a' := by
  cases h with
  | mk _ _ A C h hk => exact ⟨_, _, h i hi, hk i hi⟩
theorem NKids.nil (B : Nat) (w : World) (a : Option Addr) : NKids B w [] a := .mk [] a (fun _ => none) (fun _ => 0) (fun i hi => by simp at hi) (fun i hi => by simp at hi)
end Go.Proofs.Ytghmkfehohgmgaa.kit
