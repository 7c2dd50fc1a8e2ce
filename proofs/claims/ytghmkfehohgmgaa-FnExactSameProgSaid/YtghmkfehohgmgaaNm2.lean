/-
  Keys of pairs of lists of nodes: what a key stands for, and that it stands for nothing else. Conditions: each theorem names its own.
-/
import Derived.Test.YtghmkfehohgmgaaNm0
import Derived.Test.YtghmkfehohgmgaaNm1
namespace Go.Proofs.Ytghmkfehohgmgaa.kit
open Go.ChangeShapes Go.WideShapes Go.ChangeAt Go.RowKit
set_option linter.unusedVariables false

theorem NT.ext_of {t u : NT} (h1 : t.kind = u.kind) (h2 : t.num = u.num) (h3 : t.text = u.text) (h4 : t.kids = u.kids) : t = u := by
  cases t; cases u
  simp_all [NT.kind, NT.num, NT.text, NT.kids]
/-- What lies at a place is one list of trees. -/
theorem NKids.uniq {B B' : Nat} {w : World} {ts : List NT} {a : Option Addr} (h : NKids B w ts a) : ∀ {us : List NT}, NKids B' w us a → ts.length = us.length → ts = us := by
  induction h with
  | mk ts a A C h hk ih =>
    intro us h' hl
    refine List.ext_getElem hl fun i hi hi' => ?_
    obtain ⟨a', c', e', k'⟩ := h'.elem i hi'
    obtain ⟨b, o, ea, _, _, ⟨x0, x1, x2, x3⟩, _, _⟩ := h i hi
    obtain ⟨b', o', ea', _, _, ⟨y0, y1, y2, y3⟩, _, _⟩ := e'
    rw [ea] at ea'
    cases ea'
    rw [x0] at y0; rw [x1] at y1; rw [x2] at y2; rw [x3] at y3
    simp only [Option.some.injEq, Value.int.injEq, true_and, Value.string.injEq, Value.slice.injEq] at y0 y1 y2 y3
    obtain ⟨z1, z2, _⟩ := y3
    rw [← z1] at k'
    exact NT.ext_of y0 y1 y2 (ih i hi k' z2)
theorem NKids.clear {B : Nat} {w : World} {ts : List NT} {a : Addr} (h : NKids B w ts (some a)) (hn : ts ≠ []) (hB : B ≠ 0) : Clear w a.block := by
  obtain ⟨a', c', ⟨b, o, e, ⟨_, h1⟩, _, ⟨x0, _⟩, _, _⟩, _⟩ := h.elem 0 (List.length_pos_iff.2 hn)
  cases e
  refine ⟨?_, h1.resolve_left hB⟩
  simp only [World.cell?] at x0
  split at x0
  · exact ⟨_, _, _, by assumption⟩
  · cases x0
/-- The key k stands for the pair p. -/
structure KeyPr (B : Nat) (w : World) (k : Addr × Addr × Int) (p : List NT × List NT) : Prop where
  n : k.2.2 = (p.1.length : Int)
  more : p.1 ≠ []
  len : p.1.length = p.2.length
  left : NKids B w p.1 (some k.1)
  right : NKids B w p.2 (some k.2.1)
theorem KeyPr.uniq {B : Nat} {w : World} {k : Addr × Addr × Int} {p q : List NT × List NT} (h : KeyPr B w k p) (h' : KeyPr B w k q) : p = q := by
  have e : p.1.length = q.1.length := by have h1 := h.n; have h2 := h'.n; omega
  have e1 := h.left.uniq h'.left e
  have e2 := h.right.uniq h'.right (by rw [← h.len, ← h'.len, e])
  cases p; cases q
  simp_all
theorem KeyPr.ok {B : Nat} {w : World} {k : Addr × Addr × Int} {p : List NT × List NT} (h : KeyPr B w k p) (hB : B ≠ 0) : KyOk w k := by
  refine ⟨h.left.clear h.more hB, h.right.clear ?_ hB⟩
  intro e
  have := h.len
  rw [e] at this
  exact h.more (List.length_eq_zero_iff.1 this)
/-- The keys L stand for the pairs K, each for its own. -/
def Keys (B : Nat) (w : World) (L : List (Addr × Addr × Int)) (K : NT.Prs) : Prop := L.length = K.length ∧ ∀ i (h : i < L.length) (h' : i < K.length), KeyPr B w L[i] K[i]
theorem Keys.nil (B : Nat) (w : World) : Keys B w [] [] := ⟨rfl, fun i h => by simp at h⟩
theorem Keys.ok {B : Nat} {w : World} {L : List (Addr × Addr × Int)} {K : NT.Prs} (h : Keys B w L K) (hB : B ≠ 0) : ∀ k ∈ L, KyOk w k := fun k hk => by
  obtain ⟨i, hi, rfl⟩ := List.getElem_of_mem hk
  exact (h.2 i hi (h.1 ▸ hi)).ok hB
/-- A key that is known stands for a pair that is known. -/
theorem Keys.known {B : Nat} {w : World} {L : List (Addr × Addr × Int)} {K : NT.Prs} {k : Addr × Addr × Int} {p : List NT × List NT} (h : Keys B w L K) (hk : k ∈ L) (hp : KeyPr B w k p) : p ∈ K := by
  obtain ⟨i, hi, rfl⟩ := List.getElem_of_mem hk
  have := (h.2 i hi (h.1 ▸ hi)).uniq hp
  rw [← this]
  exact List.getElem_mem _
theorem Keys.push {B : Nat} {w : World} {L : List (Addr × Addr × Int)} {K : NT.Prs} {k : Addr × Addr × Int} {p : List NT × List NT} (h : Keys B w L K) (hp : KeyPr B w k p) : Keys B w (L ++ [k]) (K ++ [p]) := by
  refine ⟨by simp [h.1], fun i a b => ?_⟩
  by_cases e : i < L.length
  · rw [List.getElem_append_left e, List.getElem_append_left (h.1 ▸ e)]
    exact h.2 i e _
  · obtain rfl : i = L.length := by simp at a; omega
    have e2 := h.1
    simp [e2]
    exact hp
theorem KeyPr.of {B : Nat} {w w' : World} {k : Addr × Addr × Int} {p : List NT × List NT} (h : KeyPr B w k p) (f : ∀ ts a, NKids B w ts a → NKids B w' ts a) : KeyPr B w' k p := ⟨h.n, h.more, h.len, f _ _ h.left, f _ _ h.right⟩
theorem Keys.of {B : Nat} {w w' : World} {L : List (Addr × Addr × Int)} {K : NT.Prs} (h : Keys B w L K) (f : ∀ ts a, NKids B w ts a → NKids B w' ts a) : Keys B w' L K := ⟨h.1, fun i a b => (h.2 i a b).of f⟩
end Go.Proofs.Ytghmkfehohgmgaa.kit
