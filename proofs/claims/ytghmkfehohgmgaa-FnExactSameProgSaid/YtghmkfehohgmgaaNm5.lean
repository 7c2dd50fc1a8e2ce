/-
  What holds when impl.sameNode begins to go by pairs that wait; and what holds within a round. Conditions: each theorem names its own.
-/
import Derived.Test.YtghmkfehohgmgaaNm4
namespace Go.Proofs.Ytghmkfehohgmgaa.kit
open Go.ChangeShapes Go.WideShapes Go.ChangeAt Go.RowKit
set_option linter.unusedVariables false

/-- A row of one node. -/
theorem NKids.one {B g : Nat} {w : World} {e : TypeId} {t : NT} {a : Option Addr} {ca : Nat} (hg : w.heap[g]? = some (.cells #[.int .i64 t.kind, .int .i64 t.num, .string t.text, .slice a t.kids.length ca] e)) (hB : B ≤ g)
    (hf : t.text.size ≤ maxLen ∧ t.kids.length ≤ maxLen) (hk : NKids B w t.kids a) : NKids B w [t] (some ⟨g, 0, none⟩) := by
  refine .mk [t] _ (fun _ => a) (fun _ => ca) (fun i hi => ?_) (fun i hi => ?_)
  · obtain rfl : i = 0 := by simpa using hi
    refine ⟨g, 0, rfl, ⟨hB, .inr fun j => by simp [World.frozen?, hg]⟩, (Array.getElem?_eq_some_iff.1 hg).1, ⟨?_, ?_, ?_, ?_⟩, hf.1, hf.2⟩ <;> simp [World.cell?, hg]
  · obtain rfl : i = 0 := by simpa using hi
    exact hk
/-- The world in which sameNode begins to go by what waits. -/
theorem Outer.start {t u : NT} {B : Nat} {w w1 : World} {a b : Option Addr} {ca cb : Nat} (hk : NKids B w t.kids a) (hk' : NKids B w u.kids b) (hB : B ≤ w.heap.size)
    (hf : t.text.size ≤ maxLen ∧ t.kids.length ≤ maxLen) (hf' : u.text.size ≤ maxLen ∧ u.kids.length ≤ maxLen) {e1 e2 e3 e4 : TypeId} {o1 o2 : Array Value}
    (hw : w1 = (((w.alloc (.cells o1 e1)).alloc (.cells o2 e2)).alloc (.cells #[.int .i64 t.kind, .int .i64 t.num, .string t.text, .slice a t.kids.length ca] e3)).alloc (.cells #[.int .i64 u.kind, .int .i64 u.num, .string u.text, .slice b u.kids.length cb] e4)) :
    Outer t u B w1 (w.heap.size + 5) (NT.sz t) ((w1.alloc (.cells #[.slice (some ⟨w.heap.size + 2, 0, none⟩) 1 1, .slice (some ⟨w.heap.size + 3, 0, none⟩) 1 1] 90)).alloc (.map #[] 0)) (.slice (some ⟨w.heap.size + 4, 0, none⟩) 1 1) 1 := by
  have hs : w1.heap.size = w.heap.size + 4 := by subst hw; simp
  have hb : Below w.heap.size w w1 := by
    subst hw
    exact ((((Below.refl _ _).alloc (Nat.le_refl _) _).alloc (by simp) _).alloc (by simp; omega) _).alloc (by simp; omega) _
  have g2 : w1.heap[w.heap.size + 2]? = some (.cells #[.int .i64 t.kind, .int .i64 t.num, .string t.text, .slice a t.kids.length ca] e3) := by
    subst hw
    have h := heap_alloc_new ((w.alloc (.cells o1 e1)).alloc (.cells o2 e2)) (.cells #[.int .i64 t.kind, .int .i64 t.num, .string t.text, .slice a t.kids.length ca] e3)
    have hz : ((w.alloc (.cells o1 e1)).alloc (.cells o2 e2)).heap.size = w.heap.size + 2 := by simp
    rw [hz] at h
    rw [← h]
    exact ((Below.refl (w.heap.size + 3) _).alloc (by simp) _).block _ (by omega)
  have g3 : w1.heap[w.heap.size + 3]? = some (.cells #[.int .i64 u.kind, .int .i64 u.num, .string u.text, .slice b u.kids.length cb] e4) := by
    subst hw
    have h := heap_alloc_new (((w.alloc (.cells o1 e1)).alloc (.cells o2 e2)).alloc (.cells #[.int .i64 t.kind, .int .i64 t.num, .string t.text, .slice a t.kids.length ca] e3)) (.cells #[.int .i64 u.kind, .int .i64 u.num, .string u.text, .slice b u.kids.length cb] e4)
    have hz : (((w.alloc (.cells o1 e1)).alloc (.cells o2 e2)).alloc (.cells #[.int .i64 t.kind, .int .i64 t.num, .string t.text, .slice a t.kids.length ca] e3)).heap.size = w.heap.size + 3 := by simp
    rw [hz] at h
    exact h
  have k1 := NKids.one g2 (by omega) hf (hk.kept (Nat.le_refl _) hb)
  have k2 := NKids.one g3 (by omega) hf' (hk'.kept (Nat.le_refl _) hb)
  refine ⟨⟨[(([t], [u]), (⟨w.heap.size + 2, 0, none⟩, 1), (⟨w.heap.size + 3, 0, none⟩, 1))], [], [], rfl, ⟨_, _, rfl⟩, ?_, ?_, ?_, Keys.nil _ _, ?_, NT.Inv.start t u, ?_⟩, ?_⟩
  · refine ⟨rfl, .inr ⟨w.heap.size + 4, 1, #[.slice (some ⟨w.heap.size + 2, 0, none⟩) 1 1, .slice (some ⟨w.heap.size + 3, 0, none⟩) 1 1], rfl, by omega, ?_, Nat.le_refl _, by simp [maxLen], rfl, rfl⟩⟩
    have h := heap_alloc_new w1 (.cells #[.slice (some ⟨w.heap.size + 2, 0, none⟩) 1 1, .slice (some ⟨w.heap.size + 3, 0, none⟩) 1 1] 90)
    rw [hs] at h
    rw [← h]
    exact ((Below.refl (w.heap.size + 5) _).alloc (by simp [hs]) _).block _ (by omega)
  · simp [Value.ownBlock]
  · have := Flags.made (w1.alloc (.cells #[.slice (some ⟨w.heap.size + 2, 0, none⟩) 1 1, .slice (some ⟨w.heap.size + 3, 0, none⟩) 1 1] 90))
    simpa [hs] using this
  · intro d hd
    simp only [List.mem_singleton] at hd
    subst hd
    exact ⟨k1, k2⟩
  · simp [NT.msr, NT.szs]
  · exact ((Below.refl _ _).alloc (Nat.le_refl _) _).alloc (by simp) _

/-- What holds within a round: d has been taken, its first i are handled; q holds the box of its lists. -/
structure Inn (t u : NT) (B : Nat) (w1 : World) (g M q : Nat) (d : PD) (i : Nat) (w : World) (v : Value) (n : Nat) : Prop where
  ex : ∃ (ds : List PD) (K : NT.Prs) (L : List (Addr × Addr × Int)), n = ds.length ∧ (∃ a c, v = .slice a n c) ∧ OwnP w1.heap.size w v ds ∧ v.ownBlock ≠ some g ∧ Flags w g L ∧ Keys B w1 L K ∧
    (∀ d ∈ ds, NKids B w1 d.1.1 (some d.2.1.1) ∧ NKids B w1 d.1.2 (some d.2.2.1)) ∧ NT.Mid t u M d.1 i (ds.map (·.1)) K
  own : v.ownBlock ≠ some q
  box : w.cell? ⟨q, 0, none⟩ = some (.slice (some d.2.1.1) d.1.1.length d.2.1.2) ∧ w.cell? ⟨q, 1, none⟩ = some (.slice (some d.2.2.1) d.1.2.length d.2.2.2)
  lt : q < w.heap.size
  below : Below w1.heap.size w1 w
/-- The round is over. -/
theorem Inn.out {t u : NT} {B : Nat} {w1 : World} {g M q : Nat} {d : PD} {w : World} {v : Value} {n : Nat} (h : Inn t u B w1 g M q d d.1.1.length w v n) : ∃ M', M' < M ∧ Outer t u B w1 g M' w v n := by
  obtain ⟨ds, K, L, e1, e2, e3, e4, e5, e6, e7, e8⟩ := h.ex
  obtain ⟨f1, f2⟩ := e8.out
  exact ⟨_, f2, ⟨ds, K, L, e1, e2, e3, e4, e5, e6, e7, f1, Nat.le_refl _⟩, h.below⟩
end Go.Proofs.Ytghmkfehohgmgaa.kit
