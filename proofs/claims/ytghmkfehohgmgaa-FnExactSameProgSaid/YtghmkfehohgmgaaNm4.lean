/-
  What holds between two rounds of impl.sameNode: the last pair that waits is taken; nothing waits. Conditions: each theorem names its own.
-/
import Derived.Test.YtghmkfehohgmgaaNm3
import Derived.Test.YtghmkfehohgmgaaRe3
import Derived.Deep.LoopGhost
import Derived.Laws.MakeOwn
import Derived.Carry
namespace Go.Proofs.Ytghmkfehohgmgaa.kit
open Go.ChangeShapes Go.WideShapes Go.ChangeAt Go.RowKit
set_option linter.unusedVariables false

/-- What holds between two rounds: w1 is the world behind the first two rows, v waits, g is the map. -/
structure Outer (t u : NT) (B : Nat) (w1 : World) (g : Nat) (gh : Nat) (w : World) (v : Value) (n : Nat) : Prop where
  ex : ∃ (ds : List PD) (K : NT.Prs) (L : List (Addr × Addr × Int)), n = ds.length ∧ (∃ a c, v = .slice a n c) ∧ OwnP w1.heap.size w v ds ∧ v.ownBlock ≠ some g ∧ Flags w g L ∧ Keys B w1 L K ∧
    (∀ d ∈ ds, NKids B w1 d.1.1 (some d.2.1.1) ∧ NKids B w1 d.1.2 (some d.2.2.1)) ∧ NT.Inv t u (ds.map (·.1)) K ∧ NT.msr (ds.map (·.1)) ≤ gh
  below : Below w1.heap.size w1 w

theorem Outer.done {t u : NT} {B : Nat} {w1 : World} {g gh : Nat} {w : World} {v : Value} (h : Outer t u B w1 g gh w v 0) : NT.same t u = true := by
  obtain ⟨ds, K, L, hn, _, _, _, _, _, _, hI, _⟩ := h.ex
  obtain rfl : ds = [] := List.length_eq_zero_iff.1 hn.symm
  exact hI.yes
/-- The last pair that waits. -/
theorem Outer.last {t u : NT} {B : Nat} {w1 : World} {g gh : Nat} {w : World} {v : Value} {m : Nat} (h : Outer t u B w1 g gh w v (m + 1)) :
    ∃ (ds : List PD) (d : PD) (K : NT.Prs) (L : List (Addr × Addr × Int)) (p c : Nat), v = .slice (some ⟨p, 0, none⟩) (m + 1) c ∧ m = ds.length ∧ m + 1 ≤ c ∧ c ≤ maxLen ∧ p ≠ g ∧ p < w.heap.size ∧
      w.cell? ⟨p, m * 2, none⟩ = some (.slice (some d.2.1.1) d.1.1.length d.2.1.2) ∧ w.cell? ⟨p, m * 2 + 1, none⟩ = some (.slice (some d.2.2.1) d.1.2.length d.2.2.2) ∧
      NT.Mid t u gh d.1 0 (ds.map (·.1)) K ∧ Flags w g L ∧ Keys B w1 L K ∧ OwnP w1.heap.size w (.slice (some ⟨p, 0, none⟩) m c) ds ∧
      (∀ x ∈ ds, NKids B w1 x.1.1 (some x.2.1.1) ∧ NKids B w1 x.1.2 (some x.2.2.1)) ∧ NKids B w1 d.1.1 (some d.2.1.1) ∧ NKids B w1 d.1.2 (some d.2.2.1) := by
  obtain ⟨ds0, K, L, hn, _, hO, hne, hF, hK, hd, hI, hM⟩ := h.ex
  obtain ⟨ds, d, rfl⟩ : ∃ ds d, ds0 = ds ++ [d] := by
    rcases List.eq_nil_or_concat ds0 with e | ⟨ds, d, e⟩
    · subst e; simp at hn
    · exact ⟨ds, d, by simpa using e⟩
  have hm : m = ds.length := by simpa using hn
  subst hm
  obtain ⟨p, c, rfl, h1, h2, h3, h4, c0, c1, h5⟩ := hO.pop
  have hI' : NT.Inv t u (ds.map (·.1) ++ [d.1]) K := by simpa using hI
  refine ⟨ds, d, K, L, p, c, rfl, rfl, h1, h2, fun e => hne (by rw [e]; rfl), h4, c0, c1, ?_, hF, hK, h5, fun x hx => hd x (by simp [hx]), (hd d (by simp)).1, (hd d (by simp)).2⟩
  have q := hI'.take
  have e : NT.msr (ds.map (·.1) ++ [d.1]) ≤ gh := by simpa using hM
  exact ⟨q.closed, q.fit, q.own, q.len, q.done, Nat.le_trans q.sum e⟩
end Go.Proofs.Ytghmkfehohgmgaa.kit
