/-
  Plain facts on telling two trees of nodes alike by pairs of lists that wait, of no program: what holds between two rounds, within one, and at the end. Conditions: each theorem names its own.
-/
import Derived.Test.YtghmkfehohgmgaaNs0
namespace Go.Proofs.Ytghmkfehohgmgaa.kit
open Go.ChangeShapes Go.WideShapes Go.ChangeAt Go.RowKit
set_option linter.unusedVariables false
namespace NT
abbrev Prs := List (List NT × List NT)
/-- What waits, counted. -/
def msr : Prs → Nat | [] => 0 | p :: W => szs p.1 + msr W
theorem msr_app : ∀ (A B : Prs), msr (A ++ B) = msr A + msr B
  | [], B => by simp [msr]
  | p :: A, B => by simp only [List.cons_append, msr, msr_app A B]; omega
/-- The first i of the pair are alike at their tops, and their kids are known. -/
def Done (K : Prs) (ts us : List NT) (i : Nat) : Prop :=
  ∀ j (h : j < ts.length) (h' : j < us.length), j < i → top ts[j] us[j] = true ∧ (ts[j].kids = [] ∨ (ts[j].kids, us[j].kids) ∈ K)
theorem Done.mono {K K' : Prs} {ts us : List NT} {i : Nat} (h : Done K ts us i) (hK : ∀ p ∈ K, p ∈ K') : Done K' ts us i := fun j a b c => ⟨(h j a b c).1, (h j a b c).2.imp id fun q => hK _ q⟩
/-- A pair that may wait. -/
structure Fit (t u : NT) (p : List NT × List NT) : Prop where
  len : p.1.length = p.2.length
  some : p.1 ≠ []
  down : same t u = true → sames p.1 p.2 = true
structure Inv (t u : NT) (W K : Prs) : Prop where
  closed : ∀ p ∈ ([t], [u]) :: K, p ∈ W ∨ Done K p.1 p.2 p.1.length
  fit : ∀ p ∈ W, Fit t u p
  len : ∀ p ∈ K, p.1.length = p.2.length
theorem Inv.start (t u : NT) : Inv t u [([t], [u])] [] where
  closed := fun p hp => .inl (by simpa using hp)
  fit := fun p hp => by
    simp only [List.mem_singleton] at hp
    subst hp
    exact ⟨rfl, by simp, fun h => by simp [sames, h]⟩
  len := by simp
/-- Within a round: the pair p has been taken, its first i are handled; M was what waited. -/
structure Mid (t u : NT) (M : Nat) (p : List NT × List NT) (i : Nat) (W K : Prs) : Prop where
  closed : ∀ q ∈ ([t], [u]) :: K, q ∈ W ∨ q = p ∨ Done K q.1 q.2 q.1.length
  fit : ∀ q ∈ W, Fit t u q
  own : Fit t u p
  len : ∀ q ∈ K, q.1.length = q.2.length
  done : Done K p.1 p.2 i
  sum : msr W + i + szs (p.1.drop i) ≤ M
theorem Inv.take {t u : NT} {W K : Prs} {p : List NT × List NT} (h : Inv t u (W ++ [p]) K) : Mid t u (msr (W ++ [p])) p 0 W K where
  closed := fun q hq => by
    rcases h.closed q hq with a | a
    · rcases List.mem_append.1 a with b | b
      · exact .inl b
      · exact .inr (.inl (by simpa using b))
    · exact .inr (.inr a)
  fit := fun q hq => h.fit q (by simp [hq])
  own := h.fit p (by simp)
  len := h.len
  done := fun j _ _ c => by omega
  sum := by simp [msr_app, msr]
theorem Mid.out {t u : NT} {M : Nat} {p : List NT × List NT} {W K : Prs} (h : Mid t u M p p.1.length W K) : Inv t u W K ∧ msr W < M := by
  refine ⟨⟨fun q hq => ?_, h.fit, h.len⟩, ?_⟩
  · rcases h.closed q hq with a | a | a
    · exact .inl a
    · exact .inr (a ▸ h.done)
    · exact .inr a
  · have h1 := h.sum
    have h2 := List.length_pos_iff.2 h.own.some
    omega
theorem szs_drop : ∀ (ts : List NT) (i : Nat) (h : i < ts.length), szs (ts.drop i) = 1 + szs ts[i].kids + szs (ts.drop (i + 1))
  | [], _, h => by simp at h
  | t :: ts, 0, _ => by simp only [List.drop_zero, szs, List.getElem_cons_zero, List.drop_succ_cons]; rw [sz_eq t]
  | t :: ts, i + 1, h => by simp only [List.drop_succ_cons, List.getElem_cons_succ]; exact szs_drop ts i (by simpa using h)
theorem Done.next {K : Prs} {ts us : List NT} {i : Nat} (h : Done K ts us i) (h1 : i < ts.length) (h2 : i < us.length) (ht : top ts[i] us[i] = true) (hk : ts[i].kids = [] ∨ (ts[i].kids, us[i].kids) ∈ K) : Done K ts us (i + 1) := fun j a b c => by
  by_cases e : j = i
  · subst e; exact ⟨ht, hk⟩
  · exact h j a b (by omega)
/-- One more: its kids are none, or known. -/
theorem Mid.step {t u : NT} {M : Nat} {p : List NT × List NT} {i : Nat} {W K : Prs} (h : Mid t u M p i W K) (h1 : i < p.1.length) (h2 : i < p.2.length) (ht : top p.1[i] p.2[i] = true) (hk : p.1[i].kids = [] ∨ (p.1[i].kids, p.2[i].kids) ∈ K) :
    Mid t u M p (i + 1) W K where
  closed := h.closed
  fit := h.fit
  own := h.own
  len := h.len
  done := h.done.next h1 h2 ht hk
  sum := by have := h.sum; have := szs_drop p.1 i h1; omega
theorem sames_at : ∀ (ts us : List NT) (i : Nat) (h : i < ts.length) (h' : i < us.length), sames ts us = true → same ts[i] us[i] = true
  | [], _, _, h, _, _ => by simp at h
  | _ :: _, [], _, _, h, _ => by simp at h
  | t :: ts, u :: us, 0, _, _, hs => by simp only [sames, Bool.and_eq_true] at hs; exact hs.1
  | t :: ts, u :: us, i + 1, h, h', hs => by simp only [sames, Bool.and_eq_true] at hs; simp only [List.getElem_cons_succ]; exact sames_at ts us i _ _ hs.2
theorem top_len {t u : NT} (h : top t u = true) : t.kids.length = u.kids.length := by simp only [top, Bool.and_eq_true, beq_iff_eq] at h; exact h.2
/-- One more: its kids are put in, and wait. -/
theorem Mid.push {t u : NT} {M : Nat} {p : List NT × List NT} {i : Nat} {W K : Prs} (h : Mid t u M p i W K) (h1 : i < p.1.length) (h2 : i < p.2.length) (ht : top p.1[i] p.2[i] = true) (hk : p.1[i].kids ≠ []) :
    Mid t u M p (i + 1) (W ++ [(p.1[i].kids, p.2[i].kids)]) (K ++ [(p.1[i].kids, p.2[i].kids)]) where
  closed := fun q hq => by
    by_cases e : q = (p.1[i].kids, p.2[i].kids)
    · exact .inl (by simp [e])
    · have hq' : q ∈ ([t], [u]) :: K := by
        simp only [List.mem_cons, List.mem_append, List.not_mem_nil, or_false] at hq
        rcases hq with a | a | a
        · simp [a]
        · simp [a]
        · exact absurd a e
      rcases h.closed q hq' with a | a | a
      · exact .inl (by simp [a])
      · exact .inr (.inl a)
      · exact .inr (.inr (a.mono fun x hx => by simp [hx]))
  fit := fun q hq => by
    rcases List.mem_append.1 hq with a | a
    · exact h.fit q a
    · simp only [List.mem_singleton] at a
      subst a
      refine ⟨top_len ht, hk, fun hs => ?_⟩
      have := sames_at p.1 p.2 i h1 h2 (h.own.down hs)
      rw [same_eq, Bool.and_eq_true] at this
      exact this.2
  own := h.own
  len := fun q hq => by
    rcases List.mem_append.1 hq with a | a
    · exact h.len q a
    · simp only [List.mem_singleton] at a
      subst a
      exact top_len ht
  done := (h.done.mono fun x hx => by simp [hx]).next h1 h2 ht (.inr (by simp))
  sum := by have := h.sum; have := szs_drop p.1 i h1; simp only [msr_app, msr]; omega
/-- Two tops differ: so do the trees. -/
theorem Mid.no {t u : NT} {M : Nat} {p : List NT × List NT} {i : Nat} {W K : Prs} (h : Mid t u M p i W K) (h1 : i < p.1.length) (h2 : i < p.2.length) (ht : top p.1[i] p.2[i] = false) : same t u = false := by
  cases e : same t u with
  | false => rfl
  | true =>
    have := sames_at p.1 p.2 i h1 h2 (h.own.down e)
    rw [same_eq, ht] at this
    simp at this
theorem sames_of : ∀ (ts us : List NT), ts.length = us.length → (∀ j (h : j < ts.length) (h' : j < us.length), same ts[j] us[j] = true) → sames ts us = true
  | [], [], _, _ => by simp [sames]
  | [], _ :: _, h, _ => by simp at h
  | _ :: _, [], h, _ => by simp at h
  | t :: ts, u :: us, h, hs => by
    simp only [sames, Bool.and_eq_true]
    exact ⟨hs 0 (by simp) (by simp), sames_of ts us (by simpa using h) fun j a b => hs (j + 1) (by simpa using a) (by simpa using b)⟩
/-- Nothing waits: what is known is alike. -/
theorem Inv.known {t u : NT} {K : Prs} (h : Inv t u [] K) : ∀ (N : Nat) (p : List NT × List NT), p ∈ ([t], [u]) :: K → szs p.1 ≤ N → sames p.1 p.2 = true := by
  intro N
  induction N with
  | zero =>
    intro p hp hN
    have hl : p.1.length = p.2.length := by
      rcases List.mem_cons.1 hp with a | a
      · subst a; rfl
      · exact h.len p a
    refine sames_of _ _ hl fun j a b => ?_
    have := sz_mem p.1 p.1[j] (List.getElem_mem a)
    have := sz_pos p.1[j]
    omega
  | succ N ih =>
    intro p hp hN
    have hl : p.1.length = p.2.length := by
      rcases List.mem_cons.1 hp with a | a
      · subst a; rfl
      · exact h.len p a
    rcases h.closed p hp with a | a
    · simp at a
    · refine sames_of _ _ hl fun j x y => ?_
      obtain ⟨q1, q2⟩ := a j x y x
      have hs := sz_mem p.1 p.1[j] (List.getElem_mem x)
      rw [sz_eq] at hs
      rw [same_eq, q1, Bool.true_and]
      rcases q2 with e | e
      · have e2 : p.2[j].kids = [] := by have := top_len q1; rw [e] at this; exact List.length_eq_zero_iff.1 this.symm
        rw [e, e2]; simp [sames]
      · exact ih _ (List.mem_cons_of_mem _ e) (by simp only; omega)
theorem Inv.yes {t u : NT} {K : Prs} (h : Inv t u [] K) : same t u = true := by
  have := h.known _ ([t], [u]) (by simp) (Nat.le_refl _)
  simp only [sames, Bool.and_eq_true] at this
  exact this.1
end NT
end Go.Proofs.Ytghmkfehohgmgaa.kit
