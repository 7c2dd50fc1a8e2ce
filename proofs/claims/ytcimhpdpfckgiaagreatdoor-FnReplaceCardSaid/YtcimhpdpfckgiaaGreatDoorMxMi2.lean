/-
  A net that is being laid: what it is made of, how it lies, and what one part more turns of that; ways of single parts: plain facts. Conditions: each theorem names its own.
-/
import Derived.Test.YtcimhpdpfckgiaaGreatDoorMxMh6
import Derived.Test.YtcimhpdpfckgiaaGreatDoorMxMx1
import Derived.Test.YtcimhpdpfckgiaaGreatDoorMxKit
import Derived.Test.YtcimhpdpfckgiaaGreatDoorMxRe6
set_option linter.unusedVariables false
open Go.ChangeShapes Go.WideShapes Go.ChangeAt Go.RowKit
namespace Go.Proofs.YtcimhpdpfckgiaaGreatDoor.kit
theorem byteN_one (s : List UInt8) (back : Bool) (bs : ByteArray) (nt : Bool) (k : Int) (hk : k = 1 ∨ k = 2) (st : ByteArray) (n : Bool) (lo hi : Int) (ts : List RT) (ht : ∀ b, takesB bs nt b = RT.takes k st n b) (i j : Nat) :
 byteN s back bs nt i j ↔ dirT back (RT.M s (.node k st n lo hi ts)) i j := by
 have hM := fun a c => RT.M_one s k hk st n lo hi ts a c
 cases back
 · simp only [dirT, Bool.false_eq_true, if_false]
   rw [hM, ← ht]
   unfold byteN stepN
   simp only [Bool.false_eq_true, if_false]
   by_cases c : i < s.length
   · simp only [if_pos c]
     constructor
     · rintro ⟨b, e, h⟩
       simp only [Option.some.injEq, Prod.mk.injEq] at e
       obtain ⟨rfl, rfl⟩ := e
       exact ⟨c, h, rfl⟩
     · rintro ⟨_, h, rfl⟩
       exact ⟨_, rfl, h⟩
   · simp only [if_neg c]
     constructor
     · rintro ⟨b, e, _⟩; cases e
     · rintro ⟨h, _⟩; exact absurd h c
 · simp only [dirT, if_true]
   rw [hM, ← ht]
   unfold byteN stepN
   simp only [if_true]
   by_cases c : i = 0 ∨ s.length < i
   · simp only [if_pos c]
     constructor
     · rintro ⟨b, e, _⟩; cases e
     · rintro ⟨h, _, e⟩; omega
   · simp only [if_neg c]
     constructor
     · rintro ⟨b, e, h⟩
       simp only [Option.some.injEq, Prod.mk.injEq] at e
       obtain ⟨rfl, rfl⟩ := e
       exact ⟨by omega, h, by omega⟩
     · rintro ⟨h, h', e⟩
       have ej : i - 1 = j := by omega
       exact ⟨s.getD (i - 1) 0, by rw [ej], by rw [ej]; exact h'⟩
theorem wayE_one (s : List UInt8) (back : Bool) (k : Int) (hk : k = 0 ∨ k = 6 ∨ k = 7) (st : ByteArray) (n : Bool) (lo hi : Int) (ts : List RT) (L : Nat) (hL : L = s.length) (i j : Nat) :
 wayE k L i j ↔ dirT back (RT.M s (.node k st n lo hi ts)) i j := by
 subst hL
 have e0 : wayE 0 s.length i j ↔ i = j := by simp [wayE, emptyN]
 have e6 : wayE 6 s.length i j ↔ i = j ∧ i = 0 := by simp [wayE, emptyN]
 have e7 : wayE 7 s.length i j ↔ i = j ∧ i = s.length := by simp [wayE, emptyN]
 rcases hk with rfl | rfl | rfl <;> cases back <;> simp only [dirT, RT.M_none, RT.M_head, RT.M_tail, e0, e6, e7, if_true, Bool.false_eq_true, if_false] <;> omega
theorem wayE_zero (L i j : Nat) : wayE 0 L i j ↔ i = j := by simp [wayE, emptyN]
theorem rpow_le {T : Nat → Nat → Prop} (h : ∀ i j, T i j → i ≤ j) : ∀ (n i j : Nat), rpow T n i j → i ≤ j
 | 0, i, j, hp => by
   have e : i = j := hp
   exact Nat.le_of_eq e
 | n + 1, i, j, hp => by
   obtain ⟨k, a, b⟩ := hp
   have h1 := rpow_le h n i k a
   have h2 := h k j b
   omega
namespace RT
mutual
/-- Nothing goes back. -/
theorem M_le (s : List UInt8) : ∀ (t : RT) (i j : Nat), M s t i j → i ≤ j
 | .node k st n lo hi ts, i, j, h => by
   simp only [M] at h
   split at h
   · exact Nat.le_of_eq h
   · split at h
     · obtain ⟨m, a, b⟩ := h
       have h1 := Ms_le s ts 0 i m a
       have h2 := Ms_le s ts 1 m j b
       omega
     · split at h
       · rcases h with a | a
         · exact Ms_le s ts 0 i j a
         · exact Ms_le s ts 1 i j a
       · split at h
         · obtain ⟨x, _, _, a⟩ := h
           exact rpow_le (fun i j => Ms_le s ts 0 i j) x i j a
         · split at h
           · exact Nat.le_of_eq h.1
           · split at h
             · exact Nat.le_of_eq h.1
             · obtain ⟨a, _, rfl⟩ := h; omega
theorem Ms_le (s : List UInt8) : ∀ (ts : List RT) (x i j : Nat), (Ms s ts).getD x (fun _ _ => False) i j → i ≤ j
 | [], x, i, j, h => by simp [Ms] at h
 | t :: ts, 0, i, j, h => M_le s t i j (by simpa [Ms] using h)
 | t :: ts, x + 1, i, j, h => Ms_le s ts x i j (by simpa [Ms] using h)
end
end RT
theorem dir_bd (s : List UInt8) (back : Bool) (t : RT) (i j : Nat) (hi : i ≤ s.length) (h : dirT back (RT.M s t) i j) : j ≤ s.length := by
 cases back
 · exact (RT.M_bd s t i j h hi).2
 · have : j ≤ i := RT.M_le s t j i h
   omega
inductive LayP (P : List Nat) (s : List UInt8) (R : Nat → Nat → Nat → Prop) (E : Nat → List Nat) (z : Nat) (back : Bool) : RT → Nat → Nat → Prop
 | one (t : RT) (e b : Nat) (he : e ∈ P) (hz : e ≠ z) (hE : E e = [b]) (hR : ∀ i j, R e i j ↔ dirT back (RT.M s t) i j) : LayP P s R E z back t e b
 | cat (st : ByteArray) (n : Bool) (lo hi : Int) (x y : RT) (e m b : Nat) (h : LayP P s R E z back (if back then y else x) e m) (h' : LayP P s R E z back (if back then x else y) m b) : LayP P s R E z back (.node 3 st n lo hi [x, y]) e b
 | alt (st : ByteArray) (n : Bool) (lo hi : Int) (x y : RT) (e p q b : Nat) (he : e ∈ P) (hz : e ≠ z) (hR : ∀ i j, R e i j ↔ i = j) (hE : E e = [p, q]) (h : LayP P s R E z back x p b) (h' : LayP P s R E z back y q b) : LayP P s R E z back (.node 4 st n lo hi [x, y]) e b
theorem LayP.lay {P : List Nat} {s : List UInt8} {R : Nat → Nat → Nat → Prop} {E : Nat → List Nat} {z : Nat} {back : Bool} {t : RT} {e b : Nat} (h : LayP P s R E z back t e b) : LayN s R E z back t e b := by
 induction h with
 | one t e b _ hz hE hR => exact .one t e b hz hE hR
 | cat st n lo hi x y e m b _ _ ih ih' => exact .cat st n lo hi x y e m b ih ih'
 | alt st n lo hi x y e p q b _ hz hR hE _ _ ih ih' => exact .alt st n lo hi x y e p q b hz hR hE ih ih'
theorem LayP.mono {P P' : List Nat} {s : List UInt8} {R R' : Nat → Nat → Nat → Prop} {E E' : Nat → List Nat} {z : Nat} {back : Bool} {t : RT} {e b : Nat} (h : LayP P s R E z back t e b) (hP : ∀ p ∈ P, p ∈ P') (hR : ∀ p ∈ P, R' p = R p) (hE : ∀ p ∈ P, E' p = E p) : LayP P' s R' E' z back t e b := by
 induction h with
 | one t e b he hz hE' hR' => exact .one t e b (hP e he) hz (by rw [hE e he]; exact hE') (by rw [hR e he]; exact hR')
 | cat st n lo hi x y e m b _ _ ih ih' => exact .cat st n lo hi x y e m b ih ih'
 | alt st n lo hi x y e p q b he hz hR' hE' _ _ ih ih' => exact .alt st n lo hi x y e p q b (hP e he) hz (by rw [hR e he]; exact hR') (by rw [hE e he]; exact hE') ih ih'
theorem LayP.first {P : List Nat} {s : List UInt8} {R : Nat → Nat → Nat → Prop} {E : Nat → List Nat} {z : Nat} {back : Bool} {t : RT} {e b : Nat} (h : LayP P s R E z back t e b) : e ∈ P := by
 induction h with
 | one t e b he => exact he
 | cat _ _ _ _ _ _ _ _ _ _ _ ih => exact ih
 | alt _ _ _ _ _ _ _ _ _ _ he => exact he
def up {α : Type} (f : Nat → α) (p : Nat) (x : α) (q : Nat) : α := if q = p then x else f q
theorem up_at {α : Type} (f : Nat → α) (p : Nat) (x : α) : up f p x p = x := if_pos rfl
theorem up_off {α : Type} (f : Nat → α) {p q : Nat} (x : α) (h : q ≠ p) : up f p x q = f q := if_neg h
structure Pt where
 p : Nat
 T : TypeId
 fp : Nat
 R : Nat → Nat → Prop
 E : List Nat
 Ok : (Nat → Prop) → World → Prop
 aq : Option Addr
 cq : Nat
def Nt.put (D : Nt) (lp : Bool) (x : Pt) : Nt where
 ps := if lp then D.ps else D.ps ++ [x.p]
 ls := if lp then D.ls ++ [x.p] else D.ls
 f := D.f
 z := D.z
 T := up D.T x.p x.T
 fp := up D.fp x.p x.fp
 R := up D.R x.p x.R
 E := up D.E x.p x.E
 Ok := up D.Ok x.p x.Ok
 aa := D.aa
 cc := D.cc
 aq := up D.aq x.p x.aq
 cq := up D.cq x.p x.cq
theorem Nt.put_P (D : Nt) (lp : Bool) (x : Pt) (q : Nat) : q ∈ (D.put lp x).P ↔ q = x.p ∨ q ∈ D.P := by
 cases lp <;> simp [Nt.put, Nt.P] <;> constructor <;> intro h <;> (first | (rcases h with h | h | h <;> simp [h]) | (rcases h with h | h <;> simp [h]))
structure NtExt (m : Nat) (D D' : Nt) : Prop where
 P : ∀ p ∈ D.P, p ∈ D'.P
 z : D'.z = D.z
 R : ∀ p ∈ D.P, D'.R p = D.R p
 E : ∀ p ∈ D.P, D'.E p = D.E p
 T : ∀ p ∈ D.P, D'.T p = D.T p
 l : D'.P.length ≤ D.P.length + m
theorem NtExt.refl (D : Nt) (m : Nat) : NtExt m D D := ⟨fun _ h => h, rfl, fun _ _ => rfl, fun _ _ => rfl, fun _ _ => rfl, by omega⟩
theorem NtExt.trans {m n : Nat} {D D1 D2 : Nt} (h : NtExt m D D1) (h' : NtExt n D1 D2) : NtExt (m + n) D D2 :=
 ⟨fun p hp => h'.P p (h.P p hp), h'.z.trans h.z, fun p hp => (h'.R p (h.P p hp)).trans (h.R p hp), fun p hp => (h'.E p (h.P p hp)).trans (h.E p hp), fun p hp => (h'.T p (h.P p hp)).trans (h.T p hp), by have := h.l; have := h'.l; omega⟩
theorem NtExt.mono {m n : Nat} {D D1 : Nt} (h : NtExt m D D1) (hmn : m ≤ n) : NtExt n D D1 := ⟨h.P, h.z, h.R, h.E, h.T, by have := h.l; omega⟩
theorem NtExt.put {D : Nt} (lp : Bool) {x : Pt} (hx : x.p ∉ D.P) : NtExt 1 D (D.put lp x) := by
 have hne : ∀ p ∈ D.P, p ≠ x.p := fun p hp e => hx (e ▸ hp)
 refine ⟨fun p hp => (D.put_P lp x p).2 (.inr hp), rfl, fun p hp => up_off _ _ (hne p hp), fun p hp => up_off _ _ (hne p hp), fun p hp => up_off _ _ (hne p hp), ?_⟩
 cases lp <;> simp [Nt.put, Nt.P] <;> omega
theorem NtExt.lay {m : Nat} {D D' : Nt} (h : NtExt m D D') {s : List UInt8} {back : Bool} {t : RT} {e b : Nat} (hl : LayP D.P s D.R D.E D.z back t e b) : LayP D'.P s D'.R D'.E D'.z back t e b := by
 rw [h.z]; exact hl.mono h.P h.R h.E
theorem OwnQ.congr {B : Nat} {w : World} {v : Value} {T T' : Nat → TypeId} {ps : List Nat} (h : OwnQ B w v T ps) (hT : ∀ p ∈ ps, T' p = T p) : OwnQ B w v T' ps := by
 have e : (ps.map fun p => partV (T' p) p) = ps.map fun p => partV (T p) p := List.map_congr_left fun p hp => by rw [hT p hp]
 unfold OwnQ; rw [e]; exact h
theorem PartsAt.congr {w : World} {T T' : Nat → TypeId} {ps : List Nat} {a : Option Addr} (h : PartsAt w T ps a) (hT : ∀ p ∈ ps, T' p = T p) : PartsAt w T' ps a := fun i hi => by
 obtain ⟨g, e, h1⟩ := h i hi
 exact ⟨g, e, by rw [hT _ (List.getElem_mem hi)]; exact h1⟩
structure NtL (K N L C nb : Nat) (s : ByteArray) (back : Bool) (D : Nt) (Fs : Nat → Nat → Prop) (F : Nat → Prop) (w : World) : Prop where
 pass : ∀ p ∈ D.P, PassOk K N L p (D.fp p) (D.T p) (D.R p) (D.Ok p)
 hT : ∀ p ∈ D.P, PartT (D.T p)
 hE : ∀ p ∈ D.P, ∀ q ∈ D.E p, q ∈ D.P
 lE : ∀ p ∈ D.P, (D.E p).length ≤ 2
 z : D.z ∈ D.P
 zT : D.T D.z = 87
 zOk : D.Ok D.z = OkE D.z 0 ⟨#[]⟩
 zR : ∀ i j, D.R D.z i j ↔ i = j
 hn : C ≤ nb ∧ nb < w.heap.size ∧ nb ∉ D.P
 hP : ∀ p ∈ D.P, C ≤ p ∧ p < w.heap.size
 aq : ∀ p ∈ D.P, ∀ x, D.aq p = some x → C ≤ x.block ∧ x.block < w.heap.size ∧ x.block ∉ D.P ∧ x.block ≠ nb ∧ ¬ F x.block
 hF : ∀ k, F k → C ≤ k ∧ k < w.heap.size ∧ k ∉ D.P
 Fn : F nb
 c0 : w.cell? ⟨nb, 0, none⟩ = some (.string s)
 c1 : w.cell? ⟨nb, 1, none⟩ = some (.bool back)
 row2 : ∃ v, w.cell? ⟨nb, 2, none⟩ = some v ∧ OwnQ (nb + 1) w v D.T D.ps ∧ ∀ k, v.ownBlock = some k → F k
 row3 : ∃ v, w.cell? ⟨nb, 3, none⟩ = some v ∧ OwnQ (nb + 1) w v D.T D.ls ∧ ∀ k, v.ownBlock = some k → F k
 r23 : ∀ v v', w.cell? ⟨nb, 2, none⟩ = some v → w.cell? ⟨nb, 3, none⟩ = some v' → ∀ k, v.ownBlock = some k → v'.ownBlock ≠ some k
 c4 : ∃ v, w.cell? ⟨nb, 4, none⟩ = some v
 c5 : w.cell? ⟨nb, 5, none⟩ = some (.pointer (some ⟨D.z, 0, none⟩))
 fr : ∀ j, w.frozen? ⟨nb, j, none⟩ = false
 zf : w.frozen? ⟨D.z, 6, none⟩ = false
 s2 : ∀ p ∈ D.P, SetAt K p 2 0 [] none w
 s4 : ∀ p ∈ D.P, SetAt K p 4 0 [] none w
 c6 : ∀ p ∈ D.P, w.cell? ⟨p, 6, none⟩ = some (.slice (D.aq p) (D.E p).length (D.cq p))
 r6 : ∀ p ∈ D.P, PartsAt w D.T (D.E p) (D.aq p)
 ok : ∀ p ∈ D.P, D.Ok p (Fs p) w
 off : ∀ p ∈ D.P, ∀ k, Fs p k → C ≤ k ∧ k ∉ D.P ∧ ¬ F k ∧ ∀ q ∈ D.P, ∀ x, D.aq q = some x → k ≠ x.block
 two : ∀ p ∈ D.P, ∀ q ∈ D.P, p ≠ q → ∀ k, Fs p k → ¬ Fs q k
def Nt.ownL (D : Nt) (Fs : Nat → Nat → Prop) (F : Nat → Prop) (k : Nat) : Prop := F k ∨ k ∈ D.P ∨ (∃ q ∈ D.P, ∃ x, D.aq q = some x ∧ k = x.block) ∨ ∃ q ∈ D.P, Fs q k
theorem NtL.lt {K N L C nb : Nat} {s : ByteArray} {back : Bool} {D : Nt} {Fs : Nat → Nat → Prop} {F : Nat → Prop} {w : World} (h : NtL K N L C nb s back D Fs F w) {p k : Nat} (hp : p ∈ D.P) (hk : Fs p k) : k < w.heap.size := ((h.pass p hp).lt _ _ k (h.ok p hp) hk).2
theorem NtL.ownlt {K N L C nb : Nat} {s : ByteArray} {back : Bool} {D : Nt} {Fs : Nat → Nat → Prop} {F : Nat → Prop} {w : World} (h : NtL K N L C nb s back D Fs F w) {k : Nat} (hk : D.ownL Fs F k) : C ≤ k ∧ k < w.heap.size := by
 rcases hk with hk | hk | ⟨q, hq, x, hx, rfl⟩ | ⟨q, hq, hk⟩
 · exact ⟨(h.hF k hk).1, (h.hF k hk).2.1⟩
 · exact h.hP k hk
 · exact ⟨(h.aq q hq x hx).1, (h.aq q hq x hx).2.1⟩
 · exact ⟨(h.off q hq k hk).1, h.lt hq hk⟩
theorem NtL.keep {K N L C nb : Nat} {s : ByteArray} {back : Bool} {D : Nt} {Fs : Nat → Nat → Prop} {F : Nat → Prop} {w w' : World} (h : NtL K N L C nb s back D Fs F w) (hKC : K ≤ C) (hz : w.heap.size ≤ w'.heap.size) (hb : ∀ k, k < w.heap.size → w'.heap[k]? = w.heap[k]?) : NtL K N L C nb s back D Fs F w' := by
 have hK : K ≤ w.heap.size := by have := h.hn; omega
 have hn := hb nb h.hn.2.1
 have hp := fun p m => hb p (h.hP p m).2
 have hc := fun j => cob (a := ⟨nb, j, none⟩) hn
 have hrow : ∀ (v : Value) (ps : List Nat), OwnQ (nb + 1) w v D.T ps → OwnQ (nb + 1) w' v D.T ps := fun v ps ho => by
  rcases ho.2 with ⟨e, h0⟩ | ⟨g, cap, cur, e, a1, a2, a3, a4, a5⟩
  · exact ⟨ho.1, .inl ⟨e, h0⟩⟩
  · have hg : g < w.heap.size := (Array.getElem?_eq_some_iff.1 a2).1
    exact ⟨ho.1, .inr ⟨g, cap, cur, e, a1, (hb g hg).trans a2, a3, a4, a5⟩⟩
 refine ⟨h.pass, h.hT, h.hE, h.lE, h.z, h.zT, h.zOk, h.zR, ⟨h.hn.1, by have := h.hn.2.1; omega, h.hn.2.2⟩, fun p m => ⟨(h.hP p m).1, by have := (h.hP p m).2; omega⟩, fun p m x hx => ?_, fun k hk => ?_, h.Fn, (hc 0).trans h.c0, (hc 1).trans h.c1, ?_, ?_, ?_, ?_, (hc 5).trans h.c5, fun j => (World.frozen?_of_block (a := ⟨nb, j, none⟩) hn).trans (h.fr j), (World.frozen?_of_block (a := ⟨D.z, 6, none⟩) (hp _ h.z)).trans h.zf, fun p m => (h.s2 p m).keep (hp p m) (fun k hk => by cases hk), fun p m => (h.s4 p m).keep (hp p m) (fun k hk => by cases hk), fun p m => (cob (a := ⟨p, 6, none⟩) (hp p m)).trans (h.c6 p m), fun p m => (h.r6 p m).keep (fun x hx => hb _ (h.aq p m x hx).2.1), fun p m => ?_, h.off, h.two⟩
 · obtain ⟨a1, a2, a3, a4, a5⟩ := h.aq p m x hx
   exact ⟨a1, by omega, a3, a4, a5⟩
 · obtain ⟨a1, a2, a3⟩ := h.hF k hk
   exact ⟨a1, by omega, a3⟩
 · obtain ⟨v, e, o, f⟩ := h.row2
   exact ⟨v, (hc 2).trans e, hrow _ _ o, f⟩
 · obtain ⟨v, e, o, f⟩ := h.row3
   exact ⟨v, (hc 3).trans e, hrow _ _ o, f⟩
 · intro v v' e e'
   rw [hc 2] at e; rw [hc 3] at e'
   exact h.r23 v v' e e'
 · obtain ⟨v, e⟩ := h.c4
   exact ⟨v, (hc 4).trans e⟩
 · exact (h.pass p m).keep _ _ _ (h.ok p m) hz (fun k hk => hb k (by
    rcases hk with hk | hk
    · omega
    · exact h.lt m hk)) (fun j _ => cob (a := ⟨p, j, none⟩) (hp p m))
theorem NtL.kept {K N L C nb : Nat} {s : ByteArray} {back : Bool} {D : Nt} {Fs : Nat → Nat → Prop} {F : Nat → Prop} {w w' : World} (h : NtL K N L C nb s back D Fs F w) (hKC : K ≤ C) (hb : Below w.heap.size w w') : NtL K N L C nb s back D Fs F w' := h.keep hKC hb.size hb.block
theorem OwnQ.keepB {B : Nat} {w w' : World} {v : Value} {T : Nat → TypeId} {ps : List Nat} (h : OwnQ B w v T ps) (hb : ∀ k, v.ownBlock = some k → w'.heap[k]? = w.heap[k]?) : OwnQ B w' v T ps := by
 rcases h.2 with ⟨e, h0⟩ | ⟨g, cap, cur, e, a1, a2, a3, a4, a5⟩
 · exact ⟨h.1, .inl ⟨e, h0⟩⟩
 · exact ⟨h.1, .inr ⟨g, cap, cur, e, a1, (hb g (by rw [e]; rfl)).trans a2, a3, a4, a5⟩⟩
theorem SetAt.lift {B B' q o : Nat} {w : World} (h : SetAt B q o 0 [] none w) : SetAt B' q o 0 [] none w := by
 obtain ⟨a, c, h1, h2, h3⟩ := h.c1
 refine ⟨h.c0, ⟨a, c, h1, ?_, h3⟩, h.f0, h.f1, h.ne⟩
 rcases h2.2 with ⟨e, h0⟩ | ⟨g, cap, cur, e, _⟩
 · exact ⟨h2.1, .inl ⟨e, h0⟩⟩
 · rw [e] at h3; cases h3
structure PtOk (K N L C nb : Nat) (D : Nt) (Fs : Nat → Nat → Prop) (lp : Bool) (x : Pt) (Fp F F' : Nat → Prop) (w w' : World) : Prop where
 pass : PassOk K N L x.p x.fp x.T x.R x.Ok
 hT : PartT x.T
 hE : ∀ q ∈ x.E, q ∈ D.P
 lE : x.E.length ≤ 2
 new : C ≤ x.p ∧ x.p < w'.heap.size ∧ ¬ D.ownL Fs F x.p
 aq : ∀ y, x.aq = some y → C ≤ y.block ∧ y.block < w'.heap.size ∧ ¬ D.ownL Fs F y.block ∧ y.block ≠ x.p ∧ ¬ F' y.block
 hF : ∀ k, F' k → (F k ∨ w.heap.size ≤ k) ∧ k < w'.heap.size ∧ k ≠ x.p
 FF : ∀ k, F k → F' k
 cn : ∀ j, j = 0 ∨ j = 1 ∨ j = 4 ∨ j = 5 → w'.cell? ⟨nb, j, none⟩ = w.cell? ⟨nb, j, none⟩
 fr : ∀ j, w'.frozen? ⟨nb, j, none⟩ = w.frozen? ⟨nb, j, none⟩
 row2 : ∃ v, w'.cell? ⟨nb, 2, none⟩ = some v ∧ OwnQ (nb + 1) w' v (D.put lp x).T (D.put lp x).ps ∧ ∀ k, v.ownBlock = some k → F' k
 row3 : ∃ v, w'.cell? ⟨nb, 3, none⟩ = some v ∧ OwnQ (nb + 1) w' v (D.put lp x).T (D.put lp x).ls ∧ ∀ k, v.ownBlock = some k → F' k
 r23 : ∀ v v', w'.cell? ⟨nb, 2, none⟩ = some v → w'.cell? ⟨nb, 3, none⟩ = some v' → ∀ k, v.ownBlock = some k → v'.ownBlock ≠ some k
 s2 : SetAt K x.p 2 0 [] none w'
 s4 : SetAt K x.p 4 0 [] none w'
 c6 : w'.cell? ⟨x.p, 6, none⟩ = some (.slice x.aq x.E.length x.cq)
 r6 : PartsAt w' D.T x.E x.aq
 ok : x.Ok Fp w'
 off : ∀ k, Fp k → C ≤ k ∧ ¬ D.ownL Fs F k ∧ k ≠ x.p ∧ ¬ F' k ∧ ∀ y, x.aq = some y → k ≠ y.block
 size : w.heap.size ≤ w'.heap.size
 chg : ∀ k, k < w.heap.size → ¬ F k → k ≠ x.p → w'.heap[k]? = w.heap[k]?
theorem NtL.put {K N L C nb : Nat} {s : ByteArray} {back : Bool} {D : Nt} {Fs : Nat → Nat → Prop} {F F' Fp : Nat → Prop} {w w' : World} {lp : Bool} {x : Pt} (h : NtL K N L C nb s back D Fs F w) (hKC : K ≤ C) (hx : PtOk K N L C nb D Fs lp x Fp F F' w w') :
 NtL K N L C nb s back (D.put lp x) (updF Fs x.p Fp) F' w' := by
 have hsz := hx.size
 have hnew := hx.new
 have hCw : C ≤ w.heap.size := by have := h.hn; omega
 have hxF : ¬ F x.p := fun f => hnew.2.2 (.inl f)
 have hxP : x.p ∉ D.P := fun m => hnew.2.2 (.inr (.inl m))
 have hxq : ∀ q ∈ D.P, ∀ y, D.aq q = some y → x.p ≠ y.block := fun q hq y hy e => hnew.2.2 (.inr (.inr (.inl ⟨q, hq, y, hy, e⟩)))
 have hxs : ∀ q ∈ D.P, ¬ Fs q x.p := fun q hq f => hnew.2.2 (.inr (.inr (.inr ⟨q, hq, f⟩)))
 have hne : ∀ p ∈ D.P, p ≠ x.p := fun p hp e => hxP (e ▸ hp)
 have hin := D.put_P lp x
 have hpb : ∀ p ∈ D.P, w'.heap[p]? = w.heap[p]? := fun p hp => hx.chg p (h.hP p hp).2 (fun f => (h.hF p f).2.2 hp) (hne p hp)
 have hK : ∀ k, k < K → w'.heap[k]? = w.heap[k]? := fun k hk => hx.chg k (by omega) (fun f => by have := (h.hF k f).1; omega) (by omega)
 have hFs : ∀ p ∈ D.P, ∀ k, Fs p k → w'.heap[k]? = w.heap[k]? := fun p hp k hk => hx.chg k (h.lt hp hk) (h.off p hp k hk).2.2.1 (fun e => hxs p hp (e ▸ hk))
 have hTP : ∀ (q : Nat), q ∈ D.P → (D.put lp x).T q = D.T q := fun q hq => up_off _ _ (hne q hq)
 have hxn : x.p ≠ nb := fun e => hxF (e ▸ h.Fn)
 constructor
 · intro p hp
   rcases (hin p).1 hp with rfl | hp
   · simp only [Nt.put, up_at]; exact hx.pass
   · simp only [Nt.put, up_off _ _ (hne p hp)]; exact h.pass p hp
 · intro p hp
   rcases (hin p).1 hp with rfl | hp
   · simp only [Nt.put, up_at]; exact hx.hT
   · rw [hTP p hp]; exact h.hT p hp
 · intro p hp q hq
   rcases (hin p).1 hp with rfl | hp
   · simp only [Nt.put, up_at] at hq; exact (hin q).2 (.inr (hx.hE q hq))
   · simp only [Nt.put, up_off _ _ (hne p hp)] at hq; exact (hin q).2 (.inr (h.hE p hp q hq))
 · intro p hp
   rcases (hin p).1 hp with rfl | hp
   · simp only [Nt.put, up_at]; exact hx.lE
   · simp only [Nt.put, up_off _ _ (hne p hp)]; exact h.lE p hp
 · exact (hin _).2 (.inr h.z)
 · exact (hTP _ h.z).trans h.zT
 · show up D.Ok x.p x.Ok D.z = OkE D.z 0 ⟨#[]⟩
   rw [up_off _ _ (hne _ h.z)]; exact h.zOk
 · intro i j
   show up D.R x.p x.R D.z i j ↔ i = j
   rw [up_off _ _ (hne _ h.z)]; exact h.zR i j
 · exact ⟨h.hn.1, by have := h.hn.2.1; omega, fun m => ((hin nb).1 m).elim (fun e => hxn e.symm) h.hn.2.2⟩
 · intro p hp
   rcases (hin p).1 hp with rfl | hp
   · exact ⟨hnew.1, hnew.2.1⟩
   · exact ⟨(h.hP p hp).1, by have := (h.hP p hp).2; omega⟩
 · intro p hp y hy
   rcases (hin p).1 hp with rfl | hp
   · simp only [Nt.put, up_at] at hy
     obtain ⟨a1, a2, a3, a4, a5⟩ := hx.aq y hy
     exact ⟨a1, a2, fun m => ((hin _).1 m).elim a4 (fun m => a3 (.inr (.inl m))), fun e => a3 (.inl (e ▸ h.Fn)), a5⟩
   · simp only [Nt.put, up_off _ _ (hne p hp)] at hy
     obtain ⟨a1, a2, a3, a4, a5⟩ := h.aq p hp y hy
     exact ⟨a1, by omega, fun m => ((hin _).1 m).elim (fun e => hxq p hp y hy e.symm) a3, a4, fun f => ((hx.hF _ f).1).elim a5 (fun g => by omega)⟩
 · intro k hk
   obtain ⟨a1, a2, a3⟩ := hx.hF k hk
   refine ⟨a1.elim (fun f => (h.hF k f).1) (fun g => by omega), a2, fun m => ((hin _).1 m).elim a3 (fun m => ?_)⟩
   rcases a1 with f | g
   · exact (h.hF k f).2.2 m
   · have := (h.hP _ m).2; omega
 · exact hx.FF nb h.Fn
 · exact (hx.cn 0 (by omega)).trans h.c0
 · exact (hx.cn 1 (by omega)).trans h.c1
 · exact hx.row2
 · exact hx.row3
 · exact hx.r23
 · obtain ⟨v, e⟩ := h.c4; exact ⟨v, (hx.cn 4 (by omega)).trans e⟩
 · exact (hx.cn 5 (by omega)).trans h.c5
 · exact fun j => (hx.fr j).trans (h.fr j)
 · exact (World.frozen?_of_block (a := ⟨D.z, 6, none⟩) (hpb _ h.z)).trans h.zf
 · intro p hp
   rcases (hin p).1 hp with rfl | hp
   · exact hx.s2
   · exact (h.s2 p hp).keep (hpb p hp) (fun k hk => by cases hk)
 · intro p hp
   rcases (hin p).1 hp with rfl | hp
   · exact hx.s4
   · exact (h.s4 p hp).keep (hpb p hp) (fun k hk => by cases hk)
 · intro p hp
   rcases (hin p).1 hp with rfl | hp
   · simp only [Nt.put, up_at]; exact hx.c6
   · simp only [Nt.put, up_off _ _ (hne p hp)]
     exact (cob (a := ⟨p, 6, none⟩) (hpb p hp)).trans (h.c6 p hp)
 · intro p hp
   rcases (hin p).1 hp with rfl | hp
   · show PartsAt w' (D.put lp x).T (up D.E x.p x.E x.p) (up D.aq x.p x.aq x.p)
     rw [up_at, up_at]
     exact hx.r6.congr (fun q hq => hTP q (hx.hE q hq))
   · show PartsAt w' (D.put lp x).T (up D.E x.p x.E p) (up D.aq x.p x.aq p)
     rw [up_off _ _ (hne p hp), up_off _ _ (hne p hp)]
     exact ((h.r6 p hp).keep (fun y hy => hx.chg _ (h.aq p hp y hy).2.1 (h.aq p hp y hy).2.2.2.2 (fun e => hxq p hp y hy e.symm))).congr (fun q hq => hTP q (h.hE p hp q hq))
 · intro p hp
   rcases (hin p).1 hp with rfl | hp
   · simp only [Nt.put, up_at, updF_at]; exact hx.ok
   · simp only [Nt.put, up_off _ _ (hne p hp), updF_off _ _ (hne p hp)]
     exact (h.pass p hp).keep _ _ _ (h.ok p hp) hsz (fun k hk => hk.elim (hK k) (hFs p hp k)) (fun j _ => cob (a := ⟨p, j, none⟩) (hpb p hp))
 · intro p hp k hk
   rcases (hin p).1 hp with rfl | hp
   · rw [updF_at] at hk
     obtain ⟨a0, a1, a2, a3, a4⟩ := hx.off k hk
     refine ⟨a0, fun m => ((hin _).1 m).elim a2 (fun m => a1 (.inr (.inl m))), a3, fun q hq y hy => ?_⟩
     rcases (hin q).1 hq with rfl | hq
     · simp only [Nt.put, up_at] at hy; exact a4 y hy
     · simp only [Nt.put, up_off _ _ (hne q hq)] at hy
       exact fun e => a1 (.inr (.inr (.inl ⟨q, hq, y, hy, e⟩)))
   · rw [updF_off _ _ (hne p hp)] at hk
     have hl := h.lt hp hk
     obtain ⟨a1, a2, a3, a4⟩ := h.off p hp k hk
     refine ⟨a1, fun m => ((hin _).1 m).elim (fun e => hxs p hp (e ▸ hk)) a2, fun f => ((hx.hF _ f).1).elim a3 (fun g => by omega), fun q hq y hy => ?_⟩
     rcases (hin q).1 hq with rfl | hq
     · simp only [Nt.put, up_at] at hy
       exact fun e => (hx.aq y hy).2.2.1 (.inr (.inr (.inr ⟨p, hp, e ▸ hk⟩)))
     · simp only [Nt.put, up_off _ _ (hne q hq)] at hy
       exact a4 q hq y hy
 · intro p hp q hq hpq k hk hk'
   rcases (hin p).1 hp with rfl | hp
   · rcases (hin q).1 hq with rfl | hq
     · exact hpq rfl
     · rw [updF_at] at hk; rw [updF_off _ _ (hne q hq)] at hk'
       exact (hx.off k hk).2.1 (.inr (.inr (.inr ⟨q, hq, hk'⟩)))
   · rcases (hin q).1 hq with rfl | hq
     · rw [updF_off _ _ (hne p hp)] at hk; rw [updF_at] at hk'
       exact (hx.off k hk').2.1 (.inr (.inr (.inr ⟨p, hp, hk⟩)))
     · rw [updF_off _ _ (hne p hp)] at hk; rw [updF_off _ _ (hne q hq)] at hk'
       exact h.two p hp q hq hpq k hk hk'
theorem Nt.put_own {D : Nt} {Fs : Nat → Nat → Prop} {lp : Bool} {x : Pt} {Fp F' : Nat → Prop} (hxP : x.p ∉ D.P) {k : Nat} (hk : (D.put lp x).ownL (updF Fs x.p Fp) F' k) : F' k ∨ k = x.p ∨ (∃ y, x.aq = some y ∧ k = y.block) ∨ Fp k ∨ D.ownL Fs (fun _ => False) k := by
 have hne : ∀ p ∈ D.P, p ≠ x.p := fun p hp e => hxP (e ▸ hp)
 have hin := D.put_P lp x
 rcases hk with hk | hk | ⟨q, hq, y, hy, rfl⟩ | ⟨q, hq, hk⟩
 · exact .inl hk
 · rcases (hin k).1 hk with rfl | hk
   · exact .inr (.inl rfl)
   · exact .inr (.inr (.inr (.inr (.inr (.inl hk)))))
 · rcases (hin q).1 hq with rfl | hq
   · simp only [Nt.put, up_at] at hy; exact .inr (.inr (.inl ⟨y, hy, rfl⟩))
   · simp only [Nt.put, up_off _ _ (hne q hq)] at hy
     exact .inr (.inr (.inr (.inr (.inr (.inr (.inl ⟨q, hq, y, hy, rfl⟩))))))
 · rcases (hin q).1 hq with rfl | hq
   · rw [updF_at] at hk; exact .inr (.inr (.inr (.inl hk)))
   · rw [updF_off _ _ (hne q hq)] at hk
     exact .inr (.inr (.inr (.inr (.inr (.inr (.inr ⟨q, hq, hk⟩))))))
def zeroSt : St := ⟨fun _ => 0, fun _ => [], fun _ => none, fun _ => 0, fun _ => [], fun _ => none⟩
def Nt.done (D : Nt) (f : Nat) (a2 : Option Addr) (c2 : Nat) (a3 : Option Addr) (c3 : Nat) : Nt :=
 { D with f := f, aa := fun i => if i = 0 then a2 else if i = 1 then a3 else none, cc := fun i => if i = 0 then c2 else c3 }
structure NtZ (K N L nb : Nat) (D : Nt) (Fs : Nat → Nat → Prop) (O : Nat → Prop) (w : World) : Prop where
 fix : NtFix K N L w.heap.size nb D
 at' : NtAt K N L w.heap.size nb D zeroSt Fs w
 own : ∀ k, D.own nb zeroSt Fs k → O k
 rest : zeroSt.rest D.P
theorem NtL.done {K N L C nb : Nat} {s : ByteArray} {back : Bool} {D : Nt} {Fs : Nat → Nat → Prop} {F : Nat → Prop} {w : World} (h : NtL K N L C nb s back D Fs F w) (hKC : K ≤ C) (hN : N ≤ 1048576) (hl : D.P.length ≤ 1048576) {f : Nat} (hf : f ∈ D.P) (h4 : w.cell? ⟨nb, 4, none⟩ = some (partV (D.T f) f)) :
 ∃ a2 c2 a3 c3, NtZ K N L nb (D.done f a2 c2 a3 c3) Fs (D.ownL Fs F) w := by
 obtain ⟨v2, e2, o2, f2⟩ := h.row2
 obtain ⟨v3, e3, o3, f3⟩ := h.row3
 obtain ⟨a2, c2, rfl, r2, l2⟩ := o2.row
 obtain ⟨a3, c3, rfl, r3, l3⟩ := o3.row
 have hb2 : ∀ y, a2 = some y → F y.block := fun y hy => f2 _ (by rw [hy]; rfl)
 have hb3 : ∀ y, a3 = some y → F y.block := fun y hy => f3 _ (by rw [hy]; rfl)
 have hPl : D.P.length = D.ps.length + D.ls.length := by simp [Nt.P]
 have haa : ∀ i y, (D.done f a2 c2 a3 c3).aa i = some y → F y.block := fun i y hy => by
  simp only [Nt.done] at hy
  split at hy
  · exact hb2 y hy
  · split at hy
    · exact hb3 y hy
    · cases hy
 have hPP : (D.done f a2 c2 a3 c3).P = D.P := rfl
 have hnr : ∀ k, ¬ StRow D.P zeroSt k := fun k hk => by
  obtain ⟨p, _, x | x⟩ := hk <;> cases x
 have hnone : ∀ (p j : Nat), ¬ zeroSt.waits p j ∧ ¬ zeroSt.begun p j := fun p j => ⟨fun x => memS_nil _ _ x, fun x => memS_nil _ _ x⟩
 refine ⟨a2, c2, a3, c3, ⟨h.pass, h.hT, h.hE, (show D.ps.length ≤ 1048576 by omega), (show D.ls.length ≤ 1048576 by omega), fun p hp => by have := h.lE p hp; show (D.E p).length ≤ 1048576; omega, hf, h.z, ⟨by have := h.hn.1; omega, h.hn.2⟩, fun p hp => by have := (h.hP p hp).1; omega, fun i x hx => ?_, fun p hp x hx => ?_, hN⟩, ⟨⟨fun p hp => (h.s2 p hp).lift, fun p hp => (h.s4 p hp).lift, fun p hp => SetB.nil N 0 (Nat.zero_le _), fun p hp => SetB.nil N 0 (Nat.zero_le _), fun p hp => (h.hP p hp).2, fun p _ q _ _ k hk => (by cases hk), fun p _ q _ _ k hk => (by cases hk), fun p _ q _ k hk => (by cases hk)⟩, Nat.le_refl _, e2, e3, h4, h.c5, r2, r3, h.c6, h.r6, h.ok, fun p hp k hk => ⟨(h.off p hp k hk).2.1, ?_, hnr k⟩, h.two⟩, fun k hk => ?_, fun p _ j => hnone p j⟩
 · obtain ⟨a, b, c⟩ := h.hF _ (haa i x hx)
   exact ⟨by omega, b, c⟩
 · obtain ⟨a, b, c, _⟩ := h.aq p hp x hx
   exact ⟨by omega, b, c⟩
 · obtain ⟨a1, a2', a3', a4⟩ := h.off p hp k hk
   rintro (rfl | ⟨i, x, hx, rfl⟩ | ⟨q, hq, x, hx, rfl⟩)
   · exact a3' h.Fn
   · exact a3' (haa i x hx)
   · exact a4 q hq x hx rfl
 · rcases hk with (rfl | ⟨i, x, hx, rfl⟩ | ⟨q, hq, x, hx, rfl⟩) | hk | hk | ⟨p, hp, hk⟩
   · exact .inl h.Fn
   · exact .inl (haa i x hx)
   · exact .inr (.inr (.inl ⟨q, hq, x, hx, rfl⟩))
   · exact .inr (.inl hk)
   · exact absurd hk (hnr k)
   · exact .inr (.inr (.inr ⟨p, hp, hk⟩))
end Go.Proofs.YtcimhpdpfckgiaaGreatDoor.kit
