/-
  Laying a tree as a net: what add leaves of a net that is being laid; what laying wants and leaves. Conditions: each theorem names its own.
-/
import Derived.Test.YtcimhpdpfckgiaaGreatDoorMxMi2
import Derived.Test.YtcimhpdpfckgiaaGreatDoorMxRe1
import Derived.Test.YtcimhpdpfckgiaaGreatDoorMxKit
import Derived.Laws.OwnMore
import Derived.Deep.RegionHeld3
set_option linter.unusedVariables false
set_option linter.unusedSimpArgs false
open Go.ChangeShapes Go.WideShapes Go.ChangeAt Go.RowKit
namespace Go.Proofs.YtcimhpdpfckgiaaGreatDoor.kit
theorem SetAt.zero {B q o : Nat} {w : World} (h0 : w.cell? ⟨q, o, none⟩ = some (.int .i64 0)) (h1 : w.cell? ⟨q, o + 1, none⟩ = some (.slice none 0 0)) (f0 : w.frozen? ⟨q, o, none⟩ = false) (f1 : w.frozen? ⟨q, o + 1, none⟩ = false) : SetAt B q o 0 [] none w :=
 ⟨h0, ⟨none, 0, h1, World.ownsRow_nil _ _ _ _, rfl⟩, f0, f1, by simp⟩
def AddPost (K N C nb : Nat) (s : ByteArray) (back : Bool) (D : Nt) (Fs : Nat → Nat → Prop) (F : Nat → Prop) (x : Pt) (w : World) (e : Ending) (w' : World) : Prop :=
 e = .returned (partV x.T x.p) ∧ ∃ F', NtL K N s.size C nb s back (D.put false x) (updF Fs x.p (fun _ => False)) F' w' ∧ (∀ k, F' k → F k ∨ w.heap.size ≤ k) ∧ GuestChg (fun k => F k ∨ k = x.p) w w'
theorem layAdd {K N C nb : Nat} {s : ByteArray} {back : Bool} {D : Nt} {Fs : Nat → Nat → Prop} {F : Nat → Prop} {w : World} (h : NtL K N s.size C nb s back D Fs F w) (hKC : K ≤ C) (x : Pt) (hpass : PassOk K N s.size x.p x.fp x.T x.R x.Ok) (hT : PartT x.T) (hE : ∀ q ∈ x.E, q ∈ D.P) (hlE : x.E.length ≤ 2)
 (hp : C ≤ x.p ∧ x.p < w.heap.size ∧ ¬ D.ownL Fs F x.p) (haq : ∀ y, x.aq = some y → C ≤ y.block ∧ y.block < w.heap.size ∧ ¬ D.ownL Fs F y.block ∧ y.block ≠ x.p) (s2 : SetAt K x.p 2 0 [] none w) (s4 : SetAt K x.p 4 0 [] none w) (v0 : Value) (h6 : w.cell? ⟨x.p, 6, none⟩ = some v0) (hf6 : w.frozen? ⟨x.p, 6, none⟩ = false)
 (r6 : PartsAt w D.T x.E x.aq) (hok : ∀ w' : World, w.heap.size ≤ w'.heap.size → (∀ k, k < K → w'.heap[k]? = w.heap[k]?) → (∀ j, j ≠ 6 → w'.cell? ⟨x.p, j, none⟩ = w.cell? ⟨x.p, j, none⟩) → x.Ok (fun _ => False) w') (hl : D.P.length ≤ 1048576) :
 Calls Tryz.prog 57 #[.pointer (some ⟨nb, 0, none⟩), partV x.T x.p, .slice x.aq x.E.length x.cq] w (AddPost K N C nb s back D Fs F x w) := by
 obtain ⟨v2, e2, o2, f2⟩ := h.row2
 obtain ⟨v3, e3, o3, f3⟩ := h.row3
 have h23 := h.r23 v2 v3 e2 e3
 have hxF : ¬ F x.p := fun f => hp.2.2 (.inl f)
 have hxP : x.p ∉ D.P := fun m => hp.2.2 (.inr (.inl m))
 have hne : ∀ p ∈ D.P, p ≠ x.p := fun p hp e => hxP (e ▸ hp)
 have hnp : nb ≠ x.p := fun e => hxF (e ▸ h.Fn)
 have hlt2 : ∀ k, v2.ownBlock = some k → nb + 1 ≤ k ∧ k < w.heap.size := fun k hk => World.ownsRow.lt o2 k hk
 have hlt3 : ∀ k, v3.ownBlock = some k → nb + 1 ≤ k ∧ k < w.heap.size := fun k hk => World.ownsRow.lt o3 k hk
 have hps : ∀ q ∈ D.ps, up D.T x.p x.T q = D.T q := fun q hq => up_off _ _ (hne q (by simp [Nt.P, hq]))
 have hls : ∀ q ∈ D.ls, up D.T x.p x.T q = D.T q := fun q hq => up_off _ _ (hne q (by simp [Nt.P, hq]))
 have hPl : D.P.length = D.ps.length + D.ls.length := by simp [Nt.P]
 have key := netAdd_any (nb + 1) nb x.p (up D.T x.p x.T) D.ps x.aq x.E.length x.cq v0 v2 w (by rw [up_at]; exact hT) (Nat.lt_succ_self _) (by have := h.hn.2.1; omega) hnp h6 hf6 e2 (h.fr 2) (o2.congr hps) (fun e => by have := (hlt2 _ e).1; omega) (fun e => hxF (f2 _ e)) (by omega)
 rw [up_at] at key
 refine key.mono ?_
 rintro e w' ⟨he, v', o', k', c2', c6', ch⟩
 have hsz := ch.size
 have hchg : ∀ k, k < w.heap.size → ¬ F k → k ≠ x.p → w'.heap[k]? = w.heap[k]? := fun k hk hF hn => ch.block k hk (fun e => hF (e ▸ h.Fn)) hn (fun e => hF (f2 k e))
 have hF' : ∀ k, (F k ∨ v'.ownBlock = some k) → F k ∨ w.heap.size ≤ k := fun k hk => hk.elim .inl (fun e => (k' k e).imp (f2 k) id)
 refine ⟨he, fun k => F k ∨ v'.ownBlock = some k, h.put hKC (lp := false) (Fp := fun _ => False) ⟨hpass, hT, hE, hlE, ⟨hp.1, by omega, hp.2.2⟩, fun y hy => ?_, fun k hk => ?_, fun k hk => .inl hk, fun j hj => ch.cn j (by omega), ch.fn, ⟨v', c2', ?_, fun k hk => .inr hk⟩, ⟨v3, (ch.cn 3 (by omega)).trans e3, ?_, fun k hk => .inl (f3 k hk)⟩, ?_, s2.keep2 (fun j hj => ch.cp j (by omega)) ch.fp (fun k hk => by cases hk), s4.keep2 (fun j hj => ch.cp j (by omega)) ch.fp (fun k hk => by cases hk), c6', ?_, hok w' hsz (fun k hk => hchg k (by have := h.hn; omega) (fun f => by have := (h.hF k f).1; omega) (by omega)) ch.cp, fun k hk => hk.elim, hsz, hchg⟩, hF', ⟨ch.os, ch.tape, ch.output, hsz, fun k hk hn => hchg k hk (fun f => hn (.inl f)) (fun e => hn (.inr e))⟩⟩
 · obtain ⟨a1, a2, a3, a4⟩ := haq y hy
   exact ⟨a1, by omega, a3, a4, fun f => (hF' _ f).elim (fun g => a3 (.inl g)) (fun g => by omega)⟩
 · refine ⟨hF' k hk, ?_, ?_⟩
   · rcases hk with hk | hk
     · have := (h.hF k hk).2.1; omega
     · exact (World.ownsRow.lt o' k hk).2
   · rintro rfl
     rcases hF' _ hk with f | f
     · exact hxF f
     · omega
 · exact o'
 · have h3 : ∀ k, v3.ownBlock = some k → w'.heap[k]? = w.heap[k]? := fun k hk => ch.block k (hlt3 k hk).2 (by have := (hlt3 k hk).1; omega) (fun e => hxF (e ▸ f3 k hk)) (fun e => h23 k e hk)
   exact (o3.keepB h3).congr hls
 · intro u u' hu hu' k hk hk'
   rw [c2'] at hu; cases hu
   rw [(ch.cn 3 (by omega)).trans e3] at hu'; cases hu'
   rcases k' k hk with a | a
   · exact h23 k a hk'
   · have := (hlt3 k hk').2; omega
 · exact r6.keep (fun y hy => hchg _ (haq y hy).2.1 (fun f => (haq y hy).2.2.1 (.inl f)) (haq y hy).2.2.2)
structure LayEnv (K N : Nat) (s : ByteArray) (w0 : World) : Prop where
 n9 : N ≤ 1048576
 sz : s.size ≤ 1048576
 ln : (s.size + 1) / 64 < N
 tk : 0 < K
 bt : BT w0
 k0 : w0.heap.size = K
def LayPost (K N C nb : Nat) (s : ByteArray) (back : Bool) (D : Nt) (Fs : Nat → Nat → Prop) (F : Nat → Prop) (t : RT) (b : Nat) (w : World) (e : Ending) (w' : World) : Prop :=
 ∃ D' Fs' F' p, e = .returned (partV (D'.T p) p) ∧ NtL K N s.size C nb s back D' Fs' F' w' ∧ NtExt (RT.sz t) D D' ∧ LayP D'.P s.data.toList D'.R D'.E D'.z back t p b ∧ GuestChg F w w' ∧ (∀ k, F' k → F k ∨ w.heap.size ≤ k) ∧ ∀ k, D'.ownL Fs' F' k → D.ownL Fs F k ∨ w.heap.size ≤ k
def layOne (K N : Nat) (s : ByteArray) (back : Bool) (w0 : World) (t : RT) : Prop := RT.good t → ∀ (C nb : Nat) (D : Nt) (Fs : Nat → Nat → Prop) (F : Nat → Prop) (a : Option Addr) (cap b : Nat) (w : World), K ≤ C → NtL K N s.size C nb s back D Fs F w → b ∈ D.P → Below K w0 w → Kids 0 w0 t.kids a → D.P.length + RT.sz t ≤ 1048576 →
 Calls Tryz.prog 44 #[.pointer (some ⟨nb, 0, none⟩), reV t a cap, partV (D.T b) b] w (LayPost K N C nb s back D Fs F t b w)
theorem AddPost.lay {K N C nb : Nat} {s : ByteArray} {back : Bool} {D : Nt} {Fs : Nat → Nat → Prop} {F : Nat → Prop} {x : Pt} {w w1 w2 : World} {e : Ending} {t : RT} {b : Nat} (h : NtL K N s.size C nb s back D Fs F w) (hp : AddPost K N C nb s back D Fs F x w1 e w2) (hb : Below w.heap.size w w1) (hx : w.heap.size ≤ x.p) (haq : ∀ y, x.aq = some y → w.heap.size ≤ y.block) (hE : x.E = [b])
 (hR : ∀ i j, x.R i j ↔ dirT back (RT.M s.data.toList t) i j) : LayPost K N C nb s back D Fs F t b w e w2 := by
 obtain ⟨he, F', hn, hF, hg⟩ := hp
 have hxP : x.p ∉ D.P := fun m => by have := (h.hP _ m).2; omega
 have hz := hb.size
 have hext : NtExt (RT.sz t) D (D.put false x) := (NtExt.put false hxP).mono (RT.sz_pos t)
 refine ⟨D.put false x, _, F', x.p, by rw [he]; simp only [Nt.put, up_at], hn, hext, .one t x.p b ((D.put_P false x _).2 (.inl rfl)) ?_ (by simp only [Nt.put, up_at]; exact hE) (by simp only [Nt.put, up_at]; exact hR), ?_, fun k hk => (hF k hk).imp id (fun g => by omega), fun k hk => ?_⟩
 · intro e'
   exact hxP (by rw [e', hext.z]; exact h.z)
 · refine ⟨hg.os.trans hb.os, hg.tape.trans hb.tape, hg.output.trans hb.output, Nat.le_trans hz hg.size, fun k hk hn => ?_⟩
   exact (hg.block k (by omega) (fun c => c.elim hn (fun c => by omega))).trans (hb.block k hk)
 · rcases Nt.put_own hxP hk with a | rfl | ⟨y, hy, rfl⟩ | a | a
   · exact (hF k a).imp (fun g => .inl g) (fun g => by omega)
   · exact .inr hx
   · exact .inr (haq y hy)
   · exact a.elim
   · exact .inl (a.elim (fun g => g.elim) .inr)
theorem below2a (w : World) (o p : Obj) : Below w.heap.size w ((w.alloc o).alloc p) := ((Below.refl w.heap.size w).alloc (Nat.le_refl _) _).alloc (by simp) _
theorem boxUnder (W : World) (m : Nat) (hm : W.heap.size = m) (A : Array Value) (T : TypeId) (o : Obj) : (∀ j, ((W.alloc (.cells A T)).alloc o).cell? ⟨m, j, none⟩ = A[j]?) ∧ ∀ j, ((W.alloc (.cells A T)).alloc o).frozen? ⟨m, j, none⟩ = false := by
 subst hm
 have hb : ((W.alloc (.cells A T)).alloc o).heap[W.heap.size]? = (W.alloc (.cells A T)).heap[W.heap.size]? := Below.heap_alloc _ _ _ (by simp)
 exact ⟨fun j => (cob (a := ⟨W.heap.size, j, none⟩) hb).trans (World.cell?_alloc_at _ _ _ _ rfl), fun j => (World.frozen?_of_block (a := ⟨W.heap.size, j, none⟩) hb).trans (World.frozen?_alloc_at _ _ _ _ rfl)⟩
theorem leafCall {K N C nb : Nat} {s : ByteArray} {back : Bool} {D : Nt} {Fs : Nat → Nat → Prop} {F : Nat → Prop} {w : World} (h : NtL K N s.size C nb s back D Fs F w) (hKC : K ≤ C) (b : Nat) (hb : b ∈ D.P) (t : RT) (hl : D.P.length + RT.sz t ≤ 1048576) (W : World) (hW : Below w.heap.size w W) (m : Nat) (hm : W.heap.size = m) (A : Array Value) (TA : TypeId)
 (T : TypeId) (fp : Nat) (R : Nat → Nat → Prop) (Ok : (Nat → Prop) → World → Prop) (hpass : PassOk K N s.size m fp T R Ok) (hT : PartT T) (hR : ∀ i j, R i j ↔ dirT back (RT.M s.data.toList t) i j)
 (a2 : A[2]? = some (.int .i64 0)) (a3 : A[3]? = some (.slice none 0 0)) (a4 : A[4]? = some (.int .i64 0)) (a5 : A[5]? = some (.slice none 0 0)) (a6 : A[6]? = some (.slice none 0 0))
 (hok : ∀ w' : World, w.heap.size ≤ w'.heap.size → m < w'.heap.size → (∀ k, k < K → w'.heap[k]? = w.heap[k]?) → (∀ j, j ≠ 6 → w'.cell? ⟨m, j, none⟩ = A[j]?) → Ok (fun _ => False) w') :
 Calls Tryz.prog 57 #[.pointer (some ⟨nb, 0, none⟩), .iface T (.pointer (some ⟨m, 0, none⟩)), .slice (some ⟨m + 1, 0, none⟩) 1 1] ((W.alloc (.cells A TA)).alloc (.cells #[.iface (D.T b) (.pointer (some ⟨b, 0, none⟩))] 94)) (LayPost K N C nb s back D Fs F t b w) := by
 obtain ⟨w1, hw1⟩ : ∃ w1, w1 = (W.alloc (.cells A TA)).alloc (.cells #[.iface (D.T b) (.pointer (some ⟨b, 0, none⟩))] 94) := ⟨_, rfl⟩
 obtain ⟨hc, hf⟩ := boxUnder W m hm A TA (.cells #[.iface (D.T b) (.pointer (some ⟨b, 0, none⟩))] 94)
 rw [← hw1] at hc hf ⊢
 have hb1 : Below w.heap.size w w1 := by rw [hw1]; exact (hW.alloc hW.size _).alloc (by have := hW.size; simp; omega) _
 have hz1 : w1.heap.size = m + 2 := by rw [hw1]; simp [hm]
 have hs1 : w1.cell? ⟨m + 1, 0, none⟩ = some (partV (D.T b) b) := by
  rw [hw1, World.cell?_alloc_at _ _ _ _ (by simp [hm])]; rfl
 have hzm : w.heap.size ≤ m := by rw [← hm]; exact hW.size
 have hfresh : ∀ k, w.heap.size ≤ k → C ≤ k ∧ ¬ D.ownL Fs F k := fun k hk => ⟨by have := h.hn; omega, fun o => by have := (h.ownlt o).2; omega⟩
 have key := layAdd (h.kept hKC hb1) hKC ⟨m, T, fp, R, [b], Ok, some ⟨m + 1, 0, none⟩, 1⟩ hpass hT (fun q hq => by simp at hq; exact hq ▸ hb) (by simp) ⟨(hfresh m hzm).1, (show m < w1.heap.size by omega), (hfresh m hzm).2⟩
  (fun y hy => by cases hy; exact ⟨(hfresh (m + 1) (by omega)).1, by show m + 1 < _; omega, (hfresh (m + 1) (by omega)).2, by show m + 1 ≠ m; omega⟩)
  (SetAt.zero ((hc 2).trans a2) ((hc 3).trans a3) (hf 2) (hf 3)) (SetAt.zero ((hc 4).trans a4) ((hc 5).trans a5) (hf 4) (hf 5)) _ ((hc 6).trans a6) (hf 6)
  (fun i hi => ⟨m + 1, rfl, by
    obtain rfl : i = 0 := by simpa using hi
    exact hs1⟩)
  (fun w' hz hk hcp => hok w' (Nat.le_trans hb1.size hz) (by omega) (fun k hk' => (hk k hk').trans (hb1.block k (by have := h.hn; omega))) (fun j hj => (hcp j hj).trans (hc j))) (by have := RT.sz_pos t; omega)
 refine key.mono fun e w' hp => hp.lay h hb1 hzm (fun y hy => by cases hy; show w.heap.size ≤ m + 1; omega) rfl hR
set_option maxRecDepth 100000 in
set_option maxHeartbeats 2000000 in
theorem layE (K N : Nat) (s : ByteArray) (back : Bool) (w0 : World) (env : LayEnv K N s w0) (k : Int) (hk : k = 0 ∨ k = 6 ∨ k = 7) (ss : ByteArray) (n : Bool) (lo hi : Int) : layOne K N s back w0 (.node k ss n lo hi []) := by
 intro _ C nb D Fs F a cap b w hKC h hb hB _ hl
 have c0 := h.c0
 have c1 := h.c1
 have hnl := h.hn.2.1
 have HC := qd (fun (W : World) (hW : Below w.heap.size w W) (m : Nat) (hm : W.heap.size = m) (TA : TypeId) => leafCall h hKC b hb (.node k ss n lo hi []) hl W hW m hm #[.string s, .bool back, .int .i64 0, .slice none 0 0, .int .i64 0, .slice none 0 0, .slice none 0 0, .int .i64 k] TA 87 92 (wayE k s.size) (OkE m k s) (okE K N m k s env.n9 (by have := env.ln; omega)) (.inl rfl)
  (wayE_one s.data.toList back k hk ss n lo hi [] s.size (by simp)) rfl rfl rfl rfl rfl (fun w' _ hm' _ hc => ⟨fun _ x => x, hm', hc 0 (by omega), hc 7 (by omega)⟩))
 have HB := qd (fun o p => below2a w o p)
 clear hB h env
 unfold partV reV
 simp only [RT.kind, RT.set, RT.neg, RT.low, RT.high, RT.kids, List.length_nil]
 obtain ⟨⟨x0, x1, x2, x3, x4, x5⟩, _⟩ := Box.start (k := k) (s := ss) (n := n) (lo := lo) (hi := hi) (ts := []) (a := a) (cap := cap) w 26
 rcases hk with rfl | rfl | rfl
 all_goals
  go_enter Tryz.func44, Tryz.ntmps44
  go_wp2_with fail
  refine (HC.out ((w.alloc _).alloc _) (HB.out _ _) (w.heap.size + 1 + 1) (by simp) _).mono ?_
  rintro e w2 ⟨D', Fs', F', p, rfl, hrest⟩
  have HR := qd hrest
  clear hrest
  unfold partV
  go_wp2_with fail
  go_ret
  exact ⟨D', Fs', F', p, rfl, HR.out⟩
set_option maxRecDepth 100000 in
set_option maxHeartbeats 2000000 in
theorem layB1 (K N : Nat) (s : ByteArray) (back : Bool) (w0 : World) (env : LayEnv K N s w0) (ss : ByteArray) (n : Bool) (lo hi : Int) : layOne K N s back w0 (.node 1 ss n lo hi []) := by
 intro _ C nb D Fs F a cap b w hKC h hb hB _ hl
 have c0 := h.c0
 have c1 := h.c1
 have hnl := h.hn.2.1
 have HC := qd (fun (W : World) (hW : Below w.heap.size w W) (m : Nat) (hm : W.heap.size = m) (TA : TypeId) => leafCall h hKC b hb (.node 1 ss n lo hi []) hl W hW m hm #[.string s, .bool back, .int .i64 0, .slice none 0 0, .int .i64 0, .slice none 0 0, .slice none 0 0, .string ⟨#[]⟩, .bool true] TA 113 99 (byteN s.data.toList back (⟨#[]⟩ : ByteArray) true) (OkB m s back ⟨#[]⟩ true) (okB K N m s back ⟨#[]⟩ true env.n9 env.sz env.ln env.tk) (.inr (.inl rfl))
  (byteN_one s.data.toList back ⟨#[]⟩ true 1 (.inl rfl) ss n lo hi [] (fun x => by simp [takesB, RT.takes])) rfl rfl rfl rfl rfl (fun w' _ hm' hk hc => ⟨fun _ x => x, hm', hc 0 (by omega), hc 1 (by omega), hc 7 (by omega), hc 8 (by omega), env.bt.of ((hk _ env.tk).trans (hB.block _ env.tk))⟩))
 have HB := qd (fun o p => below2a w o p)
 clear hB h env
 unfold partV reV
 simp only [RT.kind, RT.set, RT.neg, RT.low, RT.high, RT.kids, List.length_nil]
 obtain ⟨⟨x0, x1, x2, x3, x4, x5⟩, _⟩ := Box.start (k := 1) (s := ss) (n := n) (lo := lo) (hi := hi) (ts := []) (a := a) (cap := cap) w 26
 go_enter Tryz.func44, Tryz.ntmps44
 go_wp2_with fail
 refine (HC.out ((w.alloc _).alloc _) (HB.out _ _) (w.heap.size + 1 + 1) (by simp) _).mono ?_
 rintro e w2 ⟨D', Fs', F', p, rfl, hrest⟩
 have HR := qd hrest
 clear hrest
 unfold partV
 go_wp2_with fail
 go_ret
 exact ⟨D', Fs', F', p, rfl, HR.out⟩
set_option maxRecDepth 100000 in
set_option maxHeartbeats 2000000 in
theorem layB2 (K N : Nat) (s : ByteArray) (back : Bool) (w0 : World) (env : LayEnv K N s w0) (ss : ByteArray) (n : Bool) (lo hi : Int) : layOne K N s back w0 (.node 2 ss n lo hi []) := by
 intro _ C nb D Fs F a cap b w hKC h hb hB _ hl
 have c0 := h.c0
 have c1 := h.c1
 have hnl := h.hn.2.1
 have HC := qd (fun (W : World) (hW : Below w.heap.size w W) (m : Nat) (hm : W.heap.size = m) (TA : TypeId) => leafCall h hKC b hb (.node 2 ss n lo hi []) hl W hW m hm #[.string s, .bool back, .int .i64 0, .slice none 0 0, .int .i64 0, .slice none 0 0, .slice none 0 0, .string ss, .bool n] TA 113 99 (byteN s.data.toList back ss n) (OkB m s back ss n) (okB K N m s back ss n env.n9 env.sz env.ln env.tk) (.inr (.inl rfl))
  (byteN_one s.data.toList back ss n 2 (.inr rfl) ss n lo hi [] (fun x => by simp [takesB, RT.takes])) rfl rfl rfl rfl rfl (fun w' _ hm' hk hc => ⟨fun _ x => x, hm', hc 0 (by omega), hc 1 (by omega), hc 7 (by omega), hc 8 (by omega), env.bt.of ((hk _ env.tk).trans (hB.block _ env.tk))⟩))
 have HB := qd (fun o p => below2a w o p)
 clear hB h env
 unfold partV reV
 simp only [RT.kind, RT.set, RT.neg, RT.low, RT.high, RT.kids, List.length_nil]
 obtain ⟨⟨x0, x1, x2, x3, x4, x5⟩, _⟩ := Box.start (k := 2) (s := ss) (n := n) (lo := lo) (hi := hi) (ts := []) (a := a) (cap := cap) w 26
 go_enter Tryz.func44, Tryz.ntmps44
 go_wp2_with fail
 refine (HC.out ((w.alloc _).alloc _) (HB.out _ _) (w.heap.size + 1 + 1) (by simp) _).mono ?_
 rintro e w2 ⟨D', Fs', F', p, rfl, hrest⟩
 have HR := qd hrest
 clear hrest
 unfold partV
 go_wp2_with fail
 go_ret
 exact ⟨D', Fs', F', p, rfl, HR.out⟩
theorem okZ (K N p L : Nat) (hN : N ≤ 1048576) (h0 : 0 < N) : PassOk K N L p 92 87 (wayE 0 L) (OkE p 0 ⟨#[]⟩) where
 meth := me_pass p
 enter := enters_of Tryz.func92 (by kernel_rfl) rfl
 bd := fun i j hi h => by obtain ⟨rfl, _⟩ := h; exact hi
 lt := fun F w k h hk => absurd hk (h.1 k)
 keep := fun F w w' h hz hk hc => ⟨h.1, Nat.lt_of_lt_of_le h.2.1 hz, (hc 0 (by omega)).trans h.2.2.1, (hc 7 (by omega)).trans h.2.2.2⟩
 call := fun F w sk ws a c h _ hb hw hin ha => by
  obtain ⟨h1, h2, h3, h4⟩ := h
  refine (passE_any N p 0 ⟨#[]⟩ sk ws a c w h2 h3 h4 hb hN (by show 0 / 64 < N; omega) hw).mono ?_
  intro e w' hp
  have hp2 := hp.congr (M' := img (wayE 0 L) (memS sk ws)) (fun j => ⟨fun ⟨x, y⟩ => ⟨j, x, (wayE_zero L j j).2 rfl⟩, fun ⟨i, x, y⟩ => by
   have e := (wayE_zero L i j).1 y
   subst e; exact ⟨x, by simp [emptyN]⟩⟩)
  obtain ⟨_, _, _, _, _, hb', _⟩ := hp
  exact PassPost.of hp2 ⟨h1, Nat.lt_of_lt_of_le h2 hb'.size, (hb'.cell (p := ⟨p, 0, none⟩) h2).trans h3, (hb'.cell (p := ⟨p, 7, none⟩) h2).trans h4⟩
def Nt.zero (L z : Nat) : Nt where
 ps := [z]
 ls := []
 f := z
 z := z
 T := fun _ => 87
 fp := fun _ => 92
 R := fun _ => wayE 0 L
 E := fun _ => []
 Ok := fun p => OkE p 0 ⟨#[]⟩
 aa := fun _ => none
 cc := fun _ => 0
 aq := fun _ => none
 cq := fun _ => 0
theorem NtL.start {K N C z : Nat} (s : ByteArray) (back : Bool) (w : World) (hC : C ≤ z) (hz : z + 2 < w.heap.size) (hN : N ≤ 1048576) (h0 : 0 < N)
 (cz : ∀ j, w.cell? ⟨z, j, none⟩ = #[Value.string ⟨#[]⟩, .bool false, .int .i64 0, .slice none 0 0, .int .i64 0, .slice none 0 0, .slice none 0 0, .int .i64 0][j]?) (fz : ∀ j, w.frozen? ⟨z, j, none⟩ = false)
 (cn : ∀ j, w.cell? ⟨z + 1, j, none⟩ = #[Value.string s, .bool back, .slice (some ⟨z + 2, 0, none⟩) 1 1, .slice none 0 0, .nilIface, .pointer (some ⟨z, 0, none⟩)][j]?) (fn : ∀ j, w.frozen? ⟨z + 1, j, none⟩ = false)
 (ho : OwnQ (z + 2) w (.slice (some ⟨z + 2, 0, none⟩) 1 1) (Nt.zero s.size z).T [z]) : NtL K N s.size C (z + 1) s back (Nt.zero s.size z) (fun _ _ => False) (fun k => k = z + 1 ∨ k = z + 2) w := by
 have hP : ∀ p, p ∈ (Nt.zero s.size z).P ↔ p = z := fun p => by simp [Nt.zero, Nt.P]
 constructor
 · intro p hp
   obtain rfl := (hP p).1 hp
   exact okZ K N p s.size hN h0
 · exact fun p _ => .inl rfl
 · exact fun p _ q hq => by cases hq
 · exact fun p _ => Nat.zero_le _
 · exact (hP z).2 rfl
 · rfl
 · rfl
 · exact fun i j => wayE_zero s.size i j
 · exact ⟨by omega, by omega, fun m => by have := (hP _).1 m; omega⟩
 · intro p hp
   obtain rfl := (hP p).1 hp
   exact ⟨hC, by omega⟩
 · exact fun p _ x hx => by cases hx
 · rintro k (rfl | rfl)
   · exact ⟨by omega, by omega, fun m => by have := (hP _).1 m; omega⟩
   · exact ⟨by omega, by omega, fun m => by have := (hP _).1 m; omega⟩
 · exact .inl rfl
 · exact cn 0
 · exact cn 1
 · exact ⟨.slice (some ⟨z + 2, 0, none⟩) 1 1, cn 2, ho, fun k hk => .inr (by have e : some (z + 2) = some k := hk; injection e with e; exact e.symm)⟩
 · exact ⟨_, cn 3, World.ownsRow_nil _ _ _ _, fun k hk => by cases hk⟩
 · intro v v' e e' k hk hk'
   rw [cn 3] at e'
   simp at e'
   subst e'
   cases hk'
 · exact ⟨_, cn 4⟩
 · exact cn 5
 · exact fn
 · exact fz 6
 · intro p hp
   obtain rfl := (hP p).1 hp
   exact SetAt.zero (cz 2) (cz 3) (fz 2) (fz 3)
 · intro p hp
   obtain rfl := (hP p).1 hp
   exact SetAt.zero (cz 4) (cz 5) (fz 4) (fz 5)
 · intro p hp
   obtain rfl := (hP p).1 hp
   exact cz 6
 · exact fun p _ i hi => absurd hi (Nat.not_lt_zero _)
 · intro p hp
   obtain rfl := (hP p).1 hp
   exact ⟨fun _ x => x, by omega, cz 0, cz 7⟩
 · exact fun _ _ _ x => x.elim
 · exact fun _ _ _ _ _ _ x => x.elim
theorem NtL.first {K N L C nb : Nat} {s : ByteArray} {back : Bool} {D : Nt} {Fs : Nat → Nat → Prop} {F : Nat → Prop} {w : World} (h : NtL K N L C nb s back D Fs F w) (hKC : K ≤ C) (v : Value) : NtL K N L C nb s back D Fs F (w.setCell ⟨nb, 4, none⟩ v) ∧ (w.setCell ⟨nb, 4, none⟩ v).cell? ⟨nb, 4, none⟩ = some v := by
 obtain ⟨v4, e4⟩ := h.c4
 have hoth : ∀ k, k ≠ nb → (w.setCell ⟨nb, 4, none⟩ v).heap[k]? = w.heap[k]? := fun k hk => Below.heap_setCell w _ _ k hk
 have hc : ∀ j, j ≠ 4 → (w.setCell ⟨nb, 4, none⟩ v).cell? ⟨nb, j, none⟩ = w.cell? ⟨nb, j, none⟩ := fun j hj => World.cell?_setCell_other w _ _ _ (by intro x; injection x; omega)
 have hc4 := World.cell?_setCell_same w ⟨nb, 4, none⟩ v e4
 have hz : (w.setCell ⟨nb, 4, none⟩ v).heap.size = w.heap.size := by simp
 have hfr : ∀ j, (w.setCell ⟨nb, 4, none⟩ v).frozen? ⟨nb, j, none⟩ = false := fun j => by rw [World.frozen?_setCell]; exact h.fr j
 obtain ⟨w', hw'⟩ : ∃ w', w' = w.setCell ⟨nb, 4, none⟩ v := ⟨_, rfl⟩
 rw [← hw'] at hoth hc hc4 hz hfr ⊢
 have hPn : ∀ p ∈ D.P, p ≠ nb := fun p hp e => h.hn.2.2 (e ▸ hp)
 have hp := fun p m => hoth p (hPn p m)
 have hrow : ∀ (v : Value) (ps : List Nat), OwnQ (nb + 1) w v D.T ps → OwnQ (nb + 1) w' v D.T ps := fun v ps ho => ho.keepB (fun k hk => hoth k (by have := (World.ownsRow.lt ho k hk).1; omega))
 refine ⟨⟨h.pass, h.hT, h.hE, h.lE, h.z, h.zT, h.zOk, h.zR, by rw [hz]; exact h.hn, by rw [hz]; exact h.hP, by rw [hz]; exact h.aq, by rw [hz]; exact h.hF, h.Fn, (hc 0 (by omega)).trans h.c0, (hc 1 (by omega)).trans h.c1, ?_, ?_, ?_, ⟨v, hc4⟩, (hc 5 (by omega)).trans h.c5, hfr, (World.frozen?_of_block (a := ⟨D.z, 6, none⟩) (hp _ h.z)).trans h.zf, fun p m => (h.s2 p m).keep (hp p m) (fun k hk => by cases hk), fun p m => (h.s4 p m).keep (hp p m) (fun k hk => by cases hk), fun p m => (cob (a := ⟨p, 6, none⟩) (hp p m)).trans (h.c6 p m), fun p m => (h.r6 p m).keep (fun x hx => hoth _ (h.aq p m x hx).2.2.2.1), fun p m => ?_, h.off, h.two⟩, hc4⟩
 · obtain ⟨v, e, o, f⟩ := h.row2
   exact ⟨v, (hc 2 (by omega)).trans e, hrow _ _ o, f⟩
 · obtain ⟨v, e, o, f⟩ := h.row3
   exact ⟨v, (hc 3 (by omega)).trans e, hrow _ _ o, f⟩
 · intro v v' e e'
   rw [hc 2 (by omega)] at e; rw [hc 3 (by omega)] at e'
   exact h.r23 v v' e e'
 · refine (h.pass p m).keep _ _ _ (h.ok p m) (by omega) (fun k hk => hoth k ?_) (fun j _ => cob (a := ⟨p, j, none⟩) (hp p m))
   rcases hk with hk | hk
   · have := h.hn.1; omega
   · intro e
     exact (h.off p m k hk).2.2.1 (e ▸ h.Fn)
def Nt.relead (D : Nt) (f r : Nat) : Nt := { D with E := up D.E D.z [f], aq := up D.aq D.z (some ⟨r, 0, none⟩), cq := up D.cq D.z 1 }
theorem NtL.relead {K N L C nb : Nat} {s : ByteArray} {back : Bool} {D : Nt} {Fs : Nat → Nat → Prop} {F : Nat → Prop} {w w' : World} (h : NtL K N L C nb s back D Fs F w) (hKC : K ≤ C) {f r : Nat} (hf : f ∈ D.P) (hr : w.heap.size ≤ r ∧ r < w'.heap.size) (hz : w.heap.size ≤ w'.heap.size) (hb : ∀ k, k < w.heap.size → k ≠ D.z → w'.heap[k]? = w.heap[k]?)
 (hc : ∀ j, j ≠ 6 → w'.cell? ⟨D.z, j, none⟩ = w.cell? ⟨D.z, j, none⟩) (hfz : ∀ j, w'.frozen? ⟨D.z, j, none⟩ = w.frozen? ⟨D.z, j, none⟩) (h6 : w'.cell? ⟨D.z, 6, none⟩ = some (.slice (some ⟨r, 0, none⟩) 1 1)) (hr0 : w'.cell? ⟨r, 0, none⟩ = some (partV (D.T f) f)) : NtL K N L C nb s back (D.relead f r) Fs F w' := by
 have hnz : nb ≠ D.z := fun e => h.hn.2.2 (e ▸ h.z)
 have hn := hb nb h.hn.2.1 hnz
 have hp : ∀ p ∈ D.P, p ≠ D.z → w'.heap[p]? = w.heap[p]? := fun p m e => hb p (h.hP p m).2 e
 have hcn := fun j => cob (a := ⟨nb, j, none⟩) hn
 have hFz : ∀ k, F k → k ≠ D.z := fun k hk e => (h.hF k hk).2.2 (e ▸ h.z)
 have hrow : ∀ (v : Value) (ps : List Nat), OwnQ (nb + 1) w v D.T ps → (∀ k, v.ownBlock = some k → F k) → OwnQ (nb + 1) w' v D.T ps := fun v ps ho hF => ho.keepB (fun k hk => hb k (h.hF k (hF k hk)).2.1 (hFz k (hF k hk)))
 have hzs := (h.hP _ h.z).2
 have hE : ∀ p, p ≠ D.z → (D.relead f r).E p = D.E p := fun p e => up_off _ _ e
 have hEz : (D.relead f r).E D.z = [f] := up_at _ _ _
 have haz : (D.relead f r).aq D.z = some ⟨r, 0, none⟩ := up_at _ _ _
 have haq : ∀ p, p ≠ D.z → (D.relead f r).aq p = D.aq p := fun p e => up_off _ _ e
 have hcz : (D.relead f r).cq D.z = 1 := up_at _ _ _
 have hcq : ∀ p, p ≠ D.z → (D.relead f r).cq p = D.cq p := fun p e => up_off _ _ e
 have hqr : ∀ k, D.ownL Fs F k → k ≠ r := fun k hk e => by have := (h.ownlt hk).2; omega
 refine ⟨h.pass, h.hT, fun p m q hq => ?_, fun p m => ?_, h.z, h.zT, h.zOk, h.zR, ⟨h.hn.1, by have := h.hn.2.1; omega, h.hn.2.2⟩, fun p m => ⟨(h.hP p m).1, by have := (h.hP p m).2; omega⟩, fun p m x hx => ?_, fun k hk => ⟨(h.hF k hk).1, by have := (h.hF k hk).2.1; omega, (h.hF k hk).2.2⟩, h.Fn, (hcn 0).trans h.c0, (hcn 1).trans h.c1, ?_, ?_, ?_, ?_, (hcn 5).trans h.c5, fun j => (World.frozen?_of_block (a := ⟨nb, j, none⟩) hn).trans (h.fr j), (hfz 6).trans h.zf, fun p m => ?_, fun p m => ?_, fun p m => ?_, fun p m => ?_, fun p m => ?_, fun p m k hk => ?_, h.two⟩
 · by_cases c : p = D.z
   · rw [c, hEz] at hq
     simp at hq; rw [hq]; exact hf
   · rw [hE p c] at hq; exact h.hE p m q hq
 · by_cases c : p = D.z
   · rw [c, hEz]; simp
   · rw [hE p c]; exact h.lE p m
 · by_cases c : p = D.z
   · rw [c, haz] at hx
     cases hx
     refine ⟨?_, hr.2, fun m => hqr _ (.inr (.inl m)) rfl, fun e => hqr _ (.inl h.Fn) e.symm, fun g => hqr _ (.inl g) rfl⟩
     have := h.hn; show C ≤ r; omega
   · rw [haq p c] at hx
     obtain ⟨a1, a2, a3⟩ := h.aq p m x hx
     exact ⟨a1, by omega, a3⟩
 · obtain ⟨v, e, o, g⟩ := h.row2
   exact ⟨v, (hcn 2).trans e, hrow _ _ o g, g⟩
 · obtain ⟨v, e, o, g⟩ := h.row3
   exact ⟨v, (hcn 3).trans e, hrow _ _ o g, g⟩
 · intro v v' e e'
   rw [hcn 2] at e; rw [hcn 3] at e'
   exact h.r23 v v' e e'
 · obtain ⟨v, e⟩ := h.c4
   exact ⟨v, (hcn 4).trans e⟩
 · by_cases c : p = D.z
   · rw [c]; exact (h.s2 _ h.z).keep2 (fun j hj => hc j (by omega)) hfz (fun k hk => by cases hk)
   · exact (h.s2 p m).keep (hp p m c) (fun k hk => by cases hk)
 · by_cases c : p = D.z
   · rw [c]; exact (h.s4 _ h.z).keep2 (fun j hj => hc j (by omega)) hfz (fun k hk => by cases hk)
   · exact (h.s4 p m).keep (hp p m c) (fun k hk => by cases hk)
 · by_cases c : p = D.z
   · rw [c, haz, hEz, hcz]; exact h6
   · rw [haq p c, hE p c, hcq p c]; exact (cob (a := ⟨p, 6, none⟩) (hp p m c)).trans (h.c6 p m)
 · by_cases c : p = D.z
   · rw [c, haz, hEz]
     exact fun i hi => ⟨r, rfl, by
        obtain rfl : i = 0 := by simpa using hi
        exact hr0⟩
   · rw [haq p c, hE p c]
     exact (h.r6 p m).keep (fun x hx => hb _ (h.aq p m x hx).2.1 (fun e => (h.aq p m x hx).2.2.1 (e ▸ h.z)))
 · by_cases c : p = D.z
   · have hok := h.ok _ h.z
     rw [h.zOk] at hok
     rw [c]
     show D.Ok D.z (Fs D.z) w'
     rw [h.zOk]
     exact ⟨hok.1, by omega, (hc 0 (by omega)).trans hok.2.2.1, (hc 7 (by omega)).trans hok.2.2.2⟩
   · refine (h.pass p m).keep _ _ _ (h.ok p m) hz (fun k hk => hb k ?_ ?_) (fun j _ => cob (a := ⟨p, j, none⟩) (hp p m c))
     · rcases hk with hk | hk
       · have := h.hn; omega
       · exact h.lt m hk
     · rcases hk with hk | hk
       · intro e; have := (h.hP _ h.z).1; omega
       · exact fun e => (h.off p m k hk).2.1 (e ▸ h.z)
 · obtain ⟨a1, a2, a3, a4⟩ := h.off p m k hk
   refine ⟨a1, a2, a3, fun q hq x hx => ?_⟩
   by_cases c : q = D.z
   · rw [c, haz] at hx
     cases hx
     exact hqr k (.inr (.inr (.inr ⟨p, m, hk⟩)))
   · rw [haq q c] at hx; exact a4 q hq x hx
def NetPost (K N : Nat) (s : ByteArray) (back : Bool) (t : RT) (w : World) (e : Ending) (w' : World) : Prop :=
 ∃ nb D Fs F f, e = .returned (.pointer (some ⟨nb, 0, none⟩)) ∧ NtL K N s.size w.heap.size nb s back D Fs F w' ∧ f ∈ D.P ∧ w'.cell? ⟨nb, 4, none⟩ = some (partV (D.T f) f) ∧ LayP D.P s.data.toList D.R D.E D.z back t f D.z ∧ D.E D.z = [] ∧ D.P.length ≤ 1 + RT.sz t ∧ Below w.heap.size w w'
theorem net_world (s : ByteArray) (back : Bool) (k : Int) (ss : ByteArray) (n : Bool) (lo hi : Int) (ts : List RT) (a : Option Addr) (cap : Nat) (w w5 : World) (h5 : w5 = (((((w.alloc (.cells #[.string s, .bool back] 72)).alloc (.cells #[.int .i64 k, .string ss, .bool n, .int .i64 lo, .int .i64 hi, .slice a ts.length cap] 26)).alloc (.cells #[.string ⟨#[]⟩, .bool false, .int .i64 0, .slice none 0 0, .int .i64 0, .slice none 0 0, .slice none 0 0, .int .i64 0] 92)).alloc (.cells #[.string s, .bool back, .slice (some ⟨w.heap.size + 1 + 1 + 1 + 1, 0, none⟩) 1 1, .slice none 0 0, .nilIface, .pointer (some ⟨w.heap.size + 1 + 1, 0, none⟩)] 96)).alloc (.cells #[.iface 87 (.pointer (some ⟨w.heap.size + 1 + 1, 0, none⟩))] 94))) (m z q r : Nat) (hm : m = w.heap.size + 1) (hz : z = w.heap.size + 1 + 1) (hq : q = w.heap.size + 1 + 1 + 1) (hr : r = w.heap.size + 1 + 1 + 1 + 1) :
 Below w.heap.size w w5 ∧ w5.heap.size = z + 3 ∧ (∀ j, w5.cell? ⟨z, j, none⟩ = #[Value.string ⟨#[]⟩, .bool false, .int .i64 0, .slice none 0 0, .int .i64 0, .slice none 0 0, .slice none 0 0, .int .i64 0][j]?) ∧ (∀ j, w5.frozen? ⟨z, j, none⟩ = false) ∧
 (∀ j, w5.cell? ⟨q, j, none⟩ = #[Value.string s, .bool back, .slice (some ⟨r, 0, none⟩) 1 1, .slice none 0 0, .nilIface, .pointer (some ⟨z, 0, none⟩)][j]?) ∧ (∀ j, w5.frozen? ⟨q, j, none⟩ = false) ∧ (∀ j, w5.cell? ⟨m, j, none⟩ = #[Value.int .i64 k, .string ss, .bool n, .int .i64 lo, .int .i64 hi, .slice a ts.length cap][j]?) ∧
 OwnQ (z + 2) w5 (.slice (some ⟨z + 2, 0, none⟩) 1 1) (fun _ => 87) [z] := by
 subst hm hz hq hr
 have e1 : w.heap.size + 1 + 1 + 1 + 1 = w.heap.size + 1 + 1 + 2 := by omega
 refine ⟨?_, by rw [h5]; simp, fun j => ?_, fun j => ?_, fun j => ?_, fun j => ?_, fun j => ?_, ?_⟩
 · rw [h5]
   exact ((((((Below.refl _ w).alloc (Nat.le_refl _) _).alloc (by simp) _).alloc (by simp <;> omega) _).alloc (by simp <;> omega) _).alloc (by simp <;> omega) _)
 · rw [h5, cob (a := ⟨w.heap.size + 1 + 1, j, none⟩) ((Below.heap_alloc _ _ _ (by simp <;> omega)).trans (Below.heap_alloc _ _ _ (by simp)))]
   exact World.cell?_alloc_at _ _ _ _ (by simp)
 · rw [h5, World.frozen?_of_block (a := ⟨w.heap.size + 1 + 1, j, none⟩) ((Below.heap_alloc _ _ _ (by simp <;> omega)).trans (Below.heap_alloc _ _ _ (by simp)))]
   exact World.frozen?_alloc_at _ _ _ _ (by simp)
 · rw [h5, cob (a := ⟨w.heap.size + 1 + 1 + 1, j, none⟩) (Below.heap_alloc _ _ _ (by simp))]
   exact World.cell?_alloc_at _ _ _ _ (by simp)
 · rw [h5, World.frozen?_of_block (a := ⟨w.heap.size + 1 + 1 + 1, j, none⟩) (Below.heap_alloc _ _ _ (by simp))]
   exact World.frozen?_alloc_at _ _ _ _ (by simp)
 · rw [h5, cob (a := ⟨w.heap.size + 1, j, none⟩) ((Below.heap_alloc _ _ _ (by simp <;> omega)).trans ((Below.heap_alloc _ _ _ (by simp <;> omega)).trans (Below.heap_alloc _ _ _ (by simp))))]
   exact World.cell?_alloc_at _ _ _ _ (by simp)
 · rw [h5]
   have hl := World.ownsRow_lit (e := 94) (size := 1) (base := w.heap.size + 1 + 1 + 2) ((((w.alloc (.cells #[.string s, .bool back] 72)).alloc (.cells #[.int .i64 k, .string ss, .bool n, .int .i64 lo, .int .i64 hi, .slice a ts.length cap] 26)).alloc (.cells #[.string ⟨#[]⟩, .bool false, .int .i64 0, .slice none 0 0, .int .i64 0, .slice none 0 0, .slice none 0 0, .int .i64 0] 92)).alloc (.cells #[.string s, .bool back, .slice (some ⟨w.heap.size + 1 + 1 + 1 + 1, 0, none⟩) 1 1, .slice none 0 0, .nilIface, .pointer (some ⟨w.heap.size + 1 + 1, 0, none⟩)] 96)) #[.iface 87 (.pointer (some ⟨w.heap.size + 1 + 1, 0, none⟩))] 1 (by simp <;> omega) (by unfold maxLen; simp) rfl
   have hsz : (((((w.alloc (.cells #[.string s, .bool back] 72)).alloc (.cells #[.int .i64 k, .string ss, .bool n, .int .i64 lo, .int .i64 hi, .slice a ts.length cap] 26)).alloc (.cells #[.string ⟨#[]⟩, .bool false, .int .i64 0, .slice none 0 0, .int .i64 0, .slice none 0 0, .slice none 0 0, .int .i64 0] 92)).alloc (.cells #[.string s, .bool back, .slice (some ⟨w.heap.size + 1 + 1 + 1 + 1, 0, none⟩) 1 1, .slice none 0 0, .nilIface, .pointer (some ⟨w.heap.size + 1 + 1, 0, none⟩)] 96))).heap.size = w.heap.size + 1 + 1 + 2 := by simp
   rw [hsz] at hl
   exact hl
set_option maxRecDepth 100000 in
set_option maxHeartbeats 4000000 in
theorem layNet_any (K N : Nat) (s : ByteArray) (back : Bool) (w0 : World) (env : LayEnv K N s w0) (t : RT) (ht : layOne K N s back w0 t) (hg : RT.good t) (hl : 1 + RT.sz t ≤ 1048576) (a : Option Addr) (cap : Nat) (w : World) (hB : Below K w0 w) (hk : Kids 0 w0 t.kids a) :
 Calls Tryz.prog 32 #[.agg #[.string s, .bool back], reV t a cap] w (NetPost K N s back t w) := by
 have hKw : K ≤ w.heap.size := by rw [← env.k0]; exact hB.size
 obtain ⟨m, hm⟩ : ∃ m, m = w.heap.size + 1 := ⟨_, rfl⟩
 obtain ⟨z, hz⟩ : ∃ z, z = w.heap.size + 1 + 1 := ⟨_, rfl⟩
 obtain ⟨q, hq⟩ : ∃ q, q = w.heap.size + 1 + 1 + 1 := ⟨_, rfl⟩
 obtain ⟨r, hr⟩ : ∃ r, r = w.heap.size + 1 + 1 + 1 + 1 := ⟨_, rfl⟩
 have hqz : q = z + 1 := by omega
 have hrz : r = z + 2 := by omega
 obtain ⟨k, ss, n, lo, hi, ts⟩ := t
 obtain ⟨w5, h5⟩ : ∃ w5, w5 = (((((w.alloc (.cells #[.string s, .bool back] 72)).alloc (.cells #[.int .i64 k, .string ss, .bool n, .int .i64 lo, .int .i64 hi, .slice a ts.length cap] 26)).alloc (.cells #[.string ⟨#[]⟩, .bool false, .int .i64 0, .slice none 0 0, .int .i64 0, .slice none 0 0, .slice none 0 0, .int .i64 0] 92)).alloc (.cells #[.string s, .bool back, .slice (some ⟨w.heap.size + 1 + 1 + 1 + 1, 0, none⟩) 1 1, .slice none 0 0, .nilIface, .pointer (some ⟨w.heap.size + 1 + 1, 0, none⟩)] 96)).alloc (.cells #[.iface 87 (.pointer (some ⟨w.heap.size + 1 + 1, 0, none⟩))] 94)) := ⟨_, rfl⟩
 obtain ⟨b5, z5, cz, fz, cn, fn, cm, ho⟩ := net_world s back k ss n lo hi ts a cap w w5 h5 m z q r hm hz hq hr
 have hst : NtL K N s.size w.heap.size q s back (Nt.zero s.size z) (fun _ _ => False) (fun k => k = q ∨ k = r) w5.drew := by
  rw [hqz, hrz]
  refine (NtL.start s back w5 (by omega) (by omega) env.n9 (by have := env.ln; omega) cz fz (by rw [← hqz, ← hrz]; exact cn) (by rw [← hqz]; exact fn) ho).keep hKw (Nat.le_refl _) (fun _ _ => rfl)
 have HB5 := qd b5
 have HLAY := qd (ht hg w.heap.size q (Nt.zero s.size z) (fun _ _ => False) (fun k => k = q ∨ k = r) a cap z w5.drew hKw hst (by simp [Nt.zero, Nt.P]) (hB.trans (b5.drew.mono hKw)) hk (by simpa [Nt.zero, Nt.P] using hl))
 have HPZ := qd (show ∀ p, p ∈ (Nt.zero s.size z).P ↔ p = z from fun p => by simp [Nt.zero, Nt.P])
 have HFC := qd (fun (D : Nt) (Fs : Nat → Nat → Prop) (F : Nat → Prop) (W : World) (h : NtL K N s.size w.heap.size q s back D Fs F W) (v : Value) => h.first hKw v)
 have c0 := cm 0
 have c1 := cm 1
 have c2 := cm 2
 have c3 := cm 3
 have c4 := cm 4
 have c5 := cm 5
 have d5 := cn 5
 simp only [List.getElem?_toArray, List.getElem?_cons_succ, List.getElem?_cons_zero] at c0 c1 c2 c3 c4 c5 d5
 have HS0 := qd (show (fun w' : World => w'.cell? ⟨m, 0, none⟩ = some (.int .i64 k) ∧ w'.cell? ⟨m, 1, none⟩ = some (.string ss) ∧ w'.cell? ⟨m, 2, none⟩ = some (.bool n) ∧ w'.cell? ⟨m, 3, none⟩ = some (.int .i64 lo) ∧ w'.cell? ⟨m, 4, none⟩ = some (.int .i64 hi) ∧ w'.cell? ⟨m, 5, none⟩ = some (.slice a ts.length cap) ∧ w'.cell? ⟨q, 5, none⟩ = some (.pointer (some ⟨z, 0, none⟩))) w5.drew from ⟨c0, c1, c2, c3, c4, c5, d5⟩)
 have HZ5 := qd z5
 have HM := qd (show m < z ∧ q = z + 1 ∧ r = z + 2 ∧ w.heap.size < m from ⟨by omega, hqz, hrz, by omega⟩)
 have HZT := qd (show (Nt.zero s.size z).T z = 87 ∧ (Nt.zero s.size z).E z = [] ∧ (Nt.zero s.size z).z = z ∧ (Nt.zero s.size z).P.length = 1 from ⟨rfl, rfl, rfl, rfl⟩)
 have HNP := qd (show ∀ e w', (∃ nb D Fs F f, e = .returned (.pointer (some ⟨nb, 0, none⟩)) ∧ NtL K N s.size w.heap.size nb s back D Fs F w' ∧ f ∈ D.P ∧ w'.cell? ⟨nb, 4, none⟩ = some (partV (D.T f) f) ∧ LayP D.P s.data.toList D.R D.E D.z back (.node k ss n lo hi ts) f D.z ∧ D.E D.z = [] ∧ D.P.length ≤ 1 + RT.sz (.node k ss n lo hi ts) ∧ Below w.heap.size w w') → NetPost K N s back (.node k ss n lo hi ts) w e w' from fun e w' h => h)
 generalize NetPost K N s back (.node k ss n lo hi ts) w = Q at *
 unfold LayPost at HLAY
 rw [HZT.out.1] at HLAY
 simp only [reV, partV, RT.kind, RT.set, RT.neg, RT.low, RT.high, RT.kids] at HLAY ⊢
 generalize Nt.zero s.size z = D0 at *
 generalize RT.node k ss n lo hi ts = t at *
 rw [← hr, ← hz] at h5
 have H5 := qd h5
 have HZ := qd (And.intro hm (And.intro hz (And.intro hq hr)))
 clear c0 c1 c2 c3 c4 c5 d5 cm cn fn cz fz ho hst b5 z5 hg ht hk hB hl env hKw hqz hrz h5
 go_enter Tryz.func32, Tryz.ntmps32
 go_wp2_with fail
 rw [← HZ.out.2.2.2, ← HZ.out.2.2.1, ← HZ.out.2.1, ← HZ.out.1, ← H5.out]
 clear hm hz hq hr
 refine wp_region_held_drew (S := (fun w' : World => w'.cell? ⟨m, 0, none⟩ = some (.int .i64 k) ∧ w'.cell? ⟨m, 1, none⟩ = some (.string ss) ∧ w'.cell? ⟨m, 2, none⟩ = some (.bool n) ∧ w'.cell? ⟨m, 3, none⟩ = some (.int .i64 lo) ∧ w'.cell? ⟨m, 4, none⟩ = some (.int .i64 hi) ∧ w'.cell? ⟨m, 5, none⟩ = some (.slice a ts.length cap) ∧ w'.cell? ⟨q, 5, none⟩ = some (.pointer (some ⟨z, 0, none⟩)))) (by kernel_rfl) HS0.out (fun hHeld => ?_)
 refine tkA 0 ?_
 try simp only [nmA, Act.put]
 refine tkA 1 ?_
 try simp only [nmA, Act.put]
 refine tkA 2 ?_
 try simp only [nmA, Act.put]
 refine tkA 3 ?_
 try simp only [nmA, Act.put]
 refine tkA 4 ?_
 try simp only [nmA, Act.put]
 refine tkA 5 ?_
 try simp only [nmA, Act.put]
 refine tkA 6 ?_
 try simp only [nmA, Act.put]
 refine tkA 7 ?_
 try simp only [nmA, Act.put]
 refine rdA 8 (fun K hK => ?_)
 go_simp
 refine HLAY.out.mono ?_
 rintro e w6 ⟨D', Fs', F', p, rfl, hn, hx, hl, hg, hF, ho⟩
 go_wp2_with fail
 have HD := qd (show D'.z = z ∧ D'.E z = [] ∧ D'.P.length ≤ 1 + RT.sz t from ⟨hx.z.trans HZT.out.2.2.1, (hx.E z ((HPZ.out z).2 rfl)).trans HZT.out.2.1, by have := hx.l; rw [HZT.out.2.2.2] at this; exact this⟩)
 have hmq : ∀ j, w6.cell? ⟨m, j, none⟩ = w5.drew.cell? ⟨m, j, none⟩ := fun j => cob (a := ⟨m, j, none⟩) (hg.block m (by have := HZ5.out; have := HM.out; show m < w5.heap.size; omega) (by have := HM.out; rintro (e | e) <;> omega))
 have d5 := hn.c5
 rw [HD.out.1] at d5
 obtain ⟨v4, e4⟩ := hn.c4
 have f4 := hn.fr 4
 have HF1 := qd (HFC.out _ _ _ _ hn (.iface (D'.T p) (.pointer (some ⟨p, 0, none⟩))))
 have HLY := qd hl
 have HBE := qd (show Below w.heap.size w w6 from ⟨hg.os.trans HB5.out.os, hg.tape.trans HB5.out.tape, hg.output.trans HB5.out.output, Nat.le_trans HB5.out.size hg.size, fun j hj => (hg.block j (by have := HB5.out.size; show j < w5.heap.size; omega) (by have := HM.out; rintro (e | e) <;> omega)).trans (HB5.out.block j hj)⟩)
 refine hK.out _ _ ⟨(hmq 0).trans hHeld.1, (hmq 1).trans hHeld.2.1, (hmq 2).trans hHeld.2.2.1, (hmq 3).trans hHeld.2.2.2.1, (hmq 4).trans hHeld.2.2.2.2.1, (hmq 5).trans hHeld.2.2.2.2.2.1, d5⟩ (fun hHeld => ?_)
 clear hK K hn hx hl hg hF ho
 try simp only [nmA, Act.put]
 refine tkA 9 ?_
 try simp only [nmA, Act.put]
 refine tkA 10 ?_
 try simp only [nmA, Act.put]
 refine rdA 11 (fun K hK => ?_)
 go_simp
 have hoth : ∀ x, x ≠ q → ∀ j, (w6.setCell ⟨q, 4, none⟩ (.iface (D'.T p) (.pointer (some ⟨p, 0, none⟩)))).cell? ⟨x, j, none⟩ = w6.cell? ⟨x, j, none⟩ := fun x hx j => World.cell?_setCell_other w6 _ _ _ (by intro e; injection e; omega)
 have d55 : (w6.setCell ⟨q, 4, none⟩ (.iface (D'.T p) (.pointer (some ⟨p, 0, none⟩)))).cell? ⟨q, 5, none⟩ = w6.cell? ⟨q, 5, none⟩ := World.cell?_setCell_other w6 _ _ _ (by intro e; injection e; omega)
 have hmq0 : m ≠ q := by have := HM.out; omega
 refine hK.out _ _ ⟨(hoth m hmq0 0).trans hHeld.1, (hoth m hmq0 1).trans hHeld.2.1, (hoth m hmq0 2).trans hHeld.2.2.1, (hoth m hmq0 3).trans hHeld.2.2.2.1, (hoth m hmq0 4).trans hHeld.2.2.2.2.1, (hoth m hmq0 5).trans hHeld.2.2.2.2.2.1, d55.trans d5⟩ (fun hHeld => ?_)
 clear hK K hoth d55
 try simp only [nmA, Act.put]
 refine wpAnyH_done (by kernel_rfl) ?_ _
 go_wp2_with fail
 refine HNP.out _ _ ⟨q, D', Fs', F', p, rfl, HF1.out.1, HLY.out.first, HF1.out.2, ?_, ?_, HD.out.2.2, HBE.out.trans ⟨rfl, rfl, rfl, by simp, fun j hj => Below.heap_setCell w6 _ _ j (by have := HM.out; show j ≠ q; omega)⟩⟩
 · have hly := HLY.out; rw [HD.out.1] at hly ⊢; exact hly
 · rw [HD.out.1]; exact HD.out.2.1
theorem KidOk.congr {K N L nb : Nat} {R R' : Nat → Nat → Prop} {Ok : (Nat → Prop) → World → Prop} (h : KidOk K N L nb R Ok) (hR : ∀ i j, R i j ↔ R' i j) : KidOk K N L nb R' Ok := by
 have e : R = R' := funext fun i => funext fun j => propext (hR i j)
 subst e; exact h
theorem loop_pass (s : List UInt8) (back : Bool) (ss : ByteArray) (n : Bool) (lo hi : Int) (x : RT) (l h : Nat) (hl : lo = (l : Int)) (hh : hi = (h : Int)) (hlh : l ≤ h) (P : Nat → Prop) (j : Nat) :
 untilN (dirT back (RT.M s x)) (img (rpow (dirT back (RT.M s x)) l) P) (h - l) j ↔ img (dirT back (RT.M s (.node 5 ss n lo hi [x]))) P j := by
 rw [often_parts, show l + (h - l) = h by omega]
 have e : often (dirT back (RT.M s x)) (l : Int) (h : Int) = dirT back (RT.M s (.node 5 ss n lo hi [x])) := funext fun i => funext fun j => propext (by rw [dir_many, hl, hh])
 rw [e]
theorem loop_pass2 (s : List UInt8) (back : Bool) (ss : ByteArray) (n : Bool) (lo : Int) (x : RT) (l h : Nat) (hl : lo = (l : Int)) (hh : h = max l 1) (P : Nat → Prop) (j : Nat) :
 untilN (fun i j => ∃ m : Nat, rpow (dirT back (RT.M s x)) (m + 1) i j) (img (rpow (fun i j => ∃ m : Nat, rpow (dirT back (RT.M s x)) (m + 1) i j) l) P) (h - l) j ↔ img (dirT back (RT.M s (.node 5 ss n lo (-1) [x]))) P j := by
 rw [often_parts, show l + (h - l) = h by omega]
 have e : often (fun i j => ∃ m : Nat, rpow (dirT back (RT.M s x)) (m + 1) i j) (l : Int) (h : Int) = dirT back (RT.M s (.node 5 ss n lo (-1) [x])) := funext fun i => funext fun j => propext (by
  rw [dir_many_loop s back ss n lo (by omega), hl, show ((h : Nat) : Int) = max (l : Int) 1 by omega])
 rw [e]
structure LoopBox (nb2 l h pl mb rb : Nat) (T : TypeId) (b : Nat) (w : World) : Prop where
 c2 : w.cell? ⟨pl, 2, none⟩ = some (.int .i64 0)
 c3 : w.cell? ⟨pl, 3, none⟩ = some (.slice none 0 0)
 c4 : w.cell? ⟨pl, 4, none⟩ = some (.int .i64 0)
 c5 : w.cell? ⟨pl, 5, none⟩ = some (.slice none 0 0)
 c6 : w.cell? ⟨pl, 6, none⟩ = some (.slice (some ⟨rb, 0, none⟩) 1 1)
 c7 : w.cell? ⟨pl, 7, none⟩ = some (.pointer (some ⟨nb2, 0, none⟩))
 c8 : w.cell? ⟨pl, 8, none⟩ = some (.int .i64 (l : Int))
 c9 : w.cell? ⟨pl, 9, none⟩ = some (.int .i64 (h : Int))
 c10 : w.cell? ⟨pl, 10, none⟩ = some (.map (some mb))
 fr : ∀ j, w.frozen? ⟨pl, j, none⟩ = false
 tab : KeptAt w mb []
 row : w.cell? ⟨rb, 0, none⟩ = some (partV T b)
structure LoopsPut (D : Nt) (nb pl : Nat) (v3 v3' : Value) (w w' : World) : Prop where
 os : w'.os = w.os
 tape : w'.tape = w.tape
 output : w'.output = w.output
 size : w.heap.size ≤ w'.heap.size
 c3 : w'.cell? ⟨nb, 3, none⟩ = some v3'
 own : OwnQ (nb + 1) w' v3' (up D.T pl 129) (D.ls ++ [pl])
 new : ∀ k, v3'.ownBlock = some k → v3.ownBlock = some k ∨ w.heap.size ≤ k
 cn : ∀ j, j ≠ 3 → w'.cell? ⟨nb, j, none⟩ = w.cell? ⟨nb, j, none⟩
 fr : ∀ j, w'.frozen? ⟨nb, j, none⟩ = w.frozen? ⟨nb, j, none⟩
 block : ∀ k, k < w.heap.size → k ≠ nb → v3.ownBlock ≠ some k → w'.heap[k]? = w.heap[k]?
theorem loopDone {K N C C2 nb nb2 : Nat} {s : ByteArray} {back : Bool} {D D2 : Nt} {Fs Fs2 : Nat → Nat → Prop} {F F2 : Nat → Prop} {w0 w w' : World} {ss : ByteArray} {n : Bool} {lo hi : Int} {x : RT} {b l hh pl mb rb f2 : Nat} {v3 v3' : Value} {RK : Nat → Nat → Prop}
 (h0 : NtL K N s.size C nb s back D Fs F w0) (hKC : K ≤ C) (hb : b ∈ D.P) (hN : N ≤ 1048576) (hwb : Below w0.heap.size w0 w) (hC2 : w0.heap.size ≤ C2) (hk : NtL K N s.size C2 nb2 s back D2 Fs2 F2 w) (hl2 : D2.P.length ≤ 1048576) (hf2 : f2 ∈ D2.P) (h4 : w.cell? ⟨nb2, 4, none⟩ = some (partV (D2.T f2) f2))
 (hR : ∀ i j, PathN D2.R D2.E f2 i D2.z j ↔ RK i j) (hlh : l ≤ hh) (hh9 : hh ≤ 9) (hpass : ∀ (P : Nat → Prop) j, untilN RK (img (rpow RK l) P) (hh - l) j ↔ img (dirT back (RT.M s.data.toList (.node 5 ss n lo hi [x]))) P j)
 (hp : C2 ≤ pl ∧ pl < w.heap.size ∧ ¬ D2.ownL Fs2 F2 pl) (hm : C2 ≤ mb ∧ mb < w.heap.size ∧ ¬ D2.ownL Fs2 F2 mb) (hr : C2 ≤ rb ∧ rb < w.heap.size ∧ ¬ D2.ownL Fs2 F2 rb) (hd : pl ≠ mb ∧ pl ≠ rb ∧ mb ≠ rb) (hx : LoopBox nb2 l hh pl mb rb (D.T b) b w)
 (e3 : w.cell? ⟨nb, 3, none⟩ = some v3) (hput : LoopsPut D nb pl v3 v3' w w') : LayPost K N C nb s back D Fs F (.node 5 ss n lo hi [x]) b w0 (.returned (partV 129 pl)) w' := by
 have h := h0.kept hKC hwb
 have hold : ∀ k, D.ownL Fs F k → k < C2 := fun k hk => by have := (h0.ownlt hk).2; omega
 have hKC2 : K ≤ C2 := by have := h0.hn; omega
 have hzw := hwb.size
 obtain ⟨v2, e2, o2, f2'⟩ := h.row2
 obtain ⟨v3x, e3x, o3, f3⟩ := h.row3
 have h23x := h.r23 v2 v3x e2 e3x
 rw [e3] at e3x
 obtain rfl : v3 = v3x := by injection e3x
 have hxP : pl ∉ D.P := fun m => by have := hold _ (.inr (.inl m)); omega
 have hne : ∀ p ∈ D.P, p ≠ pl := fun p hp e => hxP (e ▸ hp)
 have hps : ∀ q ∈ D.ps, up D.T pl 129 q = D.T q := fun q hq => up_off _ _ (hne q (by simp [Nt.P, hq]))
 have hlt2 : ∀ k, v2.ownBlock = some k → nb + 1 ≤ k ∧ k < w.heap.size := fun k hk => World.ownsRow.lt o2 k hk
 have hF' : ∀ k, (F k ∨ v3'.ownBlock = some k) → F k ∨ w.heap.size ≤ k := fun k hk => hk.elim .inl (fun e => (hput.new k e).imp (f3 k) id)
 have hF2 : ∀ k, (F k ∨ v3'.ownBlock = some k) → k < w'.heap.size := fun k hk => by
  rcases hk with hk | hk
  · have := (h.hF k hk).2.1; have := hput.size; omega
  · exact (World.ownsRow.lt hput.own k hk).2
 have hchg : ∀ k, k < w.heap.size → ¬ F k → w'.heap[k]? = w.heap[k]? := fun k hk hF => hput.block k hk (fun e => hF (e ▸ h.Fn)) (fun e => hF (f3 k e))
 have hnF : ∀ k, C2 ≤ k → ¬ F k := fun k hk f => by have := hold k (.inl f); omega
 have hnO : ∀ k, C2 ≤ k → ¬ D.ownL Fs F k := fun k hk f => by have := hold k f; omega
 have hCC : C ≤ C2 := by have := h0.hn; omega
 have hnew : ∀ k, C2 ≤ k → k < w.heap.size → ¬ (F k ∨ v3'.ownBlock = some k) := fun k hk hk' f => (hF' k f).elim (hnF k hk) (fun g => by omega)
 obtain ⟨a2, c2, a3, c3, hz⟩ := hk.done hKC2 hN hl2 hf2 h4
 have hkid := (hz.fix.kid (by have := hk.hn; omega)).congr hR
 have hFK : ∀ k, (D2.done f2 a2 c2 a3 c3).own nb2 zeroSt Fs2 k → C2 ≤ k ∧ k < w.heap.size ∧ k ≠ pl ∧ k ≠ mb ∧ k ≠ rb := fun k hk' => by
  have ho := hz.own k hk'
  have := hk.ownlt ho
  exact ⟨this.1, this.2, fun e => hp.2.2 (e ▸ ho), fun e => hm.2.2 (e ▸ ho), fun e => hr.2.2 (e ▸ ho)⟩
 have hcp : ∀ j, w'.cell? ⟨pl, j, none⟩ = w.cell? ⟨pl, j, none⟩ := fun j => cob (a := ⟨pl, j, none⟩) (hchg pl hp.2.1 (hnF pl hp.1))
 have hfp : ∀ j, w'.frozen? ⟨pl, j, none⟩ = w.frozen? ⟨pl, j, none⟩ := fun j => World.frozen?_of_block (a := ⟨pl, j, none⟩) (hchg pl hp.2.1 (hnF pl hp.1))
 have hput' := h.put hKC (lp := true) (x := ⟨pl, 129, 103, dirT back (RT.M s.data.toList (.node 5 ss n lo hi [x])), [b], OkM K N nb2 pl l hh (dirT back (RT.M s.data.toList (.node 5 ss n lo hi [x]))) (OkN K N s.size w.heap.size nb2 (D2.done f2 a2 c2 a3 c3)), some ⟨rb, 0, none⟩, 1⟩) (Fp := ownM ((D2.done f2 a2 c2 a3 c3).own nb2 zeroSt Fs2) mb []) (F' := fun k => F k ∨ v3'.ownBlock = some k) (w' := w')
  ⟨okM hkid hlh hh9 hpass (fun i j hi hj => by have := dir_bd s.data.toList back _ i j (by simpa using hi) hj; simpa using this), .inr (.inr rfl), fun q hq => by simp at hq; exact hq ▸ hb, by simp, ⟨by show C ≤ pl; omega, (show pl < w'.heap.size by have := hput.size; omega), hnO pl hp.1⟩, fun y hy => ?_, fun k hk => ⟨hF' k hk, hF2 k hk, fun e => hnew pl hp.1 hp.2.1 ((show k = pl from e) ▸ hk)⟩, fun k hk => .inl hk, fun j hj => hput.cn j (by omega), hput.fr, ⟨v2, (hput.cn 2 (by omega)).trans e2, ?_, fun k hk => .inl (f2' k hk)⟩, ⟨v3', hput.c3, hput.own, fun k hk => .inr hk⟩, ?_, SetAt.zero ((hcp 2).trans hx.c2) ((hcp 3).trans hx.c3) ((hfp 2).trans (hx.fr 2)) ((hfp 3).trans (hx.fr 3)), SetAt.zero ((hcp 4).trans hx.c4) ((hcp 5).trans hx.c5) ((hfp 4).trans (hx.fr 4)) ((hfp 5).trans (hx.fr 5)), (hcp 6).trans hx.c6, ?_, ?_, fun k hk => ?_, hput.size, fun k hk hF _ => hchg k hk hF⟩
 · have hext : NtExt 1 D (D.put true ⟨pl, 129, 103, dirT back (RT.M s.data.toList (.node 5 ss n lo hi [x])), [b], OkM K N nb2 pl l hh (dirT back (RT.M s.data.toList (.node 5 ss n lo hi [x]))) (OkN K N s.size w.heap.size nb2 (D2.done f2 a2 c2 a3 c3)), some ⟨rb, 0, none⟩, 1⟩) := NtExt.put true hxP
   refine ⟨_, _, _, pl, by simp only [Nt.put, up_at], hput', hext.mono (RT.sz_pos _), .one _ pl b ((D.put_P true _ _).2 (.inl rfl)) ?_ (by simp only [Nt.put, up_at]) (fun i j => by simp only [Nt.put, up_at]), ?_, fun k hk => (hF' k hk).imp id (fun g => by omega), fun k hk => ?_⟩
   · intro e'
     exact hxP (by rw [e', hext.z]; exact h.z)
   · exact ⟨hput.os.trans hwb.os, hput.tape.trans hwb.tape, hput.output.trans hwb.output, Nat.le_trans hzw hput.size, fun k hk hn => (hchg k (by omega) hn).trans (hwb.block k hk)⟩
   · rcases Nt.put_own hxP hk with a | e | ⟨y, hy, rfl⟩ | a | a
     · exact (hF' k a).imp (fun g => .inl g) (fun g => by omega)
     · exact .inr (by have e' : k = pl := e; omega)
     · cases hy; exact .inr (by show w0.heap.size ≤ rb; omega)
     · rcases a with a | e | ⟨e, he, _⟩
       · have := hFK k a; exact .inr (by omega)
       · exact .inr (by omega)
       · cases he
     · exact .inl (a.elim (fun g => g.elim) .inr)
 · cases hy
   exact ⟨by show C ≤ rb; omega, (show rb < w'.heap.size by have := hput.size; omega), hnO rb hr.1, fun e => hd.2.1 e.symm, hnew rb hr.1 hr.2.1⟩
 · exact (o2.keepB (fun k hk => hput.block k (hlt2 k hk).2 (by have := (hlt2 k hk).1; omega) (fun e => h23x k hk e))).congr hps
 · intro u u' hu hu' k hk hk'
   rw [(hput.cn 2 (by omega)).trans e2] at hu; cases hu
   rw [hput.c3] at hu'; cases hu'
   rcases hput.new k hk' with a | a
   · exact h23x k hk a
   · have := (hlt2 k hk).2; omega
 · exact fun i hi => ⟨rb, rfl, by
    obtain rfl : i = 0 := by simpa using hi
    exact (cob (a := ⟨rb, 0, none⟩) (hchg rb hr.2.1 (hnF rb hr.1))).trans hx.row⟩
 · refine ⟨_, mb, [], fun k => Iff.rfl, ⟨?_, (show pl < w'.heap.size by have := hput.size; omega), (hcp 7).trans hx.c7, (hcp 8).trans hx.c8, (hcp 9).trans hx.c9, (hcp 10).trans hx.c10, hx.tab.keep (hchg mb hm.2.1 (hnF mb hm.1)), by omega, fun e => (hFK mb e).2.2.2.1 rfl, fun e he => by cases he⟩⟩
   refine hkid.keep _ w w' ⟨zeroSt, Fs2, hz.at', hz.rest, fun k => Iff.rfl⟩ hput.size (fun k hk => ?_)
   rcases hk with hk | hk
   · exact hchg k (by have := h.hn; omega) (fun f => by have := (h.hF k f).1; omega)
   · have := hFK k hk; exact hchg k this.2.1 (hnF k this.1)
 · have hcase : (C2 ≤ k ∧ k < w.heap.size ∧ k ≠ pl ∧ k ≠ rb) := by
    rcases hk with hk | e | ⟨e, he, _⟩
    · have := hFK k hk; exact ⟨this.1, this.2.1, this.2.2.1, this.2.2.2.2⟩
    · rw [e]; exact ⟨hm.1, hm.2.1, fun e => hd.1 e.symm, hd.2.2⟩
    · cases he
   exact ⟨by omega, hnO k hcase.1, hcase.2.2.1, hnew k hcase.1 hcase.2.1, fun y hy => by cases hy; exact hcase.2.2.2⟩
theorem loop_world (w1 w6 : World) (A : Array Value) (T : TypeId) (h6 : w6 = ((w1.alloc (.map #[] 0)).alloc (.cells A T)).drew) :
 Below w1.heap.size w1 w6 ∧ w6.heap.size = w1.heap.size + 2 ∧ (∀ j, w6.cell? ⟨w1.heap.size + 1, j, none⟩ = A[j]?) ∧ (∀ j, w6.frozen? ⟨w1.heap.size + 1, j, none⟩ = false) ∧ KeptAt w6 w1.heap.size [] := by
 have e : w6.heap[w1.heap.size]? = (w1.alloc (.map #[] 0)).heap[w1.heap.size]? := by rw [h6]; exact Below.heap_alloc _ _ _ (by simp)
 have d : ∀ a, w6.cell? a = ((w1.alloc (.map #[] 0)).alloc (.cells A T)).cell? a := fun a => by rw [h6]; rfl
 have d2 : ∀ a, w6.frozen? a = ((w1.alloc (.map #[] 0)).alloc (.cells A T)).frozen? a := fun a => by rw [h6]; rfl
 refine ⟨?_, by rw [h6]; simp, fun j => ?_, fun j => ?_, (KeptAt.made w1).keep e⟩
 · rw [h6]; exact (below2a w1 _ _).drew
 · rw [d]; exact World.cell?_alloc_at _ _ _ _ (by simp)
 · rw [d2]; exact World.frozen?_alloc_at _ _ _ _ (by simp)
theorem LayP.off {P : List Nat} {s : List UInt8} {R : Nat → Nat → Nat → Prop} {E E' : Nat → List Nat} {z : Nat} {back : Bool} {t : RT} {e b : Nat} (h : LayP P s R E z back t e b) (hE : ∀ p, p ≠ z → E' p = E p) : LayP P s R E' z back t e b := by
 induction h with
 | one t e b he hz hE' hR' => exact .one t e b he hz (by rw [hE e hz]; exact hE') hR'
 | cat st n lo hi x y e m b _ _ ih ih' => exact .cat st n lo hi x y e m b ih ih'
 | alt st n lo hi x y e p q b he hz hR' hE' _ _ ih ih' => exact .alt st n lo hi x y e p q b he hz hR' (by rw [hE e hz]; exact hE') ih ih'
theorem loop_lead (w6 w7 : World) (pl : Nat) (v : Value) (T : TypeId) (hp : pl < w6.heap.size) (v0 : Value) (c6 : w6.cell? ⟨pl, 6, none⟩ = some v0) (h7 : w7 = (w6.alloc (.cells #[v] T)).setCell ⟨pl, 6, none⟩ (.slice (some ⟨w6.heap.size, 0, none⟩) 1 1)) :
 w7.heap.size = w6.heap.size + 1 ∧ w7.os = w6.os ∧ w7.tape = w6.tape ∧ w7.output = w6.output ∧ (∀ k, k < w6.heap.size → k ≠ pl → w7.heap[k]? = w6.heap[k]?) ∧ w7.cell? ⟨w6.heap.size, 0, none⟩ = some v ∧ w7.cell? ⟨pl, 6, none⟩ = some (.slice (some ⟨w6.heap.size, 0, none⟩) 1 1) ∧ (∀ j, j ≠ 6 → w7.cell? ⟨pl, j, none⟩ = w6.cell? ⟨pl, j, none⟩) ∧ ∀ j, w7.frozen? ⟨pl, j, none⟩ = w6.frozen? ⟨pl, j, none⟩ := by
 have hb : Below w6.heap.size w6 (w6.alloc (.cells #[v] T)) := (Below.refl _ _).alloc (Nat.le_refl _) _
 have x6 : (w6.alloc (.cells #[v] T)).cell? ⟨pl, 6, none⟩ = some v0 := (hb.cell (p := ⟨pl, 6, none⟩) hp).trans c6
 refine ⟨by rw [h7]; simp, by rw [h7]; rfl, by rw [h7]; rfl, by rw [h7]; rfl, fun k hk hn => ?_, ?_, ?_, fun j hj => ?_, fun j => ?_⟩
 · rw [h7, Below.heap_setCell _ _ _ k hn]; exact hb.block k hk
 · rw [h7, World.cell?_setCell_other _ _ _ _ (by intro e; injection e; omega)]; exact cell_one w6 v T
 · rw [h7]; exact World.cell?_setCell_same _ _ _ x6
 · rw [h7, World.cell?_setCell_other _ _ _ _ (by intro e; injection e; omega)]; exact hb.cell (p := ⟨pl, j, none⟩) hp
 · rw [h7, World.frozen?_setCell]; exact hb.frozen (p := ⟨pl, j, none⟩) hp
set_option maxRecDepth 100000 in
set_option maxHeartbeats 8000000 in
theorem addLoopB (K N : Nat) (s : ByteArray) (back : Bool) (w0 : World) (env : LayEnv K N s w0) (x : RT) (hx : layOne K N s back w0 x) (hgx : RT.good x) (ss : ByteArray) (n : Bool) (l hh : Nat) (hlh : l ≤ hh ∧ hh ≤ 9) (C nb : Nat) (D : Nt) (Fs : Nat → Nat → Prop) (F : Nat → Prop) (a : Option Addr) (cap b : Nat) (w : World)
 (hKC : K ≤ C) (h : NtL K N s.size C nb s back D Fs F w) (hb : b ∈ D.P) (hB : Below K w0 w) (hk : Kids 0 w0 [x] a) (hl : D.P.length + RT.sz (.node 5 ss n (l : Int) (hh : Int) [x]) ≤ 1048576) :
 Calls Tryz.prog 58 #[.pointer (some ⟨nb, 0, none⟩), reV (.node 5 ss n (l : Int) (hh : Int) [x]) a cap, partV (D.T b) b] w (LayPost K N C nb s back D Fs F (.node 5 ss n (l : Int) (hh : Int) [x]) b w) := by
 have hKw : K ≤ w.heap.size := by rw [← env.k0]; exact hB.size
 obtain ⟨ax, cx, hex, hkx⟩ := hk.elem 0 (by simp)
 simp only [List.getElem_cons_zero] at hex hkx
 replace hex := hex.of hB.size (fun b o _ hlt => hB.cell (p := ⟨b, o, none⟩) (by rw [← env.k0]; exact hlt))
 obtain ⟨bk, o, rfl, _, hbl, ex0, ex1, ex2, ex3, ex4, ex5, _, _⟩ := hex
 obtain ⟨m, hm⟩ : ∃ m, m = w.heap.size := ⟨_, rfl⟩
 obtain ⟨wA, hwA⟩ : ∃ wA, wA = w.alloc (.cells #[.int .i64 5, .string ss, .bool n, .int .i64 (l : Int), .int .i64 (hh : Int), .slice (some ⟨bk, o, none⟩) 1 cap] 26) := ⟨_, rfl⟩
 have hbA : Below w.heap.size w wA := by rw [hwA]; exact (Below.refl _ w).alloc (Nat.le_refl _) _
 have hzA : wA.heap.size = m + 1 := by rw [hwA, hm]; simp
 have xm : ∀ j, wA.cell? ⟨m, j, none⟩ = #[Value.int .i64 5, .string ss, .bool n, .int .i64 (l : Int), .int .i64 (hh : Int), .slice (some ⟨bk, o, none⟩) 1 cap][j]? := fun j => by rw [hwA, hm]; exact World.cell?_alloc_at _ _ _ _ rfl
 have hnl := h.hn.2.1
 have hsz : RT.sz x + 1 ≤ RT.sz (.node 5 ss n (l : Int) (hh : Int) [x]) := by have := RT.sz_kid (.node 5 ss n (l : Int) (hh : Int) [x]) x (by simp [RT.kids]); omega
 have HNET := qd (layNet_any K N s back w0 env x hx hgx (by omega) ax cx wA.drew (hB.trans (hbA.drew.mono hKw)) hkx)
 have hc3 : wA.cell? ⟨m, 3, none⟩ = some (.int .i64 (l : Int)) := xm 3
 have hc4 : wA.cell? ⟨m, 4, none⟩ = some (.int .i64 (hh : Int)) := xm 4
 have hc5 : wA.cell? ⟨m, 5, none⟩ = some (.slice (some ⟨bk, o, none⟩) 1 cap) := xm 5
 have ew : ∀ q j, q < w.heap.size → wA.cell? ⟨q, j, none⟩ = w.cell? ⟨q, j, none⟩ := fun q j hq => hbA.cell (p := ⟨q, j, none⟩) hq
 simp only [Nat.zero_mul, Nat.add_zero] at ex0 ex1 ex2 ex3 ex4 ex5
 obtain ⟨v3, e3, o3, _⟩ := h.row3
 have HH := qd h
 have HE3 := qd e3
 have HO3 := qd o3
 have hpl0 : D.P.length = D.ps.length + D.ls.length := by simp [Nt.P]
 have hpl : D.ls.length ≤ 1048576 := by omega
 have HG := qd (And.intro hKC (And.intro hb (And.intro env.n9 (And.intro (show D.P.length + 1 + RT.sz x ≤ 1048576 by omega) hpl))))
 have HDONE := qd (fun (C2 nb2 : Nat) (D2 : Nt) (Fs2 : Nat → Nat → Prop) (F2 : Nat → Prop) (W W' : World) (pl mb rb f2 : Nat) (u3 u3' : Value) (RK : Nat → Nat → Prop) (q1 : Below w.heap.size w W) (q2 : w.heap.size ≤ C2) (q3 : NtL K N s.size C2 nb2 s back D2 Fs2 F2 W) (q4 : D2.P.length ≤ 1048576) (q5 : f2 ∈ D2.P) (q6 : W.cell? ⟨nb2, 4, none⟩ = some (partV (D2.T f2) f2))
  (q7 : ∀ i j, PathN D2.R D2.E f2 i D2.z j ↔ RK i j) (q8 : ∀ (P : Nat → Prop) j, untilN RK (img (rpow RK l) P) (hh - l) j ↔ img (dirT back (RT.M s.data.toList (.node 5 ss n (l : Int) (hh : Int) [x]))) P j) (q9 : C2 ≤ pl ∧ pl < W.heap.size ∧ ¬ D2.ownL Fs2 F2 pl) (q10 : C2 ≤ mb ∧ mb < W.heap.size ∧ ¬ D2.ownL Fs2 F2 mb) (q11 : C2 ≤ rb ∧ rb < W.heap.size ∧ ¬ D2.ownL Fs2 F2 rb) (q12 : pl ≠ mb ∧ pl ≠ rb ∧ mb ≠ rb) (q13 : LoopBox nb2 l hh pl mb rb (D.T b) b W) (q14 : W.cell? ⟨nb, 3, none⟩ = some u3) (q15 : LoopsPut D nb pl u3 u3' W W') =>
  loopDone (ss := ss) (n := n) (lo := (l : Int)) (hi := (hh : Int)) (x := x) h hKC hb env.n9 q1 q2 q3 q4 q5 q6 q7 (hlh.1) (hlh.2) q8 q9 q10 q11 q12 q13 q14 q15)
 have HPASS := qd (fun (P : Nat → Prop) (j : Nat) => loop_pass s.data.toList back ss n (l : Int) (hh : Int) x l hh rfl rfl (hlh.1) P j)
 have HS0 := qd (show (fun w' : World => w'.cell? ⟨m, 3, none⟩ = some (.int .i64 (l : Int)) ∧ w'.cell? ⟨m, 4, none⟩ = some (.int .i64 (hh : Int)) ∧ w'.cell? ⟨m, 5, none⟩ = some (.slice (some ⟨bk, o, none⟩) 1 cap) ∧ w'.cell? ⟨nb, 0, none⟩ = some (.string s) ∧ w'.cell? ⟨nb, 1, none⟩ = some (.bool back) ∧ w'.cell? ⟨bk, o, none⟩ = some (.int .i64 x.kind) ∧ w'.cell? ⟨bk, o + 1, none⟩ = some (.string x.set) ∧ w'.cell? ⟨bk, o + 2, none⟩ = some (.bool x.neg) ∧ w'.cell? ⟨bk, o + 3, none⟩ = some (.int .i64 x.low) ∧ w'.cell? ⟨bk, o + 4, none⟩ = some (.int .i64 x.high) ∧ w'.cell? ⟨bk, o + 5, none⟩ = some (.slice ax x.kids.length cx)) wA.drew from ⟨hc3, hc4, hc5, (ew nb 0 hnl).trans h.c0, (ew nb 1 hnl).trans h.c1, (ew bk _ hbl).trans ex0, (ew bk _ hbl).trans ex1, (ew bk _ hbl).trans ex2, (ew bk _ hbl).trans ex3, (ew bk _ hbl).trans ex4, (ew bk _ hbl).trans ex5⟩)
 have HN0 := qd (And.intro hnl (And.intro hbl (And.intro hm (And.intro hzA hbA))))
 have HWA := qd hwA
 generalize LayPost K N C nb s back D Fs F (.node 5 ss n (l : Int) (hh : Int) [x]) b w = Q at *
 generalize dirT back (RT.M s.data.toList (.node 5 ss n (l : Int) (hh : Int) [x])) = RM at *
 unfold NetPost at HNET
 clear hx hgx hkx hk h e3 o3 hpl hpl0 hc3 hc4 hc5 ew hsz xm ex0 ex1 ex2 ex3 ex4 ex5 hl hbA hzA hnl hbl hB hKw env hb hKC
 obtain ⟨kx, sx, nx, lox, hix, tsx⟩ := x
 unfold reV partV at *
 simp only [RT.kind, RT.set, RT.neg, RT.low, RT.high, RT.kids, List.length_cons, List.length_nil, Nat.zero_add] at *
 have hw1 : (1 : Int) ≤ 1 := by omega
 clear hm hwA
 go_enter Tryz.func58, Tryz.ntmps58
 go_wp2_with fail
 rw [← HN0.out.2.2.1, ← HWA.out]
 refine wp_region_held_drew (S := (fun w' : World => w'.cell? ⟨m, 3, none⟩ = some (.int .i64 (l : Int)) ∧ w'.cell? ⟨m, 4, none⟩ = some (.int .i64 (hh : Int)) ∧ w'.cell? ⟨m, 5, none⟩ = some (.slice (some ⟨bk, o, none⟩) 1 cap) ∧ w'.cell? ⟨nb, 0, none⟩ = some (.string s) ∧ w'.cell? ⟨nb, 1, none⟩ = some (.bool back) ∧ w'.cell? ⟨bk, o, none⟩ = some (.int .i64 kx) ∧ w'.cell? ⟨bk, o + 1, none⟩ = some (.string sx) ∧ w'.cell? ⟨bk, o + 2, none⟩ = some (.bool nx) ∧ w'.cell? ⟨bk, o + 3, none⟩ = some (.int .i64 lox) ∧ w'.cell? ⟨bk, o + 4, none⟩ = some (.int .i64 hix) ∧ w'.cell? ⟨bk, o + 5, none⟩ = some (.slice ax tsx.length cx))) (by kernel_rfl) HS0.out (fun hHeld => ?_)
 refine tkA 0 ?_
 try simp only [nmA, Act.put]
 refine tkA 1 ?_
 try simp only [nmA, Act.put]
 refine tkA 2 ?_
 try simp only [nmA, Act.put]
 refine tkA 3 ?_
 try simp only [nmA, Act.put]
 refine tkA 4 ?_
 try simp only [nmA, Act.put]
 refine tkA 5 ?_
 try simp only [nmA, Act.put]
 refine tkA 6 ?_
 try simp only [nmA, Act.put]
 refine tkA 7 ?_
 try simp only [nmA, Act.put]
 refine tkA 9 ?_
 try simp only [nmA, Act.put]
 refine tkA 10 ?_
 try simp only [nmA, Act.put]
 refine rdA 8 (fun K hK => ?_)
 go_simp
 refine HNET.out.mono ?_
 rintro e w1 ⟨nb2, D2, Fs2, F2, f2, rfl, hn, hf2, h4, hly, hE, hln, hb1⟩
 go_wp2_with fail
 have e1 : ∀ q j, q < wA.heap.size → w1.cell? ⟨q, j, none⟩ = wA.drew.cell? ⟨q, j, none⟩ := fun q j hq => hb1.cell (p := ⟨q, j, none⟩) hq
 have HB1 := qd (show Below w.heap.size w w1 from HN0.out.2.2.2.2.drew.trans (hb1.mono HN0.out.2.2.2.2.size))
 have HZ1 := qd (show m + 1 ≤ w1.heap.size by have := hb1.size; have := HN0.out.2.2.2.1; have : wA.drew.heap.size = wA.heap.size := rfl; omega)
 have HNN := qd (And.intro hn (And.intro hf2 (And.intro h4 (And.intro hly (And.intro hE hln)))))
 have hzd : wA.drew.heap.size = m + 1 := HN0.out.2.2.2.1
 rw [hzd] at HNN
 refine hK.out _ _ ⟨(e1 _ _ (by have := HN0.out.2.2.2.1; show m < wA.heap.size; omega)).trans hHeld.1, (e1 _ _ (by have := HN0.out.2.2.2.1; show m < wA.heap.size; omega)).trans hHeld.2.1, (e1 _ _ (by have := HN0.out.2.2.2.1; show m < wA.heap.size; omega)).trans hHeld.2.2.1, (e1 _ _ (by have := HN0.out.1; have := HN0.out.2.2.2.1; have := HN0.out.2.2.1; show nb < wA.heap.size; omega)).trans hHeld.2.2.2.1, (e1 _ _ (by have := HN0.out.1; have := HN0.out.2.2.2.1; have := HN0.out.2.2.1; show nb < wA.heap.size; omega)).trans hHeld.2.2.2.2.1, (e1 _ _ (by have := HN0.out.2.1; have := HN0.out.2.2.2.1; have := HN0.out.2.2.1; show bk < wA.heap.size; omega)).trans hHeld.2.2.2.2.2.1, (e1 _ _ (by have := HN0.out.2.1; have := HN0.out.2.2.2.1; have := HN0.out.2.2.1; show bk < wA.heap.size; omega)).trans hHeld.2.2.2.2.2.2.1, (e1 _ _ (by have := HN0.out.2.1; have := HN0.out.2.2.2.1; have := HN0.out.2.2.1; show bk < wA.heap.size; omega)).trans hHeld.2.2.2.2.2.2.2.1, (e1 _ _ (by have := HN0.out.2.1; have := HN0.out.2.2.2.1; have := HN0.out.2.2.1; show bk < wA.heap.size; omega)).trans hHeld.2.2.2.2.2.2.2.2.1, (e1 _ _ (by have := HN0.out.2.1; have := HN0.out.2.2.2.1; have := HN0.out.2.2.1; show bk < wA.heap.size; omega)).trans hHeld.2.2.2.2.2.2.2.2.2.1, (e1 _ _ (by have := HN0.out.2.1; have := HN0.out.2.2.2.1; have := HN0.out.2.2.1; show bk < wA.heap.size; omega)).trans hHeld.2.2.2.2.2.2.2.2.2.2⟩ (fun hHeld => ?_)
 clear hK K hn hf2 h4 hly hE hln hb1 hzd e1
 try simp only [nmA, Act.put]
 refine tkA 11 ?_
 try simp only [nmA, Act.put]
 refine tkA 12 ?_
 try simp only [nmA, Act.put]
 refine wpAnyH_done (by kernel_rfl) ?_ _
 obtain ⟨p3, p4, p5, p0, p1, _⟩ := hHeld
 have hne : ((hh : Int) == -1) = false := by rw [beq_eq_false_iff_ne]; omega
 have hne2 : ¬ ((hh : Int) = -1) := by omega
 have HB5 := HB1
 have HZ5 := HZ1
 have HK5 := HNN
 clear HB1 HZ1 HNN p4 p5
 go_wp2_with fail
 have hmm := fun W => run_makeMap (P := Tryz.prog) 130 W
 have HS2 := qd (show ∀ W, Below w1.heap.size w1 W → (fun w' : World => w'.cell? ⟨m, 3, none⟩ = some (.int .i64 (l : Int)) ∧ w'.cell? ⟨nb, 0, none⟩ = some (.string s) ∧ w'.cell? ⟨nb, 1, none⟩ = some (.bool back)) W from fun W hW => ⟨(hW.cell (p := ⟨m, 3, none⟩) (by have := HZ5.out; show m < _; omega)).trans p3, (hW.cell (p := ⟨nb, 0, none⟩) (by have := HZ5.out; have := HN0.out.1; have := HN0.out.2.2.1; show nb < _; omega)).trans p0, (hW.cell (p := ⟨nb, 1, none⟩) (by have := HZ5.out; have := HN0.out.1; have := HN0.out.2.2.1; show nb < _; omega)).trans p1⟩)
 clear p3 p0 p1
 refine wp_region_held_drew (S := (fun w' : World => w'.cell? ⟨m, 3, none⟩ = some (.int .i64 (l : Int)) ∧ w'.cell? ⟨nb, 0, none⟩ = some (.string s) ∧ w'.cell? ⟨nb, 1, none⟩ = some (.bool back))) (by kernel_rfl) (HS2.out _ (Below.refl _ _).drew) (fun hHeld => ?_)
 refine tkA 0 ?_
 try simp only [nmA, Act.put]
 refine tkA 1 ?_
 try simp only [nmA, Act.put]
 refine tkA 2 ?_
 try simp only [nmA, Act.put]
 refine tkA 3 ?_
 try simp only [nmA, Act.put]
 refine tkA 4 ?_
 try simp only [nmA, Act.put]
 refine tkA 5 ?_
 try simp only [nmA, Act.put]
 refine tkA 6 ?_
 try simp only [nmA, Act.put]
 refine tkA 7 ?_
 try simp only [nmA, Act.put]
 refine tkA 8 ?_
 try simp only [nmA, Act.put]
 refine rdA 9 (fun K hK => ?_)
 go_simp
 refine hK.out _ _ (HS2.out _ ((Below.refl _ _).drew.alloc (Nat.le_refl _) _)) (fun hHeld => ?_)
 clear hK K
 try simp only [nmA, Act.put]
 refine tkA 10 ?_
 try simp only [nmA, Act.put]
 refine rdA 11 (fun K hK => ?_)
 go_simp
 refine hK.out _ _ (HS2.out _ (((Below.refl _ _).drew.alloc (Nat.le_refl _) _).alloc (by simp) _)) (fun hHeld => ?_)
 clear hK K
 try simp only [nmA, Act.put]
 refine tkA 12 ?_
 try simp only [nmA, Act.put]
 refine wpAnyH_done (by kernel_rfl) ?_ _
 obtain ⟨w6, hw6⟩ : ∃ w6, w6 = ((w1.alloc (.map #[] 0)).alloc (.cells #[Value.string s, .bool back, .int .i64 0, .slice none 0 0, .int .i64 0, .slice none 0 0, .slice none 0 0, .pointer (some ⟨nb2, 0, none⟩), .int .i64 (l : Int), .int .i64 (hh : Int), .map (some w1.heap.size)] 132)).drew := ⟨_, rfl⟩
 rw [← hw6]
 obtain ⟨hb6, hz6, xp, fp, tab6⟩ := loop_world w1 w6 _ _ hw6
 clear hw6 HS2
 obtain ⟨pl, hpl⟩ : ∃ pl, pl = w1.heap.size + 1 := ⟨_, rfl⟩
 obtain ⟨mb, hmb⟩ : ∃ mb, mb = w1.heap.size := ⟨_, rfl⟩
 rw [← hpl] at xp fp ⊢
 rw [← hmb] at xp tab6
 have HPL := qd (And.intro hpl (And.intro hmb (And.intro hz6 hb6)))
 have cp6 : w6.cell? ⟨pl, 6, none⟩ = some (.slice none 0 0) := xp 6
 have hl6 : pl < w6.heap.size := by omega
 have hl7 : pl < (w6.alloc (.cells #[.iface (D.T b) (.pointer (some ⟨b, 0, none⟩))] 94)).heap.size := by simp; omega
 have HLE := qd (lead_any pl (some ⟨w6.heap.size, 0, none⟩) 1 1 (.slice none 0 0) (w6.alloc (.cells #[.iface (D.T b) (.pointer (some ⟨b, 0, none⟩))] 94)) ((cob (a := ⟨pl, 6, none⟩) (Below.heap_alloc _ _ _ hl6)).trans cp6) ((World.frozen?_of_block (a := ⟨pl, 6, none⟩) (Below.heap_alloc _ _ _ hl6)).trans (fp 6)))
 have HXP := qd (And.intro xp (And.intro fp (And.intro tab6 (And.intro cp6 hl6))))
 clear hpl hmb hz6 hb6 xp fp tab6 cp6 hl6 hl7
 go_wp2_with fail
 refine HLE.out.mono ?_
 rintro e w7 ⟨⟨u, rfl⟩, hw7⟩
 obtain ⟨z7, o7, t7, u7, k7, r7, c67, cj7, fj7⟩ := loop_lead w6 w7 pl _ _ HXP.out.2.2.2.2 _ HXP.out.2.2.2.1 hw7
 have HB7 := qd (show Below w1.heap.size w1 w7 from ⟨o7.trans HPL.out.2.2.2.os, t7.trans HPL.out.2.2.2.tape, u7.trans HPL.out.2.2.2.output, by have := HPL.out.2.2.1; omega, fun k hk => (k7 k (by have := HPL.out.2.2.1; omega) (by have := HPL.out.1; omega)).trans (HPL.out.2.2.2.block k hk)⟩)
 have HBW := qd (HB5.out.trans (HB7.out.mono HB5.out.size))
 have e37 := (HBW.out.cell (p := ⟨nb, 3, none⟩) HN0.out.1).trans HE3.out
 have f37 := (HBW.out.frozen (p := ⟨nb, 3, none⟩) HN0.out.1).trans (HH.out.fr 3)
 have HC7 := qd (And.intro z7 (And.intro r7 (And.intro c67 (And.intro cj7 (And.intro fj7 k7)))))
 clear hw7 z7 o7 t7 u7 k7 r7 c67 cj7 fj7
 have HB8 := qd (show Below w7.heap.size w7 (w7.alloc (.cells #[.iface 129 (.pointer (some ⟨pl, 0, none⟩))] 94)) from (Below.refl _ _).alloc (Nat.le_refl _) _)
 have HBW8 := qd (HBW.out.trans (HB8.out.mono HBW.out.size))
 have HNW := qd (show (w7.alloc (.cells #[.iface 129 (.pointer (some ⟨pl, 0, none⟩))] 94)).cell? ((⟨w7.heap.size, 0, none⟩ : Addr).add 0) = some (partV (up D.T pl 129 pl) pl) from by
  have e : (⟨w7.heap.size, 0, none⟩ : Addr).add 0 = ⟨w7.heap.size, 0, none⟩ := by unfold Addr.add; split <;> simp_all
  rw [e, up_at]
  exact cell_one w7 _ _)
 have HXP2 := qd (show pl ∉ D.P from fun m' => by have := (HH.out.hP _ m').2; have := HPL.out.1; have := HZ5.out; have := HN0.out.2.2.1; omega)
 have HOW := qd ((HO3.out.kept HBW8.out).congr (T' := up D.T pl 129) (fun q hq => up_off _ _ (fun e => HXP2.out (by rw [← e]; simp [Nt.P, hq]))))
 have HLT3 := qd (fun k hk => World.ownsRow.lt HO3.out k hk)
 go_wp2_with (at_builtin; (refine wpList_append_part rfl (.tmp 60) (.tmp 63) rfl (nb + 1) v3 (up D.T pl 129) D.ls rfl HOW.out ⟨w7.heap.size, 0, none⟩ 1 pl rfl HNW.out (by have := HG.out.2.2.2.2; omega) (by have := HBW8.out.size; have := HN0.out.1; omega) ?_; intro v9 w9 ho9 hb9 hg9 hk9; obtain ⟨a9, c9, hv9, _, hl9⟩ := ho9.row; rw [show (D.ls ++ [pl]).length = D.ls.length + 1 by simp] at hv9; subst hv9; have HG9 := qd (show w9.heap[nb]? = (w7.alloc (.cells #[.iface 129 (.pointer (some ⟨pl, 0, none⟩))] 94)).heap[nb]? from hg9.block nb (by have := HBW8.out.size; have := HN0.out.1; omega) (fun e => by have := (HLT3.out nb e.symm).1; omega)); have x93 := (cob (a := ⟨nb, 3, none⟩) HG9.out).trans ((HB8.out.cell (p := ⟨nb, 3, none⟩) (by have := HBW.out.size; have := HN0.out.1; show nb < _; omega)).trans e37); have y93 := (World.frozen?_of_block (a := ⟨nb, 3, none⟩) HG9.out).trans ((HB8.out.frozen (p := ⟨nb, 3, none⟩) (by have := HBW.out.size; have := HN0.out.1; show nb < _; omega)).trans f37); have HW9 := qd (And.intro ho9 (And.intro hb9 (And.intro hg9 (And.intro hk9 hl9)))); clear ho9 hb9 hg9 hk9 hl9))
 obtain ⟨ho9, hb9, hg9, hk9, hl9⟩ := HW9.out
 obtain ⟨hn, hf2, h4, hly, hE, hln⟩ := HK5.out
 obtain ⟨xp, fp, tab6, cp6, hl6⟩ := HXP.out
 obtain ⟨z7, r7, c67, cj7, fj7, k7⟩ := HC7.out
 obtain ⟨hpl, hmb, hz6, hb6⟩ := HPL.out
 obtain ⟨hnl, hbl, hm, hzA, hbA⟩ := HN0.out
 have hZ5 := HZ5.out
 have hb18 : Below w1.heap.size w1 (w7.alloc (.cells #[.iface 129 (.pointer (some ⟨pl, 0, none⟩))] 94)) := HB7.out.trans (HB8.out.mono HB7.out.size)
 have z8 : (w7.alloc (.cells #[.iface 129 (.pointer (some ⟨pl, 0, none⟩))] 94)).heap.size = w7.heap.size + 1 := by simp
 have hlt1 : ∀ k, D2.ownL Fs2 F2 k → k < w1.heap.size := fun k hk => (hn.ownlt hk).2
 have hHn := HH.out.hn
 have hG := HG.out
 have e8 : ∀ j, (w7.alloc (.cells #[.iface 129 (.pointer (some ⟨pl, 0, none⟩))] 94)).cell? ⟨pl, j, none⟩ = w7.cell? ⟨pl, j, none⟩ := fun j => HB8.out.cell (p := ⟨pl, j, none⟩) (by show pl < w7.heap.size; omega)
 have g8 : ∀ j, (w7.alloc (.cells #[.iface 129 (.pointer (some ⟨pl, 0, none⟩))] 94)).frozen? ⟨pl, j, none⟩ = w7.frozen? ⟨pl, j, none⟩ := fun j => HB8.out.frozen (p := ⟨pl, j, none⟩) (by show pl < w7.heap.size; omega)
 generalize w7.alloc (.cells #[.iface 129 (.pointer (some ⟨pl, 0, none⟩))] 94) = w8 at *
 refine HDONE.out (m + 1) nb2 D2 Fs2 F2 w8 _ pl mb w6.heap.size f2 v3 (.slice a9 (D.ls.length + 1) c9) (dirT back (RT.M s.data.toList (.node kx sx nx lox hix tsx))) HBW8.out (by omega) (hn.kept (by omega) hb18) (by omega) hf2 ((hb18.cell (p := ⟨nb2, 4, none⟩) hn.hn.2.1).trans h4) (fun i j => hly.lay.leads.end hE i j) HPASS.out ⟨by omega, by omega, fun o => by have := hlt1 _ o; omega⟩ ⟨by omega, by omega, fun o => by have := hlt1 _ o; omega⟩ ⟨by omega, by omega, fun o => by have := hlt1 _ o; omega⟩ ⟨by omega, by omega, by omega⟩ ?_ ((hb18.cell (p := ⟨nb, 3, none⟩) (by show nb < _; omega)).trans (((HB5.out.cell (p := ⟨nb, 3, none⟩) hnl)).trans HE3.out)) ?_
 · refine ⟨(e8 2).trans ((cj7 2 (by omega)).trans (xp 2)), (e8 3).trans ((cj7 3 (by omega)).trans (xp 3)), (e8 4).trans ((cj7 4 (by omega)).trans (xp 4)), (e8 5).trans ((cj7 5 (by omega)).trans (xp 5)), (e8 6).trans c67, (e8 7).trans ((cj7 7 (by omega)).trans (xp 7)), (e8 8).trans ((cj7 8 (by omega)).trans (xp 8)), (e8 9).trans ((cj7 9 (by omega)).trans (xp 9)), (e8 10).trans ((cj7 10 (by omega)).trans (xp 10)), fun j => (g8 j).trans ((fj7 j).trans (fp j)), tab6.keep ((HB8.out.block mb (by omega)).trans (k7 mb (by omega) (by omega))), (HB8.out.cell (p := ⟨w6.heap.size, 0, none⟩) (by show w6.heap.size < w7.heap.size; omega)).trans r7⟩
 · refine ⟨hg9.os, hg9.tape, hg9.output, by have := hg9.size; simp; omega, World.cell?_setCell_same w9 _ _ x93, World.ownsRow.kept ho9 (grown_set w9 ⟨nb, 3, none⟩ _) (.inr ?_), hk9, fun j hj => ?_, fun j => ?_, fun k hk h1 h2 => (Below.heap_setCell w9 _ _ k h1).trans (hg9.block k hk (fun e => h2 e.symm))⟩
   · intro e
     cases a9 with
     | none => simp [Value.ownBlock] at e
     | some x => have := (hl9 x rfl).1; simp [Value.ownBlock] at e; omega
   · rw [World.cell?_setCell_other w9 _ _ _ (by intro x; injection x; omega)]
     exact cob (a := ⟨nb, j, none⟩) HG9.out
   · rw [World.frozen?_setCell]
     exact World.frozen?_of_block (a := ⟨nb, j, none⟩) HG9.out
set_option maxRecDepth 100000 in
set_option maxHeartbeats 8000000 in
theorem addLoopA (K N : Nat) (s : ByteArray) (back : Bool) (w0 : World) (env : LayEnv K N s w0) (x : RT) (hx : layOne K N s back w0 x) (hgx : RT.good x) (ss : ByteArray) (n : Bool) (l hh : Nat) (hlh : l ≤ 9 ∧ hh = max l 1) (C nb : Nat) (D : Nt) (Fs : Nat → Nat → Prop) (F : Nat → Prop) (a : Option Addr) (cap b : Nat) (w : World)
 (hKC : K ≤ C) (h : NtL K N s.size C nb s back D Fs F w) (hb : b ∈ D.P) (hB : Below K w0 w) (hk : Kids 0 w0 [x] a) (hl : D.P.length + RT.sz (.node 5 ss n (l : Int) (-1) [x]) ≤ 1048576) :
 Calls Tryz.prog 58 #[.pointer (some ⟨nb, 0, none⟩), reV (.node 5 ss n (l : Int) (-1) [x]) a cap, partV (D.T b) b] w (LayPost K N C nb s back D Fs F (.node 5 ss n (l : Int) (-1) [x]) b w) := by
 have hKw : K ≤ w.heap.size := by rw [← env.k0]; exact hB.size
 obtain ⟨ax, cx, hex, hkx⟩ := hk.elem 0 (by simp)
 simp only [List.getElem_cons_zero] at hex hkx
 replace hex := hex.of hB.size (fun b o _ hlt => hB.cell (p := ⟨b, o, none⟩) (by rw [← env.k0]; exact hlt))
 obtain ⟨bk, o, rfl, _, hbl, ex0, ex1, ex2, ex3, ex4, ex5, _, _⟩ := hex
 obtain ⟨m, hm⟩ : ∃ m, m = w.heap.size := ⟨_, rfl⟩
 obtain ⟨wA, hwA⟩ : ∃ wA, wA = w.alloc (.cells #[.int .i64 5, .string ss, .bool n, .int .i64 (l : Int), .int .i64 (-1), .slice (some ⟨bk, o, none⟩) 1 cap] 26) := ⟨_, rfl⟩
 have hbA : Below w.heap.size w wA := by rw [hwA]; exact (Below.refl _ w).alloc (Nat.le_refl _) _
 have hzA : wA.heap.size = m + 1 := by rw [hwA, hm]; simp
 have xm : ∀ j, wA.cell? ⟨m, j, none⟩ = #[Value.int .i64 5, .string ss, .bool n, .int .i64 (l : Int), .int .i64 (-1), .slice (some ⟨bk, o, none⟩) 1 cap][j]? := fun j => by rw [hwA, hm]; exact World.cell?_alloc_at _ _ _ _ rfl
 have hnl := h.hn.2.1
 have hsz : RT.sz x + 1 ≤ RT.sz (.node 5 ss n (l : Int) (-1) [x]) := by have := RT.sz_kid (.node 5 ss n (l : Int) (-1) [x]) x (by simp [RT.kids]); omega
 have HNET := qd (layNet_any K N s back w0 env x hx hgx (by omega) ax cx wA.drew (hB.trans (hbA.drew.mono hKw)) hkx)
 have hc3 : wA.cell? ⟨m, 3, none⟩ = some (.int .i64 (l : Int)) := xm 3
 have hc4 : wA.cell? ⟨m, 4, none⟩ = some (.int .i64 (-1)) := xm 4
 have hc5 : wA.cell? ⟨m, 5, none⟩ = some (.slice (some ⟨bk, o, none⟩) 1 cap) := xm 5
 have ew : ∀ q j, q < w.heap.size → wA.cell? ⟨q, j, none⟩ = w.cell? ⟨q, j, none⟩ := fun q j hq => hbA.cell (p := ⟨q, j, none⟩) hq
 simp only [Nat.zero_mul, Nat.add_zero] at ex0 ex1 ex2 ex3 ex4 ex5
 obtain ⟨v3, e3, o3, _⟩ := h.row3
 have HH := qd h
 have HE3 := qd e3
 have HO3 := qd o3
 have hpl0 : D.P.length = D.ps.length + D.ls.length := by simp [Nt.P]
 have hpl : D.ls.length ≤ 1048576 := by omega
 have HG := qd (And.intro hKC (And.intro hb (And.intro env.n9 (And.intro (show D.P.length + 1 + RT.sz x ≤ 1048576 by omega) hpl))))
 have HDONE := qd (fun (C2 nb2 : Nat) (D2 : Nt) (Fs2 : Nat → Nat → Prop) (F2 : Nat → Prop) (W W' : World) (pl mb rb f2 : Nat) (u3 u3' : Value) (RK : Nat → Nat → Prop) (q1 : Below w.heap.size w W) (q2 : w.heap.size ≤ C2) (q3 : NtL K N s.size C2 nb2 s back D2 Fs2 F2 W) (q4 : D2.P.length ≤ 1048576) (q5 : f2 ∈ D2.P) (q6 : W.cell? ⟨nb2, 4, none⟩ = some (partV (D2.T f2) f2))
  (q7 : ∀ i j, PathN D2.R D2.E f2 i D2.z j ↔ RK i j) (q8 : ∀ (P : Nat → Prop) j, untilN RK (img (rpow RK l) P) (hh - l) j ↔ img (dirT back (RT.M s.data.toList (.node 5 ss n (l : Int) (-1) [x]))) P j) (q9 : C2 ≤ pl ∧ pl < W.heap.size ∧ ¬ D2.ownL Fs2 F2 pl) (q10 : C2 ≤ mb ∧ mb < W.heap.size ∧ ¬ D2.ownL Fs2 F2 mb) (q11 : C2 ≤ rb ∧ rb < W.heap.size ∧ ¬ D2.ownL Fs2 F2 rb) (q12 : pl ≠ mb ∧ pl ≠ rb ∧ mb ≠ rb) (q13 : LoopBox nb2 l hh pl mb rb (D.T b) b W) (q14 : W.cell? ⟨nb, 3, none⟩ = some u3) (q15 : LoopsPut D nb pl u3 u3' W W') =>
  loopDone (ss := ss) (n := n) (lo := (l : Int)) (hi := (-1)) (x := x) h hKC hb env.n9 q1 q2 q3 q4 q5 q6 q7 ((by have := hlh.2; omega)) ((by have := hlh.2; have := hlh.1; omega)) q8 q9 q10 q11 q12 q13 q14 q15)
 have HPASS := qd (fun (P : Nat → Prop) (j : Nat) => loop_pass2 s.data.toList back ss n (l : Int) x l hh rfl hlh.2 P j)
 have HS0 := qd (show (fun w' : World => w'.cell? ⟨m, 3, none⟩ = some (.int .i64 (l : Int)) ∧ w'.cell? ⟨m, 4, none⟩ = some (.int .i64 (-1)) ∧ w'.cell? ⟨m, 5, none⟩ = some (.slice (some ⟨bk, o, none⟩) 1 cap) ∧ w'.cell? ⟨nb, 0, none⟩ = some (.string s) ∧ w'.cell? ⟨nb, 1, none⟩ = some (.bool back) ∧ w'.cell? ⟨bk, o, none⟩ = some (.int .i64 x.kind) ∧ w'.cell? ⟨bk, o + 1, none⟩ = some (.string x.set) ∧ w'.cell? ⟨bk, o + 2, none⟩ = some (.bool x.neg) ∧ w'.cell? ⟨bk, o + 3, none⟩ = some (.int .i64 x.low) ∧ w'.cell? ⟨bk, o + 4, none⟩ = some (.int .i64 x.high) ∧ w'.cell? ⟨bk, o + 5, none⟩ = some (.slice ax x.kids.length cx)) wA.drew from ⟨hc3, hc4, hc5, (ew nb 0 hnl).trans h.c0, (ew nb 1 hnl).trans h.c1, (ew bk _ hbl).trans ex0, (ew bk _ hbl).trans ex1, (ew bk _ hbl).trans ex2, (ew bk _ hbl).trans ex3, (ew bk _ hbl).trans ex4, (ew bk _ hbl).trans ex5⟩)
 have HN0 := qd (And.intro hnl (And.intro hbl (And.intro hm (And.intro hzA hbA))))
 have HWA := qd hwA
 generalize LayPost K N C nb s back D Fs F (.node 5 ss n (l : Int) (-1) [x]) b w = Q at *
 generalize dirT back (RT.M s.data.toList (.node 5 ss n (l : Int) (-1) [x])) = RM at *
 unfold NetPost at HNET
 clear hx hgx hkx hk h e3 o3 hpl hpl0 hc3 hc4 hc5 ew hsz xm ex0 ex1 ex2 ex3 ex4 ex5 hl hbA hzA hnl hbl hB hKw env hb hKC
 obtain ⟨kx, sx, nx, lox, hix, tsx⟩ := x
 unfold reV partV at *
 simp only [RT.kind, RT.set, RT.neg, RT.low, RT.high, RT.kids, List.length_cons, List.length_nil, Nat.zero_add] at *
 have hw1 : (1 : Int) ≤ 1 := by omega
 clear hm hwA
 go_enter Tryz.func58, Tryz.ntmps58
 go_wp2_with fail
 rw [← HN0.out.2.2.1, ← HWA.out]
 refine wp_region_held_drew (S := (fun w' : World => w'.cell? ⟨m, 3, none⟩ = some (.int .i64 (l : Int)) ∧ w'.cell? ⟨m, 4, none⟩ = some (.int .i64 (-1)) ∧ w'.cell? ⟨m, 5, none⟩ = some (.slice (some ⟨bk, o, none⟩) 1 cap) ∧ w'.cell? ⟨nb, 0, none⟩ = some (.string s) ∧ w'.cell? ⟨nb, 1, none⟩ = some (.bool back) ∧ w'.cell? ⟨bk, o, none⟩ = some (.int .i64 kx) ∧ w'.cell? ⟨bk, o + 1, none⟩ = some (.string sx) ∧ w'.cell? ⟨bk, o + 2, none⟩ = some (.bool nx) ∧ w'.cell? ⟨bk, o + 3, none⟩ = some (.int .i64 lox) ∧ w'.cell? ⟨bk, o + 4, none⟩ = some (.int .i64 hix) ∧ w'.cell? ⟨bk, o + 5, none⟩ = some (.slice ax tsx.length cx))) (by kernel_rfl) HS0.out (fun hHeld => ?_)
 refine tkA 0 ?_
 try simp only [nmA, Act.put]
 refine tkA 1 ?_
 try simp only [nmA, Act.put]
 refine tkA 2 ?_
 try simp only [nmA, Act.put]
 refine tkA 3 ?_
 try simp only [nmA, Act.put]
 refine tkA 4 ?_
 try simp only [nmA, Act.put]
 refine tkA 5 ?_
 try simp only [nmA, Act.put]
 refine tkA 6 ?_
 try simp only [nmA, Act.put]
 refine tkA 7 ?_
 try simp only [nmA, Act.put]
 refine tkA 9 ?_
 try simp only [nmA, Act.put]
 refine tkA 10 ?_
 try simp only [nmA, Act.put]
 refine rdA 8 (fun K hK => ?_)
 go_simp
 refine HNET.out.mono ?_
 rintro e w1 ⟨nb2, D2, Fs2, F2, f2, rfl, hn, hf2, h4, hly, hE, hln, hb1⟩
 go_wp2_with fail
 have e1 : ∀ q j, q < wA.heap.size → w1.cell? ⟨q, j, none⟩ = wA.drew.cell? ⟨q, j, none⟩ := fun q j hq => hb1.cell (p := ⟨q, j, none⟩) hq
 have HB1 := qd (show Below w.heap.size w w1 from HN0.out.2.2.2.2.drew.trans (hb1.mono HN0.out.2.2.2.2.size))
 have HZ1 := qd (show m + 1 ≤ w1.heap.size by have := hb1.size; have := HN0.out.2.2.2.1; have : wA.drew.heap.size = wA.heap.size := rfl; omega)
 have HNN := qd (And.intro hn (And.intro hf2 (And.intro h4 (And.intro hly (And.intro hE hln)))))
 have hzd : wA.drew.heap.size = m + 1 := HN0.out.2.2.2.1
 rw [hzd] at HNN
 refine hK.out _ _ ⟨(e1 _ _ (by have := HN0.out.2.2.2.1; show m < wA.heap.size; omega)).trans hHeld.1, (e1 _ _ (by have := HN0.out.2.2.2.1; show m < wA.heap.size; omega)).trans hHeld.2.1, (e1 _ _ (by have := HN0.out.2.2.2.1; show m < wA.heap.size; omega)).trans hHeld.2.2.1, (e1 _ _ (by have := HN0.out.1; have := HN0.out.2.2.2.1; have := HN0.out.2.2.1; show nb < wA.heap.size; omega)).trans hHeld.2.2.2.1, (e1 _ _ (by have := HN0.out.1; have := HN0.out.2.2.2.1; have := HN0.out.2.2.1; show nb < wA.heap.size; omega)).trans hHeld.2.2.2.2.1, (e1 _ _ (by have := HN0.out.2.1; have := HN0.out.2.2.2.1; have := HN0.out.2.2.1; show bk < wA.heap.size; omega)).trans hHeld.2.2.2.2.2.1, (e1 _ _ (by have := HN0.out.2.1; have := HN0.out.2.2.2.1; have := HN0.out.2.2.1; show bk < wA.heap.size; omega)).trans hHeld.2.2.2.2.2.2.1, (e1 _ _ (by have := HN0.out.2.1; have := HN0.out.2.2.2.1; have := HN0.out.2.2.1; show bk < wA.heap.size; omega)).trans hHeld.2.2.2.2.2.2.2.1, (e1 _ _ (by have := HN0.out.2.1; have := HN0.out.2.2.2.1; have := HN0.out.2.2.1; show bk < wA.heap.size; omega)).trans hHeld.2.2.2.2.2.2.2.2.1, (e1 _ _ (by have := HN0.out.2.1; have := HN0.out.2.2.2.1; have := HN0.out.2.2.1; show bk < wA.heap.size; omega)).trans hHeld.2.2.2.2.2.2.2.2.2.1, (e1 _ _ (by have := HN0.out.2.1; have := HN0.out.2.2.2.1; have := HN0.out.2.2.1; show bk < wA.heap.size; omega)).trans hHeld.2.2.2.2.2.2.2.2.2.2⟩ (fun hHeld => ?_)
 clear hK K hn hf2 h4 hly hE hln hb1 hzd e1
 try simp only [nmA, Act.put]
 refine tkA 11 ?_
 try simp only [nmA, Act.put]
 refine tkA 12 ?_
 try simp only [nmA, Act.put]
 refine wpAnyH_done (by kernel_rfl) ?_ _
 obtain ⟨p3, p4, p5, p0, p1, _⟩ := hHeld
 clear p4 p5
 go_wp2_with fail
 obtain ⟨hn, hf2, h4, hly, hE, hln⟩ := HNN.out
 have hzz := hn.z
 have hzl := (hn.hP _ hn.z).2
 have hc6 := hn.c6 _ hn.z
 have h5 := hn.c5
 have hnz : nb2 ≠ D2.z := fun e => hn.hn.2.2 (e ▸ hn.z)
 have hn2 := hn.hn.2.1
 have HLZ := qd (lead_any D2.z (some ⟨w1.heap.size, 0, none⟩) 1 1 _ (w1.drew.alloc (.cells #[.iface (D2.T f2) (.pointer (some ⟨f2, 0, none⟩))] 94)) ((cob (a := ⟨D2.z, 6, none⟩) (Below.heap_alloc _ _ _ hzl)).trans hc6) ((World.frozen?_of_block (a := ⟨D2.z, 6, none⟩) (Below.heap_alloc _ _ _ hzl)).trans hn.zf))
 have HS3 := qd (show ∀ W : World, (∀ j, j = 4 ∨ j = 5 → W.cell? ⟨nb2, j, none⟩ = w1.cell? ⟨nb2, j, none⟩) → (fun w' : World => w'.cell? ⟨nb2, 4, none⟩ = some (.iface (D2.T f2) (.pointer (some ⟨f2, 0, none⟩))) ∧ w'.cell? ⟨nb2, 5, none⟩ = some (.pointer (some ⟨D2.z, 0, none⟩))) W from fun W hW => ⟨(hW 4 (by omega)).trans h4, (hW 5 (by omega)).trans h5⟩)
 have HZL := qd (And.intro hzl (And.intro hnz (And.intro hn2 (And.intro hc6 hn))))
 have HP5 := qd (And.intro p3 (And.intro p0 p1))
 clear hn hf2 h4 hly hE hln hzz hzl hc6 h5 hnz hn2 p3 p0 p1
 refine wp_region_held_drew (S := (fun w' : World => w'.cell? ⟨nb2, 4, none⟩ = some (.iface (D2.T f2) (.pointer (some ⟨f2, 0, none⟩))) ∧ w'.cell? ⟨nb2, 5, none⟩ = some (.pointer (some ⟨D2.z, 0, none⟩)))) (by kernel_rfl) (HS3.out _ (fun j _ => rfl)) (fun hHeld => ?_)
 refine tkA 0 ?_
 try simp only [nmA, Act.put]
 refine tkA 1 ?_
 try simp only [nmA, Act.put]
 refine tkA 2 ?_
 try simp only [nmA, Act.put]
 refine tkA 3 ?_
 try simp only [nmA, Act.put]
 refine tkA 4 ?_
 try simp only [nmA, Act.put]
 refine tkA 5 ?_
 try simp only [nmA, Act.put]
 refine tkA 6 ?_
 try simp only [nmA, Act.put]
 refine tkA 7 ?_
 try simp only [nmA, Act.put]
 refine tkA 8 ?_
 try simp only [nmA, Act.put]
 refine tkA 9 ?_
 try simp only [nmA, Act.put]
 refine rdA 10 (fun K hK => ?_)
 go_simp
 refine hK.out _ _ (HS3.out _ (fun j _ => cob (a := ⟨nb2, j, none⟩) (Below.heap_alloc _ _ _ HZL.out.2.2.1))) (fun hHeld => ?_)
 clear hK K
 try simp only [nmA, Act.put]
 refine rdA 11 (fun K hK => ?_)
 go_simp
 refine HLZ.out.mono ?_
 rintro e w5 ⟨⟨u, rfl⟩, hw5⟩
 have HL5 := qd (loop_lead w1.drew w5 D2.z _ _ HZL.out.1 _ HZL.out.2.2.2.1 hw5)
 clear hw5
 go_wp2_with fail
 obtain ⟨z5, o5, t5, u5, k5, r5, c65, cj5, fj5⟩ := HL5.out
 refine hK.out _ _ (HS3.out _ (fun j _ => cob (a := ⟨nb2, j, none⟩) (k5 nb2 HZL.out.2.2.1 HZL.out.2.1))) (fun hHeld => ?_)
 clear hK K hHeld
 try simp only [nmA, Act.put]
 refine wpAnyH_done (by kernel_rfl) ?_ _
 obtain ⟨p3, p0, p1⟩ := HP5.out
 obtain ⟨hn, hf2, h4, hly, hE, hln⟩ := HNN.out
 have hz1 := HZ1.out
 have hzm : m + 1 ≤ D2.z := (hn.hP _ hn.z).1
 have hzd : w1.drew.heap.size = w1.heap.size := rfl
 rw [hzd] at z5 r5 c65 k5
 have k51 : ∀ q j, q < w1.heap.size → q ≠ D2.z → w5.cell? ⟨q, j, none⟩ = w1.cell? ⟨q, j, none⟩ := fun q j h1 h2 => cob (a := ⟨q, j, none⟩) (k5 q h1 h2)
 replace p3 := (k51 m 3 (by omega) (by omega)).trans p3
 replace p0 := (k51 nb 0 (by have := HN0.out.1; have := HN0.out.2.2.1; omega) (by have := HN0.out.1; have := HN0.out.2.2.1; omega)).trans p0
 replace p1 := (k51 nb 1 (by have := HN0.out.1; have := HN0.out.2.2.1; omega) (by have := HN0.out.1; have := HN0.out.2.2.1; omega)).trans p1
 have HB5 := qd (show Below w.heap.size w w5 from ⟨o5.trans HB1.out.os, t5.trans HB1.out.tape, u5.trans HB1.out.output, by have := HB1.out.size; omega, fun k hk => (k5 k (by have := HB1.out.size; omega) (by have := HN0.out.2.2.1; omega)).trans (HB1.out.block k hk)⟩)
 have HZ5 := qd (show m + 1 ≤ w5.heap.size by omega)
 have hre := hn.relead (by have := HH.out.hn; have := HN0.out.2.2.1; have := HG.out.1; omega) hf2 (r := w1.heap.size) (w' := w5) ⟨Nat.le_refl _, by omega⟩ (by omega) k5 cj5 fj5 c65 r5
 have hlo := hly.off (E' := (D2.relead f2 w1.heap.size).E) (fun p hp => up_off _ _ hp)
 have hEz : (D2.relead f2 w1.heap.size).E D2.z = [f2] := up_at _ _ _
 have h45 := (k51 nb2 4 hn.hn.2.1 (fun e => hn.hn.2.2 (e ▸ hn.z))).trans h4
 have HK5 := qd (show NtL K N s.size (m + 1) nb2 s back (D2.relead f2 w1.heap.size) Fs2 F2 w5 ∧ f2 ∈ (D2.relead f2 w1.heap.size).P ∧ w5.cell? ⟨nb2, 4, none⟩ = some (.iface ((D2.relead f2 w1.heap.size).T f2) (.pointer (some ⟨f2, 0, none⟩))) ∧ LayP (D2.relead f2 w1.heap.size).P s.data.toList (D2.relead f2 w1.heap.size).R (D2.relead f2 w1.heap.size).E (D2.relead f2 w1.heap.size).z back (.node kx sx nx lox hix tsx) f2 (D2.relead f2 w1.heap.size).z ∧ (D2.relead f2 w1.heap.size).E (D2.relead f2 w1.heap.size).z = [f2] ∧ (D2.relead f2 w1.heap.size).P.length ≤ 1 + RT.sz (.node kx sx nx lox hix tsx) from ⟨hre, hf2, h45, hlo, hEz, hln⟩)
 generalize D2.relead f2 w1.heap.size = D3 at *
 clear HL5 HB1 HZ1 HNN HP5 HLZ HS3 HZL hn hf2 h4 hly hE hln hz1 hzm hzd z5 o5 t5 u5 k5 r5 c65 cj5 fj5 k51 hre hlo hEz h45
 have HQL := qd hlh
 clear hlh
 have hmx : max (l : Int) 1 = (hh : Int) := by have := HQL.out.2; omega
 have hmx2 : max l 1 = hh := HQL.out.2.symm
 go_wp2_with fail
 have hmm := fun W => run_makeMap (P := Tryz.prog) 130 W
 have HS2 := qd (show ∀ W, Below w5.heap.size w5 W → (fun w' : World => w'.cell? ⟨m, 3, none⟩ = some (.int .i64 (l : Int)) ∧ w'.cell? ⟨nb, 0, none⟩ = some (.string s) ∧ w'.cell? ⟨nb, 1, none⟩ = some (.bool back)) W from fun W hW => ⟨(hW.cell (p := ⟨m, 3, none⟩) (by have := HZ5.out; show m < _; omega)).trans p3, (hW.cell (p := ⟨nb, 0, none⟩) (by have := HZ5.out; have := HN0.out.1; have := HN0.out.2.2.1; show nb < _; omega)).trans p0, (hW.cell (p := ⟨nb, 1, none⟩) (by have := HZ5.out; have := HN0.out.1; have := HN0.out.2.2.1; show nb < _; omega)).trans p1⟩)
 clear p3 p0 p1
 refine wp_region_held_drew (S := (fun w' : World => w'.cell? ⟨m, 3, none⟩ = some (.int .i64 (l : Int)) ∧ w'.cell? ⟨nb, 0, none⟩ = some (.string s) ∧ w'.cell? ⟨nb, 1, none⟩ = some (.bool back))) (by kernel_rfl) (HS2.out _ (Below.refl _ _).drew) (fun hHeld => ?_)
 refine tkA 0 ?_
 try simp only [nmA, Act.put]
 refine tkA 1 ?_
 try simp only [nmA, Act.put]
 refine tkA 2 ?_
 try simp only [nmA, Act.put]
 refine tkA 3 ?_
 try simp only [nmA, Act.put]
 refine tkA 4 ?_
 try simp only [nmA, Act.put]
 refine tkA 5 ?_
 try simp only [nmA, Act.put]
 refine tkA 6 ?_
 try simp only [nmA, Act.put]
 refine tkA 7 ?_
 try simp only [nmA, Act.put]
 refine tkA 8 ?_
 try simp only [nmA, Act.put]
 refine rdA 9 (fun K hK => ?_)
 go_simp
 refine hK.out _ _ (HS2.out _ ((Below.refl _ _).drew.alloc (Nat.le_refl _) _)) (fun hHeld => ?_)
 clear hK K
 try simp only [nmA, Act.put]
 refine tkA 10 ?_
 try simp only [nmA, Act.put]
 refine rdA 11 (fun K hK => ?_)
 go_simp
 refine hK.out _ _ (HS2.out _ (((Below.refl _ _).drew.alloc (Nat.le_refl _) _).alloc (by simp) _)) (fun hHeld => ?_)
 clear hK K
 try simp only [nmA, Act.put]
 refine tkA 12 ?_
 try simp only [nmA, Act.put]
 refine wpAnyH_done (by kernel_rfl) ?_ _
 obtain ⟨w6, hw6⟩ : ∃ w6, w6 = ((w5.alloc (.map #[] 0)).alloc (.cells #[Value.string s, .bool back, .int .i64 0, .slice none 0 0, .int .i64 0, .slice none 0 0, .slice none 0 0, .pointer (some ⟨nb2, 0, none⟩), .int .i64 (l : Int), .int .i64 (hh : Int), .map (some w5.heap.size)] 132)).drew := ⟨_, rfl⟩
 rw [← hw6]
 obtain ⟨hb6, hz6, xp, fp, tab6⟩ := loop_world w5 w6 _ _ hw6
 clear hw6 HS2
 obtain ⟨pl, hpl⟩ : ∃ pl, pl = w5.heap.size + 1 := ⟨_, rfl⟩
 obtain ⟨mb, hmb⟩ : ∃ mb, mb = w5.heap.size := ⟨_, rfl⟩
 rw [← hpl] at xp fp ⊢
 rw [← hmb] at xp tab6
 have HPL := qd (And.intro hpl (And.intro hmb (And.intro hz6 hb6)))
 have cp6 : w6.cell? ⟨pl, 6, none⟩ = some (.slice none 0 0) := xp 6
 have hl6 : pl < w6.heap.size := by omega
 have hl7 : pl < (w6.alloc (.cells #[.iface (D.T b) (.pointer (some ⟨b, 0, none⟩))] 94)).heap.size := by simp; omega
 have HLE := qd (lead_any pl (some ⟨w6.heap.size, 0, none⟩) 1 1 (.slice none 0 0) (w6.alloc (.cells #[.iface (D.T b) (.pointer (some ⟨b, 0, none⟩))] 94)) ((cob (a := ⟨pl, 6, none⟩) (Below.heap_alloc _ _ _ hl6)).trans cp6) ((World.frozen?_of_block (a := ⟨pl, 6, none⟩) (Below.heap_alloc _ _ _ hl6)).trans (fp 6)))
 have HXP := qd (And.intro xp (And.intro fp (And.intro tab6 (And.intro cp6 hl6))))
 clear hpl hmb hz6 hb6 xp fp tab6 cp6 hl6 hl7
 go_wp2_with fail
 refine HLE.out.mono ?_
 rintro e w7 ⟨⟨u, rfl⟩, hw7⟩
 obtain ⟨z7, o7, t7, u7, k7, r7, c67, cj7, fj7⟩ := loop_lead w6 w7 pl _ _ HXP.out.2.2.2.2 _ HXP.out.2.2.2.1 hw7
 have HB7 := qd (show Below w5.heap.size w5 w7 from ⟨o7.trans HPL.out.2.2.2.os, t7.trans HPL.out.2.2.2.tape, u7.trans HPL.out.2.2.2.output, by have := HPL.out.2.2.1; omega, fun k hk => (k7 k (by have := HPL.out.2.2.1; omega) (by have := HPL.out.1; omega)).trans (HPL.out.2.2.2.block k hk)⟩)
 have HBW := qd (HB5.out.trans (HB7.out.mono HB5.out.size))
 have e37 := (HBW.out.cell (p := ⟨nb, 3, none⟩) HN0.out.1).trans HE3.out
 have f37 := (HBW.out.frozen (p := ⟨nb, 3, none⟩) HN0.out.1).trans (HH.out.fr 3)
 have HC7 := qd (And.intro z7 (And.intro r7 (And.intro c67 (And.intro cj7 (And.intro fj7 k7)))))
 clear hw7 z7 o7 t7 u7 k7 r7 c67 cj7 fj7
 have HB8 := qd (show Below w7.heap.size w7 (w7.alloc (.cells #[.iface 129 (.pointer (some ⟨pl, 0, none⟩))] 94)) from (Below.refl _ _).alloc (Nat.le_refl _) _)
 have HBW8 := qd (HBW.out.trans (HB8.out.mono HBW.out.size))
 have HNW := qd (show (w7.alloc (.cells #[.iface 129 (.pointer (some ⟨pl, 0, none⟩))] 94)).cell? ((⟨w7.heap.size, 0, none⟩ : Addr).add 0) = some (partV (up D.T pl 129 pl) pl) from by
  have e : (⟨w7.heap.size, 0, none⟩ : Addr).add 0 = ⟨w7.heap.size, 0, none⟩ := by unfold Addr.add; split <;> simp_all
  rw [e, up_at]
  exact cell_one w7 _ _)
 have HXP2 := qd (show pl ∉ D.P from fun m' => by have := (HH.out.hP _ m').2; have := HPL.out.1; have := HZ5.out; have := HN0.out.2.2.1; omega)
 have HOW := qd ((HO3.out.kept HBW8.out).congr (T' := up D.T pl 129) (fun q hq => up_off _ _ (fun e => HXP2.out (by rw [← e]; simp [Nt.P, hq]))))
 have HLT3 := qd (fun k hk => World.ownsRow.lt HO3.out k hk)
 go_wp2_with (at_builtin; (refine wpList_append_part rfl (.tmp 60) (.tmp 63) rfl (nb + 1) v3 (up D.T pl 129) D.ls rfl HOW.out ⟨w7.heap.size, 0, none⟩ 1 pl rfl HNW.out (by have := HG.out.2.2.2.2; omega) (by have := HBW8.out.size; have := HN0.out.1; omega) ?_; intro v9 w9 ho9 hb9 hg9 hk9; obtain ⟨a9, c9, hv9, _, hl9⟩ := ho9.row; rw [show (D.ls ++ [pl]).length = D.ls.length + 1 by simp] at hv9; subst hv9; have HG9 := qd (show w9.heap[nb]? = (w7.alloc (.cells #[.iface 129 (.pointer (some ⟨pl, 0, none⟩))] 94)).heap[nb]? from hg9.block nb (by have := HBW8.out.size; have := HN0.out.1; omega) (fun e => by have := (HLT3.out nb e.symm).1; omega)); have x93 := (cob (a := ⟨nb, 3, none⟩) HG9.out).trans ((HB8.out.cell (p := ⟨nb, 3, none⟩) (by have := HBW.out.size; have := HN0.out.1; show nb < _; omega)).trans e37); have y93 := (World.frozen?_of_block (a := ⟨nb, 3, none⟩) HG9.out).trans ((HB8.out.frozen (p := ⟨nb, 3, none⟩) (by have := HBW.out.size; have := HN0.out.1; show nb < _; omega)).trans f37); have HW9 := qd (And.intro ho9 (And.intro hb9 (And.intro hg9 (And.intro hk9 hl9)))); clear ho9 hb9 hg9 hk9 hl9))
 obtain ⟨ho9, hb9, hg9, hk9, hl9⟩ := HW9.out
 obtain ⟨hn, hf2, h4, hly, hE, hln⟩ := HK5.out
 obtain ⟨xp, fp, tab6, cp6, hl6⟩ := HXP.out
 obtain ⟨z7, r7, c67, cj7, fj7, k7⟩ := HC7.out
 obtain ⟨hpl, hmb, hz6, hb6⟩ := HPL.out
 obtain ⟨hnl, hbl, hm, hzA, hbA⟩ := HN0.out
 have hZ5 := HZ5.out
 have hb18 : Below w5.heap.size w5 (w7.alloc (.cells #[.iface 129 (.pointer (some ⟨pl, 0, none⟩))] 94)) := HB7.out.trans (HB8.out.mono HB7.out.size)
 have z8 : (w7.alloc (.cells #[.iface 129 (.pointer (some ⟨pl, 0, none⟩))] 94)).heap.size = w7.heap.size + 1 := by simp
 have hlt1 : ∀ k, D3.ownL Fs2 F2 k → k < w5.heap.size := fun k hk => (hn.ownlt hk).2
 have hHn := HH.out.hn
 have hG := HG.out
 have e8 : ∀ j, (w7.alloc (.cells #[.iface 129 (.pointer (some ⟨pl, 0, none⟩))] 94)).cell? ⟨pl, j, none⟩ = w7.cell? ⟨pl, j, none⟩ := fun j => HB8.out.cell (p := ⟨pl, j, none⟩) (by show pl < w7.heap.size; omega)
 have g8 : ∀ j, (w7.alloc (.cells #[.iface 129 (.pointer (some ⟨pl, 0, none⟩))] 94)).frozen? ⟨pl, j, none⟩ = w7.frozen? ⟨pl, j, none⟩ := fun j => HB8.out.frozen (p := ⟨pl, j, none⟩) (by show pl < w7.heap.size; omega)
 generalize w7.alloc (.cells #[.iface 129 (.pointer (some ⟨pl, 0, none⟩))] 94) = w8 at *
 refine HDONE.out (m + 1) nb2 D3 Fs2 F2 w8 _ pl mb w6.heap.size f2 v3 (.slice a9 (D.ls.length + 1) c9) (fun i j => ∃ q : Nat, rpow (dirT back (RT.M s.data.toList (.node kx sx nx lox hix tsx))) (q + 1) i j) HBW8.out (by omega) (hn.kept (by omega) hb18) (by omega) hf2 ((hb18.cell (p := ⟨nb2, 4, none⟩) hn.hn.2.1).trans h4) (fun i j => hly.lay.leads.loop hn.zR hE i j) HPASS.out ⟨by omega, by omega, fun o => by have := hlt1 _ o; omega⟩ ⟨by omega, by omega, fun o => by have := hlt1 _ o; omega⟩ ⟨by omega, by omega, fun o => by have := hlt1 _ o; omega⟩ ⟨by omega, by omega, by omega⟩ ?_ ((hb18.cell (p := ⟨nb, 3, none⟩) (by show nb < _; omega)).trans (((HB5.out.cell (p := ⟨nb, 3, none⟩) hnl)).trans HE3.out)) ?_
 · refine ⟨(e8 2).trans ((cj7 2 (by omega)).trans (xp 2)), (e8 3).trans ((cj7 3 (by omega)).trans (xp 3)), (e8 4).trans ((cj7 4 (by omega)).trans (xp 4)), (e8 5).trans ((cj7 5 (by omega)).trans (xp 5)), (e8 6).trans c67, (e8 7).trans ((cj7 7 (by omega)).trans (xp 7)), (e8 8).trans ((cj7 8 (by omega)).trans (xp 8)), (e8 9).trans ((cj7 9 (by omega)).trans (xp 9)), (e8 10).trans ((cj7 10 (by omega)).trans (xp 10)), fun j => (g8 j).trans ((fj7 j).trans (fp j)), tab6.keep ((HB8.out.block mb (by omega)).trans (k7 mb (by omega) (by omega))), (HB8.out.cell (p := ⟨w6.heap.size, 0, none⟩) (by show w6.heap.size < w7.heap.size; omega)).trans r7⟩
 · refine ⟨hg9.os, hg9.tape, hg9.output, by have := hg9.size; simp; omega, World.cell?_setCell_same w9 _ _ x93, World.ownsRow.kept ho9 (grown_set w9 ⟨nb, 3, none⟩ _) (.inr ?_), hk9, fun j hj => ?_, fun j => ?_, fun k hk h1 h2 => (Below.heap_setCell w9 _ _ k h1).trans (hg9.block k hk (fun e => h2 e.symm))⟩
   · intro e
     cases a9 with
     | none => simp [Value.ownBlock] at e
     | some x => have := (hl9 x rfl).1; simp [Value.ownBlock] at e; omega
   · rw [World.cell?_setCell_other w9 _ _ _ (by intro x; injection x; omega)]
     exact cob (a := ⟨nb, j, none⟩) HG9.out
   · rw [World.frozen?_setCell]
     exact World.frozen?_of_block (a := ⟨nb, j, none⟩) HG9.out
structure LayR (K N C nb : Nat) (s : ByteArray) (back : Bool) (D : Nt) (Fs : Nat → Nat → Prop) (F : Nat → Prop) (w : World) (D2 : Nt) (Fs2 : Nat → Nat → Prop) (F2 : Nat → Prop) (V : World) (m : Nat) : Prop where
 n : NtL K N s.size C nb s back D2 Fs2 F2 V
 x : NtExt m D D2
 g : GuestChg F w V
 f : ∀ k, F2 k → F k ∨ w.heap.size ≤ k
 o : ∀ k, D2.ownL Fs2 F2 k → D.ownL Fs F k ∨ w.heap.size ≤ k
theorem LayR.start {K N C nb : Nat} {s : ByteArray} {back : Bool} {D : Nt} {Fs : Nat → Nat → Prop} {F : Nat → Prop} {w V : World} (h : NtL K N s.size C nb s back D Fs F w) (hKC : K ≤ C) (hb : Below w.heap.size w V) : LayR K N C nb s back D Fs F w D Fs F V 0 :=
 ⟨h.kept hKC hb, NtExt.refl D 0, .of_below hb, fun k hk => .inl hk, fun k hk => .inl hk⟩
theorem LayR.below {K N C nb m : Nat} {s : ByteArray} {back : Bool} {D D2 : Nt} {Fs Fs2 : Nat → Nat → Prop} {F F2 : Nat → Prop} {w V V' : World} (h : LayR K N C nb s back D Fs F w D2 Fs2 F2 V m) (hKC : K ≤ C) (hb : Below V.heap.size V V') : LayR K N C nb s back D Fs F w D2 Fs2 F2 V' m :=
 ⟨h.n.kept hKC hb, h.x, h.g.trans (G := F2) (GuestChg.of_below hb) h.f, h.f, h.o⟩
def Free (D2 D3 : Nt) (Fs2 Fs3 : Nat → Nat → Prop) (F2 F3 : Nat → Prop) (V V' : World) : Prop := ∀ q, q < V.heap.size → ¬ D2.ownL Fs2 F2 q → ¬ D3.ownL Fs3 F3 q ∧ V'.heap[q]? = V.heap[q]?
theorem LayR.lay {K N C nb m : Nat} {s : ByteArray} {back : Bool} {D D2 : Nt} {Fs Fs2 : Nat → Nat → Prop} {F F2 : Nat → Prop} {w V V' : World} {t : RT} {b : Nat} {e : Ending} (h : LayR K N C nb s back D Fs F w D2 Fs2 F2 V m) (hp : LayPost K N C nb s back D2 Fs2 F2 t b V e V') :
 ∃ D3 Fs3 F3 p, e = .returned (partV (D3.T p) p) ∧ LayR K N C nb s back D Fs F w D3 Fs3 F3 V' (m + RT.sz t) ∧ NtExt (RT.sz t) D2 D3 ∧ LayP D3.P s.data.toList D3.R D3.E D3.z back t p b ∧ Free D2 D3 Fs2 Fs3 F2 F3 V V' := by
 obtain ⟨D3, Fs3, F3, p, he, hn, hx, hl, hg, hf, ho⟩ := hp
 have hz := h.g.size
 refine ⟨D3, Fs3, F3, p, he, ⟨hn, h.x.trans hx, h.g.trans hg h.f, fun k hk => (hf k hk).elim (h.f k) (fun g => .inr (by omega)), fun k hk => (ho k hk).elim (h.o k) (fun g => .inr (by omega))⟩, hx, hl, fun q hq hn' => ⟨fun x => (ho q x).elim hn' (fun g => by omega), hg.block q hq (fun f => hn' (.inl f))⟩⟩
theorem LayR.post {K N C nb m : Nat} {s : ByteArray} {back : Bool} {D D2 : Nt} {Fs Fs2 : Nat → Nat → Prop} {F F2 : Nat → Prop} {w V : World} {t : RT} {p b : Nat} (h : LayR K N C nb s back D Fs F w D2 Fs2 F2 V m) (hm : m ≤ RT.sz t) (hl : LayP D2.P s.data.toList D2.R D2.E D2.z back t p b) : LayPost K N C nb s back D Fs F t b w (.returned (partV (D2.T p) p)) V :=
 ⟨D2, Fs2, F2, p, rfl, h.n, h.x.mono hm, hl, h.g, h.f, h.o⟩
theorem LayPost.of_below {K N C nb : Nat} {s : ByteArray} {back : Bool} {D : Nt} {Fs : Nat → Nat → Prop} {F : Nat → Prop} {w W w' : World} {t : RT} {b : Nat} {e : Ending} (h : LayPost K N C nb s back D Fs F t b W e w') (hb : Below w.heap.size w W) : LayPost K N C nb s back D Fs F t b w e w' := by
 obtain ⟨D3, Fs3, F3, p, he, hn, hx, hl, hg, hf, ho⟩ := h
 have hz := hb.size
 exact ⟨D3, Fs3, F3, p, he, hn, hx, hl, ⟨hg.os.trans hb.os, hg.tape.trans hb.tape, hg.output.trans hb.output, by have := hg.size; omega, fun k hk hn => (hg.block k (by omega) hn).trans (hb.block k hk)⟩, fun k hk => (hf k hk).imp id (fun g => by omega), fun k hk => (ho k hk).imp id (fun g => by omega)⟩
structure OwnB (C : Nat) (D : Nt) (Fs : Nat → Nat → Prop) (F : Nat → Prop) (V : World) (q : Nat) : Prop where
 c : C ≤ q
 lt : q < V.heap.size
 no : ¬ D.ownL Fs F q
theorem OwnB.made {K N L C nb : Nat} {s : ByteArray} {back : Bool} {D : Nt} {Fs : Nat → Nat → Prop} {F : Nat → Prop} {w V : World} (h : NtL K N L C nb s back D Fs F w) {q : Nat} (hq : w.heap.size ≤ q) (hl : q < V.heap.size) : OwnB C D Fs F V q :=
 ⟨by have := h.hn; omega, hl, fun o => by have := (h.ownlt o).2; omega⟩
theorem OwnB.below {C : Nat} {D : Nt} {Fs : Nat → Nat → Prop} {F : Nat → Prop} {V V' : World} {q : Nat} (h : OwnB C D Fs F V q) (hb : V.heap.size ≤ V'.heap.size) : OwnB C D Fs F V' q := ⟨h.c, Nat.lt_of_lt_of_le h.lt hb, h.no⟩
theorem OwnB.lay {C : Nat} {D2 D3 : Nt} {Fs2 Fs3 : Nat → Nat → Prop} {F2 F3 : Nat → Prop} {V V' : World} {q : Nat} (h : OwnB C D2 Fs2 F2 V q) (hf : Free D2 D3 Fs2 Fs3 F2 F3 V V') (hz : V.heap.size ≤ V'.heap.size) : OwnB C D3 Fs3 F3 V' q := ⟨h.c, Nat.lt_of_lt_of_le h.lt hz, (hf q h.lt h.no).1⟩
def BoxIs (V : World) (q : Nat) (A : Array Value) : Prop := (∀ j, V.cell? ⟨q, j, none⟩ = A[j]?) ∧ ∀ j, V.frozen? ⟨q, j, none⟩ = false
theorem BoxIs.keep {V V' : World} {q : Nat} {A : Array Value} (h : BoxIs V q A) (hb : V'.heap[q]? = V.heap[q]?) : BoxIs V' q A :=
 ⟨fun j => (cob (a := ⟨q, j, none⟩) hb).trans (h.1 j), fun j => (World.frozen?_of_block (a := ⟨q, j, none⟩) hb).trans (h.2 j)⟩
theorem BoxIs.made (V : World) (A : Array Value) (T : TypeId) : BoxIs (V.alloc (.cells A T)) V.heap.size A := ⟨fun j => World.cell?_alloc_at _ _ _ _ rfl, fun j => World.frozen?_alloc_at _ _ _ _ rfl⟩
theorem altCall {K N C nb m : Nat} {s : ByteArray} {back : Bool} {D D2 : Nt} {Fs Fs2 : Nat → Nat → Prop} {F F2 : Nat → Prop} {w V : World} {x y : RT} {ss : ByteArray} {n : Bool} {lo hi : Int} {p1 p2 p pr b : Nat} (h0 : NtL K N s.size C nb s back D Fs F w) (h : LayR K N C nb s back D Fs F w D2 Fs2 F2 V m) (hKC : K ≤ C) (hN : N ≤ 1048576) (hL : s.size / 64 < N) (hm : m + 1 ≤ RT.sz (.node 4 ss n lo hi [x, y])) (hl : D2.P.length ≤ 1048576)
 (hx : LayP D2.P s.data.toList D2.R D2.E D2.z back x p1 b) (hy : LayP D2.P s.data.toList D2.R D2.E D2.z back y p2 b) (hp : OwnB C D2 Fs2 F2 V p) (hr : OwnB C D2 Fs2 F2 V pr) (hne : pr ≠ p) (hpw : w.heap.size ≤ p) (hrw : w.heap.size ≤ pr) (bp : BoxIs V p #[.string s, .bool back, .int .i64 0, .slice none 0 0, .int .i64 0, .slice none 0 0, .slice none 0 0, .int .i64 0])
 (br : BoxIs V pr #[partV (D2.T p1) p1, partV (D2.T p2) p2]) :
 Calls Tryz.prog 57 #[.pointer (some ⟨nb, 0, none⟩), .iface 87 (.pointer (some ⟨p, 0, none⟩)), .slice (some ⟨pr, 0, none⟩) 2 2] V (fun e w' => LayPost K N C nb s back D Fs F (.node 4 ss n lo hi [x, y]) b w e w' ∧ ∀ q, q < V.heap.size → ¬ F2 q → q ≠ p → w'.heap[q]? = V.heap[q]?) := by
 have key := layAdd h.n hKC ⟨p, 87, 92, wayE 0 s.size, [p1, p2], OkE p 0 s, some ⟨pr, 0, none⟩, 2⟩ (okE K N p 0 s hN hL) (.inl rfl) (fun q hq => by
  simp only [List.mem_cons, List.not_mem_nil, or_false] at hq
  rcases hq with rfl | rfl
  · exact hx.first
  · exact hy.first) (by simp) ⟨hp.c, hp.lt, hp.no⟩ (fun z hz => by cases hz; exact ⟨hr.c, hr.lt, hr.no, hne⟩)
  (SetAt.zero (bp.1 2) (bp.1 3) (bp.2 2) (bp.2 3)) (SetAt.zero (bp.1 4) (bp.1 5) (bp.2 4) (bp.2 5)) _ (bp.1 6) (bp.2 6)
  (fun i hi => ⟨pr, rfl, by
    have hi2 : i < 2 := by simpa using hi
    match i, hi2 with
    | 0, _ => exact br.1 0
    | 1, _ => exact br.1 1⟩)
  (fun w' hz _ hc => ⟨fun _ f => f, (show p < w'.heap.size by have := hp.lt; omega), (hc 0 (by omega)).trans (bp.1 0), (hc 7 (by omega)).trans (bp.1 7)⟩) hl
 refine key.mono ?_
 rintro e w' ⟨he, F', hn, hF, hg⟩
 have hxP : p ∉ D2.P := fun q => hp.no (.inr (.inl q))
 have hz := h.g.size
 have hext : NtExt 1 D2 (D2.put false ⟨p, 87, 92, wayE 0 s.size, [p1, p2], OkE p 0 s, some ⟨pr, 0, none⟩, 2⟩) := NtExt.put false hxP
 refine ⟨?_, fun q a b c => hg.block q a (fun d => d.elim b c)⟩
 refine ⟨_, _, F', p, by rw [he]; simp only [Nt.put, up_at], hn, (h.x.trans hext).mono hm, .alt ss n lo hi x y p p1 p2 b ((D2.put_P false _ _).2 (.inl rfl)) ?_ (fun i j => by simp only [Nt.put, up_at]; exact wayE_zero _ _ _) (by simp only [Nt.put, up_at]) (hext.lay hx) (hext.lay hy), ?_, fun k hk => (hF k hk).elim (h.f k) (fun g => .inr (by omega)), fun k hk => ?_⟩
 · intro e'
   exact hxP (by rw [e', hext.z]; exact h.n.z)
 · refine ⟨hg.os.trans h.g.os, hg.tape.trans h.g.tape, hg.output.trans h.g.output, by have := hg.size; omega, fun k hk hn' => ?_⟩
   exact (hg.block k (by omega) (fun c => c.elim (fun f => (h.f k f).elim hn' (fun g => by omega)) (fun c => by have c' : k = p := c; omega))).trans (h.g.block k hk hn')
 · rcases Nt.put_own hxP hk with a | e | ⟨z, hz', rfl⟩ | a | a
   · exact (hF k a).elim (fun g => h.o k (.inl g)) (fun g => .inr (by omega))
   · exact .inr (by have e' : k = p := e; omega)
   · cases hz'; exact .inr hrw
   · exact a.elim
   · exact a.elim (fun g => g.elim) (fun g => h.o k (.inr g))
end Go.Proofs.YtcimhpdpfckgiaaGreatDoor.kit
