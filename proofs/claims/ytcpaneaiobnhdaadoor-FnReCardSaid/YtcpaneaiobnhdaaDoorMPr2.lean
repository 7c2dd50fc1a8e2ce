/-
 How the trees that a reader makes lie in memory: each list of kids in a block of its own, none twice (KF); a row of trees that a call owns (OwnR), append to it. Conditions: each theorem names its own.
-/
import Derived.Test.YtcpaneaiobnhdaaDoorMPr1
import Derived.Test.YtcpaneaiobnhdaaDoorMRe1
import Derived.Test.YtcpaneaiobnhdaaDoorMParts0
import Derived.Test.YtcpaneaiobnhdaaDoorMInfo
namespace Go.Proofs.YtcpaneaiobnhdaaDoor.kit
open Go.ChangeShapes Go.WideShapes Go.ChangeAt Go.RowKit
set_option linter.unusedVariables false

theorem add_atR (b o k : Nat) : (⟨b, o, none⟩ : Addr).add k = ⟨b, o + k, none⟩ := by unfold Addr.add; split <;> simp_all
/-- A tree's value, and the blocks that its kids, and theirs, lie in. -/
structure RV where
 t : RT
 a : Option Addr
 c : Nat
 F : List Nat
def RV.cells (r : RV) : List Value := [.int .i64 r.t.kind, .string r.t.set, .bool r.t.neg, .int .i64 r.t.low, .int .i64 r.t.high, .slice r.a r.t.kids.length r.c]
def rvVals (rs : List RV) : List Value := rs.flatMap RV.cells
instance : Inhabited RV := ⟨⟨PR.leaf 0, none, 0, []⟩⟩
theorem rvVals_len (rs : List RV) : (rvVals rs).length = rs.length * 6 := by
 induction rs with
 | nil => rfl
 | cons t ts ih => simp only [rvVals, List.flatMap_cons, List.length_append, List.length_cons] at ih ⊢; rw [ih]; simp [RV.cells]; omega
theorem rvVals_at (rs : List RV) (j d : Nat) (hj : j < rs.length) (hd : d < 6) : (rvVals rs)[j * 6 + d]? = (rs.getD j default).cells[d]? := by
 induction rs generalizing j with
 | nil => simp at hj
 | cons t ts ih =>
  have hc : t.cells.length = 6 := rfl
  show (t.cells ++ rvVals ts)[j * 6 + d]? = _
  cases j with
  | zero => rw [List.getElem?_append_left (by omega)]; simp
  | succ j =>
   rw [List.getElem?_append_right (by omega), hc, show (j + 1) * 6 + d - 6 = j * 6 + d by omega, ih j (by simpa using hj)]
   simp
def Nice (t : RT) : Prop := t.set.size ≤ 256 ∧ t.kids.length ≤ 2
def apartF (r r' : RV) : Prop := ∀ x ∈ r.F, x ∉ r'.F
/-- The trees ts lie at a, in the blocks F, none of which is there twice. -/
inductive KF (w : World) : List RT → Option Addr → List Nat → Prop
 | nil (a : Option Addr) : KF w [] a []
 | mk (b : Nat) (rs : List RV) (cs : Array Value) (e : TypeId) (hb : w.heap[b]? = some (.cells cs e (0, 0))) (hc : cs.toList = rvVals rs) (hn : ∀ r ∈ rs, Nice r.t) (hk : ∀ r ∈ rs, KF w r.t.kids r.a r.F) (hf : ∀ r ∈ rs, b ∉ r.F) (hp : rs.Pairwise apartF) :
   KF w (rs.map RV.t) (some ⟨b, 0, none⟩) (b :: rs.flatMap RV.F)
theorem KF.of {w w' : World} {ts : List RT} {a : Option Addr} {F : List Nat} (h : KF w ts a F) (hh : ∀ b ∈ F, w'.heap[b]? = w.heap[b]?) : KF w' ts a F := by
 induction h with
 | nil a => exact .nil a
 | mk b rs cs e hb hc hn hk hf hp ih =>
  refine .mk b rs cs e ((hh b List.mem_cons_self).trans hb) hc hn (fun r hr => ih r hr fun x hx => hh x (List.mem_cons_of_mem _ (List.mem_flatMap.2 ⟨r, hr, hx⟩))) hf hp
theorem KF.lt {w : World} {ts : List RT} {a : Option Addr} {F : List Nat} (h : KF w ts a F) : ∀ x ∈ F, x < w.heap.size := by
 induction h with
 | nil a => intro x hx; cases hx
 | mk b rs cs e hb hc hn hk hf hp ih =>
  intro x hx
  rcases List.mem_cons.1 hx with rfl | hx
  ·exact (Array.getElem?_eq_some_iff.1 hb).1
  ·obtain ⟨r, hr, hx⟩ := List.mem_flatMap.1 hx
   exact ih r hr x hx
theorem KF.kept {w w' : World} {ts : List RT} {a : Option Addr} {F : List Nat} (h : KF w ts a F) (hb : Below w.heap.size w w') : KF w' ts a F := h.of fun b hx => hb.block b (h.lt b hx)
theorem KF.only {w w' : World} {ts : List RT} {a : Option Addr} {F : List Nat} {B : Nat} (h : KF w ts a F) (hb : OnlyB B w w') (hB : B ∉ F) : KF w' ts a F :=
 h.of fun b hx => hb.block b (h.lt b hx) (fun e => hB (by cases e; exact hx))
theorem KF.kids {w : World} {ts : List RT} {a : Option Addr} {F : List Nat} (h : KF w ts a F) {B : Nat} (hB : ∀ x ∈ F, B ≤ x) : Kids B w ts a := by
 induction h with
 | nil a => exact Kids.nil B w a
 | mk b rs cs e hb hc hn hk hf hp ih =>
  have hlt : b < w.heap.size := (Array.getElem?_eq_some_iff.1 hb).1
  have cell : ∀ j, w.cell? ⟨b, j, none⟩ = (rvVals rs)[j]? := fun j => by
   rw [cell_of_row w b j cs e (0, 0) hb, ← hc, Array.getElem?_toList]
  have hg : ∀ i (hi : i < (rs.map RV.t).length), rs.getD i default ∈ rs := fun i hi => by
   rw [List.length_map] at hi
   rw [List.getD_eq_getElem?_getD, List.getElem?_eq_getElem hi]; exact List.getElem_mem hi
  have ht : ∀ i (hi : i < (rs.map RV.t).length), (rs.map RV.t)[i] = (rs.getD i default).t := fun i hi => by
   rw [List.length_map] at hi
   rw [List.getElem_map, List.getD_eq_getElem?_getD, List.getElem?_eq_getElem hi]; rfl
  refine .mk _ _ (fun i => (rs.getD i default).a) (fun i => (rs.getD i default).c) (fun i hi => ?_) (fun i hi => ?_)
  ·have hi' : i < rs.length := by simpa using hi
   have c : ∀ d, d < 6 → w.cell? ⟨b, 0 + i * 6 + d, none⟩ = (rs.getD i default).cells[d]? := fun d hd => by
    rw [cell, Nat.zero_add, rvVals_at rs i d hi' hd]
   have n := hn _ (hg i hi)
   rw [ht i hi]
   exact ⟨b, 0, rfl, hB b List.mem_cons_self, hlt, c 0 (by omega), c 1 (by omega), c 2 (by omega), c 3 (by omega), c 4 (by omega), c 5 (by omega), by have := n.1; simp only [maxLen]; omega, by have := n.2; simp only [maxLen]; omega⟩
  ·rw [ht i hi]
   exact ih _ (hg i hi) fun x hx => hB x (List.mem_cons_of_mem _ (List.mem_flatMap.2 ⟨_, hg i hi, hx⟩))

/-- A slice value that owns trees' values in a block from B on. -/
def OwnR (B : Nat) (w : World) (v : Value) (rs : List RV) : Prop := w.ownsRow B 26 6 v rs.length (rvVals rs)
theorem ownR_start {B : Nat} {w : World} (hB : B ≤ w.heap.size) : OwnR B (w.alloc (.cells #[] 26)) (.slice (some ⟨w.heap.size, 0, none⟩) 0 0) [] :=
 World.ownsRow_made w #[] 0 hB (by simp [maxLen]) rfl
theorem OwnR.alloc {B : Nat} {w : World} {v : Value} {rs : List RV} (h : OwnR B w v rs) (o : Obj) : OwnR B (w.alloc o) v rs := World.ownsRow.alloc h o
theorem OwnR.drew {B : Nat} {w : World} {v : Value} {rs : List RV} (h : OwnR B w v rs) : OwnR B w.drew v rs := World.ownsRow.drew h
theorem OwnR.kept {B : Nat} {w w' : World} {v : Value} {rs : List RV} (h : OwnR B w v rs) (hb : Below w.heap.size w w') : OwnR B w' v rs :=
 World.ownsRow.kept h ⟨hb.os, hb.tape, hb.output, hb.size, fun k hk _ => hb.block k hk⟩ (row := none) (by cases v.ownBlock <;> simp)
theorem OwnR.only {B : Nat} {w w' : World} {v : Value} {rs : List RV} {g : Nat} (h : OwnR B w v rs) (hb : OnlyB g w w') (hg : g < B) : OwnR B w' v rs := by
 refine World.ownsRow.kept h hb ?_
 by_cases e : v.ownBlock = none
 ·exact .inl e
 ·right; intro k
  have := (World.ownsRow.lt h g k).1; omega
theorem OwnR.at {B : Nat} {w : World} {v : Value} {rs : List RV} (h : OwnR B w v rs) (i : Nat) (hi : i < rs.length) : ∃ g cap, v = .slice (some ⟨g, 0, none⟩) rs.length cap ∧ B ≤ g ∧ g < w.heap.size ∧
  ∀ d, d < 6 → w.cell? ⟨g, i * 6 + d, none⟩ = (rs.getD i default).cells[d]? := by
 rcases h.2 with ⟨rfl, h0⟩ | ⟨g, cap, cur, rfl, hb, hg, hr⟩
 ·omega
 ·have h2 : w.ownsRow B 26 6 (.slice (some ⟨g, 0, none⟩) rs.length cap) rs.length (rvVals rs) := h
  refine ⟨g, cap, rfl, hb, (Array.getElem?_eq_some_iff.1 hg).1, fun d hd => ?_⟩
  rw [World.ownsRow.cellAt h2 (i * 6 + d) (by omega), rvVals_at rs i d hi hd]
/-- append of one tree's value: into the row that is there, or into a new one. -/
theorem run_append_at {P : Program} (w : World) (base : Nat) (t ty e : TypeId) (i : TypeInfo) (z : Value) (size bytes : Nat) (ht : P.underlying t = some (.slice e)) (hi : P.info? e = some i) (hz : i.zero = some z)
  (hsize : i.size = size) (hby : i.bytes = bytes) (hzs : z.cells.size = size) (hsz : 0 < size) (v : Value) (n : Nat) (xs : List Value) (hown : w.ownsRow base e size v n xs)
  (a : Addr) (c : Nat) (news : List Value) (hl : news.length = 1 * size) (hnews : ∀ j u, news[j]? = some u → w.cell? (a.add j) = some u) (h1 : ∀ u ∈ news, u.oneCell' = true)
  (h63 : n + 1 ≤ maxLen) (hbytes : (n + 1) * bytes ≤ 140737488355328) (hbase : base ≤ w.heap.size) :
  ∃ v' w', (Builtin.append_ #[t, t] ty #[v, .slice (some a) 1 c]).run P w = .ok v' w' ∧ w'.ownsRow base e size v' (n + 1) (xs ++ news) ∧ w.grownBy w' v.ownBlock ∧
   (∀ k, v'.ownBlock = some k → v.ownBlock = some k ∨ w.heap.size ≤ k) := by
 obtain ⟨v', w', hr, h2, h3, _⟩ := run_append_own (P := P) w base t ty e i z size bytes ht hi hz hsize hby hzs hsz v n xs hown a 1 c news hl hnews h1 h63 hbytes hbase
 refine ⟨v', w', hr, h2, h3, ?_⟩
 subst hsize hby
 rcases hown.2 with ⟨rfl, rfl⟩ | ⟨g, cap, cur, rfl, hbg, hg, hnc, hcm, hcs, htake⟩
 ·have hr2 := run_append_nil (P := P) w t ty e i z ht hi hz a 1 c news hl hnews (by omega) (by omega) (by omega)
  rw [hr] at hr2; injection hr2 with q1 q2; subst q1
  intro k hk; simp only [Value.ownBlock] at hk; right; injection hk with hk; omega
 ·by_cases hroom : n + 1 ≤ cap
  ·have hfit : n * i.size + news.length ≤ cur.size := by rw [hl, hcs, ← Nat.add_mul]; exact Nat.mul_le_mul_right _ hroom
   have hr2 := run_append_room (P := P) w t ty e i ht hi g n cap cur hg a 1 c news hl hnews h1 hroom hfit
   rw [hr] at hr2; injection hr2 with q1 q2; subst q1
   intro k hk; exact .inl hk
  ·have holds : ∀ j u, xs[j]? = some u → w.cell? ((⟨g, 0, none⟩ : Addr).add j) = some u := World.ownsRow.cells hown (g := g) rfl
   have hr2 := run_append_grow (P := P) w t ty e i z ht hi hz ⟨g, 0, none⟩ n cap xs hown.1 holds a 1 c news hl hnews (by omega) (by simp only [maxLen] at h63; omega) (growslice_fits (by omega) hbytes)
   rw [hr] at hr2; injection hr2 with q1 q2; subst q1
   intro k hk; simp only [Value.ownBlock] at hk; right; injection hk with hk; omega
theorem wp_append_re {w : World} {ops : Array Oper} {rest : List Oper} {o : Oper} {a : Act} {Q : Exit → Act → World → Prop} (hgd : o.guard = none) (s x : Operand)
  (ho : o.op = .call { callee := .builtin .append, args := #[s, x], argTypes := #[24, 24] }) (B : Nat) (v : Value) (rs : List RV) (hs : a.eval s = v) (hown : OwnR B w v rs)
  (g : Nat) (c : Nat) (r : RV) (hx : a.eval x = .slice (some ⟨g, 0, none⟩) 1 c) (hnew : ∀ d, d < 6 → w.cell? ⟨g, d, none⟩ = r.cells[d]?)
  (hl : rs.length + 1 ≤ 1048576) (hB : B ≤ w.heap.size)
  (h : ∀ v' w', OwnR B w' v' (rs ++ [r]) → w.grownBy w' v.ownBlock → (∀ k, v'.ownBlock = some k → v.ownBlock = some k ∨ w.heap.size ≤ k) → wpList Tryd.prog ops Q rest (a.put o.dst v') w') : wpList Tryd.prog ops Q (o :: rest) a w := by
 obtain ⟨i0, hi, hz0, hz1, hz2⟩ := info_parts infoRe
 obtain ⟨v', w', hr, h2, h3, h4⟩ := run_append_at (P := Tryd.prog) w B 24 o.type 26 i0 _ 6 72 Tryd.underlying24 hi hz0 hz1 hz2 rfl (by decide) v rs.length _ hown ⟨g, 0, none⟩ c r.cells (by simp [RV.cells])
  (by
   intro j u hu
   have hj : j < 6 := (List.getElem?_eq_some_iff.1 hu).1
   rw [add_atR, Nat.zero_add, hnew j hj]; exact hu)
  (by
   intro u hu
   simp only [RV.cells, List.mem_cons, List.not_mem_nil, or_false] at hu
   rcases hu with rfl | rfl | rfl | rfl | rfl | rfl <;> rfl) (by simp only [maxLen]; omega) (by omega) hB
 have h5 : OwnR B w' v' (rs ++ [r]) := by simpa [OwnR, rvVals, List.flatMap_append] using h2
 refine wpList_plain hgd fun _ hK => ?_
 unfold Oper.wp execOp
 simp only [ho, resolve, invoke, builtin, Sem.run_bind, Sem.run_pure, Result.andThen_ok, List.map_toArray, List.map_cons, List.map_nil, hs, hx, hr]
 exact hK _ _ (h v' w' h5 h3 h4)
/-- The kids of the trees of a row lie apart, and apart from the row. -/
structure Lot (B : Nat) (w : World) (v : Value) (rs : List RV) : Prop where
 own : OwnR B w v rs
 nice : ∀ r ∈ rs, Nice r.t
 kf : ∀ r ∈ rs, KF w r.t.kids r.a r.F
 low : ∀ r ∈ rs, ∀ x ∈ r.F, B ≤ x
 off : ∀ r ∈ rs, ∀ x ∈ r.F, v.ownBlock ≠ some x
 apart : rs.Pairwise apartF
theorem lot_start {B : Nat} {w : World} (hB : B ≤ w.heap.size) : Lot B (w.alloc (.cells #[] 26)) (.slice (some ⟨w.heap.size, 0, none⟩) 0 0) [] :=
 ⟨ownR_start hB, fun r hr => absurd hr (by simp), fun r hr => absurd hr (by simp), fun r hr => absurd hr (by simp), fun r hr => absurd hr (by simp), .nil⟩
theorem Lot.kept {B : Nat} {w w' : World} {v : Value} {rs : List RV} (h : Lot B w v rs) (hb : Below w.heap.size w w') : Lot B w' v rs :=
 ⟨h.own.kept hb, h.nice, fun r hr => (h.kf r hr).kept hb, h.low, h.off, h.apart⟩
theorem Lot.only {B : Nat} {w w' : World} {v : Value} {rs : List RV} {g : Nat} (h : Lot B w v rs) (hb : OnlyB g w w') (hg : g < B) : Lot B w' v rs :=
 ⟨h.own.only hb hg, h.nice, fun r hr => (h.kf r hr).only hb (fun k => by have := h.low r hr g k; omega), h.low, h.off, h.apart⟩
/-- One more. -/
theorem Lot.more {B : Nat} {w w' : World} {v v' : Value} {rs : List RV} {r : RV} (h : Lot B w v rs) (ho : OwnR B w' v' (rs ++ [r])) (hg : w.grownBy w' v.ownBlock) (hv : ∀ k, v'.ownBlock = some k → v.ownBlock = some k ∨ w.heap.size ≤ k)
  (hn : Nice r.t) (hk : KF w r.t.kids r.a r.F) (hl : ∀ x ∈ r.F, B ≤ x) (hf : ∀ x ∈ r.F, v.ownBlock ≠ some x) (ha : ∀ s ∈ rs, apartF s r) : Lot B w' v' (rs ++ [r]) := by
 have key : ∀ s ∈ rs ++ [r], Nice s.t ∧ KF w s.t.kids s.a s.F ∧ (∀ x ∈ s.F, B ≤ x) ∧ (∀ x ∈ s.F, v.ownBlock ≠ some x) := by
  intro s hs
  rcases List.mem_append.1 hs with hs | hs
  ·exact ⟨h.nice s hs, h.kf s hs, h.low s hs, h.off s hs⟩
  ·rw [List.mem_singleton] at hs; subst hs; exact ⟨hn, hk, hl, hf⟩
 refine ⟨ho, fun s hs => (key s hs).1, fun s hs => (key s hs).2.1.of fun b hb => hg.block b ((key s hs).2.1.lt b hb) (fun e => (key s hs).2.2.2 b hb e.symm), fun s hs => (key s hs).2.2.1, fun s hs x hx e => ?_, ?_⟩
 ·rcases hv x e with q | q
  ·exact (key s hs).2.2.2 x hx q
  ·have := (key s hs).2.1.lt x hx; omega
 ·rw [List.pairwise_append]
  exact ⟨h.apart, List.pairwise_singleton _ _, fun s hs u hu => by rw [List.mem_singleton] at hu; subst hu; exact ha s hs⟩
end Go.Proofs.YtcpaneaiobnhdaaDoor.kit
/-
 Contracts of impl.many and impl.chain over this seat's translation: a tree that stands several times, and trees one behind the other. Conditions: the kids' trees lie apart.
-/
namespace Go.Proofs.YtcpaneaiobnhdaaDoor.kit
open Go.ChangeShapes Go.WideShapes Go.ChangeAt Go.RowKit
set_option linter.unusedVariables false

theorem KF.one {w : World} {b : Nat} {r : RV} {cs : Array Value} {e : TypeId} (hb : w.heap[b]? = some (.cells cs e (0, 0))) (hc : cs.toList = r.cells) (hn : Nice r.t) (hk : KF w r.t.kids r.a r.F) (hf : b ∉ r.F) :
  KF w [r.t] (some ⟨b, 0, none⟩) (b :: r.F) := by
 have h := KF.mk (w := w) b [r] cs e hb (by simpa [rvVals] using hc) (by simpa using hn) (by simpa using hk) (by simpa using hf) (List.pairwise_singleton _ _)
 simpa using h
theorem KF.two {w : World} {b : Nat} {r s : RV} {cs : Array Value} {e : TypeId} (hb : w.heap[b]? = some (.cells cs e (0, 0))) (hc : cs.toList = r.cells ++ s.cells) (hn : Nice r.t) (hn' : Nice s.t) (hk : KF w r.t.kids r.a r.F) (hk' : KF w s.t.kids s.a s.F)
  (hf : b ∉ r.F) (hf' : b ∉ s.F) (hp : apartF r s) : KF w [r.t, s.t] (some ⟨b, 0, none⟩) (b :: (r.F ++ s.F)) := by
 have h := KF.mk (w := w) b [r, s] cs e hb (by simpa [rvVals] using hc) (by simpa using ⟨hn, hn'⟩) (by simpa using ⟨hk, hk'⟩) (by simpa using ⟨hf, hf'⟩) (by simpa using hp)
 simpa using h
set_option maxRecDepth 100000 in
set_option maxHeartbeats 400000 in
theorem many_any (t : RT) (a : Option Addr) (c : Nat) (F : List Nat) (lo hi : Int) (w : World) (hn : Nice t) (hk : KF w t.kids a F) :
  Calls Tryd.prog 66 #[reV t a c, .int .i64 lo, .int .i64 hi] w fun e w' => ∃ b c', e = .returned (reV (PR.manyT t lo hi) (some ⟨b, 0, none⟩) c') ∧ KF w' [t] (some ⟨b, 0, none⟩) (b :: F) ∧ w.heap.size ≤ b ∧ Below w.heap.size w w' := by
 have HK := Lib.hid hk
 have HL := Lib.hid hk.lt
 have HN := Lib.hid hn
 clear hk hn
 obtain ⟨k, s, n, tl, th, ts⟩ := t
 unfold reV
 simp only [PR.manyT, RT.set, RT.kids, RT.kind, RT.neg, RT.low, RT.high] at *
 have HB := Lib.hid (show ∀ o1 o2 o3, Below w.heap.size w (((w.alloc o1).alloc o2).alloc o3) from fun o1 o2 o3 => ((((Below.refl w.heap.size w).alloc (Nat.le_refl _) _).alloc (by simp) _).alloc (by simp; omega) _))
 go_enter Tryd.func66, Tryd.ntmps66
 go_wp2_with fail
 refine bodyPost_ret (v := .agg #[.int .i64 5, .string ⟨#[]⟩, .bool false, .int .i64 lo, .int .i64 hi, .slice (some ⟨w.heap.size + 1 + 1, 0, none⟩) 1 1]) (by simp [results, Tryd.results66, go_sem]) rfl ⟨w.heap.size + 1 + 1, 1, rfl, ?_, by omega, HB.out _ _ _⟩
 refine KF.one (r := ⟨.node k s n tl th ts, a, c, F⟩) (cs := #[.int .i64 k, .string s, .bool n, .int .i64 tl, .int .i64 th, .slice a ts.length c]) (e := 26) ?_ rfl HN.out (HK.out.kept (HB.out _ _ _)) (fun h => by have := HL.out _ h; omega)
 have key : ∀ (x y z : Obj), (((w.alloc x).alloc y).alloc z).heap[w.heap.size + 1 + 1]? = some z := fun x y z => by
  have := heap_alloc_new ((w.alloc x).alloc y) z
  simpa using this
 exact key _ _ _
/-- What stands from the j-th tree on, as one. -/
def chainAt (k : Int) (rs : List RV) (j : Nat) : RT := PR.chain k (rs.getD j default).t ((rs.drop (j + 1)).map RV.t)
theorem chainAt_last (k : Int) (rs : List RV) (j : Nat) (h : rs.length = j + 1) : chainAt k rs j = (rs.getD j default).t := by
 unfold chainAt; rw [List.drop_of_length_le (by omega)]; rfl
theorem chainAt_more (k : Int) (rs : List RV) (j : Nat) (h : j + 1 < rs.length) : chainAt k rs j = PR.pairT k (rs.getD j default).t (chainAt k rs (j + 1)) := by
 unfold chainAt
 rw [List.drop_eq_getElem_cons h, List.map_cons, PR.chain, List.getD_eq_getElem?_getD (i := j + 1), List.getElem?_eq_getElem h]; rfl
theorem chainAt_nice (k : Int) (rs : List RV) (j : Nat) (hj : j < rs.length) (hn : ∀ r ∈ rs, Nice r.t) : Nice (chainAt k rs j) := by
 by_cases h : j + 1 < rs.length
 ·rw [chainAt_more k rs j h]; exact ⟨Nat.zero_le _, by simp [PR.pairT, RT.kids]⟩
 ·rw [chainAt_last k rs j (by omega)]
  exact hn _ (by rw [List.getD_eq_getElem?_getD, List.getElem?_eq_getElem hj]; exact List.getElem_mem hj)
/-- A struct of six fields in a block of its own. -/
def Six (w : World) (g : Nat) (t : RT) (a : Option Addr) (c : Nat) : Prop := w.heap[g]? = some (.cells #[.int .i64 t.kind, .string t.set, .bool t.neg, .int .i64 t.low, .int .i64 t.high, .slice a t.kids.length c] 26 (0, 0))
theorem Six.cells {w : World} {g : Nat} {t : RT} {a : Option Addr} {c : Nat} (h : Six w g t a c) : w.cell? ⟨g, 0, none⟩ = some (.int .i64 t.kind) ∧ w.cell? ⟨g, 1, none⟩ = some (.string t.set) ∧ w.cell? ⟨g, 2, none⟩ = some (.bool t.neg) ∧ w.cell? ⟨g, 3, none⟩ = some (.int .i64 t.low) ∧
  w.cell? ⟨g, 4, none⟩ = some (.int .i64 t.high) ∧ w.cell? ⟨g, 5, none⟩ = some (.slice a t.kids.length c) ∧ (∀ j, w.frozen? ⟨g, j, none⟩ = false) := by
 unfold Six at h
 refine ⟨?_, ?_, ?_, ?_, ?_, ?_, fun j => ?_⟩
 ·rw [cell_of_row w g 0 _ _ (0, 0) h]; rfl
 ·rw [cell_of_row w g 1 _ _ (0, 0) h]; rfl
 ·rw [cell_of_row w g 2 _ _ (0, 0) h]; rfl
 ·rw [cell_of_row w g 3 _ _ (0, 0) h]; rfl
 ·rw [cell_of_row w g 4 _ _ (0, 0) h]; rfl
 ·rw [cell_of_row w g 5 _ _ (0, 0) h]; rfl
 ·simp [World.frozen?, h]
def put6 (w : World) (g : Nat) (v0 v1 v2 v3 v4 v5 : Value) : World := (((((w.setCell ⟨g, 0, none⟩ v0).setCell ⟨g, 1, none⟩ v1).setCell ⟨g, 2, none⟩ v2).setCell ⟨g, 3, none⟩ v3).setCell ⟨g, 4, none⟩ v4).setCell ⟨g, 5, none⟩ v5
theorem put6_at {w : World} {g : Nat} {x0 x1 x2 x3 x4 x5 : Value} {e : TypeId} {f : Nat × Nat} (h : w.heap[g]? = some (.cells #[x0, x1, x2, x3, x4, x5] e f)) (v0 v1 v2 v3 v4 v5 : Value) :
  (put6 w g v0 v1 v2 v3 v4 v5).heap[g]? = some (.cells #[v0, v1, v2, v3, v4, v5] e f) := by
 simp [put6, World.setCell, Array.getElem?_modify, h]
theorem put6_off (w : World) (g k : Nat) (v0 v1 v2 v3 v4 v5 : Value) (h : k ≠ g) : (put6 w g v0 v1 v2 v3 v4 v5).heap[k]? = w.heap[k]? := by
 unfold put6
 rw [Below.heap_setCell _ ⟨g, 5, none⟩ _ k h, Below.heap_setCell _ ⟨g, 4, none⟩ _ k h, Below.heap_setCell _ ⟨g, 3, none⟩ _ k h, Below.heap_setCell _ ⟨g, 2, none⟩ _ k h, Below.heap_setCell _ ⟨g, 1, none⟩ _ k h, Below.heap_setCell _ ⟨g, 0, none⟩ _ k h]
theorem put6_size (w : World) (g : Nat) (v0 v1 v2 v3 v4 v5 : Value) : (put6 w g v0 v1 v2 v3 v4 v5).heap.size = w.heap.size := by simp [put6]
theorem put6_below {B : Nat} {w w' : World} (h : Below B w w') (g : Nat) (v0 v1 v2 v3 v4 v5 : Value) (hg : B ≤ g) : Below B w (put6 w' g v0 v1 v2 v3 v4 v5) :=
 (((((h.setCell (p := ⟨g, 0, none⟩) hg _).setCell (p := ⟨g, 1, none⟩) hg _).setCell (p := ⟨g, 2, none⟩) hg _).setCell (p := ⟨g, 3, none⟩) hg _).setCell (p := ⟨g, 4, none⟩) hg _).setCell (p := ⟨g, 5, none⟩) hg _
theorem heap_step {w : World} {g k : Nat} {o : Obj} (v0 v1 v2 v3 v4 v5 : Value) (hk : k < w.heap.size) (hg : k ≠ g) : ((put6 w g v0 v1 v2 v3 v4 v5).alloc o).drew.heap[k]? = w.heap[k]? := by
 show ((put6 w g v0 v1 v2 v3 v4 v5).alloc o).heap[k]? = _
 rw [heap_alloc_old _ o (by rw [put6_size]; exact hk), put6_off _ _ _ _ _ _ _ _ _ hg]
/-- What a round of chain makes. -/
def chainW (w : World) (g : Nat) (k : Int) (r s : RV) : World :=
 ((put6 w g (.int .i64 k) (.string ⟨#[]⟩) (.bool false) (.int .i64 0) (.int .i64 0) (.slice (some ⟨w.heap.size, 0, none⟩) 2 2)).alloc (.cells #[.int .i64 r.t.kind, .string r.t.set, .bool r.t.neg, .int .i64 r.t.low, .int .i64 r.t.high, .slice r.a r.t.kids.length r.c,
  .int .i64 s.t.kind, .string s.t.set, .bool s.t.neg, .int .i64 s.t.low, .int .i64 s.t.high, .slice s.a s.t.kids.length s.c] 26)).drew
theorem chain_step {w : World} {g k' : Nat} {k : Int} {r s : RV} {t0 : RT} {a0 : Option Addr} {c0 : Nat} {g0 : Nat} (hr : KF w r.t.kids r.a r.F) (hs : KF w s.t.kids s.a s.F) (hn : Nice r.t) (hn' : Nice s.t) (hg : g ∉ r.F) (hg' : g ∉ s.F) (ha : apartF r s) (h6 : ∃ t a c, Six w g t a c)
  (h0 : Six w g0 t0 a0 c0) (hne : g0 ≠ g) {B : Nat} {w0 : World} (hb : Below B w0 w) (hBg : B ≤ g) :
  Six (chainW w g k r s) g0 t0 a0 c0 ∧ Six (chainW w g k r s) g (PR.pairT k r.t s.t) (some ⟨w.heap.size, 0, none⟩) 2 ∧ KF (chainW w g k r s) (PR.pairT k r.t s.t).kids (some ⟨w.heap.size, 0, none⟩) (w.heap.size :: (r.F ++ s.F)) ∧ Below B w0 (chainW w g k r s) := by
 obtain ⟨t, a, c, h6⟩ := h6
 have hgl : g < w.heap.size := (Array.getElem?_eq_some_iff.1 h6).1
 have h0l : g0 < w.heap.size := (Array.getElem?_eq_some_iff.1 h0).1
 refine ⟨?_, ?_, ?_, ?_⟩
 ·unfold Six chainW; rw [heap_step _ _ _ _ _ _ h0l hne]; exact h0
 ·unfold Six chainW
  show ((put6 _ _ _ _ _ _ _ _).alloc _).heap[g]? = _
  rw [heap_alloc_old _ _ (by rw [put6_size]; exact hgl)]
  exact put6_at h6 _ _ _ _ _ _
 ·refine KF.two (r := r) (s := s) (cs := #[.int .i64 r.t.kind, .string r.t.set, .bool r.t.neg, .int .i64 r.t.low, .int .i64 r.t.high, .slice r.a r.t.kids.length r.c, .int .i64 s.t.kind, .string s.t.set, .bool s.t.neg, .int .i64 s.t.low, .int .i64 s.t.high, .slice s.a s.t.kids.length s.c]) (e := 26) ?_ ?_ hn hn' (hr.of fun b hb => ?_) (hs.of fun b hb => ?_) (fun h => by have := hr.lt _ h; omega) (fun h => by have := hs.lt _ h; omega) ha
  ·have := heap_alloc_new (put6 w g (.int .i64 k) (.string ⟨#[]⟩) (.bool false) (.int .i64 0) (.int .i64 0) (.slice (some ⟨w.heap.size, 0, none⟩) 2 2)) (.cells #[.int .i64 r.t.kind, .string r.t.set, .bool r.t.neg, .int .i64 r.t.low, .int .i64 r.t.high, .slice r.a r.t.kids.length r.c, .int .i64 s.t.kind, .string s.t.set, .bool s.t.neg, .int .i64 s.t.low, .int .i64 s.t.high, .slice s.a s.t.kids.length s.c] 26)
   rw [put6_size] at this; exact this
  ·rfl
  ·exact heap_step _ _ _ _ _ _ (hr.lt b hb) (fun e => hg (e ▸ hb))
  ·exact heap_step _ _ _ _ _ _ (hs.lt b hb) (fun e => hg' (e ▸ hb))
 ·exact ((put6_below hb g _ _ _ _ _ _ hBg).alloc (by rw [put6_size]; exact Nat.le_trans (Nat.le_trans hBg (Nat.le_of_lt hgl)) (Nat.le_refl _)) _).drew
set_option maxRecDepth 100000 in
set_option maxHeartbeats 1000000 in
theorem chain_any (B : Nat) (k : Int) (v : Value) (rs : List RV) (w : World) (hl : Lot B w v rs) (hne : 0 < rs.length) (hmax : rs.length ≤ 1048576) (hB : B ≤ w.heap.size) :
  Calls Tryd.prog 37 #[.int .i64 k, v] w fun e w' => ∃ a c F, e = .returned (reV (chainAt k rs 0) a c) ∧ KF w' (chainAt k rs 0).kids a F ∧ (∀ x ∈ F, B ≤ x) ∧ (∀ x ∈ F, x < w.heap.size → ∃ r ∈ rs, x ∈ r.F) ∧ Below w.heap.size w w' := by
 obtain ⟨g, cap, rfl, hg1, hg2, hc⟩ := hl.own.at (rs.length - 1) (by omega)
 have HL := Lib.hid hl
 have HC := Lib.hid (show ∀ i, i < rs.length → ∀ d, d < 6 → w.cell? ⟨g, i * 6 + d, none⟩ = (rs.getD i default).cells[d]? from fun i hi => by
  obtain ⟨g', cap', e, _, _, h⟩ := hl.own.at i hi
  have q : g = g' := by cases e; rfl
  subst q; exact h)
 clear hl hc
 obtain ⟨m, hm⟩ : ∃ m, rs.length = m + 1 := ⟨rs.length - 1, by omega⟩
 have hm' : m ≤ 1048576 := by omega
 have HM := Lib.hid hm
 have c0 : w.cell? ⟨g, m * 6, none⟩ = some (.int .i64 (rs.getD m default).t.kind) := HC.out m (by omega) 0 (by omega)
 have c1 : w.cell? ⟨g, m * 6 + 1, none⟩ = some (.string (rs.getD m default).t.set) := HC.out m (by omega) 1 (by omega)
 have c2 : w.cell? ⟨g, m * 6 + 2, none⟩ = some (.bool (rs.getD m default).t.neg) := HC.out m (by omega) 2 (by omega)
 have c3 : w.cell? ⟨g, m * 6 + 3, none⟩ = some (.int .i64 (rs.getD m default).t.low) := HC.out m (by omega) 3 (by omega)
 have c4 : w.cell? ⟨g, m * 6 + 4, none⟩ = some (.int .i64 (rs.getD m default).t.high) := HC.out m (by omega) 4 (by omega)
 have c5 : w.cell? ⟨g, m * 6 + 5, none⟩ = some (.slice (rs.getD m default).a (rs.getD m default).t.kids.length (rs.getD m default).c) := HC.out m (by omega) 5 (by omega)
 rw [hm] at hne hmax HL ⊢
 clear hm
 have i0 : (0 : Int) ≤ (m : Int) := by omega
 have i1 : (m : Int) < (m : Int) + 1 := by omega
 go_enter Tryd.func37, Tryd.ntmps37
 go_wp2_with fail
 have hsix : ∀ (x y : Obj), ((w.alloc x).alloc y).heap[w.heap.size + 1]? = some y := fun x y => by
  have := heap_alloc_new (w.alloc x) y
  simpa using this
 have hsix0 : ∀ (x y : Obj), ((w.alloc x).alloc y).heap[w.heap.size]? = some x := fun x y => by
  have := heap_alloc_new w x
  exact (heap_alloc_old (w.alloc x) y (by simp)).trans this
 go_loopw [7] (fun i wr => ∃ (j : Nat) (a : Option Addr) (c : Nat) (F : List Nat), j ≤ m ∧ i = .int .i64 ((j : Int) - 1) ∧ Six wr w.heap.size (PR.leaf 0) none 0 ∧ Six wr (w.heap.size + 1) (chainAt k rs j) a c ∧ KF wr (chainAt k rs j).kids a F ∧
  (∀ x ∈ F, B ≤ x ∧ x ≠ w.heap.size + 1 ∧ x ≠ w.heap.size ∧ (x < w.heap.size → ∃ l, j ≤ l ∧ l < rs.length ∧ x ∈ (rs.getD l default).F)) ∧ Below w.heap.size w wr) (fun i _ => (intOf i + 1).toNat)
 case atStart =>
  have hr : rs.getD m default ∈ rs := by rw [List.getD_eq_getElem?_getD, List.getElem?_eq_getElem (by rw [HM.out]; omega)]; exact List.getElem_mem _
  have hk := HL.out.kf _ hr
  refine ⟨m, (rs.getD m default).a, (rs.getD m default).c, (rs.getD m default).F, Nat.le_refl _, rfl, hsix0 _ _, ?_, ?_, fun x hx => ⟨HL.out.low _ hr x hx, by have := hk.lt x hx; omega, by have := hk.lt x hx; omega, fun _ => ⟨m, Nat.le_refl _, by rw [HM.out]; omega, hx⟩⟩, ((Below.refl w.heap.size w).alloc (Nat.le_refl _) _).alloc (by simp) _⟩
  ·rw [chainAt_last k rs m HM.out]
   simp only [List.getD_eq_getElem?_getD]
   exact hsix _ _
  ·rw [chainAt_last k rs m HM.out]
   exact hk.kept (((Below.refl w.heap.size w).alloc (Nat.le_refl _) _).alloc (by simp) _)
 case round =>
  obtain ⟨j, a, c, F, hj, rfl, hs0, hs1, hk, hF, hb⟩ := hrel
  have HS0 := Lib.hid hs0
  have HS1 := Lib.hid hs1
  have HK := Lib.hid hk
  have HF := Lib.hid hF
  have HB := Lib.hid hb
  have hsz := hb.size
  have hz1 : w.heap.size < wr.heap.size := (Array.getElem?_eq_some_iff.1 hs0).1
  have hz2 : w.heap.size + 1 < wr.heap.size := (Array.getElem?_eq_some_iff.1 hs1).1
  obtain ⟨s0, s1, s2, s3, s4, s5, s6⟩ := hs1.cells
  obtain ⟨z0, z1, z2, z3, z4, z5, z6⟩ := hs0.cells
  have z60 := z6 0
  have z61 := z6 1
  have z62 := z6 2
  have z63 := z6 3
  have z64 := z6 4
  have z65 := z6 5
  have s60 := s6 0
  have s61 := s6 1
  have s62 := s6 2
  have s63 := s6 3
  have s64 := s6 4
  have s65 := s6 5
  clear hs0 hs1 hk hF hb z6 s6 hsix hsix0 c0 c1 c2 c3 c4 c5
  rcases Nat.eq_zero_or_pos j with rfl | hpos
  ·generalize hgT : chainAt k rs 0 = T at *
   have HGT := Lib.hid hgT
   clear hgT
   have hneg : ((0 : Nat) : Int) - 1 = -1 := by omega
   rw [hneg]
   have HW := Lib.hid (put6_at HS0.out (.int .i64 T.kind) (.string T.set) (.bool T.neg) (.int .i64 T.low) (.int .i64 T.high) (.slice a T.kids.length c))
   have HKW : Hid (KF (put6 wr w.heap.size (.int .i64 T.kind) (.string T.set) (.bool T.neg) (.int .i64 T.low) (.int .i64 T.high) (.slice a T.kids.length c)) T.kids a F) := Lib.hid (HK.out.of fun b hb => put6_off _ _ _ _ _ _ _ _ _ (HF.out b hb).2.2.1)
   have HBW := Lib.hid (put6_below HB.out w.heap.size (.int .i64 T.kind) (.string T.set) (.bool T.neg) (.int .i64 T.low) (.int .i64 T.high) (.slice a T.kids.length c) (Nat.le_refl _))
   go_wp2_with fail
   change bodyPost _ _ _ _ _ (put6 wr w.heap.size (.int .i64 T.kind) (.string T.set) (.bool T.neg) (.int .i64 T.low) (.int .i64 T.high) (.slice a T.kids.length c))
   generalize put6 wr w.heap.size (.int .i64 T.kind) (.string T.set) (.bool T.neg) (.int .i64 T.low) (.int .i64 T.high) (.slice a T.kids.length c) = W at *
   have h6 : Six W w.heap.size T a c := HW.out
   obtain ⟨y0, y1, y2, y3, y4, y5, _⟩ := h6.cells
   refine bodyPost_ret (v := .agg #[.int .i64 T.kind, .string T.set, .bool T.neg, .int .i64 T.low, .int .i64 T.high, .slice a T.kids.length c]) (by simp [results, Tryd.results37, go_sem, y0, y1, y2, y3, y4, y5]) rfl ?_
   rw [HGT.out]
   refine ⟨a, c, F, rfl, HKW.out, fun x hx => (HF.out x hx).1, fun x hx hlt => ?_, HBW.out⟩
   obtain ⟨l, _, hl2, hl3⟩ := (HF.out x hx).2.2.2 hlt
   exact ⟨_, by rw [List.getD_eq_getElem?_getD, List.getElem?_eq_getElem hl2]; exact List.getElem_mem hl2, hl3⟩
  ·obtain ⟨q, rfl⟩ : ∃ q, j = q + 1 := ⟨j - 1, by omega⟩
   have hq : q < rs.length := by rw [HM.out]; omega
   have g0 : wr.cell? ⟨g, q * 6, none⟩ = some (.int .i64 (rs.getD q default).t.kind) := (HB.out.cell (p := ⟨g, _, none⟩) hg2).trans (HC.out q hq 0 (by omega))
   have g1 : wr.cell? ⟨g, q * 6 + 1, none⟩ = some (.string (rs.getD q default).t.set) := (HB.out.cell (p := ⟨g, _, none⟩) hg2).trans (HC.out q hq 1 (by omega))
   have g2 : wr.cell? ⟨g, q * 6 + 2, none⟩ = some (.bool (rs.getD q default).t.neg) := (HB.out.cell (p := ⟨g, _, none⟩) hg2).trans (HC.out q hq 2 (by omega))
   have g3 : wr.cell? ⟨g, q * 6 + 3, none⟩ = some (.int .i64 (rs.getD q default).t.low) := (HB.out.cell (p := ⟨g, _, none⟩) hg2).trans (HC.out q hq 3 (by omega))
   have g4 : wr.cell? ⟨g, q * 6 + 4, none⟩ = some (.int .i64 (rs.getD q default).t.high) := (HB.out.cell (p := ⟨g, _, none⟩) hg2).trans (HC.out q hq 4 (by omega))
   have g5 : wr.cell? ⟨g, q * 6 + 5, none⟩ = some (.slice (rs.getD q default).a (rs.getD q default).t.kids.length (rs.getD q default).c) := (HB.out.cell (p := ⟨g, _, none⟩) hg2).trans (HC.out q hq 5 (by omega))
   have HT := Lib.hid (chainAt_more k rs q (by rw [HM.out]; omega))
   have hrq : rs.getD q default ∈ rs := by rw [List.getD_eq_getElem?_getD, List.getElem?_eq_getElem hq]; exact List.getElem_mem hq
   have hap : apartF (rs.getD q default) ⟨chainAt k rs (q + 1), a, c, F⟩ := by
    intro x hx hx'
    obtain ⟨l, hl1, hl2, hl3⟩ := (HF.out x hx').2.2.2 ((HL.out.kf _ hrq).lt x hx)
    have hpw := List.pairwise_iff_getElem.1 HL.out.apart q l hq hl2 (by omega)
    rw [List.getD_eq_getElem?_getD, List.getElem?_eq_getElem hq] at hx
    rw [List.getD_eq_getElem?_getD, List.getElem?_eq_getElem hl2] at hl3
    exact hpw x hx hl3
   have HX := Lib.hid (chain_step (k' := 0) (k := k) (r := rs.getD q default) (s := ⟨chainAt k rs (q + 1), a, c, F⟩) ((HL.out.kf _ hrq).kept HB.out) HK.out (HL.out.nice _ hrq) (chainAt_nice k rs (q + 1) (by rw [HM.out]; omega) HL.out.nice)
    (fun h => by have := (HL.out.kf _ hrq).lt _ h; omega) (fun h => (HF.out _ h).2.1 rfl) hap ⟨_, _, _, HS1.out⟩ HS0.out (by omega) HB.out (Nat.le_succ _))
   have HFF : Hid (∀ x ∈ wr.heap.size :: ((rs.getD q default).F ++ F), B ≤ x ∧ x ≠ w.heap.size + 1 ∧ x ≠ w.heap.size ∧ (x < w.heap.size → ∃ l, q ≤ l ∧ l < rs.length ∧ x ∈ (rs.getD l default).F)) := Lib.hid (fun x hx => by
    rcases List.mem_cons.1 hx with rfl | hx
    ·exact ⟨by omega, by omega, by omega, fun h => by omega⟩
    ·rcases List.mem_append.1 hx with hx | hx
     ·have := (HL.out.kf _ hrq).lt x hx
      exact ⟨HL.out.low _ hrq x hx, by omega, by omega, fun _ => ⟨q, Nat.le_refl _, hq, hx⟩⟩
     ·obtain ⟨p1, p2, p3, p4⟩ := HF.out x hx
      exact ⟨p1, p2, p3, fun h => by obtain ⟨l, h1, h2⟩ := p4 h; exact ⟨l, by omega, h2⟩⟩)
   clear hap hrq
   generalize chainAt k rs (q + 1) = T at *
   generalize rs.getD q default = r at *
   obtain ⟨rt, ra, rc, rF⟩ := r
   simp only at *
   have hqi : (((q + 1 : Nat) : Int) - 1) = (q : Int) := by omega
   rw [hqi]
   clear hqi
   have q0 : (0 : Int) ≤ (q : Int) := by omega
   have q1 : (q : Int) < (m : Int) + 1 := by omega
   have ne : g ≠ w.heap.size + 1 := by omega
   go_wp2_with fail
   go_region
   go_wp2_with fail
   go_roundw
   case rel => exact ⟨q, _, _, _, by omega, rfl, HX.out.1, by rw [HT.out]; exact HX.out.2.1, by rw [HT.out]; exact HX.out.2.2.1, HFF.out, HX.out.2.2.2⟩
   case measure => simp [intOf]
end Go.Proofs.YtcpaneaiobnhdaaDoor.kit
/-
 Contracts of impl's reader of expressions for texts, more of its methods, over this seat's translation: digit, seesRange, counted. Conditions: the reader's cells are known.
-/
namespace Go.Proofs.YtcpaneaiobnhdaaDoor.kit
open Go.ChangeShapes Go.WideShapes Go.ChangeAt Go.RowKit
set_option linter.unusedVariables false

theorem q_same {P : Program} {f : FuncId} {args : Array Value} {w : World} {n : Nat} {v : Value}
  (h : Calls P f args (w.drewN n) fun e w' => e = .returned v ∧ w.drewN n = w') : Calls P f args (w.drewN n) fun e w'' => e = .returned v ∧ ∃ m, w'' = w.drewN m :=
 h.mono fun _ _ ⟨he, hm⟩ => ⟨he, n, hm.symm⟩
theorem dig_of {s : ByteArray} {i : Nat} (h : i < s.size) : (PR.digAt s i).isSome = digB (s[i].toNat : Int) := by
 rw [at_eq s i h]
 unfold PR.digAt digB inB
 by_cases c : 48 ≤ (at_ s i).toNat ∧ (at_ s i).toNat ≤ 57
 ·rw [if_pos ⟨h, c⟩]; simp; omega
 ·rw [if_neg (fun g => c g.2)]; simp; omega
set_option maxHeartbeats 400000 in
theorem digit_no (B : Nat) (s : ByteArray) (i : Nat) (op : Int) (w : World) (hs : s.size ≤ 1048576) (hr : Rdr w B s i op) (hd : PR.digAt s i = none) :
  Calls Tryd.prog 77 #[.pointer (some ⟨B, 0, none⟩)] w fun e w' => e = .returned (.tuple #[.int .i64 0, .bool false]) ∧ ∃ n, w' = w.drewN n := by
 obtain ⟨h0, h1, h2, h3, h4, h5⟩ := hr
 have i0 : (0 : Int) ≤ (i : Int) := by omega
 by_cases hlt : i < s.size
 ·have d1 : decide (s.size ≤ i) = false := by simpa using hlt
  have d2 : decide ((s.size : Int) ≤ (i : Int)) = false := by simp; omega
  have i1 : (i : Int) < (s.size : Int) := by omega
  have hb : digB (s[i].toNat : Int) = false := by rw [← dig_of hlt, hd]; rfl
  have hbb : (s[i].toNat : Int) < 256 := by have := s[i].toNat_lt; omega
  have hb0 : (0 : Int) ≤ (s[i].toNat : Int) := by omega
  go_enter Tryd.func77, Tryd.ntmps77
  go_wp2
  go_quiet ((go_at_call 83; exact q_same (isDigit_any _ _)))
  go_wp2
  go_ret2
  exact ⟨rfl, _, rfl⟩
 ·have d1 : decide (s.size ≤ i) = true := by simpa using hlt
  have d2 : decide ((s.size : Int) ≤ (i : Int)) = true := by simp; omega
  go_enter Tryd.func77, Tryd.ntmps77
  go_wp2
  go_quiet (fail)
  go_wp2
  go_ret2
  exact ⟨rfl, _, rfl⟩
set_option maxHeartbeats 400000 in
theorem digit_yes (B : Nat) (s : ByteArray) (i : Nat) (op : Int) (x : Int) (w : World) (hs : s.size ≤ 1048576) (hr : Rdr w B s i op) (hd : PR.digAt s i = some x) :
  Calls Tryd.prog 77 #[.pointer (some ⟨B, 0, none⟩)] w fun e w' => e = .returned (.tuple #[.int .i64 x, .bool true]) ∧ Rdr w' B s (i + 1) op ∧ OnlyB B w w' := by
 have HR := Lib.hid hr
 obtain ⟨h0, h1, h2, h3, h4, h5⟩ := hr
 have i0 : (0 : Int) ≤ (i : Int) := by omega
 have hlt : i < s.size := PR.digAt_lt hd
 have d1 : decide (s.size ≤ i) = false := by simpa using hlt
 have d2 : decide ((s.size : Int) ≤ (i : Int)) = false := by simp; omega
 have i1 : (i : Int) < (s.size : Int) := by omega
 have hb : digB (s[i].toNat : Int) = true := by rw [← dig_of hlt, hd]; rfl
 have HX : Hid ((s[i].toNat : Int) - 48 = x) := Lib.hid (by
  unfold PR.digAt at hd; split at hd
  ·injection hd with hd; rw [at_eq s i hlt]; exact hd
  ·cases hd)
 have hx0 : 48 ≤ (s[i].toNat : Int) ∧ (s[i].toNat : Int) ≤ 57 := by
  unfold PR.digAt at hd; split at hd
  ·rename_i g; rw [at_eq s i hlt]; omega
  ·cases hd
 obtain ⟨hx1, hx2⟩ := hx0
 clear hd
 have HS := Lib.hid (fun n => (HR.out.drewN n).setI (i + 1))
 have HO := Lib.hid (fun n => ((OnlyB.refl B w).drewN n).set 1 (.int .i64 ((i + 1 : Nat) : Int)))
 rw [show ((i + 1 : Nat) : Int) = (i : Int) + 1 by omega] at HS HO
 go_enter Tryd.func77, Tryd.ntmps77
 go_wp2
 go_quiet ((go_at_call 83; exact q_same (isDigit_any _ _)))
 go_wp2
 have s1 : IntKind.i64.wrap ((i : Int) + 1 - 1) = (i : Int) := by rw [IntWalk.i64_in _ (by omega)]; omega
 go_quiet (fail)
 go_wp2
 go_ret2
 exact ⟨by rw [← HX.out]; rfl, (HS.out _).drewN _, (HO.out _).drewN _⟩
def rng (s : ByteArray) (i : Nat) : Bool := decide (i + 1 < s.size) && (atB s i 45 && !atB s (i + 1) 93)
theorem ext_at (s : ByteArray) (i j : Nat) (h : j < (s.extract i s.size).size) (h' : i + j < s.size) : (s.extract i s.size)[j] = s[i + j] := by
 rw [ByteArray.getElem_extract]
set_option maxHeartbeats 400000 in
theorem seesRange_any (B : Nat) (s : ByteArray) (i : Nat) (op : Int) (w : World) (hs : s.size ≤ 1048576) (hr : Rdr w B s i op) (hi : i ≤ s.size) :
  Calls Tryd.prog 82 #[.pointer (some ⟨B, 0, none⟩)] w fun e w' => e = .returned (.bool (rng s i)) ∧ ∃ n, w' = w.drewN n := by
 obtain ⟨h0, h1, h2, h3, h4, h5⟩ := hr
 have i0 : (0 : Int) ≤ (i : Int) := by omega
 have i1 : (i : Int) ≤ (s.size : Int) := by omega
 have hz : (s.extract i s.size).size = s.size - i := by rw [ByteArray.size_extract]; omega
 go_enter Tryd.func82, Tryd.ntmps82
 go_wp2
 go_quiet (fail)
 by_cases h2 : i + 1 < s.size
 ·have d1 : decide (2 ≤ (s.extract i s.size).size) = true := by simp; omega
  have d2 : decide ((2 : Int) ≤ ((s.extract i s.size).size : Int)) = true := by simp; omega
  have b0 : 0 < (s.extract i s.size).size := by omega
  have b1 : 1 < (s.extract i s.size).size := by omega
  have e0 : (s.extract i s.size)[0] = s[i] := ext_at s i 0 b0 (by omega)
  have e1 : (s.extract i s.size)[1] = s[i + 1] := ext_at s i 1 b1 h2
  have A0 := Lib.hid (atB_in (s := s) (i := i) (c := 45) (by omega))
  have A1 := Lib.hid (atB_in (s := s) (i := i + 1) (c := 93) h2)
  have E : Hid (rng s i = (atB s i 45 && !atB s (i + 1) 93)) := Lib.hid (by unfold rng; rw [decide_eq_true h2]; rfl)
  go_wp2
  all_goals
   go_ret
   refine ⟨ret_bool ?_, _, rfl⟩
   rw [E.out, ← A0.out, ← A1.out]
   first
   | (rename_i h; rw [show ((s[i].toNat : Int) == ((45 : UInt8).toNat : Int)) = false by simpa using h]; rfl)
   | (rename_i h; rw [show ((s[i].toNat : Int) == ((45 : UInt8).toNat : Int)) = true by simpa using h]; rfl)
 ·have d1 : decide (2 ≤ (s.extract i s.size).size) = false := by simp; omega
  have d2 : decide ((2 : Int) ≤ ((s.extract i s.size).size : Int)) = false := by simp; omega
  have E : Hid (rng s i = false) := Lib.hid (by unfold rng; rw [decide_eq_false h2]; rfl)
  go_wp2
  go_ret
  exact ⟨ret_bool E.out.symm, _, rfl⟩
theorem OnlyB.drewAll {B : Nat} {w w' : World} (h : ∃ n, w' = w.drewN n) : OnlyB B w w' := by obtain ⟨n, rfl⟩ := h; exact (OnlyB.refl B w).drewN n
theorem OnlyB.of_below {B : Nat} {w w' : World} (h : Below w.heap.size w w') : OnlyB B w w' := ⟨h.os, h.tape, h.output, h.size, fun k hk _ => h.block k hk⟩
/-- A reader's answer: the tree that r tells and the place behind it, in new memory, or none. -/
def PostP (B : Nat) (s : ByteArray) (op : Int) (w : World) (r : Option (RT × Nat)) (e : Ending) (w' : World) : Prop :=
 OnlyB B w w' ∧ match r with
 | none => ∃ t a c j o, e = .returned (.tuple #[reV t a c, .bool false]) ∧ Rdr w' B s j o
 | some x => ∃ a c F, e = .returned (.tuple #[reV x.1 a c, .bool true]) ∧ KF w' x.1.kids a F ∧ (∀ y ∈ F, w.heap.size ≤ y) ∧ Nice x.1 ∧ Rdr w' B s x.2 op
/-- A fact kept from the walk, also from what looks behind names. -/
structure Lk (p : Prop) : Prop where
 out : p
theorem Rdr.drewAll {w w' : World} {B : Nat} {s : ByteArray} {i : Nat} {op : Int} (c : Rdr w B s i op) (h : ∃ n, w' = w.drewN n) : Rdr w' B s i op := by obtain ⟨n, rfl⟩ := h; exact c.drewN n
theorem Six.only {w w' : World} {g : Nat} {t : RT} {a : Option Addr} {c : Nat} {B : Nat} (h : Six w g t a c) (hb : OnlyB B w w') (hne : g ≠ B) : Six w' g t a c :=
 (hb.block g (Array.getElem?_eq_some_iff.1 h).1 (fun e => hne (by injection e))).trans h
theorem Six.kept {w w' : World} {g : Nat} {t : RT} {a : Option Addr} {c : Nat} (h : Six w g t a c) (hb : Below w.heap.size w w') : Six w' g t a c := (hb.block g (Array.getElem?_eq_some_iff.1 h).1).trans h
theorem six_two (w : World) (x y : Obj) : ((w.alloc x).alloc y).heap[w.heap.size]? = some x ∧ ((w.alloc x).alloc y).heap[w.heap.size + 1]? = some y := by
 have h1 := heap_alloc_new w x
 have h2 := heap_alloc_new (w.alloc x) y
 exact ⟨(heap_alloc_old (w.alloc x) y (by simp)).trans h1, by simpa using h2⟩
theorem Six.put {w : World} {g : Nat} {t : RT} {a : Option Addr} {c : Nat} (h : Six w g t a c) (T : RT) (a' : Option Addr) (c' : Nat) : Six (put6 w g (.int .i64 T.kind) (.string T.set) (.bool T.neg) (.int .i64 T.low) (.int .i64 T.high) (.slice a' T.kids.length c')) g T a' c' := put6_at h _ _ _ _ _ _
theorem setc_os (w : World) (a : Addr) (v : Value) : (w.setCell a v).os = w.os := rfl
theorem setc_tape (w : World) (a : Addr) (v : Value) : (w.setCell a v).tape = w.tape := rfl
theorem setc_out (w : World) (a : Addr) (v : Value) : (w.setCell a v).output = w.output := rfl
theorem put6_os (w : World) (g : Nat) (v0 v1 v2 v3 v4 v5 : Value) : (put6 w g v0 v1 v2 v3 v4 v5).os = w.os ∧ (put6 w g v0 v1 v2 v3 v4 v5).tape = w.tape ∧ (put6 w g v0 v1 v2 v3 v4 v5).output = w.output := by
 unfold put6; simp only [setc_os, setc_tape, setc_out]; exact ⟨trivial, trivial, trivial⟩
theorem put6_only {B : Nat} {w w' : World} (h : OnlyB B w w') (g : Nat) (v0 v1 v2 v3 v4 v5 : Value) (hg : w.heap.size ≤ g) : OnlyB B w (put6 w' g v0 v1 v2 v3 v4 v5) := by
 obtain ⟨e1, e2, e3⟩ := put6_os w' g v0 v1 v2 v3 v4 v5
 exact ⟨e1.trans h.os, e2.trans h.tape, e3.trans h.output, by rw [put6_size]; exact h.size, fun k hk hn => (put6_off w' g k _ _ _ _ _ _ (by omega)).trans (h.block k hk hn)⟩
theorem Six.lt {w : World} {g : Nat} {t : RT} {a : Option Addr} {c : Nat} (h : Six w g t a c) : g < w.heap.size := (Array.getElem?_eq_some_iff.1 h).1
theorem Rdr.put {w : World} {B : Nat} {s : ByteArray} {i : Nat} {op : Int} (c : Rdr w B s i op) (g : Nat) (hg : g ≠ B) (v0 v1 v2 v3 v4 v5 : Value) : Rdr (put6 w g v0 v1 v2 v3 v4 v5) B s i op := by
 have e := put6_off w g B v0 v1 v2 v3 v4 v5 (Ne.symm hg)
 exact ⟨by rw [put6_size]; exact c.lt, (World.cell?_of_block (w := w) (a := ⟨B, 0, none⟩) e).trans c.c0, (World.cell?_of_block (w := w) (a := ⟨B, 1, none⟩) e).trans c.c1, (World.cell?_of_block (w := w) (a := ⟨B, 2, none⟩) e).trans c.c2,
  (World.frozen?_of_block (w := w) (a := ⟨B, 1, none⟩) e).trans c.f1, (World.frozen?_of_block (w := w) (a := ⟨B, 2, none⟩) e).trans c.f2⟩
theorem KF.put {w : World} {ts : List RT} {a : Option Addr} {F : List Nat} (h : KF w ts a F) (g : Nat) (hg : g ∉ F) (v0 v1 v2 v3 v4 v5 : Value) : KF (put6 w g v0 v1 v2 v3 v4 v5) ts a F :=
 h.of fun b hb => put6_off w g b _ _ _ _ _ _ (fun e => hg (e ▸ hb))
set_option maxRecDepth 100000 in
set_option maxHeartbeats 2000000 in
theorem counted_any (B : Nat) (s : ByteArray) (i : Nat) (op : Int) (t : RT) (a : Option Addr) (c : Nat) (F : List Nat) (w : World) (hs : s.size ≤ 1048576) (hr : Rdr w B s i op) (hk : KF w t.kids a F) (hB : B ∉ F) (hn : Nice t) {w0 : World} (h0 : OnlyB B w0 w) (hF : ∀ y ∈ F, w0.heap.size ≤ y) :
  Calls Tryd.prog 67 #[.pointer (some ⟨B, 0, none⟩), reV t a c] w (PostP B s op w0 ((PR.braces s i).map fun x => (PR.manyT t x.1 x.2.1, x.2.2))) := by
 have hBl := hr.lt
 have hz0 := h0.size
 have HBF := hB
 obtain ⟨t6, t7⟩ := six_two w (.cells #[.int .i64 t.kind, .string t.set, .bool t.neg, .int .i64 t.low, .int .i64 t.high, .slice a t.kids.length c] 26) (.cells #[.int .i64 0, .string ⟨#[]⟩, .bool false, .int .i64 0, .int .i64 0, .slice none 0 0] 26)
 have b2 : ∀ x y, Below w.heap.size w ((w.alloc x).alloc y) := fun x y => (((Below.refl w.heap.size w).alloc (Nat.le_refl _) x).alloc (by simp) y)
 have O := Lib.hid (h0.trans (OnlyB.of_below (b2 (.cells #[.int .i64 t.kind, .string t.set, .bool t.neg, .int .i64 t.low, .int .i64 t.high, .slice a t.kids.length c] 26) (.cells #[.int .i64 0, .string ⟨#[]⟩, .bool false, .int .i64 0, .int .i64 0, .slice none 0 0] 26))))
 have R := Lib.hid (hr.kept (b2 (.cells #[.int .i64 t.kind, .string t.set, .bool t.neg, .int .i64 t.low, .int .i64 t.high, .slice a t.kids.length c] 26) (.cells #[.int .i64 0, .string ⟨#[]⟩, .bool false, .int .i64 0, .int .i64 0, .slice none 0 0] 26)))
 have K := Lib.hid (hk.kept (b2 (.cells #[.int .i64 t.kind, .string t.set, .bool t.neg, .int .i64 t.low, .int .i64 t.high, .slice a t.kids.length c] 26) (.cells #[.int .i64 0, .string ⟨#[]⟩, .bool false, .int .i64 0, .int .i64 0, .slice none 0 0] 26)))
 have S1 : Hid (Six _ w.heap.size t a c) := Lib.hid t6
 have S2 : Hid (Six _ (w.heap.size + 1) (PR.leaf 0) none 0) := Lib.hid t7
 have HF := Lib.hid hF
 have HLT := Lib.hid hk.lt
 clear t6 t7 b2 hr hk h0 hF
 have HL := Lib.hid (fun y (hy : y ∈ F) => HF.out y hy)
 unfold reV
 obtain ⟨k, st, n, tl, th, ts⟩ := t
 simp only [RT.set, RT.kids, RT.kind, RT.neg, RT.low, RT.high] at *
 cases hd : PR.digAt s i with
 | none =>
  have E : Hid (PR.braces s i = none) := Lib.hid (by unfold PR.braces; rw [hd])
  have HD := Lib.hid hd
  clear hd
  go_enter Tryd.func67, Tryd.ntmps67
  go_wp2_with fail
  refine (digit_no B s i op _ hs R.out HD.out).mono ?_
  rintro e w1 ⟨rfl, hn⟩
  have o := OnlyB.drewAll (B := B) hn
  have r := R.out.drewAll hn
  clear hn
  have O := Lib.hid (O.out.trans o)
  have S1 := Lib.hid (S1.out.only o (by omega))
  have S2 := Lib.hid (S2.out.only o (by omega))
  have K := Lib.hid (K.out.only o HBF)
  have R := Lib.hid r
  clear o r
  obtain ⟨z0, z1, z2, z3, z4, z5, z6⟩ := S2.out.cells
  have z60 := z6 0
  have z61 := z6 1
  have z62 := z6 2
  have z63 := z6 3
  have z64 := z6 4
  have z65 := z6 5
  clear z6
  have h6 : Lk (Six (put6 w1 (w.heap.size + 1) (.int .i64 0) (.string ⟨#[]⟩) (.bool false) (.int .i64 0) (.int .i64 0) (.slice none 0 0)) (w.heap.size + 1) (PR.leaf 0) none 0) := Lk.mk (S2.out.put (PR.leaf 0) none 0)
  have PO := Lk.mk (put6_only O.out (w.heap.size + 1) (.int .i64 0) (.string ⟨#[]⟩) (.bool false) (.int .i64 0) (.int .i64 0) (.slice none 0 0) (by omega))
  have PRd := Lk.mk (R.out.put (w.heap.size + 1) (by omega) (.int .i64 0) (.string ⟨#[]⟩) (.bool false) (.int .i64 0) (.int .i64 0) (.slice none 0 0))
  go_wp2_with fail
  change bodyPost _ _ _ _ _ (put6 w1 (w.heap.size + 1) (.int .i64 0) (.string ⟨#[]⟩) (.bool false) (.int .i64 0) (.int .i64 0) (.slice none 0 0))
  generalize put6 w1 (w.heap.size + 1) (.int .i64 0) (.string ⟨#[]⟩) (.bool false) (.int .i64 0) (.int .i64 0) (.slice none 0 0) = W at h6 PO PRd ⊢
  obtain ⟨y0, y1, y2, y3, y4, y5, _⟩ := h6.out.cells
  replace y0 : _ = some (Value.int .i64 0) := y0
  replace y1 : _ = some (Value.string ⟨#[]⟩) := y1
  replace y2 : _ = some (Value.bool false) := y2
  replace y3 : _ = some (Value.int .i64 0) := y3
  replace y4 : _ = some (Value.int .i64 0) := y4
  replace y5 : _ = some (Value.slice none 0 0) := y5
  refine bodyPost_ret (v := .tuple #[.agg #[.int .i64 0, .string ⟨#[]⟩, .bool false, .int .i64 0, .int .i64 0, .slice none 0 0], .bool false]) (by simp [results, Tryd.results67, go_sem, y0, y1, y2, y3, y4, y5]) rfl ?_
  refine ⟨PO.out, ?_⟩
  rw [E.out]
  exact ⟨PR.leaf 0, none, 0, _, _, rfl, PRd.out⟩
 | some lo =>
  have HD := Lib.hid hd
  clear hd
  go_enter Tryd.func67, Tryd.ntmps67
  go_wp2_with fail
  refine (digit_yes B s i op lo _ hs R.out HD.out).mono ?_
  rintro e w1 ⟨rfl, r, o⟩
  have O := Lib.hid (O.out.trans o)
  have S1 := Lib.hid (S1.out.only o (by omega))
  have S2 := Lib.hid (S2.out.only o (by omega))
  have K := Lib.hid (K.out.only o HBF)
  have R := Lib.hid r
  clear o r
  cases hc : atB s (i + 1) 44
  case true =>
   go_wp2_with fail
   refine (take_yes B s (i + 1) op 44 _ hs R.out (by assumption)).mono ?_
   rintro e w2 ⟨rfl, r, o⟩
   have O := Lib.hid (O.out.trans o)
   have S1 := Lib.hid (S1.out.only o (by omega))
   have S2 := Lib.hid (S2.out.only o (by omega))
   have K := Lib.hid (K.out.only o HBF)
   have R := Lib.hid r
   clear o r
   cases hd2 : PR.digAt s (i + 2) with
   | some hi =>
    have HD2 := Lib.hid hd2
    clear hd2
    go_wp2_with fail
    refine (digit_yes B s (i + 1 + 1) op hi _ hs R.out HD2.out).mono ?_
    rintro e w3 ⟨rfl, r, o⟩
    have O := Lib.hid (O.out.trans o)
    have S1 := Lib.hid (S1.out.only o (by omega))
    have S2 := Lib.hid (S2.out.only o (by omega))
    have K := Lib.hid (K.out.only o HBF)
    have R := Lib.hid r
    clear o r
    have BR := Lib.hid (fun (h : atB s (i + 1 + 1 + 1) 125 = true) => show PR.braces s i = some (lo, hi, i + 1 + 1 + 1 + 1) by unfold PR.braces; rw [HD.out]; simp only [hc, if_true]; rw [HD2.out]; simp only; rw [if_pos h])
    have BR2 := Lib.hid (fun (h : atB s (i + 1 + 1 + 1) 125 = false) => show PR.braces s i = none by unfold PR.braces; rw [HD.out]; simp only [hc, if_true]; rw [HD2.out]; simp only; rw [if_neg (by rw [h]; decide)])
    clear hc
    cases hq : atB s (i + 1 + 1 + 1) 125
    rotate_left
    ·have E : Hid (PR.braces s i = some (lo, hi, (i + 1 + 1 + 1) + 1)) := Lib.hid (BR.out (by assumption))
     obtain ⟨k0, k1, k2, k3, k4, k5, k6⟩ := S1.out.cells
     have k60 := k6 0
     have k61 := k6 1
     have k62 := k6 2
     have k63 := k6 3
     have k64 := k6 4
     have k65 := k6 5
     clear k6
     obtain ⟨z0, z1, z2, z3, z4, z5, z6⟩ := S2.out.cells
     have z60 := z6 0
     have z61 := z6 1
     have z62 := z6 2
     have z63 := z6 3
     have z64 := z6 4
     have z65 := z6 5
     clear z6
     go_wp2_with fail
     refine (many_any (.node k st n tl th ts) a c F lo hi _ hn K.out).mono ?_
     rintro e wm ⟨b, cm, rfl, km, hbm, bm⟩
     unfold reV
     simp only [PR.manyT, RT.set, RT.kids, RT.kind, RT.neg, RT.low, RT.high] at *
     clear k0 k60 k1 k61 k2 k62 k3 k63 k4 k64 k5 k65
     clear z0 z60 z1 z61 z2 z62 z3 z63 z4 z64 z5 z65
     have hzO := O.out.size
     have hzS := S2.out.lt
     have hzm := bm.size
     have hzR := R.out.lt
     have O := Lib.hid (O.out.trans (OnlyB.of_below bm))
     have S2 := Lib.hid (S2.out.kept bm)
     have R := Lib.hid (R.out.kept bm)
     clear S1 K bm
     have K := Lib.hid km
     have hbB : b ≠ B := by omega
     have HBF2 : B ∉ b :: F := by rw [List.mem_cons, not_or]; exact ⟨fun h => hbB h.symm, hB⟩
     clear km HBF
     have HBF := HBF2
     clear HBF2
     have hgF : Hid (w.heap.size + 1 ∉ b :: F) := Lib.hid (by rw [List.mem_cons, not_or]; exact ⟨by omega, fun h => by have := HLT.out _ h; omega⟩)
     have HLF : Hid (∀ y ∈ b :: F, w0.heap.size ≤ y) := Lib.hid (fun y hy => by rcases List.mem_cons.1 hy with rfl | hy; exact Nat.le_trans hzO hbm; exact HL.out y hy)
     go_wp2_with fail
     refine (take_yes B s (i + 1 + 1 + 1) op 125 _ hs R.out (by assumption)).mono ?_
     rintro e wt ⟨rfl, r, o⟩
     have O := Lib.hid (O.out.trans o)
     have S2 := Lib.hid (S2.out.only o (by omega))
     have K := Lib.hid (K.out.only o HBF)
     have R := Lib.hid r
     clear o r
     obtain ⟨z0, z1, z2, z3, z4, z5, z6⟩ := S2.out.cells
     have z60 := z6 0
     have z61 := z6 1
     have z62 := z6 2
     have z63 := z6 3
     have z64 := z6 4
     have z65 := z6 5
     clear z6
     have h6 : Lk (Six (put6 wt (w.heap.size + 1) (.int .i64 5) (.string ⟨#[]⟩) (.bool false) (.int .i64 lo) (.int .i64 hi) (.slice (some ⟨b, 0, none⟩) 1 cm)) (w.heap.size + 1) (PR.manyT (.node k st n tl th ts) lo hi) (some ⟨b, 0, none⟩) cm) := Lk.mk (S2.out.put (PR.manyT (.node k st n tl th ts) lo hi) (some ⟨b, 0, none⟩) cm)
     have PO := Lk.mk (put6_only O.out (w.heap.size + 1) (.int .i64 5) (.string ⟨#[]⟩) (.bool false) (.int .i64 lo) (.int .i64 hi) (.slice (some ⟨b, 0, none⟩) 1 cm) (by omega))
     have PRd := Lk.mk (R.out.put (w.heap.size + 1) (by omega) (.int .i64 5) (.string ⟨#[]⟩) (.bool false) (.int .i64 lo) (.int .i64 hi) (.slice (some ⟨b, 0, none⟩) 1 cm))
     have PK := Lk.mk (K.out.put (w.heap.size + 1) hgF.out (.int .i64 5) (.string ⟨#[]⟩) (.bool false) (.int .i64 lo) (.int .i64 hi) (.slice (some ⟨b, 0, none⟩) 1 cm))
     go_wp2_with fail
     change bodyPost _ _ _ _ _ (put6 wt (w.heap.size + 1) (.int .i64 5) (.string ⟨#[]⟩) (.bool false) (.int .i64 lo) (.int .i64 hi) (.slice (some ⟨b, 0, none⟩) 1 cm))
     generalize put6 wt (w.heap.size + 1) (.int .i64 5) (.string ⟨#[]⟩) (.bool false) (.int .i64 lo) (.int .i64 hi) (.slice (some ⟨b, 0, none⟩) 1 cm) = W at h6 PO PRd PK ⊢
     obtain ⟨y0, y1, y2, y3, y4, y5, _⟩ := h6.out.cells
     replace y0 : _ = some (Value.int .i64 5) := y0
     replace y1 : _ = some (Value.string ⟨#[]⟩) := y1
     replace y2 : _ = some (Value.bool false) := y2
     replace y3 : _ = some (Value.int .i64 lo) := y3
     replace y4 : _ = some (Value.int .i64 hi) := y4
     replace y5 : _ = some (Value.slice (some ⟨b, 0, none⟩) 1 cm) := y5
     refine bodyPost_ret (v := .tuple #[.agg #[.int .i64 5, .string ⟨#[]⟩, .bool false, .int .i64 lo, .int .i64 hi, .slice (some ⟨b, 0, none⟩) 1 cm], .bool true]) (by simp [results, Tryd.results67, go_sem, y0, y1, y2, y3, y4, y5]) rfl ?_
     refine ⟨PO.out, ?_⟩
     rw [E.out]
     exact ⟨some ⟨b, 0, none⟩, cm, b :: F, rfl, PK.out, HLF.out, ⟨Nat.zero_le _, by simp [PR.manyT, RT.kids]⟩, PRd.out⟩
    ·have E : Hid (PR.braces s i = none) := Lib.hid (BR2.out (by assumption))
     obtain ⟨k0, k1, k2, k3, k4, k5, k6⟩ := S1.out.cells
     have k60 := k6 0
     have k61 := k6 1
     have k62 := k6 2
     have k63 := k6 3
     have k64 := k6 4
     have k65 := k6 5
     clear k6
     obtain ⟨z0, z1, z2, z3, z4, z5, z6⟩ := S2.out.cells
     have z60 := z6 0
     have z61 := z6 1
     have z62 := z6 2
     have z63 := z6 3
     have z64 := z6 4
     have z65 := z6 5
     clear z6
     go_wp2_with fail
     refine (many_any (.node k st n tl th ts) a c F lo hi _ hn K.out).mono ?_
     rintro e wm ⟨b, cm, rfl, km, hbm, bm⟩
     unfold reV
     simp only [PR.manyT, RT.set, RT.kids, RT.kind, RT.neg, RT.low, RT.high] at *
     clear k0 k60 k1 k61 k2 k62 k3 k63 k4 k64 k5 k65
     clear z0 z60 z1 z61 z2 z62 z3 z63 z4 z64 z5 z65
     have hzO := O.out.size
     have hzS := S2.out.lt
     have hzm := bm.size
     have hzR := R.out.lt
     have O := Lib.hid (O.out.trans (OnlyB.of_below bm))
     have S2 := Lib.hid (S2.out.kept bm)
     have R := Lib.hid (R.out.kept bm)
     clear S1 K bm
     have K := Lib.hid km
     have hbB : b ≠ B := by omega
     have HBF2 : B ∉ b :: F := by rw [List.mem_cons, not_or]; exact ⟨fun h => hbB h.symm, hB⟩
     clear km HBF
     have HBF := HBF2
     clear HBF2
     have hgF : Hid (w.heap.size + 1 ∉ b :: F) := Lib.hid (by rw [List.mem_cons, not_or]; exact ⟨by omega, fun h => by have := HLT.out _ h; omega⟩)
     have HLF : Hid (∀ y ∈ b :: F, w0.heap.size ≤ y) := Lib.hid (fun y hy => by rcases List.mem_cons.1 hy with rfl | hy; exact Nat.le_trans hzO hbm; exact HL.out y hy)
     go_wp2_with fail
     refine (take_no B s (i + 1 + 1 + 1) op 125 _ hs R.out (by assumption)).mono ?_
     rintro e wt ⟨rfl, hn⟩
     have o := OnlyB.drewAll (B := B) hn
     have r := R.out.drewAll hn
     clear hn
     have O := Lib.hid (O.out.trans o)
     have S2 := Lib.hid (S2.out.only o (by omega))
     have K := Lib.hid (K.out.only o HBF)
     have R := Lib.hid r
     clear o r
     obtain ⟨z0, z1, z2, z3, z4, z5, z6⟩ := S2.out.cells
     have z60 := z6 0
     have z61 := z6 1
     have z62 := z6 2
     have z63 := z6 3
     have z64 := z6 4
     have z65 := z6 5
     clear z6
     have h6 : Lk (Six (put6 wt (w.heap.size + 1) (.int .i64 5) (.string ⟨#[]⟩) (.bool false) (.int .i64 lo) (.int .i64 hi) (.slice (some ⟨b, 0, none⟩) 1 cm)) (w.heap.size + 1) (PR.manyT (.node k st n tl th ts) lo hi) (some ⟨b, 0, none⟩) cm) := Lk.mk (S2.out.put (PR.manyT (.node k st n tl th ts) lo hi) (some ⟨b, 0, none⟩) cm)
     have PO := Lk.mk (put6_only O.out (w.heap.size + 1) (.int .i64 5) (.string ⟨#[]⟩) (.bool false) (.int .i64 lo) (.int .i64 hi) (.slice (some ⟨b, 0, none⟩) 1 cm) (by omega))
     have PRd := Lk.mk (R.out.put (w.heap.size + 1) (by omega) (.int .i64 5) (.string ⟨#[]⟩) (.bool false) (.int .i64 lo) (.int .i64 hi) (.slice (some ⟨b, 0, none⟩) 1 cm))
     go_wp2_with fail
     change bodyPost _ _ _ _ _ (put6 wt (w.heap.size + 1) (.int .i64 5) (.string ⟨#[]⟩) (.bool false) (.int .i64 lo) (.int .i64 hi) (.slice (some ⟨b, 0, none⟩) 1 cm))
     generalize put6 wt (w.heap.size + 1) (.int .i64 5) (.string ⟨#[]⟩) (.bool false) (.int .i64 lo) (.int .i64 hi) (.slice (some ⟨b, 0, none⟩) 1 cm) = W at h6 PO PRd ⊢
     obtain ⟨y0, y1, y2, y3, y4, y5, _⟩ := h6.out.cells
     replace y0 : _ = some (Value.int .i64 5) := y0
     replace y1 : _ = some (Value.string ⟨#[]⟩) := y1
     replace y2 : _ = some (Value.bool false) := y2
     replace y3 : _ = some (Value.int .i64 lo) := y3
     replace y4 : _ = some (Value.int .i64 hi) := y4
     replace y5 : _ = some (Value.slice (some ⟨b, 0, none⟩) 1 cm) := y5
     refine bodyPost_ret (v := .tuple #[.agg #[.int .i64 5, .string ⟨#[]⟩, .bool false, .int .i64 lo, .int .i64 hi, .slice (some ⟨b, 0, none⟩) 1 cm], .bool false]) (by simp [results, Tryd.results67, go_sem, y0, y1, y2, y3, y4, y5]) rfl ?_
     refine ⟨PO.out, ?_⟩
     rw [E.out]
     exact ⟨(PR.manyT (.node k st n tl th ts) lo hi), _, _, _, _, rfl, PRd.out⟩
   | none =>
    have HD2 := Lib.hid hd2
    clear hd2
    go_wp2_with fail
    refine (digit_no B s (i + 1 + 1) op _ hs R.out HD2.out).mono ?_
    rintro e w3 ⟨rfl, hn⟩
    have o := OnlyB.drewAll (B := B) hn
    have r := R.out.drewAll hn
    clear hn
    have O := Lib.hid (O.out.trans o)
    have S1 := Lib.hid (S1.out.only o (by omega))
    have S2 := Lib.hid (S2.out.only o (by omega))
    have K := Lib.hid (K.out.only o HBF)
    have R := Lib.hid r
    clear o r
    have BR := Lib.hid (fun (h : atB s (i + 1 + 1) 125 = true) => show PR.braces s i = some (lo, -1, i + 1 + 1 + 1) by unfold PR.braces; rw [HD.out]; simp only [hc, if_true]; rw [HD2.out]; simp only; rw [if_pos h])
    have BR2 := Lib.hid (fun (h : atB s (i + 1 + 1) 125 = false) => show PR.braces s i = none by unfold PR.braces; rw [HD.out]; simp only [hc, if_true]; rw [HD2.out]; simp only; rw [if_neg (by rw [h]; decide)])
    clear hc
    cases hq : atB s (i + 1 + 1) 125
    rotate_left
    ·have E : Hid (PR.braces s i = some (lo, (-1), (i + 1 + 1) + 1)) := Lib.hid (BR.out (by assumption))
     obtain ⟨k0, k1, k2, k3, k4, k5, k6⟩ := S1.out.cells
     have k60 := k6 0
     have k61 := k6 1
     have k62 := k6 2
     have k63 := k6 3
     have k64 := k6 4
     have k65 := k6 5
     clear k6
     obtain ⟨z0, z1, z2, z3, z4, z5, z6⟩ := S2.out.cells
     have z60 := z6 0
     have z61 := z6 1
     have z62 := z6 2
     have z63 := z6 3
     have z64 := z6 4
     have z65 := z6 5
     clear z6
     go_wp2_with fail
     refine (many_any (.node k st n tl th ts) a c F lo (-1) _ hn K.out).mono ?_
     rintro e wm ⟨b, cm, rfl, km, hbm, bm⟩
     unfold reV
     simp only [PR.manyT, RT.set, RT.kids, RT.kind, RT.neg, RT.low, RT.high] at *
     clear k0 k60 k1 k61 k2 k62 k3 k63 k4 k64 k5 k65
     clear z0 z60 z1 z61 z2 z62 z3 z63 z4 z64 z5 z65
     have hzO := O.out.size
     have hzS := S2.out.lt
     have hzm := bm.size
     have hzR := R.out.lt
     have O := Lib.hid (O.out.trans (OnlyB.of_below bm))
     have S2 := Lib.hid (S2.out.kept bm)
     have R := Lib.hid (R.out.kept bm)
     clear S1 K bm
     have K := Lib.hid km
     have hbB : b ≠ B := by omega
     have HBF2 : B ∉ b :: F := by rw [List.mem_cons, not_or]; exact ⟨fun h => hbB h.symm, hB⟩
     clear km HBF
     have HBF := HBF2
     clear HBF2
     have hgF : Hid (w.heap.size + 1 ∉ b :: F) := Lib.hid (by rw [List.mem_cons, not_or]; exact ⟨by omega, fun h => by have := HLT.out _ h; omega⟩)
     have HLF : Hid (∀ y ∈ b :: F, w0.heap.size ≤ y) := Lib.hid (fun y hy => by rcases List.mem_cons.1 hy with rfl | hy; exact Nat.le_trans hzO hbm; exact HL.out y hy)
     go_wp2_with fail
     refine (take_yes B s (i + 1 + 1) op 125 _ hs R.out (by assumption)).mono ?_
     rintro e wt ⟨rfl, r, o⟩
     have O := Lib.hid (O.out.trans o)
     have S2 := Lib.hid (S2.out.only o (by omega))
     have K := Lib.hid (K.out.only o HBF)
     have R := Lib.hid r
     clear o r
     obtain ⟨z0, z1, z2, z3, z4, z5, z6⟩ := S2.out.cells
     have z60 := z6 0
     have z61 := z6 1
     have z62 := z6 2
     have z63 := z6 3
     have z64 := z6 4
     have z65 := z6 5
     clear z6
     have h6 : Lk (Six (put6 wt (w.heap.size + 1) (.int .i64 5) (.string ⟨#[]⟩) (.bool false) (.int .i64 lo) (.int .i64 (-1)) (.slice (some ⟨b, 0, none⟩) 1 cm)) (w.heap.size + 1) (PR.manyT (.node k st n tl th ts) lo (-1)) (some ⟨b, 0, none⟩) cm) := Lk.mk (S2.out.put (PR.manyT (.node k st n tl th ts) lo (-1)) (some ⟨b, 0, none⟩) cm)
     have PO := Lk.mk (put6_only O.out (w.heap.size + 1) (.int .i64 5) (.string ⟨#[]⟩) (.bool false) (.int .i64 lo) (.int .i64 (-1)) (.slice (some ⟨b, 0, none⟩) 1 cm) (by omega))
     have PRd := Lk.mk (R.out.put (w.heap.size + 1) (by omega) (.int .i64 5) (.string ⟨#[]⟩) (.bool false) (.int .i64 lo) (.int .i64 (-1)) (.slice (some ⟨b, 0, none⟩) 1 cm))
     have PK := Lk.mk (K.out.put (w.heap.size + 1) hgF.out (.int .i64 5) (.string ⟨#[]⟩) (.bool false) (.int .i64 lo) (.int .i64 (-1)) (.slice (some ⟨b, 0, none⟩) 1 cm))
     go_wp2_with fail
     change bodyPost _ _ _ _ _ (put6 wt (w.heap.size + 1) (.int .i64 5) (.string ⟨#[]⟩) (.bool false) (.int .i64 lo) (.int .i64 (-1)) (.slice (some ⟨b, 0, none⟩) 1 cm))
     generalize put6 wt (w.heap.size + 1) (.int .i64 5) (.string ⟨#[]⟩) (.bool false) (.int .i64 lo) (.int .i64 (-1)) (.slice (some ⟨b, 0, none⟩) 1 cm) = W at h6 PO PRd PK ⊢
     obtain ⟨y0, y1, y2, y3, y4, y5, _⟩ := h6.out.cells
     replace y0 : _ = some (Value.int .i64 5) := y0
     replace y1 : _ = some (Value.string ⟨#[]⟩) := y1
     replace y2 : _ = some (Value.bool false) := y2
     replace y3 : _ = some (Value.int .i64 lo) := y3
     replace y4 : _ = some (Value.int .i64 (-1)) := y4
     replace y5 : _ = some (Value.slice (some ⟨b, 0, none⟩) 1 cm) := y5
     refine bodyPost_ret (v := .tuple #[.agg #[.int .i64 5, .string ⟨#[]⟩, .bool false, .int .i64 lo, .int .i64 (-1), .slice (some ⟨b, 0, none⟩) 1 cm], .bool true]) (by simp [results, Tryd.results67, go_sem, y0, y1, y2, y3, y4, y5]) rfl ?_
     refine ⟨PO.out, ?_⟩
     rw [E.out]
     exact ⟨some ⟨b, 0, none⟩, cm, b :: F, rfl, PK.out, HLF.out, ⟨Nat.zero_le _, by simp [PR.manyT, RT.kids]⟩, PRd.out⟩
    ·have E : Hid (PR.braces s i = none) := Lib.hid (BR2.out (by assumption))
     obtain ⟨k0, k1, k2, k3, k4, k5, k6⟩ := S1.out.cells
     have k60 := k6 0
     have k61 := k6 1
     have k62 := k6 2
     have k63 := k6 3
     have k64 := k6 4
     have k65 := k6 5
     clear k6
     obtain ⟨z0, z1, z2, z3, z4, z5, z6⟩ := S2.out.cells
     have z60 := z6 0
     have z61 := z6 1
     have z62 := z6 2
     have z63 := z6 3
     have z64 := z6 4
     have z65 := z6 5
     clear z6
     go_wp2_with fail
     refine (many_any (.node k st n tl th ts) a c F lo (-1) _ hn K.out).mono ?_
     rintro e wm ⟨b, cm, rfl, km, hbm, bm⟩
     unfold reV
     simp only [PR.manyT, RT.set, RT.kids, RT.kind, RT.neg, RT.low, RT.high] at *
     clear k0 k60 k1 k61 k2 k62 k3 k63 k4 k64 k5 k65
     clear z0 z60 z1 z61 z2 z62 z3 z63 z4 z64 z5 z65
     have hzO := O.out.size
     have hzS := S2.out.lt
     have hzm := bm.size
     have hzR := R.out.lt
     have O := Lib.hid (O.out.trans (OnlyB.of_below bm))
     have S2 := Lib.hid (S2.out.kept bm)
     have R := Lib.hid (R.out.kept bm)
     clear S1 K bm
     have K := Lib.hid km
     have hbB : b ≠ B := by omega
     have HBF2 : B ∉ b :: F := by rw [List.mem_cons, not_or]; exact ⟨fun h => hbB h.symm, hB⟩
     clear km HBF
     have HBF := HBF2
     clear HBF2
     have hgF : Hid (w.heap.size + 1 ∉ b :: F) := Lib.hid (by rw [List.mem_cons, not_or]; exact ⟨by omega, fun h => by have := HLT.out _ h; omega⟩)
     have HLF : Hid (∀ y ∈ b :: F, w0.heap.size ≤ y) := Lib.hid (fun y hy => by rcases List.mem_cons.1 hy with rfl | hy; exact Nat.le_trans hzO hbm; exact HL.out y hy)
     go_wp2_with fail
     refine (take_no B s (i + 1 + 1) op 125 _ hs R.out (by assumption)).mono ?_
     rintro e wt ⟨rfl, hn⟩
     have o := OnlyB.drewAll (B := B) hn
     have r := R.out.drewAll hn
     clear hn
     have O := Lib.hid (O.out.trans o)
     have S2 := Lib.hid (S2.out.only o (by omega))
     have K := Lib.hid (K.out.only o HBF)
     have R := Lib.hid r
     clear o r
     obtain ⟨z0, z1, z2, z3, z4, z5, z6⟩ := S2.out.cells
     have z60 := z6 0
     have z61 := z6 1
     have z62 := z6 2
     have z63 := z6 3
     have z64 := z6 4
     have z65 := z6 5
     clear z6
     have h6 : Lk (Six (put6 wt (w.heap.size + 1) (.int .i64 5) (.string ⟨#[]⟩) (.bool false) (.int .i64 lo) (.int .i64 (-1)) (.slice (some ⟨b, 0, none⟩) 1 cm)) (w.heap.size + 1) (PR.manyT (.node k st n tl th ts) lo (-1)) (some ⟨b, 0, none⟩) cm) := Lk.mk (S2.out.put (PR.manyT (.node k st n tl th ts) lo (-1)) (some ⟨b, 0, none⟩) cm)
     have PO := Lk.mk (put6_only O.out (w.heap.size + 1) (.int .i64 5) (.string ⟨#[]⟩) (.bool false) (.int .i64 lo) (.int .i64 (-1)) (.slice (some ⟨b, 0, none⟩) 1 cm) (by omega))
     have PRd := Lk.mk (R.out.put (w.heap.size + 1) (by omega) (.int .i64 5) (.string ⟨#[]⟩) (.bool false) (.int .i64 lo) (.int .i64 (-1)) (.slice (some ⟨b, 0, none⟩) 1 cm))
     go_wp2_with fail
     change bodyPost _ _ _ _ _ (put6 wt (w.heap.size + 1) (.int .i64 5) (.string ⟨#[]⟩) (.bool false) (.int .i64 lo) (.int .i64 (-1)) (.slice (some ⟨b, 0, none⟩) 1 cm))
     generalize put6 wt (w.heap.size + 1) (.int .i64 5) (.string ⟨#[]⟩) (.bool false) (.int .i64 lo) (.int .i64 (-1)) (.slice (some ⟨b, 0, none⟩) 1 cm) = W at h6 PO PRd ⊢
     obtain ⟨y0, y1, y2, y3, y4, y5, _⟩ := h6.out.cells
     replace y0 : _ = some (Value.int .i64 5) := y0
     replace y1 : _ = some (Value.string ⟨#[]⟩) := y1
     replace y2 : _ = some (Value.bool false) := y2
     replace y3 : _ = some (Value.int .i64 lo) := y3
     replace y4 : _ = some (Value.int .i64 (-1)) := y4
     replace y5 : _ = some (Value.slice (some ⟨b, 0, none⟩) 1 cm) := y5
     refine bodyPost_ret (v := .tuple #[.agg #[.int .i64 5, .string ⟨#[]⟩, .bool false, .int .i64 lo, .int .i64 (-1), .slice (some ⟨b, 0, none⟩) 1 cm], .bool false]) (by simp [results, Tryd.results67, go_sem, y0, y1, y2, y3, y4, y5]) rfl ?_
     refine ⟨PO.out, ?_⟩
     rw [E.out]
     exact ⟨(PR.manyT (.node k st n tl th ts) lo (-1)), _, _, _, _, rfl, PRd.out⟩
  case false =>
   go_wp2_with fail
   refine (take_no B s (i + 1) op 44 _ hs R.out (by assumption)).mono ?_
   rintro e w2 ⟨rfl, hn⟩
   have o := OnlyB.drewAll (B := B) hn
   have r := R.out.drewAll hn
   clear hn
   have O := Lib.hid (O.out.trans o)
   have S1 := Lib.hid (S1.out.only o (by omega))
   have S2 := Lib.hid (S2.out.only o (by omega))
   have K := Lib.hid (K.out.only o HBF)
   have R := Lib.hid r
   clear o r
   have BR := Lib.hid (fun (h : atB s (i + 1) 125 = true) => show PR.braces s i = some (lo, lo, i + 1 + 1) by unfold PR.braces; rw [HD.out]; simp only [hc, Bool.false_eq_true, if_false]; rw [if_pos h])
   have BR2 := Lib.hid (fun (h : atB s (i + 1) 125 = false) => show PR.braces s i = none by unfold PR.braces; rw [HD.out]; simp only [hc, Bool.false_eq_true, if_false]; rw [if_neg (by rw [h]; decide)])
   clear hc
   cases hq : atB s (i + 1) 125
   rotate_left
   ·have E : Hid (PR.braces s i = some (lo, lo, (i + 1) + 1)) := Lib.hid (BR.out (by assumption))
    obtain ⟨k0, k1, k2, k3, k4, k5, k6⟩ := S1.out.cells
    have k60 := k6 0
    have k61 := k6 1
    have k62 := k6 2
    have k63 := k6 3
    have k64 := k6 4
    have k65 := k6 5
    clear k6
    obtain ⟨z0, z1, z2, z3, z4, z5, z6⟩ := S2.out.cells
    have z60 := z6 0
    have z61 := z6 1
    have z62 := z6 2
    have z63 := z6 3
    have z64 := z6 4
    have z65 := z6 5
    clear z6
    go_wp2_with fail
    refine (many_any (.node k st n tl th ts) a c F lo lo _ hn K.out).mono ?_
    rintro e wm ⟨b, cm, rfl, km, hbm, bm⟩
    unfold reV
    simp only [PR.manyT, RT.set, RT.kids, RT.kind, RT.neg, RT.low, RT.high] at *
    clear k0 k60 k1 k61 k2 k62 k3 k63 k4 k64 k5 k65
    clear z0 z60 z1 z61 z2 z62 z3 z63 z4 z64 z5 z65
    have hzO := O.out.size
    have hzS := S2.out.lt
    have hzm := bm.size
    have hzR := R.out.lt
    have O := Lib.hid (O.out.trans (OnlyB.of_below bm))
    have S2 := Lib.hid (S2.out.kept bm)
    have R := Lib.hid (R.out.kept bm)
    clear S1 K bm
    have K := Lib.hid km
    have hbB : b ≠ B := by omega
    have HBF2 : B ∉ b :: F := by rw [List.mem_cons, not_or]; exact ⟨fun h => hbB h.symm, hB⟩
    clear km HBF
    have HBF := HBF2
    clear HBF2
    have hgF : Hid (w.heap.size + 1 ∉ b :: F) := Lib.hid (by rw [List.mem_cons, not_or]; exact ⟨by omega, fun h => by have := HLT.out _ h; omega⟩)
    have HLF : Hid (∀ y ∈ b :: F, w0.heap.size ≤ y) := Lib.hid (fun y hy => by rcases List.mem_cons.1 hy with rfl | hy; exact Nat.le_trans hzO hbm; exact HL.out y hy)
    go_wp2_with fail
    refine (take_yes B s (i + 1) op 125 _ hs R.out (by assumption)).mono ?_
    rintro e wt ⟨rfl, r, o⟩
    have O := Lib.hid (O.out.trans o)
    have S2 := Lib.hid (S2.out.only o (by omega))
    have K := Lib.hid (K.out.only o HBF)
    have R := Lib.hid r
    clear o r
    obtain ⟨z0, z1, z2, z3, z4, z5, z6⟩ := S2.out.cells
    have z60 := z6 0
    have z61 := z6 1
    have z62 := z6 2
    have z63 := z6 3
    have z64 := z6 4
    have z65 := z6 5
    clear z6
    have h6 : Lk (Six (put6 wt (w.heap.size + 1) (.int .i64 5) (.string ⟨#[]⟩) (.bool false) (.int .i64 lo) (.int .i64 lo) (.slice (some ⟨b, 0, none⟩) 1 cm)) (w.heap.size + 1) (PR.manyT (.node k st n tl th ts) lo lo) (some ⟨b, 0, none⟩) cm) := Lk.mk (S2.out.put (PR.manyT (.node k st n tl th ts) lo lo) (some ⟨b, 0, none⟩) cm)
    have PO := Lk.mk (put6_only O.out (w.heap.size + 1) (.int .i64 5) (.string ⟨#[]⟩) (.bool false) (.int .i64 lo) (.int .i64 lo) (.slice (some ⟨b, 0, none⟩) 1 cm) (by omega))
    have PRd := Lk.mk (R.out.put (w.heap.size + 1) (by omega) (.int .i64 5) (.string ⟨#[]⟩) (.bool false) (.int .i64 lo) (.int .i64 lo) (.slice (some ⟨b, 0, none⟩) 1 cm))
    have PK := Lk.mk (K.out.put (w.heap.size + 1) hgF.out (.int .i64 5) (.string ⟨#[]⟩) (.bool false) (.int .i64 lo) (.int .i64 lo) (.slice (some ⟨b, 0, none⟩) 1 cm))
    go_wp2_with fail
    change bodyPost _ _ _ _ _ (put6 wt (w.heap.size + 1) (.int .i64 5) (.string ⟨#[]⟩) (.bool false) (.int .i64 lo) (.int .i64 lo) (.slice (some ⟨b, 0, none⟩) 1 cm))
    generalize put6 wt (w.heap.size + 1) (.int .i64 5) (.string ⟨#[]⟩) (.bool false) (.int .i64 lo) (.int .i64 lo) (.slice (some ⟨b, 0, none⟩) 1 cm) = W at h6 PO PRd PK ⊢
    obtain ⟨y0, y1, y2, y3, y4, y5, _⟩ := h6.out.cells
    replace y0 : _ = some (Value.int .i64 5) := y0
    replace y1 : _ = some (Value.string ⟨#[]⟩) := y1
    replace y2 : _ = some (Value.bool false) := y2
    replace y3 : _ = some (Value.int .i64 lo) := y3
    replace y4 : _ = some (Value.int .i64 lo) := y4
    replace y5 : _ = some (Value.slice (some ⟨b, 0, none⟩) 1 cm) := y5
    refine bodyPost_ret (v := .tuple #[.agg #[.int .i64 5, .string ⟨#[]⟩, .bool false, .int .i64 lo, .int .i64 lo, .slice (some ⟨b, 0, none⟩) 1 cm], .bool true]) (by simp [results, Tryd.results67, go_sem, y0, y1, y2, y3, y4, y5]) rfl ?_
    refine ⟨PO.out, ?_⟩
    rw [E.out]
    exact ⟨some ⟨b, 0, none⟩, cm, b :: F, rfl, PK.out, HLF.out, ⟨Nat.zero_le _, by simp [PR.manyT, RT.kids]⟩, PRd.out⟩
   ·have E : Hid (PR.braces s i = none) := Lib.hid (BR2.out (by assumption))
    obtain ⟨k0, k1, k2, k3, k4, k5, k6⟩ := S1.out.cells
    have k60 := k6 0
    have k61 := k6 1
    have k62 := k6 2
    have k63 := k6 3
    have k64 := k6 4
    have k65 := k6 5
    clear k6
    obtain ⟨z0, z1, z2, z3, z4, z5, z6⟩ := S2.out.cells
    have z60 := z6 0
    have z61 := z6 1
    have z62 := z6 2
    have z63 := z6 3
    have z64 := z6 4
    have z65 := z6 5
    clear z6
    go_wp2_with fail
    refine (many_any (.node k st n tl th ts) a c F lo lo _ hn K.out).mono ?_
    rintro e wm ⟨b, cm, rfl, km, hbm, bm⟩
    unfold reV
    simp only [PR.manyT, RT.set, RT.kids, RT.kind, RT.neg, RT.low, RT.high] at *
    clear k0 k60 k1 k61 k2 k62 k3 k63 k4 k64 k5 k65
    clear z0 z60 z1 z61 z2 z62 z3 z63 z4 z64 z5 z65
    have hzO := O.out.size
    have hzS := S2.out.lt
    have hzm := bm.size
    have hzR := R.out.lt
    have O := Lib.hid (O.out.trans (OnlyB.of_below bm))
    have S2 := Lib.hid (S2.out.kept bm)
    have R := Lib.hid (R.out.kept bm)
    clear S1 K bm
    have K := Lib.hid km
    have hbB : b ≠ B := by omega
    have HBF2 : B ∉ b :: F := by rw [List.mem_cons, not_or]; exact ⟨fun h => hbB h.symm, hB⟩
    clear km HBF
    have HBF := HBF2
    clear HBF2
    have hgF : Hid (w.heap.size + 1 ∉ b :: F) := Lib.hid (by rw [List.mem_cons, not_or]; exact ⟨by omega, fun h => by have := HLT.out _ h; omega⟩)
    have HLF : Hid (∀ y ∈ b :: F, w0.heap.size ≤ y) := Lib.hid (fun y hy => by rcases List.mem_cons.1 hy with rfl | hy; exact Nat.le_trans hzO hbm; exact HL.out y hy)
    go_wp2_with fail
    refine (take_no B s (i + 1) op 125 _ hs R.out (by assumption)).mono ?_
    rintro e wt ⟨rfl, hn⟩
    have o := OnlyB.drewAll (B := B) hn
    have r := R.out.drewAll hn
    clear hn
    have O := Lib.hid (O.out.trans o)
    have S2 := Lib.hid (S2.out.only o (by omega))
    have K := Lib.hid (K.out.only o HBF)
    have R := Lib.hid r
    clear o r
    obtain ⟨z0, z1, z2, z3, z4, z5, z6⟩ := S2.out.cells
    have z60 := z6 0
    have z61 := z6 1
    have z62 := z6 2
    have z63 := z6 3
    have z64 := z6 4
    have z65 := z6 5
    clear z6
    have h6 : Lk (Six (put6 wt (w.heap.size + 1) (.int .i64 5) (.string ⟨#[]⟩) (.bool false) (.int .i64 lo) (.int .i64 lo) (.slice (some ⟨b, 0, none⟩) 1 cm)) (w.heap.size + 1) (PR.manyT (.node k st n tl th ts) lo lo) (some ⟨b, 0, none⟩) cm) := Lk.mk (S2.out.put (PR.manyT (.node k st n tl th ts) lo lo) (some ⟨b, 0, none⟩) cm)
    have PO := Lk.mk (put6_only O.out (w.heap.size + 1) (.int .i64 5) (.string ⟨#[]⟩) (.bool false) (.int .i64 lo) (.int .i64 lo) (.slice (some ⟨b, 0, none⟩) 1 cm) (by omega))
    have PRd := Lk.mk (R.out.put (w.heap.size + 1) (by omega) (.int .i64 5) (.string ⟨#[]⟩) (.bool false) (.int .i64 lo) (.int .i64 lo) (.slice (some ⟨b, 0, none⟩) 1 cm))
    go_wp2_with fail
    change bodyPost _ _ _ _ _ (put6 wt (w.heap.size + 1) (.int .i64 5) (.string ⟨#[]⟩) (.bool false) (.int .i64 lo) (.int .i64 lo) (.slice (some ⟨b, 0, none⟩) 1 cm))
    generalize put6 wt (w.heap.size + 1) (.int .i64 5) (.string ⟨#[]⟩) (.bool false) (.int .i64 lo) (.int .i64 lo) (.slice (some ⟨b, 0, none⟩) 1 cm) = W at h6 PO PRd ⊢
    obtain ⟨y0, y1, y2, y3, y4, y5, _⟩ := h6.out.cells
    replace y0 : _ = some (Value.int .i64 5) := y0
    replace y1 : _ = some (Value.string ⟨#[]⟩) := y1
    replace y2 : _ = some (Value.bool false) := y2
    replace y3 : _ = some (Value.int .i64 lo) := y3
    replace y4 : _ = some (Value.int .i64 lo) := y4
    replace y5 : _ = some (Value.slice (some ⟨b, 0, none⟩) 1 cm) := y5
    refine bodyPost_ret (v := .tuple #[.agg #[.int .i64 5, .string ⟨#[]⟩, .bool false, .int .i64 lo, .int .i64 lo, .slice (some ⟨b, 0, none⟩) 1 cm], .bool false]) (by simp [results, Tryd.results67, go_sem, y0, y1, y2, y3, y4, y5]) rfl ?_
    refine ⟨PO.out, ?_⟩
    rw [E.out]
    exact ⟨(PR.manyT (.node k st n tl th ts) lo lo), _, _, _, _, rfl, PRd.out⟩
end Go.Proofs.YtcpaneaiobnhdaaDoor.kit
/-
 Contracts of the model's reader of expressions for texts, its small functions, over this seat's translation: spec.l04Is, l04Ends, l04Count. Conditions: the reader's cells are known.
-/
namespace Go.Proofs.YtcpaneaiobnhdaaDoor.kit
open Go.ChangeShapes Go.WideShapes Go.ChangeAt Go.RowKit
set_option linter.unusedVariables false

/-- The model's reader in block B: of a text, at a place, gone bad or not. -/
structure Par (w : World) (B : Nat) (s : ByteArray) (i : Nat) (bad : Bool) : Prop where
 lt : B < w.heap.size
 c0 : w.cell? ⟨B, 0, none⟩ = some (.string s)
 c1 : w.cell? ⟨B, 1, none⟩ = some (.int .i64 (i : Int))
 c2 : w.cell? ⟨B, 2, none⟩ = some (.bool bad)
 f1 : w.frozen? ⟨B, 1, none⟩ = false
 f2 : w.frozen? ⟨B, 2, none⟩ = false
theorem Par.drewN {w : World} {B : Nat} {s : ByteArray} {i : Nat} {bad : Bool} (c : Par w B s i bad) (k : Nat) : Par (w.drewN k) B s i bad := ⟨c.lt, c.c0, c.c1, c.c2, c.f1, c.f2⟩
theorem Par.setI {w : World} {B : Nat} {s : ByteArray} {i : Nat} {bad : Bool} (c : Par w B s i bad) (j : Nat) : Par (w.setCell ⟨B, 1, none⟩ (.int .i64 (j : Int))) B s j bad := by
 refine ⟨by simpa using c.lt, ?_, ?_, ?_, ?_, ?_⟩
 ·exact (World.cell?_setCell_other w _ _ _ (by intro x; cases x)).trans c.c0
 ·exact World.cell?_setCell_same w _ _ c.c1
 ·exact (World.cell?_setCell_other w _ _ _ (by intro x; cases x)).trans c.c2
 ·exact (World.frozen?_setCell ..).trans c.f1
 ·exact (World.frozen?_setCell ..).trans c.f2
theorem Par.setBad {w : World} {B : Nat} {s : ByteArray} {i : Nat} {bad : Bool} (c : Par w B s i bad) : Par (w.setCell ⟨B, 2, none⟩ (.bool true)) B s i true := by
 refine ⟨by simpa using c.lt, ?_, ?_, ?_, ?_, ?_⟩
 ·exact (World.cell?_setCell_other w _ _ _ (by intro x; cases x)).trans c.c0
 ·exact (World.cell?_setCell_other w _ _ _ (by intro x; cases x)).trans c.c1
 ·exact World.cell?_setCell_same w _ _ c.c2
 ·exact (World.frozen?_setCell ..).trans c.f1
 ·exact (World.frozen?_setCell ..).trans c.f2
theorem Par.kept {w w' : World} {B : Nat} {s : ByteArray} {i : Nat} {bad : Bool} (c : Par w B s i bad) (h : Below w.heap.size w w') : Par w' B s i bad :=
 ⟨Nat.lt_of_lt_of_le c.lt h.size, (h.cell (p := ⟨B, 0, none⟩) c.lt).trans c.c0, (h.cell (p := ⟨B, 1, none⟩) c.lt).trans c.c1, (h.cell (p := ⟨B, 2, none⟩) c.lt).trans c.c2, (h.frozen (p := ⟨B, 1, none⟩) c.lt).trans c.f1, (h.frozen (p := ⟨B, 2, none⟩) c.lt).trans c.f2⟩

set_option maxHeartbeats 400000 in
theorem pIs_any (B : Nat) (s : ByteArray) (i : Nat) (bad : Bool) (c : UInt8) (n : Int) (hn : (c.toNat : Int) = n) (b : Bool) (w : World) (hs : s.size ≤ 1048576) (hr : Par w B s i bad) (hb : (!bad && atB s i c) = b) :
  Calls Tryd.prog 39 #[.pointer (some ⟨B, 0, none⟩), .int .u8 n] w fun e w' => e = .returned (.bool b) ∧ ∃ n, w' = w.drewN n := by
 obtain ⟨h0, h1, h2, h3, h4, h5⟩ := hr
 have i0 : (0 : Int) ≤ (i : Int) := by omega
 cases bad with
 | true =>
  have HB : Hid (b = false) := Lib.hid (by rw [← hb]; rfl)
  clear hb hn
  go_enter Tryd.func39, Tryd.ntmps39
  go_wp2
  go_quiet (fail)
  go_wp2
  go_ret
  exact ⟨ret_bool HB.out.symm, _, rfl⟩
 | false =>
  by_cases hlt : i < s.size
  ·have d1 : decide (i < s.size) = true := by simpa using hlt
   have d2 : decide ((i : Int) < (s.size : Int)) = true := by simp; omega
   have i1 : (i : Int) < (s.size : Int) := by omega
   have HA : Hid (((s[i].toNat : Int) == n) = b) := Lib.hid (by rw [← hb, ← hn, atB_in hlt]; rfl)
   clear hb hn
   go_enter Tryd.func39, Tryd.ntmps39
   go_wp2
   go_quiet (fail)
   go_wp2
   go_ret
   exact ⟨ret_bool HA.out, _, rfl⟩
  ·have d1 : decide (i < s.size) = false := by simpa using hlt
   have d2 : decide ((i : Int) < (s.size : Int)) = false := by simp; omega
   have HB : Hid (b = false) := Lib.hid (by rw [← hb, show atB s i c = false from dif_neg hlt]; rfl)
   clear hb hn
   go_enter Tryd.func39, Tryd.ntmps39
   go_wp2
   go_quiet (fail)
   go_wp2
   go_ret
   exact ⟨ret_bool HB.out.symm, _, rfl⟩
set_option maxHeartbeats 1000000 in
theorem pEnds_any (B : Nat) (s : ByteArray) (i : Nat) (bad b : Bool) (w : World) (hs : s.size ≤ 1048576) (hr : Par w B s i bad) (hb : (bad || PR.ends s i) = b) :
  Calls Tryd.prog 51 #[.pointer (some ⟨B, 0, none⟩)] w fun e w' => e = .returned (.bool b) ∧ ∃ n, w' = w.drewN n := by
 obtain ⟨h0, h1, h2, h3, h4, h5⟩ := hr
 have i0 : (0 : Int) ≤ (i : Int) := by omega
 cases bad with
 | true =>
  have HB : Hid (b = true) := Lib.hid (by rw [← hb]; rfl)
  clear hb
  go_enter Tryd.func51, Tryd.ntmps51
  go_wp2
  go_quiet (fail)
  go_wp2
  go_ret
  exact ⟨ret_bool HB.out.symm, _, rfl⟩
 | false =>
  by_cases hlt : i < s.size
  ·have d1 : decide (s.size ≤ i) = false := by simpa using hlt
   have d2 : decide ((s.size : Int) ≤ (i : Int)) = false := by simp; omega
   have i1 : (i : Int) < (s.size : Int) := by omega
   have HE : Hid (b = (atB s i 124 || atB s i 41)) := Lib.hid (by rw [← hb]; unfold PR.ends; rw [decide_eq_false (by omega)]; rfl)
   have a1 := atB_in (c := 124) hlt
   have a2 := atB_in (c := 41) hlt
   clear hb
   cases q1 : atB s i 124
   ·cases q2 : atB s i 41
    ·have e1 : ((s[i].toNat : Int) == 124) = false := a1.trans q1
     have e2 : ((s[i].toNat : Int) == 41) = false := a2.trans q2
     have HB : Hid (b = false) := Lib.hid (by rw [HE.out, q1, q2]; rfl)
     clear a1 a2 q1 q2
     go_enter Tryd.func51, Tryd.ntmps51
     go_wp2
     go_quiet (fail)
     go_wp2
     go_ret
     exact ⟨ret_bool HB.out.symm, _, rfl⟩
    ·have e1 : ((s[i].toNat : Int) == 124) = false := a1.trans q1
     have e2 : ((s[i].toNat : Int) == 41) = true := a2.trans q2
     have HB : Hid (b = true) := Lib.hid (by rw [HE.out, q1, q2]; rfl)
     clear a1 a2 q1 q2
     go_enter Tryd.func51, Tryd.ntmps51
     go_wp2
     go_quiet (fail)
     go_wp2
     go_ret
     exact ⟨ret_bool HB.out.symm, _, rfl⟩
   ·have e1 : ((s[i].toNat : Int) == 124) = true := a1.trans q1
    have HB : Hid (b = true) := Lib.hid (by rw [HE.out, q1]; rfl)
    clear a1 a2 q1
    go_enter Tryd.func51, Tryd.ntmps51
    go_wp2
    go_quiet (fail)
    go_wp2
    go_ret
    exact ⟨ret_bool HB.out.symm, _, rfl⟩
  ·have d1 : decide (s.size ≤ i) = true := by simpa using hlt
   have d2 : decide ((s.size : Int) ≤ (i : Int)) = true := by simp; omega
   have HB : Hid (b = true) := Lib.hid (by rw [← hb]; unfold PR.ends; rw [decide_eq_true (by omega)]; rfl)
   clear hb
   go_enter Tryd.func51, Tryd.ntmps51
   go_wp2
   go_quiet (fail)
   go_wp2
   go_ret
   exact ⟨ret_bool HB.out.symm, _, rfl⟩
end Go.Proofs.YtcpaneaiobnhdaaDoor.kit
/-
 Contracts of the model's reader of expressions for texts over this seat's translation: spec.l04Count, l04Braces, l04One, l04Add. Conditions: the reader's cells are known.
-/
namespace Go.Proofs.YtcpaneaiobnhdaaDoor.kit
open Go.ChangeShapes Go.WideShapes Go.ChangeAt Go.RowKit
set_option linter.unusedVariables false

theorem Par.drewAll {w w' : World} {B : Nat} {s : ByteArray} {i : Nat} {bad : Bool} (c : Par w B s i bad) (h : ∃ n, w' = w.drewN n) : Par w' B s i bad := by obtain ⟨n, rfl⟩ := h; exact c.drewN n
set_option maxHeartbeats 1000000 in
theorem count_no (B : Nat) (s : ByteArray) (i : Nat) (bad : Bool) (w : World) (hs : s.size ≤ 1048576) (hr : Par w B s i bad) (hd : bad = true ∨ PR.digAt s i = none) :
  Calls Tryd.prog 78 #[.pointer (some ⟨B, 0, none⟩)] w fun e w' => e = .returned (.int .i64 0) ∧ Par w' B s i true ∧ OnlyB B w w' := by
 have HR := Lib.hid hr
 obtain ⟨h0, h1, h2, h3, h4, h5⟩ := hr
 have i0 : (0 : Int) ≤ (i : Int) := by omega
 have HP := Lib.hid (fun n => (HR.out.drewN n).setBad)
 have HO := Lib.hid (fun n => ((OnlyB.refl B w).drewN n).set 2 (.bool true))
 cases bad with
 | true =>
  clear hd
  go_enter Tryd.func78, Tryd.ntmps78
  go_wp2
  go_quiet (fail)
  go_wp2
  go_ret
  exact ⟨rfl, HP.out _, HO.out _⟩
 | false =>
  have hd : PR.digAt s i = none := by rcases hd with h | h; cases h; exact h
  by_cases hlt : i < s.size
  ·have d1 : decide (s.size ≤ i) = false := by simpa using hlt
   have d2 : decide ((s.size : Int) ≤ (i : Int)) = false := by simp; omega
   have i1 : (i : Int) < (s.size : Int) := by omega
   have hb : digB (s[i].toNat : Int) = false := by rw [← dig_of hlt, hd]; rfl
   have hb0 : (0 : Int) ≤ (s[i].toNat : Int) := by omega
   have hb1 : (s[i].toNat : Int) ≤ 255 := by have := s[i].toNat_lt; omega
   clear hd
   go_enter Tryd.func78, Tryd.ntmps78
   go_wp2
   go_quiet ((go_at_call 84; exact q_same (dig_any _ _ hb0 hb1)))
   go_wp2
   go_ret
   exact ⟨rfl, HP.out _, HO.out _⟩
  ·have d1 : decide (s.size ≤ i) = true := by simpa using hlt
   have d2 : decide ((s.size : Int) ≤ (i : Int)) = true := by simp; omega
   clear hd
   go_enter Tryd.func78, Tryd.ntmps78
   go_wp2
   go_quiet (fail)
   go_wp2
   go_ret
   exact ⟨rfl, HP.out _, HO.out _⟩
set_option maxHeartbeats 1000000 in
theorem count_yes (B : Nat) (s : ByteArray) (i : Nat) (x : Int) (w : World) (hs : s.size ≤ 1048576) (hr : Par w B s i false) (hd : PR.digAt s i = some x) :
  Calls Tryd.prog 78 #[.pointer (some ⟨B, 0, none⟩)] w fun e w' => e = .returned (.int .i64 x) ∧ Par w' B s (i + 1) false ∧ OnlyB B w w' := by
 have HR := Lib.hid hr
 obtain ⟨h0, h1, h2, h3, h4, h5⟩ := hr
 have i0 : (0 : Int) ≤ (i : Int) := by omega
 have hlt : i < s.size := PR.digAt_lt hd
 have d1 : decide (s.size ≤ i) = false := by simpa using hlt
 have d2 : decide ((s.size : Int) ≤ (i : Int)) = false := by simp; omega
 have i1 : (i : Int) < (s.size : Int) := by omega
 have hb : digB (s[i].toNat : Int) = true := by rw [← dig_of hlt, hd]; rfl
 have hb0 : (0 : Int) ≤ (s[i].toNat : Int) := by omega
 have hb1 : (s[i].toNat : Int) ≤ 255 := by have := s[i].toNat_lt; omega
 have HX : Hid ((s[i].toNat : Int) - 48 = x) := Lib.hid (by
  unfold PR.digAt at hd; split at hd
  ·injection hd with hd; rw [at_eq s i hlt]; exact hd
  ·cases hd)
 have hx0 : 48 ≤ (s[i].toNat : Int) := by
  unfold PR.digAt at hd; split at hd
  ·rename_i g; rw [at_eq s i hlt]; omega
  ·cases hd
 clear hd
 have HS := Lib.hid (fun n => (HR.out.drewN n).setI (i + 1))
 have HO := Lib.hid (fun n => ((OnlyB.refl B w).drewN n).set 1 (.int .i64 ((i + 1 : Nat) : Int)))
 rw [show ((i + 1 : Nat) : Int) = (i : Int) + 1 by omega] at HS HO
 go_enter Tryd.func78, Tryd.ntmps78
 go_wp2
 go_quiet ((go_at_call 84; exact q_same (dig_any _ _ hb0 hb1)))
 go_wp2
 have s1 : IntKind.i64.wrap ((i : Int) + 1 - 1) = (i : Int) := by rw [IntWalk.i64_in _ (by omega)]; omega
 have s2 : IntKind.i64.wrap ((s[i].toNat : Int) - 48) = (s[i].toNat : Int) - 48 := IntWalk.i64_in _ (by omega)
 go_quiet (fail)
 clear s1 s2
 go_wp2
 go_ret
 exact ⟨by rw [← HX.out]; rfl, (HS.out _).drewN _, (HO.out _).drewN _⟩
/-- What l04Braces answers. -/
def BrPost (B : Nat) (s : ByteArray) (i : Nat) (w : World) (e : Ending) (w' : World) : Prop :=
 OnlyB B w w' ∧ match PR.braces s i with
 | none => ∃ a b j, e = .returned (.tuple #[.int .i64 a, .int .i64 b]) ∧ j ≤ i + 6 ∧ Par w' B s j true
 | some x => e = .returned (.tuple #[.int .i64 x.1, .int .i64 x.2.1]) ∧ Par w' B s x.2.2 false
set_option maxRecDepth 100000 in
set_option maxHeartbeats 1500000 in
theorem braces_any (B : Nat) (s : ByteArray) (i : Nat) (w : World) (hs : s.size ≤ 4000) (hi : i ≤ 4000) (hr : Par w B s i false) :
  Calls Tryd.prog 68 #[.pointer (some ⟨B, 0, none⟩)] w (BrPost B s i w) := by
 have hs2 : s.size ≤ 1048576 := by omega
 have P := Lib.hid hr
 have O := Lib.hid (OnlyB.refl B w)
 clear hr
 cases hd : PR.digAt s i with
 | none =>
  have HD := Lib.hid hd
  clear hd
  go_enter Tryd.func68, Tryd.ntmps68
  go_wp2_with fail
  refine (count_no B s i false _ hs2 P.out (.inr HD.out)).mono ?_
  rintro e w1 ⟨rfl, p, o⟩
  have O := Lib.hid (O.out.trans o)
  have P := Lib.hid p
  clear o p
  go_wp2_with fail
  refine (pIs_any B s i true 44 44 rfl false _ hs2 P.out rfl).mono ?_
  rintro e w2 ⟨rfl, hn⟩
  have o := OnlyB.drewAll (B := B) hn
  have p := P.out.drewAll hn
  clear hn
  have O := Lib.hid (O.out.trans o)
  have P := Lib.hid p
  clear o p
  go_wp2_with fail
  refine (pIs_any B s i true 125 125 rfl false _ hs2 P.out rfl).mono ?_
  rintro e w3 ⟨rfl, hn⟩
  have o := OnlyB.drewAll (B := B) hn
  have p := P.out.drewAll hn
  clear hn
  have O := Lib.hid (O.out.trans o)
  have P := Lib.hid p
  clear o p
  have E : Hid (PR.braces s i = none) := Lib.hid (by unfold PR.braces; rw [HD.out])
  obtain ⟨h0, h1, h2, h3, h4, h5⟩ := P.out
  have O := Lib.hid (O.out.set 2 (.bool true))
  have P := Lib.hid P.out.setBad
  have O := Lib.hid (O.out.set 1 (.int .i64 ((i + 1 : Nat) : Int)))
  have P := Lib.hid (P.out.setI (i + 1))
  rw [show ((i + 1 : Nat) : Int) = ((i : Nat) : Int) + 1 by omega] at O P
  go_wp2_with fail
  go_ret2
  refine ⟨O.out, ?_⟩
  rw [E.out]
  exact ⟨_, _, i + 1, rfl, by omega, P.out⟩
 | some lo =>
  have HD := Lib.hid hd
  clear hd
  obtain ⟨p1, hp1⟩ : ∃ p, p = i + 1 := ⟨_, rfl⟩
  have hp1a : p1 ≤ i + 1 := by omega
  go_enter Tryd.func68, Tryd.ntmps68
  go_wp2_with fail
  refine (count_yes B s i lo _ hs2 P.out HD.out).mono ?_
  rintro e w4 ⟨rfl, p, o⟩
  have O := Lib.hid (O.out.trans o)
  have P := Lib.hid p
  clear o p
  rw [← hp1] at P
  cases hc : atB s p1 44
  case false =>
   have HC := Lib.hid hc
   have HP := Lib.hid hp1
   clear hc hp1
   go_wp2_with fail
   refine (pIs_any B s p1 false 44 44 rfl false _ hs2 P.out (by rw [HC.out]; rfl)).mono ?_
   rintro e w5 ⟨rfl, hn⟩
   have o := OnlyB.drewAll (B := B) hn
   have p := P.out.drewAll hn
   clear hn
   have O := Lib.hid (O.out.trans o)
   have P := Lib.hid p
   clear o p
   cases hq : atB s p1 125
   case false =>
    have HQ := Lib.hid hq
    clear hq
    go_wp2_with fail
    refine (pIs_any B s p1 false 125 125 rfl false _ hs2 P.out (by rw [HQ.out]; rfl)).mono ?_
    rintro e w6 ⟨rfl, hn⟩
    have o := OnlyB.drewAll (B := B) hn
    have p := P.out.drewAll hn
    clear hn
    have O := Lib.hid (O.out.trans o)
    have P := Lib.hid p
    clear o p
    have E : Hid (PR.braces s i = none) := Lib.hid (by unfold PR.braces; rw [HD.out]; simp only [← HP.out, HC.out, HQ.out, Bool.false_eq_true, if_false])
    obtain ⟨h0, h1, h2, h3, h4, h5⟩ := P.out
    have O := Lib.hid (O.out.set 2 (.bool true))
    have P := Lib.hid P.out.setBad
    have O := Lib.hid (O.out.set 1 (.int .i64 ((p1 + 1 : Nat) : Int)))
    have P := Lib.hid (P.out.setI (p1 + 1))
    rw [show ((p1 + 1 : Nat) : Int) = ((p1 : Nat) : Int) + 1 by omega] at O P
    go_wp2_with fail
    go_ret2
    refine ⟨O.out, ?_⟩
    rw [E.out]
    exact ⟨_, _, p1 + 1, rfl, by omega, P.out⟩
   case true =>
    have HQ := Lib.hid hq
    clear hq
    go_wp2_with fail
    refine (pIs_any B s p1 false 125 125 rfl true _ hs2 P.out (by rw [HQ.out]; rfl)).mono ?_
    rintro e w7 ⟨rfl, hn⟩
    have o := OnlyB.drewAll (B := B) hn
    have p := P.out.drewAll hn
    clear hn
    have O := Lib.hid (O.out.trans o)
    have P := Lib.hid p
    clear o p
    have E : Hid (PR.braces s i = some (lo, lo, p1 + 1)) := Lib.hid (by unfold PR.braces; rw [HD.out]; simp only [← HP.out, HC.out, HQ.out, Bool.false_eq_true, if_false, if_true]; rw [HP.out])
    obtain ⟨h0, h1, h2, h3, h4, h5⟩ := P.out
    have O := Lib.hid (O.out.set 1 (.int .i64 ((p1 + 1 : Nat) : Int)))
    have P := Lib.hid (P.out.setI (p1 + 1))
    rw [show ((p1 + 1 : Nat) : Int) = ((p1 : Nat) : Int) + 1 by omega] at O P
    go_wp2_with fail
    go_ret2
    refine ⟨O.out, ?_⟩
    rw [E.out]
    exact ⟨rfl, P.out⟩
  case true =>
   have HC := Lib.hid hc
   have HP := Lib.hid hp1
   clear hc hp1
   go_wp2_with fail
   refine (pIs_any B s p1 false 44 44 rfl true _ hs2 P.out (by rw [HC.out]; rfl)).mono ?_
   rintro e w8 ⟨rfl, hn⟩
   have o := OnlyB.drewAll (B := B) hn
   have p := P.out.drewAll hn
   clear hn
   have O := Lib.hid (O.out.trans o)
   have P := Lib.hid p
   clear o p
   obtain ⟨h0, h1, h2, h3, h4, h5⟩ := P.out
   have O := Lib.hid (O.out.set 1 (.int .i64 ((p1 + 1 : Nat) : Int)))
   have P := Lib.hid (P.out.setI (p1 + 1))
   rw [show ((p1 + 1 : Nat) : Int) = ((p1 : Nat) : Int) + 1 by omega] at O P
   obtain ⟨p2, hp2⟩ : ∃ p, p = p1 + 1 := ⟨_, rfl⟩
   have hp2a : p2 ≤ p1 + 1 := by omega
   have P2 : Hid (Par _ B s p2 false) := Lib.hid (by rw [hp2]; exact P.out)
   have HP2 : Hid (p2 = i + 2) := Lib.hid (by rw [hp2, HP.out])
   clear P hp2
   have P := P2
   clear P2
   skip
   cases hq : atB s p2 125
   case true =>
    have HN : Hid (PR.digAt s p2 = none) := Lib.hid (by
      have hl := PR.atB_lt hq
      unfold PR.digAt
      rw [if_neg]
      intro h
      have e : at_ s p2 = 125 := by unfold atB at hq; rw [dif_pos hl] at hq; rw [← at_eq s p2 hl]; simpa using hq
      rw [e] at h
      exact absurd h.2.2 (by decide))
    have HQ := Lib.hid hq
    clear hq
    go_wp2_with fail
    refine (pIs_any B s p2 false 125 125 rfl true _ hs2 P.out (by rw [HQ.out]; rfl)).mono ?_
    rintro e w9 ⟨rfl, hn⟩
    have o := OnlyB.drewAll (B := B) hn
    have p := P.out.drewAll hn
    clear hn
    have O := Lib.hid (O.out.trans o)
    have P := Lib.hid p
    clear o p
    go_wp2_with fail
    refine (pIs_any B s p2 false 125 125 rfl true _ hs2 P.out (by rw [HQ.out]; rfl)).mono ?_
    rintro e w10 ⟨rfl, hn⟩
    have o := OnlyB.drewAll (B := B) hn
    have p := P.out.drewAll hn
    clear hn
    have O := Lib.hid (O.out.trans o)
    have P := Lib.hid p
    clear o p
    have E : Hid (PR.braces s i = some (lo, (-1), p2 + 1)) := Lib.hid (by unfold PR.braces; rw [HD.out]; simp only [← HP.out, ← HP2.out, HC.out, HN.out, HQ.out, if_true]; rw [HP2.out])
    obtain ⟨h0, h1, h2, h3, h4, h5⟩ := P.out
    have O := Lib.hid (O.out.set 1 (.int .i64 ((p2 + 1 : Nat) : Int)))
    have P := Lib.hid (P.out.setI (p2 + 1))
    rw [show ((p2 + 1 : Nat) : Int) = ((p2 : Nat) : Int) + 1 by omega] at O P
    go_wp2_with fail
    go_ret2
    refine ⟨O.out, ?_⟩
    rw [E.out]
    exact ⟨rfl, P.out⟩
   case false =>
    have HQ := Lib.hid hq
    clear hq
    go_wp2_with fail
    refine (pIs_any B s p2 false 125 125 rfl false _ hs2 P.out (by rw [HQ.out]; rfl)).mono ?_
    rintro e w11 ⟨rfl, hn⟩
    have o := OnlyB.drewAll (B := B) hn
    have p := P.out.drewAll hn
    clear hn
    have O := Lib.hid (O.out.trans o)
    have P := Lib.hid p
    clear o p
    cases hd2 : PR.digAt s p2 with
    | none =>
     have HD2 := Lib.hid hd2
     clear hd2
     go_wp2_with fail
     refine (count_no B s p2 false _ hs2 P.out (.inr HD2.out)).mono ?_
     rintro e w12 ⟨rfl, p, o⟩
     have O := Lib.hid (O.out.trans o)
     have P := Lib.hid p
     clear o p
     go_wp2_with fail
     refine (pIs_any B s p2 true 125 125 rfl false _ hs2 P.out rfl).mono ?_
     rintro e w13 ⟨rfl, hn⟩
     have o := OnlyB.drewAll (B := B) hn
     have p := P.out.drewAll hn
     clear hn
     have O := Lib.hid (O.out.trans o)
     have P := Lib.hid p
     clear o p
     have E : Hid (PR.braces s i = none) := Lib.hid (by unfold PR.braces; rw [HD.out]; simp only [← HP.out, ← HP2.out, HC.out, HD2.out, HQ.out, Bool.false_eq_true, if_false, if_true])
     obtain ⟨h0, h1, h2, h3, h4, h5⟩ := P.out
     have O := Lib.hid (O.out.set 2 (.bool true))
     have P := Lib.hid P.out.setBad
     have O := Lib.hid (O.out.set 1 (.int .i64 ((p2 + 1 : Nat) : Int)))
     have P := Lib.hid (P.out.setI (p2 + 1))
     rw [show ((p2 + 1 : Nat) : Int) = ((p2 : Nat) : Int) + 1 by omega] at O P
     go_wp2_with fail
     go_ret2
     refine ⟨O.out, ?_⟩
     rw [E.out]
     exact ⟨_, _, p2 + 1, rfl, by omega, P.out⟩
    | some hi =>
     have HD2 := Lib.hid hd2
     clear hd2
     obtain ⟨p3, hp3⟩ : ∃ p, p = p2 + 1 := ⟨_, rfl⟩
     have hp3a : p3 ≤ p2 + 1 := by omega
     go_wp2_with fail
     refine (count_yes B s p2 hi _ hs2 P.out HD2.out).mono ?_
     rintro e w14 ⟨rfl, p, o⟩
     have O := Lib.hid (O.out.trans o)
     have P := Lib.hid p
     clear o p
     rw [← hp3] at P
     have HP3 : Hid (p3 = i + 3) := Lib.hid (by rw [hp3, HP2.out])
     clear hp3
     cases hz : atB s p3 125
     case false =>
      have HZ := Lib.hid hz
      clear hz
      go_wp2_with fail
      refine (pIs_any B s p3 false 125 125 rfl false _ hs2 P.out (by rw [HZ.out]; rfl)).mono ?_
      rintro e w15 ⟨rfl, hn⟩
      have o := OnlyB.drewAll (B := B) hn
      have p := P.out.drewAll hn
      clear hn
      have O := Lib.hid (O.out.trans o)
      have P := Lib.hid p
      clear o p
      have E : Hid (PR.braces s i = none) := Lib.hid (by unfold PR.braces; rw [HD.out]; simp only [← HP.out, ← HP2.out, ← HP3.out, HC.out, HD2.out, HZ.out, Bool.false_eq_true, if_false, if_true])
      obtain ⟨h0, h1, h2, h3, h4, h5⟩ := P.out
      have O := Lib.hid (O.out.set 2 (.bool true))
      have P := Lib.hid P.out.setBad
      have O := Lib.hid (O.out.set 1 (.int .i64 ((p3 + 1 : Nat) : Int)))
      have P := Lib.hid (P.out.setI (p3 + 1))
      rw [show ((p3 + 1 : Nat) : Int) = ((p3 : Nat) : Int) + 1 by omega] at O P
      go_wp2_with fail
      go_ret2
      refine ⟨O.out, ?_⟩
      rw [E.out]
      exact ⟨_, _, p3 + 1, rfl, by omega, P.out⟩
     case true =>
      have HZ := Lib.hid hz
      clear hz
      go_wp2_with fail
      refine (pIs_any B s p3 false 125 125 rfl true _ hs2 P.out (by rw [HZ.out]; rfl)).mono ?_
      rintro e w16 ⟨rfl, hn⟩
      have o := OnlyB.drewAll (B := B) hn
      have p := P.out.drewAll hn
      clear hn
      have O := Lib.hid (O.out.trans o)
      have P := Lib.hid p
      clear o p
      have E : Hid (PR.braces s i = some (lo, hi, p3 + 1)) := Lib.hid (by unfold PR.braces; rw [HD.out]; simp only [← HP.out, ← HP2.out, ← HP3.out, HC.out, HD2.out, HZ.out, if_true]; rw [HP3.out])
      obtain ⟨h0, h1, h2, h3, h4, h5⟩ := P.out
      have O := Lib.hid (O.out.set 1 (.int .i64 ((p3 + 1 : Nat) : Int)))
      have P := Lib.hid (P.out.setI (p3 + 1))
      rw [show ((p3 + 1 : Nat) : Int) = ((p3 : Nat) : Int) + 1 by omega] at O P
      go_wp2_with fail
      go_ret2
      refine ⟨O.out, ?_⟩
      rw [E.out]
      exact ⟨rfl, P.out⟩
end Go.Proofs.YtcpaneaiobnhdaaDoor.kit
