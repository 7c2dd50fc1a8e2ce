/-
  How the trees that a reader makes lie in memory: each list of kids in a block of its own, none twice (KF); a row of trees that a call owns (OwnR), append to it. Conditions: each theorem names its own.
-/
import Derived.Test.YtcimhpdpfckgiaaGreatDoorMxPr0
import Derived.Test.YtcimhpdpfckgiaaGreatDoorMxCur
import Derived.Test.YtcimhpdpfckgiaaGreatDoorMxRe1
import Derived.Test.YtcimhpdpfckgiaaGreatDoorMxKit
import Derived.Test.YtcimhpdpfckgiaaGreatDoorMxInfo
set_option linter.unusedVariables false
open Go.ChangeShapes Go.WideShapes Go.ChangeAt Go.RowKit
namespace Go.Proofs.YtcimhpdpfckgiaaGreatDoor.kit
theorem add_atR (b o k : Nat) : (⟨b, o, none⟩ : Addr).add k = ⟨b, o + k, none⟩ := by unfold Addr.add; split <;> simp_all
structure RV where
 t : RT
 a : Option Addr
 c : Nat
 F : List Nat
def RV.cells (r : RV) : List Value := [.int .i64 r.t.kind, .string r.t.set, .bool r.t.neg, .int .i64 r.t.low, .int .i64 r.t.high, .slice r.a r.t.kids.length r.c]
def rvVals (rs : List RV) : List Value := rs.flatMap RV.cells
instance : Inhabited RV := ⟨⟨PR.leaf 0, none, 0, []⟩⟩
theorem rvVals_at (rs : List RV) (j d : Nat) (hj : j < rs.length) (hd : d < 6) : (rvVals rs)[j * 6 + d]? = (rs.getD j default).cells[d]? := by
 induction rs generalizing j with
 | nil => simp at hj
 | cons t ts ih =>
   have hc : t.cells.length = 6 := rfl
   show (t.cells ++ rvVals ts)[j * 6 + d]? = _
   cases j with
   | zero => rw [List.getElem?_append_left (by omega)]; simp
   | succ j =>
     rw [List.getElem?_append_right (by omega), hc, show (j + 1) * 6 + d - 6 = j * 6 + d by omega, ih j (by simpa using hj)]
     simp
def Nice (t : RT) : Prop := t.set.size ≤ 1048576 ∧ t.kids.length ≤ 1048576
def apartF (r r' : RV) : Prop := ∀ x ∈ r.F, x ∉ r'.F
inductive KF (w : World) : List RT → Option Addr → List Nat → Prop
 | nil (a : Option Addr) : KF w [] a []
 | mk (b : Nat) (rs : List RV) (cs : Array Value) (e : TypeId) (hb : w.heap[b]? = some (.cells cs e (0, 0))) (hc : cs.toList = rvVals rs) (hn : ∀ r ∈ rs, Nice r.t) (hk : ∀ r ∈ rs, KF w r.t.kids r.a r.F) (hf : ∀ r ∈ rs, b ∉ r.F) (hp : rs.Pairwise apartF) :
    KF w (rs.map RV.t) (some ⟨b, 0, none⟩) (b :: rs.flatMap RV.F)
theorem KF.of {w w' : World} {ts : List RT} {a : Option Addr} {F : List Nat} (h : KF w ts a F) (hh : ∀ b ∈ F, w'.heap[b]? = w.heap[b]?) : KF w' ts a F := by
 induction h with
 | nil a => exact .nil a
 | mk b rs cs e hb hc hn hk hf hp ih =>
   refine .mk b rs cs e ((hh b List.mem_cons_self).trans hb) hc hn (fun r hr => ih r hr fun x hx => hh x (List.mem_cons_of_mem _ (List.mem_flatMap.2 ⟨r, hr, hx⟩))) hf hp
theorem KF.lt {w : World} {ts : List RT} {a : Option Addr} {F : List Nat} (h : KF w ts a F) : ∀ x ∈ F, x < w.heap.size := by
 induction h with
 | nil a => intro x hx; cases hx
 | mk b rs cs e hb hc hn hk hf hp ih =>
   intro x hx
   rcases List.mem_cons.1 hx with rfl | hx
   · exact (Array.getElem?_eq_some_iff.1 hb).1
   · obtain ⟨r, hr, hx⟩ := List.mem_flatMap.1 hx
     exact ih r hr x hx
theorem KF.kept {w w' : World} {ts : List RT} {a : Option Addr} {F : List Nat} (h : KF w ts a F) (hb : Below w.heap.size w w') : KF w' ts a F := h.of fun b hx => hb.block b (h.lt b hx)
theorem KF.only {w w' : World} {ts : List RT} {a : Option Addr} {F : List Nat} {B : Nat} (h : KF w ts a F) (hb : OnlyB B w w') (hB : B ∉ F) : KF w' ts a F :=
 h.of fun b hx => hb.block b (h.lt b hx) (fun e => hB (by cases e; exact hx))
theorem KF.kids {w : World} {ts : List RT} {a : Option Addr} {F : List Nat} (h : KF w ts a F) {B : Nat} (hB : ∀ x ∈ F, B ≤ x) : Kids B w ts a := by
 induction h with
 | nil a => exact Kids.nil B w a
 | mk b rs cs e hb hc hn hk hf hp ih =>
   have hlt : b < w.heap.size := (Array.getElem?_eq_some_iff.1 hb).1
   have cell : ∀ j, w.cell? ⟨b, j, none⟩ = (rvVals rs)[j]? := fun j => by
    rw [cell_of_row w b j cs e (0, 0) hb, ← hc, Array.getElem?_toList]
   have hg : ∀ i (hi : i < (rs.map RV.t).length), rs.getD i default ∈ rs := fun i hi => by
    rw [List.length_map] at hi
    rw [List.getD_eq_getElem?_getD, List.getElem?_eq_getElem hi]; exact List.getElem_mem hi
   have ht : ∀ i (hi : i < (rs.map RV.t).length), (rs.map RV.t)[i] = (rs.getD i default).t := fun i hi => by
    rw [List.length_map] at hi
    rw [List.getElem_map, List.getD_eq_getElem?_getD, List.getElem?_eq_getElem hi]; rfl
   refine .mk _ _ (fun i => (rs.getD i default).a) (fun i => (rs.getD i default).c) (fun i hi => ?_) (fun i hi => ?_)
   · have hi' : i < rs.length := by simpa using hi
     have c : ∀ d, d < 6 → w.cell? ⟨b, 0 + i * 6 + d, none⟩ = (rs.getD i default).cells[d]? := fun d hd => by
        rw [cell, Nat.zero_add, rvVals_at rs i d hi' hd]
     have n := hn _ (hg i hi)
     rw [ht i hi]
     exact ⟨b, 0, rfl, hB b List.mem_cons_self, hlt, c 0 (by omega), c 1 (by omega), c 2 (by omega), c 3 (by omega), c 4 (by omega), c 5 (by omega), by have := n.1; simp only [maxLen]; omega, by have := n.2; simp only [maxLen]; omega⟩
   · rw [ht i hi]
     exact ih _ (hg i hi) fun x hx => hB x (List.mem_cons_of_mem _ (List.mem_flatMap.2 ⟨_, hg i hi, hx⟩))
def OwnR (B : Nat) (w : World) (v : Value) (rs : List RV) : Prop := w.ownsRow B 26 6 v rs.length (rvVals rs)
theorem OwnR.alloc {B : Nat} {w : World} {v : Value} {rs : List RV} (h : OwnR B w v rs) (o : Obj) : OwnR B (w.alloc o) v rs := World.ownsRow.alloc h o
theorem OwnR.drew {B : Nat} {w : World} {v : Value} {rs : List RV} (h : OwnR B w v rs) : OwnR B w.drew v rs := World.ownsRow.drew h
theorem run_append_at {P : Program} (w : World) (base : Nat) (t ty e : TypeId) (i : TypeInfo) (z : Value) (size bytes : Nat) (ht : P.underlying t = some (.slice e)) (hi : P.info? e = some i) (hz : i.zero = some z)
 (hsize : i.size = size) (hby : i.bytes = bytes) (hzs : z.cells.size = size) (hsz : 0 < size) (v : Value) (n : Nat) (xs : List Value) (hown : w.ownsRow base e size v n xs)
 (a : Addr) (c : Nat) (news : List Value) (hl : news.length = 1 * size) (hnews : ∀ j u, news[j]? = some u → w.cell? (a.add j) = some u) (h1 : ∀ u ∈ news, u.oneCell' = true)
 (h63 : n + 1 ≤ maxLen) (hbytes : (n + 1) * bytes ≤ 140737488355328) (hbase : base ≤ w.heap.size) :
 ∃ v' w', (Builtin.append_ #[t, t] ty #[v, .slice (some a) 1 c]).run P w = .ok v' w' ∧ w'.ownsRow base e size v' (n + 1) (xs ++ news) ∧ w.grownBy w' v.ownBlock ∧
   (∀ k, v'.ownBlock = some k → v.ownBlock = some k ∨ w.heap.size ≤ k) := by
 obtain ⟨v', w', hr, h2, h3, _⟩ := run_append_own (P := P) w base t ty e i z size bytes ht hi hz hsize hby hzs hsz v n xs hown a 1 c news hl hnews h1 h63 hbytes hbase
 refine ⟨v', w', hr, h2, h3, ?_⟩
 subst hsize hby
 rcases hown.2 with ⟨rfl, rfl⟩ | ⟨g, cap, cur, rfl, hbg, hg, hnc, hcm, hcs, htake⟩
 · have hr2 := run_append_nil (P := P) w t ty e i z ht hi hz a 1 c news hl hnews (by omega) (by omega) (by omega)
   rw [hr] at hr2; injection hr2 with q1 q2; subst q1
   intro k hk; simp only [Value.ownBlock] at hk; right; injection hk with hk; omega
 · by_cases hroom : n + 1 ≤ cap
   · have hfit : n * i.size + news.length ≤ cur.size := by rw [hl, hcs, ← Nat.add_mul]; exact Nat.mul_le_mul_right _ hroom
     have hr2 := run_append_room (P := P) w t ty e i ht hi g n cap cur hg a 1 c news hl hnews h1 hroom hfit
     rw [hr] at hr2; injection hr2 with q1 q2; subst q1
     intro k hk; exact .inl hk
   · have holds : ∀ j u, xs[j]? = some u → w.cell? ((⟨g, 0, none⟩ : Addr).add j) = some u := World.ownsRow.cells hown (g := g) rfl
     have hr2 := run_append_grow (P := P) w t ty e i z ht hi hz ⟨g, 0, none⟩ n cap xs hown.1 holds a 1 c news hl hnews (by omega) (by simp only [maxLen] at h63; omega) (growslice_fits (by omega) hbytes)
     rw [hr] at hr2; injection hr2 with q1 q2; subst q1
     intro k hk; simp only [Value.ownBlock] at hk; right; injection hk with hk; omega
theorem KF.one {w : World} {b : Nat} {r : RV} {cs : Array Value} {e : TypeId} (hb : w.heap[b]? = some (.cells cs e (0, 0))) (hc : cs.toList = r.cells) (hn : Nice r.t) (hk : KF w r.t.kids r.a r.F) (hf : b ∉ r.F) :
 KF w [r.t] (some ⟨b, 0, none⟩) (b :: r.F) := by
 have h := KF.mk (w := w) b [r] cs e hb (by simpa [rvVals] using hc) (by simpa using hn) (by simpa using hk) (by simpa using hf) (List.pairwise_singleton _ _)
 simpa using h
theorem KF.two {w : World} {b : Nat} {r s : RV} {cs : Array Value} {e : TypeId} (hb : w.heap[b]? = some (.cells cs e (0, 0))) (hc : cs.toList = r.cells ++ s.cells) (hn : Nice r.t) (hn' : Nice s.t) (hk : KF w r.t.kids r.a r.F) (hk' : KF w s.t.kids s.a s.F)
 (hf : b ∉ r.F) (hf' : b ∉ s.F) (hp : apartF r s) : KF w [r.t, s.t] (some ⟨b, 0, none⟩) (b :: (r.F ++ s.F)) := by
 have h := KF.mk (w := w) b [r, s] cs e hb (by simpa [rvVals] using hc) (by simpa using ⟨hn, hn'⟩) (by simpa using ⟨hk, hk'⟩) (by simpa using ⟨hf, hf'⟩) (by simpa using hp)
 simpa using h
def Six (w : World) (g : Nat) (t : RT) (a : Option Addr) (c : Nat) : Prop := w.heap[g]? = some (.cells #[.int .i64 t.kind, .string t.set, .bool t.neg, .int .i64 t.low, .int .i64 t.high, .slice a t.kids.length c] 26 (0, 0))
theorem Six.cells {w : World} {g : Nat} {t : RT} {a : Option Addr} {c : Nat} (h : Six w g t a c) : w.cell? ⟨g, 0, none⟩ = some (.int .i64 t.kind) ∧ w.cell? ⟨g, 1, none⟩ = some (.string t.set) ∧ w.cell? ⟨g, 2, none⟩ = some (.bool t.neg) ∧ w.cell? ⟨g, 3, none⟩ = some (.int .i64 t.low) ∧
 w.cell? ⟨g, 4, none⟩ = some (.int .i64 t.high) ∧ w.cell? ⟨g, 5, none⟩ = some (.slice a t.kids.length c) ∧ (∀ j, w.frozen? ⟨g, j, none⟩ = false) := by
 unfold Six at h
 refine ⟨?_, ?_, ?_, ?_, ?_, ?_, fun j => ?_⟩
 · rw [cell_of_row w g 0 _ _ (0, 0) h]; rfl
 · rw [cell_of_row w g 1 _ _ (0, 0) h]; rfl
 · rw [cell_of_row w g 2 _ _ (0, 0) h]; rfl
 · rw [cell_of_row w g 3 _ _ (0, 0) h]; rfl
 · rw [cell_of_row w g 4 _ _ (0, 0) h]; rfl
 · rw [cell_of_row w g 5 _ _ (0, 0) h]; rfl
 · simp [World.frozen?, h]
def put6 (w : World) (g : Nat) (v0 v1 v2 v3 v4 v5 : Value) : World := (((((w.setCell ⟨g, 0, none⟩ v0).setCell ⟨g, 1, none⟩ v1).setCell ⟨g, 2, none⟩ v2).setCell ⟨g, 3, none⟩ v3).setCell ⟨g, 4, none⟩ v4).setCell ⟨g, 5, none⟩ v5
theorem put6_at {w : World} {g : Nat} {x0 x1 x2 x3 x4 x5 : Value} {e : TypeId} {f : Nat × Nat} (h : w.heap[g]? = some (.cells #[x0, x1, x2, x3, x4, x5] e f)) (v0 v1 v2 v3 v4 v5 : Value) :
 (put6 w g v0 v1 v2 v3 v4 v5).heap[g]? = some (.cells #[v0, v1, v2, v3, v4, v5] e f) := by
 simp [put6, World.setCell, Array.getElem?_modify, h]
theorem put6_off (w : World) (g k : Nat) (v0 v1 v2 v3 v4 v5 : Value) (h : k ≠ g) : (put6 w g v0 v1 v2 v3 v4 v5).heap[k]? = w.heap[k]? := by
 unfold put6
 rw [Below.heap_setCell _ ⟨g, 5, none⟩ _ k h, Below.heap_setCell _ ⟨g, 4, none⟩ _ k h, Below.heap_setCell _ ⟨g, 3, none⟩ _ k h, Below.heap_setCell _ ⟨g, 2, none⟩ _ k h, Below.heap_setCell _ ⟨g, 1, none⟩ _ k h, Below.heap_setCell _ ⟨g, 0, none⟩ _ k h]
theorem put6_size (w : World) (g : Nat) (v0 v1 v2 v3 v4 v5 : Value) : (put6 w g v0 v1 v2 v3 v4 v5).heap.size = w.heap.size := by simp [put6]
theorem put6_below {B : Nat} {w w' : World} (h : Below B w w') (g : Nat) (v0 v1 v2 v3 v4 v5 : Value) (hg : B ≤ g) : Below B w (put6 w' g v0 v1 v2 v3 v4 v5) :=
 (((((h.setCell (p := ⟨g, 0, none⟩) hg _).setCell (p := ⟨g, 1, none⟩) hg _).setCell (p := ⟨g, 2, none⟩) hg _).setCell (p := ⟨g, 3, none⟩) hg _).setCell (p := ⟨g, 4, none⟩) hg _).setCell (p := ⟨g, 5, none⟩) hg _
theorem OnlyB.of_below {B : Nat} {w w' : World} (h : Below w.heap.size w w') : OnlyB B w w' := ⟨h.os, h.tape, h.output, h.size, fun k hk _ => h.block k hk⟩
structure Lk (p : Prop) : Prop where
 out : p
theorem Six.only {w w' : World} {g : Nat} {t : RT} {a : Option Addr} {c : Nat} {B : Nat} (h : Six w g t a c) (hb : OnlyB B w w') (hne : g ≠ B) : Six w' g t a c :=
 (hb.block g (Array.getElem?_eq_some_iff.1 h).1 (fun e => hne (by injection e))).trans h
theorem Six.kept {w w' : World} {g : Nat} {t : RT} {a : Option Addr} {c : Nat} (h : Six w g t a c) (hb : Below w.heap.size w w') : Six w' g t a c := (hb.block g (Array.getElem?_eq_some_iff.1 h).1).trans h
theorem Six.put {w : World} {g : Nat} {t : RT} {a : Option Addr} {c : Nat} (h : Six w g t a c) (T : RT) (a' : Option Addr) (c' : Nat) : Six (put6 w g (.int .i64 T.kind) (.string T.set) (.bool T.neg) (.int .i64 T.low) (.int .i64 T.high) (.slice a' T.kids.length c')) g T a' c' := put6_at h _ _ _ _ _ _
theorem setc_os (w : World) (a : Addr) (v : Value) : (w.setCell a v).os = w.os := rfl
theorem setc_tape (w : World) (a : Addr) (v : Value) : (w.setCell a v).tape = w.tape := rfl
theorem setc_out (w : World) (a : Addr) (v : Value) : (w.setCell a v).output = w.output := rfl
theorem put6_os (w : World) (g : Nat) (v0 v1 v2 v3 v4 v5 : Value) : (put6 w g v0 v1 v2 v3 v4 v5).os = w.os ∧ (put6 w g v0 v1 v2 v3 v4 v5).tape = w.tape ∧ (put6 w g v0 v1 v2 v3 v4 v5).output = w.output := by
 unfold put6; simp only [setc_os, setc_tape, setc_out]; exact ⟨trivial, trivial, trivial⟩
theorem put6_only {B : Nat} {w w' : World} (h : OnlyB B w w') (g : Nat) (v0 v1 v2 v3 v4 v5 : Value) (hg : w.heap.size ≤ g) : OnlyB B w (put6 w' g v0 v1 v2 v3 v4 v5) := by
 obtain ⟨e1, e2, e3⟩ := put6_os w' g v0 v1 v2 v3 v4 v5
 exact ⟨e1.trans h.os, e2.trans h.tape, e3.trans h.output, by rw [put6_size]; exact h.size, fun k hk hn => (put6_off w' g k _ _ _ _ _ _ (by omega)).trans (h.block k hk hn)⟩
theorem Six.lt {w : World} {g : Nat} {t : RT} {a : Option Addr} {c : Nat} (h : Six w g t a c) : g < w.heap.size := (Array.getElem?_eq_some_iff.1 h).1
theorem KF.put {w : World} {ts : List RT} {a : Option Addr} {F : List Nat} (h : KF w ts a F) (g : Nat) (hg : g ∉ F) (v0 v1 v2 v3 v4 v5 : Value) : KF (put6 w g v0 v1 v2 v3 v4 v5) ts a F :=
 h.of fun b hb => put6_off w g b _ _ _ _ _ _ (fun e => hg (e ▸ hb))
structure Par (w : World) (B : Nat) (s : ByteArray) (i : Nat) (bad : Bool) : Prop where
 lt : B < w.heap.size
 c0 : w.cell? ⟨B, 0, none⟩ = some (.string s)
 c1 : w.cell? ⟨B, 1, none⟩ = some (.int .i64 (i : Int))
 c2 : w.cell? ⟨B, 2, none⟩ = some (.bool bad)
 f1 : w.frozen? ⟨B, 1, none⟩ = false
 f2 : w.frozen? ⟨B, 2, none⟩ = false
theorem Par.drewN {w : World} {B : Nat} {s : ByteArray} {i : Nat} {bad : Bool} (c : Par w B s i bad) (k : Nat) : Par (w.drewN k) B s i bad := ⟨c.lt, c.c0, c.c1, c.c2, c.f1, c.f2⟩
theorem Par.setI {w : World} {B : Nat} {s : ByteArray} {i : Nat} {bad : Bool} (c : Par w B s i bad) (j : Nat) : Par (w.setCell ⟨B, 1, none⟩ (.int .i64 (j : Int))) B s j bad := by
 refine ⟨by simpa using c.lt, ?_, ?_, ?_, ?_, ?_⟩
 · exact (World.cell?_setCell_other w _ _ _ (by intro x; cases x)).trans c.c0
 · exact World.cell?_setCell_same w _ _ c.c1
 · exact (World.cell?_setCell_other w _ _ _ (by intro x; cases x)).trans c.c2
 · exact (World.frozen?_setCell ..).trans c.f1
 · exact (World.frozen?_setCell ..).trans c.f2
theorem Par.kept {w w' : World} {B : Nat} {s : ByteArray} {i : Nat} {bad : Bool} (c : Par w B s i bad) (h : Below w.heap.size w w') : Par w' B s i bad :=
 ⟨Nat.lt_of_lt_of_le c.lt h.size, (h.cell (p := ⟨B, 0, none⟩) c.lt).trans c.c0, (h.cell (p := ⟨B, 1, none⟩) c.lt).trans c.c1, (h.cell (p := ⟨B, 2, none⟩) c.lt).trans c.c2, (h.frozen (p := ⟨B, 1, none⟩) c.lt).trans c.f1, (h.frozen (p := ⟨B, 2, none⟩) c.lt).trans c.f2⟩
end Go.Proofs.YtcimhpdpfckgiaaGreatDoor.kit
