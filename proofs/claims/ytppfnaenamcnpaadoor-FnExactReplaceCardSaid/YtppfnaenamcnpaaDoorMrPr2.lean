/-
  How the trees that a reader makes lie in memory: each list of kids in a block of its own, none twice (KF); a row of trees that a call owns (OwnR), append to it. Conditions: each theorem names its own.
-/
import Derived.Test.YtppfnaenamcnpaaDoorMrPr0
import Derived.Test.YtppfnaenamcnpaaDoorMrCur
import Derived.Test.YtppfnaenamcnpaaDoorMrRe1
import Derived.Test.YtppfnaenamcnpaaDoorMrKit
set_option linter.unusedVariables false
namespace Go.Proofs.YtppfnaenamcnpaaDoor.kit
open Go.ChangeShapes Go.WideShapes Go.ChangeAt Go.RowKit
theorem add_atR (b o k : Nat) : (⟨b, o, none⟩ : Addr).add k = ⟨b, o + k, none⟩ := by unfold Addr.add; split <;> simp_all
structure RV where
 t : RT
 a : Option Addr
 c : Nat
 F : List Nat
def RV.cells (r : RV) : List Value := [.int .i64 r.t.kind, .string r.t.set, .bool r.t.neg, .int .i64 r.t.low, .int .i64 r.t.high, .slice r.a r.t.kids.length r.c]
def rvVals (rs : List RV) : List Value := rs.flatMap RV.cells
instance : Inhabited RV := ⟨⟨PR.leaf 0, none, 0, []⟩⟩
def Nice (t : RT) : Prop := t.set.size ≤ 1048576 ∧ t.kids.length ≤ 1048576
def apartF (r r' : RV) : Prop := ∀ x ∈ r.F, x ∉ r'.F
def OwnR (B : Nat) (w : World) (v : Value) (rs : List RV) : Prop := w.ownsRow B 26 6 v rs.length (rvVals rs)
theorem OwnR.alloc {B : Nat} {w : World} {v : Value} {rs : List RV} (h : OwnR B w v rs) (o : Obj) : OwnR B (w.alloc o) v rs := World.ownsRow.alloc h o
theorem OwnR.drew {B : Nat} {w : World} {v : Value} {rs : List RV} (h : OwnR B w v rs) : OwnR B w.drew v rs := World.ownsRow.drew h
theorem run_append_at {P : Program} (w : World) (base : Nat) (t ty e : TypeId) (i : TypeInfo) (z : Value) (size bytes : Nat) (ht : P.underlying t = some (.slice e)) (hi : P.info? e = some i) (hz : i.zero = some z)
 (hsize : i.size = size) (hby : i.bytes = bytes) (hzs : z.cells.size = size) (hsz : 0 < size) (v : Value) (n : Nat) (xs : List Value) (hown : w.ownsRow base e size v n xs)
 (a : Addr) (c : Nat) (news : List Value) (hl : news.length = 1 * size) (hnews : ∀ j u, news[j]? = some u → w.cell? (a.add j) = some u) (h1 : ∀ u ∈ news, u.oneCell' = true)
 (h63 : n + 1 ≤ maxLen) (hbytes : (n + 1) * bytes ≤ 140737488355328) (hbase : base ≤ w.heap.size) :
 ∃ v' w', (Builtin.append_ #[t, t] ty #[v, .slice (some a) 1 c]).run P w = .ok v' w' ∧ w'.ownsRow base e size v' (n + 1) (xs ++ news) ∧ w.grownBy w' v.ownBlock ∧
   (∀ k, v'.ownBlock = some k → v.ownBlock = some k ∨ w.heap.size ≤ k) := by
 obtain ⟨v', w', hr, h2, h3, _⟩ := run_append_own (P := P) w base t ty e i z size bytes ht hi hz hsize hby hzs hsz v n xs hown a 1 c news hl hnews h1 h63 hbytes hbase
 refine ⟨v', w', hr, h2, h3, ?_⟩
 subst hsize hby
 rcases hown.2 with ⟨rfl, rfl⟩ | ⟨g, cap, cur, rfl, hbg, hg, hnc, hcm, hcs, htake⟩
 · have hr2 := run_append_nil (P := P) w t ty e i z ht hi hz a 1 c news hl hnews (by omega) (by omega) (by omega)
   rw [hr] at hr2; injection hr2 with q1 q2; subst q1
   intro k hk; simp only [Value.ownBlock] at hk; right; injection hk with hk; omega
 · by_cases hroom : n + 1 ≤ cap
   · have hfit : n * i.size + news.length ≤ cur.size := by rw [hl, hcs, ← Nat.add_mul]; exact Nat.mul_le_mul_right _ hroom
     have hr2 := run_append_room (P := P) w t ty e i ht hi g n cap cur hg a 1 c news hl hnews h1 hroom hfit
     rw [hr] at hr2; injection hr2 with q1 q2; subst q1
     intro k hk; exact .inl hk
   · have holds : ∀ j u, xs[j]? = some u → w.cell? ((⟨g, 0, none⟩ : Addr).add j) = some u := World.ownsRow.cells hown (g := g) rfl
     have hr2 := run_append_grow (P := P) w t ty e i z ht hi hz ⟨g, 0, none⟩ n cap xs hown.1 holds a 1 c news hl hnews (by omega) (by simp only [maxLen] at h63; omega) (growslice_fits (by omega) hbytes)
     rw [hr] at hr2; injection hr2 with q1 q2; subst q1
     intro k hk; simp only [Value.ownBlock] at hk; right; injection hk with hk; omega
end Go.Proofs.YtppfnaenamcnpaaDoor.kit
