/-
  What holds within a round of impl.sameNode, carried on: a kid that has none, a pair that is known, a pair that is put in. Conditions: each theorem names its own.
-/
import Derived.Test.YtghmkfehohgmgaaNm5
namespace Go.Proofs.Ytghmkfehohgmgaa.kit
open Go.ChangeShapes Go.WideShapes Go.ChangeAt Go.RowKit
set_option linter.unusedVariables false

theorem grown_none {w w' : World} (hb : Below w.heap.size w w') : w.grownBy w' none := ⟨hb.os, hb.tape, hb.output, hb.size, fun k hk _ => hb.block k hk⟩
theorem Clear.lt {w : World} {b : Nat} (h : Clear w b) : b < w.heap.size := by
  obtain ⟨⟨c, e, f, h1⟩, _⟩ := h
  exact (Array.getElem?_eq_some_iff.1 h1).1
theorem KyOk.far {w w' : World} {k : Addr × Addr × Int} (h : KyOk w k) (hb : Below w.heap.size w w') : KyOk w' k :=
  ⟨h.1.of (hb.block _ h.1.lt), h.2.of (hb.block _ h.2.lt)⟩
theorem Inn.kept {t u : NT} {B : Nat} {w1 : World} {g M q : Nat} {d : PD} {i : Nat} {w W : World} {v : Value} {n : Nat} (h : Inn t u B w1 g M q d i w v n) (hb : Below w.heap.size w W) : Inn t u B w1 g M q d i W v n := by
  obtain ⟨⟨ds, K, L, e1, e2, e3, e4, e5, e6, e7, e8⟩, own, ⟨b0, b1⟩, lt, bel⟩ := h
  exact ⟨⟨ds, K, L, e1, e2, e3.kept hb, e4, e5.kept (grown_none hb) (by simp), e6, e7, e8⟩, own, ⟨(hb.cell (p := ⟨q, 0, none⟩) lt).trans b0, (hb.cell (p := ⟨q, 1, none⟩) lt).trans b1⟩, Nat.lt_of_lt_of_le lt hb.size, bel.trans (hb.mono bel.size)⟩
theorem Inn.leaf {t u : NT} {B : Nat} {w1 : World} {g M q : Nat} {d : PD} {i : Nat} {w : World} {v : Value} {n : Nat} (h : Inn t u B w1 g M q d i w v n) (h1 : i < d.1.1.length) (h2 : i < d.1.2.length) (ht : NT.top d.1.1[i] d.1.2[i] = true) (hk : d.1.1[i].kids = []) : Inn t u B w1 g M q d (i + 1) w v n := by
  obtain ⟨⟨ds, K, L, e1, e2, e3, e4, e5, e6, e7, e8⟩, own, box, lt, bel⟩ := h
  exact ⟨⟨ds, K, L, e1, e2, e3, e4, e5, e6, e7, e8.step h1 h2 ht (.inl hk)⟩, own, box, lt, bel⟩
theorem Inn.len {t u : NT} {B : Nat} {w1 : World} {g M q : Nat} {d : PD} {i : Nat} {w : World} {v : Value} {n : Nat} (h : Inn t u B w1 g M q d i w v n) : d.1.1.length = d.1.2.length := by
  obtain ⟨⟨ds, K, L, e1, e2, e3, e4, e5, e6, e7, e8⟩, _⟩ := h
  exact e8.own.len
theorem Inn.no {t u : NT} {B : Nat} {w1 : World} {g M q : Nat} {d : PD} {i : Nat} {w : World} {v : Value} {n : Nat} (h : Inn t u B w1 g M q d i w v n) (h1 : i < d.1.1.length) (h2 : i < d.1.2.length) (ht : NT.top d.1.1[i] d.1.2[i] = false) : NT.same t u = false := by
  obtain ⟨⟨ds, K, L, e1, e2, e3, e4, e5, e6, e7, e8⟩, _⟩ := h
  exact e8.no h1 h2 ht
/-- append of one element: into the row that is there, or into a new one. -/
theorem run_append_atN {P : Program} (w : World) (base : Nat) (t ty e : TypeId) (i : TypeInfo) (z : Value) (size bytes : Nat) (ht : P.underlying t = some (.slice e)) (hi : P.info? e = some i) (hz : i.zero = some z)
    (hsize : i.size = size) (hby : i.bytes = bytes) (hzs : z.cells.size = size) (hsz : 0 < size) (v : Value) (n : Nat) (xs : List Value) (hown : w.ownsRow base e size v n xs)
    (a : Addr) (c : Nat) (news : List Value) (hl : news.length = 1 * size) (hnews : ∀ j u, news[j]? = some u → w.cell? (a.add j) = some u) (h1 : ∀ u ∈ news, u.oneCell' = true)
    (h63 : n + 1 ≤ maxLen) (hbytes : (n + 1) * bytes ≤ 140737488355328) (hbase : base ≤ w.heap.size) :
    ∃ v' w', (Builtin.append_ #[t, t] ty #[v, .slice (some a) 1 c]).run P w = .ok v' w' ∧ w'.ownsRow base e size v' (n + 1) (xs ++ news) ∧ w.grownBy w' v.ownBlock ∧
      (∀ k, v'.ownBlock = some k → v.ownBlock = some k ∨ w.heap.size ≤ k) ∧ ∃ a' c', v' = .slice a' (n + 1) c' := by
  obtain ⟨v', w', hr, h2, h3, _⟩ := run_append_own (P := P) w base t ty e i z size bytes ht hi hz hsize hby hzs hsz v n xs hown a 1 c news hl hnews h1 h63 hbytes hbase
  refine ⟨v', w', hr, h2, h3, ?_⟩
  subst hsize hby
  rcases hown.2 with ⟨rfl, rfl⟩ | ⟨g, cap, cur, rfl, hbg, hg, hnc, hcm, hcs, htake⟩
  · have hr2 := run_append_nil (P := P) w t ty e i z ht hi hz a 1 c news hl hnews (by omega) (by omega) (by omega)
    rw [hr] at hr2; injection hr2 with q1 q2; subst q1
    exact ⟨fun k hk => by simp only [Value.ownBlock] at hk; right; injection hk with hk; omega, _, _, rfl⟩
  · by_cases hroom : n + 1 ≤ cap
    · have hfit : n * i.size + news.length ≤ cur.size := by rw [hl, hcs, ← Nat.add_mul]; exact Nat.mul_le_mul_right _ hroom
      have hr2 := run_append_room (P := P) w t ty e i ht hi g n cap cur hg a 1 c news hl hnews h1 hroom hfit
      rw [hr] at hr2; injection hr2 with q1 q2; subst q1
      exact ⟨fun k hk => .inl hk, _, _, rfl⟩
    · have holds : ∀ j u, xs[j]? = some u → w.cell? ((⟨g, 0, none⟩ : Addr).add j) = some u := World.ownsRow.cells hown (g := g) rfl
      have hr2 := run_append_grow (P := P) w t ty e i z ht hi hz ⟨g, 0, none⟩ n cap xs hown.1 holds a 1 c news hl hnews (by omega) (by simp only [maxLen] at h63; omega) (growslice_fits (by omega) hbytes)
      rw [hr] at hr2; injection hr2 with q1 q2; subst q1
      exact ⟨fun k hk => by simp only [Value.ownBlock] at hk; right; injection hk with hk; omega, _, _, rfl⟩
theorem wp_append_pair2 {w : World} {ops : Array Oper} {rest : List Oper} {o : Oper} {a : Act} {Q : Exit → Act → World → Prop} (hgd : o.guard = none) (s x : Operand)
    (ho : o.op = .call { callee := .builtin .append, args := #[s, x], argTypes := #[91, 91] }) (B : Nat) (v : Value) (ds : List PD) (hs : a.eval s = v) (hown : OwnP B w v ds)
    (g : Nat) (c : Nat) (d : PD) (hx : a.eval x = .slice (some ⟨g, 0, none⟩) 1 c) (h0 : w.cell? ⟨g, 0, none⟩ = some (.slice (some d.2.1.1) d.1.1.length d.2.1.2)) (h1 : w.cell? ⟨g, 1, none⟩ = some (.slice (some d.2.2.1) d.1.2.length d.2.2.2))
    (hl : ds.length + 1 ≤ 1099511627776) (hB : B ≤ w.heap.size)
    (h : ∀ a' c' w', OwnP B w' (.slice a' (ds.length + 1) c') (ds ++ [d]) → w.grownBy w' v.ownBlock → (∀ k, Value.ownBlock (.slice a' (ds.length + 1) c') = some k → v.ownBlock = some k ∨ w.heap.size ≤ k) → wpList Try.prog ops Q rest (a.put o.dst (.slice a' (ds.length + 1) c')) w') : wpList Try.prog ops Q (o :: rest) a w := by
  obtain ⟨i0, hi, hz0, hz1, hz2⟩ := info_parts infoPair
  obtain ⟨v', w', hr, h2, h3, h4, a', c', rfl⟩ := run_append_atN (P := Try.prog) w B 91 o.type 90 i0 _ 2 48 Try.underlying91 hi hz0 hz1 hz2 rfl (by decide) v ds.length _ hown ⟨g, 0, none⟩ c (pdC d) (by simp [pdC])
    (by
      intro j u hu
      have hj : j < 2 := (List.getElem?_eq_some_iff.1 hu).1
      rw [add_at, Nat.zero_add]
      match j, hj with
      | 0, _ => rw [h0]; exact hu
      | 1, _ => rw [h1]; exact hu)
    (by
      intro u hu
      simp only [pdC, List.mem_cons, List.not_mem_nil, or_false] at hu
      rcases hu with rfl | rfl <;> rfl) (by simp only [maxLen]; omega) (by omega) hB
  have h5 : OwnP B w' (.slice a' (ds.length + 1) c') (ds ++ [d]) := by
    have e : pdVals (ds ++ [d]) = pdVals ds ++ pdC d := by rw [pdVals_app]; simp [pdVals]
    unfold OwnP
    rw [e, List.length_append]
    exact h2
  refine wpList_plain hgd fun _ hK => ?_
  unfold Oper.wp execOp
  simp only [ho, resolve, invoke, builtin, Sem.run_bind, Sem.run_pure, Result.andThen_ok, List.map_toArray, List.map_cons, List.map_nil, hs, hx, hr]
  exact hK _ _ (h a' c' w' h5 h3 h4)
/-- A pair that is put in. -/
theorem Inn.push {t u : NT} {B : Nat} {w1 : World} {g M q : Nat} {d : PD} {i : Nat} {w w2 w3 : World} {v v' : Value} {n : Nat} {ds : List PD} {K : NT.Prs} {L : List (Addr × Addr × Int)} {key : Addr × Addr × Int} {e : PD} {o : Obj}
    (hgq : g ≠ q) (hg1 : w1.heap.size ≤ g) (hO : OwnP w1.heap.size w v ds) (hvg : v.ownBlock ≠ some g) (hvq : v.ownBlock ≠ some q) (hKy : Keys B w1 L K) (hkd : ∀ d ∈ ds, NKids B w1 d.1.1 (some d.2.1.1) ∧ NKids B w1 d.1.2 (some d.2.2.1)) (hM : NT.Mid t u M d.1 i (ds.map (·.1)) K)
    (hbox : w.cell? ⟨q, 0, none⟩ = some (.slice (some d.2.1.1) d.1.1.length d.2.1.2) ∧ w.cell? ⟨q, 1, none⟩ = some (.slice (some d.2.2.1) d.1.2.length d.2.2.2)) (hlt : q < w.heap.size) (hgl : g < w.heap.size) (hbel : Below w1.heap.size w1 w)
    (hF2 : Flags w2 g (L ++ [key])) (hg2 : w.grownBy w2 (some g)) (hO3 : OwnP w1.heap.size w3 v' (ds ++ [e])) (hg3 : (w2.alloc o).grownBy w3 v.ownBlock) (hv' : ∀ k, v'.ownBlock = some k → v.ownBlock = some k ∨ (w2.alloc o).heap.size ≤ k) (hsl : ∃ a c, v' = .slice a n c) (hn : n = ds.length + 1)
    (hkp : KeyPr B w1 key e.1) (hke : NKids B w1 e.1.1 (some e.2.1.1) ∧ NKids B w1 e.1.2 (some e.2.2.1)) (h1 : i < d.1.1.length) (h2 : i < d.1.2.length) (he : e.1 = (d.1.1[i].kids, d.1.2[i].kids)) (ht : NT.top d.1.1[i] d.1.2[i] = true) (hk : d.1.1[i].kids ≠ []) : Inn t u B w1 g M q d (i + 1) w3 v' n := by
  have hz2 : w.heap.size ≤ w2.heap.size := hg2.size
  have hz3 : w2.heap.size + 1 ≤ w3.heap.size := by have := hg3.size; simpa using this
  have hq2 : w2.heap[q]? = w.heap[q]? := hg2.block q hlt (by intro x; exact hgq (Option.some.inj x).symm)
  have hq3 : w3.heap[q]? = w2.heap[q]? := by
    rw [hg3.block q (by simp; omega) (fun x => hvq x.symm)]
    exact (grown_none ((Below.refl w2.heap.size w2).alloc (Nat.le_refl _) o)).block q (by omega) (by simp)
  have hqq := hq3.trans hq2
  have hb2 : Below w1.heap.size w w2 := Below.grown (Below.refl _ _) hg2 (Nat.le_trans hbel.size (Nat.le_refl _)) (fun k e => by cases e; exact hg1)
  have hb3 : Below w1.heap.size (w2.alloc o) w3 := Below.grown (Below.refl _ _) hg3 (by have := hbel.size; simp; omega) (fun k e => (World.ownsRow.lt hO k e).1)
  refine ⟨⟨ds ++ [e], K ++ [e.1], L ++ [key], by simp [hn], hsl, hO3, ?_, ?_, hKy.push hkp, ?_, ?_⟩, ?_, ?_, ?_, ?_⟩
  · intro x
    rcases hv' g x with y | y
    · exact hvg y
    · simp at y; omega
  · exact (hF2.kept (grown_none ((Below.refl w2.heap.size w2).alloc (Nat.le_refl _) o)) (by simp)).kept hg3 (fun x => hvg x.symm)
  · intro x hx
    rcases List.mem_append.1 hx with y | y
    · exact hkd x y
    · simp only [List.mem_singleton] at y; subst y; exact hke
  · have := hM.push h1 h2 ht hk
    rw [← he] at this
    simpa using this
  · intro x
    rcases hv' q x with y | y
    · exact hvq y
    · simp at y; omega
  · exact ⟨(World.cell?_of_block (a := ⟨q, 0, none⟩) hqq).trans hbox.1, (World.cell?_of_block (a := ⟨q, 1, none⟩) hqq).trans hbox.2⟩
  · omega
  · exact hbel.trans (hb2.trans (((Below.refl w1.heap.size w2).alloc (by have := hbel.size; omega) o).trans hb3))
end Go.Proofs.Ytghmkfehohgmgaa.kit
