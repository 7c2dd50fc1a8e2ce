/-
  Contract of spec.SetField over this seat's translation. Conditions: each theorem names its own.
-/
import Derived.Test.YtghmkfehohgmgaaFdC
import Derived.Deep.LoopGhost
namespace Go.Proofs.Ytghmkfehohgmgaa.kit
open Go.ChangeShapes Go.WideShapes Go.ChangeAt Go.RowKit
set_option linter.unusedVariables false

/-- append of one element: into the row that is there, or into a new one. -/
theorem run_append_atF {P : Program} (w : World) (base : Nat) (t ty e : TypeId) (i : TypeInfo) (z : Value) (size bytes : Nat) (ht : P.underlying t = some (.slice e)) (hi : P.info? e = some i) (hz : i.zero = some z)
    (hsize : i.size = size) (hby : i.bytes = bytes) (hzs : z.cells.size = size) (hsz : 0 < size) (v : Value) (n : Nat) (xs : List Value) (hown : w.ownsRow base e size v n xs)
    (a : Addr) (c : Nat) (news : List Value) (hl : news.length = 1 * size) (hnews : ∀ j u, news[j]? = some u → w.cell? (a.add j) = some u) (h1 : ∀ u ∈ news, u.oneCell' = true)
    (h63 : n + 1 ≤ maxLen) (hbytes : (n + 1) * bytes ≤ 140737488355328) (hbase : base ≤ w.heap.size) :
    ∃ v' w', (Builtin.append_ #[t, t] ty #[v, .slice (some a) 1 c]).run P w = .ok v' w' ∧ w'.ownsRow base e size v' (n + 1) (xs ++ news) ∧ w.grownBy w' v.ownBlock ∧
      (∀ k, v'.ownBlock = some k → v.ownBlock = some k ∨ w.heap.size ≤ k) := by
  obtain ⟨v', w', hr, h2, h3, _⟩ := run_append_own (P := P) w base t ty e i z size bytes ht hi hz hsize hby hzs hsz v n xs hown a 1 c news hl hnews h1 h63 hbytes hbase
  refine ⟨v', w', hr, h2, h3, ?_⟩
  subst hsize hby
  rcases hown.2 with ⟨rfl, rfl⟩ | ⟨g, cap, cur, rfl, hbg, hg, hnc, hcm, hcs, htake⟩
  · have hr2 := run_append_nil (P := P) w t ty e i z ht hi hz a 1 c news hl hnews (by omega) (by omega) (by omega)
    rw [hr] at hr2; injection hr2 with q1 q2; subst q1
    intro k hk; simp only [Value.ownBlock] at hk; right; injection hk with hk; omega
  · by_cases hroom : n + 1 ≤ cap
    · have hfit : n * i.size + news.length ≤ cur.size := by rw [hl, hcs, ← Nat.add_mul]; exact Nat.mul_le_mul_right _ hroom
      have hr2 := run_append_room (P := P) w t ty e i ht hi g n cap cur hg a 1 c news hl hnews h1 hroom hfit
      rw [hr] at hr2; injection hr2 with q1 q2; subst q1
      intro k hk; exact .inl hk
    · have holds : ∀ j u, xs[j]? = some u → w.cell? ((⟨g, 0, none⟩ : Addr).add j) = some u := World.ownsRow.cells hown (g := g) rfl
      have hr2 := run_append_grow (P := P) w t ty e i z ht hi hz ⟨g, 0, none⟩ n cap xs hown.1 holds a 1 c news hl hnews (by omega) (by simp only [maxLen] at h63; omega) (growslice_fits (by omega) hbytes)
      rw [hr] at hr2; injection hr2 with q1 q2; subst q1
      intro k hk; simp only [Value.ownBlock] at hk; right; injection hk with hk; omega
/-- append of one text to such a row; what it turns. -/
theorem wp_append_strF {w : World} {ops : Array Oper} {rest : List Oper} {o : Oper} {a : Act} {Q : Exit → Act → World → Prop} (hgd : o.guard = none) (s x : Operand)
    (ho : o.op = .call { callee := .builtin .append, args := #[s, x], argTypes := #[28, 28] }) (B : Nat) (v : Value) (xs : List (List UInt8)) (hs : a.eval s = v) (hown : OwnS 9 B w v xs)
    (g : Nat) (c : Nat) (y : List UInt8) (hx : a.eval x = .slice (some ⟨g, 0, none⟩) 1 c) (hnew : w.cell? ⟨g, 0, none⟩ = some (eS y))
    (hl : xs.length + 1 ≤ 1099511627776) (hB : B ≤ w.heap.size)
    (h : ∀ v' w', OwnS 9 B w' v' (xs ++ [y]) → w.grownBy w' v.ownBlock → (∀ k, v'.ownBlock = some k → v.ownBlock = some k ∨ w.heap.size ≤ k) → wpList Try.prog ops Q rest (a.put o.dst v') w') : wpList Try.prog ops Q (o :: rest) a w := by
  obtain ⟨i0, hi, hz0, hz1, hz2⟩ := info_parts Try.infoStr
  obtain ⟨v', w', hr, h2, h3, h4⟩ := run_append_atF (P := Try.prog) w B 28 o.type 9 i0 _ 1 16 Try.underlying28 hi hz0 hz1 hz2 rfl (by decide) v xs.length _ hown ⟨g, 0, none⟩ c [eS y] (by simp)
    (by
      intro j u hu
      have hj : j = 0 := by have := (List.getElem?_eq_some_iff.1 hu).1; simpa using this
      subst hj
      rw [add_atF, Nat.zero_add, hnew]; simpa using hu)
    (by
      intro u hu
      simp only [List.mem_cons, List.not_mem_nil, or_false] at hu
      subst hu; rfl) (by simp only [maxLen]; omega) (by omega) hB
  have h5 : OwnS 9 B w' v' (xs ++ [y]) := by simpa [OwnS, List.map_append] using h2
  refine wpList_plain hgd fun _ hK => ?_
  unfold Oper.wp execOp
  simp only [ho, resolve, invoke, builtin, Sem.run_bind, Sem.run_pure, Result.andThen_ok, List.map_toArray, List.map_cons, List.map_nil, hs, hx, hr]
  exact hK _ _ (h v' w' h5 h3 h4)
theorem Wb.grown {q : Nat} {x y : Value} {w w' : World} {row : Option Nat} (h : Wb q x y w) (hg : w.grownBy w' row) (hne : row ≠ some q) : Wb q x y w' := by
  have hk := hg.block q h.lt (fun x => hne x.symm)
  exact ⟨(World.cell?_of_block (a := ⟨q, 0, none⟩) hk).trans h.c0, (World.cell?_of_block (a := ⟨q, 1, none⟩) hk).trans h.c1, (World.frozen?_of_block (a := ⟨q, 0, none⟩) hk).trans h.f0, (World.frozen?_of_block (a := ⟨q, 1, none⟩) hk).trans h.f1, Nat.lt_of_lt_of_le h.lt hg.size⟩
theorem OwnS.offB {e : TypeId} {B : Nat} {w : World} {v : Value} {xs : List (List UInt8)} (h : OwnS e B w v xs) (g o : Nat) (hg : v.ownBlock ≠ some g) (y : Value) : OwnS e B (w.setCell ⟨g, o, none⟩ y) v xs :=
  World.ownsRow.kept h ((OnlyF.refl g w).setCell o y) (.inr hg)
theorem OwnS.neB {e : TypeId} {B : Nat} {w : World} {v : Value} {xs : List (List UInt8)} (h : OwnS e B w v xs) (g : Nat) (hg : g < B) : v.ownBlock ≠ some g := fun k => by
  have := (World.ownsRow.lt h g k).1; omega
theorem OwnS.ltB {e : TypeId} {B : Nat} {w : World} {v : Value} {xs : List (List UInt8)} (h : OwnS e B w v xs) (g : Nat) (hg : w.heap.size ≤ g) : v.ownBlock ≠ some g := fun k => by
  have := (World.ownsRow.lt h g k).2; omega
/-- What holds while texts are laid behind those of a copy: p is the old record's box, q the result's, b the new record's. -/
structure Gr (w0 : World) (b : Nat) (lo : ByteArray) (ao : Option Addr) (no co : Nat) (lb : ByteArray) (xs : List (List UInt8)) (w : World) (va : Option Addr) (vc : Nat) : Prop where
  own : OwnS 9 (w0.heap.size + 2) w (.slice va xs.length vc) xs
  box : Wb b (.string lb) (.slice va xs.length vc) w
  old : Wb w0.heap.size (.string lo) (.slice ao no co) w
  res : Wb (w0.heap.size + 1) (.string ⟨#[]⟩) (.slice none 0 0) w
  ne : Value.ownBlock (.slice va xs.length vc) ≠ some b
  hb : w0.heap.size + 2 ≤ b
  bel : Below w0.heap.size w0 w
theorem Gr.more {w0 : World} {b : Nat} {lo : ByteArray} {ao : Option Addr} {no co : Nat} {lb : ByteArray} {xs : List (List UInt8)} {w w1 w' : World} {va va' : Option Addr} {vc vc' n' : Nat} (h : Gr w0 b lo ao no co lb xs w va vc) (h1 : Below w.heap.size w w1) (y : List UInt8) (hn : n' = (xs ++ [y]).length)
    (ho : OwnS 9 (w0.heap.size + 2) w' (.slice va' n' vc') (xs ++ [y])) (hg : w1.grownBy w' (Value.ownBlock (.slice va xs.length vc))) (hk : ∀ k, Value.ownBlock (.slice va' n' vc') = some k → Value.ownBlock (.slice va xs.length vc) = some k ∨ w1.heap.size ≤ k) :
    Gr w0 b lo ao no co lb (xs ++ [y]) (w'.setCell ⟨b, 1, none⟩ (.slice va' n' vc')) va' vc' := by
  subst hn
  have hne : Value.ownBlock (.slice va' (xs ++ [y]).length vc') ≠ some b := fun e => by
    rcases hk b e with q | q
    · exact h.ne q
    · have := h.box.lt; have := h1.size; omega
  have hs : w0.heap.size + 2 ≤ w.heap.size := by have := h.box.lt; have := h.hb; omega
  refine ⟨ho.offB b 1 hne _, ((h.box.step h1).grown hg h.ne).put1 _, ((h.old.step h1).grown hg (h.own.neB _ (by omega))).off b 1 (by have := h.hb; omega) _, ((h.res.step h1).grown hg (h.own.neB _ (by omega))).off b 1 (by have := h.hb; omega) _, hne, h.hb, ?_⟩
  refine Below.setCell (p := ⟨b, 1, none⟩) ?_ (by have := h.hb; simp; omega) _
  exact (h.bel.trans (h1.mono (by omega))).trans (Below.grown (Below.refl _ _) hg (by have := h1.size; omega) (fun k e => by have := (World.ownsRow.lt h.own k e).1; omega))
end Go.Proofs.Ytghmkfehohgmgaa.kit
