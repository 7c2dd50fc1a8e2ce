/-
 Contract of joint.lead over this seat's translation: what a part leads to is put down. Rows of parts that the call made, and append to them. Conditions: each theorem names its own.
-/
import Derived.Test.YtpidpimgoeeogaaDoorMaMx1
import Derived.Laws.AppendOwn
namespace Go.Proofs.YtpidpimgoeeogaaDoor.kit
open Go.ChangeShapes Go.WideShapes Go.ChangeAt Go.RowKit
set_option linter.unusedVariables false

set_option maxRecDepth 100000 in
set_option maxHeartbeats 1000000 in
theorem lead_any (p : Nat) (b : Option Addr) (m c : Nat) (v0 : Value) (w : World) (h6 : w.cell? ⟨p, 6, none⟩ = some v0) (hf : w.frozen? ⟨p, 6, none⟩ = false) :
  Calls Tryd.prog 91 #[.pointer (some ⟨p, 0, none⟩), .slice b m c] w fun e w' => (∃ u, e = .returned u) ∧ w' = w.setCell ⟨p, 6, none⟩ (.slice b m c) := by
 go_enter Tryd.func91, Tryd.ntmps91
 go_wp2_with fail
 go_end0
 exact ⟨⟨_, rfl⟩, rfl⟩
/-- A row of parts that the call made. -/
def OwnQ (B : Nat) (w : World) (v : Value) (T : Nat → TypeId) (ps : List Nat) : Prop := w.ownsRow B 112 1 v ps.length (ps.map fun p => partV (T p) p)
theorem OwnQ.row {B : Nat} {w : World} {v : Value} {T : Nat → TypeId} {ps : List Nat} (h : OwnQ B w v T ps) : ∃ a c, v = .slice a ps.length c ∧ PartsAt w T ps a ∧ ∀ x, a = some x → B ≤ x.block ∧ x.block < w.heap.size := by
 rcases h.2 with ⟨rfl, h0⟩ | ⟨g, cap, cur, rfl, hb, hg, hn, hm, _⟩
 ·have e : ps = [] := List.length_eq_zero_iff.1 h0
  subst e
  exact ⟨none, 0, rfl, fun i hi => by simp at hi, fun x hx => by cases hx⟩
 ·refine ⟨_, cap, rfl, fun i hi => ⟨g, rfl, ?_⟩, fun x hx => ?_⟩
  ·have h2 : w.ownsRow B 112 1 (.slice (some ⟨g, 0, none⟩) ps.length cap) ps.length (ps.map fun p => partV (T p) p) := h
   rw [World.ownsRow.cellAt h2 i (by omega)]
   simp [hi]
  ·cases hx
   exact ⟨hb, (Array.getElem?_eq_some_iff.1 hg).1⟩
theorem OwnQ.kept {B : Nat} {w w' : World} {v : Value} {T : Nat → TypeId} {ps : List Nat} (h : OwnQ B w v T ps) (hb : Below w.heap.size w w') : OwnQ B w' v T ps :=
 World.ownsRow.kept h ⟨hb.os, hb.tape, hb.output, hb.size, fun k hk _ => hb.block k hk⟩ (row := none) (by cases v.ownBlock <;> simp)
theorem infoPart : (Tryd.prog.info? 112).map (fun i => (i.zero, i.size, i.bytes)) = some (some .nilIface, 1, 16) := by kernel_rfl
/-- append of one part, as an operation. -/
theorem run_append_part {w : World} (ty : TypeId) (B : Nat) (v : Value) (T : Nat → TypeId) (ps : List Nat) (hown : OwnQ B w v T ps) (ad : Addr) (c q : Nat) (hnew : w.cell? (ad.add 0) = some (partV (T q) q)) (hl : ps.length + 1 ≤ 1048577) (hB : B ≤ w.heap.size) :
  ∃ v' w', (Builtin.append_ #[106, 106] ty #[v, .slice (some ad) 1 c]).run Tryd.prog w = .ok v' w' ∧ OwnQ B w' v' T (ps ++ [q]) ∧ Below B w w' ∧ w.grownBy w' v.ownBlock ∧ (∀ k, v'.ownBlock = some k → v.ownBlock = some k ∨ w.heap.size ≤ k) := by
 obtain ⟨i0, hi, hz0, hz1, hz2⟩ := info_parts infoPart
 have hl' : ([partV (T q) q]).length = 1 * i0.size := by rw [hz1]; rfl
 have hnews : ∀ j u, ([partV (T q) q])[j]? = some u → w.cell? (ad.add j) = some u := fun j u hu => by
  have hj : j < 1 := (List.getElem?_eq_some_iff.1 hu).1
  obtain rfl : j = 0 := by omega
  rw [hnew]; simpa using hu
 have h1 : ∀ u ∈ ([partV (T q) q]), u.oneCell' = true := by intro u hu; simp at hu; subst hu; rfl
 obtain ⟨v', w', hr, h2, h3, _⟩ := run_append_own (P := Tryd.prog) w B 106 ty 112 i0 .nilIface 1 16 Tryd.underlying106 hi hz0 hz1 hz2 rfl (by decide) v ps.length _ hown ad 1 c [partV (T q) q] rfl hnews h1 (by simp only [maxLen]; omega) (by omega) hB
 refine ⟨v', w', hr, by simpa [OwnQ, List.map_append] using h2, Below.grown (Below.refl _ _) h3 hB (fun k hk => (World.ownsRow.lt hown k hk).1), h3, ?_⟩
 rcases hown.2 with ⟨rfl, h0⟩ | ⟨b, cap, cur, rfl, hbg, hg, hnc, hcm, hcs, htake⟩
 ·have hr2 := run_append_nil (P := Tryd.prog) w 106 ty 112 i0 .nilIface Tryd.underlying106 hi hz0 ad 1 c [partV (T q) q] hl' hnews (by omega) (by omega) (by omega)
  rw [hr] at hr2; injection hr2 with q1 q2; subst q1
  intro k hk; simp only [Value.ownBlock] at hk; right; injection hk with hk; omega
 ·by_cases hroom : ps.length + 1 ≤ cap
  ·have hfit : ps.length * i0.size + ([partV (T q) q]).length ≤ cur.size := by rw [hcs, hz1]; simp; omega
   have hr2 := run_append_room (P := Tryd.prog) w 106 ty 112 i0 Tryd.underlying106 hi b ps.length cap cur hg ad 1 c [partV (T q) q] hl' hnews h1 hroom hfit
   rw [hr] at hr2; injection hr2 with q1 q2; subst q1
   intro k hk; exact .inl hk
  ·have holds : ∀ j u, (ps.map fun p => partV (T p) p)[j]? = some u → w.cell? ((⟨b, 0, none⟩ : Addr).add j) = some u := World.ownsRow.cells hown (g := b) rfl
   have hr2 := run_append_grow (P := Tryd.prog) w 106 ty 112 i0 .nilIface Tryd.underlying106 hi hz0 ⟨b, 0, none⟩ ps.length cap (ps.map fun p => partV (T p) p) (by rw [hz1]; simp) holds ad 1 c [partV (T q) q] hl' hnews (by omega) (by omega) (growslice_fits (by omega) (by rw [hz2]; omega))
   rw [hr] at hr2; injection hr2 with q1 q2; subst q1
   intro k hk; simp only [Value.ownBlock] at hk; right; injection hk with hk; omega
end Go.Proofs.YtpidpimgoeeogaaDoor.kit
/-
 Contract of net.add over this seat's translation: a part leads to what is handed, and is put among the net's. Conditions: each theorem names its own.
-/
namespace Go.Proofs.YtpidpimgoeeogaaDoor.kit
open Go.ChangeShapes Go.WideShapes Go.ChangeAt Go.RowKit
set_option linter.unusedVariables false

theorem wpList_append_part {w : World} {ops : Array Oper} {rest : List Oper} {o : Oper} {a : Act} {Q : Exit → Act → World → Prop} (hgd : o.guard = none) (s x : Operand)
  (ho : o.op = .call { callee := .builtin .append, args := #[s, x], argTypes := #[106, 106] }) (B : Nat) (v : Value) (T : Nat → TypeId) (ps : List Nat) (hs : a.eval s = v) (hown : OwnQ B w v T ps) (ad : Addr) (c q : Nat) (hx : a.eval x = .slice (some ad) 1 c)
  (hnew : w.cell? (ad.add 0) = some (partV (T q) q)) (hl : ps.length + 1 ≤ 1048577) (hB : B ≤ w.heap.size)
  (h : ∀ v' w', OwnQ B w' v' T (ps ++ [q]) → Below B w w' → w.grownBy w' v.ownBlock → (∀ k, v'.ownBlock = some k → v.ownBlock = some k ∨ w.heap.size ≤ k) → wpList Tryd.prog ops Q rest (a.put o.dst v') w') : wpList Tryd.prog ops Q (o :: rest) a w := by
 refine wpList_plain hgd fun K hK => ?_
 obtain ⟨v', w', hr, h1, h2, h3, h4⟩ := run_append_part o.type B v T ps hown ad c q hnew hl hB
 unfold Oper.wp execOp
 simp only [ho, resolve, invoke, builtin, Sem.run_bind, Sem.run_pure, Result.andThen_ok, List.map_toArray, List.map_cons, List.map_nil, hs, hx, hr]
 exact hK _ _ (h v' w' h1 h2 h3 h4)
/-- What add turns: the net's row, what the part leads to, the row's own block. -/
structure AddChg (nb p : Nat) (r : Option Nat) (w w' : World) : Prop where
 os : w'.os = w.os
 tape : w'.tape = w.tape
 output : w'.output = w.output
 size : w.heap.size ≤ w'.heap.size
 block : ∀ k, k < w.heap.size → k ≠ nb → k ≠ p → r ≠ some k → w'.heap[k]? = w.heap[k]?
 cn : ∀ j, j ≠ 2 → w'.cell? ⟨nb, j, none⟩ = w.cell? ⟨nb, j, none⟩
 cp : ∀ j, j ≠ 6 → w'.cell? ⟨p, j, none⟩ = w.cell? ⟨p, j, none⟩
 fn : ∀ j, w'.frozen? ⟨nb, j, none⟩ = w.frozen? ⟨nb, j, none⟩
 fp : ∀ j, w'.frozen? ⟨p, j, none⟩ = w.frozen? ⟨p, j, none⟩
set_option maxRecDepth 100000 in
set_option maxHeartbeats 2000000 in
theorem netAdd_any (B nb p : Nat) (T : Nat → TypeId) (ps : List Nat) (b : Option Addr) (m c : Nat) (v0 vr : Value) (w : World) (hT : PartT (T p)) (hnB : nb < B) (hb : B ≤ w.heap.size) (hne : nb ≠ p) (h6 : w.cell? ⟨p, 6, none⟩ = some v0) (hf : w.frozen? ⟨p, 6, none⟩ = false)
  (h2 : w.cell? ⟨nb, 2, none⟩ = some vr) (hf2 : w.frozen? ⟨nb, 2, none⟩ = false) (ho : OwnQ B w vr T ps) (hr1 : vr.ownBlock ≠ some nb) (hr2 : vr.ownBlock ≠ some p) (hl : ps.length ≤ 1048576) :
  Calls Tryd.prog 81 #[.pointer (some ⟨nb, 0, none⟩), partV (T p) p, .slice b m c] w fun e w' => e = .returned (partV (T p) p) ∧ ∃ v', OwnQ B w' v' T (ps ++ [p]) ∧ (∀ k, v'.ownBlock = some k → vr.ownBlock = some k ∨ w.heap.size ≤ k) ∧ w'.cell? ⟨nb, 2, none⟩ = some v' ∧ w'.cell? ⟨p, 6, none⟩ = some (.slice b m c) ∧ AddChg nb p vr.ownBlock w w' := by
 have hm := fun W => meth_lead hT p W
 have HL := Lib.hid (lead_any p b m c v0 w h6 hf)
 obtain ⟨Tp, hTp⟩ : ∃ Tp, Tp = T p := ⟨_, rfl⟩
 have HTP := Lib.hid hTp
 rw [← hTp] at hm ⊢
 obtain ⟨w1, hw1⟩ : ∃ w1, w1 = w.setCell ⟨p, 6, none⟩ (.slice b m c) := ⟨_, rfl⟩
 have ho1 : OwnQ B w1 vr T ps := by
  rw [hw1]
  exact World.ownsRow.kept ho (grown_set w ⟨p, 6, none⟩ _) (.inr hr2)
 have h21 : w1.cell? ⟨nb, 2, none⟩ = some vr := by
  rw [hw1, World.cell?_setCell_other w _ _ _ (by intro x; injection x; omega)]; exact h2
 have hf21 : w1.frozen? ⟨nb, 2, none⟩ = false := by rw [hw1, World.frozen?_setCell]; exact hf2
 have hz1 : w1.heap.size = w.heap.size := by rw [hw1]; simp
 have hcp : w1.cell? ⟨p, 6, none⟩ = some (.slice b m c) := by rw [hw1, World.cell?_setCell_same w _ _ h6]
 have hg1 : w.grownBy w1 (some p) := by rw [hw1]; exact grown_set w ⟨p, 6, none⟩ _
 have hcp1 : ∀ j, j ≠ 6 → w1.cell? ⟨p, j, none⟩ = w.cell? ⟨p, j, none⟩ := fun j hj => by rw [hw1, World.cell?_setCell_other w _ _ _ (by intro x; injection x; omega)]
 have hcn1 : ∀ j, w1.cell? ⟨nb, j, none⟩ = w.cell? ⟨nb, j, none⟩ := fun j => by rw [hw1, World.cell?_setCell_other w _ _ _ (by intro x; injection x; omega)]
 have hfz1 : ∀ a, w1.frozen? a = w.frozen? a := fun a => by rw [hw1, World.frozen?_setCell]
 have HO1 := Lib.hid ho1
 have HALL := Lib.hid (And.intro hf21 (And.intro hz1 (And.intro hcp (And.intro hg1 (And.intro hcp1 (And.intro hcn1 hfz1))))))
 rw [← hw1] at HL
 have HH := Lib.hid (And.intro hne (And.intro hr1 (And.intro hr2 (And.intro hl hb))))
 clear hw1 ho1 hf21 hz1 hcp hg1 hcp1 hcn1 hfz1 hne hr1 hr2 hl ho hT hTp h6 hf h2 hf2 hb
 unfold partV at *
 go_enter Tryd.func81, Tryd.ntmps81
 go_wp2_with fail
 refine HL.out.mono ?_
 rintro e w1' ⟨⟨u, rfl⟩, rfl⟩
 have HN := Lib.hid (show (w1'.alloc (.cells #[.iface Tp (.pointer (some ⟨p, 0, none⟩))] 112)).cell? ((⟨w1'.heap.size, 0, none⟩ : Addr).add 0) = some (partV (T p) p) from by
  have e : (⟨w1'.heap.size, 0, none⟩ : Addr).add 0 = ⟨w1'.heap.size, 0, none⟩ := by unfold Addr.add; split <;> simp_all
  rw [e, ← HTP.out]
  exact cell_one w1' _ _)
 have HB1 := Lib.hid (show Below w1'.heap.size w1' (w1'.alloc (.cells #[.iface Tp (.pointer (some ⟨p, 0, none⟩))] 112)) from (Below.refl _ _).alloc (Nat.le_refl _) _)
 have hnl : nb < w1'.heap.size := World.block_lt_of_cell? w1' ⟨nb, 2, none⟩ h21
 have HNB := Lib.hid (show ∀ W, (w1'.alloc (.cells #[.iface Tp (.pointer (some ⟨p, 0, none⟩))] 112)).grownBy W vr.ownBlock → (∀ j, W.cell? ⟨nb, j, none⟩ = w1'.cell? ⟨nb, j, none⟩) ∧ ∀ j, W.frozen? ⟨nb, j, none⟩ = w1'.frozen? ⟨nb, j, none⟩ from fun W hg => by
  have hk := hg.block nb (Nat.lt_of_lt_of_le hnl HB1.out.size) (fun e => HH.out.2.1 e.symm)
  exact ⟨fun j => (World.cell?_of_block (a := ⟨nb, j, none⟩) hk).trans (HB1.out.cell (p := ⟨nb, j, none⟩) hnl), fun j => (World.frozen?_of_block (a := ⟨nb, j, none⟩) hk).trans (HB1.out.frozen (p := ⟨nb, j, none⟩) hnl)⟩)
 go_wp2_with (at_builtin; (refine wpList_append_part rfl (.tmp 14) (.tmp 16) rfl B vr T ps rfl (HO1.out.kept HB1.out) ⟨w1'.heap.size, 0, none⟩ 1 p rfl HN.out (by have := HH.out.2.2.2.1; omega) (by have := HH.out.2.2.2.2; have := HALL.out.2.1; simp; omega) ?_; intro v3 w3 ho3 hb3 hg3 hk3; obtain ⟨a3, c3, hv3, _, hl3⟩ := ho3.row; rw [show (ps ++ [p]).length = ps.length + 1 by simp] at hv3; subst hv3; have hn3 := Lib.hid (HNB.out w3 hg3); have z3 := hn3.out.1 2; rw [h21] at z3; have f3 := (hn3.out.2 2).trans HALL.out.1; have HW3 := Lib.hid (And.intro ho3 (And.intro hb3 (And.intro hg3 hl3))); have HK3 := Lib.hid hk3; clear ho3 hb3 hg3 hl3 hk3))
 go_ret
 obtain ⟨ho3, hb3, hg3, hl3⟩ := HW3.out
 obtain ⟨_, hz1, hcp, hg1, hcp1, hcn1, hfz1⟩ := HALL.out
 obtain ⟨hne, hr1, hr2, hl, hb⟩ := HH.out
 have hpl : p < w1'.heap.size := World.block_lt_of_cell? w1' ⟨p, 6, none⟩ hcp
 have hp3 := hg3.block p (Nat.lt_of_lt_of_le hpl HB1.out.size) (fun e => hr2 e.symm)
 have cp3 : ∀ j, w3.cell? ⟨p, j, none⟩ = w1'.cell? ⟨p, j, none⟩ := fun j => (World.cell?_of_block (a := ⟨p, j, none⟩) hp3).trans (HB1.out.cell (p := ⟨p, j, none⟩) hpl)
 have fp3 : ∀ j, w3.frozen? ⟨p, j, none⟩ = w1'.frozen? ⟨p, j, none⟩ := fun j => (World.frozen?_of_block (a := ⟨p, j, none⟩) hp3).trans (HB1.out.frozen (p := ⟨p, j, none⟩) hpl)
 have hs3 := HB1.out.size
 have hs4 := hb3.size
 refine ⟨rfl, _, World.ownsRow.kept ho3 (grown_set w3 ⟨nb, 2, none⟩ _) (.inr ?_), fun k hk => (HK3.out k hk).imp id (fun x => by have := HB1.out.size; omega), World.cell?_setCell_same w3 _ _ z3, ?_, ?_⟩
 ·intro e
  cases a3 with
  | none => simp [Value.ownBlock] at e
  | some x => have := (hl3 x rfl).1; simp [Value.ownBlock] at e; omega
 ·rw [World.cell?_setCell_other w3 _ _ _ (by intro x; injection x; omega), cp3]; exact hcp
 ·refine ⟨hg3.os.trans (HB1.out.os.trans hg1.os), hg3.tape.trans (HB1.out.tape.trans hg1.tape), hg3.output.trans (HB1.out.output.trans hg1.output), by simp; omega, fun k hk k1 k2 k3 => ?_, fun j hj => ?_, fun j hj => ?_, fun j => ?_, fun j => ?_⟩
  ·rw [Below.heap_setCell w3 _ _ k k1, hg3.block k (by omega) (fun e => k3 e.symm), HB1.out.block k (by omega)]
   exact hg1.block k hk (fun e => k2 (by injection e))
  ·rw [World.cell?_setCell_other w3 _ _ _ (by intro x; injection x; omega), hn3.out.1]; exact hcn1 j
  ·rw [World.cell?_setCell_other w3 _ _ _ (by intro x; injection x; omega), cp3]; exact hcp1 j hj
  ·rw [World.frozen?_setCell, hn3.out.2]; exact hfz1 _
  ·rw [World.frozen?_setCell, fp3]; exact hfz1 _
end Go.Proofs.YtpidpimgoeeogaaDoor.kit
