/-
  The memory that impl.Replace lays ahead of its loop, in whatever order: pieces, a room, their boxes. Conditions: a text of at most 1048576 bytes.
-/
import Derived.Test.YtcimhpdpfckgiaaGreatDoorMxMc1
import Derived.Test.YtcimhpdpfckgiaaGreatDoorMxPf1
import Derived.Test.YtcimhpdpfckgiaaGreatDoorMxPt3
import Derived.Test.YtcimhpdpfckgiaaGreatDoorMxMr0
import Derived.Shelf.RegionOpen
set_option linter.unusedVariables false
set_option linter.unusedSimpArgs false
namespace Go.Proofs.YtcimhpdpfckgiaaGreatDoor.kit
open Go.ChangeShapes Go.WideShapes Go.ChangeAt Go.RowKit
def EndsP (P : Act → World → Prop) : Exit → Act → World → Prop
 | .normal, a, w => P a w
 | _, _, _ => False
theorem EndsP.to {P : Act → World → Prop} {Q : Exit → Act → World → Prop} (h : ∀ a w, P a w → Q .normal a w) : ∀ e a w, EndsP P e a w → Q e a w := fun e a w hp => by
 cases e <;> first | exact h a w hp | exact (hp : False).elim
theorem keep_alloc {X : World} {k : Nat} {o : Obj} (h : X.heap[k]? = some o) (o' : Obj) : (X.alloc o').heap[k]? = some o := (Below.heap_alloc _ _ _ (Array.getElem?_eq_some_iff.1 h).1).trans h
theorem keep_below {X Y : World} {k : Nat} {o : Obj} (hb : Below X.heap.size X Y) (h : X.heap[k]? = some o) : Y.heap[k]? = some o := (hb.block k (Array.getElem?_eq_some_iff.1 h).1).trans h
theorem new_alloc0 (X : World) (o : Obj) : (X.alloc o).heap[X.heap.size]? = some o := World.alloc_heap_new _ _
structure RepS (w : World) (r : List UInt8) (b11 b12 g : Nat) (v : Value) (pc : List Pc) (Y : World) : Prop where
 own : OwnPc 0 Y v pc
 all : PqAll r pc
 box : Boxed Y b11 52 v
 rm : Rm Y g b12 4000 4000 [] false
 bel : Below w.heap.size w Y
 lo : w.heap.size ≤ b11 ∧ w.heap.size ≤ b12 ∧ w.heap.size ≤ g
 ne : b11 ≠ b12 ∧ b11 ≠ g ∧ ∀ q, v.ownBlock = some q → q ≠ b11 ∧ q ≠ b12 ∧ q ≠ g
theorem OwnPc.low {B B' : Nat} {w : World} {v : Value} {ps : List Pc} (h : OwnPc B w v ps) (hB : B' ≤ B) : OwnPc B' w v ps := by
 obtain ⟨h1, h2⟩ := h
 rcases h2 with ⟨rfl, h0⟩ | ⟨g, cap, cur, rfl, hbg, hg, hr⟩
 · exact ⟨h1, .inl ⟨rfl, h0⟩⟩
 · exact ⟨h1, .inr ⟨g, cap, cur, rfl, Nat.le_trans hB hbg, hg, hr⟩⟩
theorem Rm.laid {X : World} {n g b : Nat} (hg : X.heap[g]? = some (.cells (madeCells #[.int .u8 0] n) 5)) (hb : X.heap[b]? = some (.cells #[.slice none 0 0, .int .i64 0, .bool false] 55)) (hne : g ≠ b) :
 Rm (((X.setCell ⟨b, 0, none⟩ (.slice (some ⟨g, 0, none⟩) n n)).setCell ⟨b, 1, none⟩ (.int .i64 0)).setCell ⟨b, 2, none⟩ (.bool false)) g b n n [] false := by
 have h1 : X.rowIs g 5 n (fun _ => .int .u8 0) := by
  refine ⟨madeCells #[.int .u8 0] n, hg, by simpa using size_madeCells #[Value.int .u8 0] n, fun i hi => by simp [madeCells, hi, Nat.mod_one]⟩
 have h2 : X.rowIs b 55 3 (fun j => if j = 0 then .slice none 0 0 else if j = 1 then .int .i64 0 else .bool false) := ⟨_, hb, rfl, fun i hi => by
  match i, hi with
  | 0, _ => rfl
  | 1, _ => rfl
  | 2, _ => rfl⟩
 refine ⟨⟨List.replicate n 0, ?_, by simp⟩, ?_, hne⟩
 · refine (((h1.setOther (a := ⟨b, 0, none⟩) hne _).setOther (a := ⟨b, 1, none⟩) hne _).setOther (a := ⟨b, 2, none⟩) hne _).congr fun i hi => ?_
   simp [Lib.Lz.bytes, List.getElem?_replicate, hi]
 · refine (((h2.set 0 _).set 1 _).set 2 _).congr fun i hi => ?_
   match i, hi with
   | 0, _ => rfl
   | 1, _ => rfl
   | 2, _ => rfl
theorem own_ne {B q : Nat} {X : World} {v : Value} {pc : List Pc} {cs : Array Value} {T : TypeId} (h : OwnPc B X v pc) (hq : v.ownBlock = some q) {b : Nat} (hb : X.heap[b]? = some (.cells cs T)) (hT : T ≠ 61) : q ≠ b := by
 rcases h.2 with ⟨rfl, _⟩ | ⟨g, cap, cur, rfl, h1, hg, _⟩
 · simp [Value.ownBlock] at hq
 · simp only [Value.ownBlock] at hq
   injection hq with hq
   subst hq
   rintro rfl
   rw [hb] at hg
   injection hg with e
   injection e with _ e _
   exact hT e
theorem RepS.of {w X : World} {r : List UInt8} {b11 b12 g : Nat} {v : Value} {pc : List Pc} (ho : OwnPc 0 X v pc) (ha : PqAll r pc) (h11 : Boxed X b11 52 v) (h12 : X.heap[b12]? = some (.cells #[.slice none 0 0, .int .i64 0, .bool false] 55))
 (hg : X.heap[g]? = some (.cells (madeCells #[.int .u8 0] 4000) 5)) (hb : Below w.heap.size w X) (hlo : w.heap.size ≤ b11 ∧ w.heap.size ≤ b12 ∧ w.heap.size ≤ g) :
 RepS w r b11 b12 g v pc (((X.setCell ⟨b12, 0, none⟩ (.slice (some ⟨g, 0, none⟩) 4000 4000)).setCell ⟨b12, 1, none⟩ (.int .i64 0)).setCell ⟨b12, 2, none⟩ (.bool false)) := by
 have n1 : b11 ≠ b12 := by rintro rfl; rw [show X.heap[b11]? = _ from h11] at h12; injection h12 with e; injection e with _ e _; exact absurd e (by decide)
 have n2 : b11 ≠ g := by rintro rfl; rw [show X.heap[b11]? = _ from h11] at hg; injection hg with e; injection e with _ e _; exact absurd e (by decide)
 have n3 : g ≠ b12 := by rintro rfl; rw [hg] at h12; injection h12 with e; injection e with _ e _; exact absurd e (by decide)
 have n4 : ∀ q, v.ownBlock = some q → q ≠ b11 ∧ q ≠ b12 ∧ q ≠ g := fun q hq => ⟨own_ne ho hq h11 (by decide), own_ne ho hq h12 (by decide), own_ne ho hq hg (by decide)⟩
 have hst : ∀ k, k ≠ b12 → (((X.setCell ⟨b12, 0, none⟩ (.slice (some ⟨g, 0, none⟩) 4000 4000)).setCell ⟨b12, 1, none⟩ (.int .i64 0)).setCell ⟨b12, 2, none⟩ (.bool false)).heap[k]? = X.heap[k]? := fun k h2 =>
  ((Below.heap_setCell _ _ _ _ h2).trans (Below.heap_setCell _ _ _ _ h2)).trans (Below.heap_setCell _ _ _ _ h2)
 refine ⟨?_, ha, (hst b11 n1).trans h11, Rm.laid hg h12 n3, ?_, hlo, n1, n2, n4⟩
 · obtain ⟨h1, h2⟩ := ho
   rcases h2 with ⟨rfl, h0⟩ | ⟨q, cap, cur, rfl, hbg, hq, hr⟩
   · exact ⟨h1, .inl ⟨rfl, h0⟩⟩
   · exact ⟨h1, .inr ⟨q, cap, cur, rfl, hbg, (hst q (n4 q rfl).2.1).trans hq, hr⟩⟩
 · exact (((hb.setCell (p := ⟨b12, 0, none⟩) hlo.2.1 _).setCell (p := ⟨b12, 1, none⟩) hlo.2.1 _).setCell (p := ⟨b12, 2, none⟩) hlo.2.1 _)
theorem keep_turn {X Y : World} {b k : Nat} {c c' : Array Value} {T T' : TypeId} (hY : ∀ k, k ≠ b → Y.heap[k]? = X.heap[k]?) (hb : X.heap[b]? = some (.cells c T)) (hk : X.heap[k]? = some (.cells c' T')) (hT : T ≠ T') : Y.heap[k]? = some (.cells c' T') :=
 (hY k (by rintro rfl; rw [hb] at hk; injection hk with e; injection e with _ e _; exact hT e)).trans hk
theorem OwnPc.turn {B : Nat} {X Y : World} {b : Nat} {c : Array Value} {T : TypeId} {v : Value} {pc : List Pc} (h : OwnPc B X v pc) (hY : ∀ k, k ≠ b → Y.heap[k]? = X.heap[k]?) (hb : X.heap[b]? = some (.cells c T)) (hT : T ≠ 61) : OwnPc B Y v pc := by
 have hn : ∀ q, v.ownBlock = some q → q ≠ b := fun q hq => own_ne h hq hb hT
 obtain ⟨h1, h2⟩ := h
 rcases h2 with ⟨rfl, h0⟩ | ⟨q, cap, cur, rfl, hbg, hq, hr⟩
 · exact ⟨h1, .inl ⟨rfl, h0⟩⟩
 · exact ⟨h1, .inr ⟨q, cap, cur, rfl, hbg, (hY q (hn q rfl)).trans hq, hr⟩⟩
variable {ops : Array Oper} {o : Oper} {a : Act} {K : Act → World → Prop} {Q : Exit → Act → World → Prop} {E : Prop}
theorem step_make4 {mc : Array Value} {w : World} {z : Value} (hgd : o.guard = none) (x y : Operand) (ho : o.op = .makeSlice 22 x y) (hx : a.eval x = z) (hy : a.eval y = z)
 (hmk : ∀ W, (Instr.makeSlice 22 z z).run Tryz.prog W = .ok (.slice (some ⟨W.heap.size, 0, none⟩) 4000 4000) (W.alloc (.cells mc 5)))
 (h : ∀ g w', w'.heap[g]? = some (.cells mc 5) → w.heap.size ≤ g → Below w.heap.size w w' → K (a.put o.dst (.slice (some ⟨g, 0, none⟩) 4000 4000)) w') : if Region.wanted o (yielded ops a.tmps) = true then Oper.wp Tryz.prog o a w K Q else E := by
 rw [if_pos (by simp [Region.wanted, hgd])]
 unfold Oper.wp execOp
 simp only [ho, hx, hy, Sem.run_bind, hmk, Result.andThen_ok]
 exact h _ _ (new_alloc0 _ _) (Nat.le_refl _) ((Below.refl _ w).alloc (Nat.le_refl _) _)
theorem step_alloc11 {w : World} (hgd : o.guard = none) (ho : o.op = .alloc 52)
 (h : ∀ g w', w'.heap[g]? = some (.cells #[.slice none 0 0] 52) → w.heap.size ≤ g → Below w.heap.size w w' → K (a.put o.dst (.pointer (some ⟨g, 0, none⟩))) w') : if Region.wanted o (yielded ops a.tmps) = true then Oper.wp Tryz.prog o a w K Q else E := by
 rw [if_pos (by simp [Region.wanted, hgd])]
 unfold Oper.wp execOp
 simp only [ho]
 go_simp
 exact h _ _ (new_alloc0 _ _) (Nat.le_refl _) ((Below.refl _ w).alloc (Nat.le_refl _) _)
theorem step_alloc12 {w : World} (hgd : o.guard = none) (ho : o.op = .alloc 55)
 (h : ∀ g w', w'.heap[g]? = some (.cells #[.slice none 0 0, .int .i64 0, .bool false] 55) → w.heap.size ≤ g → Below w.heap.size w w' → K (a.put o.dst (.pointer (some ⟨g, 0, none⟩))) w') : if Region.wanted o (yielded ops a.tmps) = true then Oper.wp Tryz.prog o a w K Q else E := by
 rw [if_pos (by simp [Region.wanted, hgd])]
 unfold Oper.wp execOp
 simp only [ho]
 go_simp
 exact h _ _ (new_alloc0 _ _) (Nat.le_refl _) ((Below.refl _ w).alloc (Nat.le_refl _) _)
theorem step_store11 {X : World} {b : Nat} {c : Value} {ap : Option Addr} {lp cp : Nat} (hb : X.heap[b]? = some (.cells #[c] 52)) (hgd : o.guard = none) (p x : Operand) (ho : o.op = .store 52 p x) (hp : a.eval p = .pointer (some ⟨b, 0, none⟩)) (hx : a.eval x = .slice ap lp cp)
 (hd : o.dst = none) (h : ∀ Y, Boxed Y b 52 (.slice ap lp cp) → (∀ k, k ≠ b → Y.heap[k]? = X.heap[k]?) → (∀ B, B ≤ b → Below B X Y) → K a Y) : if Region.wanted o (yielded ops a.tmps) = true then Oper.wp Tryz.prog o a X K Q else E := by
 have c0 : X.cell? ⟨b, 0, none⟩ = some c := (show Boxed X b _ c from hb).cell
 have f0 : X.frozen? ⟨b, 0, none⟩ = false := (show Boxed X b _ c from hb).frozen
 rw [if_pos (by simp [Region.wanted, hgd])]
 unfold Oper.wp execOp
 simp only [ho, hp, hx]
 go_simp
 exact h _ (Boxed.set _ (v := c) hb) (fun k hk => Below.heap_setCell _ _ _ _ hk) (fun B hB => (Below.refl _ _).setCell (p := ⟨b, 0, none⟩) hB _)
theorem step_store12 {X : World} {b : Nat} {v1 v2 v3 : Value} {g : Option Addr} {l c : Nat} {z : Int} {q : Bool} (hb : X.heap[b]? = some (.cells #[v1, v2, v3] 55)) (hgd : o.guard = none) (p x : Operand) (ho : o.op = .store 55 p x) (hp : a.eval p = .pointer (some ⟨b, 0, none⟩)) (hx : a.eval x = .agg #[.slice g l c, .int .i64 z, .bool q])
 (hd : o.dst = none) (h : K a (((X.setCell ⟨b, 0, none⟩ (.slice g l c)).setCell ⟨b, 1, none⟩ (.int .i64 z)).setCell ⟨b, 2, none⟩ (.bool q))) : if Region.wanted o (yielded ops a.tmps) = true then Oper.wp Tryz.prog o a X K Q else E := by
 have c0 : X.cell? ⟨b, 0, none⟩ = some v1 := by simp [World.cell?, hb]
 have c1 : X.cell? ⟨b, 1, none⟩ = some v2 := by simp [World.cell?, hb]
 have c2 : X.cell? ⟨b, 2, none⟩ = some v3 := by simp [World.cell?, hb]
 have f0 : X.frozen? ⟨b, 0, none⟩ = false := by simp [World.frozen?, hb]
 have f1 : X.frozen? ⟨b, 1, none⟩ = false := by simp [World.frozen?, hb]
 have f2 : X.frozen? ⟨b, 2, none⟩ = false := by simp [World.frozen?, hb]
 rw [if_pos (by simp [Region.wanted, hgd])]
 unfold Oper.wp execOp
 simp only [ho, hp, hx]
 go_simp
 exact h
structure RF (mc : Array Value) (w : World) (r : List UInt8) (ap : Option Addr) (cp : Nat) (pc : List Pc) (g b11 b12 : Nat) (d1 d2 d4 d5 d6 : Bool) (X : World) : Prop where
 h1 : d1 = true → OwnPc 0 X (.slice ap pc.length cp) pc ∧ PqAll r pc
 h2 : d2 = true → X.heap[g]? = some (.cells mc 5) ∧ w.heap.size ≤ g
 h4 : d4 = true → d6 = false → X.heap[b11]? = some (.cells #[.slice none 0 0] 52)
 h6 : d6 = true → Boxed X b11 52 (.slice ap pc.length cp)
 l4 : d4 = true → w.heap.size ≤ b11
 h5 : d5 = true → X.heap[b12]? = some (.cells #[.slice none 0 0, .int .i64 0, .bool false] 55) ∧ w.heap.size ≤ b12
 bel : Below w.heap.size w X
section
variable {mc : Array Value} {w X : World} {r : List UInt8} {ap : Option Addr} {cp : Nat} {pc : List Pc} {g b11 b12 : Nat} {d1 d2 d4 d5 d6 : Bool} {R : Act → World → Prop}
theorem RF.start (mc : Array Value) (w : World) (r : List UInt8) : RF mc w r none 0 [] 0 0 0 false false false false false w.drew :=
 ⟨fun h => (by cases h), fun h => (by cases h), fun h => (by cases h), fun h => (by cases h), fun h => (by cases h), fun h => (by cases h), (Below.refl _ _).drew⟩
theorem RF.kept (h : RF mc w r ap cp pc g b11 b12 d1 d2 d4 d5 d6 X) {Y : World} (hb : Below X.heap.size X Y) : RF mc w r ap cp pc g b11 b12 d1 d2 d4 d5 d6 Y :=
 ⟨fun e => ⟨(h.h1 e).1.kept hb, (h.h1 e).2⟩, fun e => ⟨keep_below hb (h.h2 e).1, (h.h2 e).2⟩, fun e e' => keep_below hb (h.h4 e e'), fun e => keep_below hb (h.h6 e), h.l4, fun e => ⟨keep_below hb (h.h5 e).1, (h.h5 e).2⟩, h.bel.trans (hb.mono h.bel.size)⟩
theorem RF.s2 {z : Value} (h : RF mc w r ap cp pc g b11 b12 d1 false d4 d5 d6 X) (hgd : o.guard = none) (x y : Operand) (ho : o.op = .makeSlice 22 x y) (hx : a.eval x = z) (hy : a.eval y = z)
 (hmk : ∀ W, (Instr.makeSlice 22 z z).run Tryz.prog W = .ok (.slice (some ⟨W.heap.size, 0, none⟩) 4000 4000) (W.alloc (.cells mc 5)))
 (hK : Shut (∀ a w, True → (True → R a w) → K a w)) (hn : ∀ g Y, RF mc w r ap cp pc g b11 b12 d1 true d4 d5 d6 Y → R (a.put o.dst (.slice (some ⟨g, 0, none⟩) 4000 4000)) Y) : if Region.wanted o (yielded ops a.tmps) = true then Oper.wp Tryz.prog o a X K Q else E :=
 step_make4 hgd x y ho hx hy hmk (fun g Y hg hl hb => hK.out _ _ trivial (fun _ => hn g Y (by
  have h' := h.kept hb
  exact ⟨h'.h1, fun _ => ⟨hg, Nat.le_trans h.bel.size hl⟩, h'.h4, h'.h6, h'.l4, h'.h5, h'.bel⟩)))
theorem RF.s4 (h : RF mc w r ap cp pc g b11 b12 d1 d2 false d5 false X) (hgd : o.guard = none) (ho : o.op = .alloc 52)
 (hK : Shut (∀ a w, True → (True → R a w) → K a w)) (hn : ∀ b11 Y, RF mc w r ap cp pc g b11 b12 d1 d2 true d5 false Y → R (a.put o.dst (.pointer (some ⟨b11, 0, none⟩))) Y) : if Region.wanted o (yielded ops a.tmps) = true then Oper.wp Tryz.prog o a X K Q else E :=
 step_alloc11 hgd ho (fun b Y hg hl hb => hK.out _ _ trivial (fun _ => hn b Y (by
  have h' := h.kept hb
  exact ⟨h'.h1, h'.h2, fun _ _ => hg, fun e => (by cases e), fun _ => Nat.le_trans h.bel.size hl, h'.h5, h'.bel⟩)))
theorem RF.s5 (h : RF mc w r ap cp pc g b11 b12 d1 d2 d4 false d6 X) (hgd : o.guard = none) (ho : o.op = .alloc 55)
 (hK : Shut (∀ a w, True → (True → R a w) → K a w)) (hn : ∀ b12 Y, RF mc w r ap cp pc g b11 b12 d1 d2 d4 true d6 Y → R (a.put o.dst (.pointer (some ⟨b12, 0, none⟩))) Y) : if Region.wanted o (yielded ops a.tmps) = true then Oper.wp Tryz.prog o a X K Q else E :=
 step_alloc12 hgd ho (fun b Y hg hl hb => hK.out _ _ trivial (fun _ => hn b Y (by
  have h' := h.kept hb
  exact ⟨h'.h1, h'.h2, h'.h4, h'.h6, h'.l4, fun _ => ⟨hg, Nat.le_trans h.bel.size hl⟩, h'.bel⟩)))
theorem RF.s1 (h : RF mc w r ap cp pc g b11 b12 false d2 d4 d5 false X) {B : Nat} {ap' : Option Addr} {cp' : Nat} {pc' : List Pc} {Y : World} (ho : OwnPc B Y (.slice ap' pc'.length cp') pc') (ha : PqAll r pc') (hb : Below X.heap.size X Y) : RF mc w r ap' cp' pc' g b11 b12 true d2 d4 d5 false Y := by
 have h' := h.kept hb
 exact ⟨fun _ => ⟨ho.low (Nat.zero_le _), ha⟩, h'.h2, h'.h4, fun e => (by cases e), h'.l4, h'.h5, h'.bel⟩
theorem RF.s6 (h : RF mc w r ap cp pc g b11 b12 true d2 true true false X) (hgd : o.guard = none) (p x : Operand) (ho : o.op = .store 52 p x) (hp : a.eval p = .pointer (some ⟨b11, 0, none⟩)) (hx : a.eval x = .slice ap pc.length cp) (hd : o.dst = none)
 (hK : Shut (∀ a w, True → (True → R a w) → K a w)) (hn : ∀ Y, RF mc w r ap cp pc g b11 b12 true d2 true true true Y → R a Y) : if Region.wanted o (yielded ops a.tmps) = true then Oper.wp Tryz.prog o a X K Q else E :=
 step_store11 (h.h4 rfl rfl) hgd p x ho hp hx hd (fun Y hY hk hb => hK.out _ _ trivial (fun _ => hn Y
  ⟨fun _ => ⟨(h.h1 rfl).1.turn hk (h.h4 rfl rfl) (by decide), (h.h1 rfl).2⟩, fun e => ⟨keep_turn hk (h.h4 rfl rfl) (h.h2 e).1 (by decide), (h.h2 e).2⟩, fun _ e => (by cases e), fun _ => hY, h.l4, fun _ => ⟨keep_turn hk (h.h4 rfl rfl) (h.h5 rfl).1 (by decide), (h.h5 rfl).2⟩, h.bel.trans (hb _ (h.l4 rfl))⟩))
theorem RF.s7 (h : RF mc w r ap cp pc g b11 b12 true true true true true X) (hmc : mc = madeCells #[.int .u8 0] 4000) (hgd : o.guard = none) (p x : Operand) (ho : o.op = .store 55 p x) (hp : a.eval p = .pointer (some ⟨b12, 0, none⟩)) (hx : a.eval x = .agg #[.slice (some ⟨g, 0, none⟩) 4000 4000, .int .i64 0, .bool false]) (hd : o.dst = none)
 (hK : Shut (∀ a w, True → (True → R a w) → K a w)) (hn : ∀ Y, RepS w r b11 b12 g (.slice ap pc.length cp) pc Y → R a Y) : if Region.wanted o (yielded ops a.tmps) = true then Oper.wp Tryz.prog o a X K Q else E :=
 step_store12 (h.h5 rfl).1 hgd p x ho hp hx hd (hK.out _ _ trivial (fun _ => hn _ (RepS.of (h.h1 rfl).1 (h.h1 rfl).2 (h.h6 rfl) (h.h5 rfl).1 (by rw [← hmc]; exact (h.h2 rfl).1) h.bel ⟨h.l4 rfl, (h.h5 rfl).2, (h.h2 rfl).2⟩)))
end
end Go.Proofs.YtcimhpdpfckgiaaGreatDoor.kit
