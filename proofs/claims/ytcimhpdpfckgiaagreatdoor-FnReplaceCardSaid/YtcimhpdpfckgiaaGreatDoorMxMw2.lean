/-
  A set that a pointer leads to: its two cells, and the row of its own that its words lie in; what a change of one set leaves alone. Conditions: each theorem names its own.
-/
import Derived.Test.YtcimhpdpfckgiaaGreatDoorMxMw1
import Derived.Test.YtcimhpdpfckgiaaGreatDoorMxMk1
import Derived.Laws.OwnMore
import Derived.BigQuiet
import Derived.Deep.QuietTactic
set_option linter.unusedVariables false
open Go.ChangeShapes Go.WideShapes Go.ChangeAt Go.RowKit
namespace Go.Proofs.YtcimhpdpfckgiaaGreatDoor.kit
theorem grown_set (W : World) (p : Addr) (u : Value) : W.grownBy (W.setCell p u) (some p.block) :=
 ⟨rfl, rfl, rfl, by simp [World.setCell], fun k _ hk => Below.heap_setCell _ _ _ _ (fun e => hk (by rw [e]))⟩
theorem OwnW.set {B : Nat} {W : World} {v : Value} {xs : List Nat} (h : OwnW B W v xs) (p : Addr) (u : Value) (hne : v.ownBlock ≠ some p.block) : OwnW B (W.setCell p u) v xs :=
 World.ownsRow.kept h (grown_set W p u) (.inr hne)
theorem OwnW.grown {B : Nat} {W W' : World} {v : Value} {xs : List Nat} {row : Option Nat} (h : OwnW B W v xs) (hg : W.grownBy W' row) (hne : v.ownBlock ≠ row) : OwnW B W' v xs := World.ownsRow.kept h hg (.inr hne)
theorem OwnW.lt {B : Nat} {W : World} {v : Value} {xs : List Nat} (h : OwnW B W v xs) : ∀ k, v.ownBlock = some k → B ≤ k ∧ k < W.heap.size := fun k hk => World.ownsRow.lt h k hk
structure SetAt (B q o sk : Nat) (ws : List Nat) (r : Option Nat) (w : World) : Prop where
 c0 : w.cell? ⟨q, o, none⟩ = some (.int .i64 (sk : Int))
 c1 : ∃ a c, w.cell? ⟨q, o + 1, none⟩ = some (.slice a ws.length c) ∧ OwnW B w (.slice a ws.length c) ws ∧ Value.ownBlock (.slice a ws.length c) = r
 f0 : w.frozen? ⟨q, o, none⟩ = false
 f1 : w.frozen? ⟨q, o + 1, none⟩ = false
 ne : r ≠ some q
structure SetChg (q o : Nat) (r r' : Option Nat) (w w' : World) : Prop where
 os : w'.os = w.os
 tape : w'.tape = w.tape
 output : w'.output = w.output
 size : w.heap.size ≤ w'.heap.size
 block : ∀ k, k < w.heap.size → k ≠ q → some k ≠ r → w'.heap[k]? = w.heap[k]?
 cell : ∀ j, j ≠ o → j ≠ o + 1 → w'.cell? ⟨q, j, none⟩ = w.cell? ⟨q, j, none⟩
 frozen : ∀ j, w'.frozen? ⟨q, j, none⟩ = w.frozen? ⟨q, j, none⟩
 row : ∀ k, r' = some k → r = some k ∨ w.heap.size ≤ k
theorem SetAt.lt {B q o sk : Nat} {ws : List Nat} {r : Option Nat} {w : World} (h : SetAt B q o sk ws r w) : q < w.heap.size := World.block_lt_of_cell? w ⟨q, o, none⟩ h.c0
theorem SetAt.rlt {B q o sk : Nat} {ws : List Nat} {r : Option Nat} {w : World} (h : SetAt B q o sk ws r w) : ∀ k, r = some k → B ≤ k ∧ k < w.heap.size := fun k hk => by
 obtain ⟨a, c, _, ho, hr⟩ := h.c1
 exact ho.lt k (hr.trans hk)
theorem SetAt.kept {B q o sk : Nat} {ws : List Nat} {r : Option Nat} {w w' : World} (h : SetAt B q o sk ws r w) (hb : Below w.heap.size w w') : SetAt B q o sk ws r w' := by
 obtain ⟨a, c, h1, ho, hr⟩ := h.c1
 exact ⟨(hb.cell (p := ⟨q, o, none⟩) h.lt).trans h.c0, ⟨a, c, (hb.cell (p := ⟨q, o + 1, none⟩) h.lt).trans h1, ho.kept hb, hr⟩, (hb.frozen (p := ⟨q, o, none⟩) h.lt).trans h.f0, (hb.frozen (p := ⟨q, o + 1, none⟩) h.lt).trans h.f1, h.ne⟩
theorem SetChg.of_below {q o : Nat} {r : Option Nat} {w w' : World} (hq : q < w.heap.size) (hb : Below w.heap.size w w') : SetChg q o r r w w' :=
 ⟨hb.os, hb.tape, hb.output, hb.size, fun k hk _ _ => hb.block k hk, fun j _ _ => hb.cell (p := ⟨q, j, none⟩) hq, fun j => hb.frozen (p := ⟨q, j, none⟩) hq, fun k hk => .inl hk⟩
theorem SetChg.trans {q o : Nat} {r r1 r2 : Option Nat} {w w1 w2 : World} (h : SetChg q o r r1 w w1) (h' : SetChg q o r1 r2 w1 w2) : SetChg q o r r2 w w2 :=
 ⟨h'.os.trans h.os, h'.tape.trans h.tape, h'.output.trans h.output, Nat.le_trans h.size h'.size,
   fun k hk h1 h2 => (h'.block k (Nat.lt_of_lt_of_le hk h.size) h1 (fun e => by
    rcases h.row k e.symm with a | a
    · exact h2 a.symm
    · omega)).trans (h.block k hk h1 h2),
   fun j h1 h2 => (h'.cell j h1 h2).trans (h.cell j h1 h2), fun j => (h'.frozen j).trans (h.frozen j),
   fun k hk => by
    rcases h'.row k hk with a | a
    · exact h.row k a
    · exact .inr (Nat.le_trans h.size a)⟩
theorem SetAt.put0 {B q o sk : Nat} {ws : List Nat} {r : Option Nat} {w : World} (h : SetAt B q o sk ws r w) (sk' : Nat) :
 SetAt B q o sk' ws r (w.setCell ⟨q, o, none⟩ (.int .i64 (sk' : Int))) ∧ SetChg q o r r w (w.setCell ⟨q, o, none⟩ (.int .i64 (sk' : Int))) := by
 obtain ⟨a, c, h1, ho, hr⟩ := h.c1
 refine ⟨⟨World.cell?_setCell_same w _ _ h.c0, ⟨a, c, ?_, ho.set _ _ (by rw [hr]; exact h.ne), hr⟩, by rw [World.frozen?_setCell]; exact h.f0, by rw [World.frozen?_setCell]; exact h.f1, h.ne⟩, ?_⟩
 · rw [World.cell?_setCell_other w _ _ _ (by intro e; injection e; omega)]; exact h1
 · refine ⟨rfl, rfl, rfl, by simp [World.setCell], fun k _ hk _ => Below.heap_setCell _ _ _ _ hk, fun j j0 j1 => ?_, fun j => World.frozen?_setCell _ _ _ _, fun k hk => .inl hk⟩
   rw [World.cell?_setCell_other w _ _ _ (by intro e; injection e; omega)]
theorem SetAt.put1 {B q o sk : Nat} {ws : List Nat} {r : Option Nat} {w : World} (h : SetAt B q o sk ws r w) (ws' : List Nat) (a' : Option Addr) (c' n' : Nat) (hn : n' = ws'.length) (ho : OwnW B w (.slice a' n' c') ws') (hne : Value.ownBlock (.slice a' n' c') ≠ some q) (hrow : ∀ k, Value.ownBlock (.slice a' n' c') = some k → r = some k ∨ w.heap.size ≤ k) :
 SetAt B q o sk ws' (Value.ownBlock (.slice a' n' c')) (w.setCell ⟨q, o + 1, none⟩ (.slice a' n' c')) ∧ SetChg q o r (Value.ownBlock (.slice a' n' c')) w (w.setCell ⟨q, o + 1, none⟩ (.slice a' n' c')) := by
 subst hn
 obtain ⟨a, c, h1, _, _⟩ := h.c1
 refine ⟨⟨?_, ⟨a', c', World.cell?_setCell_same w _ _ h1, ho.set _ _ hne, rfl⟩, by rw [World.frozen?_setCell]; exact h.f0, by rw [World.frozen?_setCell]; exact h.f1, hne⟩, ?_⟩
 · rw [World.cell?_setCell_other w _ _ _ (by intro e; injection e; omega)]; exact h.c0
 · refine ⟨rfl, rfl, rfl, by simp [World.setCell], fun k _ hk _ => Below.heap_setCell _ _ _ _ hk, fun j j0 j1 => ?_, fun j => World.frozen?_setCell _ _ _ _, hrow⟩
   rw [World.cell?_setCell_other w _ _ _ (by intro e; injection e; omega)]
theorem SetAt.grown {B q o sk : Nat} {ws ws' : List Nat} {r : Option Nat} {w w' : World} (h : SetAt B q o sk ws r w) (hg : w.grownBy w' r) (a' : Option Addr) (c' n' : Nat) (hn : n' = ws'.length) (ho : OwnW B w' (.slice a' n' c') ws') (hv : ∀ k, Value.ownBlock (.slice a' n' c') = some k → r = some k ∨ w.heap.size ≤ k) :
 SetAt B q o sk ws' (Value.ownBlock (.slice a' n' c')) (w'.setCell ⟨q, o + 1, none⟩ (.slice a' n' c')) ∧ SetChg q o r (Value.ownBlock (.slice a' n' c')) w (w'.setCell ⟨q, o + 1, none⟩ (.slice a' n' c')) := by
 subst hn
 obtain ⟨a, c, h1, _, _⟩ := h.c1
 have hq := h.lt
 have hne : Value.ownBlock (.slice a' ws'.length c') ≠ some q := fun e => by
  rcases hv q e with x | x
  · exact h.ne x
  · omega
 have hb : w'.heap[q]? = w.heap[q]? := hg.block q hq (fun e => h.ne e.symm)
 have hc : ∀ j, w'.cell? ⟨q, j, none⟩ = w.cell? ⟨q, j, none⟩ := fun j => cob (a := ⟨q, j, none⟩) hb
 have hf : ∀ j, w'.frozen? ⟨q, j, none⟩ = w.frozen? ⟨q, j, none⟩ := fun j => World.frozen?_of_block (a := ⟨q, j, none⟩) hb
 refine ⟨⟨?_, ⟨a', c', World.cell?_setCell_same w' _ _ ((hc _).trans h1), ho.set _ _ hne, rfl⟩, by rw [World.frozen?_setCell, hf]; exact h.f0, by rw [World.frozen?_setCell, hf]; exact h.f1, hne⟩, ?_⟩
 · rw [World.cell?_setCell_other w' _ _ _ (by intro e; injection e; omega), hc]; exact h.c0
 · refine ⟨hg.os, hg.tape, hg.output, Nat.le_trans hg.size (by simp [World.setCell]), fun k hk hkq hkr => (Below.heap_setCell _ _ _ _ hkq).trans (hg.block k hk hkr), fun j j0 j1 => ?_, fun j => by rw [World.frozen?_setCell, hf], hv⟩
   rw [World.cell?_setCell_other w' _ _ _ (by intro e; injection e; omega), hc]
theorem run_append_word {w : World} (ty : TypeId) (B : Nat) (v : Value) (xs : List Nat) (hown : OwnW B w v xs) (g c x : Nat) (hnew : w.cell? ⟨g, 0, none⟩ = some (uV x)) (hl : xs.length + 1 ≤ 1099511627776) (hB : B ≤ w.heap.size) :
 ∃ v' w', (Builtin.append_ #[66, 66] ty #[v, .slice (some ⟨g, 0, none⟩) 1 c]).run Tryz.prog w = .ok v' w' ∧ OwnW B w' v' (xs ++ [x]) ∧ w.grownBy w' v.ownBlock ∧ (∀ k, v'.ownBlock = some k → v.ownBlock = some k ∨ w.heap.size ≤ k) := by
 obtain ⟨i, hi, hz, hz1, hz2⟩ := info_parts infoWord
 have hl' : ([uV x]).length = 1 * i.size := by rw [hz1]; rfl
 have hnews : ∀ j u, ([uV x])[j]? = some u → w.cell? ((⟨g, 0, none⟩ : Addr).add j) = some u := fun j u hu => by
  have hj : j < 1 := (List.getElem?_eq_some_iff.1 hu).1
  obtain rfl : j = 0 := by omega
  have e : (⟨g, 0, none⟩ : Addr).add 0 = ⟨g, 0, none⟩ := by unfold Addr.add; split <;> simp_all
  rw [e, hnew]; simpa using hu
 have h1 : ∀ u ∈ ([uV x]), u.oneCell' = true := by intro u hu; simp at hu; subst hu; rfl
 obtain ⟨v', w', hr, h2, h3, _⟩ := run_append_own (P := Tryz.prog) w B 66 ty 106 i (.int .u64 0) 1 8 Tryz.underlying66 hi hz hz1 hz2 rfl (by decide) v xs.length _ hown ⟨g, 0, none⟩ 1 c [uV x] rfl hnews h1 (by simp only [maxLen]; omega) (by omega) hB
 refine ⟨v', w', hr, by simpa [OwnW, List.map_append] using h2, h3, ?_⟩
 rcases hown.2 with ⟨rfl, h0⟩ | ⟨b, cap, cur, rfl, hbg, hg, hnc, hcm, hcs, htake⟩
 · have hr2 := run_append_nil (P := Tryz.prog) w 66 ty 106 i (.int .u64 0) Tryz.underlying66 hi hz ⟨g, 0, none⟩ 1 c [uV x] hl' hnews (by omega) (by omega) (by omega)
   rw [hr] at hr2; injection hr2 with q1 q2; subst q1
   intro k hk; simp only [Value.ownBlock] at hk; right; injection hk with hk; omega
 · by_cases hroom : xs.length + 1 ≤ cap
   · have hfit : xs.length * i.size + ([uV x]).length ≤ cur.size := by rw [hcs, hz1]; simp; omega
     have hr2 := run_append_room (P := Tryz.prog) w 66 ty 106 i Tryz.underlying66 hi b xs.length cap cur hg ⟨g, 0, none⟩ 1 c [uV x] hl' hnews h1 hroom hfit
     rw [hr] at hr2; injection hr2 with q1 q2; subst q1
     intro k hk; exact .inl hk
   · have holds : ∀ j u, (xs.map uV)[j]? = some u → w.cell? ((⟨b, 0, none⟩ : Addr).add j) = some u := World.ownsRow.cells hown (g := b) rfl
     have hr2 := run_append_grow (P := Tryz.prog) w 66 ty 106 i (.int .u64 0) Tryz.underlying66 hi hz ⟨b, 0, none⟩ xs.length cap (xs.map uV) (by rw [hz1]; simp) holds ⟨g, 0, none⟩ 1 c [uV x] hl' hnews (by omega) (by omega) (growslice_fits (by omega) (by rw [hz2]; omega))
     rw [hr] at hr2; injection hr2 with q1 q2; subst q1
     intro k hk; simp only [Value.ownBlock] at hk; right; injection hk with hk; omega
theorem wp_append_word {w : World} {ops : Array Oper} {rest : List Oper} {o : Oper} {a : Act} {Q : Exit → Act → World → Prop} (hgd : o.guard = none) (s x : Operand)
 (ho : o.op = .call { callee := .builtin .append, args := #[s, x], argTypes := #[66, 66] }) (B : Nat) (v : Value) (xs : List Nat) (hs : a.eval s = v) (hown : OwnW B w v xs)
 (g c y : Nat) (hx : a.eval x = .slice (some ⟨g, 0, none⟩) 1 c) (hnew : w.cell? ⟨g, 0, none⟩ = some (uV y)) (n' : Nat) (hn : n' = xs.length + 1) (hl : xs.length + 1 ≤ 1099511627776) (hB : B ≤ w.heap.size)
 (h : ∀ a' c' w', OwnW B w' (.slice a' n' c') (xs ++ [y]) → w.grownBy w' v.ownBlock → (∀ k, Value.ownBlock (.slice a' n' c') = some k → v.ownBlock = some k ∨ w.heap.size ≤ k) → wpList Tryz.prog ops Q rest (a.put o.dst (.slice a' n' c')) w') : wpList Tryz.prog ops Q (o :: rest) a w := by
 obtain ⟨v', w', hr, h2, h3, h4⟩ := run_append_word o.type B v xs hown g c y hnew hl hB
 obtain ⟨a', c', rfl, _⟩ := h2.at
 have hl2 : (xs ++ [y]).length = n' := by rw [hn]; simp
 rw [hl2] at h2 h4 hr
 refine wpList_plain hgd fun _ hK => ?_
 unfold Oper.wp execOp
 simp only [ho, resolve, invoke, builtin, Sem.run_bind, Sem.run_pure, Result.andThen_ok, List.map_toArray, List.map_cons, List.map_nil, hs, hx, hr]
 exact hK _ _ (h a' c' w' h2 h3 h4)
theorem run_make_words (W : World) (k : Nat) (hk : k ≤ 4194304) : (Instr.makeSlice 66 (.int .i64 (k : Int)) (.int .i64 (k : Int))).run Tryz.prog W = .ok (.slice (some ⟨W.heap.size, 0, none⟩) k k) (W.alloc (.cells (madeCells #[.int .u64 0] k) 106)) := by
 obtain ⟨i, hi, hz, hz1, hz2⟩ := info_parts infoWord
 have h := run_make (P := Tryz.prog) W 66 106 i (.int .u64 0) Tryz.underlying66 hi hz .i64 .i64 k k (by omega) (Int.le_refl _) (by rw [hz2]; omega) (by omega)
 simp only [Int.toNat_natCast, hz1, Nat.mul_one] at h
 exact h
theorem made_words (W : World) (k : Nat) (hk : k ≤ 4194304) : OwnW W.heap.size (W.alloc (.cells (madeCells #[.int .u64 0] k) 106)) (.slice (some ⟨W.heap.size, 0, none⟩) k k) (List.replicate k 0) := by
 have h := World.ownsRow_lit (base := W.heap.size) (e := 106) (size := 1) W (madeCells #[.int .u64 0] k) k (Nat.le_refl _) (by simp only [maxLen]; omega) (by rw [size_madeCells, Nat.mul_one])
 unfold OwnW
 rw [List.length_replicate]
 have e : (madeCells #[Value.int .u64 0] k).toList = (List.replicate k 0).map uV := by
  rw [toList_madeCells_one, List.map_replicate]; rfl
 rw [e] at h
 exact h
theorem below_drew0 (w : World) (n B : Nat) : Below B w (w.drewN n) := ⟨rfl, rfl, rfl, Nat.le_refl _, fun _ _ => rfl⟩
theorem rep_snoc (l : List Nat) (m : Nat) : l ++ List.replicate (m + 1) 0 = (l ++ List.replicate m 0) ++ [0] := by rw [List.append_assoc, ← List.replicate_succ']
def CovPost (B q o sk : Nat) (ws : List Nat) (r : Option Nat) (b e : Nat) (w : World) (en : Ending) (w' : World) : Prop :=
 (∃ v, en = .returned v) ∧ ∃ r', SetAt B q o (covSk sk ws b) (covWs sk ws b e) r' w' ∧ SetChg q o r r' w w'
set_option maxRecDepth 100000 in
set_option maxHeartbeats 1000000 in
theorem cover_nil (B q o sk : Nat) (r : Option Nat) (b e : Nat) (w : World) (h : SetAt B q o sk [] r w) (hbe : b ≤ e) (he : e ≤ 1048576) (hB : B ≤ w.heap.size) :
 Calls Tryz.prog 60 #[.pointer (some ⟨q, o, none⟩), .int .i64 (b : Int), .int .i64 (e : Int)] w (CovPost B q o sk [] r b e w) := by
 have hcs : covSk sk [] b = b := by simp [covSk]
 have HCOV := qd (show ∀ m, m = e - b → covWs sk [] b e = [] ++ List.replicate m 0 from fun m hm => by simp [covWs, covSk, hm])
 unfold CovPost
 rw [hcs]
 clear hcs
 have HS := qd h
 obtain ⟨a, c, c1, ho, hr⟩ := h.c1
 have c0 := h.c0
 clear h ho hr
 rw [List.length_nil] at c1
 obtain ⟨M, hM⟩ : ∃ M, M = e - b := ⟨_, rfl⟩
 have he0 : decide ((0 : Nat) = 0) = true := rfl
 go_enter Tryz.func60, Tryz.ntmps60
 go_wp2_with fail
 refine (setEmpty_any sk a 0 c _ (by omega)).mono ?_
 rintro en w1 ⟨rfl, hb1⟩
 have S1 := qd (HS.out.kept hb1)
 have HB1 := qd hb1
 clear hb1 c0 c1
 obtain ⟨a1, c1', c1, _, _⟩ := S1.out.c1
 have c0 := S1.out.c0
 have f0 := S1.out.f0
 have f1 := S1.out.f1
 rw [List.length_nil] at c1
 have HP := qd (S1.out.put0 b)
 have HCC := qd ((SetChg.of_below (o := o) (r := r) HS.out.lt HB1.out).trans HP.out.2)
 go_wp2_with fail
 go_loopg [] (M) (fun gg wr => ∃ (m : Nat) (r' : Option Nat), m + gg = M ∧ SetAt B q o b (([] : List Nat) ++ List.replicate m 0) r' wr ∧ SetChg q o r r' w wr)
 case atStart => exact ⟨0, _, by omega, by rw [List.replicate_zero, List.append_nil]; exact HP.out.1, HCC.out⟩
 case round =>
  obtain ⟨m, r', hm, hA, hC⟩ := hrel
  have HA := qd hA
  have HC := qd hC
  obtain ⟨a2, c2, h1, ho, hr⟩ := hA.c1
  have HO := qd ho
  have HRR := qd hr
  have c0 := hA.c0
  have f0 := hA.f0
  have f1 := hA.f1
  clear hA hC ho hr
  have hlen : (([] : List Nat) ++ List.replicate m 0).length = 0 + m := by rw [List.length_append, List.length_replicate, List.length_nil]
  have HLEN := qd hlen
  obtain ⟨n2, hn2⟩ : ∃ n2, n2 = (([] : List Nat) ++ List.replicate m 0).length := ⟨_, rfl⟩
  rw [← hn2] at h1
  have HN2 := qd (hn2.trans hlen)
  have HN3 := qd hn2
  have hb2 : b + n2 ≤ 2097152 ∧ n2 ≤ 2097152 := by rw [hn2, hlen]; omega
  have hw2 : IntKind.i64.wrap ((b : Int) + (n2 : Int)) = (b : Int) + (n2 : Int) := by rw [IntKind.wrap_i64]; omega
  by_cases hg : gk = 0
  · have hlt : decide (((b : Nat) : Int) + (n2 : Int) < (e : Int)) = false := by rw [decide_eq_false_iff_not]; have := HN2.out; omega
    clear hlen hn2 hb2
    go_wp2_with fail
    go_quiet (fail)
    go_wp2_with fail
    go_end0
    refine ⟨⟨_, rfl⟩, ?_⟩
    have HE := HCOV.out m (by omega)
    rw [HE]
    exact ⟨r', HA.out.kept (below_drew0 _ _ _), HC.out.trans (.of_below HA.out.lt (below_drew0 _ _ _))⟩
  · have hlt : decide (((b : Nat) : Int) + (n2 : Int) < (e : Int)) = true := by rw [decide_eq_true_eq]; have := HN2.out; omega
    have HBZ := qd (show B ≤ wr.heap.size from Nat.le_trans hB HC.out.size)
    have HL1 := qd (show (([] : List Nat) ++ List.replicate m 0).length + 1 ≤ 1099511627776 by rw [hlen]; omega)
    obtain ⟨n3, hn3⟩ : ∃ n3, n3 = (([] : List Nat) ++ List.replicate m 0).length + 1 := ⟨_, rfl⟩
    have HN4 := qd hn3
    clear hlen hn2 hb2 hn3
    go_wp2_with fail
    go_quiet (fail)
    have HA2 := qd (HA.out.kept (below_drew0 wr nq _))
    have HC2 := qd (HC.out.trans (.of_below HA.out.lt (below_drew0 wr nq _)))
    have HO2 := qd (HO.out.kept (below_drew0 wr nq _))
    have HBZ2 := qd (show B ≤ (wr.drewN nq).heap.size from HBZ.out)
    generalize wr.drewN nq = w2 at *
    clear c0 f0 f1 h1
    obtain ⟨a3, c3, h1, ho, hr⟩ := HA2.out.c1
    have HO := qd ho
    have HR3 := qd hr
    rw [← HN3.out] at h1
    have c0 := HA2.out.c0
    have f0 := HA2.out.f0
    have f1 := HA2.out.f1
    clear ho hr
    have HBB := qd (show ∀ o, Below w2.heap.size w2 (w2.alloc o) from fun o => (Below.refl _ w2).alloc (Nat.le_refl _) o)
    have HNB := qd (show ∀ o, (w2.alloc o).heap.size = w2.heap.size + 1 from fun o => by simp)
    have hq2 := HA2.out.lt
    go_wp2_with (at_builtin; refine wp_append_word rfl _ _ rfl B (.slice a3 n2 c3) (([] : List Nat) ++ List.replicate m 0) rfl (by rw [HN3.out]; exact HO.out.kept (HBB.out _)) w2.heap.size 1 0 rfl (cell_one w2 _ _) n3 HN4.out HL1.out (by rw [HNB.out]; have := HBZ2.out; omega) ?_; intro a4 c4 w4 ho4 hg4 hv4; have HO4 := qd ho4; have HG4 := qd hg4; have HV4 := qd hv4; clear ho4 hg4 hv4; have y0 := (cob (a := ⟨q, o, none⟩) (HG4.out.block q (by rw [HNB.out]; omega) (fun x => HA2.out.ne (by rw [← HR3.out, ← HN3.out]; exact x.symm)))).trans (((HBB.out _).cell (p := ⟨q, o, none⟩) hq2).trans c0); have y1 := (cob (a := ⟨q, o + 1, none⟩) (HG4.out.block q (by rw [HNB.out]; omega) (fun x => HA2.out.ne (by rw [← HR3.out, ← HN3.out]; exact x.symm)))).trans (((HBB.out _).cell (p := ⟨q, o + 1, none⟩) hq2).trans h1); have z1 := (World.frozen?_of_block (a := ⟨q, o + 1, none⟩) (HG4.out.block q (by rw [HNB.out]; omega) (fun x => HA2.out.ne (by rw [← HR3.out, ← HN3.out]; exact x.symm)))).trans (((HBB.out _).frozen (p := ⟨q, o + 1, none⟩) hq2).trans f1))
    go_roundg (gk - 1)
    case measure => omega
    case rel =>
        have hgr : Value.ownBlock (.slice a3 n2 c3) = r' := by rw [HN3.out]; exact HR3.out
        have g4 := HG4.out
        rw [hgr] at g4
        have hM := (HA2.out.kept (HBB.out (.cells #[.int .u64 0] 106))).grown g4 (ws' := ([] : List Nat) ++ List.replicate (m + 1) 0) a4 c4 n3 (by rw [rep_snoc, List.length_append]; exact HN4.out) (by rw [rep_snoc]; exact HO4.out) (fun k hk => (HV4.out k hk).elim (fun x => .inl (by rw [← hgr]; exact x)) (fun x => .inr x))
        exact ⟨m + 1, _, by omega, hM.1, (HC2.out.trans (.of_below HA2.out.lt (HBB.out _))).trans hM.2⟩
set_option maxRecDepth 100000 in
set_option maxHeartbeats 1000000 in
theorem cover_keep (B q o sk : Nat) (ws : List Nat) (r : Option Nat) (b e : Nat) (w : World) (h : SetAt B q o sk ws r w) (hne : ws ≠ []) (hsb : sk ≤ b) (hl : sk + ws.length ≤ 1048576) (hbe : b ≤ e) (he : e ≤ 1048576) (hB : B ≤ w.heap.size) :
 Calls Tryz.prog 60 #[.pointer (some ⟨q, o, none⟩), .int .i64 (b : Int), .int .i64 (e : Int)] w (CovPost B q o sk ws r b e w) := by
 have hcs : covSk sk ws b = sk := by unfold covSk; rw [if_neg hne]; omega
 have HCOV := qd (show ∀ m, m = e - (sk + ws.length) → covWs sk ws b e = ws ++ List.replicate m 0 from fun m hm => by
  unfold covWs; rw [hcs, if_neg hne, if_neg hne, hm, show sk - b = 0 by omega]; simp)
 unfold CovPost
 rw [hcs]
 have hn0 : ws.length ≠ 0 := fun x => hne (List.length_eq_zero_iff.1 x)
 clear hcs hne
 have HS := qd h
 obtain ⟨a, c, c1, ho, hr⟩ := h.c1
 have c0 := h.c0
 clear h ho hr
 obtain ⟨n, hn⟩ : ∃ n, n = ws.length := ⟨_, rfl⟩
 have HN := qd hn
 rw [← hn] at c1 hn0
 obtain ⟨M, hM⟩ : ∃ M, M = e - (sk + ws.length) := ⟨_, rfl⟩
 have he0 : decide (n = 0) = false := decide_eq_false hn0
 have hnb : n ≤ 1048576 := by omega
 have hlt0 : ¬ ((b : Nat) : Int) < (sk : Int) := by omega
 have hlt1 : decide (b < sk) = false := decide_eq_false (by omega)
 clear hn hn0
 go_enter Tryz.func60, Tryz.ntmps60
 go_wp2_with fail
 refine (setEmpty_any sk a n c _ hnb).mono ?_
 rintro en w1 ⟨rfl, hb1⟩
 have S1 := qd (HS.out.kept hb1)
 have HB1 := qd hb1
 clear hb1 c0 c1
 obtain ⟨a1, c1', c1, _, _⟩ := S1.out.c1
 have c0 := S1.out.c0
 have f0 := S1.out.f0
 have f1 := S1.out.f1
 rw [← HN.out] at c1
 have HCC := qd (SetChg.of_below (o := o) (r := r) HS.out.lt HB1.out)
 go_wp2_with fail
 go_loopg [] (M) (fun gg wr => ∃ (m : Nat) (r' : Option Nat), m + gg = M ∧ SetAt B q o sk (ws ++ List.replicate m 0) r' wr ∧ SetChg q o r r' w wr)
 case atStart => exact ⟨0, _, by omega, by rw [List.replicate_zero, List.append_nil]; exact S1.out, HCC.out⟩
 case round =>
  obtain ⟨m, r', hm, hA, hC⟩ := hrel
  have HA := qd hA
  have HC := qd hC
  obtain ⟨a2, c2, h1, ho, hr⟩ := hA.c1
  have HO := qd ho
  have HRR := qd hr
  have c0 := hA.c0
  have f0 := hA.f0
  have f1 := hA.f1
  clear hA hC ho hr
  have hlen : (ws ++ List.replicate m 0).length = ws.length + m := by rw [List.length_append (bs := List.replicate m 0), List.length_replicate]
  have HLEN := qd hlen
  obtain ⟨n2, hn2⟩ : ∃ n2, n2 = (ws ++ List.replicate m 0).length := ⟨_, rfl⟩
  rw [← hn2] at h1
  have HN2 := qd (hn2.trans hlen)
  have HN3 := qd hn2
  have hb2 : sk + n2 ≤ 2097152 ∧ n2 ≤ 2097152 := by rw [hn2, hlen]; omega
  have hw2 : IntKind.i64.wrap ((sk : Int) + (n2 : Int)) = (sk : Int) + (n2 : Int) := by rw [IntKind.wrap_i64]; omega
  by_cases hg : gk = 0
  · have hlt : decide (((sk : Nat) : Int) + (n2 : Int) < (e : Int)) = false := by rw [decide_eq_false_iff_not]; have := HN2.out; omega
    clear hlen hn2 hb2
    go_wp2_with fail
    go_quiet (fail)
    go_wp2_with fail
    go_end0
    refine ⟨⟨_, rfl⟩, ?_⟩
    have HE := HCOV.out m (by omega)
    rw [HE]
    exact ⟨r', HA.out.kept (below_drew0 _ _ _), HC.out.trans (.of_below HA.out.lt (below_drew0 _ _ _))⟩
  · have hlt : decide (((sk : Nat) : Int) + (n2 : Int) < (e : Int)) = true := by rw [decide_eq_true_eq]; have := HN2.out; omega
    have HBZ := qd (show B ≤ wr.heap.size from Nat.le_trans hB HC.out.size)
    have HL1 := qd (show (ws ++ List.replicate m 0).length + 1 ≤ 1099511627776 by rw [hlen]; omega)
    obtain ⟨n3, hn3⟩ : ∃ n3, n3 = (ws ++ List.replicate m 0).length + 1 := ⟨_, rfl⟩
    have HN4 := qd hn3
    clear hlen hn2 hb2 hn3
    go_wp2_with fail
    go_quiet (fail)
    have HA2 := qd (HA.out.kept (below_drew0 wr nq _))
    have HC2 := qd (HC.out.trans (.of_below HA.out.lt (below_drew0 wr nq _)))
    have HO2 := qd (HO.out.kept (below_drew0 wr nq _))
    have HBZ2 := qd (show B ≤ (wr.drewN nq).heap.size from HBZ.out)
    generalize wr.drewN nq = w2 at *
    clear c0 f0 f1 h1
    obtain ⟨a3, c3, h1, ho, hr⟩ := HA2.out.c1
    have HO := qd ho
    have HR3 := qd hr
    rw [← HN3.out] at h1
    have c0 := HA2.out.c0
    have f0 := HA2.out.f0
    have f1 := HA2.out.f1
    clear ho hr
    have HBB := qd (show ∀ o, Below w2.heap.size w2 (w2.alloc o) from fun o => (Below.refl _ w2).alloc (Nat.le_refl _) o)
    have HNB := qd (show ∀ o, (w2.alloc o).heap.size = w2.heap.size + 1 from fun o => by simp)
    have hq2 := HA2.out.lt
    go_wp2_with (at_builtin; refine wp_append_word rfl _ _ rfl B (.slice a3 n2 c3) (ws ++ List.replicate m 0) rfl (by rw [HN3.out]; exact HO.out.kept (HBB.out _)) w2.heap.size 1 0 rfl (cell_one w2 _ _) n3 HN4.out HL1.out (by rw [HNB.out]; have := HBZ2.out; omega) ?_; intro a4 c4 w4 ho4 hg4 hv4; have HO4 := qd ho4; have HG4 := qd hg4; have HV4 := qd hv4; clear ho4 hg4 hv4; have y0 := (cob (a := ⟨q, o, none⟩) (HG4.out.block q (by rw [HNB.out]; omega) (fun x => HA2.out.ne (by rw [← HR3.out, ← HN3.out]; exact x.symm)))).trans (((HBB.out _).cell (p := ⟨q, o, none⟩) hq2).trans c0); have y1 := (cob (a := ⟨q, o + 1, none⟩) (HG4.out.block q (by rw [HNB.out]; omega) (fun x => HA2.out.ne (by rw [← HR3.out, ← HN3.out]; exact x.symm)))).trans (((HBB.out _).cell (p := ⟨q, o + 1, none⟩) hq2).trans h1); have z1 := (World.frozen?_of_block (a := ⟨q, o + 1, none⟩) (HG4.out.block q (by rw [HNB.out]; omega) (fun x => HA2.out.ne (by rw [← HR3.out, ← HN3.out]; exact x.symm)))).trans (((HBB.out _).frozen (p := ⟨q, o + 1, none⟩) hq2).trans f1))
    go_roundg (gk - 1)
    case measure => omega
    case rel =>
        have hgr : Value.ownBlock (.slice a3 n2 c3) = r' := by rw [HN3.out]; exact HR3.out
        have g4 := HG4.out
        rw [hgr] at g4
        have hM := (HA2.out.kept (HBB.out (.cells #[.int .u64 0] 106))).grown g4 (ws' := ws ++ List.replicate (m + 1) 0) a4 c4 n3 (by rw [rep_snoc, List.length_append]; exact HN4.out) (by rw [rep_snoc]; exact HO4.out) (fun k hk => (HV4.out k hk).elim (fun x => .inl (by rw [← hgr]; exact x)) (fun x => .inr x))
        exact ⟨m + 1, _, by omega, hM.1, (HC2.out.trans (.of_below HA2.out.lt (HBB.out _))).trans hM.2⟩
theorem OwnW.mono {B B' : Nat} {w : World} {v : Value} {xs : List Nat} (h : OwnW B w v xs) (hB : B' ≤ B) : OwnW B' w v xs := by
 obtain ⟨h1, h2⟩ := h
 refine ⟨h1, ?_⟩
 rcases h2 with h2 | ⟨g, cap, cur, hv, hg, r⟩
 · exact .inl h2
 · exact .inr ⟨g, cap, cur, hv, Nat.le_trans hB hg, r⟩
theorem step_append_words2 {w : World} {ops : Array Oper} {o : Oper} {a : Act} {K : Act → World → Prop} {Q : Exit → Act → World → Prop} {E : Prop} (hgd : o.guard = none) (s x : Operand)
 (ho : o.op = .call { callee := .builtin .append, args := #[s, x], argTypes := #[66, 66] }) (B : Nat) (v : Value) (xs : List Nat) (hs : a.eval s = v) (hown : OwnW B w v xs) (hne : v ≠ .slice none 0 0)
 (ad : Addr) (c m : Nat) (news : List Nat) (hm : m = news.length) (hx : a.eval x = .slice (some ad) m c) (hnews : ∀ (j : Nat) (h : j < news.length), w.cell? (ad.add j) = some (uV news[j])) (n' : Nat) (hn' : n' = (xs ++ news).length) (hl : xs.length + news.length ≤ 1099511627776) (hB : B ≤ w.heap.size)
 (h : ∀ a' c' w', OwnW B w' (.slice a' n' c') (xs ++ news) → Below B w w' → K (a.put o.dst (.slice a' n' c')) w') : if Region.wanted o (yielded ops a.tmps) = true then Oper.wp Tryz.prog o a w K Q else E :=
 step_append_words hgd s x ho B v xs hs hown hne ad c m news hm hx hnews hl hB (fun v' w' h1 _ h3 => by
  obtain ⟨a', c', rfl, _⟩ := h1.at
  rw [← hn'] at h1 ⊢
  exact h a' c' w' h1 h3)
theorem word_at {w : World} {ws : List Nat} {b : Nat} (h : ∀ (j : Nat) (h : j < ws.length), w.cell? ⟨b, j, none⟩ = some (uV ws[j])) : ∀ (j : Nat) (h : j < ws.length), w.cell? ((⟨b, 0, none⟩ : Addr).add j) = some (uV ws[j]) := fun j hj => by
 have e : (⟨b, 0, none⟩ : Addr).add j = ⟨b, j, none⟩ := by unfold Addr.add; split <;> simp_all
 rw [e]; exact h j hj
set_option maxRecDepth 100000 in
set_option maxHeartbeats 2000000 in
theorem cover_ahead (B q o sk : Nat) (ws : List Nat) (r : Option Nat) (b e : Nat) (w : World) (h : SetAt B q o sk ws r w) (hne : ws ≠ []) (hsb : b < sk) (hl : sk + ws.length ≤ 1048576) (hbe : b ≤ e) (he : e ≤ 1048576) (hB : B ≤ w.heap.size) :
 Calls Tryz.prog 60 #[.pointer (some ⟨q, o, none⟩), .int .i64 (b : Int), .int .i64 (e : Int)] w (CovPost B q o sk ws r b e w) := by
 have hcs : covSk sk ws b = b := by unfold covSk; rw [if_neg hne]; omega
 obtain ⟨k, hk⟩ : ∃ k, k = sk - b := ⟨_, rfl⟩
 have HCOV := qd (show ∀ m, m = e - (b + (List.replicate k 0 ++ ws).length) → covWs sk ws b e = (List.replicate k 0 ++ ws) ++ List.replicate m 0 from fun m hm => by
  unfold covWs; rw [hcs, if_neg hne, if_neg hne, hm, hk]; simp)
 unfold CovPost
 rw [hcs]
 have hn0 : ws.length ≠ 0 := fun x => hne (List.length_eq_zero_iff.1 x)
 clear hcs hne
 have HS := qd h
 obtain ⟨a, c, c1, ho, hr⟩ := h.c1
 have c0 := h.c0
 clear h ho hr
 obtain ⟨n, hn⟩ : ∃ n, n = ws.length := ⟨_, rfl⟩
 have HN := qd hn
 rw [← hn] at c1 hn0
 obtain ⟨nn, hnn⟩ : ∃ nn, nn = (List.replicate k 0 ++ ws).length := ⟨_, rfl⟩
 have HNN := qd hnn
 have hnl : (List.replicate k 0 ++ ws).length = k + n := by rw [List.length_append, List.length_replicate, ← hn]
 have HNL := qd hnl
 have hbn : b + (List.replicate k 0 ++ ws).length ≤ 1048576 := by rw [hnl]; omega
 obtain ⟨M, hM⟩ : ∃ M, M = e - (b + (List.replicate k 0 ++ ws).length) := ⟨_, rfl⟩
 have he0 : decide (n = 0) = false := decide_eq_false hn0
 have hnb : n ≤ 1048576 := by omega
 have hlt0 : ((b : Nat) : Int) < (sk : Int) := by omega
 have hwk : IntKind.i64.wrap ((sk : Int) - (b : Int)) = (k : Int) := by rw [IntKind.wrap_i64]; omega
 have hk4 : k ≤ 4194304 := by omega
 have hmk := fun W => run_make_words W k hk4
 have HML := qd (show (List.replicate k 0).length + ws.length ≤ 1099511627776 by rw [List.length_replicate]; omega)
 have HK := qd hk
 clear hn hn0 hnn hnl hk
 go_enter Tryz.func60, Tryz.ntmps60
 go_wp2_with fail
 refine (setEmpty_any sk a n c _ hnb).mono ?_
 rintro en w1 ⟨rfl, hb1⟩
 have S1 := qd (HS.out.kept hb1)
 have HB1 := qd hb1
 clear hb1 c0 c1
 obtain ⟨a1, c1', c1, ho1, hr1⟩ := S1.out.c1
 have c0 := S1.out.c0
 have f0 := S1.out.f0
 have f1 := S1.out.f1
 have HO1 := qd ho1
 have HR1 := qd hr1
 rw [← HN.out] at c1
 have HCC := qd (SetChg.of_below (o := o) (r := r) HS.out.lt HB1.out)
 obtain ⟨hx, hx2⟩ | ⟨g, cg, hx, hgB, hgr⟩ := HO1.out.row
 · exfalso
   have := HN.out
   rw [hx2] at this
   simp at he0; exact he0 this
 rw [Value.slice.injEq] at hx
 obtain ⟨rfl, _, rfl⟩ := hx
 have HGR := qd hgr
 have HW1 := qd (show ∀ W, Below w1.heap.size w1 W → ∀ (j : Nat) (h : j < ws.length), W.cell? ((⟨g, 0, none⟩ : Addr).add j) = some (uV ws[j]) from fun W hW => word_at (fun j hj => (hW.cell (p := ⟨g, j, none⟩) HGR.out.lt).trans (HGR.out.cell j hj)))
 have HOM := qd (made_words w1 k hk4)
 have HBA := qd (show ∀ o, Below w1.heap.size w1 (w1.alloc o) from fun o => (Below.refl _ w1).alloc (Nat.le_refl _) o)
 have hq1 := S1.out.lt
 clear hgr ho1 hr1
 go_wp2_with fail
 go_region_law (refine step_append_words2 rfl (.tmp 27) (.tmp 31) rfl w1.heap.size (.slice (some ⟨w1.heap.size, 0, none⟩) k k) (List.replicate k 0) (by simp [Act.eval]) (by first | exact HOM.out | exact HOM.out.drew | exact HOM.out.drew.drew | exact HOM.out.drew.drew.drew) (by simp) ⟨g, 0, none⟩ c1' n ws HN.out (by simp [Act.eval]) (HW1.out _ (by first | exact HBA.out _ | exact (HBA.out _).drew | exact (HBA.out _).drew.drew)) nn HNN.out HML.out (by simp) ?_; intro a2 c2 w2 ho2 hb2; have HO2 := qd ho2; have HB2 := qd (show Below w1.heap.size w1 w2 from by first | exact (HBA.out _).trans hb2 | exact (HBA.out _).drew.trans hb2 | exact (HBA.out _).drew.drew.trans hb2); clear ho2 hb2; have y0 := (HB2.out.cell (p := ⟨q, o, none⟩) hq1).trans c0; have y1 := (HB2.out.cell (p := ⟨q, o + 1, none⟩) hq1).trans c1; have z0 := (HB2.out.frozen (p := ⟨q, o, none⟩) hq1).trans f0; have z1 := (HB2.out.frozen (p := ⟨q, o + 1, none⟩) hq1).trans f1)
 all_goals
  have hP := S1.out.grown (ws' := List.replicate k 0 ++ ws) (w' := w2) ⟨HB2.out.os, HB2.out.tape, HB2.out.output, HB2.out.size, fun k hk _ => HB2.out.block k hk⟩ a2 c2 nn HNN.out (HO2.out.mono (Nat.le_trans hB HB1.out.size)) (fun k hk => .inr (HO2.out.lt k hk).1)
  have hP2 := hP.1.put0 b
  have HP := qd hP2.1
  have HC2 := qd ((HCC.out.trans hP.2).trans hP2.2)
  clear hP hP2 hmk
  clear c0 c1 f0 f1
  go_wp2_with fail
  go_loopg [] (M) (fun gg wr => ∃ (m : Nat) (r' : Option Nat), m + gg = M ∧ SetAt B q o b ((List.replicate k 0 ++ ws) ++ List.replicate m 0) r' wr ∧ SetChg q o r r' w wr)
  case atStart => exact ⟨0, _, by omega, by rw [List.replicate_zero, List.append_nil]; exact HP.out, HC2.out⟩
  case round =>
   obtain ⟨m, r', hm, hA, hC⟩ := hrel
   have HA := qd hA
   have HC := qd hC
   obtain ⟨a2, c2, h1, ho, hr⟩ := hA.c1
   have HO := qd ho
   have HRR := qd hr
   have c0 := hA.c0
   have f0 := hA.f0
   have f1 := hA.f1
   clear hA hC ho hr
   have hlen : ((List.replicate k 0 ++ ws) ++ List.replicate m 0).length = (List.replicate k 0 ++ ws).length + m := by rw [List.length_append (bs := List.replicate m 0), List.length_replicate]
   have HLEN := qd hlen
   obtain ⟨n2, hn2⟩ : ∃ n2, n2 = ((List.replicate k 0 ++ ws) ++ List.replicate m 0).length := ⟨_, rfl⟩
   rw [← hn2] at h1
   have HN2 := qd (hn2.trans hlen)
   have HN3 := qd hn2
   have hb2 : b + n2 ≤ 2097152 ∧ n2 ≤ 2097152 := by rw [hn2, hlen]; omega
   have hw2 : IntKind.i64.wrap ((b : Int) + (n2 : Int)) = (b : Int) + (n2 : Int) := by rw [IntKind.wrap_i64]; omega
   by_cases hg : gk = 0
   · have hlt : decide (((b : Nat) : Int) + (n2 : Int) < (e : Int)) = false := by rw [decide_eq_false_iff_not]; have := HN2.out; omega
     clear hlen hn2 hb2
     go_wp2_with fail
     go_quiet (fail)
     go_wp2_with fail
     go_end0
     refine ⟨⟨_, rfl⟩, ?_⟩
     have HE := HCOV.out m (by omega)
     rw [HE]
     exact ⟨r', HA.out.kept (below_drew0 _ _ _), HC.out.trans (.of_below HA.out.lt (below_drew0 _ _ _))⟩
   · have hlt : decide (((b : Nat) : Int) + (n2 : Int) < (e : Int)) = true := by rw [decide_eq_true_eq]; have := HN2.out; omega
     have HBZ := qd (show B ≤ wr.heap.size from Nat.le_trans hB HC.out.size)
     have HL1 := qd (show ((List.replicate k 0 ++ ws) ++ List.replicate m 0).length + 1 ≤ 1099511627776 by rw [hlen]; omega)
     obtain ⟨n3, hn3⟩ : ∃ n3, n3 = ((List.replicate k 0 ++ ws) ++ List.replicate m 0).length + 1 := ⟨_, rfl⟩
     have HN4 := qd hn3
     clear hlen hn2 hb2 hn3
     go_wp2_with fail
     go_quiet (fail)
     have HA2 := qd (HA.out.kept (below_drew0 wr nq _))
     have HC2 := qd (HC.out.trans (.of_below HA.out.lt (below_drew0 wr nq _)))
     have HO2 := qd (HO.out.kept (below_drew0 wr nq _))
     have HBZ2 := qd (show B ≤ (wr.drewN nq).heap.size from HBZ.out)
     generalize wr.drewN nq = w2 at *
     clear c0 f0 f1 h1
     obtain ⟨a3, c3, h1, ho, hr⟩ := HA2.out.c1
     have HO := qd ho
     have HR3 := qd hr
     rw [← HN3.out] at h1
     have c0 := HA2.out.c0
     have f0 := HA2.out.f0
     have f1 := HA2.out.f1
     clear ho hr
     have HBB := qd (show ∀ o, Below w2.heap.size w2 (w2.alloc o) from fun o => (Below.refl _ w2).alloc (Nat.le_refl _) o)
     have HNB := qd (show ∀ o, (w2.alloc o).heap.size = w2.heap.size + 1 from fun o => by simp)
     have hq2 := HA2.out.lt
     go_wp2_with (at_builtin; refine wp_append_word rfl _ _ rfl B (.slice a3 n2 c3) ((List.replicate k 0 ++ ws) ++ List.replicate m 0) rfl (by rw [HN3.out]; exact HO.out.kept (HBB.out _)) w2.heap.size 1 0 rfl (cell_one w2 _ _) n3 HN4.out HL1.out (by rw [HNB.out]; have := HBZ2.out; omega) ?_; intro a4 c4 w4 ho4 hg4 hv4; have HO4 := qd ho4; have HG4 := qd hg4; have HV4 := qd hv4; clear ho4 hg4 hv4; have y0 := (cob (a := ⟨q, o, none⟩) (HG4.out.block q (by rw [HNB.out]; omega) (fun x => HA2.out.ne (by rw [← HR3.out, ← HN3.out]; exact x.symm)))).trans (((HBB.out _).cell (p := ⟨q, o, none⟩) hq2).trans c0); have y1 := (cob (a := ⟨q, o + 1, none⟩) (HG4.out.block q (by rw [HNB.out]; omega) (fun x => HA2.out.ne (by rw [← HR3.out, ← HN3.out]; exact x.symm)))).trans (((HBB.out _).cell (p := ⟨q, o + 1, none⟩) hq2).trans h1); have z1 := (World.frozen?_of_block (a := ⟨q, o + 1, none⟩) (HG4.out.block q (by rw [HNB.out]; omega) (fun x => HA2.out.ne (by rw [← HR3.out, ← HN3.out]; exact x.symm)))).trans (((HBB.out _).frozen (p := ⟨q, o + 1, none⟩) hq2).trans f1))
     go_roundg (gk - 1)
     case measure => omega
     case rel =>
      have hgr : Value.ownBlock (.slice a3 n2 c3) = r' := by rw [HN3.out]; exact HR3.out
      have g4 := HG4.out
      rw [hgr] at g4
      have hM := (HA2.out.kept (HBB.out (.cells #[.int .u64 0] 106))).grown g4 (ws' := (List.replicate k 0 ++ ws) ++ List.replicate (m + 1) 0) a4 c4 n3 (by rw [rep_snoc, List.length_append]; exact HN4.out) (by rw [rep_snoc]; exact HO4.out) (fun k hk => (HV4.out k hk).elim (fun x => .inl (by rw [← hgr]; exact x)) (fun x => .inr x))
      exact ⟨m + 1, _, by omega, hM.1, (HC2.out.trans (.of_below HA2.out.lt (HBB.out _))).trans hM.2⟩
theorem cover_any (B q o sk : Nat) (ws : List Nat) (r : Option Nat) (b e : Nat) (w : World) (h : SetAt B q o sk ws r w) (hl : sk + ws.length ≤ 1048576) (hbe : b ≤ e) (he : e ≤ 1048576) (hB : B ≤ w.heap.size) :
 Calls Tryz.prog 60 #[.pointer (some ⟨q, o, none⟩), .int .i64 (b : Int), .int .i64 (e : Int)] w (CovPost B q o sk ws r b e w) := by
 by_cases c : ws = []
 · subst c; exact cover_nil B q o sk r b e w h hbe he hB
 · by_cases d : sk ≤ b
   · exact cover_keep B q o sk ws r b e w h c d hl hbe he hB
   · exact cover_ahead B q o sk ws r b e w h c (by omega) hl hbe he hB
end Go.Proofs.YtcimhpdpfckgiaaGreatDoor.kit
