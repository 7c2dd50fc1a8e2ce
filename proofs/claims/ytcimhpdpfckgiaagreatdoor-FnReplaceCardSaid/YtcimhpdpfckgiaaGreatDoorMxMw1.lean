/-
  Rows of words in memory, and append to them. Conditions: each theorem names its own.
-/
import Derived.Test.YtcimhpdpfckgiaaGreatDoorMxKit
import Derived.Test.YtcimhpdpfckgiaaGreatDoorMxInfo
import Derived.Test.YtcimhpdpfckgiaaGreatDoorMxMw0
import Derived.Laws.AppendOwn
import Derived.Deep.RegionLaw
import Derived.Deep.LoopGhost
import Derived.Deep.RegionHeld3
set_option linter.unusedVariables false
set_option linter.unusedSimpArgs false
open Go.ChangeShapes Go.WideShapes Go.ChangeAt Go.RowKit
namespace Go.Proofs.YtcimhpdpfckgiaaGreatDoor.kit
def uV (x : Nat) : Value := .int .u64 (x : Int)
structure WRow (w : World) (xs : List Nat) (b c : Nat) : Prop where
 cell : ∀ j (h : j < xs.length), w.cell? ⟨b, j, none⟩ = some (uV xs[j])
 lt : b < w.heap.size
 le : xs.length ≤ c
 cap : c ≤ maxLen
theorem WRow.kept {w w' : World} {xs : List Nat} {b c : Nat} (h : WRow w xs b c) (hb : Below w.heap.size w w') : WRow w' xs b c :=
 ⟨fun j hj => (hb.cell (p := ⟨b, j, none⟩) h.lt).trans (h.cell j hj), Nat.lt_of_lt_of_le h.lt hb.size, h.le, h.cap⟩
def OwnW (B : Nat) (w : World) (v : Value) (xs : List Nat) : Prop := w.ownsRow B 106 1 v xs.length (xs.map uV)
theorem OwnW.alloc {B : Nat} {w : World} {v : Value} {xs : List Nat} (h : OwnW B w v xs) (o : Obj) : OwnW B (w.alloc o) v xs := World.ownsRow.alloc h o
theorem OwnW.drew {B : Nat} {w : World} {v : Value} {xs : List Nat} (h : OwnW B w v xs) : OwnW B w.drew v xs := World.ownsRow.drew h
theorem OwnW.kept {B : Nat} {w w' : World} {v : Value} {xs : List Nat} (h : OwnW B w v xs) (hb : Below w.heap.size w w') : OwnW B w' v xs :=
 World.ownsRow.kept h ⟨hb.os, hb.tape, hb.output, hb.size, fun k hk _ => hb.block k hk⟩ (row := none) (by cases v.ownBlock <;> simp)
theorem OwnW.row {B : Nat} {w : World} {v : Value} {xs : List Nat} (h : OwnW B w v xs) : (v = .slice none 0 0 ∧ xs = []) ∨ ∃ b c, v = .slice (some ⟨b, 0, none⟩) xs.length c ∧ B ≤ b ∧ WRow w xs b c := by
 rcases h.2 with ⟨rfl, h0⟩ | ⟨g, cap, cur, rfl, hb, hg, hn, hm, _⟩
 · exact .inl ⟨rfl, List.length_eq_zero_iff.1 h0⟩
 · refine .inr ⟨g, cap, rfl, hb, ⟨fun j hj => ?_, (Array.getElem?_eq_some_iff.1 hg).1, hn, hm⟩⟩
   have h2 : w.ownsRow B 106 1 (.slice (some ⟨g, 0, none⟩) xs.length cap) xs.length (xs.map uV) := h
   rw [World.ownsRow.cellAt h2 j (by omega)]
   simp [hj]
theorem infoWord : (Tryz.prog.info? 106).map (fun i => (i.zero, i.size, i.bytes)) = some (some (.int .u64 0), 1, 8) := by kernel_rfl
theorem run_append_words {w : World} (ty : TypeId) (B : Nat) (v : Value) (xs : List Nat) (hown : OwnW B w v xs) (hne : v ≠ .slice none 0 0) (ad : Addr) (c : Nat) (news : List Nat) (hnews : ∀ (j : Nat) (h : j < news.length), w.cell? (ad.add j) = some (uV news[j])) (hl : xs.length + news.length ≤ 1099511627776) (hB : B ≤ w.heap.size) :
 ∃ v' w', (Builtin.append_ #[66, 66] ty #[v, .slice (some ad) news.length c]).run Tryz.prog w = .ok v' w' ∧ OwnW B w' v' (xs ++ news) ∧ Below B w w' ∧ v' ≠ .slice none 0 0 := by
 obtain ⟨i0, hi, hz0, hz1, hz2⟩ := info_parts infoWord
 obtain ⟨v', w', hr, h1, h2, h3⟩ := run_append_own (P := Tryz.prog) w B 66 ty 106 i0 (.int .u64 0) 1 8 Tryz.underlying66 hi hz0 hz1 hz2 rfl (by decide) v xs.length _ hown ad news.length c (news.map uV) (by simp)
  (by
    intro j u hu
    rw [List.getElem?_map] at hu
    cases hj : news[j]? with
    | none => simp [hj] at hu
    | some y =>
      obtain ⟨hjl, hjc⟩ := List.getElem?_eq_some_iff.1 hj
      rw [hnews j hjl, hjc]; simpa [hj] using hu)
  (by intro u hu; simp at hu; obtain ⟨y, _, rfl⟩ := hu; rfl) (by simp only [maxLen]; omega) (by omega) hB
 refine ⟨v', w', hr, by simpa [OwnW, List.map_append] using h1, Below.grown (Below.refl _ _) h2 hB (fun k hk => (World.ownsRow.lt hown k hk).1), fun e => hne ((h3.1 e).1)⟩
theorem step_append_words {w : World} {ops : Array Oper} {o : Oper} {a : Act} {K : Act → World → Prop} {Q : Exit → Act → World → Prop} {E : Prop} (hgd : o.guard = none) (s x : Operand)
 (ho : o.op = .call { callee := .builtin .append, args := #[s, x], argTypes := #[66, 66] }) (B : Nat) (v : Value) (xs : List Nat) (hs : a.eval s = v) (hown : OwnW B w v xs) (hne : v ≠ .slice none 0 0)
 (ad : Addr) (c m : Nat) (news : List Nat) (hm : m = news.length) (hx : a.eval x = .slice (some ad) m c) (hnews : ∀ (j : Nat) (h : j < news.length), w.cell? (ad.add j) = some (uV news[j])) (hl : xs.length + news.length ≤ 1099511627776) (hB : B ≤ w.heap.size)
 (h : ∀ v' w', OwnW B w' v' (xs ++ news) → v' ≠ .slice none 0 0 → Below B w w' → K (a.put o.dst v') w') : if Region.wanted o (yielded ops a.tmps) = true then Oper.wp Tryz.prog o a w K Q else E := by
 subst hm
 have hw : Region.wanted o (yielded ops a.tmps) = true := by simp [Region.wanted, hgd]
 rw [if_pos hw]
 obtain ⟨v', w', hr, h1, h2, h3⟩ := run_append_words o.type B v xs hown hne ad c news hnews hl hB
 unfold Oper.wp execOp
 simp only [ho, resolve, invoke, builtin, Sem.run_bind, Sem.run_pure, Result.andThen_ok, List.map_toArray, List.map_cons, List.map_nil, hs, hx, hr]
 exact h v' w' h1 h3 h2
theorem WRow.at {w : World} {xs : List Nat} {b c : Nat} (h : WRow w xs b c) : WordsAt w xs (some ⟨b, 0, none⟩) := fun j hj => ⟨b, rfl, h.lt, h.cell j hj⟩
theorem OwnW.at {B : Nat} {w : World} {v : Value} {xs : List Nat} (h : OwnW B w v xs) : ∃ a c, v = .slice a xs.length c ∧ WordsAt w xs a := by
 rcases h.row with ⟨rfl, rfl⟩ | ⟨b, c, rfl, _, hr⟩
 · exact ⟨none, 0, rfl, fun j hj => by simp at hj⟩
 · exact ⟨_, _, rfl, hr.at⟩
structure OwnSet (B q : Nat) (sk : Nat) (ws : List Nat) (w : World) : Prop where
 ex : ∃ a c, w.cell? ⟨q, 1, none⟩ = some (.slice a ws.length c) ∧ OwnW B w (.slice a ws.length c) ws ∧ Value.ownBlock (.slice a ws.length c) ≠ some q
 c0 : w.cell? ⟨q, 0, none⟩ = some (.int .i64 (sk : Int))
 f : w.frozen? ⟨q, 0, none⟩ = false ∧ w.frozen? ⟨q, 1, none⟩ = false
 lt : q < w.heap.size
def iV (x : Nat) : Value := .int .i64 (x : Int)
structure IRow (w : World) (xs : List Nat) (b c : Nat) : Prop where
 cell : ∀ j (h : j < xs.length), w.cell? ⟨b, j, none⟩ = some (iV xs[j])
 lt : b < w.heap.size
 le : xs.length ≤ c
 cap : c ≤ maxLen
theorem IRow.kept {w w' : World} {xs : List Nat} {b c : Nat} (h : IRow w xs b c) (hb : Below w.heap.size w w') : IRow w' xs b c :=
 ⟨fun j hj => (hb.cell (p := ⟨b, j, none⟩) h.lt).trans (h.cell j hj), Nat.lt_of_lt_of_le h.lt hb.size, h.le, h.cap⟩
def OwnI (B : Nat) (w : World) (v : Value) (xs : List Nat) : Prop := w.ownsRow B 3 1 v xs.length (xs.map iV)
theorem ownI_start {B : Nat} {w : World} (hB : B ≤ w.heap.size) : OwnI B (w.alloc (.cells #[] 3)) (.slice (some ⟨w.heap.size, 0, none⟩) 0 0) [] :=
 World.ownsRow_made w #[] 0 hB (by simp [maxLen]) rfl
theorem OwnI.alloc {B : Nat} {w : World} {v : Value} {xs : List Nat} (h : OwnI B w v xs) (o : Obj) : OwnI B (w.alloc o) v xs := World.ownsRow.alloc h o
theorem OwnI.drew {B : Nat} {w : World} {v : Value} {xs : List Nat} (h : OwnI B w v xs) : OwnI B w.drew v xs := World.ownsRow.drew h
theorem OwnI.kept {B : Nat} {w w' : World} {v : Value} {xs : List Nat} (h : OwnI B w v xs) (hb : Below w.heap.size w w') : OwnI B w' v xs :=
 World.ownsRow.kept h ⟨hb.os, hb.tape, hb.output, hb.size, fun k hk _ => hb.block k hk⟩ (row := none) (by cases v.ownBlock <;> simp)
theorem OwnI.row {B : Nat} {w : World} {v : Value} {xs : List Nat} (h : OwnI B w v xs) : (v = .slice none 0 0 ∧ xs = []) ∨ ∃ b c, v = .slice (some ⟨b, 0, none⟩) xs.length c ∧ B ≤ b ∧ IRow w xs b c := by
 rcases h.2 with ⟨rfl, h0⟩ | ⟨g, cap, cur, rfl, hb, hg, hn, hm, _⟩
 · exact .inl ⟨rfl, List.length_eq_zero_iff.1 h0⟩
 · refine .inr ⟨g, cap, rfl, hb, ⟨fun j hj => ?_, (Array.getElem?_eq_some_iff.1 hg).1, hn, hm⟩⟩
   have h2 : w.ownsRow B 3 1 (.slice (some ⟨g, 0, none⟩) xs.length cap) xs.length (xs.map iV) := h
   rw [World.ownsRow.cellAt h2 j (by omega)]
   simp [hj]
theorem infoInt : (Tryz.prog.info? 3).map (fun i => (i.zero, i.size, i.bytes)) = some (some (.int .i64 0), 1, 8) := by kernel_rfl
theorem run_append_ints {w : World} (ty : TypeId) (B : Nat) (v : Value) (xs : List Nat) (hown : OwnI B w v xs) (hne : v ≠ .slice none 0 0) (ad : Addr) (c : Nat) (news : List Nat) (hnews : ∀ (j : Nat) (h : j < news.length), w.cell? (ad.add j) = some (iV news[j])) (hl : xs.length + news.length ≤ 1099511627776) (hB : B ≤ w.heap.size) :
 ∃ v' w', (Builtin.append_ #[83, 83] ty #[v, .slice (some ad) news.length c]).run Tryz.prog w = .ok v' w' ∧ OwnI B w' v' (xs ++ news) ∧ Below B w w' ∧ v' ≠ .slice none 0 0 ∧ w.grownBy w' v.ownBlock := by
 obtain ⟨i0, hi, hz0, hz1, hz2⟩ := info_parts infoInt
 obtain ⟨v', w', hr, h1, h2, h3⟩ := run_append_own (P := Tryz.prog) w B 83 ty 3 i0 (.int .i64 0) 1 8 Tryz.underlying83 hi hz0 hz1 hz2 rfl (by decide) v xs.length _ hown ad news.length c (news.map iV) (by simp)
  (by
    intro j u hu
    rw [List.getElem?_map] at hu
    cases hj : news[j]? with
    | none => simp [hj] at hu
    | some y =>
      obtain ⟨hjl, hjc⟩ := List.getElem?_eq_some_iff.1 hj
      rw [hnews j hjl, hjc]; simpa [hj] using hu)
  (by intro u hu; simp at hu; obtain ⟨y, _, rfl⟩ := hu; rfl) (by simp only [maxLen]; omega) (by omega) hB
 refine ⟨v', w', hr, by simpa [OwnI, List.map_append] using h1, Below.grown (Below.refl _ _) h2 hB (fun k hk => (World.ownsRow.lt hown k hk).1), fun e => hne ((h3.1 e).1), h2⟩
theorem step_append_ints {w : World} {ops : Array Oper} {o : Oper} {a : Act} {K : Act → World → Prop} {Q : Exit → Act → World → Prop} {E : Prop} (hgd : o.guard = none) (s x : Operand)
 (ho : o.op = .call { callee := .builtin .append, args := #[s, x], argTypes := #[83, 83] }) (B : Nat) (v : Value) (xs : List Nat) (hs : a.eval s = v) (hown : OwnI B w v xs) (hne : v ≠ .slice none 0 0)
 (ad : Addr) (c m : Nat) (news : List Nat) (hm : m = news.length) (hx : a.eval x = .slice (some ad) m c) (hnews : ∀ (j : Nat) (h : j < news.length), w.cell? (ad.add j) = some (iV news[j])) (hl : xs.length + news.length ≤ 1099511627776) (hB : B ≤ w.heap.size)
 (h : ∀ v' w', OwnI B w' v' (xs ++ news) → v' ≠ .slice none 0 0 → Below B w w' → w.grownBy w' v.ownBlock → K (a.put o.dst v') w') : if Region.wanted o (yielded ops a.tmps) = true then Oper.wp Tryz.prog o a w K Q else E := by
 subst hm
 have hw : Region.wanted o (yielded ops a.tmps) = true := by simp [Region.wanted, hgd]
 rw [if_pos hw]
 obtain ⟨v', w', hr, h1, h2, h3, h4⟩ := run_append_ints o.type B v xs hown hne ad c news hnews hl hB
 unfold Oper.wp execOp
 simp only [ho, resolve, invoke, builtin, Sem.run_bind, Sem.run_pure, Result.andThen_ok, List.map_toArray, List.map_cons, List.map_nil, hs, hx, hr]
 exact h v' w' h1 h3 h2 h4
theorem wpList_append_ints {w : World} {ops : Array Oper} {rest : List Oper} {o : Oper} {a : Act} {Q : Exit → Act → World → Prop} (hgd : o.guard = none) (s x : Operand)
 (ho : o.op = .call { callee := .builtin .append, args := #[s, x], argTypes := #[83, 83] }) (B : Nat) (v : Value) (xs : List Nat) (hs : a.eval s = v) (hown : OwnI B w v xs) (hne : v ≠ .slice none 0 0)
 (ad : Addr) (c m : Nat) (news : List Nat) (hm : m = news.length) (hx : a.eval x = .slice (some ad) m c) (hnews : ∀ (j : Nat) (h : j < news.length), w.cell? (ad.add j) = some (iV news[j])) (hl : xs.length + news.length ≤ 1099511627776) (hB : B ≤ w.heap.size)
 (h : ∀ v' w', OwnI B w' v' (xs ++ news) → v' ≠ .slice none 0 0 → Below B w w' → w.grownBy w' v.ownBlock → wpList Tryz.prog ops Q rest (a.put o.dst v') w') : wpList Tryz.prog ops Q (o :: rest) a w := by
 subst hm
 obtain ⟨v', w', hr, h1, h2, h3, h4⟩ := run_append_ints o.type B v xs hown hne ad c news hnews hl hB
 refine wpList_plain hgd fun _ hK => ?_
 unfold Oper.wp execOp
 simp only [ho, resolve, invoke, builtin, Sem.run_bind, Sem.run_pure, Result.andThen_ok, List.map_toArray, List.map_cons, List.map_nil, hs, hx, hr]
 exact hK _ _ (h v' w' h1 h3 h2 h4)
theorem cellK {w w' : World} {row : Option Nat} {g o : Nat} {v : Value} (h : w.cell? ⟨g, o, none⟩ = some v) (hg : w.grownBy w' row) (hne : some g ≠ row) : w'.cell? ⟨g, o, none⟩ = some v :=
 (cob (a := ⟨g, o, none⟩) (hg.block g (World.block_lt_of_cell? w ⟨g, o, none⟩ h) hne)).trans h
theorem oneI {w : World} {g n : Nat} (h : w.cell? ⟨g, 0, none⟩ = some (iV n)) : ∀ (j : Nat) (hj : j < [n].length), w.cell? ((⟨g, 0, none⟩ : Addr).add j) = some (iV [n][j]) := fun j hj => by
 obtain rfl : j = 0 := by simpa using hj
 have e : (⟨g, 0, none⟩ : Addr).add 0 = ⟨g, 0, none⟩ := by unfold Addr.add; split <;> simp_all
 rw [e]; exact h
theorem addI (b o k : Nat) : (⟨b, o, none⟩ : Addr).add k = ⟨b, o + k, none⟩ := by unfold Addr.add; split <;> simp_all
theorem step_lit0 {w : World} {ops : Array Oper} {o : Oper} {a : Act} {K : Act → World → Prop} {Q : Exit → Act → World → Prop} {E : Prop} (hgd : o.guard = none) (ho : o.op = .buildSlice 83 0 #[])
 (h : ∀ v' w', OwnI w.heap.size w' v' [] → v' ≠ .slice none 0 0 → Below w.heap.size w w' → K (a.put o.dst v') w') : if Region.wanted o (yielded ops a.tmps) = true then Oper.wp Tryz.prog o a w K Q else E := by
 have hw : Region.wanted o (yielded ops a.tmps) = true := by simp [Region.wanted, hgd]
 rw [if_pos hw]
 have hrun : (Instr.buildSlice 83 0 #[]).run Tryz.prog w = .ok (.slice (some ⟨w.heap.size, 0, none⟩) 0 0) (w.alloc (.cells #[] 3)) := by go_simp
 unfold Oper.wp execOp
 simp only [ho, Sem.run_bind, List.map_toArray, List.map_nil, hrun, Result.andThen_ok]
 exact h _ _ (ownI_start (Nat.le_refl _)) (by simp) ((Below.refl _ w).alloc (Nat.le_refl _) _)
theorem step_lit1 {w : World} {ops : Array Oper} {o : Oper} {a : Act} {K : Act → World → Prop} {Q : Exit → Act → World → Prop} {E : Prop} (hgd : o.guard = none) (x : Operand) (n : Nat) (ho : o.op = .buildSlice 83 1 #[(0, x)]) (hx : a.eval x = iV n)
 (h : ∀ w' g, g = w.heap.size → w'.cell? ⟨g, 0, none⟩ = some (iV n) → Below w.heap.size w w' → g < w'.heap.size → K (a.put o.dst (.slice (some ⟨g, 0, none⟩) 1 1)) w') : if Region.wanted o (yielded ops a.tmps) = true then Oper.wp Tryz.prog o a w K Q else E := by
 have hw : Region.wanted o (yielded ops a.tmps) = true := by simp [Region.wanted, hgd]
 rw [if_pos hw]
 have hrun : (Instr.buildSlice 83 1 #[(0, iV n)]).run Tryz.prog w = .ok (.slice (some ⟨w.heap.size, 0, none⟩) 1 1) (w.alloc (.cells #[iV n] 3)) := by
  unfold iV
  go_simp
 unfold Oper.wp execOp
 simp only [ho, Sem.run_bind, List.map_toArray, List.map_nil, List.map_cons, hx, hrun, Result.andThen_ok]
 exact h _ _ rfl (cell_one w (iV n) 3) ((Below.refl _ w).alloc (Nat.le_refl _) _) (by simp)
theorem OwnI.block_lt {B : Nat} {w : World} {v : Value} {xs : List Nat} (h : OwnI B w v xs) : ∀ k, v.ownBlock = some k → k < w.heap.size := fun k hk => (World.ownsRow.lt h k hk).2
theorem put_end {xs : List Nat} {n g : Nat} {B : Nat} {w W : World} {v : Value} (he : putN xs n = xs.take g ++ n :: xs.drop g) (ho : OwnI B W v ([] ++ xs.take g ++ [n] ++ xs.drop g)) (hn : v ≠ .slice none 0 0) (hb : Below w.heap.size w W) :
 ∃ b' c', Ending.returned v = .returned (.slice (some ⟨b', 0, none⟩) (putN xs n).length c') ∧ IRow W (putN xs n) b' c' ∧ Below w.heap.size w W := by
 have e : [] ++ xs.take g ++ [n] ++ xs.drop g = putN xs n := by rw [he]; simp
 rw [e] at ho
 rcases ho.row with ⟨h, _⟩ | ⟨b', c', rfl, _, h⟩
 · exact absurd h hn
 · exact ⟨b', c', rfl, h, hb⟩
set_option maxRecDepth 100000 in
set_option maxHeartbeats 4000000 in
theorem l04Put_any (xs : List Nat) (n b c : Nat) (w : World) (h : IRow w xs b c) (hl : xs.length ≤ 1048577) (ha : AscN xs) :
 Calls Tryz.prog 70 #[.slice (some ⟨b, 0, none⟩) xs.length c, .int .i64 (n : Int)] w fun e w' => ∃ b' c', e = .returned (.slice (some ⟨b', 0, none⟩) (putN xs n).length c') ∧ IRow w' (putN xs n) b' c' ∧ Below w.heap.size w w' := by
 have HR := qd h
 have HA := qd ha
 have HP := qd (fun k h1 h2 h3 => putN_at xs n k h1 ha h2 h3)
 have hbl := h.lt
 have hlc : (xs.length : Int) ≤ (c : Int) := by have := h.le; omega
 have hcm : c ≤ 9223372036854775807 := by have := h.cap; unfold maxLen at this; exact this
 have hlz : xs.length ≤ c := h.le
 clear h ha
 go_enter Tryz.func70, Tryz.ntmps70
 go_wp2_with fail
 go_loopg [5] (xs.length) (fun gg v wr => gg ≤ xs.length ∧ v = .int .i64 (gg : Int) ∧ wr = w ∧ ∀ j (h : j < xs.length), gg ≤ j → n < xs[j])
 case atStart => exact ⟨Nat.le_refl _, rfl, rfl, fun j h1 h2 => by omega⟩
 case round =>
  obtain ⟨hg, rfl, rfl, hall⟩ := hrel
  have HALL := qd hall
  clear hall
  obtain ⟨g, hgg⟩ : ∃ g, g = gk := ⟨_, rfl⟩
  subst hgg
  have hgc : g ≤ c := by omega
  obtain ⟨A, hA⟩ : ∃ A : Addr, A = if c = g then (⟨b, 0, none⟩ : Addr) else ⟨b, g, none⟩ := ⟨_, rfl⟩
  have hs2 : ∀ W, (Instr.slice 83 (.slice (some ⟨b, 0, none⟩) xs.length c) (some (.int .i64 (g : Int))) none none).run Tryz.prog W = .ok (.slice (some A) (xs.length - g) (c - g)) W := fun W => by
   have hsz : (sizeOf (Tryz.prog.elem 83)).run Tryz.prog W = .ok 1 W := by kernel_rfl
   rw [run_slice_l (P := Tryz.prog) (w := W) 83 (some ⟨b, 0, none⟩) xs.length c (by kernel_rfl) .i64 (g : Int) (by omega) (by omega), hsz]
   by_cases hcg : c = g
   · rw [hA, if_pos hcg]; simp [sliced, hcg]
   · rw [hA, if_neg hcg]; simp [sliced, hcg, addI]
  have HCA := qd (show ∀ W, Below wr.heap.size wr W → ∀ (j : Nat) (hj : j < (xs.drop g).length), W.cell? (A.add j) = some (iV (xs.drop g)[j]) from fun W hW j hj => by
   have hjl : j < xs.length - g := by simpa using hj
   rw [hA, if_neg (by omega), addI, hW.cell (p := ⟨b, g + j, none⟩) hbl, HR.out.cell (g + j) (by omega), List.getElem_drop])
  have HCB := qd (show ∀ W, Below wr.heap.size wr W → ∀ (j : Nat) (hj : j < (xs.take g).length), W.cell? ((⟨b, 0, none⟩ : Addr).add j) = some (iV (xs.take g)[j]) from fun W hW j hj => by
   have hjl : j < g := by simp at hj; omega
   rw [addI, Nat.zero_add, hW.cell (p := ⟨b, j, none⟩) hbl, HR.out.cell j (by omega), List.getElem_take])
  have htl : (xs.take g).length = g := by simp; omega
  have hdl : (xs.drop g).length = xs.length - g := by simp
  have HTL := qd htl
  have HDL := qd hdl
  clear hA htl hdl
  by_cases h0 : 0 < g
  · obtain ⟨m, hm⟩ : ∃ m, g = m + 1 := ⟨g - 1, by omega⟩
    have hml : m < xs.length := by omega
    have c0 := HR.out.cell m hml
    have hsub : (g : Int) - 1 = (m : Int) := by omega
    have HP2 := qd (HP.out g hg (fun j h1 h2 => HALL.out j h1 h2))
    have HM := qd hm
    have hm0 : (0 : Int) ≤ (m : Int) := by omega
    have hm1 : (m : Int) < (xs.length : Int) := by omega
    have hg8 : (m : Int) ≤ 1048577 := by omega
    have HY := qd (show ∃ y, y = xs[m] from ⟨_, rfl⟩)
    obtain ⟨y, hy⟩ := HY.out
    rw [← hy] at c0
    unfold iV at c0
    have hgl : g - 1 < xs.length := by omega
    have hy2 : xs[g - 1]'hgl = y := by rw [hy]; congr 1; omega
    have HY2 := qd hy2
    have HYM := qd hy
    clear hy2
    clear HY
    clear hy
    clear hm
    by_cases h1 : n < y
    · have HALL2 := qd (show ∀ (j : Nat) (h : j < xs.length), m ≤ j → n < xs[j] from fun j h h2 => by
       by_cases e : j = m
       · subst e; rw [← HYM.out]; exact h1
       · exact HALL.out j h (by have := HM.out; omega))
      clear hs2
      go_wp2_with fail
      go_roundg m
      case rel => exact ⟨by omega, by go_num, rfl, HALL2.out⟩
      case measure => have := HM.out; omega
    · have HQ := qd (HP2.out (fun _ => by rw [HY2.out]; omega))
      by_cases h2 : y = n
      · subst h2
        have HE := qd (show putN xs y = xs from by
         rcases HQ.out with ⟨_, _, e⟩ | ⟨e, _⟩
         · exact e
         · exact absurd HY2.out (e h0))
        clear hs2
        go_wp2_with fail
        go_ret
        exact ⟨b, c, by rw [HE.out]; rfl, by rw [HE.out]; exact HR.out, Below.refl _ _⟩
      · have HE := qd (show putN xs n = xs.take g ++ n :: xs.drop g from by
         rcases HQ.out with ⟨_, e, _⟩ | ⟨_, e⟩
         · exact absurd (HY2.out.symm.trans e) h2
         · exact e)
        have e2 : ((y : Int) == (n : Int)) = false := by rw [beq_eq_false_iff_ne]; omega
        go_wp2_with fail
        refine wp_region_held_drew (S := (fun _ => True)) (by kernel_rfl) trivial (fun hHeld => ?_)
        refine tkA 1 ?_
        try simp only [nmA, Act.put]
        refine tkA 2 ?_
        try simp only [nmA, Act.put]
        refine tkA 3 ?_
        try simp only [nmA, Act.put]
        refine tkA 5 ?_
        try simp only [nmA, Act.put]
        refine tkA 8 ?_
        try simp only [nmA, Act.put]
        refine tkA 9 ?_
        try simp only [nmA, Act.put]
        refine tkA 10 ?_
        try simp only [nmA, Act.put]
        have hS : Below wr.heap.size wr wr.drew := (Below.refl _ wr).drew
        refine wpAnyH_ready (rs := [0, 6]) (by kernel_rfl) (by simp) ?_
        refine AllReadyH.cons rfl (fun K hK => ?_) (AllReadyH.cons rfl (fun K hK => ?_) AllReadyH.nil)
        · refine step_lit0 rfl rfl ?_
          intro v0 w0 ho0 hn0 hb0
          have hB0 : Below wr.heap.size wr w0 := hS.trans hb0
          have hZ0 : wr.heap.size ≤ w0.heap.size := hB0.size
          replace ho0 : OwnI wr.heap.size w0 v0 [] := ho0
          refine hK.out _ _ trivial (fun hHeld => ?_)
          clear hK K
          try simp only [nmA, Act.put]
          refine wpAnyH_ready (rs := [4, 6]) (by kernel_rfl) (by simp) ?_
          refine AllReadyH.cons rfl (fun K hK => ?_) (AllReadyH.cons rfl (fun K hK => ?_) AllReadyH.nil)
          · refine step_append_ints rfl (.tmp 33) (.tmp 36) rfl _ _ ([]) rfl ho0 hn0 ⟨b, 0, none⟩ (c) (g) (xs.take g) (HTL.out.symm) rfl (HCB.out _ (hB0)) (by rw [HTL.out]; show 0 + g ≤ _; omega) (hZ0) ?_
            intro v1 w1 ho1 hn1 hb1 hg1
            have hB1 : Below wr.heap.size wr w1 := hB0.trans hb1
            have hZ1 : wr.heap.size ≤ w1.heap.size := hB1.size
            refine hK.out _ _ trivial (fun hHeld => ?_)
            clear hK K
            try simp only [nmA, Act.put]
            refine rdA 6 (fun K hK => ?_)
            refine step_lit1 rfl (.tmp 38) n rfl rfl ?_
            intro wl G hG hcG hbG hlG
            have hBl : Below wr.heap.size wr wl := hB1.trans (hbG.mono hZ1)
            have hZl : wr.heap.size ≤ wl.heap.size := hBl.size
            have hol := ho1.kept hbG
            refine hK.out _ _ trivial (fun hHeld => ?_)
            clear hK K
            try simp only [nmA, Act.put]
            refine rdA 7 (fun K hK => ?_)
            refine step_append_ints rfl (.tmp 37) (.tmp 39) rfl _ _ ([] ++ xs.take g) rfl hol hn1 ⟨G, 0, none⟩ (1) (1) ([n]) (rfl) rfl (oneI (hcG)) (by rw [List.nil_append, HTL.out]; show g + 1 ≤ _; omega) (hZl) ?_
            intro v2 w2 ho2 hn2 hb2 hg2
            have hB2 : Below wr.heap.size wr w2 := hBl.trans hb2
            have hZ2 : wr.heap.size ≤ w2.heap.size := hB2.size
            refine hK.out _ _ trivial (fun hHeld => ?_)
            clear hK K
            try simp only [nmA, Act.put]
            refine rdA 11 (fun K hK => ?_)
            refine step_append_ints rfl (.tmp 40) (.tmp 43) rfl _ _ ([] ++ xs.take g ++ [n]) rfl ho2 hn2 A (c - g) (xs.length - g) (xs.drop g) (HDL.out.symm) rfl (HCA.out _ (hB2)) (by rw [List.nil_append, List.length_append, HTL.out, HDL.out]; show g + 1 + _ ≤ _; omega) (hZ2) ?_
            intro v3 w3 ho3 hn3 hb3 hg3
            have hB3 : Below wr.heap.size wr w3 := hB2.trans hb3
            refine hK.out _ _ trivial (fun hHeld => ?_)
            clear hK K
            try simp only [nmA, Act.put]
            refine tkA 12 ?_
            try simp only [nmA, Act.put]
            refine wpAnyH_done (by kernel_rfl) ?_ _
            have HF := qd (hB3)
            have HO := qd ho3
            have HN := qd hn3
            clear hs2
            go_wp2_with fail
            go_ret
            exact put_end HE.out HO.out HN.out HF.out
          · refine step_lit1 rfl (.tmp 38) n rfl rfl ?_
            intro wl G hG hcG hbG hlG
            have hBl : Below wr.heap.size wr wl := hB0.trans (hbG.mono hZ0)
            have hZl : wr.heap.size ≤ wl.heap.size := hBl.size
            have hol := ho0.kept hbG
            refine hK.out _ _ trivial (fun hHeld => ?_)
            clear hK K
            try simp only [nmA, Act.put]
            refine rdA 4 (fun K hK => ?_)
            refine step_append_ints rfl (.tmp 33) (.tmp 36) rfl _ _ ([]) rfl hol hn0 ⟨b, 0, none⟩ (c) (g) (xs.take g) (HTL.out.symm) rfl (HCB.out _ (hBl)) (by rw [HTL.out]; show 0 + g ≤ _; omega) (hZl) ?_
            intro v1 w1 ho1 hn1 hb1 hg1
            have hB1 : Below wr.heap.size wr w1 := hBl.trans hb1
            have hZ1 : wr.heap.size ≤ w1.heap.size := hB1.size
            have hcG1 := cellK hcG hg1 (fun e => absurd (ho0.block_lt _ e.symm) (by omega))
            refine hK.out _ _ trivial (fun hHeld => ?_)
            clear hK K
            try simp only [nmA, Act.put]
            refine rdA 7 (fun K hK => ?_)
            refine step_append_ints rfl (.tmp 37) (.tmp 39) rfl _ _ ([] ++ xs.take g) rfl ho1 hn1 ⟨G, 0, none⟩ (1) (1) ([n]) (rfl) rfl (oneI (hcG1)) (by rw [List.nil_append, HTL.out]; show g + 1 ≤ _; omega) (hZ1) ?_
            intro v2 w2 ho2 hn2 hb2 hg2
            have hB2 : Below wr.heap.size wr w2 := hB1.trans hb2
            have hZ2 : wr.heap.size ≤ w2.heap.size := hB2.size
            refine hK.out _ _ trivial (fun hHeld => ?_)
            clear hK K
            try simp only [nmA, Act.put]
            refine rdA 11 (fun K hK => ?_)
            refine step_append_ints rfl (.tmp 40) (.tmp 43) rfl _ _ ([] ++ xs.take g ++ [n]) rfl ho2 hn2 A (c - g) (xs.length - g) (xs.drop g) (HDL.out.symm) rfl (HCA.out _ (hB2)) (by rw [List.nil_append, List.length_append, HTL.out, HDL.out]; show g + 1 + _ ≤ _; omega) (hZ2) ?_
            intro v3 w3 ho3 hn3 hb3 hg3
            have hB3 : Below wr.heap.size wr w3 := hB2.trans hb3
            refine hK.out _ _ trivial (fun hHeld => ?_)
            clear hK K
            try simp only [nmA, Act.put]
            refine tkA 12 ?_
            try simp only [nmA, Act.put]
            refine wpAnyH_done (by kernel_rfl) ?_ _
            have HF := qd (hB3)
            have HO := qd ho3
            have HN := qd hn3
            clear hs2
            go_wp2_with fail
            go_ret
            exact put_end HE.out HO.out HN.out HF.out
        · refine step_lit1 rfl (.tmp 38) n rfl rfl ?_
          intro wl G hG hcG hbG hlG
          have hBl : Below wr.heap.size wr wl := hS.trans hbG
          have hZl : wr.heap.size ≤ wl.heap.size := hBl.size
          refine hK.out _ _ trivial (fun hHeld => ?_)
          clear hK K
          try simp only [nmA, Act.put]
          refine rdA 0 (fun K hK => ?_)
          refine step_lit0 rfl rfl ?_
          intro v0 w0 ho0 hn0 hb0
          have hB0 : Below wr.heap.size wr w0 := hBl.trans (hb0.mono hZl)
          have hZ0 : wl.heap.size ≤ w0.heap.size := hb0.size
          refine hK.out _ _ trivial (fun hHeld => ?_)
          clear hK K
          try simp only [nmA, Act.put]
          refine rdA 4 (fun K hK => ?_)
          refine step_append_ints rfl (.tmp 33) (.tmp 36) rfl _ _ ([]) rfl ho0 hn0 ⟨b, 0, none⟩ (c) (g) (xs.take g) (HTL.out.symm) rfl (HCB.out _ (hB0)) (by rw [HTL.out]; show 0 + g ≤ _; omega) (hZ0) ?_
          intro v1 w1 ho1 hn1 hb1 hg1
          have hB1 : Below wr.heap.size wr w1 := hB0.trans (hb1.mono hZl)
          have hZ1 : wl.heap.size ≤ w1.heap.size := Nat.le_trans hZ0 hb1.size
          have hcG1 : w1.cell? ⟨G, 0, none⟩ = some (iV n) := ((hb0.trans hb1).cell (p := ⟨G, 0, none⟩) hlG).trans hcG
          refine hK.out _ _ trivial (fun hHeld => ?_)
          clear hK K
          try simp only [nmA, Act.put]
          refine rdA 7 (fun K hK => ?_)
          refine step_append_ints rfl (.tmp 37) (.tmp 39) rfl _ _ ([] ++ xs.take g) rfl ho1 hn1 ⟨G, 0, none⟩ (1) (1) ([n]) (rfl) rfl (oneI (hcG1)) (by rw [List.nil_append, HTL.out]; show g + 1 ≤ _; omega) (hZ1) ?_
          intro v2 w2 ho2 hn2 hb2 hg2
          have hB2 : Below wr.heap.size wr w2 := hB1.trans (hb2.mono hZl)
          have hZ2 : wl.heap.size ≤ w2.heap.size := Nat.le_trans hZ1 hb2.size
          refine hK.out _ _ trivial (fun hHeld => ?_)
          clear hK K
          try simp only [nmA, Act.put]
          refine rdA 11 (fun K hK => ?_)
          refine step_append_ints rfl (.tmp 40) (.tmp 43) rfl _ _ ([] ++ xs.take g ++ [n]) rfl ho2 hn2 A (c - g) (xs.length - g) (xs.drop g) (HDL.out.symm) rfl (HCA.out _ (hB2)) (by rw [List.nil_append, List.length_append, HTL.out, HDL.out]; show g + 1 + _ ≤ _; omega) (hZ2) ?_
          intro v3 w3 ho3 hn3 hb3 hg3
          have hB3 : Below wr.heap.size wr w3 := hB2.trans (hb3.mono hZl)
          refine hK.out _ _ trivial (fun hHeld => ?_)
          clear hK K
          try simp only [nmA, Act.put]
          refine tkA 12 ?_
          try simp only [nmA, Act.put]
          refine wpAnyH_done (by kernel_rfl) ?_ _
          have HF := qd (hB3)
          have HO := qd ho3
          have HN := qd hn3
          clear hs2
          go_wp2_with fail
          go_ret
          exact put_end HE.out HO.out HN.out HF.out
  · have HE := qd (show putN xs n = xs.take g ++ n :: xs.drop g from by
        rcases HP.out g hg (fun j h1 h2 => HALL.out j h1 h2) (fun h => absurd h h0) with ⟨h, _⟩ | ⟨_, e⟩
        · exact absurd h h0
        · exact e)
    go_wp2_with fail
    refine wp_region_held_drew (S := (fun _ => True)) (by kernel_rfl) trivial (fun hHeld => ?_)
    refine tkA 1 ?_
    try simp only [nmA, Act.put]
    refine tkA 2 ?_
    try simp only [nmA, Act.put]
    refine tkA 3 ?_
    try simp only [nmA, Act.put]
    refine tkA 5 ?_
    try simp only [nmA, Act.put]
    refine tkA 8 ?_
    try simp only [nmA, Act.put]
    refine tkA 9 ?_
    try simp only [nmA, Act.put]
    refine tkA 10 ?_
    try simp only [nmA, Act.put]
    have hS : Below wr.heap.size wr wr.drew := (Below.refl _ wr).drew
    refine wpAnyH_ready (rs := [0, 6]) (by kernel_rfl) (by simp) ?_
    refine AllReadyH.cons rfl (fun K hK => ?_) (AllReadyH.cons rfl (fun K hK => ?_) AllReadyH.nil)
    · refine step_lit0 rfl rfl ?_
      intro v0 w0 ho0 hn0 hb0
      have hB0 : Below wr.heap.size wr w0 := hS.trans hb0
      have hZ0 : wr.heap.size ≤ w0.heap.size := hB0.size
      replace ho0 : OwnI wr.heap.size w0 v0 [] := ho0
      refine hK.out _ _ trivial (fun hHeld => ?_)
      clear hK K
      try simp only [nmA, Act.put]
      refine wpAnyH_ready (rs := [4, 6]) (by kernel_rfl) (by simp) ?_
      refine AllReadyH.cons rfl (fun K hK => ?_) (AllReadyH.cons rfl (fun K hK => ?_) AllReadyH.nil)
      · refine step_append_ints rfl (.tmp 33) (.tmp 36) rfl _ _ ([]) rfl ho0 hn0 ⟨b, 0, none⟩ (c) (g) (xs.take g) (HTL.out.symm) rfl (HCB.out _ (hB0)) (by rw [HTL.out]; show 0 + g ≤ _; omega) (hZ0) ?_
        intro v1 w1 ho1 hn1 hb1 hg1
        have hB1 : Below wr.heap.size wr w1 := hB0.trans hb1
        have hZ1 : wr.heap.size ≤ w1.heap.size := hB1.size
        refine hK.out _ _ trivial (fun hHeld => ?_)
        clear hK K
        try simp only [nmA, Act.put]
        refine rdA 6 (fun K hK => ?_)
        refine step_lit1 rfl (.tmp 38) n rfl rfl ?_
        intro wl G hG hcG hbG hlG
        have hBl : Below wr.heap.size wr wl := hB1.trans (hbG.mono hZ1)
        have hZl : wr.heap.size ≤ wl.heap.size := hBl.size
        have hol := ho1.kept hbG
        refine hK.out _ _ trivial (fun hHeld => ?_)
        clear hK K
        try simp only [nmA, Act.put]
        refine rdA 7 (fun K hK => ?_)
        refine step_append_ints rfl (.tmp 37) (.tmp 39) rfl _ _ ([] ++ xs.take g) rfl hol hn1 ⟨G, 0, none⟩ (1) (1) ([n]) (rfl) rfl (oneI (hcG)) (by rw [List.nil_append, HTL.out]; show g + 1 ≤ _; omega) (hZl) ?_
        intro v2 w2 ho2 hn2 hb2 hg2
        have hB2 : Below wr.heap.size wr w2 := hBl.trans hb2
        have hZ2 : wr.heap.size ≤ w2.heap.size := hB2.size
        refine hK.out _ _ trivial (fun hHeld => ?_)
        clear hK K
        try simp only [nmA, Act.put]
        refine rdA 11 (fun K hK => ?_)
        refine step_append_ints rfl (.tmp 40) (.tmp 43) rfl _ _ ([] ++ xs.take g ++ [n]) rfl ho2 hn2 A (c - g) (xs.length - g) (xs.drop g) (HDL.out.symm) rfl (HCA.out _ (hB2)) (by rw [List.nil_append, List.length_append, HTL.out, HDL.out]; show g + 1 + _ ≤ _; omega) (hZ2) ?_
        intro v3 w3 ho3 hn3 hb3 hg3
        have hB3 : Below wr.heap.size wr w3 := hB2.trans hb3
        refine hK.out _ _ trivial (fun hHeld => ?_)
        clear hK K
        try simp only [nmA, Act.put]
        refine tkA 12 ?_
        try simp only [nmA, Act.put]
        refine wpAnyH_done (by kernel_rfl) ?_ _
        have HF := qd (hB3)
        have HO := qd ho3
        have HN := qd hn3
        clear hs2
        go_wp2_with fail
        go_ret
        exact put_end HE.out HO.out HN.out HF.out
      · refine step_lit1 rfl (.tmp 38) n rfl rfl ?_
        intro wl G hG hcG hbG hlG
        have hBl : Below wr.heap.size wr wl := hB0.trans (hbG.mono hZ0)
        have hZl : wr.heap.size ≤ wl.heap.size := hBl.size
        have hol := ho0.kept hbG
        refine hK.out _ _ trivial (fun hHeld => ?_)
        clear hK K
        try simp only [nmA, Act.put]
        refine rdA 4 (fun K hK => ?_)
        refine step_append_ints rfl (.tmp 33) (.tmp 36) rfl _ _ ([]) rfl hol hn0 ⟨b, 0, none⟩ (c) (g) (xs.take g) (HTL.out.symm) rfl (HCB.out _ (hBl)) (by rw [HTL.out]; show 0 + g ≤ _; omega) (hZl) ?_
        intro v1 w1 ho1 hn1 hb1 hg1
        have hB1 : Below wr.heap.size wr w1 := hBl.trans hb1
        have hZ1 : wr.heap.size ≤ w1.heap.size := hB1.size
        have hcG1 := cellK hcG hg1 (fun e => absurd (ho0.block_lt _ e.symm) (by omega))
        refine hK.out _ _ trivial (fun hHeld => ?_)
        clear hK K
        try simp only [nmA, Act.put]
        refine rdA 7 (fun K hK => ?_)
        refine step_append_ints rfl (.tmp 37) (.tmp 39) rfl _ _ ([] ++ xs.take g) rfl ho1 hn1 ⟨G, 0, none⟩ (1) (1) ([n]) (rfl) rfl (oneI (hcG1)) (by rw [List.nil_append, HTL.out]; show g + 1 ≤ _; omega) (hZ1) ?_
        intro v2 w2 ho2 hn2 hb2 hg2
        have hB2 : Below wr.heap.size wr w2 := hB1.trans hb2
        have hZ2 : wr.heap.size ≤ w2.heap.size := hB2.size
        refine hK.out _ _ trivial (fun hHeld => ?_)
        clear hK K
        try simp only [nmA, Act.put]
        refine rdA 11 (fun K hK => ?_)
        refine step_append_ints rfl (.tmp 40) (.tmp 43) rfl _ _ ([] ++ xs.take g ++ [n]) rfl ho2 hn2 A (c - g) (xs.length - g) (xs.drop g) (HDL.out.symm) rfl (HCA.out _ (hB2)) (by rw [List.nil_append, List.length_append, HTL.out, HDL.out]; show g + 1 + _ ≤ _; omega) (hZ2) ?_
        intro v3 w3 ho3 hn3 hb3 hg3
        have hB3 : Below wr.heap.size wr w3 := hB2.trans hb3
        refine hK.out _ _ trivial (fun hHeld => ?_)
        clear hK K
        try simp only [nmA, Act.put]
        refine tkA 12 ?_
        try simp only [nmA, Act.put]
        refine wpAnyH_done (by kernel_rfl) ?_ _
        have HF := qd (hB3)
        have HO := qd ho3
        have HN := qd hn3
        clear hs2
        go_wp2_with fail
        go_ret
        exact put_end HE.out HO.out HN.out HF.out
    · refine step_lit1 rfl (.tmp 38) n rfl rfl ?_
      intro wl G hG hcG hbG hlG
      have hBl : Below wr.heap.size wr wl := hS.trans hbG
      have hZl : wr.heap.size ≤ wl.heap.size := hBl.size
      refine hK.out _ _ trivial (fun hHeld => ?_)
      clear hK K
      try simp only [nmA, Act.put]
      refine rdA 0 (fun K hK => ?_)
      refine step_lit0 rfl rfl ?_
      intro v0 w0 ho0 hn0 hb0
      have hB0 : Below wr.heap.size wr w0 := hBl.trans (hb0.mono hZl)
      have hZ0 : wl.heap.size ≤ w0.heap.size := hb0.size
      refine hK.out _ _ trivial (fun hHeld => ?_)
      clear hK K
      try simp only [nmA, Act.put]
      refine rdA 4 (fun K hK => ?_)
      refine step_append_ints rfl (.tmp 33) (.tmp 36) rfl _ _ ([]) rfl ho0 hn0 ⟨b, 0, none⟩ (c) (g) (xs.take g) (HTL.out.symm) rfl (HCB.out _ (hB0)) (by rw [HTL.out]; show 0 + g ≤ _; omega) (hZ0) ?_
      intro v1 w1 ho1 hn1 hb1 hg1
      have hB1 : Below wr.heap.size wr w1 := hB0.trans (hb1.mono hZl)
      have hZ1 : wl.heap.size ≤ w1.heap.size := Nat.le_trans hZ0 hb1.size
      have hcG1 : w1.cell? ⟨G, 0, none⟩ = some (iV n) := ((hb0.trans hb1).cell (p := ⟨G, 0, none⟩) hlG).trans hcG
      refine hK.out _ _ trivial (fun hHeld => ?_)
      clear hK K
      try simp only [nmA, Act.put]
      refine rdA 7 (fun K hK => ?_)
      refine step_append_ints rfl (.tmp 37) (.tmp 39) rfl _ _ ([] ++ xs.take g) rfl ho1 hn1 ⟨G, 0, none⟩ (1) (1) ([n]) (rfl) rfl (oneI (hcG1)) (by rw [List.nil_append, HTL.out]; show g + 1 ≤ _; omega) (hZ1) ?_
      intro v2 w2 ho2 hn2 hb2 hg2
      have hB2 : Below wr.heap.size wr w2 := hB1.trans (hb2.mono hZl)
      have hZ2 : wl.heap.size ≤ w2.heap.size := Nat.le_trans hZ1 hb2.size
      refine hK.out _ _ trivial (fun hHeld => ?_)
      clear hK K
      try simp only [nmA, Act.put]
      refine rdA 11 (fun K hK => ?_)
      refine step_append_ints rfl (.tmp 40) (.tmp 43) rfl _ _ ([] ++ xs.take g ++ [n]) rfl ho2 hn2 A (c - g) (xs.length - g) (xs.drop g) (HDL.out.symm) rfl (HCA.out _ (hB2)) (by rw [List.nil_append, List.length_append, HTL.out, HDL.out]; show g + 1 + _ ≤ _; omega) (hZ2) ?_
      intro v3 w3 ho3 hn3 hb3 hg3
      have hB3 : Below wr.heap.size wr w3 := hB2.trans (hb3.mono hZl)
      refine hK.out _ _ trivial (fun hHeld => ?_)
      clear hK K
      try simp only [nmA, Act.put]
      refine tkA 12 ?_
      try simp only [nmA, Act.put]
      refine wpAnyH_done (by kernel_rfl) ?_ _
      have HF := qd (hB3)
      have HO := qd ho3
      have HN := qd hn3
      clear hs2
      go_wp2_with fail
      go_ret
      exact put_end HE.out HO.out HN.out HF.out
structure PRow (w : World) (xs : List Nat) (m : Nat) (v : Value) : Prop where
 at_ : ∃ b c, v = .slice (some ⟨b, 0, none⟩) xs.length c ∧ IRow w xs b c
 asc : AscN xs
 le : ∀ x ∈ xs, x ≤ m
theorem PRow.kept {w w' : World} {xs : List Nat} {m : Nat} {v : Value} (h : PRow w xs m v) (hb : Below w.heap.size w w') : PRow w' xs m v := by
 obtain ⟨b, c, e, hr⟩ := h.at_
 exact ⟨⟨b, c, e, hr.kept hb⟩, h.asc, h.le⟩
theorem PRow.len {w : World} {xs : List Nat} {m : Nat} {v : Value} (h : PRow w xs m v) : xs.length ≤ m + 1 := h.asc.len_le h.le
theorem allN_take (a b : List Nat) (g : Nat) (h : g < b.length) : allN a (b.take (g + 1)) = putN (allN a (b.take g)) b[g] := by
 unfold allN
 rw [List.take_add_one, List.getElem?_eq_getElem h, List.foldl_append]
 rfl
theorem putN_le (m : Nat) (xs : List Nat) (n : Nat) (hx : ∀ x ∈ xs, x ≤ m) (hn : n ≤ m) : ∀ x ∈ putN xs n, x ≤ m := fun x h => by
 rcases (putN_mem n x xs).1 h with rfl | h
 · exact hn
 · exact hx x h
theorem l04Put_row (xs : List Nat) (n m : Nat) (v : Value) (w : World) (h : PRow w xs m v) (hm : m ≤ 1048576) (hn : n ≤ m) :
 Calls Tryz.prog 70 #[v, .int .i64 (n : Int)] w fun e w' => ∃ v', e = .returned v' ∧ PRow w' (putN xs n) m v' ∧ Below w.heap.size w w' := by
 obtain ⟨b, c, rfl, hr⟩ := h.at_
 refine (l04Put_any xs n b c w hr (by have := h.len; omega) h.asc).mono ?_
 rintro e w' ⟨b', c', rfl, h1, h2⟩
 exact ⟨_, rfl, ⟨⟨b', c', rfl, h1⟩, putN_asc n xs h.asc, putN_le m xs n h.le hn⟩, h2⟩
set_option maxRecDepth 100000 in
set_option maxHeartbeats 2000000 in
theorem l04All_any (xs ys : List Nat) (m : Nat) (vx vy : Value) (w : World) (hx : PRow w xs m vx) (hy : PRow w ys m vy) (hm : m ≤ 1048576) :
 Calls Tryz.prog 62 #[vx, vy] w fun e w' => ∃ v', e = .returned v' ∧ PRow w' (allN xs ys) m v' ∧ Below w.heap.size w w' := by
 obtain ⟨b, c, rfl, hyr⟩ := hy.at_
 have HY := qd hy
 have HYR := qd hyr
 have HX := qd hx
 have hyl : (ys.length : Int) ≤ 1048577 := by have := hy.len; omega
 clear hx hy hyr
 go_enter Tryz.func62, Tryz.ntmps62
 go_wp2_with fail
 go_loopg [0, 5] (ys.length) (fun gg va vi wr => gg ≤ ys.length ∧ vi = .int .i64 ((ys.length - gg : Nat) : Int) ∧ PRow wr (allN xs (ys.take (ys.length - gg))) m va ∧ Below w.heap.size w wr)
 case atStart => exact ⟨Nat.le_refl _, by simp, by simpa [allN] using HX.out, Below.refl _ _⟩
 case round =>
  obtain ⟨hg, rfl, hp, hb⟩ := hrel
  have HP := qd hp
  have HB := qd hb
  obtain ⟨g, hgg⟩ : ∃ g, g = ys.length - gk := ⟨_, rfl⟩
  have hgl : g ≤ ys.length := by omega
  have HGK := qd (show gk = ys.length - g from by omega)
  rw [← hgg] at HP ⊢
  clear hp hb hgg
  by_cases h0 : g < ys.length
  · have c0 := (HYR.out.kept HB.out).cell g h0
    obtain ⟨y, hy⟩ : ∃ y, y = ys[g] := ⟨_, rfl⟩
    rw [← hy] at c0
    unfold iV at c0
    have hym : y ≤ m := HY.out.le _ (hy ▸ List.getElem_mem h0)
    have HN := qd (show allN xs (ys.take (g + 1)) = putN (allN xs (ys.take g)) y from by rw [hy]; exact allN_take xs ys g h0)
    clear hy
    go_wp2_with fail
    refine (l04Put_row _ y m _ _ HP.out hm hym).mono ?_
    rintro e w2 ⟨v2, rfl, hp2, hb2⟩
    have HP2 := qd hp2
    have HB2 := qd (HB.out.trans (hb2.mono HB.out.size))
    clear hp2 hb2
    go_wp2_with fail
    go_roundg (gk - 1)
    case rel =>
        have e1 : ys.length - (gk - 1) = g + 1 := by have := HGK.out; omega
        refine ⟨by omega, by rw [e1]; go_num, ?_, HB2.out⟩
        rw [e1, HN.out]
        exact HP2.out
    case measure => have := HGK.out; omega
  · have HE := qd (show PRow wr (allN xs ys) m u0 from by
        have := HP.out
        rwa [List.take_of_length_le (by omega)] at this)
    go_wp2_with fail
    go_ret
    exact ⟨_, rfl, HE.out, HB.out⟩
end Go.Proofs.YtcimhpdpfckgiaaGreatDoor.kit
