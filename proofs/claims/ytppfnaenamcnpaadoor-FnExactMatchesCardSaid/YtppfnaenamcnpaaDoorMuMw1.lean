/-
  Rows of words in memory, and append to them. Conditions: each theorem names its own.
-/
import Derived.Test.YtppfnaenamcnpaaDoorMuKit
import Derived.Test.YtppfnaenamcnpaaDoorMuInfo
import Derived.Test.YtppfnaenamcnpaaDoorMuMw0
import Derived.Laws.AppendOwn
import Derived.Deep.RegionLaw
import Derived.Deep.LoopGhost
set_option linter.unusedVariables false
open Go.ChangeShapes Go.WideShapes Go.ChangeAt Go.RowKit
namespace Go.Proofs.YtppfnaenamcnpaaDoor.kit
def uV (x : Nat) : Value := .int .u64 (x : Int)
structure WRow (w : World) (xs : List Nat) (b c : Nat) : Prop where
 cell : ∀ j (h : j < xs.length), w.cell? ⟨b, j, none⟩ = some (uV xs[j])
 lt : b < w.heap.size
 le : xs.length ≤ c
 cap : c ≤ maxLen
theorem WRow.kept {w w' : World} {xs : List Nat} {b c : Nat} (h : WRow w xs b c) (hb : Below w.heap.size w w') : WRow w' xs b c :=
 ⟨fun j hj => (hb.cell (p := ⟨b, j, none⟩) h.lt).trans (h.cell j hj), Nat.lt_of_lt_of_le h.lt hb.size, h.le, h.cap⟩
def OwnW (B : Nat) (w : World) (v : Value) (xs : List Nat) : Prop := w.ownsRow B 120 1 v xs.length (xs.map uV)
theorem OwnW.alloc {B : Nat} {w : World} {v : Value} {xs : List Nat} (h : OwnW B w v xs) (o : Obj) : OwnW B (w.alloc o) v xs := World.ownsRow.alloc h o
theorem OwnW.drew {B : Nat} {w : World} {v : Value} {xs : List Nat} (h : OwnW B w v xs) : OwnW B w.drew v xs := World.ownsRow.drew h
theorem OwnW.kept {B : Nat} {w w' : World} {v : Value} {xs : List Nat} (h : OwnW B w v xs) (hb : Below w.heap.size w w') : OwnW B w' v xs :=
 World.ownsRow.kept h ⟨hb.os, hb.tape, hb.output, hb.size, fun k hk _ => hb.block k hk⟩ (row := none) (by cases v.ownBlock <;> simp)
theorem OwnW.row {B : Nat} {w : World} {v : Value} {xs : List Nat} (h : OwnW B w v xs) : (v = .slice none 0 0 ∧ xs = []) ∨ ∃ b c, v = .slice (some ⟨b, 0, none⟩) xs.length c ∧ B ≤ b ∧ WRow w xs b c := by
 rcases h.2 with ⟨rfl, h0⟩ | ⟨g, cap, cur, rfl, hb, hg, hn, hm, _⟩
 · exact .inl ⟨rfl, List.length_eq_zero_iff.1 h0⟩
 · refine .inr ⟨g, cap, rfl, hb, ⟨fun j hj => ?_, (Array.getElem?_eq_some_iff.1 hg).1, hn, hm⟩⟩
   have h2 : w.ownsRow B 120 1 (.slice (some ⟨g, 0, none⟩) xs.length cap) xs.length (xs.map uV) := h
   rw [World.ownsRow.cellAt h2 j (by omega)]
   simp [hj]
theorem infoWord : (Tryd.prog.info? 120).map (fun i => (i.zero, i.size, i.bytes)) = some (some (.int .u64 0), 1, 8) := by kernel_rfl
theorem run_append_words {w : World} (ty : TypeId) (B : Nat) (v : Value) (xs : List Nat) (hown : OwnW B w v xs) (hne : v ≠ .slice none 0 0) (ad : Addr) (c : Nat) (news : List Nat) (hnews : ∀ (j : Nat) (h : j < news.length), w.cell? (ad.add j) = some (uV news[j])) (hl : xs.length + news.length ≤ 1099511627776) (hB : B ≤ w.heap.size) :
 ∃ v' w', (Builtin.append_ #[60, 60] ty #[v, .slice (some ad) news.length c]).run Tryd.prog w = .ok v' w' ∧ OwnW B w' v' (xs ++ news) ∧ Below B w w' ∧ v' ≠ .slice none 0 0 := by
 obtain ⟨i0, hi, hz0, hz1, hz2⟩ := info_parts infoWord
 obtain ⟨v', w', hr, h1, h2, h3⟩ := run_append_own (P := Tryd.prog) w B 60 ty 120 i0 (.int .u64 0) 1 8 Tryd.underlying60 hi hz0 hz1 hz2 rfl (by decide) v xs.length _ hown ad news.length c (news.map uV) (by simp)
  (by
    intro j u hu
    rw [List.getElem?_map] at hu
    cases hj : news[j]? with
    | none => simp [hj] at hu
    | some y =>
      obtain ⟨hjl, hjc⟩ := List.getElem?_eq_some_iff.1 hj
      rw [hnews j hjl, hjc]; simpa [hj] using hu)
  (by intro u hu; simp at hu; obtain ⟨y, _, rfl⟩ := hu; rfl) (by simp only [maxLen]; omega) (by omega) hB
 refine ⟨v', w', hr, by simpa [OwnW, List.map_append] using h1, Below.grown (Below.refl _ _) h2 hB (fun k hk => (World.ownsRow.lt hown k hk).1), fun e => hne ((h3.1 e).1)⟩
theorem step_append_words {w : World} {ops : Array Oper} {o : Oper} {a : Act} {K : Act → World → Prop} {Q : Exit → Act → World → Prop} {E : Prop} (hgd : o.guard = none) (s x : Operand)
 (ho : o.op = .call { callee := .builtin .append, args := #[s, x], argTypes := #[60, 60] }) (B : Nat) (v : Value) (xs : List Nat) (hs : a.eval s = v) (hown : OwnW B w v xs) (hne : v ≠ .slice none 0 0)
 (ad : Addr) (c m : Nat) (news : List Nat) (hm : m = news.length) (hx : a.eval x = .slice (some ad) m c) (hnews : ∀ (j : Nat) (h : j < news.length), w.cell? (ad.add j) = some (uV news[j])) (hl : xs.length + news.length ≤ 1099511627776) (hB : B ≤ w.heap.size)
 (h : ∀ v' w', OwnW B w' v' (xs ++ news) → v' ≠ .slice none 0 0 → Below B w w' → K (a.put o.dst v') w') : if Region.wanted o (yielded ops a.tmps) = true then Oper.wp Tryd.prog o a w K Q else E := by
 subst hm
 have hw : Region.wanted o (yielded ops a.tmps) = true := by simp [Region.wanted, hgd]
 rw [if_pos hw]
 obtain ⟨v', w', hr, h1, h2, h3⟩ := run_append_words o.type B v xs hown hne ad c news hnews hl hB
 unfold Oper.wp execOp
 simp only [ho, resolve, invoke, builtin, Sem.run_bind, Sem.run_pure, Result.andThen_ok, List.map_toArray, List.map_cons, List.map_nil, hs, hx, hr]
 exact h v' w' h1 h3 h2
theorem WRow.at {w : World} {xs : List Nat} {b c : Nat} (h : WRow w xs b c) : WordsAt w xs (some ⟨b, 0, none⟩) := fun j hj => ⟨b, rfl, h.lt, h.cell j hj⟩
theorem OwnW.at {B : Nat} {w : World} {v : Value} {xs : List Nat} (h : OwnW B w v xs) : ∃ a c, v = .slice a xs.length c ∧ WordsAt w xs a := by
 rcases h.row with ⟨rfl, rfl⟩ | ⟨b, c, rfl, _, hr⟩
 · exact ⟨none, 0, rfl, fun j hj => by simp at hj⟩
 · exact ⟨_, _, rfl, hr.at⟩
structure OwnSet (B q : Nat) (sk : Nat) (ws : List Nat) (w : World) : Prop where
 ex : ∃ a c, w.cell? ⟨q, 1, none⟩ = some (.slice a ws.length c) ∧ OwnW B w (.slice a ws.length c) ws ∧ Value.ownBlock (.slice a ws.length c) ≠ some q
 c0 : w.cell? ⟨q, 0, none⟩ = some (.int .i64 (sk : Int))
 f : w.frozen? ⟨q, 0, none⟩ = false ∧ w.frozen? ⟨q, 1, none⟩ = false
 lt : q < w.heap.size
theorem OwnSet.step {B q sk : Nat} {ws : List Nat} {w w' : World} (h : OwnSet B q sk ws w) (hb : Below w.heap.size w w') : OwnSet B q sk ws w' := by
 obtain ⟨⟨a, c, c1, ho, hne⟩, c0, ⟨f0, f1⟩, lt⟩ := h
 exact ⟨⟨a, c, (hb.cell (p := ⟨q, 1, none⟩) lt).trans c1, ho.kept hb, hne⟩, (hb.cell (p := ⟨q, 0, none⟩) lt).trans c0, ⟨(hb.frozen (p := ⟨q, 0, none⟩) lt).trans f0, (hb.frozen (p := ⟨q, 1, none⟩) lt).trans f1⟩, Nat.lt_of_lt_of_le lt hb.size⟩
def iV (x : Nat) : Value := .int .i64 (x : Int)
structure IRow (w : World) (xs : List Nat) (b c : Nat) : Prop where
 cell : ∀ j (h : j < xs.length), w.cell? ⟨b, j, none⟩ = some (iV xs[j])
 lt : b < w.heap.size
 le : xs.length ≤ c
 cap : c ≤ maxLen
theorem IRow.kept {w w' : World} {xs : List Nat} {b c : Nat} (h : IRow w xs b c) (hb : Below w.heap.size w w') : IRow w' xs b c :=
 ⟨fun j hj => (hb.cell (p := ⟨b, j, none⟩) h.lt).trans (h.cell j hj), Nat.lt_of_lt_of_le h.lt hb.size, h.le, h.cap⟩
def OwnI (B : Nat) (w : World) (v : Value) (xs : List Nat) : Prop := w.ownsRow B 3 1 v xs.length (xs.map iV)
theorem ownI_start {B : Nat} {w : World} (hB : B ≤ w.heap.size) : OwnI B (w.alloc (.cells #[] 3)) (.slice (some ⟨w.heap.size, 0, none⟩) 0 0) [] :=
 World.ownsRow_made w #[] 0 hB (by simp [maxLen]) rfl
theorem OwnI.alloc {B : Nat} {w : World} {v : Value} {xs : List Nat} (h : OwnI B w v xs) (o : Obj) : OwnI B (w.alloc o) v xs := World.ownsRow.alloc h o
theorem OwnI.drew {B : Nat} {w : World} {v : Value} {xs : List Nat} (h : OwnI B w v xs) : OwnI B w.drew v xs := World.ownsRow.drew h
theorem OwnI.kept {B : Nat} {w w' : World} {v : Value} {xs : List Nat} (h : OwnI B w v xs) (hb : Below w.heap.size w w') : OwnI B w' v xs :=
 World.ownsRow.kept h ⟨hb.os, hb.tape, hb.output, hb.size, fun k hk _ => hb.block k hk⟩ (row := none) (by cases v.ownBlock <;> simp)
theorem OwnI.row {B : Nat} {w : World} {v : Value} {xs : List Nat} (h : OwnI B w v xs) : (v = .slice none 0 0 ∧ xs = []) ∨ ∃ b c, v = .slice (some ⟨b, 0, none⟩) xs.length c ∧ B ≤ b ∧ IRow w xs b c := by
 rcases h.2 with ⟨rfl, h0⟩ | ⟨g, cap, cur, rfl, hb, hg, hn, hm, _⟩
 · exact .inl ⟨rfl, List.length_eq_zero_iff.1 h0⟩
 · refine .inr ⟨g, cap, rfl, hb, ⟨fun j hj => ?_, (Array.getElem?_eq_some_iff.1 hg).1, hn, hm⟩⟩
   have h2 : w.ownsRow B 3 1 (.slice (some ⟨g, 0, none⟩) xs.length cap) xs.length (xs.map iV) := h
   rw [World.ownsRow.cellAt h2 j (by omega)]
   simp [hj]
theorem infoInt : (Tryd.prog.info? 3).map (fun i => (i.zero, i.size, i.bytes)) = some (some (.int .i64 0), 1, 8) := by kernel_rfl
theorem run_append_ints {w : World} (ty : TypeId) (B : Nat) (v : Value) (xs : List Nat) (hown : OwnI B w v xs) (hne : v ≠ .slice none 0 0) (ad : Addr) (c : Nat) (news : List Nat) (hnews : ∀ (j : Nat) (h : j < news.length), w.cell? (ad.add j) = some (iV news[j])) (hl : xs.length + news.length ≤ 1099511627776) (hB : B ≤ w.heap.size) :
 ∃ v' w', (Builtin.append_ #[57, 57] ty #[v, .slice (some ad) news.length c]).run Tryd.prog w = .ok v' w' ∧ OwnI B w' v' (xs ++ news) ∧ Below B w w' ∧ v' ≠ .slice none 0 0 ∧ w.grownBy w' v.ownBlock := by
 obtain ⟨i0, hi, hz0, hz1, hz2⟩ := info_parts infoInt
 obtain ⟨v', w', hr, h1, h2, h3⟩ := run_append_own (P := Tryd.prog) w B 57 ty 3 i0 (.int .i64 0) 1 8 Tryd.underlying57 hi hz0 hz1 hz2 rfl (by decide) v xs.length _ hown ad news.length c (news.map iV) (by simp)
  (by
    intro j u hu
    rw [List.getElem?_map] at hu
    cases hj : news[j]? with
    | none => simp [hj] at hu
    | some y =>
      obtain ⟨hjl, hjc⟩ := List.getElem?_eq_some_iff.1 hj
      rw [hnews j hjl, hjc]; simpa [hj] using hu)
  (by intro u hu; simp at hu; obtain ⟨y, _, rfl⟩ := hu; rfl) (by simp only [maxLen]; omega) (by omega) hB
 refine ⟨v', w', hr, by simpa [OwnI, List.map_append] using h1, Below.grown (Below.refl _ _) h2 hB (fun k hk => (World.ownsRow.lt hown k hk).1), fun e => hne ((h3.1 e).1), h2⟩
theorem step_append_ints {w : World} {ops : Array Oper} {o : Oper} {a : Act} {K : Act → World → Prop} {Q : Exit → Act → World → Prop} {E : Prop} (hgd : o.guard = none) (s x : Operand)
 (ho : o.op = .call { callee := .builtin .append, args := #[s, x], argTypes := #[57, 57] }) (B : Nat) (v : Value) (xs : List Nat) (hs : a.eval s = v) (hown : OwnI B w v xs) (hne : v ≠ .slice none 0 0)
 (ad : Addr) (c m : Nat) (news : List Nat) (hm : m = news.length) (hx : a.eval x = .slice (some ad) m c) (hnews : ∀ (j : Nat) (h : j < news.length), w.cell? (ad.add j) = some (iV news[j])) (hl : xs.length + news.length ≤ 1099511627776) (hB : B ≤ w.heap.size)
 (h : ∀ v' w', OwnI B w' v' (xs ++ news) → v' ≠ .slice none 0 0 → Below B w w' → w.grownBy w' v.ownBlock → K (a.put o.dst v') w') : if Region.wanted o (yielded ops a.tmps) = true then Oper.wp Tryd.prog o a w K Q else E := by
 subst hm
 have hw : Region.wanted o (yielded ops a.tmps) = true := by simp [Region.wanted, hgd]
 rw [if_pos hw]
 obtain ⟨v', w', hr, h1, h2, h3, h4⟩ := run_append_ints o.type B v xs hown hne ad c news hnews hl hB
 unfold Oper.wp execOp
 simp only [ho, resolve, invoke, builtin, Sem.run_bind, Sem.run_pure, Result.andThen_ok, List.map_toArray, List.map_cons, List.map_nil, hs, hx, hr]
 exact h v' w' h1 h3 h2 h4
theorem wpList_append_ints {w : World} {ops : Array Oper} {rest : List Oper} {o : Oper} {a : Act} {Q : Exit → Act → World → Prop} (hgd : o.guard = none) (s x : Operand)
 (ho : o.op = .call { callee := .builtin .append, args := #[s, x], argTypes := #[57, 57] }) (B : Nat) (v : Value) (xs : List Nat) (hs : a.eval s = v) (hown : OwnI B w v xs) (hne : v ≠ .slice none 0 0)
 (ad : Addr) (c m : Nat) (news : List Nat) (hm : m = news.length) (hx : a.eval x = .slice (some ad) m c) (hnews : ∀ (j : Nat) (h : j < news.length), w.cell? (ad.add j) = some (iV news[j])) (hl : xs.length + news.length ≤ 1099511627776) (hB : B ≤ w.heap.size)
 (h : ∀ v' w', OwnI B w' v' (xs ++ news) → v' ≠ .slice none 0 0 → Below B w w' → w.grownBy w' v.ownBlock → wpList Tryd.prog ops Q rest (a.put o.dst v') w') : wpList Tryd.prog ops Q (o :: rest) a w := by
 subst hm
 obtain ⟨v', w', hr, h1, h2, h3, h4⟩ := run_append_ints o.type B v xs hown hne ad c news hnews hl hB
 refine wpList_plain hgd fun _ hK => ?_
 unfold Oper.wp execOp
 simp only [ho, resolve, invoke, builtin, Sem.run_bind, Sem.run_pure, Result.andThen_ok, List.map_toArray, List.map_cons, List.map_nil, hs, hx, hr]
 exact hK _ _ (h v' w' h1 h3 h2 h4)
end Go.Proofs.YtppfnaenamcnpaaDoor.kit
