/-
  A map of flags that a call made itself, whose keys hold two addresses and a number: how it is looked into, and how a flag is put in. Conditions: each theorem names its own.
-/
import Derived.Test.YtghmkfehohgmgaaNd8
import Derived.Maps.OwnSet
import Derived.Laws.Pointers
import Derived.Laws.StructEq
namespace Go.Proofs.Ytghmkfehohgmgaa.kit
open Go.ChangeShapes Go.WideShapes Go.ChangeAt Go.RowKit Go.ChangeMaps
set_option linter.unusedVariables false

/-- A block of cells none of which is frozen. -/
def Clear (w : World) (b : Nat) : Prop := (∃ c e f, w.heap[b]? = some (.cells c e f)) ∧ ∀ j, w.frozen? ⟨b, j, none⟩ = false
theorem Clear.of {w w' : World} {b : Nat} (h : Clear w b) (hb : w'.heap[b]? = w.heap[b]?) : Clear w' b := by
  obtain ⟨⟨c, e, f, h1⟩, h2⟩ := h
  exact ⟨⟨c, e, f, hb.trans h1⟩, fun j => by have := h2 j; simp only [World.frozen?, hb] at this ⊢; exact this⟩

theorem run_sameAddr_clear {P : Program} {w : World} {a b : Addr} (ha : Clear w a.block) (hb : Clear w b.block) : (sameAddr a b).run P w = .ok (a == b) w := by
  obtain ⟨⟨ca, ea, qa, ha⟩, za⟩ := ha
  obtain ⟨⟨cb, eb, qb, hb⟩, zb⟩ := hb
  unfold sameAddr
  by_cases h : a.block = b.block
  · simp [h]
  · have hne : (a == b) = false := by simp; intro e; exact h (by rw [e])
    have sa : w.shape? a.block = some (ea, ca.size) := by simp [World.shape?, ha]
    have sb : w.shape? b.block = some (eb, cb.size) := by simp [World.shape?, hb]
    have fa : ∀ o p, w.frozen? ⟨a.block, o, p⟩ = false := fun o p => by have := za o; simp only [World.frozen?] at this ⊢; exact this
    have fb : ∀ o p, w.frozen? ⟨b.block, o, p⟩ = false := fun o p => by have := zb o; simp only [World.frozen?] at this ⊢; exact this
    simp [h, hne, frozen, noView, viewAt, mayBeOne, stringish, shape, sa, sb, fa, fb, Sem.run, Result.andThen]

/-- A key: where two rows begin, and how long they are. -/
def kyV (k : Addr × Addr × Int) : Value := .agg #[.pointer (some k.1), .pointer (some k.2.1), .int .i64 k.2.2]
theorem kyV_inj {k k' : Addr × Addr × Int} (h : kyV k = kyV k') : k = k' := by
  obtain ⟨a, b, n⟩ := k
  obtain ⟨a', b', n'⟩ := k'
  simp [kyV] at h
  simp [h]
/-- A key's rows are clear. -/
def KyOk (w : World) (k : Addr × Addr × Int) : Prop := Clear w k.1.block ∧ Clear w k.2.1.block

theorem und_pairKey : Try.prog.underlying 95 = some (.struct (Try.prog.fieldsOf 95)) := by kernel_rfl
theorem stood_pairKey : Try.prog.stoodInHeld 95 = false := by kernel_rfl
theorem fields_pairKey : (Try.prog.fieldsOf 95).toList.map (fun f => (f.name, f.type, f.offset)) = [("a", 93, 0), ("b", 93, 1), ("many", 3, 2)] := by kernel_rfl
theorem infoNk : (Try.prog.info? 58).map (fun i => (i.zero, i.size, i.bytes)) = some (some (.agg #[.int .i64 0, .int .i64 0, .string ⟨#[]⟩, .slice none 0 0]), 4, 56) := by kernel_rfl
theorem infoFlag : (Try.prog.info? 4).map (fun i => (i.zero, i.size, i.bytes)) = some (some (.bool false), 1, 1) := by kernel_rfl

theorem size_node (w : World) : (sizeOf 58).run Try.prog w = .ok 4 w := by
  obtain ⟨i0, hi, hz0, hz1, hz2⟩ := info_parts infoNk
  rw [run_sizeOf w hi]
  simp [Program.cellsOf, hi, hz1]
theorem part_ptr (w : World) (cs : Array Value) (off : Nat) (v : Value) (h : cs[off]? = some v) : (part 93 cs off).run Try.prog w = .ok v w := by
  simp [part, isAgg, run_underlying Try.underlying93, Result.andThen, h]
theorem part_num (w : World) (cs : Array Value) (off : Nat) (v : Value) (h : cs[off]? = some v) : (part 3 cs off).run Try.prog w = .ok v w := by
  simp [part, isAgg, run_underlying Try.underlying3, Result.andThen, h]
theorem equal_ptr (w : World) (d : Nat) {a b : Addr} (ha : Clear w a.block) (hb : Clear w b.block) : (Op.equalIn (d + 1) 93 (.pointer (some a)) (.pointer (some b))).run Try.prog w = .ok (a == b) w := by
  simp [Op.equalIn, run_underlying Try.underlying93, run_sameAddr_clear ha hb]

theorem ky_equal {w : World} {k k' : Addr × Addr × Int} (h : KyOk w k) (h' : KyOk w k') : (Op.equal 95 (kyV k) (kyV k')).run Try.prog w = .ok (k == k') w := by
  obtain ⟨a, b, n⟩ := k
  obtain ⟨a', b', n'⟩ := k'
  show (Op.equalIn (9998 + 1 + 1) 95 (.agg _) (.agg _)).run Try.prog w = _
  rw [run_equalIn_struct w _ _ _ _ und_pairKey stood_pairKey]
  simp only [Program.fieldsOf, Try.underlying95]
  have e1 := equal_ptr w 9998 h.1 h'.1
  have e2 := equal_ptr w 9998 h.2 h'.2
  have e3 := run_equalIn_int w 9998 3 .i64 .i64 n n' Try.underlying3
  simp only [] at e1 e2
  have p1 : ∀ (x y z : Value), (part 93 #[x, y, z] 0).run Try.prog w = .ok x w := fun x y z => part_ptr w _ _ _ rfl
  have p2 : ∀ (x y z : Value), (part 93 #[x, y, z] 1).run Try.prog w = .ok y w := fun x y z => part_ptr w _ _ _ rfl
  have p3 : ∀ (x y z : Value), (part 3 #[x, y, z] 2).run Try.prog w = .ok z w := fun x y z => part_num w _ _ _ rfl
  have hb : ((a, b, n) == (a', b', n')) = (a == a' && (b == b' && n == n')) := rfl
  rw [hb]
  cases h1 : a == a' <;> cases h2 : b == b' <;> cases h3 : n == n' <;> simp_all [Op.eqFields, Result.andThen]

theorem check_ptr (w : World) (em : Bool) (m : Nat) (p : Option Addr) : (Instr.checkKey em (m + 1) 93 (.pointer p)).run Try.prog w = .ok () w := by
  simp [Instr.checkKey, run_underlying Try.underlying93, Result.andThen]
theorem check_num (w : World) (em : Bool) (m : Nat) (p : Int) : (Instr.checkKey em (m + 1) 3 (.int .i64 p)).run Try.prog w = .ok () w := by
  simp [Instr.checkKey, run_underlying Try.underlying3, Result.andThen]
theorem ky_check (w : World) (em : Bool) (k : Addr × Addr × Int) : (Instr.checkKey em 10000 95 (kyV k)).run Try.prog w = .ok () w := by
  obtain ⟨a, b, n⟩ := k
  show (Instr.checkKey em (9998 + 1 + 1) 95 (.agg _)).run Try.prog w = _
  have p1 : ∀ (x y z : Value), (part 93 #[x, y, z] 0).run Try.prog w = .ok x w := fun x y z => part_ptr w _ _ _ rfl
  have p2 : ∀ (x y z : Value), (part 93 #[x, y, z] 1).run Try.prog w = .ok y w := fun x y z => part_ptr w _ _ _ rfl
  have p3 : ∀ (x y z : Value), (part 3 #[x, y, z] 2).run Try.prog w = .ok z w := fun x y z => part_num w _ _ _ rfl
  have c1 := fun p => check_ptr w em 9998 p
  have c3 := fun p => check_num w em 9998 p
  rw [Instr.checkKey]
  simp only [Sem.run_bind, run_underlying Try.underlying95, Result.andThen]
  rw [← Array.forIn_toList]
  simp [p1, p2, p3, c1, c3, Result.andThen, List.forIn_cons]

/-- The block holds a flag, up, at each key of L, and nothing else. -/
def Flags (w : World) (b : Nat) (L : List (Addr × Addr × Int)) : Prop :=
  ∃ es clock, w.heap[b]? = some (.map es clock) ∧ es.toList.map (·.key) = L.map kyV ∧ ∀ e ∈ es.toList, e.val = .bool true

theorem ky_asking {w : World} {k : Addr × Addr × Int} (hk : KyOk w k) : ∀ (es : List MapEntry) (L : List (Addr × Addr × Int)) (i : Nat), es.map (·.key) = L.map kyV → (∀ k' ∈ L, KyOk w k') → (∀ e ∈ es, e.val = .bool true) →
    (k ∉ L ∧ (Instr.findAsking 95 (kyV k) es i).run Try.prog w = .ok none w) ∨ (k ∈ L ∧ ∃ j, (Instr.findAsking 95 (kyV k) es i).run Try.prog w = .ok (some (j, .bool true)) w)
  | [], [], i, _, _, _ => Or.inl ⟨by simp, by simp [Instr.findAsking]⟩
  | [], _ :: _, i, h, _, _ => by simp at h
  | _ :: _, [], i, h, _, _ => by simp at h
  | e :: es, k' :: L, i, h, hL, hv => by
    simp only [List.map_cons, List.cons.injEq] at h
    have q := ky_equal hk (hL k' (by simp))
    rw [← h.1] at q
    by_cases he : k = k'
    · refine Or.inr ⟨by simp [he], i, ?_⟩
      have : (k == k') = true := by simp [he]
      simp [Instr.findAsking, q, this, Result.andThen, hv e (by simp)]
    · have : (k == k') = false := by simpa using he
      rcases ky_asking hk es L (i + 1) h.2 (fun x hx => hL x (by simp [hx])) (fun x hx => hv x (by simp [hx])) with ⟨h1, h2⟩ | ⟨h1, j, h2⟩
      · exact Or.inl ⟨by simp [he, h1], by simp [Instr.findAsking, q, this, Result.andThen, h2]⟩
      · exact Or.inr ⟨by simp [h1], j, by simp [Instr.findAsking, q, this, Result.andThen, h2]⟩

theorem ky_find {w : World} {k : Addr × Addr × Int} (hk : KyOk w k) (es : List MapEntry) (L : List (Addr × Addr × Int)) (h : es.map (·.key) = L.map kyV) (hL : ∀ k' ∈ L, KyOk w k') (hv : ∀ e ∈ es, e.val = .bool true) :
    (k ∉ L ∧ (Instr.findKey 95 (kyV k) es).run Try.prog w = .ok none w) ∨ (k ∈ L ∧ ∃ j, (Instr.findKey 95 (kyV k) es).run Try.prog w = .ok (some (j, .bool true)) w) := by
  have q := ky_asking hk es L 0 h hL hv
  cases es with
  | nil =>
    cases L with
    | nil => exact Or.inl ⟨by simp, by simp [Instr.findKey, run_underlying Try.underlying95, Result.andThen, Instr.findNow]⟩
    | cons _ _ => simp at h
  | cons e es =>
    have hn : ∀ d, Instr.findNow (.struct d) (kyV k) (e :: es) 0 = none := fun d => by simp [Instr.findNow, Instr.sameNow]
    have hr : (Instr.findKey 95 (kyV k) (e :: es)).run Try.prog w = (Instr.findAsking 95 (kyV k) (e :: es)).run Try.prog w := by
      simp only [Instr.findKey, Sem.run_bind, run_underlying Try.underlying95, Result.andThen, hn]
    rw [hr]
    exact q

/-- known[key]. -/
theorem Flags.look {w : World} {b : Nat} {L : List (Addr × Addr × Int)} {k : Addr × Addr × Int} (h : Flags w b L) (hL : ∀ k' ∈ L, KyOk w k') (hk : KyOk w k) :
    (Instr.lookup 92 (.map (some b)) (kyV k) false).run Try.prog w = .ok (.bool (decide (k ∈ L))) w := by
  obtain ⟨es, clock, hb, hm, hv⟩ := h
  obtain ⟨i0, hi, hz0, hz1, hz2⟩ := info_parts infoFlag
  have hz : (zeroValue 4).run Try.prog w = .ok (.bool false) w := by simp [zeroValue, run_typeInfo w hi, hz0, Result.andThen]
  rcases ky_find hk es.toList L hm hL hv with ⟨h1, h2⟩ | ⟨h1, j, h2⟩
  · simp [Instr.lookup, run_underlying Try.underlying92, MapKept.run_getObj_map hb, ky_check, h2, hz, Result.andThen, h1]
  · simp [Instr.lookup, run_underlying Try.underlying92, MapKept.run_getObj_map hb, ky_check, h2, Result.andThen, h1]

/-- known[key] = true, where it was not. -/
theorem Flags.put {w : World} {b : Nat} {L : List (Addr × Addr × Int)} {k : Addr × Addr × Int} (h : Flags w b L) (hL : ∀ k' ∈ L, KyOk w k') (hk : KyOk w k) (hn : k ∉ L) :
    ∃ w', (Instr.mapUpdate 92 (.map (some b)) (kyV k) (.bool true)).run Try.prog w = .ok () w' ∧ Flags w' b (L ++ [k]) ∧ w.grownBy w' (some b) := by
  obtain ⟨es, clock, hb, hm, hv⟩ := h
  rcases ky_find hk es.toList L hm hL hv with ⟨h1, h2⟩ | ⟨h1, j, h2⟩
  · refine ⟨setBlock w b (.map (es.push ⟨kyV k, .bool true, clock⟩) (clock + 1)), ?_, ⟨_, _, heap_setBlock_same hb _, ?_, ?_⟩, ⟨rfl, rfl, rfl, by simp [setBlock], fun i _ hi => heap_setBlock_other hb _ (fun e => hi (by rw [e]))⟩⟩
    · simp [Instr.mapUpdate, run_underlying Try.underlying92, MapKept.run_getObj_map hb, ky_check, h2, MapKept.run_setObj_map _ hb, Result.andThen, setBlock]
    · simp [Array.toList_push, hm]
    · intro e he
      simp only [Array.toList_push, List.mem_append, List.mem_singleton] at he
      rcases he with he | rfl
      · exact hv e he
      · rfl
  · exact absurd h1 hn

/-- A map just made holds no flag. -/
theorem Flags.made (w : World) : Flags (w.alloc (.map #[] 0)) w.heap.size [] := ⟨#[], 0, (MapKept.heap_alloc w _).1, by simp, by simp⟩
theorem Flags.lt {w : World} {b : Nat} {L : List (Addr × Addr × Int)} (h : Flags w b L) : b < w.heap.size := by
  obtain ⟨es, clock, hb, _⟩ := h
  exact (Array.getElem?_eq_some_iff.1 hb).1
theorem Flags.kept {w w' : World} {row : Option Nat} {b : Nat} {L : List (Addr × Addr × Int)} (h : Flags w b L) (hg : w.grownBy w' row) (hne : some b ≠ row) : Flags w' b L := by
  have hlt := h.lt
  obtain ⟨es, clock, hb, r⟩ := h
  exact ⟨es, clock, (hg.block b hlt hne).trans hb, r⟩
theorem Flags.drew {w : World} {b : Nat} {L : List (Addr × Addr × Int)} (h : Flags w b L) : Flags w.drew b L := h

/-- known[key] AT THE OPERATION. -/
theorem wpList_look_flags (w : World) {ops : Array Oper} {rest : List Oper} {o : Oper} {a : Act} {Q : Exit → Act → World → Prop} (hg : o.guard = none) (m x : Operand) (hop : o.op = Op.lookup 92 m x false)
    (b : Nat) (L : List (Addr × Addr × Int)) (k : Addr × Addr × Int) (hm : a.eval m = .map (some b)) (h : Flags w b L) (hL : ∀ k' ∈ L, KyOk w k') (hx : a.eval x = kyV k) (hk : KyOk w k)
    (hK : wpList Try.prog ops Q rest (a.put o.dst (.bool (decide (k ∈ L)))) w) : wpList Try.prog ops Q (o :: rest) a w := by
  refine wpList_plain hg fun K' hK' => ?_
  unfold Oper.wp
  simp [execOp, hop, hm, hx, h.look hL hk, Result.andThen]
  exact hK' _ _ hK
/-- known[key] = true AT THE OPERATION. -/
theorem wpList_put_flags (w : World) {ops : Array Oper} {rest : List Oper} {o : Oper} {a : Act} {Q : Exit → Act → World → Prop} (hg : o.guard = none) (m x v : Operand) (hop : o.op = Op.mapUpdate 92 m x v)
    (b : Nat) (L : List (Addr × Addr × Int)) (k : Addr × Addr × Int) (hm : a.eval m = .map (some b)) (h : Flags w b L) (hL : ∀ k' ∈ L, KyOk w k') (hx : a.eval x = kyV k) (hv : a.eval v = .bool true) (hk : KyOk w k) (hn : k ∉ L)
    (hK : ∀ w', Flags w' b (L ++ [k]) → w.grownBy w' (some b) → wpList Try.prog ops Q rest (a.put o.dst undef) w') : wpList Try.prog ops Q (o :: rest) a w := by
  refine wpList_plain hg fun K' hK' => ?_
  obtain ⟨w', hrun, r1, r2⟩ := h.put hL hk hn
  unfold Oper.wp
  simp [execOp, hop, hm, hx, hv, hrun, Result.andThen]
  exact hK' _ _ (hK w' r1 r2)
end Go.Proofs.Ytghmkfehohgmgaa.kit
