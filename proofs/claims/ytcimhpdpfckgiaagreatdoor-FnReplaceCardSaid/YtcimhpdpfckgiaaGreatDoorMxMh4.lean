/-
  A loop part's table: what was told of which places, by their key: how it is looked into, and how one is put in. Conditions: each theorem names its own.
-/
import Derived.Test.YtcimhpdpfckgiaaGreatDoorMxMq1
import Derived.Maps.OwnSet
set_option linter.unusedVariables false
set_option linter.unusedSimpArgs false
namespace Go.Proofs.YtcimhpdpfckgiaaGreatDoor.kit
open Go.ChangeShapes Go.WideShapes Go.ChangeAt Go.RowKit Go.Shelf Go.ChangeMaps
structure KE where
 key : List UInt8
 sk : Nat
 ws : List Nat
 a : Option Addr
 c : Nat
def KE.k (e : KE) : Value := .string ⟨e.key.toArray⟩
def KE.v (e : KE) : Value := setV e.sk e.a e.ws.length e.c
def KeptAt (w : World) (b : Nat) (L : List KE) : Prop := ∃ es clock, w.heap[b]? = some (.map es clock) ∧ es.toList.map (fun e => (e.key, e.val)) = L.map fun e => (e.k, e.v)
theorem KeptAt.lt {w : World} {b : Nat} {L : List KE} (h : KeptAt w b L) : b < w.heap.size := by
 obtain ⟨es, clock, hb, _⟩ := h
 exact (Array.getElem?_eq_some_iff.1 hb).1
theorem KeptAt.keep {w w' : World} {b : Nat} {L : List KE} (h : KeptAt w b L) (hb : w'.heap[b]? = w.heap[b]?) : KeptAt w' b L := by
 obtain ⟨es, clock, h1, h2⟩ := h
 exact ⟨es, clock, hb.trans h1, h2⟩
theorem KeptAt.made (w : World) : KeptAt (w.alloc (.map #[] 0)) w.heap.size [] := ⟨#[], 0, (MapKept.heap_alloc w _).1, by simp⟩
def KE.find (L : List KE) (key : List UInt8) : Option KE := L.find? fun e => e.key == key
theorem KE.find_in {L : List KE} {key : List UInt8} {e : KE} (h : KE.find L key = some e) : e ∈ L ∧ e.key = key := by
 refine ⟨List.mem_of_find?_eq_some h, ?_⟩
 have := List.find?_some h
 simpa using this
theorem bytes_beq (x y : List UInt8) : ((⟨x.toArray⟩ : ByteArray) == ⟨y.toArray⟩) = (x == y) := by
 show (x.toArray == y.toArray) = (x == y)
 simp
theorem find_now : ∀ (es : List MapEntry) (L : List KE) (key : List UInt8) (i : Nat), es.map (fun e => (e.key, e.val)) = L.map (fun e => (e.k, e.v)) →
 (KE.find L key = none ∧ Instr.findNow .string (.string ⟨key.toArray⟩) es i = some none) ∨ (∃ e j, KE.find L key = some e ∧ Instr.findNow .string (.string ⟨key.toArray⟩) es i = some (some (j, e.v)))
 | [], [], key, i, _ => .inl ⟨rfl, rfl⟩
 | [], _ :: _, key, i, h => by simp at h
 | _ :: _, [], key, i, h => by simp at h
 | e :: es, k :: L, key, i, h => by
   simp only [List.map_cons, List.cons.injEq, Prod.mk.injEq] at h
   obtain ⟨⟨h1, h2⟩, h3⟩ := h
   have hs : Instr.sameNow .string (.string ⟨key.toArray⟩) e.key = some (key == k.key) := by
     rw [h1]; simp only [KE.k, Instr.sameNow, bytes_beq]
   by_cases c : key = k.key
   · refine .inr ⟨k, i, ?_, ?_⟩
     · simp [KE.find, c]
     · rw [Instr.findNow, hs]; simp [c, h2]
   · have hb : (key == k.key) = false := by simpa using c
     have hb2 : (k.key == key) = false := by simpa using fun e => c e.symm
     rw [Instr.findNow, hs, hb]
     have hf : KE.find (k :: L) key = KE.find L key := by simp [KE.find, List.find?_cons, hb2]
     rw [hf]
     exact find_now es L key (i + 1) h3
theorem find_key {w : World} {es : Array MapEntry} {L : List KE} {key : List UInt8} (h : es.toList.map (fun e => (e.key, e.val)) = L.map fun e => (e.k, e.v)) :
 (KE.find L key = none ∧ (Instr.findKey 9 (.string ⟨key.toArray⟩) es.toList).run Tryz.prog w = .ok none w) ∨ (∃ e j, KE.find L key = some e ∧ (Instr.findKey 9 (.string ⟨key.toArray⟩) es.toList).run Tryz.prog w = .ok (some (j, e.v)) w) := by
 rcases find_now es.toList L key 0 h with ⟨h1, h2⟩ | ⟨e, j, h1, h2⟩
 · exact .inl ⟨h1, by simp [Instr.findKey, run_underlying Tryz.underlying9, Result.andThen, h2]⟩
 · exact .inr ⟨e, j, h1, by simp [Instr.findKey, run_underlying Tryz.underlying9, Result.andThen, h2]⟩
theorem check_strm (w : World) (em : Bool) (m : Nat) (s : ByteArray) : (Instr.checkKey em (m + 1) 9 (.string s)).run Tryz.prog w = .ok () w := by
 simp [Instr.checkKey, run_underlying Tryz.underlying9, Result.andThen]
theorem check_str (w : World) (em : Bool) (s : ByteArray) : (Instr.checkKey em 10000 9 (.string s)).run Tryz.prog w = .ok () w := check_strm w em 9999 s
theorem zero_places (w : World) : (zeroValue 68).run Tryz.prog w = .ok (.agg #[.int .i64 0, .slice none 0 0]) w := by kernel_rfl
def keptV (o : Option KE) : Value := match o with | some e => .tuple #[e.v, .bool true] | none => .tuple #[.agg #[.int .i64 0, .slice none 0 0], .bool false]
theorem KeptAt.look {w : World} {b : Nat} {L : List KE} (h : KeptAt w b L) (key : List UInt8) :
 (Instr.lookup 130 (.map (some b)) (.string ⟨key.toArray⟩) true).run Tryz.prog w = .ok (keptV (KE.find L key)) w := by
 obtain ⟨es, clock, hb, hm⟩ := h
 rcases find_key (w := w) (key := key) hm with ⟨h1, h2⟩ | ⟨e, j, h1, h2⟩
 · simp [Instr.lookup, run_underlying Tryz.underlying130, MapKept.run_getObj_map hb, check_str, h2, zero_places, Result.andThen, h1, keptV]
 · simp [Instr.lookup, run_underlying Tryz.underlying130, MapKept.run_getObj_map hb, check_str, h2, Result.andThen, h1, keptV]
theorem KeptAt.put {w : World} {b : Nat} {L : List KE} (h : KeptAt w b L) (e : KE) (hn : KE.find L e.key = none) :
 ∃ w', (Instr.mapUpdate 130 (.map (some b)) e.k e.v).run Tryz.prog w = .ok () w' ∧ KeptAt w' b (L ++ [e]) ∧ w'.os = w.os ∧ w'.tape = w.tape ∧ w'.output = w.output ∧ w'.heap.size = w.heap.size ∧ ∀ k, k ≠ b → w'.heap[k]? = w.heap[k]? := by
 obtain ⟨es, clock, hb, hm⟩ := h
 rcases find_key (w := w) (key := e.key) hm with ⟨h1, h2⟩ | ⟨e', j, h1, h2⟩
 · refine ⟨setBlock w b (.map (es.push ⟨e.k, e.v, clock⟩) (clock + 1)), ?_, ⟨_, _, heap_setBlock_same hb _, ?_⟩, rfl, rfl, rfl, by simp [setBlock], fun k hk => heap_setBlock_other hb _ hk⟩
   · have hk : e.k = .string ⟨e.key.toArray⟩ := rfl
     rw [hk]
     simp [Instr.mapUpdate, run_underlying Tryz.underlying130, MapKept.run_getObj_map hb, check_str, h2, MapKept.run_setObj_map _ hb, Result.andThen, setBlock]
   · simp [Array.toList_push, hm]
 · rw [hn] at h1; cases h1
end Go.Proofs.YtcimhpdpfckgiaaGreatDoor.kit
