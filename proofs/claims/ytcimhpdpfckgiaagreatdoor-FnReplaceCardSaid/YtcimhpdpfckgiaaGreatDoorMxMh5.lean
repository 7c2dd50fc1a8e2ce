/-
  What a loop part owns: its kid and its table. Conditions: each theorem names its own.
-/
import Derived.Test.YtcimhpdpfckgiaaGreatDoorMxMh4
import Derived.Test.YtcimhpdpfckgiaaGreatDoorMxMq1
set_option linter.unusedVariables false
namespace Go.Proofs.YtcimhpdpfckgiaaGreatDoor.kit
open Go.ChangeShapes Go.WideShapes Go.ChangeAt Go.RowKit Go.Shelf Go.ChangeMaps
structure KeOk (K N : Nat) (RM : Nat → Nat → Prop) (FK : Nat → Prop) (mb : Nat) (w : World) (e : KE) : Prop where
 s : SetB N e.sk e.ws
 at' : WordsAt w e.ws e.a
 m : ∃ sk0 ws0, SetB N sk0 ws0 ∧ e.key = keyT sk0 ws0 ∧ ∀ j, memS e.sk e.ws j ↔ img RM (memS sk0 ws0) j
 off : ∀ x, e.a = some x → K ≤ x.block ∧ x.block < w.heap.size ∧ ¬ FK x.block ∧ x.block ≠ mb
structure OkMs (K N nb p lo hi : Nat) (RM : Nat → Nat → Prop) (OkK : (Nat → Prop) → World → Prop) (FK : Nat → Prop) (mb : Nat) (Ls : List KE) (w : World) : Prop where
 kid : OkK FK w
 lt : p < w.heap.size
 c7 : w.cell? ⟨p, 7, none⟩ = some (.pointer (some ⟨nb, 0, none⟩))
 c8 : w.cell? ⟨p, 8, none⟩ = some (.int .i64 (lo : Int))
 c9 : w.cell? ⟨p, 9, none⟩ = some (.int .i64 (hi : Int))
 c10 : w.cell? ⟨p, 10, none⟩ = some (.map (some mb))
 tab : KeptAt w mb Ls
 mbK : K ≤ mb
 mbF : ¬ FK mb
 es : ∀ e ∈ Ls, KeOk K N RM FK mb w e
def ownM (FK : Nat → Prop) (mb : Nat) (Ls : List KE) (k : Nat) : Prop := FK k ∨ k = mb ∨ ∃ e ∈ Ls, ∃ x, e.a = some x ∧ k = x.block
def OkM (K N nb p lo hi : Nat) (RM : Nat → Nat → Prop) (OkK : (Nat → Prop) → World → Prop) (F : Nat → Prop) (w : World) : Prop :=
 ∃ FK mb Ls, (∀ k, F k ↔ ownM FK mb Ls k) ∧ OkMs K N nb p lo hi RM OkK FK mb Ls w
theorem OkMs.own {K N L nb p lo hi : Nat} {R RM : Nat → Nat → Prop} {OkK : (Nat → Prop) → World → Prop} (hk : KidOk K N L nb R OkK) {FK : Nat → Prop} {mb : Nat} {Ls : List KE} {w : World} (h : OkMs K N nb p lo hi RM OkK FK mb Ls w) {k : Nat} (hx : ownM FK mb Ls k) : K ≤ k ∧ k < w.heap.size := by
 rcases hx with hx | rfl | ⟨e, he, x, hx, rfl⟩
 · exact hk.lt _ _ _ h.kid hx
 · exact ⟨h.mbK, h.tab.lt⟩
 · exact ⟨((h.es e he).off x hx).1, ((h.es e he).off x hx).2.1⟩
theorem KeOk.keep {K N : Nat} {RM : Nat → Nat → Prop} {FK FK' : Nat → Prop} {mb : Nat} {w w' : World} {e : KE} (h : KeOk K N RM FK mb w e) (hz : w.heap.size ≤ w'.heap.size) (hb : ∀ x, e.a = some x → w'.heap[x.block]? = w.heap[x.block]?) (hF : ∀ k, FK' k → FK k ∨ w.heap.size ≤ k) : KeOk K N RM FK' mb w' e :=
 ⟨h.s, h.at'.keep hb, h.m, fun x hx => by
   obtain ⟨a, b, c, d⟩ := h.off x hx
   exact ⟨a, by omega, fun y => (hF _ y).elim c (fun z => by omega), d⟩⟩
theorem OkMs.keep {K N L nb p lo hi : Nat} {R RM : Nat → Nat → Prop} {OkK : (Nat → Prop) → World → Prop} (hk : KidOk K N L nb R OkK) {FK : Nat → Prop} {mb : Nat} {Ls : List KE} {w w' : World} (h : OkMs K N nb p lo hi RM OkK FK mb Ls w) (hz : w.heap.size ≤ w'.heap.size) (hb : ∀ k, k < K ∨ ownM FK mb Ls k → w'.heap[k]? = w.heap[k]?) (hc : ∀ j, j < 2 ∨ 5 < j → w'.cell? ⟨p, j, none⟩ = w.cell? ⟨p, j, none⟩) : OkMs K N nb p lo hi RM OkK FK mb Ls w' where
 kid := hk.keep _ _ _ h.kid hz (fun k hx => hb k (hx.imp id .inl))
 lt := Nat.lt_of_lt_of_le h.lt hz
 c7 := (hc 7 (by omega)).trans h.c7
 c8 := (hc 8 (by omega)).trans h.c8
 c9 := (hc 9 (by omega)).trans h.c9
 c10 := (hc 10 (by omega)).trans h.c10
 tab := h.tab.keep (hb mb (.inr (.inr (.inl rfl))))
 mbK := h.mbK
 mbF := h.mbF
 es := fun e he => (h.es e he).keep hz (fun x hx => hb _ (.inr (.inr (.inr ⟨e, he, x, hx, rfl⟩)))) (fun k hx => .inl hx)
theorem OkMs.found {K N nb p lo hi : Nat} {RM : Nat → Nat → Prop} {OkK : (Nat → Prop) → World → Prop} {FK : Nat → Prop} {mb : Nat} {Ls : List KE} {w : World} (h : OkMs K N nb p lo hi RM OkK FK mb Ls w) {sk : Nat} {ws : List Nat} {e : KE} (hf : KE.find Ls (keyT sk ws) = some e) : e ∈ Ls ∧ ∀ j, memS e.sk e.ws j ↔ img RM (memS sk ws) j := by
 obtain ⟨h1, h2⟩ := KE.find_in hf
 obtain ⟨sk0, ws0, _, h3, h4⟩ := (h.es e h1).m
 obtain ⟨rfl, rfl⟩ := keyT_inj (h2.symm.trans h3)
 exact ⟨h1, h4⟩
theorem pass_found {K N L nb p lo hi : Nat} {R RM : Nat → Nat → Prop} {OkK : (Nat → Prop) → World → Prop} (hk : KidOk K N L nb R OkK) {FK F : Nat → Prop} {mb : Nat} {Ls : List KE} {w w' : World} (h : OkMs K N nb p lo hi RM OkK FK mb Ls w) (hF : ∀ k, F k ↔ ownM FK mb Ls k) (hK : K ≤ w.heap.size) {sk : Nat} {ws : List Nat} {a : Option Addr} {e : KE} (hf : KE.find Ls (keyT sk ws) = some e)
 (hb : Below w.heap.size w w') : PassPost N a F (img RM (memS sk ws)) (OkM K N nb p lo hi RM OkK) w (.returned (setV e.sk e.a e.ws.length e.c)) w' := by
 obtain ⟨he, hm⟩ := h.found hf
 have hlt : ∀ k, k < K ∨ ownM FK mb Ls k → w'.heap[k]? = w.heap[k]? := fun k hx => hb.block k (by
  rcases hx with hx | hx
  · omega
  · exact (h.own hk hx).2)
 have h' := h.keep hk hb.size hlt (fun j _ => hb.cell (p := ⟨p, j, none⟩) h.lt)
 have ke := h'.es e he
 exact ⟨e.sk, e.ws, e.a, e.c, F, rfl, ke.s, ke.at', hm, ⟨FK, mb, Ls, hF, h'⟩, fun k hx => .inl hx, .of_below hb, fun x hx => .inr (.inl ((hF _).2 (.inr (.inr ⟨e, he, x, hx, rfl⟩))))⟩
theorem pass_new {K N L nb p lo hi : Nat} {R RM : Nat → Nat → Prop} {OkK : (Nat → Prop) → World → Prop} (hk : KidOk K N L nb R OkK) {FK FK2 F : Nat → Prop} {mb : Nat} {Ls : List KE} {w w6 w' : World} (h : OkMs K N nb p lo hi RM OkK FK mb Ls w) (hF : ∀ k, F k ↔ ownM FK mb Ls k) (hFp : ¬ F p) (hK : K ≤ w.heap.size) {sk : Nat} {ws : List Nat} {a : Option Addr} (hb : SetB N sk ws)
 {sk2 : Nat} {ws2 : List Nat} {a2 : Option Addr} {c2 : Nat} (s2 : SetB N sk2 ws2) (v2 : WordsAt w6 ws2 a2) (m2 : ∀ j, memS sk2 ws2 j ↔ img RM (memS sk ws) j) (o2 : OkK FK2 w6) (i2 : ∀ k, FK2 k → FK k ∨ w.heap.size ≤ k) (g2 : GuestChg FK w w6) (f2 : ∀ x, a2 = some x → x.block < w6.heap.size ∧ ¬ FK2 x.block ∧ w.heap.size ≤ x.block)
 (b6 b4 : Nat) (hb6 : w.heap.size ≤ b6) (hb4 : w.heap.size ≤ b4) (n6 : ¬ FK2 b6) (n4 : ¬ FK2 b4) (x6 : ∀ x, a2 = some x → x.block ≠ b6 ∧ x.block ≠ b4)
 (ho : w'.os = w6.os) (ht : w'.tape = w6.tape) (hu : w'.output = w6.output) (hz : w6.heap.size ≤ w'.heap.size) (hw : ∀ k, k < w6.heap.size → k ≠ mb → k ≠ b6 → k ≠ b4 → w'.heap[k]? = w6.heap[k]?) (tab : KeptAt w' mb (Ls ++ [⟨keyT sk ws, sk2, ws2, a2, c2⟩])) :
 PassPost N a F (img RM (memS sk ws)) (OkM K N nb p lo hi RM OkK) w (.returned (setV sk2 a2 ws2.length c2)) w' := by
 have hgz := g2.size
 have hmb := h.tab.lt
 have hFK : ∀ k, FK k → k < w.heap.size := fun k hx => (hk.lt _ _ _ h.kid hx).2
 have hp6 : p ≠ mb := fun e => hFp ((hF p).2 (.inr (.inl e)))
 have hpK : ¬ FK p := fun e => hFp ((hF p).2 (.inl e))
 have hold : ∀ k, k < w.heap.size → ¬ FK k → k ≠ mb → w'.heap[k]? = w.heap[k]? := fun k a b c => (hw k (by omega) c (by omega) (by omega)).trans (g2.block k a b)
 have hmF : ¬ FK2 mb := fun e => (i2 _ e).elim h.mbF (fun x => by omega)
 have hcell : ∀ j, w'.cell? ⟨p, j, none⟩ = w.cell? ⟨p, j, none⟩ := fun j => cob (a := ⟨p, j, none⟩) (hold p h.lt hpK hp6)
 have hkid : OkK FK2 w' := hk.keep _ _ _ o2 hz (fun k hx => by
  rcases hx with hx | hx
  · exact hw k (by omega) (by have := h.mbK; omega) (by omega) (by omega)
  · have hl := (hk.lt _ _ _ o2 hx).2
    exact hw k hl (fun e => hmF (e ▸ hx)) (fun e => n6 (e ▸ hx)) (fun e => n4 (e ▸ hx)))
 have ha2 : ∀ x, a2 = some x → w'.heap[x.block]? = w6.heap[x.block]? := fun x hx => by
  have f := f2 x hx
  exact hw _ f.1 (by omega) (x6 x hx).1 (x6 x hx).2
 refine ⟨sk2, ws2, a2, c2, ownM FK2 mb (Ls ++ [⟨keyT sk ws, sk2, ws2, a2, c2⟩]), rfl, s2, v2.keep ha2, m2, ⟨FK2, mb, _, fun k => Iff.rfl, ?_⟩, ?_, ?_, fun x hx => .inr (.inl (.inr (.inr ⟨_, List.mem_append_right _ (List.mem_singleton.2 rfl), x, hx, rfl⟩)))⟩
 · refine ⟨hkid, by have := h.lt; omega, (hcell 7).trans h.c7, (hcell 8).trans h.c8, (hcell 9).trans h.c9, (hcell 10).trans h.c10, tab, h.mbK, hmF, fun e he => ?_⟩
   rcases List.mem_append.1 he with he | he
   · have ke := h.es e he
     exact ke.keep (by omega) (fun x hx => hold _ (ke.off x hx).2.1 (ke.off x hx).2.2.1 (ke.off x hx).2.2.2) i2
   · obtain rfl := List.mem_singleton.1 he
     exact ⟨s2, v2.keep ha2, ⟨sk, ws, hb, rfl, m2⟩, fun x hx => by have f := f2 x hx; exact ⟨by omega, by omega, f.2.1, by omega⟩⟩
 · intro k hx
   rcases hx with hx | rfl | ⟨e, he, x, hx, rfl⟩
   · exact (i2 k hx).imp (fun y => (hF k).2 (.inl y)) id
   · exact .inl ((hF _).2 (.inr (.inl rfl)))
   · rcases List.mem_append.1 he with he | he
     · exact .inl ((hF _).2 (.inr (.inr ⟨e, he, x, hx, rfl⟩)))
     · obtain rfl := List.mem_singleton.1 he
       exact .inr (f2 x hx).2.2
 · refine ⟨ho.trans g2.os, ht.trans g2.tape, hu.trans g2.output, by omega, fun k hx hn => hold k hx (fun y => hn ((hF k).2 (.inl y))) (fun y => hn ((hF k).2 (.inr (.inl y))))⟩
end Go.Proofs.YtcimhpdpfckgiaaGreatDoor.kit
