/-
  Two boxes that hold expressions and two rows of pairs, for the law FnReplace; what the law asks of the pairs. Conditions: each theorem names its own.
-/
import Derived.Test.YtcimhpdpfckgiaaGreatDoorMxDr0
import Derived.Test.YtcimhpdpfckgiaaGreatDoorMxPf1
import Derived.Test.YtcimhpdpfckgiaaGreatDoorMxMr2
import Derived.Test.YtcimhpdpfckgiaaGreatDoorMxPt3
import Derived.Test.YtcimhpdpfckgiaaGreatDoorMxEp0
import Derived.Test.YtcimhpdpfckgiaaGreatDoorMxRe11
import Derived.Test.YtcimhpdpfckgiaaGreatDoorMxRe1
import Derived.Test.YtcimhpdpfckgiaaGreatDoorMxPr5
set_option linter.unusedVariables false
namespace Go.Proofs.YtcimhpdpfckgiaaGreatDoor.kit
open Go.ChangeShapes Go.WideShapes Go.ChangeAt Go.RowKit
theorem big_noR (a : Option Addr) (n cap : Nat) (w : World) (h : n ≤ 1048576) :
 Calls Tryz.prog 4 #[.slice a n cap] w fun e w' => e = .returned (.bool false) ∧ w = w' := by
 have d1 : decide (1048576 < n) = false := by simp; omega
 have d2 : decide ((1048576 : Int) < (n : Int)) = false := by simp; omega
 go_enter Tryz.func4, Tryz.ntmps4
 go_wp2
 go_ret
 exact ⟨rfl, rfl⟩
theorem big_yesR (a : Option Addr) (n cap : Nat) (w : World) (h : 1048576 < n) :
 Calls Tryz.prog 4 #[.slice a n cap] w fun e w' => e = .returned (.bool true) ∧ w = w' := by
 have d1 : decide (1048576 < n) = true := by simp; omega
 have d2 : decide ((1048576 : Int) < (n : Int)) = true := by simp; omega
 go_enter Tryz.func4, Tryz.ntmps4
 go_wp2
 go_ret
 exact ⟨rfl, rfl⟩
structure BxR (W : World) (g : Nat) (t : RT) (a : Option Addr) (c : Nat) : Prop where
 six : Six W g t a c
 kids : Kids 0 W t.kids a
theorem BxR.kept {W W' : World} {g : Nat} {t : RT} {a : Option Addr} {c : Nat} (h : BxR W g t a c) (hb : Below W.heap.size W W') : BxR W' g t a c := ⟨h.six.kept hb, h.kids.kept (Nat.le_refl _) hb⟩
theorem bxR_new {w : World} {t : RT} {a : Option Addr} {c : Nat} (h : Kids 0 w t.kids a) : BxR (w.alloc (.cells #[.int .i64 t.kind, .string t.set, .bool t.neg, .int .i64 t.low, .int .i64 t.high, .slice a t.kids.length c] 26)) w.heap.size t a c := ⟨heap_alloc_new w _, h.alloc _⟩
structure FrS (gr gq : Nat) (r q : RT) (ar aq : Option Addr) (cr cq : Nat) (ps : List (Nat × Nat)) (al an : Option Addr) (w W : World) : Prop where
 br : BxR W gr r ar cr
 bq : BxR W gq q aq cq
 lst : PrR W ps al
 wnt : PrR W ps an
 below : Below w.heap.size w W
theorem FrS.step {gr gq : Nat} {r q : RT} {ar aq : Option Addr} {cr cq : Nat} {ps : List (Nat × Nat)} {al an : Option Addr} {w W W' : World} (x : FrS gr gq r q ar aq cr cq ps al an w W) (hb : Below W.heap.size W W') : FrS gr gq r q ar aq cr cq ps al an w W' :=
 ⟨x.br.kept hb, x.bq.kept hb, x.lst.kept hb, x.wnt.kept hb, x.below.trans (hb.mono x.below.size)⟩
theorem FrS.drew {gr gq : Nat} {r q : RT} {ar aq : Option Addr} {cr cq : Nat} {ps : List (Nat × Nat)} {al an : Option Addr} {w W : World} (x : FrS gr gq r q ar aq cr cq ps al an w W) : FrS gr gq r q ar aq cr cq ps al an w W.drew := x.step (Below.refl _ _).drew
def lastP (ps : List (Nat × Nat)) (k : Nat) : Nat := if k = 0 then 0 else (ps.getD (k - 1) (0, 0)).2
theorem lastP_next (ps : List (Nat × Nat)) (k : Nat) (h : k < ps.length) : lastP ps (k + 1) = ps[k].2 := by
 unfold lastP
 rw [if_neg (by omega), Nat.add_sub_cancel, List.getD_eq_getElem?_getD, List.getElem?_eq_getElem h]
 rfl
theorem chain_at {n : Nat} {ps : List (Nat × Nat)} (h : ChainP n 0 ps) (k : Nat) (hk : k < ps.length) : lastP ps k ≤ (ps[k]).1 ∧ (ps[k]).1 ≤ (ps[k]).2 ∧ (ps[k]).2 ≤ n := h.next k hk
theorem pairs_at {s : ByteArray} {r : RT} {ps : List (Nat × Nat)} (h : ps = matchesZ (matchZ s.data.toList r) s.size) (k : Nat) (hk : k < ps.length) :
 lastP ps k ≤ (ps[k]).1 ∧ (ps[k]).1 ≤ (ps[k]).2 ∧ (ps[k]).2 ≤ s.size ∧ matchZ s.data.toList r ((ps[k]).1 : Int) = ((ps[k]).2 : Int) := by
 have hc : ChainP s.size 0 ps := h ▸ specMatches_chain s r
 have hm : ps[k] ∈ matchesZ (matchZ s.data.toList r) s.size := h ▸ List.getElem_mem hk
 obtain ⟨h1, h2, h3⟩ := chain_at hc k hk
 exact ⟨h1, h2, h3, (matchesZ_mem hm).2⟩
theorem self_at {s : ByteArray} {r : RT} (hs : s.size ≤ 4000) : repRes ⟨#[38]⟩ s true (matchesZ (matchZ s.data.toList r) s.size) = .tuple #[.string s, .int .i64 ((matchesZ (matchZ s.data.toList r) s.size).length : Int), .bool true] := by
 refine repRes_self s _ ?_ hs
 have h := specMatches_chain s r
 rw [show s.data.toList.length = s.size from Array.length_toList]
 exact h
theorem kids_put6 {w : World} {C g : Nat} {ts : List RT} {a : Option Addr} (h : Kids C w ts a) (hg : g < C) (v0 v1 v2 v3 v4 v5 : Value) : Kids C (put6 w g v0 v1 v2 v3 v4 v5) ts a :=
 (((((h.set g 0 hg v0).set g 1 hg v1).set g 2 hg v2).set g 3 hg v3).set g 4 hg v4).set g 5 hg v5
set_option maxRecDepth 100000 in
set_option maxHeartbeats 2000000 in
theorem drawMatches_any (a : Option Addr) (n cap : Nat) (w : World) (hn : n ≤ 1048576) (hc : Code8 w a n) : Calls Tryz.prog 5 #[.slice a n cap] w (DrawnH w) := by
 have b1 : Below w.heap.size w (w.alloc (.cells #[.int .i64 0, .string ⟨#[]⟩, .bool false, .int .i64 0, .int .i64 0, .slice none 0 0] 26)) := (Below.refl w.heap.size w).alloc (Nat.le_refl _) _
 have HC : Hid (Code8 (w.alloc (.cells #[.int .i64 0, .string ⟨#[]⟩, .bool false, .int .i64 0, .int .i64 0, .slice none 0 0] 26)) a n) := qd (hc.kept b1)
 have S0 : Hid (Six (w.alloc (.cells #[.int .i64 0, .string ⟨#[]⟩, .bool false, .int .i64 0, .int .i64 0, .slice none 0 0] 26)) w.heap.size (PR.leaf 0) none 0) := qd (heap_alloc_new w (.cells #[.int .i64 0, .string ⟨#[]⟩, .bool false, .int .i64 0, .int .i64 0, .slice none 0 0] 26))
 have B1 := qd b1
 have z1 : (w.alloc (.cells #[.int .i64 0, .string ⟨#[]⟩, .bool false, .int .i64 0, .int .i64 0, .slice none 0 0] 26)).heap.size = w.heap.size + 1 := by simp
 have Z1 := qd z1
 clear b1 hc z1
 go_enter Tryz.func5, Tryz.ntmps5
 go_wp2_with fail
 refine (drawHas_any a n cap _ hn HC.out).mono ?_
 rintro e w1 ⟨t, b, c, s, rfl, hk, hcr, hs, hb⟩
 have S1 := S0.out.kept hb
 have h6 : Lk (Six (put6 w1 w.heap.size (.int .i64 t.kind) (.string t.set) (.bool t.neg) (.int .i64 t.low) (.int .i64 t.high) (.slice b t.kids.length c)) w.heap.size t b c) := Lk.mk (S1.put t b c)
 have PK := Lk.mk ((kids_put6 hk (g := w.heap.size) (by rw [Z1.out]; omega) (.int .i64 t.kind) (.string t.set) (.bool t.neg) (.int .i64 t.low) (.int .i64 t.high) (.slice b t.kids.length c)).mono (B' := w.heap.size) (by rw [Z1.out]; omega))
 have PO := Lk.mk (put6_below (B1.out.trans (hb.mono B1.out.size)) w.heap.size (.int .i64 t.kind) (.string t.set) (.bool t.neg) (.int .i64 t.low) (.int .i64 t.high) (.slice b t.kids.length c) (Nat.le_refl _))
 obtain ⟨x0, x1, x2, x3, x4, x5, x6⟩ := S1.cells
 have x60 := x6 0
 have x61 := x6 1
 have x62 := x6 2
 have x63 := x6 3
 have x64 := x6 4
 have x65 := x6 5
 clear x6 S1 hk hb
 unfold reV
 go_wp2_with fail
 change bodyPost _ _ _ _ _ (put6 w1 w.heap.size (.int .i64 t.kind) (.string t.set) (.bool t.neg) (.int .i64 t.low) (.int .i64 t.high) (.slice b t.kids.length c))
 generalize put6 w1 w.heap.size (.int .i64 t.kind) (.string t.set) (.bool t.neg) (.int .i64 t.low) (.int .i64 t.high) (.slice b t.kids.length c) = W at h6 PK PO ⊢
 obtain ⟨y0, y1, y2, y3, y4, y5, _⟩ := h6.out.cells
 replace y0 : _ = some (Value.int .i64 t.kind) := y0
 replace y1 : _ = some (Value.string t.set) := y1
 replace y2 : _ = some (Value.bool t.neg) := y2
 replace y3 : _ = some (Value.int .i64 t.low) := y3
 replace y4 : _ = some (Value.int .i64 t.high) := y4
 replace y5 : _ = some (Value.slice b t.kids.length c) := y5
 refine bodyPost_ret (v := .tuple #[.agg #[.int .i64 t.kind, .string t.set, .bool t.neg, .int .i64 t.low, .int .i64 t.high, .slice b t.kids.length c], .string s]) (by simp [results, Tryz.results5, go_sem, y0, y1, y2, y3, y4, y5]) rfl ?_
 exact ⟨t, b, c, s, rfl, PK.out, hcr, hs, PO.out⟩
theorem FrS.s17 {gr gq gl gn : Nat} {r q : RT} {ar aq : Option Addr} {cr cq : Nat} {ps : List (Nat × Nat)} {w W : World} (z : FrS gr gq r q ar aq cr cq ps (some ⟨gl, 0, none⟩) (some ⟨gn, 0, none⟩) w W) (k x y : Nat) (hk : k < ps.length) (hx : x = (ps[k]).1) (hy : y = (ps[k]).2) :
 (W.cell? ⟨gr, 0, none⟩ = some (.int .i64 r.kind) ∧ W.cell? ⟨gr, 1, none⟩ = some (.string r.set) ∧ W.cell? ⟨gr, 2, none⟩ = some (.bool r.neg) ∧ W.cell? ⟨gr, 3, none⟩ = some (.int .i64 r.low) ∧ W.cell? ⟨gr, 4, none⟩ = some (.int .i64 r.high) ∧ W.cell? ⟨gr, 5, none⟩ = some (.slice ar r.kids.length cr)) ∧
 (W.cell? ⟨gl, k * 2, none⟩ = some (.int .i64 (x : Int)) ∧ W.cell? ⟨gl, k * 2 + 1, none⟩ = some (.int .i64 (y : Int)) ∧ W.cell? ⟨gn, k * 2, none⟩ = some (.int .i64 (x : Int)) ∧ W.cell? ⟨gn, k * 2 + 1, none⟩ = some (.int .i64 (y : Int))) ∧
 FrS gr gq r q ar aq cr cq ps (some ⟨gl, 0, none⟩) (some ⟨gn, 0, none⟩) w W := by
 obtain ⟨c0, c1, c2, c3, c4, c5, _⟩ := z.br.six.cells
 obtain ⟨g1, e1, _, l0, l1⟩ := z.lst k hk
 obtain ⟨g2, e2, _, n0, n1⟩ := z.wnt k hk
 cases e1
 cases e2
 subst hx hy
 exact ⟨⟨c0, c1, c2, c3, c4, c5⟩, ⟨l0, l1, n0, n1⟩, z⟩
theorem prR_at {w : World} {ps : List (Nat × Nat)} {a : Option Addr} (h : PrR w ps a) (k : Nat) (hk : k < ps.length) : ∃ g, a = some ⟨g, 0, none⟩ := by
 obtain ⟨g, e, _⟩ := h k hk
 exact ⟨g, e⟩
theorem implReplaceZ_any (t : RT) (r s : ByteArray) (all : Bool) (a : Option Addr) (cap : Nat) (w : World) (hr : r.size ≤ 1048576) (hs : s.size ≤ 1048576) (hc : RT.cost t ≤ 1048576) (hk : Kids 0 w t.kids a) (hT : BT w) :
 Calls Tryz.prog 10 #[reV t a cap, .string r, .string s, .bool all] w fun e w' => e = .returned (repRes r s all (matchesZ (matchZ s.data.toList t) s.size)) ∧ Below w.heap.size w w' :=
 callsIn_wide.1 (replace_in 16 (Nat.le_refl _) t r s all a cap w hr hs hc hk hT)
end Go.Proofs.YtcimhpdpfckgiaaGreatDoor.kit
