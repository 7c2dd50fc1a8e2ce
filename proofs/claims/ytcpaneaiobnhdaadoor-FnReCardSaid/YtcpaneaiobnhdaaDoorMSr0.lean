/-
 Contract of laws.sameRe over this seat's translation: two copies of a tree are told to be the same. Conditions: each theorem names its own.
-/
import Derived.Test.YtcpaneaiobnhdaaDoorMRe5
import Derived.Test.YtcpaneaiobnhdaaDoorMPr2
namespace Go.Proofs.YtcpaneaiobnhdaaDoor.kit
open Go.ChangeShapes Go.WideShapes Go.ChangeAt Go.RowKit
set_option linter.unusedVariables false

def SameOne (t : RT) : Prop := ∀ (a : Option Addr) (cap : Nat) (a' : Option Addr) (cap' : Nat) (w : World), Kids 0 w t.kids a → Kids 0 w t.kids a' → RT.cost t ≤ 1048576 →
 Calls Tryd.prog 14 #[reV t a cap, reV t a' cap'] w fun e w' => e = .returned (.bool true) ∧ Below w.heap.size w w'
def Fourt (g : Nat) (n : Nat) (a a' : Option Addr) (cap cap' b o b' o' k : Nat) (t : RT) (a1 a2 : Option Addr) (c1 c2 : Nat) (w W : World) : Prop := (W.cell? ⟨b, o + k * 6, none⟩ = some (.int .i64 t.kind) ∧ W.cell? ⟨b, o + k * 6 + 1, none⟩ = some (.string t.set) ∧ W.cell? ⟨b, o + k * 6 + 2, none⟩ = some (.bool t.neg) ∧ W.cell? ⟨b, o + k * 6 + 3, none⟩ = some (.int .i64 t.low) ∧ W.cell? ⟨b, o + k * 6 + 4, none⟩ = some (.int .i64 t.high) ∧ W.cell? ⟨b, o + k * 6 + 5, none⟩ = some (.slice a1 t.kids.length c1) ∧ W.cell? ⟨b', o' + k * 6, none⟩ = some (.int .i64 t.kind) ∧ W.cell? ⟨b', o' + k * 6 + 1, none⟩ = some (.string t.set) ∧ W.cell? ⟨b', o' + k * 6 + 2, none⟩ = some (.bool t.neg) ∧ W.cell? ⟨b', o' + k * 6 + 3, none⟩ = some (.int .i64 t.low) ∧ W.cell? ⟨b', o' + k * 6 + 4, none⟩ = some (.int .i64 t.high) ∧ W.cell? ⟨b', o' + k * 6 + 5, none⟩ = some (.slice a2 t.kids.length c2) ∧ W.cell? ⟨g, 5, none⟩ = some (.slice a n cap) ∧ W.cell? ⟨g + 1, 5, none⟩ = some (.slice a' n cap')) ∧ (b < W.heap.size ∧ b' < W.heap.size ∧ g + 1 < W.heap.size) ∧ Below w.heap.size w W
theorem Fourt.start {g : Nat} {n : Nat} {a a' : Option Addr} {cap cap' b o b' o' k : Nat} {t : RT} {a1 a2 : Option Addr} {c1 c2 : Nat} {w W : World} (h : Fourt g n a a' cap cap' b o b' o' k t a1 a2 c1 c2 w W) : Fourt g n a a' cap cap' b o b' o' k t a1 a2 c1 c2 w W.drew := ⟨h.1, h.2.1, h.2.2.drew⟩
theorem Fourt.step {g : Nat} {n : Nat} {a a' : Option Addr} {cap cap' b o b' o' k : Nat} {t : RT} {a1 a2 : Option Addr} {c1 c2 : Nat} {w W W' : World} (h : Fourt g n a a' cap cap' b o b' o' k t a1 a2 c1 c2 w W) (hb : Below W.heap.size W W') : Fourt g n a a' cap cap' b o b' o' k t a1 a2 c1 c2 w W' := by
 obtain ⟨⟨h0, h1, h2, h3, h4, h5, g0, g1, g2, g3, g4, g5, x0, x1⟩, ⟨q, q', q2⟩, hB⟩ := h
 have e : ∀ j, W'.cell? ⟨b, j, none⟩ = W.cell? ⟨b, j, none⟩ := fun j => hb.cell (p := ⟨b, j, none⟩) q
 have e' : ∀ j, W'.cell? ⟨b', j, none⟩ = W.cell? ⟨b', j, none⟩ := fun j => hb.cell (p := ⟨b', j, none⟩) q'
 have e1 : W'.cell? ⟨g, 5, none⟩ = W.cell? ⟨g, 5, none⟩ := hb.cell (p := ⟨g, 5, none⟩) (by show g < W.heap.size; omega)
 have e2 : W'.cell? ⟨g + 1, 5, none⟩ = W.cell? ⟨g + 1, 5, none⟩ := hb.cell (p := ⟨g + 1, 5, none⟩) q2
 exact ⟨⟨(e _).trans h0, (e _).trans h1, (e _).trans h2, (e _).trans h3, (e _).trans h4, (e _).trans h5, (e' _).trans g0, (e' _).trans g1, (e' _).trans g2, (e' _).trans g3, (e' _).trans g4, (e' _).trans g5, e1.trans x0, e2.trans x1⟩, ⟨Nat.lt_of_lt_of_le q hb.size, Nat.lt_of_lt_of_le q' hb.size, Nat.lt_of_lt_of_le q2 hb.size⟩, hB.trans (hb.mono hB.size)⟩
theorem Fourt.below {g : Nat} {n : Nat} {a a' : Option Addr} {cap cap' b o b' o' k : Nat} {t : RT} {a1 a2 : Option Addr} {c1 c2 : Nat} {w W : World} (h : Fourt g n a a' cap cap' b o b' o' k t a1 a2 c1 c2 w W) : Below w.heap.size w W := h.2.2
set_option maxRecDepth 100000 in
set_option maxHeartbeats 4000000 in
theorem sameOne_of {t : RT} (h : ∀ u ∈ t.kids, SameOne u) : SameOne t := by
 intro a cap a' cap' w hk hk' hc
 have HK := Lib.hid hk
 have HK' := Lib.hid hk'
 have HS := Lib.hid h
 have hbill : RT.bill t.kids ≤ 1048576 := by have := RT.cost_eq t; omega
 clear hk hk' h hc
 obtain ⟨k0, s0, n0, lo, hi, ts⟩ := t
 unfold reV
 simp only [RT.set, RT.kids, RT.kind, RT.neg, RT.low, RT.high] at *
 have hl : ts.length ≤ 1048576 := by simp only [RT.bill] at hbill; omega
 obtain ⟨t6, t7⟩ := six_two w (.cells #[.int .i64 k0, .string s0, .bool n0, .int .i64 lo, .int .i64 hi, .slice a ts.length cap] 26) (.cells #[.int .i64 k0, .string s0, .bool n0, .int .i64 lo, .int .i64 hi, .slice a' ts.length cap'] 26)
 have S1 : Hid (Six ((w.alloc (.cells #[.int .i64 k0, .string s0, .bool n0, .int .i64 lo, .int .i64 hi, .slice a ts.length cap] 26)).alloc (.cells #[.int .i64 k0, .string s0, .bool n0, .int .i64 lo, .int .i64 hi, .slice a' ts.length cap'] 26)) w.heap.size (.node k0 s0 n0 lo hi ts) a cap) := Lib.hid t6
 have S2 : Hid (Six ((w.alloc (.cells #[.int .i64 k0, .string s0, .bool n0, .int .i64 lo, .int .i64 hi, .slice a ts.length cap] 26)).alloc (.cells #[.int .i64 k0, .string s0, .bool n0, .int .i64 lo, .int .i64 hi, .slice a' ts.length cap'] 26)) (w.heap.size + 1) (.node k0 s0 n0 lo hi ts) a' cap') := Lib.hid t7
 have HB := Lib.hid (show Below w.heap.size w ((w.alloc (.cells #[.int .i64 k0, .string s0, .bool n0, .int .i64 lo, .int .i64 hi, .slice a ts.length cap] 26)).alloc (.cells #[.int .i64 k0, .string s0, .bool n0, .int .i64 lo, .int .i64 hi, .slice a' ts.length cap'] 26)) from (((Below.refl w.heap.size w).alloc (Nat.le_refl _) _).alloc (by simp) _))
 clear t6 t7
 go_enter Tryd.func14, Tryd.ntmps14
 go_wp2_with fail
 go_loopw [5] (fun i wr => ∃ k : Nat, k ≤ ts.length ∧ i = .int .i64 (k : Int) ∧ Six wr w.heap.size (.node k0 s0 n0 lo hi ts) a cap ∧ Six wr (w.heap.size + 1) (.node k0 s0 n0 lo hi ts) a' cap' ∧ Below w.heap.size w wr) (fun i _ => ts.length - (intOf i).toNat)
 case atStart => exact ⟨0, Nat.zero_le _, rfl, S1.out, S2.out, HB.out⟩
 case round =>
  clear S1 S2 HB
  obtain ⟨k, hkl, rfl, s1, s2, hb⟩ := hrel
  have HB := Lib.hid hb
  have Q1 := Lib.hid s1
  have Q2 := Lib.hid s2
  clear hb s1 s2
  have u1 : wr.cell? ⟨w.heap.size, 5, none⟩ = some (.slice a ts.length cap) := Q1.out.cells.2.2.2.2.2.1
  have u2 : wr.cell? ⟨w.heap.size + 1, 5, none⟩ = some (.slice a' ts.length cap') := Q2.out.cells.2.2.2.2.2.1
  by_cases hlt : k < ts.length
  ·obtain ⟨a1, c1, he, hk1⟩ := (HK.out.kept (Nat.le_refl _) HB.out).elem k hlt
   obtain ⟨a2, c2, he', hk2⟩ := (HK'.out.kept (Nat.le_refl _) HB.out).elem k hlt
   obtain ⟨b, o, rfl, _, hbl, e0, e1, e2, e3, e4, e5, _, _⟩ := he
   obtain ⟨b', o', rfl, _, hbl', g0, g1, g2, g3, g4, g5, _, _⟩ := he'
   have HO := Lib.hid (HS.out ts[k] (List.getElem_mem hlt))
   have hcost : RT.cost ts[k] ≤ 1048576 := by
    have h1 := RT.costs_take ts k hlt
    have h2 := RT.costs_le ts (k + 1)
    simp only [RT.bill] at hbill; omega
   have HT : Fourt w.heap.size ts.length (some ⟨b, o, none⟩) (some ⟨b', o', none⟩) cap cap' b o b' o' k ts[k] a1 a2 c1 c2 wr _ := ⟨⟨e0, e1, e2, e3, e4, e5, g0, g1, g2, g3, g4, g5, u1, u2⟩, ⟨hbl, hbl', Q2.out.lt⟩, Below.refl _ _⟩
   generalize ts[k] = t at *
   have HT := Lib.hid HT
   have HK1 := Lib.hid hk1
   have HK2 := Lib.hid hk2
   have i0 : (0 : Int) ≤ (k : Int) := by omega
   have i1 : (k : Int) < (ts.length : Int) := by omega
   clear hk1 hk2 e0 e1 e2 e3 e4 e5 g0 g1 g2 g3 g4 g5
   go_wp2_with fail
   clear u1 u2
   go_region_held3 (fun w' => (w'.cell? ⟨b, o + k * 6, none⟩ = some (.int .i64 t.kind) ∧ w'.cell? ⟨b, o + k * 6 + 1, none⟩ = some (.string t.set) ∧ w'.cell? ⟨b, o + k * 6 + 2, none⟩ = some (.bool t.neg) ∧ w'.cell? ⟨b, o + k * 6 + 3, none⟩ = some (.int .i64 t.low) ∧ w'.cell? ⟨b, o + k * 6 + 4, none⟩ = some (.int .i64 t.high) ∧ w'.cell? ⟨b, o + k * 6 + 5, none⟩ = some (.slice a1 t.kids.length c1) ∧ w'.cell? ⟨b', o' + k * 6, none⟩ = some (.int .i64 t.kind) ∧ w'.cell? ⟨b', o' + k * 6 + 1, none⟩ = some (.string t.set) ∧ w'.cell? ⟨b', o' + k * 6 + 2, none⟩ = some (.bool t.neg) ∧ w'.cell? ⟨b', o' + k * 6 + 3, none⟩ = some (.int .i64 t.low) ∧ w'.cell? ⟨b', o' + k * 6 + 4, none⟩ = some (.int .i64 t.high) ∧ w'.cell? ⟨b', o' + k * 6 + 5, none⟩ = some (.slice a2 t.kids.length c2) ∧ w'.cell? ⟨w.heap.size, 5, none⟩ = some (.slice (some ⟨b, o, none⟩) ts.length cap) ∧ w'.cell? ⟨w.heap.size + 1, 5, none⟩ = some (.slice (some ⟨b', o', none⟩) ts.length cap')) ∧ (b < w'.heap.size ∧ b' < w'.heap.size ∧ w.heap.size + 1 < w'.heap.size) ∧ Below wr.heap.size wr w') (first | exact HT.out.start | exact Fourt.step HT.out.start (by assumption)) (first | (go_at_call 14; refine (HO.out _ _ _ _ _ HK1.out.drew HK2.out.drew hcost).mono ?_; rintro e w2 ⟨rfl, hb2⟩))
   have HW := Fourt.below (g := w.heap.size) (n := ts.length) (a := some ⟨b, o, none⟩) (a' := some ⟨b', o', none⟩) (cap := cap) (cap' := cap') (b := b) (o := o) (b' := b') (o' := o') (k := k) (t := t) (a1 := a1) (a2 := a2) (c1 := c1) (c2 := c2) (w := wr) (by assumption)
   have S1 := Lib.hid (Q1.out.kept HW)
   have S2 := Lib.hid (Q2.out.kept HW)
   have HB2 := Lib.hid (HB.out.trans (HW.mono HB.out.size))
   clear HW
   go_wp2_with fail
   go_roundw
   case rel => exact ⟨k + 1, by omega, by go_num, S1.out, S2.out, HB2.out⟩
   case measure => simp [intOf]; omega
  ·obtain rfl : k = ts.length := by omega
   go_wp2_with fail
   go_ret
   exact ⟨rfl, HB.out⟩
theorem same_all : ∀ (N : Nat) (t : RT), RT.sz t ≤ N → SameOne t := by
 intro N
 induction N with
 | zero => intro t h; have := RT.sz_pos t; omega
 | succ N ih => intro t h; exact sameOne_of fun u hu => ih u (by have := RT.sz_kid t u hu; omega)
theorem sameRe_any (t : RT) : SameOne t := same_all _ t (Nat.le_refl _)
end Go.Proofs.YtcpaneaiobnhdaaDoor.kit
