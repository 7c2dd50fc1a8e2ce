/-
  Contracts of laws.eqReS and laws.eqRe over this seat's translation: two copies of a tree are told to be the same. Conditions: each theorem names its own.
-/
import Derived.Test.YtppfnaenamcnpaaDoorMuRe1
import Derived.Deep.RegionHeld3
set_option linter.unusedVariables false
open Go.ChangeShapes Go.WideShapes Go.ChangeAt Go.RowKit
namespace Go.Proofs.YtppfnaenamcnpaaDoor.kit
def Twelve (b o b' o' k : Nat) (t : RT) (a1 a2 : Option Addr) (c1 c2 : Nat) (w W : World) : Prop := (W.cell? ⟨b, o + k * 6, none⟩ = some (.int .i64 t.kind) ∧ W.cell? ⟨b, o + k * 6 + 1, none⟩ = some (.string t.set) ∧ W.cell? ⟨b, o + k * 6 + 2, none⟩ = some (.bool t.neg) ∧ W.cell? ⟨b, o + k * 6 + 3, none⟩ = some (.int .i64 t.low) ∧ W.cell? ⟨b, o + k * 6 + 4, none⟩ = some (.int .i64 t.high) ∧ W.cell? ⟨b, o + k * 6 + 5, none⟩ = some (.slice a1 t.kids.length c1) ∧ W.cell? ⟨b', o' + k * 6, none⟩ = some (.int .i64 t.kind) ∧ W.cell? ⟨b', o' + k * 6 + 1, none⟩ = some (.string t.set) ∧ W.cell? ⟨b', o' + k * 6 + 2, none⟩ = some (.bool t.neg) ∧ W.cell? ⟨b', o' + k * 6 + 3, none⟩ = some (.int .i64 t.low) ∧ W.cell? ⟨b', o' + k * 6 + 4, none⟩ = some (.int .i64 t.high) ∧ W.cell? ⟨b', o' + k * 6 + 5, none⟩ = some (.slice a2 t.kids.length c2)) ∧ (b < W.heap.size ∧ b' < W.heap.size) ∧ Below w.heap.size w W
theorem Twelve.start {b o b' o' k : Nat} {t : RT} {a1 a2 : Option Addr} {c1 c2 : Nat} {w W : World} (h : Twelve b o b' o' k t a1 a2 c1 c2 w W) : Twelve b o b' o' k t a1 a2 c1 c2 w W.drew := ⟨h.1, h.2.1, h.2.2.drew⟩
theorem Twelve.step {b o b' o' k : Nat} {t : RT} {a1 a2 : Option Addr} {c1 c2 : Nat} {w W W' : World} (h : Twelve b o b' o' k t a1 a2 c1 c2 w W) (hb : Below W.heap.size W W') : Twelve b o b' o' k t a1 a2 c1 c2 w W' := by
 obtain ⟨⟨h0, h1, h2, h3, h4, h5, g0, g1, g2, g3, g4, g5⟩, ⟨q, q'⟩, hB⟩ := h
 have e : ∀ j, W'.cell? ⟨b, j, none⟩ = W.cell? ⟨b, j, none⟩ := fun j => hb.cell (p := ⟨b, j, none⟩) q
 have e' : ∀ j, W'.cell? ⟨b', j, none⟩ = W.cell? ⟨b', j, none⟩ := fun j => hb.cell (p := ⟨b', j, none⟩) q'
 exact ⟨⟨(e _).trans h0, (e _).trans h1, (e _).trans h2, (e _).trans h3, (e _).trans h4, (e _).trans h5, (e' _).trans g0, (e' _).trans g1, (e' _).trans g2, (e' _).trans g3, (e' _).trans g4, (e' _).trans g5⟩, ⟨Nat.lt_of_lt_of_le q hb.size, Nat.lt_of_lt_of_le q' hb.size⟩, hB.trans (hb.mono hB.size)⟩
theorem Twelve.below {b o b' o' k : Nat} {t : RT} {a1 a2 : Option Addr} {c1 c2 : Nat} {w W : World} (h : Twelve b o b' o' k t a1 a2 c1 c2 w W) : Below w.heap.size w W := h.2.2
def EqOne (t : RT) : Prop := ∀ (a : Option Addr) (cap : Nat) (a' : Option Addr) (cap' : Nat) (w : World), Kids 0 w t.kids a → Kids 0 w t.kids a' → RT.cost t ≤ 1048576 →
 Calls Tryd.prog 24 #[reV t a cap, reV t a' cap'] w fun e w' => e = .returned (.bool true) ∧ Below w.heap.size w w'
def EqAll (ts : List RT) : Prop := ∀ (a : Option Addr) (cap : Nat) (a' : Option Addr) (cap' : Nat) (w : World), Kids 0 w ts a → Kids 0 w ts a' → RT.bill ts ≤ 1048576 →
 Calls Tryd.prog 49 #[.slice a ts.length cap, .slice a' ts.length cap'] w fun e w' => e = .returned (.bool true) ∧ Below w.heap.size w w'
set_option maxRecDepth 100000 in
set_option maxHeartbeats 1000000 in
theorem eqOne_of {t : RT} (h : EqAll t.kids) : EqOne t := by
 intro a cap a' cap' w hk hk' hc
 have HK := Lib.hid hk
 have HK' := Lib.hid hk'
 have HS := Lib.hid h
 have hbill : RT.bill t.kids ≤ 1048576 := by have := RT.cost_eq t; omega
 clear hk hk' h hc
 obtain ⟨k, s, n, lo, hi, ts⟩ := t
 unfold reV
 simp only [RT.set, RT.kids, RT.kind, RT.neg, RT.low, RT.high] at *
 have HB := Lib.hid (show ∀ o1 o2, Below w.heap.size w ((w.alloc o1).alloc o2) from fun o1 o2 => (((Below.refl w.heap.size w).alloc (Nat.le_refl _) _).alloc (by simp) _))
 go_enter Tryd.func24, Tryd.ntmps24
 go_wp2_with fail
 refine (HS.out a cap a' cap' _ (HK.out.kept (Nat.le_refl _) (HB.out _ _)) (HK'.out.kept (Nat.le_refl _) (HB.out _ _)) hbill).mono ?_
 rintro e w1 ⟨rfl, hb1⟩
 have HB1 := Lib.hid hb1
 clear hb1
 go_wp2_with fail
 go_ret
 exact ⟨rfl, (HB.out _ _).trans (HB1.out.mono (HB.out _ _).size)⟩
set_option maxRecDepth 100000 in
set_option maxHeartbeats 1000000 in
theorem eqAll_of {ts : List RT} (h : ∀ t ∈ ts, EqOne t) : EqAll ts := by
 intro a cap a' cap' w hk hk' hbill
 have HK := Lib.hid hk
 have HK' := Lib.hid hk'
 have HS := Lib.hid h
 clear hk hk' h
 have hl : ts.length ≤ 1048576 := by simp only [RT.bill] at hbill; omega
 go_enter Tryd.func49, Tryd.ntmps49
 go_wp2_with fail
 go_loopw [5] (fun i wr => ∃ k : Nat, k ≤ ts.length ∧ i = .int .i64 (k : Int) ∧ Below w.heap.size w wr) (fun i _ => ts.length - (intOf i).toNat)
 case atStart => exact ⟨0, Nat.zero_le _, rfl, Below.refl _ _⟩
 case round =>
  obtain ⟨k, hkl, rfl, hb⟩ := hrel
  have HB := Lib.hid hb
  clear hb
  by_cases hlt : k < ts.length
  · obtain ⟨a1, c1, he, hk1⟩ := (HK.out.kept (Nat.le_refl _) HB.out).elem k hlt
    obtain ⟨a2, c2, he', hk2⟩ := (HK'.out.kept (Nat.le_refl _) HB.out).elem k hlt
    obtain ⟨b, o, rfl, _, hbl, e0, e1, e2, e3, e4, e5, _, _⟩ := he
    obtain ⟨b', o', rfl, _, hbl', g0, g1, g2, g3, g4, g5, _, _⟩ := he'
    have HO := Lib.hid (HS.out ts[k] (List.getElem_mem hlt))
    have hcost : RT.cost ts[k] ≤ 1048576 := by
        have h1 := RT.costs_take ts k hlt
        have h2 := RT.costs_le ts (k + 1)
        simp only [RT.bill] at hbill; omega
    generalize ts[k] = t at *
    have HT : Twelve b o b' o' k t a1 a2 c1 c2 w _ := ⟨⟨e0, e1, e2, e3, e4, e5, g0, g1, g2, g3, g4, g5⟩, ⟨hbl, hbl'⟩, HB.out⟩
    have HT := Lib.hid HT
    have HK1 := Lib.hid hk1
    have HK2 := Lib.hid hk2
    clear hk1 hk2 e0 e1 e2 e3 e4 e5 g0 g1 g2 g3 g4 g5
    go_wp2_with fail
    go_region_held3 (fun w' => (w'.cell? ⟨b, o + k * 6, none⟩ = some (.int .i64 t.kind) ∧ w'.cell? ⟨b, o + k * 6 + 1, none⟩ = some (.string t.set) ∧ w'.cell? ⟨b, o + k * 6 + 2, none⟩ = some (.bool t.neg) ∧ w'.cell? ⟨b, o + k * 6 + 3, none⟩ = some (.int .i64 t.low) ∧ w'.cell? ⟨b, o + k * 6 + 4, none⟩ = some (.int .i64 t.high) ∧ w'.cell? ⟨b, o + k * 6 + 5, none⟩ = some (.slice a1 t.kids.length c1) ∧ w'.cell? ⟨b', o' + k * 6, none⟩ = some (.int .i64 t.kind) ∧ w'.cell? ⟨b', o' + k * 6 + 1, none⟩ = some (.string t.set) ∧ w'.cell? ⟨b', o' + k * 6 + 2, none⟩ = some (.bool t.neg) ∧ w'.cell? ⟨b', o' + k * 6 + 3, none⟩ = some (.int .i64 t.low) ∧ w'.cell? ⟨b', o' + k * 6 + 4, none⟩ = some (.int .i64 t.high) ∧ w'.cell? ⟨b', o' + k * 6 + 5, none⟩ = some (.slice a2 t.kids.length c2)) ∧ (b < w'.heap.size ∧ b' < w'.heap.size) ∧ Below w.heap.size w w') (first | exact HT.out.start | exact Twelve.step HT.out.start (by assumption)) (first | (go_at_call 24; refine (HO.out _ _ _ _ _ HK1.out.drew HK2.out.drew hcost).mono ?_; rintro e w2 ⟨rfl, hb2⟩))
    go_wp2_with fail
    go_roundw
    case rel =>
        exact ⟨k + 1, by omega, by go_num, Twelve.below (b := b) (o := o) (b' := b') (o' := o') (k := k) (t := t) (a1 := a1) (a2 := a2) (c1 := c1) (c2 := c2) (by assumption)⟩
    case measure => simp [intOf]; omega
  · obtain rfl : k = ts.length := by omega
    go_wp2_with fail
    go_ret
    exact ⟨rfl, HB.out⟩
theorem eqAll_all : ∀ (N : Nat) (ts : List RT), RT.szs ts ≤ N → EqAll ts := by
 intro N
 induction N with
 | zero => intro ts h; exact eqAll_of fun t ht => by have := RT.sz_mem ts t ht; have := RT.sz_pos t; omega
 | succ N ih => intro ts h; exact eqAll_of fun t ht => eqOne_of (ih _ (by have := RT.sz_mem ts t ht; have := RT.sz_eq t; omega))
theorem eqRe_any (t : RT) : EqOne t := eqOne_of (eqAll_all _ _ (Nat.le_refl _))
theorem laidOutR : laidOutB Tryd.pinned.checked.prog = true := by kernel_rfl
def Box (p : Nat) (k : Int) (s : ByteArray) (n : Bool) (lo hi : Int) (ts : List RT) (a : Option Addr) (cap : Nat) (w : World) : Prop := (w.cell? ⟨p, 0, none⟩ = some (.int .i64 k) ∧ w.cell? ⟨p, 1, none⟩ = some (.string s) ∧ w.cell? ⟨p, 2, none⟩ = some (.bool n) ∧ w.cell? ⟨p, 3, none⟩ = some (.int .i64 lo) ∧ w.cell? ⟨p, 4, none⟩ = some (.int .i64 hi) ∧ w.cell? ⟨p, 5, none⟩ = some (.slice a ts.length cap)) ∧ p < w.heap.size
theorem Box.step {p : Nat} {k : Int} {s : ByteArray} {n : Bool} {lo hi : Int} {ts : List RT} {a : Option Addr} {cap : Nat} {w w' : World} (h : Box p k s n lo hi ts a cap w) (hb : Below w.heap.size w w') : Box p k s n lo hi ts a cap w' := by
 obtain ⟨⟨h0, h1, h2, h3, h4, h5⟩, q⟩ := h
 have e : ∀ j, w'.cell? ⟨p, j, none⟩ = w.cell? ⟨p, j, none⟩ := fun j => hb.cell (p := ⟨p, j, none⟩) q
 exact ⟨⟨(e _).trans h0, (e _).trans h1, (e _).trans h2, (e _).trans h3, (e _).trans h4, (e _).trans h5⟩, Nat.lt_of_lt_of_le q hb.size⟩
theorem Box.drew {p : Nat} {k : Int} {s : ByteArray} {n : Bool} {lo hi : Int} {ts : List RT} {a : Option Addr} {cap : Nat} {w : World} (h : Box p k s n lo hi ts a cap w) : Box p k s n lo hi ts a cap w.drew := ⟨h.1, h.2⟩
theorem Box.start {k : Int} {s : ByteArray} {n : Bool} {lo hi : Int} {ts : List RT} {a : Option Addr} {cap : Nat} (w : World) (T : TypeId) : Box w.heap.size k s n lo hi ts a cap (w.alloc (.cells #[.int .i64 k, .string s, .bool n, .int .i64 lo, .int .i64 hi, .slice a ts.length cap] T)) := by
 refine ⟨⟨?_, ?_, ?_, ?_, ?_, ?_⟩, by simp⟩ <;> (rw [World.cell?_alloc_at _ _ _ _ rfl]; rfl)
def Two6 (p q : Nat) (k : Int) (s : ByteArray) (n : Bool) (lo hi : Int) (ts : List RT) (a : Option Addr) (cap : Nat) (a2 : Option Addr) (cap2 : Nat) (W w : World) : Prop := ((w.cell? ⟨p, 0, none⟩ = some (.int .i64 k) ∧ w.cell? ⟨p, 1, none⟩ = some (.string s) ∧ w.cell? ⟨p, 2, none⟩ = some (.bool n) ∧ w.cell? ⟨p, 3, none⟩ = some (.int .i64 lo) ∧ w.cell? ⟨p, 4, none⟩ = some (.int .i64 hi) ∧ w.cell? ⟨p, 5, none⟩ = some (.slice a ts.length cap)) ∧ (w.cell? ⟨q, 0, none⟩ = some (.int .i64 k) ∧ w.cell? ⟨q, 1, none⟩ = some (.string s) ∧ w.cell? ⟨q, 2, none⟩ = some (.bool n) ∧ w.cell? ⟨q, 3, none⟩ = some (.int .i64 lo) ∧ w.cell? ⟨q, 4, none⟩ = some (.int .i64 hi) ∧ w.cell? ⟨q, 5, none⟩ = some (.slice a2 ts.length cap2))) ∧ (p < w.heap.size ∧ q < w.heap.size) ∧ Below W.heap.size W w
theorem Two6.step {p q : Nat} {k : Int} {s : ByteArray} {n : Bool} {lo hi : Int} {ts : List RT} {a : Option Addr} {cap : Nat} {a2 : Option Addr} {cap2 : Nat} {W w w' : World} (h : Two6 p q k s n lo hi ts a cap a2 cap2 W w) (hb : Below w.heap.size w w') : Two6 p q k s n lo hi ts a cap a2 cap2 W w' :=
 ⟨⟨(Box.step ⟨h.1.1, h.2.1.1⟩ hb).1, (Box.step ⟨h.1.2, h.2.1.2⟩ hb).1⟩, ⟨Nat.lt_of_lt_of_le h.2.1.1 hb.size, Nat.lt_of_lt_of_le h.2.1.2 hb.size⟩, h.2.2.trans (hb.mono h.2.2.size)⟩
theorem Two6.start {p q : Nat} {k : Int} {s : ByteArray} {n : Bool} {lo hi : Int} {ts : List RT} {a : Option Addr} {cap : Nat} {a2 : Option Addr} {cap2 : Nat} {W : World} (h : Box p k s n lo hi ts a cap W) (h2 : Box q k s n lo hi ts a2 cap2 W) : Two6 p q k s n lo hi ts a cap a2 cap2 W W.drew :=
 ⟨⟨h.1, h2.1⟩, ⟨h.2, h2.2⟩, (Below.refl _ _).drew⟩
theorem Two6.below {p q : Nat} {k : Int} {s : ByteArray} {n : Bool} {lo hi : Int} {ts : List RT} {a : Option Addr} {cap : Nat} {a2 : Option Addr} {cap2 : Nat} {W w : World} (h : Two6 p q k s n lo hi ts a cap a2 cap2 W w) : Below W.heap.size W w := h.2.2
end Go.Proofs.YtppfnaenamcnpaaDoor.kit
