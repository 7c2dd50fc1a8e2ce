/-
  Contracts of laws.eqNodeS and laws.eqNode over this seat's translation: two copies of a tree of nodes are told to be the same. Conditions: each theorem names its own.
-/
import Derived.Test.YtghmkfehohgmgaaNd3
import Derived.Deep.RegionHeld3
namespace Go.Proofs.Ytghmkfehohgmgaa.kit
open Go.ChangeShapes Go.WideShapes Go.ChangeAt Go.RowKit
set_option linter.unusedVariables false

def NEight (b o b' o' k : Nat) (t : NT) (a1 a2 : Option Addr) (c1 c2 : Nat) (w W : World) : Prop := (W.cell? ⟨b, o + k * 4, none⟩ = some (.int .i64 t.kind) ∧ W.cell? ⟨b, o + k * 4 + 1, none⟩ = some (.int .i64 t.num) ∧ W.cell? ⟨b, o + k * 4 + 2, none⟩ = some (.string t.text) ∧ W.cell? ⟨b, o + k * 4 + 3, none⟩ = some (.slice a1 t.kids.length c1) ∧ W.cell? ⟨b', o' + k * 4, none⟩ = some (.int .i64 t.kind) ∧ W.cell? ⟨b', o' + k * 4 + 1, none⟩ = some (.int .i64 t.num) ∧ W.cell? ⟨b', o' + k * 4 + 2, none⟩ = some (.string t.text) ∧ W.cell? ⟨b', o' + k * 4 + 3, none⟩ = some (.slice a2 t.kids.length c2)) ∧ (b < W.heap.size ∧ b' < W.heap.size) ∧ Below w.heap.size w W
theorem NEight.start {b o b' o' k : Nat} {t : NT} {a1 a2 : Option Addr} {c1 c2 : Nat} {w W : World} (h : NEight b o b' o' k t a1 a2 c1 c2 w W) : NEight b o b' o' k t a1 a2 c1 c2 w W.drew := ⟨h.1, h.2.1, h.2.2.drew⟩
theorem NEight.step {b o b' o' k : Nat} {t : NT} {a1 a2 : Option Addr} {c1 c2 : Nat} {w W W' : World} (h : NEight b o b' o' k t a1 a2 c1 c2 w W) (hb : Below W.heap.size W W') : NEight b o b' o' k t a1 a2 c1 c2 w W' := by
  obtain ⟨⟨h0, h1, h2, h3, g0, g1, g2, g3⟩, ⟨q, q'⟩, hB⟩ := h
  have e : ∀ j, W'.cell? ⟨b, j, none⟩ = W.cell? ⟨b, j, none⟩ := fun j => hb.cell (p := ⟨b, j, none⟩) q
  have e' : ∀ j, W'.cell? ⟨b', j, none⟩ = W.cell? ⟨b', j, none⟩ := fun j => hb.cell (p := ⟨b', j, none⟩) q'
  exact ⟨⟨(e _).trans h0, (e _).trans h1, (e _).trans h2, (e _).trans h3, (e' _).trans g0, (e' _).trans g1, (e' _).trans g2, (e' _).trans g3⟩, ⟨Nat.lt_of_lt_of_le q hb.size, Nat.lt_of_lt_of_le q' hb.size⟩, hB.trans (hb.mono hB.size)⟩
theorem NEight.below {b o b' o' k : Nat} {t : NT} {a1 a2 : Option Addr} {c1 c2 : Nat} {w W : World} (h : NEight b o b' o' k t a1 a2 c1 c2 w W) : Below w.heap.size w W := h.2.2
def NeqOne (t : NT) : Prop := ∀ (a : Option Addr) (cap : Nat) (a' : Option Addr) (cap' : Nat) (w : World), NKids 0 w t.kids a → NKids 0 w t.kids a' → NT.cost t ≤ 1048576 →
  Calls Try.prog 52 #[ndV t a cap, ndV t a' cap'] w fun e w' => e = .returned (.bool true) ∧ Below w.heap.size w w'
def NeqAll (ts : List NT) : Prop := ∀ (a : Option Addr) (cap : Nat) (a' : Option Addr) (cap' : Nat) (w : World), NKids 0 w ts a → NKids 0 w ts a' → NT.bill ts ≤ 1048576 →
  Calls Try.prog 61 #[.slice a ts.length cap, .slice a' ts.length cap'] w fun e w' => e = .returned (.bool true) ∧ Below w.heap.size w w'
set_option maxRecDepth 100000 in
set_option maxHeartbeats 1000000 in
theorem neqOne_of {t : NT} (h : NeqAll t.kids) : NeqOne t := by
  intro a cap a' cap' w hk hk' hc
  have HK := Lib.hid hk
  have HK' := Lib.hid hk'
  have HS := Lib.hid h
  have hbill : NT.bill t.kids ≤ 1048576 := by have := NT.cost_eq t; omega
  clear hk hk' h hc
  obtain ⟨k, n, s, ts⟩ := t
  unfold ndV
  simp only [NT.text, NT.kids, NT.kind, NT.num] at *
  have HB := Lib.hid (show ∀ o1 o2, Below w.heap.size w ((w.alloc o1).alloc o2) from fun o1 o2 => (((Below.refl w.heap.size w).alloc (Nat.le_refl _) _).alloc (by simp) _))
  go_enter Try.func52, Try.ntmps52
  go_wp2_with fail
  refine (HS.out a cap a' cap' _ (HK.out.kept (Nat.le_refl _) (HB.out _ _)) (HK'.out.kept (Nat.le_refl _) (HB.out _ _)) hbill).mono ?_
  rintro e w1 ⟨rfl, hb1⟩
  have HB1 := Lib.hid hb1
  clear hb1
  go_wp2_with fail
  go_ret
  exact ⟨rfl, (HB.out _ _).trans (HB1.out.mono (HB.out _ _).size)⟩
set_option maxRecDepth 100000 in
set_option maxHeartbeats 1000000 in
theorem neqAll_of {ts : List NT} (h : ∀ t ∈ ts, NeqOne t) : NeqAll ts := by
  intro a cap a' cap' w hk hk' hbill
  have HK := Lib.hid hk
  have HK' := Lib.hid hk'
  have HS := Lib.hid h
  clear hk hk' h
  have hl : ts.length ≤ 1048576 := by simp only [NT.bill] at hbill; omega
  go_enter Try.func61, Try.ntmps61
  go_wp2_with fail
  go_loopw [5] (fun i wr => ∃ k : Nat, k ≤ ts.length ∧ i = .int .i64 (k : Int) ∧ Below w.heap.size w wr) (fun i _ => ts.length - (intOf i).toNat)
  case atStart => exact ⟨0, Nat.zero_le _, rfl, Below.refl _ _⟩
  case round =>
    obtain ⟨k, hkl, rfl, hb⟩ := hrel
    have HB := Lib.hid hb
    clear hb
    by_cases hlt : k < ts.length
    · obtain ⟨a1, c1, he, hk1⟩ := (HK.out.kept (Nat.le_refl _) HB.out).elem k hlt
      obtain ⟨a2, c2, he', hk2⟩ := (HK'.out.kept (Nat.le_refl _) HB.out).elem k hlt
      obtain ⟨b, o, rfl, _, hbl, ⟨e0, e1, e2, e3⟩, _, _⟩ := he
      obtain ⟨b', o', rfl, _, hbl', ⟨g0, g1, g2, g3⟩, _, _⟩ := he'
      have HO := Lib.hid (HS.out ts[k] (List.getElem_mem hlt))
      have hcost : NT.cost ts[k] ≤ 1048576 := by
        have h1 := NT.costs_take ts k hlt
        have h2 := NT.costs_le ts (k + 1)
        simp only [NT.bill] at hbill; omega
      generalize ts[k] = t at *
      have HT : NEight b o b' o' k t a1 a2 c1 c2 w _ := ⟨⟨e0, e1, e2, e3, g0, g1, g2, g3⟩, ⟨hbl, hbl'⟩, HB.out⟩
      have HT := Lib.hid HT
      have HK1 := Lib.hid hk1
      have HK2 := Lib.hid hk2
      clear hk1 hk2 e0 e1 e2 e3 g0 g1 g2 g3
      go_wp2_with fail
      go_region_held3 (fun w' => (w'.cell? ⟨b, o + k * 4, none⟩ = some (.int .i64 t.kind) ∧ w'.cell? ⟨b, o + k * 4 + 1, none⟩ = some (.int .i64 t.num) ∧ w'.cell? ⟨b, o + k * 4 + 2, none⟩ = some (.string t.text) ∧ w'.cell? ⟨b, o + k * 4 + 3, none⟩ = some (.slice a1 t.kids.length c1) ∧ w'.cell? ⟨b', o' + k * 4, none⟩ = some (.int .i64 t.kind) ∧ w'.cell? ⟨b', o' + k * 4 + 1, none⟩ = some (.int .i64 t.num) ∧ w'.cell? ⟨b', o' + k * 4 + 2, none⟩ = some (.string t.text) ∧ w'.cell? ⟨b', o' + k * 4 + 3, none⟩ = some (.slice a2 t.kids.length c2)) ∧ (b < w'.heap.size ∧ b' < w'.heap.size) ∧ Below w.heap.size w w') (first | exact HT.out.start | exact NEight.step HT.out.start (by assumption)) (first | (go_at_call 52; refine (HO.out _ _ _ _ _ HK1.out.drew HK2.out.drew hcost).mono ?_; rintro e w2 ⟨rfl, hb2⟩))
      go_wp2_with fail
      go_roundw
      case rel =>
        exact ⟨k + 1, by omega, by go_num, NEight.below (b := b) (o := o) (b' := b') (o' := o') (k := k) (t := t) (a1 := a1) (a2 := a2) (c1 := c1) (c2 := c2) (by assumption)⟩
      case measure => simp [intOf]; omega
    · obtain rfl : k = ts.length := by omega
      go_wp2_with fail
      go_ret
      exact ⟨rfl, HB.out⟩
theorem neqAll_all : ∀ (N : Nat) (ts : List NT), NT.szs ts ≤ N → NeqAll ts := by
  intro N
  induction N with
  | zero => intro ts h; exact neqAll_of fun t ht => by have := NT.sz_mem ts t ht; have := NT.sz_pos t; omega
  | succ N ih => intro ts h; exact neqAll_of fun t ht => neqOne_of (ih _ (by have := NT.sz_mem ts t ht; have := NT.sz_eq t; omega))
theorem eqNode_any (t : NT) : NeqOne t := neqOne_of (neqAll_all _ _ (Nat.le_refl _))
end Go.Proofs.Ytghmkfehohgmgaa.kit
