/-
 Plain facts on expressions for texts, of no program: a right expression comes back from its text. Conditions: each theorem names its own.
-/
import Derived.Test.YtcpaneaiobnhdaaDoorMRr0
import Derived.Test.YtcpaneaiobnhdaaDoorMRt10
namespace Go.Proofs.YtcpaneaiobnhdaaDoor.kit
open Go.ChangeShapes Go.WideShapes Go.ChangeAt Go.RowKit
set_option linter.unusedVariables false
set_option linter.unusedSimpArgs false

theorem own_none {k : Int} {s : ByteArray} {n : Bool} {lo hi : Int} {ts : List RT} (h : RT.own (.node k s n lo hi ts) = true) : (k ≠ 2 → s = ⟨#[]⟩ ∧ n = false) ∧ (k ≠ 5 → lo = 0 ∧ hi = 0) ∧ (k = 2 → RT.asc s.data.toList = true ∧ s.data.toList ≠ []) := by
 have hs : s.data.toList.isEmpty = true → s = ⟨#[]⟩ := fun h => by
  rw [List.isEmpty_iff] at h
  have : s.data = #[] := by apply Array.ext'; rw [h]
  cases s; simp only at this; rw [this]
 rw [own_eq] at h
 unfold ownB at h
 split at h
 ·rename_i c
  simp only [Bool.or_eq_true, beq_iff_eq] at c
  simp only [Bool.and_eq_true, decide_eq_true_eq, Bool.not_eq_true'] at h
  exact ⟨fun _ => ⟨hs h.1.2.1, h.1.2.2⟩, fun _ => h.1.1, fun e => by omega⟩
 ·split at h
  ·rename_i c
   simp only [beq_iff_eq] at c
   simp only [Bool.and_eq_true, decide_eq_true_eq, Bool.not_eq_true'] at h
   exact ⟨fun e => absurd c e, fun _ => h.1.1, fun _ => ⟨h.1.2.1, fun e => by have := h.1.2.2; rw [e] at this; cases this⟩⟩
  ·split at h
   ·rename_i c
    simp only [Bool.or_eq_true, beq_iff_eq] at c
    simp only [Bool.and_eq_true, decide_eq_true_eq, Bool.not_eq_true'] at h
    exact ⟨fun _ => ⟨hs h.1.2.1, h.1.2.2⟩, fun _ => h.1.1, fun e => by omega⟩
   ·split at h
    ·rename_i c
     simp only [beq_iff_eq] at c
     simp only [Bool.and_eq_true, decide_eq_true_eq, Bool.not_eq_true'] at h
     exact ⟨fun _ => ⟨hs h.1.1.1.1, h.1.1.1.2⟩, fun e => absurd c e, fun e => by omega⟩
    ·cases h
namespace PR
def eT (t : RT) : List UInt8 := wrT (hasB [3, 4] t.kind) (RT.txt t)
def cT (t : RT) : List UInt8 := wrT (hasB [4] t.kind) (RT.txt t)
def EndC (R : List UInt8) : Prop := ∀ c R', R = c :: R' → c = 124 ∨ c = 41
def EndA (R : List UInt8) : Prop := ∀ c R', R = c :: R' → c = 41
def AOk (t : RT) : Prop := ∀ (s : ByteArray) (f d i : Nat) (R : List UInt8), AtL s i (RT.txt t ++ R) → EndA R → RT.sz t ≤ d → 3 * (s.size - i) + 3 ≤ f → ∃ ts, ts ≠ [] ∧ alts s f d i = some (ts, i + (RT.txt t).length) ∧ alT ts = t
def COk (t : RT) : Prop := ∀ (s : ByteArray) (f d i : Nat) (R : List UInt8), AtL s i (cT t ++ R) → EndC R → RT.sz t ≤ d → (t.kind = 4 → RT.sz t + 1 ≤ d) → 3 * (s.size - i) + 2 ≤ f → ∃ ts, ts ≠ [] ∧ cats s f d i = some (ts, i + (cT t).length) ∧ caT ts = t
def EOk (t : RT) : Prop := ∀ (s : ByteArray) (f d i : Nat) (R : List UInt8), AtL s i (eT t ++ R) → NoT R → RT.sz t ≤ d → (t.kind = 3 ∨ t.kind = 4 → RT.sz t + 1 ≤ d) → 3 * (s.size - i) + 1 ≤ f → ∃ x j, item s f d i = some (x, j) ∧ times s x j = some (t, i + (eT t).length)
theorem EndC.noT {R : List UInt8} (h : EndC R) : NoT R := fun c R' e => by rcases h c R' e with rfl | rfl <;> decide
theorem EndA.c {R : List UInt8} (h : EndA R) : EndC R := fun c R' e => .inr (h c R' e)
theorem ends_yes {s : ByteArray} {i : Nat} {R : List UInt8} (hA : AtL s i R) (h : EndC R) : ends s i = true := by
 unfold ends
 cases R with
 | nil => have := hA.len; simp at this; rw [decide_eq_true (by omega)]; rfl
 | cons c R' =>
  rw [hA.is, hA.is]
  rcases h c R' rfl with rfl | rfl <;> simp
theorem ends_no {s : ByteArray} {i : Nat} {L R : List UInt8} (hA : AtL s i (L ++ R)) (h : HdOk L) : ends s i = false := by
 obtain ⟨c, L', rfl, h1, h2, _⟩ := h
 rw [List.cons_append] at hA
 unfold ends
 have := hA.lt
 rw [hA.is, hA.is, decide_eq_false (by omega)]
 simp [h1, h2]
theorem HdOk.app {L R : List UInt8} (h : HdOk L) : HdOk (L ++ R) := by
 obtain ⟨c, L', rfl, h⟩ := h
 exact ⟨c, L' ++ R, rfl, h⟩
theorem item_paren {s : ByteArray} {f d i : Nat} {L : List UInt8} (h : AtL s i (40 :: L)) (hd : d ≠ 0) : item s (f + 1) d i = match alts s f (d - 1) (i + 1) with
  | none => none
  | some x => if atB s x.2 41 then some (alT x.1, x.2 + 1) else none := by
 rw [item]
 simp only [h.is, show ((40 : UInt8) == 46) = false from rfl, show ((40 : UInt8) == 94) = false from rfl, show ((40 : UInt8) == 36) = false from rfl, show ((40 : UInt8) == 91) = false from rfl, show ((40 : UInt8) == 42) = false from rfl, show ((40 : UInt8) == 43) = false from rfl, show ((40 : UInt8) == 63) = false from rfl, show ((40 : UInt8) == 123) = false from rfl, show ((40 : UInt8) == 40) = true from rfl]
 simp only [Bool.false_eq_true, if_false, Bool.or_false, if_true, if_neg hd]
 rfl
theorem paren_ok {t : RT} (h : AOk t) {s : ByteArray} {f d i : Nat} {R : List UInt8} (hA : AtL s i (wrT true (RT.txt t) ++ R)) (hd : RT.sz t + 1 ≤ d) (hf : 3 * (s.size - i) + 1 ≤ f) : item s f d i = some (t, i + (wrT true (RT.txt t)).length) := by
 have e : wrT true (RT.txt t) = [40] ++ RT.txt t ++ [41] := rfl
 rw [e] at hA ⊢
 simp only [List.cons_append, List.nil_append, List.append_assoc] at hA
 have hl := hA.lt
 obtain ⟨f, rfl⟩ : ∃ f', f = f' + 1 := ⟨f - 1, by omega⟩
 obtain ⟨ts, h1, h2, h3⟩ := h s f (d - 1) (i + 1) (41 :: R) hA.tail (fun c R' e => by injection e with e _; exact e.symm) (by omega) (by omega)
 rw [item_paren hA (by omega), h2]
 have A2 := hA.tail.app
 simp only [A2.is]
 rw [h3]
 simp only [List.length_append, List.length_cons, List.length_nil]
 rw [show i + 1 + (RT.txt t).length + 1 = i + (0 + 1 + (RT.txt t).length + (0 + 1)) by omega]
 rfl
theorem eOk_of_A {t : RT} (hk : t.kind = 3 ∨ t.kind = 4) (h : AOk t) : EOk t := by
 intro s f d i R hA hR hd hd2 hf
 have e : eT t = wrT true (RT.txt t) := by unfold eT; rw [show hasB [3, 4] t.kind = true by unfold hasB; rcases hk with h | h <;> rw [h] <;> rfl]
 rw [e] at hA ⊢
 refine ⟨t, _, paren_ok h hA (hd2 hk) hf, times_none hA.app hR⟩
theorem cT_eT {t : RT} (hk : t.kind ≠ 3) : cT t = eT t := by
 unfold cT eT
 congr 1
 unfold hasB
 by_cases h : t.kind = 4
 ·rw [h]; rfl
 ·simp [List.contains_iff_mem, hk, h]
theorem cOk_of_E {t : RT} (hk : t.kind ≠ 3) (hh : HdOk (eT t)) (h : EOk t) : COk t := by
 intro s f d i R hA hR hd hd2 hf
 rw [cT_eT hk] at hA ⊢
 obtain ⟨f, rfl⟩ : ∃ f', f = f' + 1 := ⟨f - 1, by omega⟩
 obtain ⟨x, j, h1, h2⟩ := h s f d i R hA hR.noT hd (fun q => hd2 (q.resolve_left hk)) (by omega)
 obtain ⟨f, rfl⟩ : ∃ f', f = f' + 1 := ⟨f - 1, by have := hA.len; omega⟩
 have hl := hA.app
 refine ⟨[t], by simp, ?_, rfl⟩
 rw [cats, ends_no hA hh, h1]
 simp only [Bool.false_eq_true, if_false]
 rw [h2]
 simp only
 rw [cats, ends_yes hl hR]
 simp
theorem aOk_of_C {t : RT} (hk : t.kind ≠ 4) (h : COk t) : AOk t := by
 intro s f d i R hA hR hd hf
 have e : cT t = RT.txt t := by
  unfold cT
  rw [show hasB [4] t.kind = false by unfold hasB; simp [hk]]
  rfl
 obtain ⟨f, rfl⟩ : ∃ f', f = f' + 1 := ⟨f - 1, by omega⟩
 obtain ⟨ts, h1, h2, h3⟩ := h s f d i R (by rw [e]; exact hA) hR.c hd (fun q => absurd q hk) (by omega)
 rw [e] at h2
 have hl := hA.app
 have h124 : atB s (i + (RT.txt t).length) 124 = false := by
  cases R with
  | nil => exact hl.end _
  | cons c R' => rw [hl.is, hR c R' rfl]; rfl
 refine ⟨[t], by simp, ?_, rfl⟩
 rw [alts, h2]
 simp only [h124, h3]
 simp
theorem txt3 (s : ByteArray) (n : Bool) (lo hi : Int) (a b : RT) : RT.txt (.node 3 s n lo hi [a, b]) = eT a ++ cT b := by
 rw [RT.txt]; simp [RT.wrs, eT, cT]
theorem txt4 (s : ByteArray) (n : Bool) (lo hi : Int) (a b : RT) : RT.txt (.node 4 s n lo hi [a, b]) = cT a ++ 124 :: RT.txt b := by
 rw [RT.txt]; simp [RT.wrs, cT, hasB, wrT]
theorem txt5 (s : ByteArray) (n : Bool) (lo hi : Int) (a : RT) : RT.txt (.node 5 s n lo hi [a]) = wrT (hasB [0, 3, 4, 5, 6, 7] a.kind) (RT.txt a) ++ timT lo hi := by
 rw [RT.txt]; simp [RT.wrs]
theorem cOk_cat {s0 : ByteArray} {n : Bool} {lo hi : Int} {a b : RT} (ht : RT.node 3 s0 n lo hi [a, b] = pairT 3 a b) (ha : EOk a) (hha : HdOk (eT a)) (hb : COk b) (hhb : HdOk (cT b)) : COk (.node 3 s0 n lo hi [a, b]) := by
 intro s f d i R hA hR hd _ hf
 have e : cT (.node 3 s0 n lo hi [a, b]) = eT a ++ cT b := by
  unfold cT; rw [show hasB [4] (RT.kind (.node 3 s0 n lo hi [a, b])) = false from rfl]; exact txt3 s0 n lo hi a b
 have hsz : RT.sz (.node 3 s0 n lo hi [a, b]) = 1 + (RT.sz a + (RT.sz b + 0)) := rfl
 have hpa := RT.sz_pos a
 have hpb := RT.sz_pos b
 rw [e] at hA ⊢
 rw [List.append_assoc] at hA
 have hA2 := hA.app
 have hl1 : 0 < (eT a).length := by obtain ⟨c, r, h, _⟩ := hha; rw [h]; simp
 have hz := hA.len
 rw [List.length_append] at hz
 obtain ⟨f, rfl⟩ : ∃ f', f = f' + 1 := ⟨f - 1, by omega⟩
 obtain ⟨x, j, h1, h2⟩ := ha s f d i _ hA hhb.noT (by omega) (fun _ => by omega) (by omega)
 obtain ⟨ts, h3, h4, h5⟩ := hb s f d (i + (eT a).length) R hA2 hR (by omega) (fun _ => by omega) (by omega)
 refine ⟨a :: ts, by simp, ?_, ?_⟩
 ·rw [cats, ends_no hA hha, h1]
  simp only [Bool.false_eq_true, if_false]
  rw [h2]
  simp only
  rw [h4]
  simp only [List.length_append, Nat.add_assoc]
 ·obtain ⟨u, us, rfl⟩ := List.exists_cons_of_ne_nil h3
  rw [caT_cons, h5, ht]
theorem aOk_alt {s0 : ByteArray} {n : Bool} {lo hi : Int} {a b : RT} (ht : RT.node 4 s0 n lo hi [a, b] = pairT 4 a b) (ha : COk a) (hb : AOk b) : AOk (.node 4 s0 n lo hi [a, b]) := by
 intro s f d i R hA hR hd hf
 have hsz : RT.sz (.node 4 s0 n lo hi [a, b]) = 1 + (RT.sz a + (RT.sz b + 0)) := rfl
 have hpa := RT.sz_pos a
 have hpb := RT.sz_pos b
 rw [txt4] at hA ⊢
 rw [List.append_assoc, List.cons_append] at hA
 have hA2 := hA.app
 have hz := hA.len
 rw [List.length_append, List.length_cons] at hz
 obtain ⟨f, rfl⟩ : ∃ f', f = f' + 1 := ⟨f - 1, by omega⟩
 obtain ⟨xs, h1, h2, h3⟩ := ha s f d i _ hA (fun c R' e => by injection e with e _; exact .inl e.symm) (by omega) (fun _ => by omega) (by omega)
 obtain ⟨ts, h4, h5, h6⟩ := hb s f d (i + (cT a).length + 1) R hA2.tail hR (by omega) (by omega)
 refine ⟨a :: ts, by simp, ?_, ?_⟩
 ·rw [alts, h2]
  simp only [hA2.is, h5, h3, List.length_append, List.length_cons]
  rw [show i + (cT a).length + 1 + (RT.txt b).length = i + ((cT a).length + ((RT.txt b).length + 1)) by omega]
  rfl
 ·obtain ⟨u, us, rfl⟩ := List.exists_cons_of_ne_nil h4
  rw [alT_cons, h6, ht]
theorem wr_no {ks : List Int} {t : RT} (h : hasB ks t.kind = false) : wrT (hasB ks t.kind) (RT.txt t) = RT.txt t := by rw [h]; rfl
/-- One that stands for itself: its kind is 1, 2, 6 or 7. -/
theorem atom_item {k : Int} {st : ByteArray} {n : Bool} {lo hi : Int} (ho : RT.own (.node k st n lo hi []) = true) (hk : k = 1 ∨ k = 2 ∨ k = 6 ∨ k = 7) {s : ByteArray} {f d i : Nat} {R : List UInt8} (hA : AtL s i (RT.txt (.node k st n lo hi []) ++ R)) (hf : 1 ≤ f) :
  item s f d i = some (.node k st n lo hi [], i + (RT.txt (.node k st n lo hi [])).length) := by
 obtain ⟨o1, o2, o3⟩ := own_none ho
 obtain ⟨f, rfl⟩ : ∃ f', f = f' + 1 := ⟨f - 1, by omega⟩
 rcases hk with rfl | rfl | rfl | rfl
 ·obtain ⟨rfl, rfl⟩ := o1 (by decide)
  obtain ⟨rfl, rfl⟩ := o2 (by decide)
  have e : RT.txt (.node 1 ⟨#[]⟩ false 0 0 []) = [46] := by rw [RT.txt]; rfl
  rw [e] at hA ⊢
  rw [item]; simp only [List.cons_append, List.nil_append] at hA; simp only [hA.is]; rfl
 ·obtain ⟨q1, q2⟩ := o3 rfl
  obtain ⟨rfl, rfl⟩ := o2 (by decide)
  have e : RT.txt (.node 2 st n 0 0 []) = setTxt st.data.toList n := by rw [RT.txt]; rfl
  rw [e] at hA ⊢
  exact item_set q1 q2 hA
 ·obtain ⟨rfl, rfl⟩ := o1 (by decide)
  obtain ⟨rfl, rfl⟩ := o2 (by decide)
  have e : RT.txt (.node 6 ⟨#[]⟩ false 0 0 []) = [94] := by rw [RT.txt]; rfl
  rw [e] at hA ⊢
  rw [item]; simp only [List.cons_append, List.nil_append] at hA; simp only [hA.is]; rfl
 ·obtain ⟨rfl, rfl⟩ := o1 (by decide)
  obtain ⟨rfl, rfl⟩ := o2 (by decide)
  have e : RT.txt (.node 7 ⟨#[]⟩ false 0 0 []) = [36] := by rw [RT.txt]; rfl
  rw [e] at hA ⊢
  rw [item]; simp only [List.cons_append, List.nil_append] at hA; simp only [hA.is]; rfl
theorem none_ok : EOk (leaf 0) := by
 intro s f d i R hA hR hd _ hf
 have e : eT (leaf 0) = [40, 41] := by unfold eT leaf; rw [RT.txt]; rfl
 rw [e] at hA ⊢
 simp only [List.cons_append, List.nil_append] at hA
 have A1 := hA.tail
 have h1 := A1.lt
 have hs : RT.sz (leaf 0) = 1 := rfl
 obtain ⟨f, rfl⟩ : ∃ f', f = f' + 3 := ⟨f - 3, by omega⟩
 refine ⟨leaf 0, i + 2, ?_, ?_⟩
 ·rw [item_paren hA (by omega)]
  have : alts s (f + 2) (d - 1) (i + 1) = some ([leaf 0], i + 1) := by
   rw [alts, cats, ends_yes A1 (fun c R' e => by injection e with e _; exact .inr e.symm)]
   simp only [if_true, A1.is]
   rfl
  rw [this]
  simp only [A1.is]
  rfl
 ·exact times_none A1.tail hR
/-- Its text's head. -/
theorem txt_hd {k : Int} {st : ByteArray} {n : Bool} {lo hi : Int} (hk : k = 0 ∨ k = 1 ∨ k = 2 ∨ k = 6 ∨ k = 7) : HdOk (RT.txt (.node k st n lo hi [])) := by
 rcases hk with rfl | rfl | rfl | rfl | rfl
 ·rw [show RT.txt (.node 0 st n lo hi []) = [40, 41] by rw [RT.txt]; rfl]; exact hd_lit _ (by decide)
 ·rw [show RT.txt (.node 1 st n lo hi []) = [46] by rw [RT.txt]; rfl]; exact hd_lit _ (by decide)
 ·rw [show RT.txt (.node 2 st n lo hi []) = setTxt st.data.toList n by rw [RT.txt]; rfl]; exact setTxt_hd _ _
 ·rw [show RT.txt (.node 6 st n lo hi []) = [94] by rw [RT.txt]; rfl]; exact hd_lit _ (by decide)
 ·rw [show RT.txt (.node 7 st n lo hi []) = [36] by rw [RT.txt]; rfl]; exact hd_lit _ (by decide)
theorem wr_hd (L : List UInt8) : HdOk (wrT true L) := hd_lit _ (by decide)
theorem eT_hd {t : RT} (h : RT.good t) : HdOk (eT t) := by
 have ho := RT.good_own h
 obtain ⟨k, st, n, lo, hi, ts⟩ := t
 rcases RT.own_shape ho with ⟨hk, rfl⟩ | ⟨hk, x, y, rfl⟩ | ⟨rfl, x, rfl⟩
 ·unfold eT
  rw [show hasB [3, 4] (RT.kind (.node k st n lo hi [])) = false by rcases hk with rfl | rfl | rfl | rfl | rfl <;> rfl]
  exact txt_hd (by omega)
 ·unfold eT
  rw [show hasB [3, 4] (RT.kind (.node k st n lo hi [x, y])) = true by rcases hk with rfl | rfl <;> rfl]
  exact wr_hd _
 ·unfold eT
  rw [show hasB [3, 4] (RT.kind (.node 5 st n lo hi [x])) = false from rfl]
  show HdOk (RT.txt _)
  rw [txt5]
  refine HdOk.app ?_
  have gx := RT.good_kids h x (by simp [RT.kids])
  have hox := RT.good_own gx
  obtain ⟨k, st, n, lo, hi, ts⟩ := x
  show HdOk (wrT (hasB [0, 3, 4, 5, 6, 7] k) _)
  rcases RT.own_shape hox with ⟨hk, rfl⟩ | ⟨hk, x, y, rfl⟩ | ⟨rfl, x, rfl⟩
  ·cases hasB [0, 3, 4, 5, 6, 7] k
   ·exact txt_hd (by omega)
   ·exact wr_hd _
  ·rw [show hasB [0, 3, 4, 5, 6, 7] k = true by rcases hk with rfl | rfl <;> rfl]; exact wr_hd _
  ·exact wr_hd _
theorem cT_hd {t : RT} (h : RT.good t) : HdOk (cT t) := by
 by_cases hk : t.kind = 3
 ·have ho := RT.good_own h
  have hg := RT.good_kids h
  obtain ⟨k, st, n, lo, hi, ts⟩ := t
  simp only [RT.kind] at hk
  subst hk
  rcases RT.own_shape ho with ⟨hk, _⟩ | ⟨_, x, y, rfl⟩ | ⟨hk, _⟩
  ·omega
  ·show HdOk (RT.txt _)
   rw [txt3]
   exact (eT_hd (hg x (by simp [RT.kids]))).app
  ·omega
 ·rw [cT_eT hk]; exact eT_hd h
theorem all_ok : ∀ (N : Nat) (t : RT), RT.sz t ≤ N → RT.good t → AOk t ∧ COk t ∧ EOk t := by
 intro N
 induction N with
 | zero => intro t h; have := RT.sz_pos t; omega
 | succ N ih =>
  intro t hN hg
  have ho := RT.good_own hg
  have hk := RT.good_kids hg
  have hh := eT_hd hg
  have hsz : ∀ u ∈ t.kids, RT.sz u ≤ N := fun u hu => by have := RT.sz_kid t u hu; omega
  obtain ⟨o1, o2, o3⟩ := own_none (k := t.kind) (s := t.set) (n := t.neg) (lo := t.low) (hi := t.high) (ts := t.kids) (by cases t; exact ho)
  obtain ⟨k, st, n, lo, hi, ts⟩ := t
  simp only [RT.kind, RT.set, RT.neg, RT.low, RT.high, RT.kids] at *
  rcases RT.own_shape ho with ⟨hks, rfl⟩ | ⟨hks, x, y, rfl⟩ | ⟨rfl, x, rfl⟩
  ·have hE : EOk (.node k st n lo hi []) := by
    by_cases h0 : k = 0
    ·subst h0
     obtain ⟨rfl, rfl⟩ := o1 (by decide)
     obtain ⟨rfl, rfl⟩ := o2 (by decide)
     exact none_ok
    ·intro s f d i R hA hR hd hd2 hf
     have e : eT (.node k st n lo hi []) = RT.txt (.node k st n lo hi []) := wr_no (by show hasB [3, 4] k = false; rcases hks with rfl | rfl | rfl | rfl | rfl <;> rfl)
     rw [e] at hA ⊢
     exact ⟨_, _, atom_item ho (by omega) hA (by omega), times_none hA.app hR⟩
   have hC := cOk_of_E (t := .node k st n lo hi []) (by show k ≠ 3; omega) hh hE
   exact ⟨aOk_of_C (by show k ≠ 4; omega) hC, hC, hE⟩
  ·have ix := ih x (hsz x (by simp)) (hk x (by simp))
   have iy := ih y (hsz y (by simp)) (hk y (by simp))
   obtain ⟨rfl, rfl⟩ := o1 (by omega)
   obtain ⟨rfl, rfl⟩ := o2 (by omega)
   rcases hks with rfl | rfl
   ·have hC : COk (.node 3 ⟨#[]⟩ false 0 0 [x, y]) := cOk_cat rfl ix.2.2 (eT_hd (hk x (by simp))) iy.2.1 (cT_hd (hk y (by simp)))
    have hA := aOk_of_C (t := .node 3 ⟨#[]⟩ false 0 0 [x, y]) (by show (3 : Int) ≠ 4; decide) hC
    exact ⟨hA, hC, eOk_of_A (.inl rfl) hA⟩
   ·have hA : AOk (.node 4 ⟨#[]⟩ false 0 0 [x, y]) := aOk_alt rfl ix.2.1 iy.1
    have hE := eOk_of_A (t := .node 4 ⟨#[]⟩ false 0 0 [x, y]) (.inr rfl) hA
    exact ⟨hA, cOk_of_E (by show (4 : Int) ≠ 3; decide) hh hE, hE⟩
  ·have ix := ih x (hsz x (by simp)) (hk x (by simp))
   have gx := hk x (by simp)
   have htm := own_tim ho
   obtain ⟨rfl, rfl⟩ := o1 (by decide)
   have hE : EOk (.node 5 ⟨#[]⟩ false lo hi [x]) := by
    intro s f d i R hA hR hd hd2 hf
    have e : eT (.node 5 ⟨#[]⟩ false lo hi [x]) = wrT (hasB [0, 3, 4, 5, 6, 7] x.kind) (RT.txt x) ++ timT lo hi := by
     have : eT (.node 5 ⟨#[]⟩ false lo hi [x]) = RT.txt (.node 5 ⟨#[]⟩ false lo hi [x]) := wr_no rfl
     rw [this, txt5]
    rw [e] at hA ⊢
    rw [List.append_assoc] at hA
    have hs : RT.sz (.node 5 ⟨#[]⟩ false lo hi [x]) = 1 + (RT.sz x + 0) := rfl
    have hA2 := hA.app
    have hit : item s f d i = some (x, i + (wrT (hasB [0, 3, 4, 5, 6, 7] x.kind) (RT.txt x)).length) := by
     cases hw : hasB [0, 3, 4, 5, 6, 7] x.kind
     ·rw [hw] at hA
      have hox := RT.good_own gx
      obtain ⟨k, st, n, lo', hi', ts⟩ := x
      simp only [RT.kind] at hw
      rcases RT.own_shape hox with ⟨hks, rfl⟩ | ⟨hks, x, y, rfl⟩ | ⟨rfl, x, rfl⟩
      ·rcases hks with rfl | rfl | rfl | rfl | rfl
       ·cases hw
       ·exact atom_item hox (by decide) hA (by omega)
       ·cases hw
       ·cases hw
       ·exact atom_item hox (by decide) hA (by omega)
      ·rcases hks with rfl | rfl <;> cases hw
      ·cases hw
     ·rw [hw] at hA
      exact paren_ok ix.1 hA (by omega) hf
    refine ⟨x, _, hit, ?_⟩
    rw [times_tim htm hA2, List.length_append, Nat.add_assoc]
    rfl
   have hC := cOk_of_E (t := .node 5 ⟨#[]⟩ false lo hi [x]) (by show (5 : Int) ≠ 3; decide) hh hE
   exact ⟨aOk_of_C (by show (5 : Int) ≠ 4; decide) hC, hC, hE⟩
theorem pls_sz (ts : List RT) (h : ∀ t ∈ ts, ∀ deep left, 0 ≤ RT.pl t deep left → RT.pl t deep left = left - RT.sz t) : ∀ (i : Nat) (deep left : Int), 0 ≤ RT.pls ts i deep left → RT.pls ts i deep left = left - RT.szs ts := by
 induction ts with
 | nil => intro i deep left _; simp [RT.pls, RT.szs]
 | cons t ts ih =>
  intro i deep left h0
  rw [RT.pls] at h0 ⊢
  by_cases c : RT.pl t (if i = 0 then deep + 1 else deep) left < 0
  ·rw [if_pos c] at h0; omega
  ·rw [if_neg c] at h0 ⊢
   rw [ih (fun u hu => h u (by simp [hu])) _ _ _ h0, h t (by simp) _ _ (by omega)]
   simp only [RT.szs]; omega
theorem pl_sz : ∀ (N : Nat) (t : RT), RT.sz t ≤ N → ∀ deep left, 0 ≤ RT.pl t deep left → RT.pl t deep left = left - RT.sz t := by
 intro N
 induction N with
 | zero => intro t h; have := RT.sz_pos t; omega
 | succ N ih =>
  intro t hN deep left h0
  by_cases c : left = 0 ∨ 12 < deep ∨ RT.own t = false
  ·rw [RT.pl_no t deep left c] at h0; omega
  ·rw [RT.pl_go t deep left c] at h0 ⊢
   rw [pls_sz t.kids (fun u hu => ih u (by have := RT.sz_kid t u hu; omega)) _ _ _ h0]
   have := RT.sz_eq t
   omega
theorem ok_sz {t : RT} (h : RT.ok t = true) : RT.sz t ≤ 200 := by
 have h0 : 0 ≤ RT.pl t 0 200 := by simpa [RT.ok] using h
 have := pl_sz _ t (Nat.le_refl _) 0 200 h0
 omega
/-- A right expression comes back from its text. -/
theorem parse_txt {t : RT} (h : RT.ok t = true) (hl : (RT.txt t).length ≤ 4000) : parse ⟨(RT.txt t).toArray⟩ = some t := by
 have hg := RT.ok_good h
 have hs : (ByteArray.mk (RT.txt t).toArray).size = (RT.txt t).length := by simp [ByteArray.size]
 obtain ⟨ts, h1, h2, h3⟩ := (all_ok _ t (Nat.le_refl _) hg).1 ⟨(RT.txt t).toArray⟩ (3 * (ByteArray.mk (RT.txt t).toArray).size + 3) 200 0 [] ⟨Nat.zero_le _, by simp⟩ (fun c R' e => by cases e) (ok_sz h) (by omega)
 unfold parse
 rw [if_neg (by omega), h2]
 simp only [h3, h]
 rw [if_neg (by rw [hs]; omega)]
 rfl
theorem txt_ne {t : RT} (h : RT.ok t = true) : RT.txt t ≠ [] := by
 have hg := RT.ok_good h
 by_cases hk : t.kind = 3 ∨ t.kind = 4
 ·rcases hk with hk | hk
  ·have := cT_hd hg
   unfold cT at this
   rw [show hasB [4] t.kind = false by rw [hk]; rfl] at this
   obtain ⟨c, r, e, _⟩ := this
   intro q
   rw [show wrT false (RT.txt t) = RT.txt t from rfl, q] at e; cases e
  ·have ho := RT.good_own hg
   obtain ⟨k, st, n, lo, hi, ts⟩ := t
   simp only [RT.kind] at hk
   subst hk
   rcases RT.own_shape ho with ⟨hk, _⟩ | ⟨_, x, y, rfl⟩ | ⟨hk, _⟩
   ·omega
   ·rw [txt4]; intro q; have := congrArg List.length q; simp at this
   ·omega
 ·have := eT_hd hg
  unfold eT at this
  rw [show hasB [3, 4] t.kind = false by unfold hasB; simp only [not_or] at hk; simp [hk.1, hk.2]] at this
  obtain ⟨c, r, e, _⟩ := this
  intro q
  rw [show wrT false (RT.txt t) = RT.txt t from rfl, q] at e; cases e
end PR
end Go.Proofs.YtcpaneaiobnhdaaDoor.kit
