/-
  Contracts of laws.markText, laws.markStringS, laws.heldStringS and laws.eqStringS over this seat's translation: a slice of texts is marked, its marks are found again, two slices of the same texts are told to be the same. Conditions: at most 2000000 texts, marks from 1 to 10000000.
-/
import Derived.Test.YtghmkfehohgmgaaCutS
import Derived.Test.YtghmkfehohgmgaaDec
import Derived.Deep.RegionHeld3
import Derived.Deep.QuietTactic
import Derived.BigQuiet
namespace Go.Proofs.Ytghmkfehohgmgaa.kit
open Go.ChangeShapes Go.WideShapes Go.ChangeAt Go.RowKit
set_option linter.unusedVariables false

/-- The text of a mark. -/
def mt (m : Nat) : List UInt8 := 109 :: Lib.decDigits m
theorem one_back (c : UInt8) : [Value.int .u8 (c.toNat : Int)] = cellsOf [c] := rfl
theorem dig_byte (r : Nat) (h : r < 10) : ((UInt8.ofNat (48 + r)).toNat : Int) = 48 + (r : Int) := by
  rw [UInt8.toNat_ofNat']; omega

set_option maxHeartbeats 400000 in
theorem markText_any (N : Nat) (w : World) (h0 : 0 < N) (hN : N ≤ 100000000) :
    Calls Try.prog 58 #[.int .i64 (N : Int)] w fun e w' => e = .returned (eS (mt N)) ∧ Below w.heap.size w w' := by
  have HZ := Lib.hid (show Lib.decDigits N = front N by rw [front, if_neg (by omega)])
  have hq : ¬ (N : Int) ≤ 0 := by omega
  go_enter Try.func58, Try.ntmps58
  go_wp2
  go_loopw [0, 3] (fun m o wr => ∃ (l : List UInt8) (j : Nat), o = .string ⟨l.toArray⟩ ∧ m = .int .i64 (j : Int) ∧ j ≤ 100000000 ∧ Lib.decDigits N = front j ++ l ∧ Below w.heap.size w wr) (fun m _ _ => (intOf m).toNat)
  case atStart => exact ⟨[], N, rfl, rfl, hN, by rw [HZ.out]; simp, Below.refl _ _⟩
  case round =>
    obtain ⟨l, j, rfl, rfl, hj, hfr, hbel⟩ := hrel
    have hl := front_len (by omega) hfr
    have HF := Lib.hid hfr
    have HB := Lib.hid hbel
    have hz := hbel.size
    clear hfr hbel
    by_cases hz0 : j = 0
    · subst hz0
      go_wp2
      go_ret
      exact ⟨ret_str (by rw [mt, HF.out]; exact join_digit 109 _), HB.out⟩
    · have e1 : ¬ (j : Int) ≤ 0 := by omega
      have HS := Lib.hid (front_step hz0)
      have hb0 : 0 ≤ (j : Int) % 10 := by omega
      have hb1 : (j : Int) % 10 < 10 := by omega
      have hbk := back_lit (P := Try.prog) Try.underlying76 Try.underlying5 Try.underlying9 [UInt8.ofNat (48 + j % 10)] _ (one_back _) 1 1 rfl
      rw [dig_byte (j % 10) (by omega), show ((j % 10 : Nat) : Int) = (j : Int) % 10 by omega] at hbk
      have hpos : 0 < j := by omega
      clear hz0
      go_wp2
      go_roundw
      case rel => exact ⟨UInt8.ofNat (48 + j % 10) :: l, j / 10, by rw [join_digit, UInt8.ofNat_add]; rfl, by go_num, by omega, by rw [HF.out, HS.out]; simp, HB.out.alloc hz _⟩
      case measure => simp [intOf]; omega

/-- A slice of texts, in a block from B on, that may be written: its j-th text is f j. -/
def SlF (B : Nat) (w : World) (a : Option Addr) (n : Nat) (f : Nat → List UInt8) : Prop :=
  ∀ j, j < n → ∃ g, a = some ⟨g, 0, none⟩ ∧ B ≤ g ∧ g < w.heap.size ∧ w.cell? ⟨g, j, none⟩ = some (eS (f j)) ∧ w.frozen? ⟨g, j, none⟩ = false
theorem SlF.kept {B : Nat} {w w' : World} {a : Option Addr} {n : Nat} {f : Nat → List UInt8} (h : SlF B w a n f) (hb : Below w.heap.size w w') : SlF B w' a n f := by
  intro j hj
  obtain ⟨g, e, h1, h2, h3, h4⟩ := h j hj
  exact ⟨g, e, h1, Nat.lt_of_lt_of_le h2 hb.size, (hb.cell (p := ⟨g, j, none⟩) h2).trans h3, (hb.frozen (p := ⟨g, j, none⟩) h2).trans h4⟩
/-- What lies below a block number is kept by what turns nothing below it. -/
theorem SlF.far {B C : Nat} {w w' : World} {a : Option Addr} {n : Nat} {f : Nat → List UInt8} (h : SlF B w a n f) (hC : w.heap.size ≤ C) (hb : Below C w w') : SlF B w' a n f := h.kept (hb.mono hC)
theorem SlF.congr {B : Nat} {w : World} {a : Option Addr} {n : Nat} {f f' : Nat → List UInt8} (h : SlF B w a n f) (e : ∀ j, j < n → f j = f' j) : SlF B w a n f' := by
  intro j hj
  rw [← e j hj]; exact h j hj
theorem SlF.store {B : Nat} {w : World} {g n : Nat} {f : Nat → List UInt8} (h : SlF B w (some ⟨g, 0, none⟩) n f) (k : Nat) (hk : k < n) (x : List UInt8) :
    SlF B (w.setCell ⟨g, k, none⟩ (eS x)) (some ⟨g, 0, none⟩) n (fun j => if j = k then x else f j) := by
  intro j hj
  obtain ⟨g', e, h1, h2, h3, h4⟩ := h j hj
  cases e
  refine ⟨g, rfl, h1, by simpa using h2, ?_, by rw [World.frozen?_setCell]; exact h4⟩
  by_cases e : j = k
  · subst e
    rw [World.cell?_setCell_same w _ _ h3]; simp
  · rw [World.cell?_setCell_other w _ _ _ (by intro y; injection y; omega), h3]
    simp [e]
theorem OwnS.slF {B : Nat} {w : World} {v : Value} {xs : List (List UInt8)} (h : OwnS 9 B w v xs) : ∃ a cap, v = .slice a xs.length cap ∧ SlF B w a xs.length (fun j => xs.getD j []) := by
  rcases h.2 with ⟨rfl, h0⟩ | ⟨g, cap, cur, rfl, hb, hg, hr⟩
  · exact ⟨none, 0, by rw [h0], fun j hj => by omega⟩
  · refine ⟨some ⟨g, 0, none⟩, cap, rfl, fun j hj => ⟨g, rfl, hb, (Array.getElem?_eq_some_iff.1 hg).1, ?_, ?_⟩⟩
    · have h2 : w.ownsRow B 9 1 (.slice (some ⟨g, 0, none⟩) xs.length cap) xs.length (xs.map eS) := h
      rw [World.ownsRow.cellAt h2 j (by omega)]
      simp [hj]
    · have h2 : w.ownsRow B 9 1 (.slice (some ⟨g, 0, none⟩) xs.length cap) xs.length (xs.map eS) := h
      exact World.ownsRow.frozenAt h2 j

set_option maxHeartbeats 400000 in
theorem mark_any (B : Nat) (a : Option Addr) (cap n m : Nat) (f : Nat → List UInt8) (w : World) (hB : B ≤ w.heap.size) (hn : n ≤ 2000000) (hm0 : 0 < m) (hm : m ≤ 10000000) (hsl : SlF B w a n f) :
    Calls Try.prog 47 #[.slice a n cap, .int .i64 (m : Int)] w fun e w' => e = .returned (.int .i64 ((m : Int) + n)) ∧ SlF B w' a n (fun j => mt (m + j)) ∧ Below B w w' := by
  have HS := Lib.hid hsl; clear hsl
  go_enter Try.func47, Try.ntmps47
  go_wp2
  go_loopw [1, 5] (fun q i wr => ∃ k : Nat, k ≤ n ∧ i = .int .i64 (k : Int) ∧ q = .int .i64 ((m : Int) + k) ∧ SlF B wr a n (fun j => if j < k then mt (m + j) else f j) ∧ Below B w wr) (fun _ i _ => n - (intOf i).toNat)
  case atStart => exact ⟨0, Nat.zero_le _, rfl, by go_num, by simpa using HS.out, Below.refl _ _⟩
  case round =>
    obtain ⟨k, hk, rfl, rfl, hsl, hbel⟩ := hrel
    have HB := Lib.hid hbel
    have hz := hbel.size
    have HL := Lib.hid hsl
    clear hsl hbel
    by_cases hlt : k < n
    · obtain ⟨g, rfl, hg1, hg2, hg3, hg4⟩ := HL.out k hlt
      have HM := Lib.hid (fun W => markText_any (m + k) W (by omega) (by omega))
      rw [show ((m + k : Nat) : Int) = (m : Int) + k by omega] at HM
      have HG := Lib.hid hg3
      have HG4 := Lib.hid hg4
      clear hg3 hg4
      go_wp2_with fail
      refine (HM.out _).mono ?_
      rintro e w1 ⟨rfl, hb1⟩
      have hc1 : w1.cell? ⟨g, k, none⟩ = some (eS (if k < k then mt (m + k) else f k)) := (hb1.cell (p := ⟨g, k, none⟩) hg2).trans HG.out
      have hf1 : w1.frozen? ⟨g, k, none⟩ = false := (hb1.frozen (p := ⟨g, k, none⟩) hg2).trans HG4.out
      have HN := Lib.hid ((HL.out.kept hb1).store k hlt (mt (m + k)))
      have HB1 := Lib.hid hb1
      have hz1 := hb1.size
      clear hb1
      unfold eS at hc1 ⊢
      generalize (if k < k then mt (m + k) else f k) = y at hc1
      generalize hx : mt (m + k) = x at HN ⊢
      have HX := Lib.hid hx
      clear hx
      go_wp2
      go_roundw
      case rel => exact ⟨k + 1, by omega, by go_num, by go_num, (HN.out.congr (fun j hj => by
          by_cases e : j = k
          · subst e; simp; exact HX.out.symm
          · by_cases e2 : j < k
            · simp [e, e2, show j < k + 1 by omega]
            · simp [e, e2, show ¬ j < k + 1 by omega])), ((HB.out.trans (HB1.out.mono (Nat.le_trans hB hz)))).setCell hg1 _⟩
      case measure => simp [intOf]; omega
    · go_wp2
      go_ret
      obtain rfl : k = n := by omega
      exact ⟨rfl, HL.out.congr (fun j hj => by simp [hj]), HB.out⟩

set_option maxHeartbeats 400000 in
theorem held_any (B : Nat) (a : Option Addr) (cap n m : Nat) (w : World) (hn : n ≤ 2000000) (hm0 : 0 < m) (hm : m ≤ 10000000) (hsl : SlF B w a n (fun j => mt (m + j))) :
    Calls Try.prog 48 #[.slice a n cap, .int .i64 (m : Int)] w fun e w' => e = .returned (.int .i64 ((m : Int) + n)) ∧ Below w.heap.size w w' := by
  have HS := Lib.hid hsl; clear hsl
  go_enter Try.func48, Try.ntmps48
  go_wp2
  go_loopw [1, 5] (fun q i wr => ∃ k : Nat, k ≤ n ∧ i = .int .i64 (k : Int) ∧ q = .int .i64 ((m : Int) + k) ∧ Below w.heap.size w wr) (fun _ i _ => n - (intOf i).toNat)
  case atStart => exact ⟨0, Nat.zero_le _, rfl, by go_num, Below.refl _ _⟩
  case round =>
    obtain ⟨k, hk, rfl, rfl, hbel⟩ := hrel
    have HB := Lib.hid hbel
    have hz := hbel.size
    clear hbel
    by_cases hlt : k < n
    · obtain ⟨g, rfl, hg1, hg2, hg3, hg4⟩ := (HS.out.kept HB.out) k hlt
      have HM := Lib.hid (fun W => markText_any (m + k) W (by omega) (by omega))
      rw [show ((m + k : Nat) : Int) = (m : Int) + k by omega] at HM
      clear hg4
      simp only [eS] at HM hg3
      generalize mt (m + k) = x at *
      have i0 : (0 : Int) ≤ (k : Int) := by omega
      have i1 : (k : Int) < (n : Int) := by omega
      go_wp2
      go_region_held3 (fun w' => w'.cell? ⟨g, k, none⟩ = some (.string ⟨x.toArray⟩)) (first | exact hg3 | exact (Below.cell hb2 (p := ⟨g, k, none⟩) hg2).trans hg3) (first | (go_at_call 58; refine (HM.out _).mono ?_; rintro e w2 ⟨rfl, hb2⟩))
      go_wp2
      go_roundw
      case rel => exact ⟨k + 1, by omega, by go_num, by go_num, HB.out.trans ((((Below.refl _ wr).drew).trans hb2).mono hz)⟩
      case measure => simp [intOf]; omega
    · go_wp2
      go_ret
      obtain rfl : k = n := by omega
      exact ⟨rfl, HB.out⟩

set_option maxHeartbeats 400000 in
theorem eq_any (B C : Nat) (a b : Option Addr) (cap cap' n : Nat) (f : Nat → List UInt8) (w : World) (hn : n ≤ 2000000) (h1 : SlF B w a n f) (h2 : SlF C w b n f) :
    Calls Try.prog 23 #[.slice a n cap, .slice b n cap'] w fun e w' => e = .returned (.bool true) ∧ Below w.heap.size w w' := by
  have H1 := Lib.hid h1
  have H2 := Lib.hid h2
  clear h1 h2
  go_enter Try.func23, Try.ntmps23
  go_wp2
  go_loopw [5] (fun i wr => ∃ k : Nat, k ≤ n ∧ i = .int .i64 (k : Int) ∧ Below w.heap.size w wr) (fun i _ => n - (intOf i).toNat)
  case atStart => exact ⟨0, Nat.zero_le _, rfl, Below.refl _ _⟩
  case round =>
    obtain ⟨k, hk, rfl, hbel⟩ := hrel
    have HB := Lib.hid hbel
    clear hbel
    by_cases hlt : k < n
    · obtain ⟨g, rfl, hg1, hg2, hg3, hg4⟩ := (H1.out.kept HB.out) k hlt
      obtain ⟨g', rfl, hg1', hg2', hg3', hg4'⟩ := (H2.out.kept HB.out) k hlt
      clear hg4 hg4'
      unfold eS at hg3 hg3'
      generalize f k = x at *
      have i0 : (0 : Int) ≤ (k : Int) := by omega
      have i1 : (k : Int) < (n : Int) := by omega
      go_wp2
      go_quiet (fail)
      go_wp2
      go_roundw
      case rel => exact ⟨k + 1, by omega, by go_num, HB.out.trans ⟨rfl, rfl, rfl, Nat.le_refl _, fun _ _ => rfl⟩⟩
      case measure => simp [intOf]; omega
    · go_wp2
      go_ret
      exact ⟨rfl, HB.out⟩
end Go.Proofs.Ytghmkfehohgmgaa.kit
