/-
  Contracts of laws.markText, laws.markStringS, laws.heldStringS and laws.eqStringS over this seat's translation: a slice of texts is marked, its marks are found again, two slices of the same texts are told to be the same. Conditions: at most 2000000 texts, marks from 1 to 10000000.
-/
import Derived.Test.YtppfnaenamcnpaaDoorMuInfo
import Derived.Test.YtppfnaenamcnpaaDoorMuKit
import Derived.Test.YtppfnaenamcnpaaDoorMuDec
import Derived.Deep.RegionHeld3
import Derived.Deep.QuietTactic
import Derived.BigQuiet
set_option linter.unusedVariables false
namespace Go.Proofs.YtppfnaenamcnpaaDoor.kit
open Go.ChangeShapes Go.WideShapes Go.ChangeAt Go.RowKit
def mt (m : Nat) : List UInt8 := 109 :: Lib.decDigits m
theorem one_back (c : UInt8) : [Value.int .u8 (c.toNat : Int)] = cellsOf [c] := rfl
theorem dig_byte (r : Nat) (h : r < 10) : ((UInt8.ofNat (48 + r)).toNat : Int) = 48 + (r : Int) := by
 rw [UInt8.toNat_ofNat']; omega
set_option maxHeartbeats 400000 in
theorem markText_any (N : Nat) (w : World) (h0 : 0 < N) (hN : N ≤ 100000000) :
 Calls Tryd.prog 72 #[.int .i64 (N : Int)] w fun e w' => e = .returned (eS (mt N)) ∧ Below w.heap.size w w' := by
 have HZ := Lib.hid (show Lib.decDigits N = front N by rw [front, if_neg (by omega)])
 have hq : ¬ (N : Int) ≤ 0 := by omega
 go_enter Tryd.func72, Tryd.ntmps72
 go_wp2
 go_loopw [0, 3] (fun m o wr => ∃ (l : List UInt8) (j : Nat), o = .string ⟨l.toArray⟩ ∧ m = .int .i64 (j : Int) ∧ j ≤ 100000000 ∧ Lib.decDigits N = front j ++ l ∧ Below w.heap.size w wr) (fun m _ _ => (intOf m).toNat)
 case atStart => exact ⟨[], N, rfl, rfl, hN, by rw [HZ.out]; simp, Below.refl _ _⟩
 case round =>
  obtain ⟨l, j, rfl, rfl, hj, hfr, hbel⟩ := hrel
  have hl := front_len (by omega) hfr
  have HF := Lib.hid hfr
  have HB := Lib.hid hbel
  have hz := hbel.size
  clear hfr hbel
  by_cases hz0 : j = 0
  · subst hz0
    go_wp2
    go_ret
    exact ⟨ret_str (by rw [mt, HF.out]; exact join_digit 109 _), HB.out⟩
  · have e1 : ¬ (j : Int) ≤ 0 := by omega
    have HS := Lib.hid (front_step hz0)
    have hb0 : 0 ≤ (j : Int) % 10 := by omega
    have hb1 : (j : Int) % 10 < 10 := by omega
    have hbk := back_lit (P := Tryd.prog) Tryd.underlying22 Tryd.underlying5 Tryd.underlying9 [UInt8.ofNat (48 + j % 10)] _ (one_back _) 1 1 rfl
    rw [dig_byte (j % 10) (by omega), show ((j % 10 : Nat) : Int) = (j : Int) % 10 by omega] at hbk
    have hpos : 0 < j := by omega
    clear hz0
    go_wp2
    go_roundw
    case rel => exact ⟨UInt8.ofNat (48 + j % 10) :: l, j / 10, by rw [join_digit, UInt8.ofNat_add]; rfl, by go_num, by omega, by rw [HF.out, HS.out]; simp, HB.out.alloc hz _⟩
    case measure => simp [intOf]; omega
def SlF (B : Nat) (w : World) (a : Option Addr) (n : Nat) (f : Nat → List UInt8) : Prop :=
 ∀ j, j < n → ∃ g, a = some ⟨g, 0, none⟩ ∧ B ≤ g ∧ g < w.heap.size ∧ w.cell? ⟨g, j, none⟩ = some (eS (f j)) ∧ w.frozen? ⟨g, j, none⟩ = false
theorem SlF.kept {B : Nat} {w w' : World} {a : Option Addr} {n : Nat} {f : Nat → List UInt8} (h : SlF B w a n f) (hb : Below w.heap.size w w') : SlF B w' a n f := by
 intro j hj
 obtain ⟨g, e, h1, h2, h3, h4⟩ := h j hj
 exact ⟨g, e, h1, Nat.lt_of_lt_of_le h2 hb.size, (hb.cell (p := ⟨g, j, none⟩) h2).trans h3, (hb.frozen (p := ⟨g, j, none⟩) h2).trans h4⟩
theorem SlF.congr {B : Nat} {w : World} {a : Option Addr} {n : Nat} {f f' : Nat → List UInt8} (h : SlF B w a n f) (e : ∀ j, j < n → f j = f' j) : SlF B w a n f' := by
 intro j hj
 rw [← e j hj]; exact h j hj
theorem SlF.store {B : Nat} {w : World} {g n : Nat} {f : Nat → List UInt8} (h : SlF B w (some ⟨g, 0, none⟩) n f) (k : Nat) (hk : k < n) (x : List UInt8) :
 SlF B (w.setCell ⟨g, k, none⟩ (eS x)) (some ⟨g, 0, none⟩) n (fun j => if j = k then x else f j) := by
 intro j hj
 obtain ⟨g', e, h1, h2, h3, h4⟩ := h j hj
 cases e
 refine ⟨g, rfl, h1, by simpa using h2, ?_, by rw [World.frozen?_setCell]; exact h4⟩
 by_cases e : j = k
 · subst e
   rw [World.cell?_setCell_same w _ _ h3]; simp
 · rw [World.cell?_setCell_other w _ _ _ (by intro y; injection y; omega), h3]
   simp [e]
end Go.Proofs.YtppfnaenamcnpaaDoor.kit
