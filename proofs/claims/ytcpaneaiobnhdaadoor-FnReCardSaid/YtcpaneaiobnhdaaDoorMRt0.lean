/-
 Contracts of impl.byteText and spec.l04Plain over this seat's translation: a byte as an item of an expression's text. Conditions: none.
-/
import Derived.Test.YtcpaneaiobnhdaaDoorMInfo
import Derived.Test.YtcpaneaiobnhdaaDoorMIdx
import Derived.Test.YtcpaneaiobnhdaaDoorShelf
import Derived.Lib.IndexAny
namespace Go.Proofs.YtcpaneaiobnhdaaDoor.kit
open Go.ChangeShapes Go.WideShapes Go.ChangeAt Go.RowKit
set_option linter.unusedVariables false

def signs : List UInt8 := [46, 94, 36, 40, 41, 91, 93, 42, 43, 63, 123, 125, 124, 92, 47]
def needs (c : UInt8) : Bool := signs.contains c || decide (c.toNat < 32) || decide (126 < c.toNat)
def byTxt (c : UInt8) : List UInt8 := if needs c then [92, c] else [c]
theorem byTxt_yes {c : UInt8} (h : needs c = true) : byTxt c = [92, c] := by rw [byTxt, if_pos h]
theorem byTxt_no {c : UInt8} (h : needs c = false) : byTxt c = [c] := by rw [byTxt, if_neg (by rw [h]; simp)]
theorem needs_sign {c : UInt8} (h : signs.contains c = true) : needs c = true := by rw [needs, h]; rfl
theorem needs_low {c : UInt8} (h : (c.toNat : Int) < 32) : needs c = true := by
 rw [needs, decide_eq_true (show c.toNat < 32 by omega), Bool.or_true]; rfl
theorem needs_high {c : UInt8} (h : (126 : Int) < c.toNat) : needs c = true := by
 rw [needs, decide_eq_true (show 126 < c.toNat by omega), Bool.or_true]
theorem needs_none {c : UInt8} (h : signs.contains c = false) (h1 : ¬ (c.toNat : Int) < 32) (h2 : ¬ (126 : Int) < c.toNat) : needs c = false := by
 rw [needs, h, decide_eq_false (show ¬ c.toNat < 32 by omega), decide_eq_false (show ¬ 126 < c.toNat by omega)]; rfl
theorem sign_byte (c : UInt8) : 0 ≤ Lib.indexByte signs c ↔ signs.contains c = true := by
 rw [Lib.contains_iff_indexByte]; simp
theorem byte_back (c : UInt8) : ((c.toNat : Int)).toNat.toUInt8 = c := by simp
set_option maxRecDepth 100000 in
set_option maxHeartbeats 1000000 in
theorem byteText_any (c : UInt8) (w : World) :
  Calls Tryd.prog 54 #[.int .u8 (c.toNat : Int)] w fun e w' => e = .returned (.string ⟨(byTxt c).toArray⟩) ∧ Below w.heap.size w w' := by
 have hc0 : (0 : Int) ≤ c.toNat := by omega
 have hc1 : (c.toNat : Int) ≤ 255 := by have := c.toNat_lt; omega
 have HI := Lib.hid (show ∀ W, Calls Tryd.prog 70 #[.string ⟨signs.toArray⟩, .int .u8 (c.toNat : Int)] W fun e w' => e = .returned (.int .i64 (Lib.indexByte signs c)) ∧ w' = W from fun W => by
  have := Tryd.strings_IndexByte ⟨signs.toArray⟩ (c.toNat : Int) W
  rwa [byte_back] at this)
 have HY := Lib.hid (fun h => byTxt_yes (c := c) h)
 have HN := Lib.hid (fun h => byTxt_no (c := c) h)
 have HS := Lib.hid (sign_byte c)
 have hb2 := back_lit (P := Tryd.prog) Tryd.underlying22 Tryd.underlying5 Tryd.underlying9 [92, c] [.int .u8 92, .int .u8 (c.toNat : Int)] rfl 2 2 rfl
 have hb1 := back_lit (P := Tryd.prog) Tryd.underlying22 Tryd.underlying5 Tryd.underlying9 [c] [.int .u8 (c.toNat : Int)] rfl 1 1 rfl
 generalize Lib.indexByte signs c = z at *
 have hsg : (⟨signs.toArray⟩ : ByteArray) = ⟨#[46, 94, 36, 40, 41, 91, 93, 42, 43, 63, 123, 125, 124, 92, 47]⟩ := rfl
 rw [hsg] at HI
 by_cases c1 : 0 ≤ z
 ·have E := Lib.hid (HY.out (needs_sign (HS.out.1 c1)))
  go_enter Tryd.func54, Tryd.ntmps54
  go_wp2_with fail
  refine (HI.out _).mono ?_
  rintro e w1 ⟨rfl, rfl⟩
  go_wp2_with fail
  go_ret
  exact ⟨by rw [E.out]; rfl, (Below.refl _ _).alloc (Nat.le_refl _) _⟩
 ·have hs0 : signs.contains c = false := by
   cases h : signs.contains c
   ·rfl
   ·exact absurd (HS.out.2 h) c1
  by_cases c2 : (c.toNat : Int) < 32
  ·have E := Lib.hid (HY.out (needs_low c2))
   go_enter Tryd.func54, Tryd.ntmps54
   go_wp2_with fail
   refine (HI.out _).mono ?_
   rintro e w1 ⟨rfl, rfl⟩
   go_wp2_with fail
   go_ret
   exact ⟨by rw [E.out]; rfl, (Below.refl _ _).alloc (Nat.le_refl _) _⟩
  ·by_cases c3 : (126 : Int) < c.toNat
   ·have E := Lib.hid (HY.out (needs_high c3))
    go_enter Tryd.func54, Tryd.ntmps54
    go_wp2_with fail
    refine (HI.out _).mono ?_
    rintro e w1 ⟨rfl, rfl⟩
    go_wp2_with fail
    go_ret
    exact ⟨by rw [E.out]; rfl, (Below.refl _ _).alloc (Nat.le_refl _) _⟩
   ·have E := Lib.hid (HN.out (needs_none hs0 c2 c3))
    go_enter Tryd.func54, Tryd.ntmps54
    go_wp2_with fail
    refine (HI.out _).mono ?_
    rintro e w1 ⟨rfl, rfl⟩
    go_wp2_with fail
    go_ret
    exact ⟨by rw [E.out]; rfl, (Below.refl _ _).alloc (Nat.le_refl _) _⟩
theorem idx_sign_all : ∀ n : Fin 256, decide (0 < Lib.index signs [UInt8.ofNat n] + 1) = signs.contains (UInt8.ofNat n) := by decide +kernel
theorem idx_sign (c : UInt8) : 0 < idxOf ⟨signs.toArray⟩ ⟨#[c]⟩ ↔ signs.contains c = true := by
 have h := idx_sign_all ⟨c.toNat, c.toNat_lt⟩
 rw [show UInt8.ofNat ((⟨c.toNat, c.toNat_lt⟩ : Fin 256) : Nat) = c by simp] at h
 rw [← h, decide_eq_true_eq]
 exact Iff.rfl
set_option maxRecDepth 100000 in
set_option maxHeartbeats 1000000 in
theorem l04Plain_any (c : UInt8) (w : World) :
  Calls Tryd.prog 62 #[.int .u8 (c.toNat : Int)] w fun e w' => e = .returned (.string ⟨(byTxt c).toArray⟩) ∧ Below w.heap.size w w' := by
 have hc0 : (0 : Int) ≤ c.toNat := by omega
 have hc1 : (c.toNat : Int) ≤ 255 := by have := c.toNat_lt; omega
 have HI := Lib.hid (fun W => specIdx_any ⟨signs.toArray⟩ ⟨#[c]⟩ W (by decide) (by show 1 ≤ 1048576; omega))
 have HY := Lib.hid (fun h => byTxt_yes (c := c) h)
 have HN := Lib.hid (fun h => byTxt_no (c := c) h)
 have HS := Lib.hid (idx_sign c)
 have hb1 := back_lit (P := Tryd.prog) Tryd.underlying22 Tryd.underlying5 Tryd.underlying9 [c] [.int .u8 (c.toNat : Int)] rfl 1 1 rfl
 have hb3 := hb1 (W := w.alloc (.cells #[.int .u8 (c.toNat : Int)] 5))
 simp only [World.size_alloc] at hb3
 generalize idxOf ⟨signs.toArray⟩ ⟨#[c]⟩ = z at *
 have hsg : (⟨signs.toArray⟩ : ByteArray) = ⟨#[46, 94, 36, 40, 41, 91, 93, 42, 43, 63, 123, 125, 124, 92, 47]⟩ := rfl
 rw [hsg] at HI
 have HB2 := Lib.hid (show ∀ o o', Below w.heap.size w ((w.alloc o).alloc o') from fun o o' => ((Below.refl w.heap.size w).alloc (Nat.le_refl _) _).alloc (by simp) _)
 have hjoin : (⟨#[92]⟩ : ByteArray) ++ ⟨#[c]⟩ = ⟨#[92, c]⟩ := rfl
 by_cases c1 : 0 < z
 ·have E := Lib.hid (HY.out (needs_sign (HS.out.1 c1)))
  go_enter Tryd.func62, Tryd.ntmps62
  go_wp2_with fail
  refine (HI.out _).mono ?_
  rintro e w1 ⟨rfl, rfl⟩
  go_wp2_with fail
  go_ret
  exact ⟨by rw [E.out]; rfl, HB2.out _ _⟩
 ·have hs0 : signs.contains c = false := by
   cases h : signs.contains c
   ·rfl
   ·exact absurd (HS.out.2 h) c1
  by_cases c2 : inB (c.toNat : Int) 32 126 = true
  ·have E := Lib.hid (HN.out (needs_none hs0 (by simp [inB] at c2; omega) (by simp [inB] at c2; omega)))
   go_enter Tryd.func62, Tryd.ntmps62
   go_wp2_with fail
   refine (HI.out _).mono ?_
   rintro e w1 ⟨rfl, rfl⟩
   go_wp2_with fail
   refine (in_any _ _ _ _).mono ?_
   rintro e w1 ⟨rfl, rfl⟩
   go_wp2_with fail
   go_ret
   exact ⟨by rw [E.out]; rfl, HB2.out _ _⟩
  ·have c2' : inB (c.toNat : Int) 32 126 = false := by simpa using c2
   have E := Lib.hid (HY.out (by
    by_cases c3 : (c.toNat : Int) < 32
    ·exact needs_low c3
    ·exact needs_high (by simp [inB] at c2'; omega)))
   go_enter Tryd.func62, Tryd.ntmps62
   go_wp2_with fail
   refine (HI.out _).mono ?_
   rintro e w1 ⟨rfl, rfl⟩
   go_wp2_with fail
   refine (in_any _ _ _ _).mono ?_
   rintro e w1 ⟨rfl, rfl⟩
   go_wp2_with fail
   go_ret
   exact ⟨by rw [E.out]; rfl, HB2.out _ _⟩
end Go.Proofs.YtcpaneaiobnhdaaDoor.kit
