/-
  Contracts of spec.NumText and impl.NumText over this seat's translation. Conditions: the table of the powers of ten is as listed.
-/
import Derived.Test.YtcimhpdpfckgiaaDoorNt0
import Derived.Test.YtcimhpdpfckgiaaDoorNb
import Derived.Test.YtcimhpdpfckgiaaDoorDec
import Derived.Test.YtcimhpdpfckgiaaDoorTab0
import Derived.Outline
namespace Go.Proofs.YtcimhpdpfckgiaaDoor.kit
open Go.ChangeShapes Go.WideShapes Go.ChangeAt Go.RowKit
set_option linter.unusedVariables false

set_option maxHeartbeats 400000 in
theorem trimByte (t : ByteArray) (w : World) (hs : t.size ≤ 1048576) :
    Calls Tryd.prog 24 #[.string t, .int .u8 48] w fun e w' => e = .returned (.string (cutZ t)) ∧ w = w' := by
  go_enter Tryd.func24, Tryd.ntmps24
  go_wp2
  go_loop [0] (fun o => ∃ u : ByteArray, o = .string u ∧ u.size ≤ 1048576 ∧ cutZ t = cutZ u) (fun o => match o with | .string u => u.size | _ => 0)
  case atStart => exact ⟨t, rfl, hs, rfl⟩
  case round =>
    obtain ⟨u, rfl, hu, hc⟩ := hrel
    have HC := Lib.hid hc
    clear hc
    by_cases h0 : u.size = 0
    · have d : decide (0 < u.size) = false := by simpa using h0
      have HZ := Lib.hid (cutZ_none h0)
      clear h0
      go_wp2
      go_ret
      exact ⟨ret_str (by rw [HC.out, HZ.out]), rfl⟩
    · have h1 : 0 < u.size := by omega
      by_cases he : u[u.size - 1] = 48
      · have HI := Lib.hid (cutZ_in h1 he)
        have e' : ((u[u.size - 1].toNat : Int) == 48) = true := by rw [he]; rfl
        clear he
        go_wp2
        go_round
        case rel => exact ⟨u.extract 0 (u.size - 1), rfl, by rw [ByteArray.size_extract]; omega, by rw [HC.out, HI.out]⟩
        case measure => simp [ByteArray.size_extract]; omega
      · have HI := Lib.hid (cutZ_out h1 he)
        have e' : ((u[u.size - 1].toNat : Int) == 48) = false := by
          rw [beq_eq_false_iff_ne]; intro h; apply he; apply UInt8.toNat_inj.1; simp at h ⊢; omega
        clear he
        go_wp2
        go_ret
        exact ⟨ret_str (by rw [HC.out, HI.out]), rfl⟩
set_option maxRecDepth 100000 in
theorem trimRight0 (t : ByteArray) (w : World) (hs : t.size ≤ 1048576) :
    Calls Tryd.prog 22 #[.string t, .string ⟨#[48]⟩] w fun e w' => e = .returned (.string (cutZ t)) ∧ w = w' := by
  by_cases h0 : t.size = 0
  · have HZ := Lib.hid (cutZ_none h0)
    have h1 := empty_of_size h0
    clear h0
    go_enter Tryd.func22, Tryd.ntmps22
    go_wp2
    go_ret
    exact ⟨ret_str HZ.out.symm, rfl⟩
  · have h1 := not_empty_of_size h0
    have C := Lib.hid (fun W => trimByte t W hs)
    clear h0 hs
    go_enter Tryd.func22, Tryd.ntmps22
    go_wp2_with (go_at_call 24; refine (C.out _).mono ?_; rintro e w' ⟨rfl, rfl⟩)
    go_ret
    exact ⟨rfl, rfl⟩
/-- What stands behind the whole part: nothing, or a point and the digits. -/
def ptT (m : Nat) : ByteArray := if m = 0 then ⟨#[]⟩ else ⟨#[46]⟩ ++ cutZ (sixT m)
theorem ptT_le (m : Nat) (hm : m < 1000000) : (ptT m).size ≤ 7 := by
  unfold ptT
  split
  · show 0 ≤ 7; omega
  · have := cutZ_le 6 _ (sixT_size m hm)
    rw [ByteArray.size_append]
    show 1 + _ ≤ 7
    omega
theorem implPt_any (m : Nat) (w : World) (hm : m < 1000000) (ht : Tab w) :
    Calls Tryd.prog 19 #[.int .i64 (m : Int)] w fun e w' => e = .returned (.string (ptT m)) ∧ Below w.heap.size w w' := by
  by_cases h0 : m = 0
  · subst h0
    go_enter Tryd.func19, Tryd.ntmps19
    go_wp2
    go_ret
    exact ⟨ret_str (by simp [ptT]), Below.refl _ _⟩
  · have h1 : ((m : Int) == 0) = false := by simpa using h0
    have E := Lib.hid (show ptT m = ⟨#[46]⟩ ++ cutZ (sixT m) by simp [ptT, h0])
    have C := Lib.hid (show ∀ W, Tab W → Calls Tryd.prog 15 #[.int .i64 (1000000 + (m : Int))] W fun e w' => e = .returned (.string (milT m)) ∧ Below W.heap.size W w' from fun W hW => implDec_any _ W (by omega) (by omega) hW)
    have D := Lib.hid (show ∀ W, Calls Tryd.prog 22 #[.string ((milT m).extract 1 (milT m).size), .string ⟨#[48]⟩] W fun e w' => e = .returned (.string (cutZ (sixT m))) ∧ W = w' from fun W => trimRight0 (sixT m) W (by rw [sixT_size m hm]; omega))
    have hz : 7 ≤ (milT m).size := by rw [milT_size m hm]; omega
    have hz3 : (cutZ (sixT m)).size ≤ 6 := cutZ_le 6 _ (sixT_size m hm)
    have hz2 : (milT m).size ≤ 7 := by rw [milT_size m hm]; omega
    have HT := Lib.hid ht
    clear ht h0
    go_enter Tryd.func19, Tryd.ntmps19
    go_wp2_with fail
    refine (C.out _ HT.out).mono ?_
    rintro e w1 ⟨rfl, hb1⟩
    go_wp2_with fail
    refine (D.out _).mono ?_
    rintro e w2 ⟨rfl, rfl⟩
    go_wp2
    go_ret
    exact ⟨ret_str E.out.symm, hb1⟩
def ntP (N : Nat) : ByteArray := ⟨(Lib.itoa ((N : Int) / 1000000)).toArray⟩ ++ ptT (N % 1000000)
theorem implNt_pos (N : Nat) (w : World) (hN : N ≤ 1000000000000) (ht : Tab w) :
    Calls Tryd.prog 12 #[.int .i64 (N : Int)] w fun e w' => e = .returned (.string (ntP N)) ∧ Below w.heap.size w w' := by
  have hb : numB (N : Int) = true := by simp [numB, inB]; omega
  have C0 := fun W => isNum_any (N : Int) W
  rw [hb] at C0
  have C0 := Lib.hid C0
  have C := Lib.hid (show ∀ W, Tab W → Calls Tryd.prog 15 #[.int .i64 ((N : Int) / 1000000)] W fun e w' => e = .returned (.string ⟨(Lib.itoa ((N : Int) / 1000000)).toArray⟩) ∧ Below W.heap.size W w' from fun W hW => implDec_any _ W (by omega) (by omega) hW)
  have D := Lib.hid (show ∀ W, Tab W → Calls Tryd.prog 19 #[.int .i64 ((N : Int) % 1000000)] W fun e w' => e = .returned (.string (ptT (N % 1000000))) ∧ Below W.heap.size W w' from fun W hW => by
    have := implPt_any (N % 1000000) W (Nat.mod_lt _ (by omega)) hW
    rwa [show ((N % 1000000 : Nat) : Int) = (N : Int) % 1000000 by omega] at this)
  have HT := Lib.hid ht
  have n0 : ¬ (N : Int) < 0 := by omega
  have l0 : (Lib.itoa ((N : Int) / 1000000)).length ≤ 21 := Lib.itoa_length_le _ (by omega) (by omega)
  have l1 : (ptT (N % 1000000)).size ≤ 7 := ptT_le _ (Nat.mod_lt _ (by omega))
  clear ht hb
  go_enter Tryd.func12, Tryd.ntmps12
  go_wp2_with fail
  refine (C0.out _).mono ?_
  rintro e w1 ⟨rfl, rfl⟩
  go_wp2_with fail
  refine (C.out _ HT.out).mono ?_
  rintro e w1 ⟨rfl, hb1⟩
  go_wp2_with fail
  refine (D.out _ (HT.out.on hb1)).mono ?_
  rintro e w2 ⟨rfl, hb2⟩
  go_wp2
  go_ret
  exact ⟨rfl, hb1.trans (hb2.mono hb1.size)⟩
theorem implNt_neg (N : Nat) (w : World) (hN : N ≤ 1000000000000) (h0 : 0 < N) (ht : Tab w) :
    Calls Tryd.prog 12 #[.int .i64 (-(N : Int))] w fun e w' => e = .returned (.string (⟨#[45]⟩ ++ ntP N)) ∧ Below w.heap.size w w' := by
  have hb : numB (-(N : Int)) = true := by simp [numB, inB]; omega
  have C0 := fun W => isNum_any (-(N : Int)) W
  rw [hb] at C0
  have C0 := Lib.hid C0
  have D := Lib.hid (show ∀ W, Tab W → Calls Tryd.prog 12 #[.int .i64 (N : Int)] W fun e w' => e = .returned (.string (ntP N)) ∧ Below W.heap.size W w' from fun W hW => implNt_pos N W hN hW)
  have HT := Lib.hid ht
  have n0 : -(N : Int) < 0 := by omega
  have l1 : (ntP N).size ≤ 28 := by
    have l0 : (Lib.itoa ((N : Int) / 1000000)).length ≤ 21 := Lib.itoa_length_le _ (by omega) (by omega)
    have l1 : (ptT (N % 1000000)).size ≤ 7 := ptT_le _ (Nat.mod_lt _ (by omega))
    unfold ntP
    rw [ByteArray.size_append]
    show (Lib.itoa ((N : Int) / 1000000)).toArray.size + _ ≤ 28
    rw [List.size_toArray]; omega
  clear ht hb h0
  go_enter Tryd.func12, Tryd.ntmps12
  go_wp2_with fail
  refine (C0.out _).mono ?_
  rintro e w1 ⟨rfl, rfl⟩
  go_wp2_with fail
  refine (D.out _ HT.out).mono ?_
  rintro e w1 ⟨rfl, hb1⟩
  go_wp2
  go_ret
  exact ⟨rfl, hb1⟩
theorem implNt_out (a : Int) (w : World) (hb : numB a = false) :
    Calls Tryd.prog 12 #[.int .i64 a] w fun e w' => e = .returned (.string ⟨#[]⟩) ∧ Below w.heap.size w w' := by
  have C0 := fun W => isNum_any a W
  rw [hb] at C0
  have C0 := Lib.hid C0
  clear hb
  go_enter Tryd.func12, Tryd.ntmps12
  go_wp2_with fail
  refine (C0.out _).mono ?_
  rintro e w1 ⟨rfl, rfl⟩
  go_wp2
  go_ret
  exact ⟨rfl, Below.refl _ _⟩
/-- The text of a number; the empty one of what is none. -/
def ntA (a : Int) : ByteArray := if numB a then (if a < 0 then ⟨#[45]⟩ ++ ntP a.natAbs else ntP a.toNat) else ⟨#[]⟩
theorem implNt_any (a : Int) (w : World) (ht : Tab w) :
    Calls Tryd.prog 12 #[.int .i64 a] w fun e w' => e = .returned (.string (ntA a)) ∧ Below w.heap.size w w' := by
  cases hb : numB a
  · rw [show ntA a = ⟨#[]⟩ by simp [ntA, hb]]
    exact implNt_out a w hb
  · have h2 : -1000000000000 ≤ a ∧ a ≤ 1000000000000 := by simpa [numB, inB] using hb
    by_cases hn : a < 0
    · obtain ⟨N, rfl⟩ : ∃ N : Nat, a = -(N : Int) := ⟨a.natAbs, by omega⟩
      rw [show ntA (-(N : Int)) = ⟨#[45]⟩ ++ ntP N by simp only [ntA, hb, hn, if_true]; rw [show (-(N : Int)).natAbs = N by omega]]
      exact implNt_neg N w (by omega) (by omega) ht
    · obtain ⟨N, rfl⟩ : ∃ N : Nat, a = (N : Int) := ⟨a.toNat, by omega⟩
      rw [show ntA (N : Int) = ntP N by simp only [ntA, hb, hn, if_true, if_false]; rw [Int.toNat_natCast]]
      exact implNt_pos N w (by omega) ht
end Go.Proofs.YtcimhpdpfckgiaaDoor.kit
