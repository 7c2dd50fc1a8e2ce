/-
  Contracts of spec.NumText and impl.NumText over this seat's translation. Conditions: the table of the powers of ten is as listed.
-/
import Derived.Test.YthffjcclcladoaaGreatDoorMNt0
import Derived.Test.YthffjcclcladoaaGreatDoorMInfo
import Derived.Test.YthffjcclcladoaaGreatDoorMDec
import Derived.Test.YthffjcclcladoaaGreatDoorMTab0
import Derived.Outline
namespace Go.Proofs.YthffjcclcladoaaGreatDoor.kit
open Go.ChangeShapes Go.WideShapes Go.ChangeAt Go.RowKit
set_option linter.unusedVariables false

set_option maxHeartbeats 400000 in
theorem trimByte (t : ByteArray) (w : World) (hs : t.size ≤ 1048576) :
    Calls Tryz.prog 193 #[.string t, .int .u8 48] w fun e w' => e = .returned (.string (cutZ t)) ∧ w = w' := by
  go_enter Tryz.func193, Tryz.ntmps193
  go_wp2
  go_loop [0] (fun o => ∃ u : ByteArray, o = .string u ∧ u.size ≤ 1048576 ∧ cutZ t = cutZ u) (fun o => match o with | .string u => u.size | _ => 0)
  case atStart => exact ⟨t, rfl, hs, rfl⟩
  case round =>
    obtain ⟨u, rfl, hu, hc⟩ := hrel
    have HC := Lib.hid hc
    clear hc
    by_cases h0 : u.size = 0
    · have d : decide (0 < u.size) = false := by simpa using h0
      have HZ := Lib.hid (cutZ_none h0)
      clear h0
      go_wp2
      go_ret
      exact ⟨ret_str (by rw [HC.out, HZ.out]), rfl⟩
    · have h1 : 0 < u.size := by omega
      by_cases he : u[u.size - 1] = 48
      · have HI := Lib.hid (cutZ_in h1 he)
        have e' : ((u[u.size - 1].toNat : Int) == 48) = true := by rw [he]; rfl
        clear he
        go_wp2
        go_round
        case rel => exact ⟨u.extract 0 (u.size - 1), rfl, by rw [ByteArray.size_extract]; omega, by rw [HC.out, HI.out]⟩
        case measure => simp [ByteArray.size_extract]; omega
      · have HI := Lib.hid (cutZ_out h1 he)
        have e' : ((u[u.size - 1].toNat : Int) == 48) = false := by
          rw [beq_eq_false_iff_ne]; intro h; apply he; apply UInt8.toNat_inj.1; simp at h ⊢; omega
        clear he
        go_wp2
        go_ret
        exact ⟨ret_str (by rw [HC.out, HI.out]), rfl⟩
set_option maxRecDepth 100000 in
theorem trimRight0 (t : ByteArray) (w : World) (hs : t.size ≤ 1048576) :
    Calls Tryz.prog 191 #[.string t, .string ⟨#[48]⟩] w fun e w' => e = .returned (.string (cutZ t)) ∧ w = w' := by
  by_cases h0 : t.size = 0
  · have HZ := Lib.hid (cutZ_none h0)
    have h1 := empty_of_size h0
    clear h0
    go_enter Tryz.func191, Tryz.ntmps191
    go_wp2
    go_ret
    exact ⟨ret_str HZ.out.symm, rfl⟩
  · have h1 := not_empty_of_size h0
    have C := Lib.hid (fun W => trimByte t W hs)
    clear h0 hs
    go_enter Tryz.func191, Tryz.ntmps191
    go_wp2_with (go_at_call 193; refine (C.out _).mono ?_; rintro e w' ⟨rfl, rfl⟩)
    go_ret
    exact ⟨rfl, rfl⟩
/-- What stands behind the whole part: nothing, or a point and the digits. -/
def ptT (m : Nat) : ByteArray := if m = 0 then ⟨#[]⟩ else ⟨#[46]⟩ ++ cutZ (sixT m)
theorem ptT_le (m : Nat) (hm : m < 1000000) : (ptT m).size ≤ 7 := by
  unfold ptT
  split
  · show 0 ≤ 7; omega
  · have := cutZ_le 6 _ (sixT_size m hm)
    rw [ByteArray.size_append]
    show 1 + _ ≤ 7
    omega
theorem implPt_any (m : Nat) (w : World) (hm : m < 1000000) (ht : Tab w) :
    Calls Tryz.prog 185 #[.int .i64 (m : Int)] w fun e w' => e = .returned (.string (ptT m)) ∧ Below w.heap.size w w' := by
  by_cases h0 : m = 0
  · subst h0
    go_enter Tryz.func185, Tryz.ntmps185
    go_wp2
    go_ret
    exact ⟨ret_str (by simp [ptT]), Below.refl _ _⟩
  · have h1 : ((m : Int) == 0) = false := by simpa using h0
    have E := Lib.hid (show ptT m = ⟨#[46]⟩ ++ cutZ (sixT m) by simp [ptT, h0])
    have C := Lib.hid (show ∀ W, Tab W → Calls Tryz.prog 55 #[.int .i64 (1000000 + (m : Int))] W fun e w' => e = .returned (.string (milT m)) ∧ Below W.heap.size W w' from fun W hW => implDec_any _ W (by omega) (by omega) hW)
    have D := Lib.hid (show ∀ W, Calls Tryz.prog 191 #[.string ((milT m).extract 1 (milT m).size), .string ⟨#[48]⟩] W fun e w' => e = .returned (.string (cutZ (sixT m))) ∧ W = w' from fun W => trimRight0 (sixT m) W (by rw [sixT_size m hm]; omega))
    have hz : 7 ≤ (milT m).size := by rw [milT_size m hm]; omega
    have hz3 : (cutZ (sixT m)).size ≤ 6 := cutZ_le 6 _ (sixT_size m hm)
    have hz2 : (milT m).size ≤ 7 := by rw [milT_size m hm]; omega
    have HT := Lib.hid ht
    clear ht h0
    go_enter Tryz.func185, Tryz.ntmps185
    go_wp2_with fail
    refine (C.out _ HT.out).mono ?_
    rintro e w1 ⟨rfl, hb1⟩
    go_wp2_with fail
    refine (D.out _).mono ?_
    rintro e w2 ⟨rfl, rfl⟩
    go_wp2
    go_ret
    exact ⟨ret_str E.out.symm, hb1⟩
def ntP (N : Nat) : ByteArray := ⟨(Lib.itoa ((N : Int) / 1000000)).toArray⟩ ++ ptT (N % 1000000)
theorem implNt_pos (N : Nat) (w : World) (hN : N ≤ 1000000000000) (ht : Tab w) :
    Calls Tryz.prog 161 #[.int .i64 (N : Int)] w fun e w' => e = .returned (.string (ntP N)) ∧ Below w.heap.size w w' := by
  have hb : numB (N : Int) = true := by simp [numB, inB]; omega
  have C0 := fun W => isNum_any (N : Int) W
  rw [hb] at C0
  have C0 := Lib.hid C0
  have C := Lib.hid (show ∀ W, Tab W → Calls Tryz.prog 55 #[.int .i64 ((N : Int) / 1000000)] W fun e w' => e = .returned (.string ⟨(Lib.itoa ((N : Int) / 1000000)).toArray⟩) ∧ Below W.heap.size W w' from fun W hW => implDec_any _ W (by omega) (by omega) hW)
  have D := Lib.hid (show ∀ W, Tab W → Calls Tryz.prog 185 #[.int .i64 ((N : Int) % 1000000)] W fun e w' => e = .returned (.string (ptT (N % 1000000))) ∧ Below W.heap.size W w' from fun W hW => by
    have := implPt_any (N % 1000000) W (Nat.mod_lt _ (by omega)) hW
    rwa [show ((N % 1000000 : Nat) : Int) = (N : Int) % 1000000 by omega] at this)
  have HT := Lib.hid ht
  have n0 : ¬ (N : Int) < 0 := by omega
  have l0 : (Lib.itoa ((N : Int) / 1000000)).length ≤ 21 := Lib.itoa_length_le _ (by omega) (by omega)
  have l1 : (ptT (N % 1000000)).size ≤ 7 := ptT_le _ (Nat.mod_lt _ (by omega))
  clear ht hb
  go_enter Tryz.func161, Tryz.ntmps161
  go_wp2_with fail
  refine (C0.out _).mono ?_
  rintro e w1 ⟨rfl, rfl⟩
  go_wp2_with fail
  refine (C.out _ HT.out).mono ?_
  rintro e w1 ⟨rfl, hb1⟩
  go_wp2_with fail
  refine (D.out _ (HT.out.on hb1)).mono ?_
  rintro e w2 ⟨rfl, hb2⟩
  go_wp2
  go_ret
  exact ⟨rfl, hb1.trans (hb2.mono hb1.size)⟩
theorem implNt_neg (N : Nat) (w : World) (hN : N ≤ 1000000000000) (h0 : 0 < N) (ht : Tab w) :
    Calls Tryz.prog 161 #[.int .i64 (-(N : Int))] w fun e w' => e = .returned (.string (⟨#[45]⟩ ++ ntP N)) ∧ Below w.heap.size w w' := by
  have hb : numB (-(N : Int)) = true := by simp [numB, inB]; omega
  have C0 := fun W => isNum_any (-(N : Int)) W
  rw [hb] at C0
  have C0 := Lib.hid C0
  have D := Lib.hid (show ∀ W, Tab W → Calls Tryz.prog 161 #[.int .i64 (N : Int)] W fun e w' => e = .returned (.string (ntP N)) ∧ Below W.heap.size W w' from fun W hW => implNt_pos N W hN hW)
  have HT := Lib.hid ht
  have n0 : -(N : Int) < 0 := by omega
  have l1 : (ntP N).size ≤ 28 := by
    have l0 : (Lib.itoa ((N : Int) / 1000000)).length ≤ 21 := Lib.itoa_length_le _ (by omega) (by omega)
    have l1 : (ptT (N % 1000000)).size ≤ 7 := ptT_le _ (Nat.mod_lt _ (by omega))
    unfold ntP
    rw [ByteArray.size_append]
    show (Lib.itoa ((N : Int) / 1000000)).toArray.size + _ ≤ 28
    rw [List.size_toArray]; omega
  clear ht hb h0
  go_enter Tryz.func161, Tryz.ntmps161
  go_wp2_with fail
  refine (C0.out _).mono ?_
  rintro e w1 ⟨rfl, rfl⟩
  go_wp2_with fail
  refine (D.out _ HT.out).mono ?_
  rintro e w1 ⟨rfl, hb1⟩
  go_wp2
  go_ret
  exact ⟨rfl, hb1⟩
theorem implNt_out (a : Int) (w : World) (hb : numB a = false) :
    Calls Tryz.prog 161 #[.int .i64 a] w fun e w' => e = .returned (.string ⟨#[]⟩) ∧ Below w.heap.size w w' := by
  have C0 := fun W => isNum_any a W
  rw [hb] at C0
  have C0 := Lib.hid C0
  clear hb
  go_enter Tryz.func161, Tryz.ntmps161
  go_wp2_with fail
  refine (C0.out _).mono ?_
  rintro e w1 ⟨rfl, rfl⟩
  go_wp2
  go_ret
  exact ⟨rfl, Below.refl _ _⟩
/-- The text of a number; the empty one of what is none. -/
def ntA (a : Int) : ByteArray := if numB a then (if a < 0 then ⟨#[45]⟩ ++ ntP a.natAbs else ntP a.toNat) else ⟨#[]⟩
theorem implNt_any (a : Int) (w : World) (ht : Tab w) :
    Calls Tryz.prog 161 #[.int .i64 a] w fun e w' => e = .returned (.string (ntA a)) ∧ Below w.heap.size w w' := by
  cases hb : numB a
  · rw [show ntA a = ⟨#[]⟩ by simp [ntA, hb]]
    exact implNt_out a w hb
  · have h2 : -1000000000000 ≤ a ∧ a ≤ 1000000000000 := by simpa [numB, inB] using hb
    by_cases hn : a < 0
    · obtain ⟨N, rfl⟩ : ∃ N : Nat, a = -(N : Int) := ⟨a.natAbs, by omega⟩
      rw [show ntA (-(N : Int)) = ⟨#[45]⟩ ++ ntP N by simp only [ntA, hb, hn, if_true]; rw [show (-(N : Int)).natAbs = N by omega]]
      exact implNt_neg N w (by omega) (by omega) ht
    · obtain ⟨N, rfl⟩ : ∃ N : Nat, a = (N : Int) := ⟨a.toNat, by omega⟩
      rw [show ntA (N : Int) = ntP N by simp only [ntA, hb, hn, if_true, if_false]; rw [Int.toNat_natCast]]
      exact implNt_pos N w (by omega) ht
end Go.Proofs.YthffjcclcladoaaGreatDoor.kit
/-
  Contract of spec.NumText over this seat's translation. Conditions: none.
-/
namespace Go.Proofs.YthffjcclcladoaaGreatDoor.kit
open Go.ChangeShapes Go.WideShapes Go.ChangeAt Go.RowKit
set_option linter.unusedVariables false

theorem specNt_out (a : Int) (w : World) (hb : numB a = false) :
    Calls Tryz.prog 129 #[.int .i64 a] w fun e w' => e = .returned (.string ⟨#[]⟩) ∧ w = w' := by
  have C0 := fun W => is_any a W
  rw [hb] at C0
  have C0 := Lib.hid C0
  clear hb
  go_enter Tryz.func129, Tryz.ntmps129
  go_wp2_with fail
  refine (C0.out _).mono ?_
  rintro e w1 ⟨rfl, rfl⟩
  go_wp2
  go_ret
  exact ⟨rfl, rfl⟩
theorem nt_end0 (m : Nat) (h : m < 1000000) (u D : ByteArray) (hc : cutZ (sixT m) = cutZ u) (hu : u.size = 0) : D = D ++ ptT m := by
  by_cases h0 : m = 0
  · subst h0; show D = D ++ ByteArray.empty; simp
  · exact absurd (by rw [hc, cutZ_none hu, hu]) (sixT_cut m h (by omega))
theorem nt_end1 (m : Nat) (h : m < 1000000) (u D : ByteArray) (hc : cutZ (sixT m) = cutZ u) (hu : cutZ u = u) (h1 : 0 < u.size) : D ++ ⟨#[46]⟩ ++ u = D ++ ptT m := by
  by_cases h0 : m = 0
  · subst h0
    rw [sixT_zero, hu] at hc
    rw [← hc] at h1
    exact absurd h1 (by decide)
  · simp only [ptT, if_neg h0]
    rw [hc, hu, ByteArray.append_assoc]
set_option maxHeartbeats 1000000 in
theorem specNt_pos (N : Nat) (w : World) (hN : N ≤ 1000000000000) :
    Calls Tryz.prog 129 #[.int .i64 ((N : Int))] w fun e w' => e = .returned (.string (ntP N)) ∧ w = w' := by
  have hb : numB ((N : Int)) = true := by simp [numB, inB]; omega
  have C0 := fun W => is_any ((N : Int)) W
  rw [hb] at C0
  have C0 := Lib.hid C0
  obtain ⟨m, hm⟩ : ∃ m, m = N % 1000000 := ⟨_, rfl⟩
  have hm1 : m < 1000000 := by omega
  have C := Lib.hid (show ∀ W, Calls Tryz.prog 60 #[.int .i64 ((N : Int) / 1000000)] W fun e w' => e = .returned (.string ⟨(Lib.itoa ((N : Int) / 1000000)).toArray⟩) ∧ W = w' from fun W => specDec_any _ W (by omega) (by omega))
  have D := Lib.hid (show ∀ W, Calls Tryz.prog 60 #[.int .i64 (1000000 + (N : Int) % 1000000)] W fun e w' => e = .returned (.string (milT m)) ∧ W = w' from fun W => by
    have := specDec_any (1000000 + (m : Int)) W (by omega) (by omega)
    rwa [show (m : Int) = (N : Int) % 1000000 by omega, show (Lib.itoa (1000000 + (N : Int) % 1000000)) = Lib.itoa (1000000 + (m : Int)) by rw [show (m : Int) = (N : Int) % 1000000 by omega]] at this)
  have E := Lib.hid (show ntP N = ⟨(Lib.itoa ((N : Int) / 1000000)).toArray⟩ ++ ptT m by rw [hm]; rfl)
  have n0 : ¬ (N : Int) < 0 := by omega
  have l0 : (Lib.itoa ((N : Int) / 1000000)).length ≤ 21 := Lib.itoa_length_le _ (by omega) (by omega)
  have hz : 7 ≤ (milT m).size := by rw [milT_size m hm1]; omega
  have hz2 : (milT m).size ≤ 7 := by rw [milT_size m hm1]; omega
  have hs6 : (sixT m).size ≤ 6 := by rw [sixT_size m hm1]; omega
  have HX := Lib.hid (show (milT m).extract 1 (milT m).size = sixT m from rfl)
  clear hb hm
  go_enter Tryz.func129, Tryz.ntmps129
  go_wp2_with fail
  refine (C0.out _).mono ?_
  rintro e w1 ⟨rfl, rfl⟩
  go_wp2_with fail
  refine (C.out _).mono ?_
  rintro e w1 ⟨rfl, rfl⟩
  go_wp2_with fail
  refine (D.out _).mono ?_
  rintro e w1 ⟨rfl, rfl⟩
  go_wp2
  go_loop [5] (fun o => ∃ u : ByteArray, o = .string u ∧ u.size ≤ 6 ∧ cutZ (sixT m) = cutZ u) (fun o => match o with | .string u => u.size | _ => 0)
  case atStart => exact ⟨sixT m, rfl, hs6, rfl⟩
  case round =>
    obtain ⟨u, rfl, hu, hc⟩ := hrel
    have HC := Lib.hid hc
    clear hc
    by_cases h0 : u.size = 0
    · have d : decide (0 < u.size) = false := by simpa using h0
      have em := empty_of_size h0
      have HZ := Lib.hid h0
      clear h0
      go_wp2
      go_ret
      exact ⟨ret_str (by rw [E.out]; exact nt_end0 m hm1 u _ HC.out HZ.out), rfl⟩
    · have h1 : 0 < u.size := by omega
      have em := not_empty_of_size h0
      by_cases he : u[u.size - 1] = 48
      · have HI := Lib.hid (cutZ_in h1 he)
        have e' : ((u[u.size - 1].toNat : Int) == 48) = true := by rw [he]; rfl
        clear he
        go_wp2
        go_round
        case rel => exact ⟨u.extract 0 (u.size - 1), rfl, by rw [ByteArray.size_extract]; omega, by rw [HC.out, HI.out]⟩
        case measure => simp [ByteArray.size_extract]; omega
      · have HI := Lib.hid (cutZ_out h1 he)
        have e' : ((u[u.size - 1].toNat : Int) == 48) = false := by
          rw [beq_eq_false_iff_ne]; intro h; apply he; apply UInt8.toNat_inj.1; simp at h ⊢; omega
        clear he
        go_wp2
        go_ret
        exact ⟨ret_str (by rw [E.out]; exact nt_end1 m hm1 u _ HC.out HI.out h1), rfl⟩
set_option maxHeartbeats 1000000 in
theorem specNt_neg (N : Nat) (w : World) (hN : N ≤ 1000000000000) (hp : 0 < N) :
    Calls Tryz.prog 129 #[.int .i64 (-(N : Int))] w fun e w' => e = .returned (.string (⟨#[45]⟩ ++ ntP N)) ∧ w = w' := by
  have hb : numB (-(N : Int)) = true := by simp [numB, inB]; omega
  have C0 := fun W => is_any (-(N : Int)) W
  rw [hb] at C0
  have C0 := Lib.hid C0
  obtain ⟨m, hm⟩ : ∃ m, m = N % 1000000 := ⟨_, rfl⟩
  have hm1 : m < 1000000 := by omega
  have C := Lib.hid (show ∀ W, Calls Tryz.prog 60 #[.int .i64 ((N : Int) / 1000000)] W fun e w' => e = .returned (.string ⟨(Lib.itoa ((N : Int) / 1000000)).toArray⟩) ∧ W = w' from fun W => specDec_any _ W (by omega) (by omega))
  have D := Lib.hid (show ∀ W, Calls Tryz.prog 60 #[.int .i64 (1000000 + (N : Int) % 1000000)] W fun e w' => e = .returned (.string (milT m)) ∧ W = w' from fun W => by
    have := specDec_any (1000000 + (m : Int)) W (by omega) (by omega)
    rwa [show (m : Int) = (N : Int) % 1000000 by omega, show (Lib.itoa (1000000 + (N : Int) % 1000000)) = Lib.itoa (1000000 + (m : Int)) by rw [show (m : Int) = (N : Int) % 1000000 by omega]] at this)
  have E := Lib.hid (show ntP N = ⟨(Lib.itoa ((N : Int) / 1000000)).toArray⟩ ++ ptT m by rw [hm]; rfl)
  have n0 : -(N : Int) < 0 := by omega
  have l0 : (Lib.itoa ((N : Int) / 1000000)).length ≤ 21 := Lib.itoa_length_le _ (by omega) (by omega)
  have hz : 7 ≤ (milT m).size := by rw [milT_size m hm1]; omega
  have hz2 : (milT m).size ≤ 7 := by rw [milT_size m hm1]; omega
  have hs6 : (sixT m).size ≤ 6 := by rw [sixT_size m hm1]; omega
  have HX := Lib.hid (show (milT m).extract 1 (milT m).size = sixT m from rfl)
  clear hb hm
  go_enter Tryz.func129, Tryz.ntmps129
  go_wp2_with fail
  refine (C0.out _).mono ?_
  rintro e w1 ⟨rfl, rfl⟩
  go_wp2_with fail
  refine (C.out _).mono ?_
  rintro e w1 ⟨rfl, rfl⟩
  go_wp2_with fail
  refine (D.out _).mono ?_
  rintro e w1 ⟨rfl, rfl⟩
  go_wp2
  go_loop [5] (fun o => ∃ u : ByteArray, o = .string u ∧ u.size ≤ 6 ∧ cutZ (sixT m) = cutZ u) (fun o => match o with | .string u => u.size | _ => 0)
  case atStart => exact ⟨sixT m, rfl, hs6, rfl⟩
  case round =>
    obtain ⟨u, rfl, hu, hc⟩ := hrel
    have HC := Lib.hid hc
    clear hc
    by_cases h0 : u.size = 0
    · have d : decide (0 < u.size) = false := by simpa using h0
      have em := empty_of_size h0
      have HZ := Lib.hid h0
      clear h0
      go_wp2
      go_ret
      exact ⟨ret_str (by rw [E.out, ← ByteArray.append_assoc]; exact nt_end0 m hm1 u _ HC.out HZ.out), rfl⟩
    · have h1 : 0 < u.size := by omega
      have em := not_empty_of_size h0
      by_cases he : u[u.size - 1] = 48
      · have HI := Lib.hid (cutZ_in h1 he)
        have e' : ((u[u.size - 1].toNat : Int) == 48) = true := by rw [he]; rfl
        clear he
        go_wp2
        go_round
        case rel => exact ⟨u.extract 0 (u.size - 1), rfl, by rw [ByteArray.size_extract]; omega, by rw [HC.out, HI.out]⟩
        case measure => simp [ByteArray.size_extract]; omega
      · have HI := Lib.hid (cutZ_out h1 he)
        have e' : ((u[u.size - 1].toNat : Int) == 48) = false := by
          rw [beq_eq_false_iff_ne]; intro h; apply he; apply UInt8.toNat_inj.1; simp at h ⊢; omega
        clear he
        go_wp2
        go_ret
        exact ⟨ret_str (by rw [E.out, ← ByteArray.append_assoc]; exact nt_end1 m hm1 u _ HC.out HI.out h1), rfl⟩
theorem specNt_any (a : Int) (w : World) :
    Calls Tryz.prog 129 #[.int .i64 a] w fun e w' => e = .returned (.string (ntA a)) ∧ w = w' := by
  cases hb : numB a
  · rw [show ntA a = ⟨#[]⟩ by simp [ntA, hb]]
    exact specNt_out a w hb
  · have h2 : -1000000000000 ≤ a ∧ a ≤ 1000000000000 := by simpa [numB, inB] using hb
    by_cases hn : a < 0
    · obtain ⟨N, rfl⟩ : ∃ N : Nat, a = -(N : Int) := ⟨a.natAbs, by omega⟩
      rw [show ntA (-(N : Int)) = ⟨#[45]⟩ ++ ntP N by simp only [ntA, hb, hn, if_true]; rw [show (-(N : Int)).natAbs = N by omega]]
      exact specNt_neg N w (by omega) (by omega)
    · obtain ⟨N, rfl⟩ : ∃ N : Nat, a = (N : Int) := ⟨a.toNat, by omega⟩
      rw [show ntA (N : Int) = ntP N by simp only [ntA, hb, hn, if_true, if_false]; rw [Int.toNat_natCast]]
      exact specNt_pos N w (by omega)
end Go.Proofs.YthffjcclcladoaaGreatDoor.kit
