/-
  Contract of spec.NumText over this seat's translation. Conditions: none.
-/
import Derived.Test.YtcimhpdpfckgiaaDoorNt1
namespace Go.Proofs.YtcimhpdpfckgiaaDoor.kit
open Go.ChangeShapes Go.WideShapes Go.ChangeAt Go.RowKit
set_option linter.unusedVariables false

theorem specNt_out (a : Int) (w : World) (hb : numB a = false) :
    Calls Tryd.prog 9 #[.int .i64 a] w fun e w' => e = .returned (.string ⟨#[]⟩) ∧ w = w' := by
  have C0 := fun W => is_any a W
  rw [hb] at C0
  have C0 := Lib.hid C0
  clear hb
  go_enter Tryd.func9, Tryd.ntmps9
  go_wp2_with fail
  refine (C0.out _).mono ?_
  rintro e w1 ⟨rfl, rfl⟩
  go_wp2
  go_ret
  exact ⟨rfl, rfl⟩
theorem nt_end0 (m : Nat) (h : m < 1000000) (u D : ByteArray) (hc : cutZ (sixT m) = cutZ u) (hu : u.size = 0) : D = D ++ ptT m := by
  by_cases h0 : m = 0
  · subst h0; show D = D ++ ByteArray.empty; simp
  · exact absurd (by rw [hc, cutZ_none hu, hu]) (sixT_cut m h (by omega))
theorem nt_end1 (m : Nat) (h : m < 1000000) (u D : ByteArray) (hc : cutZ (sixT m) = cutZ u) (hu : cutZ u = u) (h1 : 0 < u.size) : D ++ ⟨#[46]⟩ ++ u = D ++ ptT m := by
  by_cases h0 : m = 0
  · subst h0
    rw [sixT_zero, hu] at hc
    rw [← hc] at h1
    exact absurd h1 (by decide)
  · simp only [ptT, if_neg h0]
    rw [hc, hu, ByteArray.append_assoc]
set_option maxHeartbeats 1000000 in
theorem specNt_pos (N : Nat) (w : World) (hN : N ≤ 1000000000000) :
    Calls Tryd.prog 9 #[.int .i64 ((N : Int))] w fun e w' => e = .returned (.string (ntP N)) ∧ w = w' := by
  have hb : numB ((N : Int)) = true := by simp [numB, inB]; omega
  have C0 := fun W => is_any ((N : Int)) W
  rw [hb] at C0
  have C0 := Lib.hid C0
  obtain ⟨m, hm⟩ : ∃ m, m = N % 1000000 := ⟨_, rfl⟩
  have hm1 : m < 1000000 := by omega
  have C := Lib.hid (show ∀ W, Calls Tryd.prog 11 #[.int .i64 ((N : Int) / 1000000)] W fun e w' => e = .returned (.string ⟨(Lib.itoa ((N : Int) / 1000000)).toArray⟩) ∧ W = w' from fun W => specDec_any _ W (by omega) (by omega))
  have D := Lib.hid (show ∀ W, Calls Tryd.prog 11 #[.int .i64 (1000000 + (N : Int) % 1000000)] W fun e w' => e = .returned (.string (milT m)) ∧ W = w' from fun W => by
    have := specDec_any (1000000 + (m : Int)) W (by omega) (by omega)
    rwa [show (m : Int) = (N : Int) % 1000000 by omega, show (Lib.itoa (1000000 + (N : Int) % 1000000)) = Lib.itoa (1000000 + (m : Int)) by rw [show (m : Int) = (N : Int) % 1000000 by omega]] at this)
  have E := Lib.hid (show ntP N = ⟨(Lib.itoa ((N : Int) / 1000000)).toArray⟩ ++ ptT m by rw [hm]; rfl)
  have n0 : ¬ (N : Int) < 0 := by omega
  have l0 : (Lib.itoa ((N : Int) / 1000000)).length ≤ 21 := Lib.itoa_length_le _ (by omega) (by omega)
  have hz : 7 ≤ (milT m).size := by rw [milT_size m hm1]; omega
  have hz2 : (milT m).size ≤ 7 := by rw [milT_size m hm1]; omega
  have hs6 : (sixT m).size ≤ 6 := by rw [sixT_size m hm1]; omega
  have HX := Lib.hid (show (milT m).extract 1 (milT m).size = sixT m from rfl)
  clear hb hm
  go_enter Tryd.func9, Tryd.ntmps9
  go_wp2_with fail
  refine (C0.out _).mono ?_
  rintro e w1 ⟨rfl, rfl⟩
  go_wp2_with fail
  refine (C.out _).mono ?_
  rintro e w1 ⟨rfl, rfl⟩
  go_wp2_with fail
  refine (D.out _).mono ?_
  rintro e w1 ⟨rfl, rfl⟩
  go_wp2
  go_loop [5] (fun o => ∃ u : ByteArray, o = .string u ∧ u.size ≤ 6 ∧ cutZ (sixT m) = cutZ u) (fun o => match o with | .string u => u.size | _ => 0)
  case atStart => exact ⟨sixT m, rfl, hs6, rfl⟩
  case round =>
    obtain ⟨u, rfl, hu, hc⟩ := hrel
    have HC := Lib.hid hc
    clear hc
    by_cases h0 : u.size = 0
    · have d : decide (0 < u.size) = false := by simpa using h0
      have em := empty_of_size h0
      have HZ := Lib.hid h0
      clear h0
      go_wp2
      go_ret
      exact ⟨ret_str (by rw [E.out]; exact nt_end0 m hm1 u _ HC.out HZ.out), rfl⟩
    · have h1 : 0 < u.size := by omega
      have em := not_empty_of_size h0
      by_cases he : u[u.size - 1] = 48
      · have HI := Lib.hid (cutZ_in h1 he)
        have e' : ((u[u.size - 1].toNat : Int) == 48) = true := by rw [he]; rfl
        clear he
        go_wp2
        go_round
        case rel => exact ⟨u.extract 0 (u.size - 1), rfl, by rw [ByteArray.size_extract]; omega, by rw [HC.out, HI.out]⟩
        case measure => simp [ByteArray.size_extract]; omega
      · have HI := Lib.hid (cutZ_out h1 he)
        have e' : ((u[u.size - 1].toNat : Int) == 48) = false := by
          rw [beq_eq_false_iff_ne]; intro h; apply he; apply UInt8.toNat_inj.1; simp at h ⊢; omega
        clear he
        go_wp2
        go_ret
        exact ⟨ret_str (by rw [E.out]; exact nt_end1 m hm1 u _ HC.out HI.out h1), rfl⟩
set_option maxHeartbeats 1000000 in
theorem specNt_neg (N : Nat) (w : World) (hN : N ≤ 1000000000000) (hp : 0 < N) :
    Calls Tryd.prog 9 #[.int .i64 (-(N : Int))] w fun e w' => e = .returned (.string (⟨#[45]⟩ ++ ntP N)) ∧ w = w' := by
  have hb : numB (-(N : Int)) = true := by simp [numB, inB]; omega
  have C0 := fun W => is_any (-(N : Int)) W
  rw [hb] at C0
  have C0 := Lib.hid C0
  obtain ⟨m, hm⟩ : ∃ m, m = N % 1000000 := ⟨_, rfl⟩
  have hm1 : m < 1000000 := by omega
  have C := Lib.hid (show ∀ W, Calls Tryd.prog 11 #[.int .i64 ((N : Int) / 1000000)] W fun e w' => e = .returned (.string ⟨(Lib.itoa ((N : Int) / 1000000)).toArray⟩) ∧ W = w' from fun W => specDec_any _ W (by omega) (by omega))
  have D := Lib.hid (show ∀ W, Calls Tryd.prog 11 #[.int .i64 (1000000 + (N : Int) % 1000000)] W fun e w' => e = .returned (.string (milT m)) ∧ W = w' from fun W => by
    have := specDec_any (1000000 + (m : Int)) W (by omega) (by omega)
    rwa [show (m : Int) = (N : Int) % 1000000 by omega, show (Lib.itoa (1000000 + (N : Int) % 1000000)) = Lib.itoa (1000000 + (m : Int)) by rw [show (m : Int) = (N : Int) % 1000000 by omega]] at this)
  have E := Lib.hid (show ntP N = ⟨(Lib.itoa ((N : Int) / 1000000)).toArray⟩ ++ ptT m by rw [hm]; rfl)
  have n0 : -(N : Int) < 0 := by omega
  have l0 : (Lib.itoa ((N : Int) / 1000000)).length ≤ 21 := Lib.itoa_length_le _ (by omega) (by omega)
  have hz : 7 ≤ (milT m).size := by rw [milT_size m hm1]; omega
  have hz2 : (milT m).size ≤ 7 := by rw [milT_size m hm1]; omega
  have hs6 : (sixT m).size ≤ 6 := by rw [sixT_size m hm1]; omega
  have HX := Lib.hid (show (milT m).extract 1 (milT m).size = sixT m from rfl)
  clear hb hm
  go_enter Tryd.func9, Tryd.ntmps9
  go_wp2_with fail
  refine (C0.out _).mono ?_
  rintro e w1 ⟨rfl, rfl⟩
  go_wp2_with fail
  refine (C.out _).mono ?_
  rintro e w1 ⟨rfl, rfl⟩
  go_wp2_with fail
  refine (D.out _).mono ?_
  rintro e w1 ⟨rfl, rfl⟩
  go_wp2
  go_loop [5] (fun o => ∃ u : ByteArray, o = .string u ∧ u.size ≤ 6 ∧ cutZ (sixT m) = cutZ u) (fun o => match o with | .string u => u.size | _ => 0)
  case atStart => exact ⟨sixT m, rfl, hs6, rfl⟩
  case round =>
    obtain ⟨u, rfl, hu, hc⟩ := hrel
    have HC := Lib.hid hc
    clear hc
    by_cases h0 : u.size = 0
    · have d : decide (0 < u.size) = false := by simpa using h0
      have em := empty_of_size h0
      have HZ := Lib.hid h0
      clear h0
      go_wp2
      go_ret
      exact ⟨ret_str (by rw [E.out, ← ByteArray.append_assoc]; exact nt_end0 m hm1 u _ HC.out HZ.out), rfl⟩
    · have h1 : 0 < u.size := by omega
      have em := not_empty_of_size h0
      by_cases he : u[u.size - 1] = 48
      · have HI := Lib.hid (cutZ_in h1 he)
        have e' : ((u[u.size - 1].toNat : Int) == 48) = true := by rw [he]; rfl
        clear he
        go_wp2
        go_round
        case rel => exact ⟨u.extract 0 (u.size - 1), rfl, by rw [ByteArray.size_extract]; omega, by rw [HC.out, HI.out]⟩
        case measure => simp [ByteArray.size_extract]; omega
      · have HI := Lib.hid (cutZ_out h1 he)
        have e' : ((u[u.size - 1].toNat : Int) == 48) = false := by
          rw [beq_eq_false_iff_ne]; intro h; apply he; apply UInt8.toNat_inj.1; simp at h ⊢; omega
        clear he
        go_wp2
        go_ret
        exact ⟨ret_str (by rw [E.out, ← ByteArray.append_assoc]; exact nt_end1 m hm1 u _ HC.out HI.out h1), rfl⟩
theorem specNt_any (a : Int) (w : World) :
    Calls Tryd.prog 9 #[.int .i64 a] w fun e w' => e = .returned (.string (ntA a)) ∧ w = w' := by
  cases hb : numB a
  · rw [show ntA a = ⟨#[]⟩ by simp [ntA, hb]]
    exact specNt_out a w hb
  · have h2 : -1000000000000 ≤ a ∧ a ≤ 1000000000000 := by simpa [numB, inB] using hb
    by_cases hn : a < 0
    · obtain ⟨N, rfl⟩ : ∃ N : Nat, a = -(N : Int) := ⟨a.natAbs, by omega⟩
      rw [show ntA (-(N : Int)) = ⟨#[45]⟩ ++ ntP N by simp only [ntA, hb, hn, if_true]; rw [show (-(N : Int)).natAbs = N by omega]]
      exact specNt_neg N w (by omega) (by omega)
    · obtain ⟨N, rfl⟩ : ∃ N : Nat, a = (N : Int) := ⟨a.toNat, by omega⟩
      rw [show ntA (N : Int) = ntP N by simp only [ntA, hb, hn, if_true, if_false]; rw [Int.toNat_natCast]]
      exact specNt_pos N w (by omega)
end Go.Proofs.YtcimhpdpfckgiaaDoor.kit
