/-
  spec.ReadNum over this seat's translation, case by case (part 2). Conditions: each theorem names its own.
-/
import Derived.Test.YthffjcclcladoaaGreatDoorMRn2
namespace Go.Proofs.YthffjcclcladoaaGreatDoor.kit
open Go.ChangeShapes Go.WideShapes Go.ChangeAt Go.RowKit
set_option linter.unusedVariables false
set_option maxRecDepth 1000000

set_option maxHeartbeats 2000000 in
theorem rnS_nin_p_far (s : ByteArray) (I M E : Nat) (x : Int) (ok : Bool) (w : World)
    (hs : s.size ≤ 1048576) (hF : I ≤ M) (hM : M ≤ s.size)
    (HB : Hid (∀ (j : Nat) (h : j < s.size), j < I → blnB (s[j].toNat : Int) = true))
    (hI : I < s.size) (hnb : blnB (s[I].toNat : Int) = false) (c45 : ((s[I].toNat : Int) == 45) = false) (c43 : ((s[I].toNat : Int) == 43) = false)
    (hM2 : M < s.size) (c46 : ((s[M].toNat : Int) == 46) = true)
    (C1 : Hid (∀ W, Calls Tryz.prog 152 #[.string s, .int .i64 (I : Int)] W fun e w' => e = .returned (.int .i64 (M : Int)) ∧ W = w'))
    (hE : M + 1 ≤ E) (hE2 : E ≤ s.size) (C2 : Hid (∀ W, Calls Tryz.prog 152 #[.string s, .int .i64 ((M : Int) + 1)] W fun e w' => e = .returned (.int .i64 (E : Int)) ∧ W = w'))
    (CC : Hid (∀ W, Calls Tryz.prog 153 #[.string (s.extract I M), .string (s.extract (M + 1) E)] W fun e w' => e = .returned (.tuple #[.int .i64 x, .bool ok]) ∧ W = w'))
    (hf : 60 < E)
    (hne : I < M ∨ M + 1 < E) :
    Calls Tryz.prog 121 #[.string s] w fun e w' => e = .returned (.tuple #[.int .i64 0, .int .i64 0]) ∧ w = w' := by
  have hsl := sl_eq (P := Tryz.prog) Tryz.underlying9 s (I : Int) (M : Int) I M (by omega) rfl (by omega) (by omega)
  have hsl2 := sl_eq (P := Tryz.prog) Tryz.underlying9 s ((M : Int) + 1) (E : Int) (M + 1) E (by omega) rfl (by omega) (by omega)
  have hsz : (s.extract (M + 1) E).size = E - (M + 1) := by rw [ByteArray.size_extract]; omega
  have hz : ((M : Int) - (I : Int) + ((E - (M + 1) : Nat) : Int) == 0) = false := by simp; omega
  have hb : s[I].toNat < 256 := s[I].toNat_lt
  clear hne
  go_enter Tryz.func121, Tryz.ntmps121
  go_wp2_with fail
  go_loop [4] (fun i => ∃ k : Nat, k ≤ I ∧ i = .int .i64 k) (fun i => I - (intOf i).toNat)
  case atStart => exact ⟨0, by omega, rfl⟩
  case round =>
    obtain ⟨k, hk, rfl⟩ := hrel
    by_cases hlt : k < I
    · have a1 := HB.out k (by omega) hlt
      have hb2 : s[k].toNat < 256 := s[k].toNat_lt
      go_wp2_with (go_at_call 151; refine (space_any _ _).mono ?_; rintro e w' ⟨rfl, rfl⟩)
      go_round
      case rel => exact ⟨k + 1, by omega, by go_num⟩
      case measure => simp [intOf]; omega
    · obtain rfl : k = I := by omega
      go_wp2_with (first | (go_at_call 151; refine (space_any _ _).mono ?_; rintro e w' ⟨rfl, rfl⟩) | (go_at_call 152; ((with_reducible refine (C1.out _).mono ?_); rintro e w' ⟨rfl, rfl⟩)) | (go_at_call 152; ((with_reducible refine (C2.out _).mono ?_); rintro e w' ⟨rfl, rfl⟩)) | (go_at_call 153; refine (CC.out _).mono ?_; rintro e w' ⟨rfl, rfl⟩))
      go_ret2
      exact ⟨rfl, rfl⟩
set_option maxHeartbeats 2000000 in
theorem rnS_nin_p_empty (s : ByteArray) (I M E : Nat) (x : Int) (ok : Bool) (w : World)
    (hs : s.size ≤ 1048576) (hF : I ≤ M) (hM : M ≤ s.size)
    (HB : Hid (∀ (j : Nat) (h : j < s.size), j < I → blnB (s[j].toNat : Int) = true))
    (hI : I < s.size) (hnb : blnB (s[I].toNat : Int) = false) (c45 : ((s[I].toNat : Int) == 45) = false) (c43 : ((s[I].toNat : Int) == 43) = false)
    (hM2 : M < s.size) (c46 : ((s[M].toNat : Int) == 46) = true)
    (C1 : Hid (∀ W, Calls Tryz.prog 152 #[.string s, .int .i64 (I : Int)] W fun e w' => e = .returned (.int .i64 (M : Int)) ∧ W = w'))
    (hE : M + 1 ≤ E) (hE2 : E ≤ s.size) (C2 : Hid (∀ W, Calls Tryz.prog 152 #[.string s, .int .i64 ((M : Int) + 1)] W fun e w' => e = .returned (.int .i64 (E : Int)) ∧ W = w'))
    (CC : Hid (∀ W, Calls Tryz.prog 153 #[.string (s.extract I M), .string (s.extract (M + 1) E)] W fun e w' => e = .returned (.tuple #[.int .i64 x, .bool ok]) ∧ W = w'))
    (hne : I = M ∧ M + 1 = E) :
    Calls Tryz.prog 121 #[.string s] w fun e w' => e = .returned (.tuple #[.int .i64 0, .int .i64 0]) ∧ w = w' := by
  have hsl := sl_eq (P := Tryz.prog) Tryz.underlying9 s (I : Int) (M : Int) I M (by omega) rfl (by omega) (by omega)
  have hsl2 := sl_eq (P := Tryz.prog) Tryz.underlying9 s ((M : Int) + 1) (E : Int) (M + 1) E (by omega) rfl (by omega) (by omega)
  have hsz : (s.extract (M + 1) E).size = E - (M + 1) := by rw [ByteArray.size_extract]; omega
  have hz : ((M : Int) - (I : Int) + ((E - (M + 1) : Nat) : Int) == 0) = true := by simp; omega
  have hb : s[I].toNat < 256 := s[I].toNat_lt
  clear hne
  go_enter Tryz.func121, Tryz.ntmps121
  go_wp2_with fail
  go_loop [4] (fun i => ∃ k : Nat, k ≤ I ∧ i = .int .i64 k) (fun i => I - (intOf i).toNat)
  case atStart => exact ⟨0, by omega, rfl⟩
  case round =>
    obtain ⟨k, hk, rfl⟩ := hrel
    by_cases hlt : k < I
    · have a1 := HB.out k (by omega) hlt
      have hb2 : s[k].toNat < 256 := s[k].toNat_lt
      go_wp2_with (go_at_call 151; refine (space_any _ _).mono ?_; rintro e w' ⟨rfl, rfl⟩)
      go_round
      case rel => exact ⟨k + 1, by omega, by go_num⟩
      case measure => simp [intOf]; omega
    · obtain rfl : k = I := by omega
      go_wp2_with (first | (go_at_call 151; refine (space_any _ _).mono ?_; rintro e w' ⟨rfl, rfl⟩) | (go_at_call 152; ((with_reducible refine (C1.out _).mono ?_); rintro e w' ⟨rfl, rfl⟩)) | (go_at_call 152; ((with_reducible refine (C2.out _).mono ?_); rintro e w' ⟨rfl, rfl⟩)) | (go_at_call 153; refine (CC.out _).mono ?_; rintro e w' ⟨rfl, rfl⟩))
      go_ret2
      exact ⟨rfl, rfl⟩
set_option maxHeartbeats 2000000 in
theorem rnS_nin_p_great (s : ByteArray) (I M E : Nat) (w : World)
    (hs : s.size ≤ 1048576) (hF : I ≤ M) (hM : M ≤ s.size)
    (HB : Hid (∀ (j : Nat) (h : j < s.size), j < I → blnB (s[j].toNat : Int) = true))
    (hI : I < s.size) (hnb : blnB (s[I].toNat : Int) = false) (c45 : ((s[I].toNat : Int) == 45) = false) (c43 : ((s[I].toNat : Int) == 43) = false)
    (hM2 : M < s.size) (c46 : ((s[M].toNat : Int) == 46) = true)
    (C1 : Hid (∀ W, Calls Tryz.prog 152 #[.string s, .int .i64 (I : Int)] W fun e w' => e = .returned (.int .i64 (M : Int)) ∧ W = w'))
    (hE : M + 1 ≤ E) (hE2 : E ≤ s.size) (C2 : Hid (∀ W, Calls Tryz.prog 152 #[.string s, .int .i64 ((M : Int) + 1)] W fun e w' => e = .returned (.int .i64 (E : Int)) ∧ W = w'))
    (CC : Hid (∀ W, Calls Tryz.prog 153 #[.string (s.extract I M), .string (s.extract (M + 1) E)] W fun e w' => e = .returned (.tuple #[.int .i64 0, .bool false]) ∧ W = w'))
    (hf : E ≤ 60)
    (hne : I < M ∨ M + 1 < E) :
    Calls Tryz.prog 121 #[.string s] w fun e w' => e = .returned (.tuple #[.int .i64 0, .int .i64 0]) ∧ w = w' := by
  have hsl := sl_eq (P := Tryz.prog) Tryz.underlying9 s (I : Int) (M : Int) I M (by omega) rfl (by omega) (by omega)
  have hsl2 := sl_eq (P := Tryz.prog) Tryz.underlying9 s ((M : Int) + 1) (E : Int) (M + 1) E (by omega) rfl (by omega) (by omega)
  have hsz : (s.extract (M + 1) E).size = E - (M + 1) := by rw [ByteArray.size_extract]; omega
  have hz : ((M : Int) - (I : Int) + ((E - (M + 1) : Nat) : Int) == 0) = false := by simp; omega
  have hb : s[I].toNat < 256 := s[I].toNat_lt
  clear hne
  go_enter Tryz.func121, Tryz.ntmps121
  go_wp2_with fail
  go_loop [4] (fun i => ∃ k : Nat, k ≤ I ∧ i = .int .i64 k) (fun i => I - (intOf i).toNat)
  case atStart => exact ⟨0, by omega, rfl⟩
  case round =>
    obtain ⟨k, hk, rfl⟩ := hrel
    by_cases hlt : k < I
    · have a1 := HB.out k (by omega) hlt
      have hb2 : s[k].toNat < 256 := s[k].toNat_lt
      go_wp2_with (go_at_call 151; refine (space_any _ _).mono ?_; rintro e w' ⟨rfl, rfl⟩)
      go_round
      case rel => exact ⟨k + 1, by omega, by go_num⟩
      case measure => simp [intOf]; omega
    · obtain rfl : k = I := by omega
      go_wp2_with (first | (go_at_call 151; refine (space_any _ _).mono ?_; rintro e w' ⟨rfl, rfl⟩) | (go_at_call 152; ((with_reducible refine (C1.out _).mono ?_); rintro e w' ⟨rfl, rfl⟩)) | (go_at_call 152; ((with_reducible refine (C2.out _).mono ?_); rintro e w' ⟨rfl, rfl⟩)) | (go_at_call 153; refine (CC.out _).mono ?_; rintro e w' ⟨rfl, rfl⟩))
      go_ret2
      exact ⟨rfl, rfl⟩
set_option maxHeartbeats 2000000 in
theorem rnS_nin_p_yes (s : ByteArray) (I M E : Nat) (v : Nat) (w : World)
    (hs : s.size ≤ 1048576) (hF : I ≤ M) (hM : M ≤ s.size)
    (HB : Hid (∀ (j : Nat) (h : j < s.size), j < I → blnB (s[j].toNat : Int) = true))
    (hI : I < s.size) (hnb : blnB (s[I].toNat : Int) = false) (c45 : ((s[I].toNat : Int) == 45) = false) (c43 : ((s[I].toNat : Int) == 43) = false)
    (hM2 : M < s.size) (c46 : ((s[M].toNat : Int) == 46) = true)
    (C1 : Hid (∀ W, Calls Tryz.prog 152 #[.string s, .int .i64 (I : Int)] W fun e w' => e = .returned (.int .i64 (M : Int)) ∧ W = w'))
    (hE : M + 1 ≤ E) (hE2 : E ≤ s.size) (C2 : Hid (∀ W, Calls Tryz.prog 152 #[.string s, .int .i64 ((M : Int) + 1)] W fun e w' => e = .returned (.int .i64 (E : Int)) ∧ W = w'))
    (CC : Hid (∀ W, Calls Tryz.prog 153 #[.string (s.extract I M), .string (s.extract (M + 1) E)] W fun e w' => e = .returned (.tuple #[.int .i64 (v : Int), .bool true]) ∧ W = w'))
    (hv : v ≤ 1000000000000)
    (hf : E ≤ 60)
    (hne : I < M ∨ M + 1 < E) :
    Calls Tryz.prog 121 #[.string s] w fun e w' => e = .returned (.tuple #[.int .i64 (v : Int), .int .i64 (E : Int)]) ∧ w = w' := by
  have hsl := sl_eq (P := Tryz.prog) Tryz.underlying9 s (I : Int) (M : Int) I M (by omega) rfl (by omega) (by omega)
  have hsl2 := sl_eq (P := Tryz.prog) Tryz.underlying9 s ((M : Int) + 1) (E : Int) (M + 1) E (by omega) rfl (by omega) (by omega)
  have hsz : (s.extract (M + 1) E).size = E - (M + 1) := by rw [ByteArray.size_extract]; omega
  have hz : ((M : Int) - (I : Int) + ((E - (M + 1) : Nat) : Int) == 0) = false := by simp; omega
  have hb : s[I].toNat < 256 := s[I].toNat_lt
  clear hne
  go_enter Tryz.func121, Tryz.ntmps121
  go_wp2_with fail
  go_loop [4] (fun i => ∃ k : Nat, k ≤ I ∧ i = .int .i64 k) (fun i => I - (intOf i).toNat)
  case atStart => exact ⟨0, by omega, rfl⟩
  case round =>
    obtain ⟨k, hk, rfl⟩ := hrel
    by_cases hlt : k < I
    · have a1 := HB.out k (by omega) hlt
      have hb2 : s[k].toNat < 256 := s[k].toNat_lt
      go_wp2_with (go_at_call 151; refine (space_any _ _).mono ?_; rintro e w' ⟨rfl, rfl⟩)
      go_round
      case rel => exact ⟨k + 1, by omega, by go_num⟩
      case measure => simp [intOf]; omega
    · obtain rfl : k = I := by omega
      go_wp2_with (first | (go_at_call 151; refine (space_any _ _).mono ?_; rintro e w' ⟨rfl, rfl⟩) | (go_at_call 152; ((with_reducible refine (C1.out _).mono ?_); rintro e w' ⟨rfl, rfl⟩)) | (go_at_call 152; ((with_reducible refine (C2.out _).mono ?_); rintro e w' ⟨rfl, rfl⟩)) | (go_at_call 153; refine (CC.out _).mono ?_; rintro e w' ⟨rfl, rfl⟩))
      go_ret2
      exact ⟨rfl, rfl⟩
set_option maxHeartbeats 2000000 in
theorem rnS_nin_qin_far (s : ByteArray) (I M : Nat) (x : Int) (ok : Bool) (w : World)
    (hs : s.size ≤ 1048576) (hF : I ≤ M) (hM : M ≤ s.size)
    (HB : Hid (∀ (j : Nat) (h : j < s.size), j < I → blnB (s[j].toNat : Int) = true))
    (hI : I < s.size) (hnb : blnB (s[I].toNat : Int) = false) (c45 : ((s[I].toNat : Int) == 45) = false) (c43 : ((s[I].toNat : Int) == 43) = false)
    (hM2 : M < s.size) (c46 : ((s[M].toNat : Int) == 46) = false)
    (C1 : Hid (∀ W, Calls Tryz.prog 152 #[.string s, .int .i64 (I : Int)] W fun e w' => e = .returned (.int .i64 (M : Int)) ∧ W = w'))
    (CC : Hid (∀ W, Calls Tryz.prog 153 #[.string (s.extract I M), .string (ByteArray.mk #[])] W fun e w' => e = .returned (.tuple #[.int .i64 x, .bool ok]) ∧ W = w'))
    (hf : 60 < M)
    (hne : I < M) :
    Calls Tryz.prog 121 #[.string s] w fun e w' => e = .returned (.tuple #[.int .i64 0, .int .i64 0]) ∧ w = w' := by
  have hsl := sl_eq (P := Tryz.prog) Tryz.underlying9 s (I : Int) (M : Int) I M (by omega) rfl (by omega) (by omega)
  have hz : ((M : Int) - (I : Int) == 0) = false := by simp; omega
  have hb : s[I].toNat < 256 := s[I].toNat_lt
  clear hne
  go_enter Tryz.func121, Tryz.ntmps121
  go_wp2_with fail
  go_loop [4] (fun i => ∃ k : Nat, k ≤ I ∧ i = .int .i64 k) (fun i => I - (intOf i).toNat)
  case atStart => exact ⟨0, by omega, rfl⟩
  case round =>
    obtain ⟨k, hk, rfl⟩ := hrel
    by_cases hlt : k < I
    · have a1 := HB.out k (by omega) hlt
      have hb2 : s[k].toNat < 256 := s[k].toNat_lt
      go_wp2_with (go_at_call 151; refine (space_any _ _).mono ?_; rintro e w' ⟨rfl, rfl⟩)
      go_round
      case rel => exact ⟨k + 1, by omega, by go_num⟩
      case measure => simp [intOf]; omega
    · obtain rfl : k = I := by omega
      go_wp2_with (first | (go_at_call 151; refine (space_any _ _).mono ?_; rintro e w' ⟨rfl, rfl⟩) | (go_at_call 152; ((with_reducible refine (C1.out _).mono ?_); rintro e w' ⟨rfl, rfl⟩)) | (go_at_call 153; refine (CC.out _).mono ?_; rintro e w' ⟨rfl, rfl⟩))
      go_ret2
      exact ⟨rfl, rfl⟩
set_option maxHeartbeats 2000000 in
theorem rnS_nin_qin_empty (s : ByteArray) (I M : Nat) (x : Int) (ok : Bool) (w : World)
    (hs : s.size ≤ 1048576) (hF : I ≤ M) (hM : M ≤ s.size)
    (HB : Hid (∀ (j : Nat) (h : j < s.size), j < I → blnB (s[j].toNat : Int) = true))
    (hI : I < s.size) (hnb : blnB (s[I].toNat : Int) = false) (c45 : ((s[I].toNat : Int) == 45) = false) (c43 : ((s[I].toNat : Int) == 43) = false)
    (hM2 : M < s.size) (c46 : ((s[M].toNat : Int) == 46) = false)
    (C1 : Hid (∀ W, Calls Tryz.prog 152 #[.string s, .int .i64 (I : Int)] W fun e w' => e = .returned (.int .i64 (M : Int)) ∧ W = w'))
    (CC : Hid (∀ W, Calls Tryz.prog 153 #[.string (s.extract I M), .string (ByteArray.mk #[])] W fun e w' => e = .returned (.tuple #[.int .i64 x, .bool ok]) ∧ W = w'))
    (hne : I = M) :
    Calls Tryz.prog 121 #[.string s] w fun e w' => e = .returned (.tuple #[.int .i64 0, .int .i64 0]) ∧ w = w' := by
  have hsl := sl_eq (P := Tryz.prog) Tryz.underlying9 s (I : Int) (M : Int) I M (by omega) rfl (by omega) (by omega)
  have hz : ((M : Int) - (I : Int) == 0) = true := by simp; omega
  have hb : s[I].toNat < 256 := s[I].toNat_lt
  clear hne
  go_enter Tryz.func121, Tryz.ntmps121
  go_wp2_with fail
  go_loop [4] (fun i => ∃ k : Nat, k ≤ I ∧ i = .int .i64 k) (fun i => I - (intOf i).toNat)
  case atStart => exact ⟨0, by omega, rfl⟩
  case round =>
    obtain ⟨k, hk, rfl⟩ := hrel
    by_cases hlt : k < I
    · have a1 := HB.out k (by omega) hlt
      have hb2 : s[k].toNat < 256 := s[k].toNat_lt
      go_wp2_with (go_at_call 151; refine (space_any _ _).mono ?_; rintro e w' ⟨rfl, rfl⟩)
      go_round
      case rel => exact ⟨k + 1, by omega, by go_num⟩
      case measure => simp [intOf]; omega
    · obtain rfl : k = I := by omega
      go_wp2_with (first | (go_at_call 151; refine (space_any _ _).mono ?_; rintro e w' ⟨rfl, rfl⟩) | (go_at_call 152; ((with_reducible refine (C1.out _).mono ?_); rintro e w' ⟨rfl, rfl⟩)) | (go_at_call 153; refine (CC.out _).mono ?_; rintro e w' ⟨rfl, rfl⟩))
      go_ret2
      exact ⟨rfl, rfl⟩
set_option maxHeartbeats 2000000 in
theorem rnS_nin_qin_great (s : ByteArray) (I M : Nat) (w : World)
    (hs : s.size ≤ 1048576) (hF : I ≤ M) (hM : M ≤ s.size)
    (HB : Hid (∀ (j : Nat) (h : j < s.size), j < I → blnB (s[j].toNat : Int) = true))
    (hI : I < s.size) (hnb : blnB (s[I].toNat : Int) = false) (c45 : ((s[I].toNat : Int) == 45) = false) (c43 : ((s[I].toNat : Int) == 43) = false)
    (hM2 : M < s.size) (c46 : ((s[M].toNat : Int) == 46) = false)
    (C1 : Hid (∀ W, Calls Tryz.prog 152 #[.string s, .int .i64 (I : Int)] W fun e w' => e = .returned (.int .i64 (M : Int)) ∧ W = w'))
    (CC : Hid (∀ W, Calls Tryz.prog 153 #[.string (s.extract I M), .string (ByteArray.mk #[])] W fun e w' => e = .returned (.tuple #[.int .i64 0, .bool false]) ∧ W = w'))
    (hf : M ≤ 60)
    (hne : I < M) :
    Calls Tryz.prog 121 #[.string s] w fun e w' => e = .returned (.tuple #[.int .i64 0, .int .i64 0]) ∧ w = w' := by
  have hsl := sl_eq (P := Tryz.prog) Tryz.underlying9 s (I : Int) (M : Int) I M (by omega) rfl (by omega) (by omega)
  have hz : ((M : Int) - (I : Int) == 0) = false := by simp; omega
  have hb : s[I].toNat < 256 := s[I].toNat_lt
  clear hne
  go_enter Tryz.func121, Tryz.ntmps121
  go_wp2_with fail
  go_loop [4] (fun i => ∃ k : Nat, k ≤ I ∧ i = .int .i64 k) (fun i => I - (intOf i).toNat)
  case atStart => exact ⟨0, by omega, rfl⟩
  case round =>
    obtain ⟨k, hk, rfl⟩ := hrel
    by_cases hlt : k < I
    · have a1 := HB.out k (by omega) hlt
      have hb2 : s[k].toNat < 256 := s[k].toNat_lt
      go_wp2_with (go_at_call 151; refine (space_any _ _).mono ?_; rintro e w' ⟨rfl, rfl⟩)
      go_round
      case rel => exact ⟨k + 1, by omega, by go_num⟩
      case measure => simp [intOf]; omega
    · obtain rfl : k = I := by omega
      go_wp2_with (first | (go_at_call 151; refine (space_any _ _).mono ?_; rintro e w' ⟨rfl, rfl⟩) | (go_at_call 152; ((with_reducible refine (C1.out _).mono ?_); rintro e w' ⟨rfl, rfl⟩)) | (go_at_call 153; refine (CC.out _).mono ?_; rintro e w' ⟨rfl, rfl⟩))
      go_ret2
      exact ⟨rfl, rfl⟩
set_option maxHeartbeats 2000000 in
theorem rnS_nin_qin_yes (s : ByteArray) (I M : Nat) (v : Nat) (w : World)
    (hs : s.size ≤ 1048576) (hF : I ≤ M) (hM : M ≤ s.size)
    (HB : Hid (∀ (j : Nat) (h : j < s.size), j < I → blnB (s[j].toNat : Int) = true))
    (hI : I < s.size) (hnb : blnB (s[I].toNat : Int) = false) (c45 : ((s[I].toNat : Int) == 45) = false) (c43 : ((s[I].toNat : Int) == 43) = false)
    (hM2 : M < s.size) (c46 : ((s[M].toNat : Int) == 46) = false)
    (C1 : Hid (∀ W, Calls Tryz.prog 152 #[.string s, .int .i64 (I : Int)] W fun e w' => e = .returned (.int .i64 (M : Int)) ∧ W = w'))
    (CC : Hid (∀ W, Calls Tryz.prog 153 #[.string (s.extract I M), .string (ByteArray.mk #[])] W fun e w' => e = .returned (.tuple #[.int .i64 (v : Int), .bool true]) ∧ W = w'))
    (hv : v ≤ 1000000000000)
    (hf : M ≤ 60)
    (hne : I < M) :
    Calls Tryz.prog 121 #[.string s] w fun e w' => e = .returned (.tuple #[.int .i64 (v : Int), .int .i64 (M : Int)]) ∧ w = w' := by
  have hsl := sl_eq (P := Tryz.prog) Tryz.underlying9 s (I : Int) (M : Int) I M (by omega) rfl (by omega) (by omega)
  have hz : ((M : Int) - (I : Int) == 0) = false := by simp; omega
  have hb : s[I].toNat < 256 := s[I].toNat_lt
  clear hne
  go_enter Tryz.func121, Tryz.ntmps121
  go_wp2_with fail
  go_loop [4] (fun i => ∃ k : Nat, k ≤ I ∧ i = .int .i64 k) (fun i => I - (intOf i).toNat)
  case atStart => exact ⟨0, by omega, rfl⟩
  case round =>
    obtain ⟨k, hk, rfl⟩ := hrel
    by_cases hlt : k < I
    · have a1 := HB.out k (by omega) hlt
      have hb2 : s[k].toNat < 256 := s[k].toNat_lt
      go_wp2_with (go_at_call 151; refine (space_any _ _).mono ?_; rintro e w' ⟨rfl, rfl⟩)
      go_round
      case rel => exact ⟨k + 1, by omega, by go_num⟩
      case measure => simp [intOf]; omega
    · obtain rfl : k = I := by omega
      go_wp2_with (first | (go_at_call 151; refine (space_any _ _).mono ?_; rintro e w' ⟨rfl, rfl⟩) | (go_at_call 152; ((with_reducible refine (C1.out _).mono ?_); rintro e w' ⟨rfl, rfl⟩)) | (go_at_call 153; refine (CC.out _).mono ?_; rintro e w' ⟨rfl, rfl⟩))
      go_ret2
      exact ⟨rfl, rfl⟩
set_option maxHeartbeats 2000000 in
theorem rnS_nin_qend_far (s : ByteArray) (I M : Nat) (x : Int) (ok : Bool) (w : World)
    (hs : s.size ≤ 1048576) (hF : I ≤ M) (hM : M ≤ s.size)
    (HB : Hid (∀ (j : Nat) (h : j < s.size), j < I → blnB (s[j].toNat : Int) = true))
    (hI : I < s.size) (hnb : blnB (s[I].toNat : Int) = false) (c45 : ((s[I].toNat : Int) == 45) = false) (c43 : ((s[I].toNat : Int) == 43) = false)
    (hM2 : s.size ≤ M)
    (C1 : Hid (∀ W, Calls Tryz.prog 152 #[.string s, .int .i64 (I : Int)] W fun e w' => e = .returned (.int .i64 (M : Int)) ∧ W = w'))
    (CC : Hid (∀ W, Calls Tryz.prog 153 #[.string (s.extract I M), .string (ByteArray.mk #[])] W fun e w' => e = .returned (.tuple #[.int .i64 x, .bool ok]) ∧ W = w'))
    (hf : 60 < M)
    (hne : I < M) :
    Calls Tryz.prog 121 #[.string s] w fun e w' => e = .returned (.tuple #[.int .i64 0, .int .i64 0]) ∧ w = w' := by
  have hsl := sl_eq (P := Tryz.prog) Tryz.underlying9 s (I : Int) (M : Int) I M (by omega) rfl (by omega) (by omega)
  have hz : ((M : Int) - (I : Int) == 0) = false := by simp; omega
  have hb : s[I].toNat < 256 := s[I].toNat_lt
  clear hne
  go_enter Tryz.func121, Tryz.ntmps121
  go_wp2_with fail
  go_loop [4] (fun i => ∃ k : Nat, k ≤ I ∧ i = .int .i64 k) (fun i => I - (intOf i).toNat)
  case atStart => exact ⟨0, by omega, rfl⟩
  case round =>
    obtain ⟨k, hk, rfl⟩ := hrel
    by_cases hlt : k < I
    · have a1 := HB.out k (by omega) hlt
      have hb2 : s[k].toNat < 256 := s[k].toNat_lt
      go_wp2_with (go_at_call 151; refine (space_any _ _).mono ?_; rintro e w' ⟨rfl, rfl⟩)
      go_round
      case rel => exact ⟨k + 1, by omega, by go_num⟩
      case measure => simp [intOf]; omega
    · obtain rfl : k = I := by omega
      go_wp2_with (first | (go_at_call 151; refine (space_any _ _).mono ?_; rintro e w' ⟨rfl, rfl⟩) | (go_at_call 152; ((with_reducible refine (C1.out _).mono ?_); rintro e w' ⟨rfl, rfl⟩)) | (go_at_call 153; refine (CC.out _).mono ?_; rintro e w' ⟨rfl, rfl⟩))
      go_ret2
      exact ⟨rfl, rfl⟩
set_option maxHeartbeats 2000000 in
theorem rnS_nin_qend_empty (s : ByteArray) (I M : Nat) (x : Int) (ok : Bool) (w : World)
    (hs : s.size ≤ 1048576) (hF : I ≤ M) (hM : M ≤ s.size)
    (HB : Hid (∀ (j : Nat) (h : j < s.size), j < I → blnB (s[j].toNat : Int) = true))
    (hI : I < s.size) (hnb : blnB (s[I].toNat : Int) = false) (c45 : ((s[I].toNat : Int) == 45) = false) (c43 : ((s[I].toNat : Int) == 43) = false)
    (hM2 : s.size ≤ M)
    (C1 : Hid (∀ W, Calls Tryz.prog 152 #[.string s, .int .i64 (I : Int)] W fun e w' => e = .returned (.int .i64 (M : Int)) ∧ W = w'))
    (CC : Hid (∀ W, Calls Tryz.prog 153 #[.string (s.extract I M), .string (ByteArray.mk #[])] W fun e w' => e = .returned (.tuple #[.int .i64 x, .bool ok]) ∧ W = w'))
    (hne : I = M) :
    Calls Tryz.prog 121 #[.string s] w fun e w' => e = .returned (.tuple #[.int .i64 0, .int .i64 0]) ∧ w = w' := by
  have hsl := sl_eq (P := Tryz.prog) Tryz.underlying9 s (I : Int) (M : Int) I M (by omega) rfl (by omega) (by omega)
  have hz : ((M : Int) - (I : Int) == 0) = true := by simp; omega
  have hb : s[I].toNat < 256 := s[I].toNat_lt
  clear hne
  go_enter Tryz.func121, Tryz.ntmps121
  go_wp2_with fail
  go_loop [4] (fun i => ∃ k : Nat, k ≤ I ∧ i = .int .i64 k) (fun i => I - (intOf i).toNat)
  case atStart => exact ⟨0, by omega, rfl⟩
  case round =>
    obtain ⟨k, hk, rfl⟩ := hrel
    by_cases hlt : k < I
    · have a1 := HB.out k (by omega) hlt
      have hb2 : s[k].toNat < 256 := s[k].toNat_lt
      go_wp2_with (go_at_call 151; refine (space_any _ _).mono ?_; rintro e w' ⟨rfl, rfl⟩)
      go_round
      case rel => exact ⟨k + 1, by omega, by go_num⟩
      case measure => simp [intOf]; omega
    · obtain rfl : k = I := by omega
      go_wp2_with (first | (go_at_call 151; refine (space_any _ _).mono ?_; rintro e w' ⟨rfl, rfl⟩) | (go_at_call 152; ((with_reducible refine (C1.out _).mono ?_); rintro e w' ⟨rfl, rfl⟩)) | (go_at_call 153; refine (CC.out _).mono ?_; rintro e w' ⟨rfl, rfl⟩))
      go_ret2
      exact ⟨rfl, rfl⟩
set_option maxHeartbeats 2000000 in
theorem rnS_nin_qend_great (s : ByteArray) (I M : Nat) (w : World)
    (hs : s.size ≤ 1048576) (hF : I ≤ M) (hM : M ≤ s.size)
    (HB : Hid (∀ (j : Nat) (h : j < s.size), j < I → blnB (s[j].toNat : Int) = true))
    (hI : I < s.size) (hnb : blnB (s[I].toNat : Int) = false) (c45 : ((s[I].toNat : Int) == 45) = false) (c43 : ((s[I].toNat : Int) == 43) = false)
    (hM2 : s.size ≤ M)
    (C1 : Hid (∀ W, Calls Tryz.prog 152 #[.string s, .int .i64 (I : Int)] W fun e w' => e = .returned (.int .i64 (M : Int)) ∧ W = w'))
    (CC : Hid (∀ W, Calls Tryz.prog 153 #[.string (s.extract I M), .string (ByteArray.mk #[])] W fun e w' => e = .returned (.tuple #[.int .i64 0, .bool false]) ∧ W = w'))
    (hf : M ≤ 60)
    (hne : I < M) :
    Calls Tryz.prog 121 #[.string s] w fun e w' => e = .returned (.tuple #[.int .i64 0, .int .i64 0]) ∧ w = w' := by
  have hsl := sl_eq (P := Tryz.prog) Tryz.underlying9 s (I : Int) (M : Int) I M (by omega) rfl (by omega) (by omega)
  have hz : ((M : Int) - (I : Int) == 0) = false := by simp; omega
  have hb : s[I].toNat < 256 := s[I].toNat_lt
  clear hne
  go_enter Tryz.func121, Tryz.ntmps121
  go_wp2_with fail
  go_loop [4] (fun i => ∃ k : Nat, k ≤ I ∧ i = .int .i64 k) (fun i => I - (intOf i).toNat)
  case atStart => exact ⟨0, by omega, rfl⟩
  case round =>
    obtain ⟨k, hk, rfl⟩ := hrel
    by_cases hlt : k < I
    · have a1 := HB.out k (by omega) hlt
      have hb2 : s[k].toNat < 256 := s[k].toNat_lt
      go_wp2_with (go_at_call 151; refine (space_any _ _).mono ?_; rintro e w' ⟨rfl, rfl⟩)
      go_round
      case rel => exact ⟨k + 1, by omega, by go_num⟩
      case measure => simp [intOf]; omega
    · obtain rfl : k = I := by omega
      go_wp2_with (first | (go_at_call 151; refine (space_any _ _).mono ?_; rintro e w' ⟨rfl, rfl⟩) | (go_at_call 152; ((with_reducible refine (C1.out _).mono ?_); rintro e w' ⟨rfl, rfl⟩)) | (go_at_call 153; refine (CC.out _).mono ?_; rintro e w' ⟨rfl, rfl⟩))
      go_ret2
      exact ⟨rfl, rfl⟩
set_option maxHeartbeats 2000000 in
theorem rnS_nin_qend_yes (s : ByteArray) (I M : Nat) (v : Nat) (w : World)
    (hs : s.size ≤ 1048576) (hF : I ≤ M) (hM : M ≤ s.size)
    (HB : Hid (∀ (j : Nat) (h : j < s.size), j < I → blnB (s[j].toNat : Int) = true))
    (hI : I < s.size) (hnb : blnB (s[I].toNat : Int) = false) (c45 : ((s[I].toNat : Int) == 45) = false) (c43 : ((s[I].toNat : Int) == 43) = false)
    (hM2 : s.size ≤ M)
    (C1 : Hid (∀ W, Calls Tryz.prog 152 #[.string s, .int .i64 (I : Int)] W fun e w' => e = .returned (.int .i64 (M : Int)) ∧ W = w'))
    (CC : Hid (∀ W, Calls Tryz.prog 153 #[.string (s.extract I M), .string (ByteArray.mk #[])] W fun e w' => e = .returned (.tuple #[.int .i64 (v : Int), .bool true]) ∧ W = w'))
    (hv : v ≤ 1000000000000)
    (hf : M ≤ 60)
    (hne : I < M) :
    Calls Tryz.prog 121 #[.string s] w fun e w' => e = .returned (.tuple #[.int .i64 (v : Int), .int .i64 (M : Int)]) ∧ w = w' := by
  have hsl := sl_eq (P := Tryz.prog) Tryz.underlying9 s (I : Int) (M : Int) I M (by omega) rfl (by omega) (by omega)
  have hz : ((M : Int) - (I : Int) == 0) = false := by simp; omega
  have hb : s[I].toNat < 256 := s[I].toNat_lt
  clear hne
  go_enter Tryz.func121, Tryz.ntmps121
  go_wp2_with fail
  go_loop [4] (fun i => ∃ k : Nat, k ≤ I ∧ i = .int .i64 k) (fun i => I - (intOf i).toNat)
  case atStart => exact ⟨0, by omega, rfl⟩
  case round =>
    obtain ⟨k, hk, rfl⟩ := hrel
    by_cases hlt : k < I
    · have a1 := HB.out k (by omega) hlt
      have hb2 : s[k].toNat < 256 := s[k].toNat_lt
      go_wp2_with (go_at_call 151; refine (space_any _ _).mono ?_; rintro e w' ⟨rfl, rfl⟩)
      go_round
      case rel => exact ⟨k + 1, by omega, by go_num⟩
      case measure => simp [intOf]; omega
    · obtain rfl : k = I := by omega
      go_wp2_with (first | (go_at_call 151; refine (space_any _ _).mono ?_; rintro e w' ⟨rfl, rfl⟩) | (go_at_call 152; ((with_reducible refine (C1.out _).mono ?_); rintro e w' ⟨rfl, rfl⟩)) | (go_at_call 153; refine (CC.out _).mono ?_; rintro e w' ⟨rfl, rfl⟩))
      go_ret2
      exact ⟨rfl, rfl⟩
set_option maxHeartbeats 2000000 in
theorem rnS_nend_qend_far (s : ByteArray) (I M : Nat) (x : Int) (ok : Bool) (w : World)
    (hs : s.size ≤ 1048576) (hF : I ≤ M) (hM : M ≤ s.size)
    (HB : Hid (∀ (j : Nat) (h : j < s.size), j < I → blnB (s[j].toNat : Int) = true))
    (hI : I ≤ s.size) (hI2 : s.size ≤ I)
    (hM2 : s.size ≤ M)
    (C1 : Hid (∀ W, Calls Tryz.prog 152 #[.string s, .int .i64 (I : Int)] W fun e w' => e = .returned (.int .i64 (M : Int)) ∧ W = w'))
    (CC : Hid (∀ W, Calls Tryz.prog 153 #[.string (s.extract I M), .string (ByteArray.mk #[])] W fun e w' => e = .returned (.tuple #[.int .i64 x, .bool ok]) ∧ W = w'))
    (hf : 60 < M)
    (hne : I < M) :
    Calls Tryz.prog 121 #[.string s] w fun e w' => e = .returned (.tuple #[.int .i64 0, .int .i64 0]) ∧ w = w' := by
  have hsl := sl_eq (P := Tryz.prog) Tryz.underlying9 s (I : Int) (M : Int) I M (by omega) rfl (by omega) (by omega)
  have hz : ((M : Int) - (I : Int) == 0) = false := by simp; omega
  clear hne
  go_enter Tryz.func121, Tryz.ntmps121
  go_wp2_with fail
  go_loop [4] (fun i => ∃ k : Nat, k ≤ I ∧ i = .int .i64 k) (fun i => I - (intOf i).toNat)
  case atStart => exact ⟨0, by omega, rfl⟩
  case round =>
    obtain ⟨k, hk, rfl⟩ := hrel
    by_cases hlt : k < I
    · have a1 := HB.out k (by omega) hlt
      have hb2 : s[k].toNat < 256 := s[k].toNat_lt
      go_wp2_with (go_at_call 151; refine (space_any _ _).mono ?_; rintro e w' ⟨rfl, rfl⟩)
      go_round
      case rel => exact ⟨k + 1, by omega, by go_num⟩
      case measure => simp [intOf]; omega
    · obtain rfl : k = I := by omega
      go_wp2_with (first | (go_at_call 151; refine (space_any _ _).mono ?_; rintro e w' ⟨rfl, rfl⟩) | (go_at_call 152; ((with_reducible refine (C1.out _).mono ?_); rintro e w' ⟨rfl, rfl⟩)) | (go_at_call 153; refine (CC.out _).mono ?_; rintro e w' ⟨rfl, rfl⟩))
      go_ret2
      exact ⟨rfl, rfl⟩
set_option maxHeartbeats 2000000 in
theorem rnS_nend_qend_empty (s : ByteArray) (I M : Nat) (x : Int) (ok : Bool) (w : World)
    (hs : s.size ≤ 1048576) (hF : I ≤ M) (hM : M ≤ s.size)
    (HB : Hid (∀ (j : Nat) (h : j < s.size), j < I → blnB (s[j].toNat : Int) = true))
    (hI : I ≤ s.size) (hI2 : s.size ≤ I)
    (hM2 : s.size ≤ M)
    (C1 : Hid (∀ W, Calls Tryz.prog 152 #[.string s, .int .i64 (I : Int)] W fun e w' => e = .returned (.int .i64 (M : Int)) ∧ W = w'))
    (CC : Hid (∀ W, Calls Tryz.prog 153 #[.string (s.extract I M), .string (ByteArray.mk #[])] W fun e w' => e = .returned (.tuple #[.int .i64 x, .bool ok]) ∧ W = w'))
    (hne : I = M) :
    Calls Tryz.prog 121 #[.string s] w fun e w' => e = .returned (.tuple #[.int .i64 0, .int .i64 0]) ∧ w = w' := by
  have hsl := sl_eq (P := Tryz.prog) Tryz.underlying9 s (I : Int) (M : Int) I M (by omega) rfl (by omega) (by omega)
  have hz : ((M : Int) - (I : Int) == 0) = true := by simp; omega
  clear hne
  go_enter Tryz.func121, Tryz.ntmps121
  go_wp2_with fail
  go_loop [4] (fun i => ∃ k : Nat, k ≤ I ∧ i = .int .i64 k) (fun i => I - (intOf i).toNat)
  case atStart => exact ⟨0, by omega, rfl⟩
  case round =>
    obtain ⟨k, hk, rfl⟩ := hrel
    by_cases hlt : k < I
    · have a1 := HB.out k (by omega) hlt
      have hb2 : s[k].toNat < 256 := s[k].toNat_lt
      go_wp2_with (go_at_call 151; refine (space_any _ _).mono ?_; rintro e w' ⟨rfl, rfl⟩)
      go_round
      case rel => exact ⟨k + 1, by omega, by go_num⟩
      case measure => simp [intOf]; omega
    · obtain rfl : k = I := by omega
      go_wp2_with (first | (go_at_call 151; refine (space_any _ _).mono ?_; rintro e w' ⟨rfl, rfl⟩) | (go_at_call 152; ((with_reducible refine (C1.out _).mono ?_); rintro e w' ⟨rfl, rfl⟩)) | (go_at_call 153; refine (CC.out _).mono ?_; rintro e w' ⟨rfl, rfl⟩))
      go_ret2
      exact ⟨rfl, rfl⟩
set_option maxHeartbeats 2000000 in
theorem rnS_nend_qend_great (s : ByteArray) (I M : Nat) (w : World)
    (hs : s.size ≤ 1048576) (hF : I ≤ M) (hM : M ≤ s.size)
    (HB : Hid (∀ (j : Nat) (h : j < s.size), j < I → blnB (s[j].toNat : Int) = true))
    (hI : I ≤ s.size) (hI2 : s.size ≤ I)
    (hM2 : s.size ≤ M)
    (C1 : Hid (∀ W, Calls Tryz.prog 152 #[.string s, .int .i64 (I : Int)] W fun e w' => e = .returned (.int .i64 (M : Int)) ∧ W = w'))
    (CC : Hid (∀ W, Calls Tryz.prog 153 #[.string (s.extract I M), .string (ByteArray.mk #[])] W fun e w' => e = .returned (.tuple #[.int .i64 0, .bool false]) ∧ W = w'))
    (hf : M ≤ 60)
    (hne : I < M) :
    Calls Tryz.prog 121 #[.string s] w fun e w' => e = .returned (.tuple #[.int .i64 0, .int .i64 0]) ∧ w = w' := by
  have hsl := sl_eq (P := Tryz.prog) Tryz.underlying9 s (I : Int) (M : Int) I M (by omega) rfl (by omega) (by omega)
  have hz : ((M : Int) - (I : Int) == 0) = false := by simp; omega
  clear hne
  go_enter Tryz.func121, Tryz.ntmps121
  go_wp2_with fail
  go_loop [4] (fun i => ∃ k : Nat, k ≤ I ∧ i = .int .i64 k) (fun i => I - (intOf i).toNat)
  case atStart => exact ⟨0, by omega, rfl⟩
  case round =>
    obtain ⟨k, hk, rfl⟩ := hrel
    by_cases hlt : k < I
    · have a1 := HB.out k (by omega) hlt
      have hb2 : s[k].toNat < 256 := s[k].toNat_lt
      go_wp2_with (go_at_call 151; refine (space_any _ _).mono ?_; rintro e w' ⟨rfl, rfl⟩)
      go_round
      case rel => exact ⟨k + 1, by omega, by go_num⟩
      case measure => simp [intOf]; omega
    · obtain rfl : k = I := by omega
      go_wp2_with (first | (go_at_call 151; refine (space_any _ _).mono ?_; rintro e w' ⟨rfl, rfl⟩) | (go_at_call 152; ((with_reducible refine (C1.out _).mono ?_); rintro e w' ⟨rfl, rfl⟩)) | (go_at_call 153; refine (CC.out _).mono ?_; rintro e w' ⟨rfl, rfl⟩))
      go_ret2
      exact ⟨rfl, rfl⟩
set_option maxHeartbeats 2000000 in
theorem rnS_nend_qend_yes (s : ByteArray) (I M : Nat) (v : Nat) (w : World)
    (hs : s.size ≤ 1048576) (hF : I ≤ M) (hM : M ≤ s.size)
    (HB : Hid (∀ (j : Nat) (h : j < s.size), j < I → blnB (s[j].toNat : Int) = true))
    (hI : I ≤ s.size) (hI2 : s.size ≤ I)
    (hM2 : s.size ≤ M)
    (C1 : Hid (∀ W, Calls Tryz.prog 152 #[.string s, .int .i64 (I : Int)] W fun e w' => e = .returned (.int .i64 (M : Int)) ∧ W = w'))
    (CC : Hid (∀ W, Calls Tryz.prog 153 #[.string (s.extract I M), .string (ByteArray.mk #[])] W fun e w' => e = .returned (.tuple #[.int .i64 (v : Int), .bool true]) ∧ W = w'))
    (hv : v ≤ 1000000000000)
    (hf : M ≤ 60)
    (hne : I < M) :
    Calls Tryz.prog 121 #[.string s] w fun e w' => e = .returned (.tuple #[.int .i64 (v : Int), .int .i64 (M : Int)]) ∧ w = w' := by
  have hsl := sl_eq (P := Tryz.prog) Tryz.underlying9 s (I : Int) (M : Int) I M (by omega) rfl (by omega) (by omega)
  have hz : ((M : Int) - (I : Int) == 0) = false := by simp; omega
  clear hne
  go_enter Tryz.func121, Tryz.ntmps121
  go_wp2_with fail
  go_loop [4] (fun i => ∃ k : Nat, k ≤ I ∧ i = .int .i64 k) (fun i => I - (intOf i).toNat)
  case atStart => exact ⟨0, by omega, rfl⟩
  case round =>
    obtain ⟨k, hk, rfl⟩ := hrel
    by_cases hlt : k < I
    · have a1 := HB.out k (by omega) hlt
      have hb2 : s[k].toNat < 256 := s[k].toNat_lt
      go_wp2_with (go_at_call 151; refine (space_any _ _).mono ?_; rintro e w' ⟨rfl, rfl⟩)
      go_round
      case rel => exact ⟨k + 1, by omega, by go_num⟩
      case measure => simp [intOf]; omega
    · obtain rfl : k = I := by omega
      go_wp2_with (first | (go_at_call 151; refine (space_any _ _).mono ?_; rintro e w' ⟨rfl, rfl⟩) | (go_at_call 152; ((with_reducible refine (C1.out _).mono ?_); rintro e w' ⟨rfl, rfl⟩)) | (go_at_call 153; refine (CC.out _).mono ?_; rintro e w' ⟨rfl, rfl⟩))
      go_ret2
      exact ⟨rfl, rfl⟩
end Go.Proofs.YthffjcclcladoaaGreatDoor.kit
