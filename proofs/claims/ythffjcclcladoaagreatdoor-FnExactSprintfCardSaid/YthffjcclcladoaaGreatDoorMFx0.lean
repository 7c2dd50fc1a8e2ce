/-
  Contracts of spec.Fixed and impl.Fixed over this seat's translation. Conditions: the table of the powers of ten is as listed.
-/
import Derived.Test.YthffjcclcladoaaGreatDoorMNt0
import Derived.Test.YthffjcclcladoaaGreatDoorMInfo
import Derived.Test.YthffjcclcladoaaGreatDoorMDec
import Derived.Test.YthffjcclcladoaaGreatDoorMTab0
namespace Go.Proofs.YthffjcclcladoaaGreatDoor.kit
open Go.ChangeShapes Go.WideShapes Go.ChangeAt Go.RowKit
set_option linter.unusedVariables false

/-- A whole number's text, and a number's with so many digits behind the point. -/
def itT (q : Nat) : ByteArray := ⟨(Lib.itoa (q : Int)).toArray⟩
theorem itT_le (q : Nat) (h : q ≤ 9223372036854775807) : (itT q).size ≤ 21 := by
  have := Lib.itoa_length_le (q : Int) (by omega) (by omega)
  show (Lib.itoa (q : Int)).toArray.size ≤ 21
  rw [List.size_toArray]; omega
def fxP (N d : Nat) : ByteArray := itT (N / 1000000) ++ (if d = 0 then ⟨#[]⟩ else ⟨#[46]⟩ ++ (milT (N % 1000000)).extract 1 (1 + d))
theorem bapp_nil (s : ByteArray) : s ++ (⟨#[]⟩ : ByteArray) = s := ByteArray.append_empty
theorem bnil_app (s : ByteArray) : (⟨#[]⟩ : ByteArray) ++ s = s := ByteArray.empty_append
theorem fxP_le (N d : Nat) (h : N ≤ 1000000000000) : (fxP N d).size ≤ 40 := by
  have h1 := itT_le (N / 1000000) (by omega)
  have h2 := milT_size (N % 1000000) (Nat.mod_lt _ (by omega))
  unfold fxP
  rw [ByteArray.size_append]
  split
  · show _ + 0 ≤ 40; omega
  · rw [ByteArray.size_append, ByteArray.size_extract, h2]
    show _ + (1 + _) ≤ 40; omega
def fxA (a b : Int) : ByteArray := if numB a = true ∧ 0 ≤ b ∧ b ≤ 6 then (if a < 0 then ⟨#[45]⟩ ++ fxP a.natAbs b.toNat else fxP a.toNat b.toNat) else ⟨#[]⟩
set_option maxRecDepth 100000 in
set_option maxHeartbeats 1000000 in
theorem implFx_pos (N d : Nat) (w : World) (hN : N ≤ 1000000000000) (hd : d ≤ 6) (ht : Tab w) :
    Calls Tryz.prog 15 #[.int .i64 (N : Int), .int .i64 (d : Int)] w fun e w' => e = .returned (.string (fxP N d)) ∧ Below w.heap.size w w' := by
  have hb : numB (N : Int) = true := by simp [numB, inB]; omega
  have C0 := fun W => isNum_any (N : Int) W
  rw [hb] at C0
  have C0 := Lib.hid C0
  obtain ⟨q, hq⟩ : ∃ q : Nat, q = N / 1000000 := ⟨_, rfl⟩
  obtain ⟨m, hm⟩ : ∃ m : Nat, m = N % 1000000 := ⟨_, rfl⟩
  have hqi : (N : Int) / 1000000 = (q : Int) := by omega
  have hmi : (N : Int) % 1000000 = (m : Int) := by omega
  have hm1 : m < 1000000 := by omega
  have hq1 : q ≤ 1000000 := by omega
  have C := Lib.hid (show ∀ W, Tab W → Calls Tryz.prog 55 #[.int .i64 (q : Int)] W fun e w' => e = .returned (.string (itT q)) ∧ Below W.heap.size W w' from fun W hW => implDec_any _ W (by omega) (by omega) hW)
  have D := Lib.hid (show ∀ W, Tab W → Calls Tryz.prog 55 #[.int .i64 (1000000 + (m : Int))] W fun e w' => e = .returned (.string (milT m)) ∧ Below W.heap.size W w' from fun W hW => implDec_any _ W (by omega) (by omega) hW)
  have HT := Lib.hid ht
  have n0 : ¬ (N : Int) < 0 := by omega
  have l0 : (itT q).size ≤ 21 := itT_le q (by omega)
  have l7 : (milT m).size = 7 := milT_size m hm1
  have d0 : ¬ (d : Int) < 0 := by omega
  have d6 : ¬ 6 < (d : Int) := by omega
  have HF := Lib.hid (show fxP N d = itT q ++ (if d = 0 then ⟨#[]⟩ else ⟨#[46]⟩ ++ (milT m).extract 1 (1 + d)) by rw [hq, hm]; rfl)
  clear ht hb hq hm
  by_cases c : d = 0
  · subst c
    have E := Lib.hid (show itT q = fxP N 0 by rw [HF.out, if_pos rfl, bapp_nil])
    go_enter Tryz.func15, Tryz.ntmps15
    go_wp2_with fail
    refine (C0.out _).mono ?_
    rintro e w1 ⟨rfl, rfl⟩
    go_wp2_with fail
    refine (C.out _ HT.out).mono ?_
    rintro e w1 ⟨rfl, hb1⟩
    go_wp2
    go_ret
    exact ⟨ret_str E.out, hb1⟩
  · have E := Lib.hid (show itT q ++ ⟨#[46]⟩ ++ (milT m).extract 1 (1 + d) = fxP N d by rw [HF.out, if_neg c, ByteArray.append_assoc])
    have c1 : ((d : Int) == 0) = false := by simpa using c
    have c2 : (1 : Int) ≤ 1 + (d : Int) := by omega
    have c3 : (0 : Int) ≤ 1 + (d : Int) := by omega
    generalize milT m = t at *
    generalize itT q = x at *
    have hs : ∀ (W : World), (Instr.slice 9 (.string t) (some (.int .i64 1)) (some (.int .i64 (1 + (d : Int)))) none).run Tryz.prog W = .ok (.string (t.extract 1 (1 + d))) W := by
      intro W
      rw [run_slice_string W _ t .i64 .i64 _ _ Tryz.underlying9 (by omega) (by omega) (by omega), show (1 + (d : Int)).toNat = 1 + d by omega]; rfl
    have hz : (t.extract 1 (1 + d)).size ≤ 6 := by rw [ByteArray.size_extract]; omega
    clear HF c
    generalize t.extract 1 (1 + d) = y at *
    go_enter Tryz.func15, Tryz.ntmps15
    go_wp2_with fail
    refine (C0.out _).mono ?_
    rintro e w1 ⟨rfl, rfl⟩
    go_wp2_with fail
    refine (C.out _ HT.out).mono ?_
    rintro e w1 ⟨rfl, hb1⟩
    have HT1 := Lib.hid (HT.out.on hb1)
    go_wp2_with fail
    refine (D.out _ HT1.out).mono ?_
    rintro e w2 ⟨rfl, hb2⟩
    go_wp2
    go_ret
    exact ⟨ret_str E.out, hb1.trans (hb2.mono hb1.size)⟩
theorem implFx_neg (N d : Nat) (w : World) (hN : N ≤ 1000000000000) (h0 : 0 < N) (hd : d ≤ 6) (ht : Tab w) :
    Calls Tryz.prog 15 #[.int .i64 (-(N : Int)), .int .i64 (d : Int)] w fun e w' => e = .returned (.string (⟨#[45]⟩ ++ fxP N d)) ∧ Below w.heap.size w w' := by
  have hb : numB (-(N : Int)) = true := by simp [numB, inB]; omega
  have C0 := fun W => isNum_any (-(N : Int)) W
  rw [hb] at C0
  have C0 := Lib.hid C0
  have D := Lib.hid (show ∀ W, Tab W → Calls Tryz.prog 15 #[.int .i64 (N : Int), .int .i64 (d : Int)] W fun e w' => e = .returned (.string (fxP N d)) ∧ Below W.heap.size W w' from fun W hW => implFx_pos N d W hN hd hW)
  have HT := Lib.hid ht
  have n0 : -(N : Int) < 0 := by omega
  have d0 : ¬ (d : Int) < 0 := by omega
  have d6 : ¬ 6 < (d : Int) := by omega
  have l1 := fxP_le N d hN
  clear ht hb h0
  go_enter Tryz.func15, Tryz.ntmps15
  go_wp2_with fail
  refine (C0.out _).mono ?_
  rintro e w1 ⟨rfl, rfl⟩
  go_wp2_with fail
  refine (D.out _ HT.out).mono ?_
  rintro e w1 ⟨rfl, hb1⟩
  go_wp2
  go_ret
  exact ⟨rfl, hb1⟩
theorem implFx_no (a b : Int) (w : World) (hb : numB a = false) :
    Calls Tryz.prog 15 #[.int .i64 a, .int .i64 b] w fun e w' => e = .returned (.string ⟨#[]⟩) ∧ Below w.heap.size w w' := by
  have C0 := fun W => isNum_any a W
  rw [hb] at C0
  have C0 := Lib.hid C0
  clear hb
  go_enter Tryz.func15, Tryz.ntmps15
  go_wp2_with fail
  refine (C0.out _).mono ?_
  rintro e w1 ⟨rfl, rfl⟩
  go_wp2
  go_ret
  exact ⟨rfl, Below.refl _ _⟩
theorem implFx_out (a b : Int) (w : World) (hb : numB a = true) (h : b < 0 ∨ 6 < b) :
    Calls Tryz.prog 15 #[.int .i64 a, .int .i64 b] w fun e w' => e = .returned (.string ⟨#[]⟩) ∧ Below w.heap.size w w' := by
  have C0 := fun W => isNum_any a W
  rw [hb] at C0
  have C0 := Lib.hid C0
  clear hb
  by_cases c : b < 0
  · clear h
    go_enter Tryz.func15, Tryz.ntmps15
    go_wp2_with fail
    refine (C0.out _).mono ?_
    rintro e w1 ⟨rfl, rfl⟩
    go_wp2
    go_ret
    exact ⟨rfl, Below.refl _ _⟩
  · have c2 : 6 < b := by omega
    clear h
    go_enter Tryz.func15, Tryz.ntmps15
    go_wp2_with fail
    refine (C0.out _).mono ?_
    rintro e w1 ⟨rfl, rfl⟩
    go_wp2
    go_ret
    exact ⟨rfl, Below.refl _ _⟩
set_option maxRecDepth 100000 in
set_option maxHeartbeats 1000000 in
theorem specFx_pos (N d : Nat) (w : World) (hN : N ≤ 1000000000000) (hd : d ≤ 6) :
    Calls Tryz.prog 21 #[.int .i64 (N : Int), .int .i64 (d : Int)] w fun e w' => e = .returned (.string (fxP N d)) ∧ w = w' := by
  have hb : numB (N : Int) = true := by simp [numB, inB]; omega
  have C0 := fun W => is_any (N : Int) W
  rw [hb] at C0
  have C0 := Lib.hid C0
  have C6 := fun W => in_any (d : Int) 0 6 W
  rw [show inB (d : Int) 0 6 = true by simp [inB]; omega] at C6
  have C6 := Lib.hid C6
  obtain ⟨q, hq⟩ : ∃ q : Nat, q = N / 1000000 := ⟨_, rfl⟩
  obtain ⟨m, hm⟩ : ∃ m : Nat, m = N % 1000000 := ⟨_, rfl⟩
  have hqi : (N : Int) / 1000000 = (q : Int) := by omega
  have hmi : (N : Int) % 1000000 = (m : Int) := by omega
  have hm1 : m < 1000000 := by omega
  have hq1 : q ≤ 1000000 := by omega
  have C := Lib.hid (show ∀ W, Calls Tryz.prog 60 #[.int .i64 (q : Int)] W fun e w' => e = .returned (.string (itT q)) ∧ W = w' from fun W => specDec_any _ W (by omega) (by omega))
  have D := Lib.hid (show ∀ W, Calls Tryz.prog 60 #[.int .i64 (1000000 + (m : Int))] W fun e w' => e = .returned (.string (milT m)) ∧ W = w' from fun W => specDec_any _ W (by omega) (by omega))
  have n0 : ¬ (N : Int) < 0 := by omega
  have l0 : (itT q).size ≤ 21 := itT_le q (by omega)
  have l7 : (milT m).size = 7 := milT_size m hm1
  have HF := Lib.hid (show fxP N d = itT q ++ (if d = 0 then ⟨#[]⟩ else ⟨#[46]⟩ ++ (milT m).extract 1 (1 + d)) by rw [hq, hm]; rfl)
  clear hb hq hm
  by_cases c : d = 0
  · subst c
    have E := Lib.hid (show itT q = fxP N 0 by rw [HF.out, if_pos rfl, bapp_nil])
    generalize itT q = x at *
    go_enter Tryz.func21, Tryz.ntmps21
    go_wp2_with fail
    refine (C0.out _).mono ?_
    rintro e w1 ⟨rfl, rfl⟩
    go_wp2_with fail
    refine (C6.out _).mono ?_
    rintro e w1 ⟨rfl, rfl⟩
    go_wp2_with fail
    refine (C.out _).mono ?_
    rintro e w1 ⟨rfl, rfl⟩
    go_wp2
    go_ret
    exact ⟨ret_str (by first | exact E.out | (rw [bnil_app]; exact E.out)), rfl⟩
  · have E := Lib.hid (show itT q ++ ⟨#[46]⟩ ++ (milT m).extract 1 (1 + d) = fxP N d by rw [HF.out, if_neg c]; simp only [ByteArray.append_assoc])
    have c1 : ((d : Int) == 0) = false := by simpa using c
    have c2 : (1 : Int) ≤ 1 + (d : Int) := by omega
    have c3 : (0 : Int) ≤ 1 + (d : Int) := by omega
    generalize milT m = t at *
    generalize itT q = x at *
    have hs : ∀ (W : World), (Instr.slice 9 (.string t) (some (.int .i64 1)) (some (.int .i64 (1 + (d : Int)))) none).run Tryz.prog W = .ok (.string (t.extract 1 (1 + d))) W := by
      intro W
      rw [run_slice_string W _ t .i64 .i64 _ _ Tryz.underlying9 (by omega) (by omega) (by omega), show (1 + (d : Int)).toNat = 1 + d by omega]; rfl
    have hz : (t.extract 1 (1 + d)).size ≤ 6 := by rw [ByteArray.size_extract]; omega
    clear HF c
    generalize t.extract 1 (1 + d) = y at *
    go_enter Tryz.func21, Tryz.ntmps21
    go_wp2_with fail
    refine (C0.out _).mono ?_
    rintro e w1 ⟨rfl, rfl⟩
    go_wp2_with fail
    refine (C6.out _).mono ?_
    rintro e w1 ⟨rfl, rfl⟩
    go_wp2_with fail
    refine (C.out _).mono ?_
    rintro e w1 ⟨rfl, rfl⟩
    go_wp2_with fail
    refine (D.out _).mono ?_
    rintro e w2 ⟨rfl, rfl⟩
    go_wp2
    go_ret
    exact ⟨ret_str (by first | exact E.out | (rw [bnil_app]; exact E.out)), rfl⟩
set_option maxRecDepth 100000 in
set_option maxHeartbeats 1000000 in
theorem specFx_neg (N d : Nat) (w : World) (hN : N ≤ 1000000000000) (h0 : 0 < N) (hd : d ≤ 6) :
    Calls Tryz.prog 21 #[.int .i64 (-(N : Int)), .int .i64 (d : Int)] w fun e w' => e = .returned (.string (⟨#[45]⟩ ++ fxP N d)) ∧ w = w' := by
  have hb : numB (-(N : Int)) = true := by simp [numB, inB]; omega
  have C0 := fun W => is_any (-(N : Int)) W
  rw [hb] at C0
  have C0 := Lib.hid C0
  have C6 := fun W => in_any (d : Int) 0 6 W
  rw [show inB (d : Int) 0 6 = true by simp [inB]; omega] at C6
  have C6 := Lib.hid C6
  obtain ⟨q, hq⟩ : ∃ q : Nat, q = N / 1000000 := ⟨_, rfl⟩
  obtain ⟨m, hm⟩ : ∃ m : Nat, m = N % 1000000 := ⟨_, rfl⟩
  have hqi : (N : Int) / 1000000 = (q : Int) := by omega
  have hmi : (N : Int) % 1000000 = (m : Int) := by omega
  have hm1 : m < 1000000 := by omega
  have hq1 : q ≤ 1000000 := by omega
  have C := Lib.hid (show ∀ W, Calls Tryz.prog 60 #[.int .i64 (q : Int)] W fun e w' => e = .returned (.string (itT q)) ∧ W = w' from fun W => specDec_any _ W (by omega) (by omega))
  have D := Lib.hid (show ∀ W, Calls Tryz.prog 60 #[.int .i64 (1000000 + (m : Int))] W fun e w' => e = .returned (.string (milT m)) ∧ W = w' from fun W => specDec_any _ W (by omega) (by omega))
  have n0 : -(N : Int) < 0 := by omega
  have l0 : (itT q).size ≤ 21 := itT_le q (by omega)
  have l7 : (milT m).size = 7 := milT_size m hm1
  have HF := Lib.hid (show fxP N d = itT q ++ (if d = 0 then ⟨#[]⟩ else ⟨#[46]⟩ ++ (milT m).extract 1 (1 + d)) by rw [hq, hm]; rfl)
  clear hb hq hm
  by_cases c : d = 0
  · subst c
    have E := Lib.hid (show ⟨#[45]⟩ ++ itT q = ⟨#[45]⟩ ++ fxP N 0 by rw [HF.out, if_pos rfl, bapp_nil])
    generalize itT q = x at *
    go_enter Tryz.func21, Tryz.ntmps21
    go_wp2_with fail
    refine (C0.out _).mono ?_
    rintro e w1 ⟨rfl, rfl⟩
    go_wp2_with fail
    refine (C6.out _).mono ?_
    rintro e w1 ⟨rfl, rfl⟩
    go_wp2_with fail
    refine (C.out _).mono ?_
    rintro e w1 ⟨rfl, rfl⟩
    go_wp2
    go_ret
    exact ⟨ret_str (by first | exact E.out | (rw [bnil_app]; exact E.out)), rfl⟩
  · have E := Lib.hid (show ⟨#[45]⟩ ++ itT q ++ ⟨#[46]⟩ ++ (milT m).extract 1 (1 + d) = ⟨#[45]⟩ ++ fxP N d by rw [HF.out, if_neg c]; simp only [ByteArray.append_assoc])
    have c1 : ((d : Int) == 0) = false := by simpa using c
    have c2 : (1 : Int) ≤ 1 + (d : Int) := by omega
    have c3 : (0 : Int) ≤ 1 + (d : Int) := by omega
    generalize milT m = t at *
    generalize itT q = x at *
    have hs : ∀ (W : World), (Instr.slice 9 (.string t) (some (.int .i64 1)) (some (.int .i64 (1 + (d : Int)))) none).run Tryz.prog W = .ok (.string (t.extract 1 (1 + d))) W := by
      intro W
      rw [run_slice_string W _ t .i64 .i64 _ _ Tryz.underlying9 (by omega) (by omega) (by omega), show (1 + (d : Int)).toNat = 1 + d by omega]; rfl
    have hz : (t.extract 1 (1 + d)).size ≤ 6 := by rw [ByteArray.size_extract]; omega
    clear HF c
    generalize t.extract 1 (1 + d) = y at *
    go_enter Tryz.func21, Tryz.ntmps21
    go_wp2_with fail
    refine (C0.out _).mono ?_
    rintro e w1 ⟨rfl, rfl⟩
    go_wp2_with fail
    refine (C6.out _).mono ?_
    rintro e w1 ⟨rfl, rfl⟩
    go_wp2_with fail
    refine (C.out _).mono ?_
    rintro e w1 ⟨rfl, rfl⟩
    go_wp2_with fail
    refine (D.out _).mono ?_
    rintro e w2 ⟨rfl, rfl⟩
    go_wp2
    go_ret
    exact ⟨ret_str (by first | exact E.out | (rw [bnil_app]; exact E.out)), rfl⟩
theorem specFx_no (a b : Int) (w : World) (hb : numB a = false) :
    Calls Tryz.prog 21 #[.int .i64 a, .int .i64 b] w fun e w' => e = .returned (.string ⟨#[]⟩) ∧ w = w' := by
  have C0 := fun W => is_any a W
  rw [hb] at C0
  have C0 := Lib.hid C0
  clear hb
  go_enter Tryz.func21, Tryz.ntmps21
  go_wp2_with fail
  refine (C0.out _).mono ?_
  rintro e w1 ⟨rfl, rfl⟩
  go_wp2
  go_ret
  exact ⟨rfl, rfl⟩
theorem specFx_out (a b : Int) (w : World) (hb : numB a = true) (h : b < 0 ∨ 6 < b) :
    Calls Tryz.prog 21 #[.int .i64 a, .int .i64 b] w fun e w' => e = .returned (.string ⟨#[]⟩) ∧ w = w' := by
  have C0 := fun W => is_any a W
  rw [hb] at C0
  have C0 := Lib.hid C0
  have C6 := fun W => in_any b 0 6 W
  rw [show inB b 0 6 = false by simp [inB]; omega] at C6
  have C6 := Lib.hid C6
  clear hb h
  go_enter Tryz.func21, Tryz.ntmps21
  go_wp2_with fail
  refine (C0.out _).mono ?_
  rintro e w1 ⟨rfl, rfl⟩
  go_wp2_with fail
  refine (C6.out _).mono ?_
  rintro e w1 ⟨rfl, rfl⟩
  go_wp2
  go_ret
  exact ⟨rfl, rfl⟩
theorem implFx_any (a b : Int) (w : World) (ht : Tab w) :
    Calls Tryz.prog 15 #[.int .i64 a, .int .i64 b] w fun e w' => e = .returned (.string (fxA a b)) ∧ Below w.heap.size w w' := by
  cases hb : numB a
  · rw [show fxA a b = ⟨#[]⟩ by simp [fxA, hb]]
    exact implFx_no a b w hb
  · by_cases h : 0 ≤ b ∧ b ≤ 6
    · have h2 : -1000000000000 ≤ a ∧ a ≤ 1000000000000 := by simpa [numB, inB] using hb
      obtain ⟨d, rfl⟩ : ∃ d : Nat, b = (d : Int) := ⟨b.toNat, by omega⟩
      by_cases hn : a < 0
      · obtain ⟨N, rfl⟩ : ∃ N : Nat, a = -(N : Int) := ⟨a.natAbs, by omega⟩
        rw [show fxA (-(N : Int)) d = ⟨#[45]⟩ ++ fxP N d by rw [fxA, if_pos ⟨hb, h⟩, if_pos hn, show (-(N : Int)).natAbs = N by omega, Int.toNat_natCast]]
        exact implFx_neg N d w (by omega) (by omega) (by omega) ht
      · obtain ⟨N, rfl⟩ : ∃ N : Nat, a = (N : Int) := ⟨a.toNat, by omega⟩
        rw [show fxA (N : Int) d = fxP N d by rw [fxA, if_pos ⟨hb, h⟩, if_neg hn, Int.toNat_natCast, Int.toNat_natCast]]
        exact implFx_pos N d w (by omega) (by omega) ht
    · rw [show fxA a b = ⟨#[]⟩ by rw [fxA, if_neg (fun x => h x.2)]]
      exact implFx_out a b w hb (by omega)
theorem specFx_any (a b : Int) (w : World) :
    Calls Tryz.prog 21 #[.int .i64 a, .int .i64 b] w fun e w' => e = .returned (.string (fxA a b)) ∧ w = w' := by
  cases hb : numB a
  · rw [show fxA a b = ⟨#[]⟩ by simp [fxA, hb]]
    exact specFx_no a b w hb
  · by_cases h : 0 ≤ b ∧ b ≤ 6
    · have h2 : -1000000000000 ≤ a ∧ a ≤ 1000000000000 := by simpa [numB, inB] using hb
      obtain ⟨d, rfl⟩ : ∃ d : Nat, b = (d : Int) := ⟨b.toNat, by omega⟩
      by_cases hn : a < 0
      · obtain ⟨N, rfl⟩ : ∃ N : Nat, a = -(N : Int) := ⟨a.natAbs, by omega⟩
        rw [show fxA (-(N : Int)) d = ⟨#[45]⟩ ++ fxP N d by rw [fxA, if_pos ⟨hb, h⟩, if_pos hn, show (-(N : Int)).natAbs = N by omega, Int.toNat_natCast]]
        exact specFx_neg N d w (by omega) (by omega) (by omega)
      · obtain ⟨N, rfl⟩ : ∃ N : Nat, a = (N : Int) := ⟨a.toNat, by omega⟩
        rw [show fxA (N : Int) d = fxP N d by rw [fxA, if_pos ⟨hb, h⟩, if_neg hn, Int.toNat_natCast, Int.toNat_natCast]]
        exact specFx_pos N d w (by omega) (by omega)
    · rw [show fxA a b = ⟨#[]⟩ by rw [fxA, if_neg (fun x => h x.2)]]
      exact specFx_out a b w hb (by omega)
end Go.Proofs.YthffjcclcladoaaGreatDoor.kit
