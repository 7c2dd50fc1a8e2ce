/-
  Contracts of spec.l01Digit and impl.isDigit: whether a byte, or a sign, is a digit. Conditions: a byte is one of 0 .. 255.
-/
import Derived.Test.YtebeoijoljlhiaaGreatDoorMInfo
namespace Go.Proofs.YtebeoijoljlhiaaGreatDoor.kit
open Go.ChangeShapes Go.WideShapes Go.ChangeAt Go.RowKit
set_option linter.unusedVariables false

def digB (c : Int) : Bool := inB c 48 57
theorem dig_any (c : Int) (w : World) (h0 : 0 ≤ c) (h1 : c ≤ 255) :
    Calls Tryz.prog 124 #[.int .u8 c] w fun e w' => e = .returned (.bool (digB c)) ∧ w = w' := by
  go_enter Tryz.func124, Tryz.ntmps124
  go_wp2_with (go_at_call 67; refine (in_any _ _ _ _).mono ?_; rintro e w' ⟨rfl, rfl⟩)
  go_ret
  exact ⟨rfl, rfl⟩
theorem isDigit_any (c : Int) (w : World) :
    Calls Tryz.prog 114 #[.int .i32 c] w fun e w' => e = .returned (.bool (digB c)) ∧ w = w' := by
  by_cases h1 : 48 ≤ c
  · by_cases h2 : c ≤ 57
    · have E := Lib.hid (show digB c = true by simp [digB, inB, h1, h2])
      go_enter Tryz.func114, Tryz.ntmps114
      go_wp2
      go_ret
      exact ⟨ret_bool E.out.symm, rfl⟩
    · have E := Lib.hid (show digB c = false by simp [digB, inB, h1, h2])
      go_enter Tryz.func114, Tryz.ntmps114
      go_wp2
      go_ret
      exact ⟨ret_bool E.out.symm, rfl⟩
  · have E := Lib.hid (show digB c = false by simp [digB, inB, h1])
    go_enter Tryz.func114, Tryz.ntmps114
    go_wp2
    go_ret
    exact ⟨ret_bool E.out.symm, rfl⟩

end Go.Proofs.YtebeoijoljlhiaaGreatDoor.kit
/-
  Contracts of spec.l01Letter, impl.isNameSign, spec.NameOk and impl.NameOk: for every text both of the last give the same Bool 'nameB' of its bytes. Conditions: the text has at most maxLen bytes.
-/
namespace Go.Proofs.YtebeoijoljlhiaaGreatDoor.kit
open Go.ChangeShapes Go.WideShapes Go.ChangeAt Go.RowKit
set_option linter.unusedVariables false

def letB (c : Int) : Bool := inB c 97 122 || inB c 65 90 || decide (c = 95)
theorem let_any (c : Int) (w : World) (h0 : 0 ≤ c) (h1 : c ≤ 255) :
    Calls Tryz.prog 121 #[.int .u8 c] w fun e w' => e = .returned (.bool (letB c)) ∧ w = w' := by
  cases a1 : inB c 97 122
  · cases a2 : inB c 65 90
    · have e : letB c = (c == 95) := by simp only [letB, a1, a2, Bool.false_or]; rw [Bool.eq_iff_iff]; simp
      have E := Lib.hid e; clear e
      go_enter Tryz.func121, Tryz.ntmps121
      go_wp2_with (go_at_call 67; refine (in_any _ _ _ _).mono ?_; rintro e w' ⟨rfl, rfl⟩)
      go_ret
      exact ⟨ret_bool E.out.symm, rfl⟩
    · have e : letB c = true := by simp only [letB, a1, a2, Bool.or_true, Bool.true_or]
      have E := Lib.hid e; clear e
      go_enter Tryz.func121, Tryz.ntmps121
      go_wp2_with (go_at_call 67; refine (in_any _ _ _ _).mono ?_; rintro e w' ⟨rfl, rfl⟩)
      go_ret
      exact ⟨ret_bool E.out.symm, rfl⟩
  · have e : letB c = true := by simp only [letB, a1, Bool.true_or]
    have E := Lib.hid e; clear e
    go_enter Tryz.func121, Tryz.ntmps121
    go_wp2_with (go_at_call 67; refine (in_any _ _ _ _).mono ?_; rintro e w' ⟨rfl, rfl⟩)
    go_ret
    exact ⟨ret_bool E.out.symm, rfl⟩

/-- Whether a byte may stand at a place of a name. -/
def okB (c : UInt8) (j : Nat) : Bool := letB c.toNat || (decide (0 < j) && digB c.toNat)
def OkTo (s : ByteArray) (k : Nat) : Prop := ∀ (j : Nat) (h : j < s.size), j < k → okB s[j] j = true
open Classical in
noncomputable def nameB (s : ByteArray) : Bool := decide (OkTo s s.size) && inB s.size 1 20
theorem name_no {s : ByteArray} {k : Nat} (h : k < s.size) (hk : okB s[k] k = false) : nameB s = false := by
  have : ¬ OkTo s s.size := fun g => by have := g k h h; rw [hk] at this; cases this
  simp [nameB, this]
theorem name_all {s : ByteArray} {k : Nat} (h : OkTo s k) (hk : s.size ≤ k) : nameB s = inB s.size 1 20 := by
  have : OkTo s s.size := fun j hj _ => h j hj (by omega)
  simp [nameB, this]
theorem okTo_snoc {s : ByteArray} {k : Nat} (h : OkTo s k) (hk : k < s.size) (ho : okB s[k] k = true) : OkTo s (k + 1) := by
  intro j hj hjk
  by_cases e : j = k
  · subst e; exact ho
  · exact h j hj (by omega)

set_option maxHeartbeats 400000 in
theorem specName_any (s : ByteArray) (w : World) (hs : s.size ≤ maxLen) :
    Calls Tryz.prog 123 #[.string s] w fun e w' => e = .returned (.bool (nameB s)) ∧ w = w' := by
  unfold maxLen at hs
  go_enter Tryz.func123, Tryz.ntmps123
  go_wp2
  go_loop [3] (fun i => ∃ k : Nat, k ≤ s.size ∧ i = .int .i64 k ∧ OkTo s k) (fun i => s.size - (intOf i).toNat)
  case atStart => exact ⟨0, Nat.zero_le _, rfl, fun j _ h => by omega⟩
  case round =>
    obtain ⟨k, hk, rfl, hok⟩ := hrel
    have HK := Lib.hid hok; clear hok
    by_cases hlt : k < s.size
    · have hb : s[k].toNat < 256 := s[k].toNat_lt
      cases a1 : letB s[k].toNat
      · by_cases h0 : 0 < k
        · cases a2 : digB s[k].toNat
          · have e := name_no hlt (by simp [okB, a1, a2])
            have E := Lib.hid e; clear e
            go_wp2_with (first | (go_at_call 121; refine (let_any _ _ (by omega) (by omega)).mono ?_; rintro e w' ⟨rfl, rfl⟩) | (go_at_call 124; refine (dig_any _ _ (by omega) (by omega)).mono ?_; rintro e w' ⟨rfl, rfl⟩))
            go_ret
            exact ⟨ret_bool E.out.symm, rfl⟩
          · have HN := Lib.hid (okTo_snoc HK.out hlt (by simp [okB, a1, a2, h0]))
            go_wp2_with (first | (go_at_call 121; refine (let_any _ _ (by omega) (by omega)).mono ?_; rintro e w' ⟨rfl, rfl⟩) | (go_at_call 124; refine (dig_any _ _ (by omega) (by omega)).mono ?_; rintro e w' ⟨rfl, rfl⟩))
            go_round
            case rel => exact ⟨k + 1, by omega, by go_num, HN.out⟩
            case measure => simp [intOf]; omega
        · have e := name_no hlt (by simp [okB, a1, h0])
          have E := Lib.hid e; clear e
          obtain rfl : k = 0 := by omega
          go_wp2_with (first | (go_at_call 121; refine (let_any _ _ (by omega) (by omega)).mono ?_; rintro e w' ⟨rfl, rfl⟩) | (go_at_call 124; refine (dig_any _ _ (by omega) (by omega)).mono ?_; rintro e w' ⟨rfl, rfl⟩))
          go_ret
          exact ⟨ret_bool E.out.symm, rfl⟩
      · have HN := Lib.hid (okTo_snoc HK.out hlt (by simp [okB, a1]))
        go_wp2_with (first | (go_at_call 121; refine (let_any _ _ (by omega) (by omega)).mono ?_; rintro e w' ⟨rfl, rfl⟩) | (go_at_call 124; refine (dig_any _ _ (by omega) (by omega)).mono ?_; rintro e w' ⟨rfl, rfl⟩))
        go_round
        case rel => exact ⟨k + 1, by omega, by go_num, HN.out⟩
        case measure => simp [intOf]; omega
    · have E := Lib.hid (name_all HK.out (by omega))
      cases a1 : inB s.size 1 20
      · go_wp2_with (go_at_call 67; refine (in_any _ _ _ _).mono ?_; rintro e w' ⟨rfl, rfl⟩)
        go_ret
        exact ⟨ret_bool (by rw [E.out, a1]), rfl⟩
      · have h4 : s.size ≤ 4000 := by
          have : (1 : Int) ≤ s.size ∧ (s.size : Int) ≤ 20 := by simpa [inB] using a1
          omega
        go_wp2_with (go_at_call 67; refine (in_any _ _ _ _).mono ?_; rintro e w' ⟨rfl, rfl⟩)
        go_ret
        exact ⟨ret_bool (by rw [E.out, a1]; exact decide_eq_true (by omega)), rfl⟩

def signB (c : Int) : Bool := letB c || digB c
theorem sign_of_let {c : Int} (h : 97 ≤ c ∧ c ≤ 122 ∨ 65 ≤ c ∧ c ≤ 90 ∨ c = 95) : signB c = true := by
  simp only [signB, letB, inB, Bool.or_eq_true, decide_eq_true_eq]; omega
theorem sign_of_dig {c : Int} (h : ¬ (97 ≤ c ∧ c ≤ 122) ∧ ¬ (65 ≤ c ∧ c ≤ 90) ∧ c ≠ 95) : signB c = digB c := by
  rw [Bool.eq_iff_iff]; simp only [signB, digB, letB, inB, Bool.or_eq_true, decide_eq_true_eq]; omega
set_option maxHeartbeats 400000 in
theorem isNameSign_any (c : Int) (w : World) :
    Calls Tryz.prog 116 #[.int .i32 c] w fun e w' => e = .returned (.bool (signB c)) ∧ w = w' := by
  have key : ∀ (a1 a2 a3 a4 : Bool), decide (97 ≤ c) = a1 → decide (c ≤ 122) = a2 → decide (65 ≤ c) = a3 → decide (c ≤ 90) = a4 → ∀ a5 : Bool, (c == 95) = a5 →
      Calls Tryz.prog 116 #[.int .i32 c] w fun e w' => e = .returned (.bool (signB c)) ∧ w = w' := by
    intro a1 a2 a3 a4 h1 h2 h3 h4 a5 h5
    have E : Hid (((a1 && a2 || a3 && a4 || a5) = true → signB c = true) ∧ ((a1 && a2 || a3 && a4 || a5) = false → signB c = digB c)) := by
      refine Lib.hid ⟨fun h => sign_of_let ?_, fun h => sign_of_dig ?_⟩
      · subst h1 h2 h3 h4 h5
        simp only [Bool.or_eq_true, Bool.and_eq_true, decide_eq_true_eq, beq_iff_eq] at h; omega
      · subst h1 h2 h3 h4 h5
        simp only [Bool.or_eq_false_iff, Bool.and_eq_false_iff, decide_eq_false_iff_not, beq_eq_false_iff_ne] at h; omega
    cases a1 <;> cases a2 <;> cases a3 <;> cases a4 <;> cases a5 <;>
    (go_enter Tryz.func116, Tryz.ntmps116
     go_wp2_with (go_at_call 114; refine (isDigit_any _ _).mono ?_; rintro e w' ⟨rfl, rfl⟩)
     go_ret
     first | exact ⟨ret_bool (E.out.1 rfl).symm, rfl⟩ | exact ⟨ret_bool (E.out.2 rfl).symm, rfl⟩)
  exact key _ _ _ _ rfl rfl rfl rfl _ rfl

theorem ok_of_not_sign {c : UInt8} {j : Nat} (h : signB c.toNat = false) : okB c j = false := by
  simp only [signB, Bool.or_eq_false_iff] at h
  simp [okB, h.1, h.2]
theorem ok_of_first {c : UInt8} (h : digB c.toNat = true) : okB c 0 = false := by
  simp only [okB, digB, letB, inB, decide_eq_true_eq] at h ⊢
  simp; omega
theorem ok_of_first' {c : UInt8} (h : signB c.toNat = true) (hd : digB c.toNat = false) (j : Nat) : okB c j = true := by
  simp only [signB, hd, Bool.or_false] at h
  simp [okB, h]
theorem ok_of_later {c : UInt8} {j : Nat} (h : signB c.toNat = true) (hj : 0 < j) : okB c j = true := by
  simp only [signB] at h
  simp [okB, hj, h]
theorem sign_high {c : Int} (h : 128 ≤ c) : signB c = false := by
  rw [Bool.eq_false_iff]; simp only [signB, digB, letB, inB, ne_eq, Bool.or_eq_true, decide_eq_true_eq]; omega
theorem name_in {s : ByteArray} (h : ¬ (1 ≤ s.size ∧ s.size ≤ 20)) : nameB s = false := by
  have : inB s.size 1 20 = false := by simp only [inB, decide_eq_false_iff_not]; omega
  simp [nameB, this]
theorem name_yes {s : ByteArray} {k : Nat} (h : OkTo s k) (hk : s.size ≤ k) (h1 : 1 ≤ s.size) (h2 : s.size ≤ 20) : nameB s = true := by
  rw [name_all h hk]; simp only [inB, decide_eq_true_eq]; omega

set_option maxHeartbeats 400000 in
theorem implName_any (s : ByteArray) (w : World) :
    Calls Tryz.prog 176 #[.string s] w fun e w' => e = .returned (.bool (nameB s)) ∧ Below w.heap.size w w' := by
  by_cases h0 : s.size = 0
  · have he := empty_of_size h0
    have E := Lib.hid (name_in (s := s) (by omega))
    clear h0
    go_enter Tryz.func176, Tryz.ntmps176
    go_wp2
    go_ret
    exact ⟨ret_bool E.out.symm, Below.refl _ _⟩
  · have he := not_empty_of_size h0
    have h1 : 1 ≤ s.size := by omega
    clear h0
    by_cases h20 : 20 < s.size
    · have E := Lib.hid (name_in (s := s) (by omega))
      go_enter Tryz.func176, Tryz.ntmps176
      go_wp2
      go_ret
      exact ⟨ret_bool E.out.symm, Below.refl _ _⟩
    · have hd : decide (20 < s.size) = false := by simpa using h20
      go_enter Tryz.func176, Tryz.ntmps176
      go_wp2
      go_loopw [] (fun w' => ∃ pos : Nat, w' = w.iter s pos ∧ OkTo s pos ∧ pos ≤ s.size) (fun w' => s.size - w'.iterPos w.heap.size)
      case atStart => exact ⟨0, rfl, fun j _ h => by omega, by omega⟩
      case round =>
        obtain ⟨pos, rfl, hok, hple⟩ := hrel
        have HK := Lib.hid hok; clear hok
        by_cases hp : pos < s.size
        · by_cases ha : s[pos].toNat < 128
          · have hnx : ∀ ty, (Instr.next (.pointer (some ⟨w.heap.size, 0, none⟩)) true ty).run Tryz.prog (w.iter s pos) = _ := fun ty => run_next_ascii w s pos ty hp ha
            have hc : (s[pos].toNat : Int) = (s[pos].toNat : Int) := rfl
            clear hc
            cases a1 : signB s[pos].toNat
            · have E := Lib.hid (name_no hp (ok_of_not_sign a1))
              go_wp2_with (first | (go_at_call 116; refine (isNameSign_any _ _).mono ?_; rintro e w' ⟨rfl, rfl⟩) | (go_at_call 114; refine (isDigit_any _ _).mono ?_; rintro e w' ⟨rfl, rfl⟩))
              go_ret
              exact ⟨ret_bool E.out.symm, (Below.refl _ _).alloc (Nat.le_refl _) _⟩
            · by_cases hz : pos = 0
              · subst hz
                cases a2 : digB s[0].toNat
                · have HN := Lib.hid (okTo_snoc HK.out hp (ok_of_first' a1 a2 0))
                  go_wp2_with (first | (go_at_call 116; refine (isNameSign_any _ _).mono ?_; rintro e w' ⟨rfl, rfl⟩) | (go_at_call 114; refine (isDigit_any _ _).mono ?_; rintro e w' ⟨rfl, rfl⟩))
                  go_roundw
                  case rel => exact ⟨0 + 1, rfl, HN.out, by omega⟩
                  case measure => simp; omega
                · have E := Lib.hid (name_no hp (ok_of_first a2))
                  go_wp2_with (first | (go_at_call 116; refine (isNameSign_any _ _).mono ?_; rintro e w' ⟨rfl, rfl⟩) | (go_at_call 114; refine (isDigit_any _ _).mono ?_; rintro e w' ⟨rfl, rfl⟩))
                  go_ret
                  exact ⟨ret_bool E.out.symm, (Below.refl _ _).alloc (Nat.le_refl _) _⟩
              · have HN := Lib.hid (okTo_snoc HK.out hp (ok_of_later a1 (by omega)))
                have hz2 : ((pos : Int) == 0) = false := by simp; omega
                clear hz
                go_wp2_with (first | (go_at_call 116; refine (isNameSign_any _ _).mono ?_; rintro e w' ⟨rfl, rfl⟩) | (go_at_call 114; refine (isDigit_any _ _).mono ?_; rintro e w' ⟨rfl, rfl⟩))
                go_roundw
                case rel => exact ⟨pos + 1, rfl, HN.out, by omega⟩
                case measure => simp; omega
          · have hh := decode_high s pos hp (by omega)
            have hnx : ∀ ty, (Instr.next (.pointer (some ⟨w.heap.size, 0, none⟩)) true ty).run Tryz.prog (w.iter s pos) = _ := fun ty => run_next_any w s pos ty hp
            generalize hu : (Utf8.decode s pos).1 = u at hnx hh
            generalize hv : (Utf8.decode s pos).2 = v at hnx hh
            clear hu hv
            have hsg : signB (u : Int) = false := sign_high (by omega)
            have hsb : signB s[pos].toNat = false := sign_high (by omega)
            have E := Lib.hid (name_no hp (ok_of_not_sign hsb))
            clear hsb
            go_wp2_with (first | (go_at_call 116; refine (isNameSign_any _ _).mono ?_; rintro e w' ⟨rfl, rfl⟩) | (go_at_call 114; refine (isDigit_any _ _).mono ?_; rintro e w' ⟨rfl, rfl⟩))
            go_ret
            exact ⟨ret_bool E.out.symm, (Below.refl _ _).alloc (Nat.le_refl _) _⟩
        · have hnx : ∀ ty, (Instr.next (.pointer (some ⟨w.heap.size, 0, none⟩)) true ty).run Tryz.prog (w.iter s pos) = _ := fun ty => run_next_end w s pos ty hp
          have E := Lib.hid (name_yes HK.out (by omega) h1 (by omega))
          go_wp2
          go_ret
          exact ⟨ret_bool E.out.symm, (Below.refl _ _).alloc (Nat.le_refl _) _⟩

end Go.Proofs.YtebeoijoljlhiaaGreatDoor.kit
