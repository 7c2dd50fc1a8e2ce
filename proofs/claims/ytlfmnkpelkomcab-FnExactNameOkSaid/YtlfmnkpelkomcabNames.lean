/-
  Contracts of the small functions that tell letters and digits apart, of spec.NameOk and of impl.NameOk, over this seat's translation: for every text of at most maxLen bytes both return the same Bool 'nameB' of its bytes. Conditions: none but that bound.
-/
import Derived.Test.YtlfmnkpelkomcabRows
import Derived.WalkKit
import Derived.ProofKit
import Derived.OpenShut
import Derived.ShutString
import Derived.Lib.Hide
import Derived.Deep.QuietTactic
import Derived.BigQuiet
namespace Go.Proofs.Ytlfmnkpelkomcab.nameOk
open Go.ChangeShapes Go.WideShapes Go.ChangeAt Go.RowKit
set_option linter.unusedVariables false

def inB (x a b : Int) : Bool := decide (a ≤ x ∧ x ≤ b)
def letB (c : Int) : Bool := inB c 97 122 || inB c 65 90 || decide (c = 95)
def digB (c : Int) : Bool := inB c 48 57

theorem ret_bool {a b : Bool} (h : a = b) : Ending.returned (.bool a) = .returned (.bool b) := by rw [h]

theorem in_any (x a b : Int) (w : World) :
    Calls Try.prog 15 #[.int .i64 x, .int .i64 a, .int .i64 b] w fun e w' => e = .returned (.bool (inB x a b)) ∧ w = w' := by
  by_cases h1 : a ≤ x
  · by_cases h2 : x ≤ b
    · have e : inB x a b = true := by simp [inB, h1, h2]
      have E := Lib.hid e; clear e
      go_enter Try.func15, Try.ntmps15
      go_wp2
      go_ret
      exact ⟨ret_bool E.out.symm, rfl⟩
    · have e : inB x a b = false := by simp [inB, h1, h2]
      have E := Lib.hid e; clear e
      go_enter Try.func15, Try.ntmps15
      go_wp2
      go_ret
      exact ⟨ret_bool E.out.symm, rfl⟩
  · have e : inB x a b = false := by simp [inB, h1]
    have E := Lib.hid e; clear e
    go_enter Try.func15, Try.ntmps15
    go_wp2
    go_ret
    exact ⟨ret_bool E.out.symm, rfl⟩

theorem dig_any (c : Int) (w : World) (h0 : 0 ≤ c) (h1 : c ≤ 255) :
    Calls Try.prog 14 #[.int .u8 c] w fun e w' => e = .returned (.bool (digB c)) ∧ w = w' := by
  go_enter Try.func14, Try.ntmps14
  go_wp2_with (go_at_call 15; refine (in_any _ _ _ _).mono ?_; rintro e w' ⟨rfl, rfl⟩)
  go_ret
  exact ⟨rfl, rfl⟩

theorem let_any (c : Int) (w : World) (h0 : 0 ≤ c) (h1 : c ≤ 255) :
    Calls Try.prog 13 #[.int .u8 c] w fun e w' => e = .returned (.bool (letB c)) ∧ w = w' := by
  cases a1 : inB c 97 122
  · cases a2 : inB c 65 90
    · have e : letB c = (c == 95) := by simp only [letB, a1, a2, Bool.false_or]; rw [Bool.eq_iff_iff]; simp
      have E := Lib.hid e; clear e
      go_enter Try.func13, Try.ntmps13
      go_wp2_with (go_at_call 15; refine (in_any _ _ _ _).mono ?_; rintro e w' ⟨rfl, rfl⟩)
      go_ret
      exact ⟨ret_bool E.out.symm, rfl⟩
    · have e : letB c = true := by simp only [letB, a1, a2, Bool.or_true, Bool.true_or]
      have E := Lib.hid e; clear e
      go_enter Try.func13, Try.ntmps13
      go_wp2_with (go_at_call 15; refine (in_any _ _ _ _).mono ?_; rintro e w' ⟨rfl, rfl⟩)
      go_ret
      exact ⟨ret_bool E.out.symm, rfl⟩
  · have e : letB c = true := by simp only [letB, a1, Bool.true_or]
    have E := Lib.hid e; clear e
    go_enter Try.func13, Try.ntmps13
    go_wp2_with (go_at_call 15; refine (in_any _ _ _ _).mono ?_; rintro e w' ⟨rfl, rfl⟩)
    go_ret
    exact ⟨ret_bool E.out.symm, rfl⟩

/-- Whether a byte may stand at a place of a name. -/
def okB (c : UInt8) (j : Nat) : Bool := letB c.toNat || (decide (0 < j) && digB c.toNat)
def OkTo (s : ByteArray) (k : Nat) : Prop := ∀ (j : Nat) (h : j < s.size), j < k → okB s[j] j = true
open Classical in
noncomputable def nameB (s : ByteArray) : Bool := decide (OkTo s s.size) && inB s.size 1 20
theorem name_no {s : ByteArray} {k : Nat} (h : k < s.size) (hk : okB s[k] k = false) : nameB s = false := by
  have : ¬ OkTo s s.size := fun g => by have := g k h h; rw [hk] at this; cases this
  simp [nameB, this]
theorem name_all {s : ByteArray} {k : Nat} (h : OkTo s k) (hk : s.size ≤ k) : nameB s = inB s.size 1 20 := by
  have : OkTo s s.size := fun j hj _ => h j hj (by omega)
  simp [nameB, this]
theorem okTo_snoc {s : ByteArray} {k : Nat} (h : OkTo s k) (hk : k < s.size) (ho : okB s[k] k = true) : OkTo s (k + 1) := by
  intro j hj hjk
  by_cases e : j = k
  · subst e; exact ho
  · exact h j hj (by omega)

set_option maxHeartbeats 400000 in
theorem specName_any (s : ByteArray) (w : World) (hs : s.size ≤ maxLen) :
    Calls Try.prog 7 #[.string s] w fun e w' => e = .returned (.bool (nameB s)) ∧ w = w' := by
  unfold maxLen at hs
  go_enter Try.func7, Try.ntmps7
  go_wp2
  go_loop [3] (fun i => ∃ k : Nat, k ≤ s.size ∧ i = .int .i64 k ∧ OkTo s k) (fun i => s.size - (intOf i).toNat)
  case atStart => exact ⟨0, Nat.zero_le _, rfl, fun j _ h => by omega⟩
  case round =>
    obtain ⟨k, hk, rfl, hok⟩ := hrel
    have HK := Lib.hid hok; clear hok
    by_cases hlt : k < s.size
    · have hb : s[k].toNat < 256 := s[k].toNat_lt
      cases a1 : letB s[k].toNat
      · by_cases h0 : 0 < k
        · cases a2 : digB s[k].toNat
          · have e := name_no hlt (by simp [okB, a1, a2])
            have E := Lib.hid e; clear e
            go_wp2_with (first | (go_at_call 13; refine (let_any _ _ (by omega) (by omega)).mono ?_; rintro e w' ⟨rfl, rfl⟩) | (go_at_call 14; refine (dig_any _ _ (by omega) (by omega)).mono ?_; rintro e w' ⟨rfl, rfl⟩))
            go_ret
            exact ⟨ret_bool E.out.symm, rfl⟩
          · have HN := Lib.hid (okTo_snoc HK.out hlt (by simp [okB, a1, a2, h0]))
            go_wp2_with (first | (go_at_call 13; refine (let_any _ _ (by omega) (by omega)).mono ?_; rintro e w' ⟨rfl, rfl⟩) | (go_at_call 14; refine (dig_any _ _ (by omega) (by omega)).mono ?_; rintro e w' ⟨rfl, rfl⟩))
            go_round
            case rel => exact ⟨k + 1, by omega, by go_num, HN.out⟩
            case measure => simp [intOf]; omega
        · have e := name_no hlt (by simp [okB, a1, h0])
          have E := Lib.hid e; clear e
          obtain rfl : k = 0 := by omega
          go_wp2_with (first | (go_at_call 13; refine (let_any _ _ (by omega) (by omega)).mono ?_; rintro e w' ⟨rfl, rfl⟩) | (go_at_call 14; refine (dig_any _ _ (by omega) (by omega)).mono ?_; rintro e w' ⟨rfl, rfl⟩))
          go_ret
          exact ⟨ret_bool E.out.symm, rfl⟩
      · have HN := Lib.hid (okTo_snoc HK.out hlt (by simp [okB, a1]))
        go_wp2_with (first | (go_at_call 13; refine (let_any _ _ (by omega) (by omega)).mono ?_; rintro e w' ⟨rfl, rfl⟩) | (go_at_call 14; refine (dig_any _ _ (by omega) (by omega)).mono ?_; rintro e w' ⟨rfl, rfl⟩))
        go_round
        case rel => exact ⟨k + 1, by omega, by go_num, HN.out⟩
        case measure => simp [intOf]; omega
    · have E := Lib.hid (name_all HK.out (by omega))
      cases a1 : inB s.size 1 20
      · go_wp2_with (go_at_call 15; refine (in_any _ _ _ _).mono ?_; rintro e w' ⟨rfl, rfl⟩)
        go_ret
        exact ⟨ret_bool (by rw [E.out, a1]), rfl⟩
      · have h4 : s.size ≤ 4000 := by
          have : (1 : Int) ≤ s.size ∧ (s.size : Int) ≤ 20 := by simpa [inB] using a1
          omega
        go_wp2_with (go_at_call 15; refine (in_any _ _ _ _).mono ?_; rintro e w' ⟨rfl, rfl⟩)
        go_ret
        exact ⟨ret_bool (by rw [E.out, a1]; exact decide_eq_true (by omega)), rfl⟩

theorem isDigit_any (c : Int) (w : World) :
    Calls Try.prog 17 #[.int .i32 c] w fun e w' => e = .returned (.bool (digB c)) ∧ w = w' := by
  by_cases h1 : 48 ≤ c
  · by_cases h2 : c ≤ 57
    · have E := Lib.hid (show digB c = true by simp [digB, inB, h1, h2])
      go_enter Try.func17, Try.ntmps17
      go_wp2
      go_ret
      exact ⟨ret_bool E.out.symm, rfl⟩
    · have E := Lib.hid (show digB c = false by simp [digB, inB, h1, h2])
      go_enter Try.func17, Try.ntmps17
      go_wp2
      go_ret
      exact ⟨ret_bool E.out.symm, rfl⟩
  · have E := Lib.hid (show digB c = false by simp [digB, inB, h1])
    go_enter Try.func17, Try.ntmps17
    go_wp2
    go_ret
    exact ⟨ret_bool E.out.symm, rfl⟩

def signB (c : Int) : Bool := letB c || digB c
theorem sign_of_let {c : Int} (h : 97 ≤ c ∧ c ≤ 122 ∨ 65 ≤ c ∧ c ≤ 90 ∨ c = 95) : signB c = true := by
  simp only [signB, letB, inB, Bool.or_eq_true, decide_eq_true_eq]; omega
theorem sign_of_dig {c : Int} (h : ¬ (97 ≤ c ∧ c ≤ 122) ∧ ¬ (65 ≤ c ∧ c ≤ 90) ∧ c ≠ 95) : signB c = digB c := by
  rw [Bool.eq_iff_iff]; simp only [signB, digB, letB, inB, Bool.or_eq_true, decide_eq_true_eq]; omega
set_option maxHeartbeats 400000 in
theorem isNameSign_any (c : Int) (w : World) :
    Calls Try.prog 16 #[.int .i32 c] w fun e w' => e = .returned (.bool (signB c)) ∧ w = w' := by
  have key : ∀ (a1 a2 a3 a4 : Bool), decide (97 ≤ c) = a1 → decide (c ≤ 122) = a2 → decide (65 ≤ c) = a3 → decide (c ≤ 90) = a4 → ∀ a5 : Bool, (c == 95) = a5 →
      Calls Try.prog 16 #[.int .i32 c] w fun e w' => e = .returned (.bool (signB c)) ∧ w = w' := by
    intro a1 a2 a3 a4 h1 h2 h3 h4 a5 h5
    have E : Hid (((a1 && a2 || a3 && a4 || a5) = true → signB c = true) ∧ ((a1 && a2 || a3 && a4 || a5) = false → signB c = digB c)) := by
      refine Lib.hid ⟨fun h => sign_of_let ?_, fun h => sign_of_dig ?_⟩
      · subst h1 h2 h3 h4 h5
        simp only [Bool.or_eq_true, Bool.and_eq_true, decide_eq_true_eq, beq_iff_eq] at h; omega
      · subst h1 h2 h3 h4 h5
        simp only [Bool.or_eq_false_iff, Bool.and_eq_false_iff, decide_eq_false_iff_not, beq_eq_false_iff_ne] at h; omega
    cases a1 <;> cases a2 <;> cases a3 <;> cases a4 <;> cases a5 <;>
    (go_enter Try.func16, Try.ntmps16
     go_wp2_with (go_at_call 17; refine (isDigit_any _ _).mono ?_; rintro e w' ⟨rfl, rfl⟩)
     go_ret
     first | exact ⟨ret_bool (E.out.1 rfl).symm, rfl⟩ | exact ⟨ret_bool (E.out.2 rfl).symm, rfl⟩)
  exact key _ _ _ _ rfl rfl rfl rfl _ rfl

end Go.Proofs.Ytlfmnkpelkomcab.nameOk
