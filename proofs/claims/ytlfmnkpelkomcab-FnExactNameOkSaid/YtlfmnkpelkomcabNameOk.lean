/-
  Proves FnExactNameOkSaid: for every text, impl.NameOk answers as spec.NameOk does, and the law returns true and leaves its argument as it was. Conditions: none beyond the row's own.
-/
import Derived.Test.YtlfmnkpelkomcabNames
namespace Go.Proofs.Ytlfmnkpelkomcab.nameOk
open Go.ChangeShapes Go.WideShapes Go.ChangeAt Go.RowKit
open Go.ChangeMaps (open_string shut_string)
set_option linter.unusedVariables false

theorem ok_of_not_sign {c : UInt8} {j : Nat} (h : signB c.toNat = false) : okB c j = false := by
  simp only [signB, Bool.or_eq_false_iff] at h
  simp [okB, h.1, h.2]
theorem ok_of_first {c : UInt8} (h : digB c.toNat = true) : okB c 0 = false := by
  simp only [okB, digB, letB, inB, decide_eq_true_eq] at h ⊢
  simp; omega
theorem ok_of_first' {c : UInt8} (h : signB c.toNat = true) (hd : digB c.toNat = false) (j : Nat) : okB c j = true := by
  simp only [signB, hd, Bool.or_false] at h
  simp [okB, h]
theorem ok_of_later {c : UInt8} {j : Nat} (h : signB c.toNat = true) (hj : 0 < j) : okB c j = true := by
  simp only [signB] at h
  simp [okB, hj, h]
theorem sign_high {c : Int} (h : 128 ≤ c) : signB c = false := by
  rw [Bool.eq_false_iff]; simp only [signB, digB, letB, inB, ne_eq, Bool.or_eq_true, decide_eq_true_eq]; omega
theorem name_in {s : ByteArray} (h : ¬ (1 ≤ s.size ∧ s.size ≤ 20)) : nameB s = false := by
  have : inB s.size 1 20 = false := by simp only [inB, decide_eq_false_iff_not]; omega
  simp [nameB, this]
theorem name_yes {s : ByteArray} {k : Nat} (h : OkTo s k) (hk : s.size ≤ k) (h1 : 1 ≤ s.size) (h2 : s.size ≤ 20) : nameB s = true := by
  rw [name_all h hk]; simp only [inB, decide_eq_true_eq]; omega

theorem empty_of_size {s : ByteArray} (h : s.size = 0) : s.toList.isEmpty = true := by
  rw [ByteArray.toList_eq, List.isEmpty_iff_length_eq_zero]; simpa using h
theorem not_empty_of_size {s : ByteArray} (h : s.size ≠ 0) : s.toList.isEmpty = false := by
  rw [ByteArray.toList_eq, Bool.eq_false_iff, ne_eq, List.isEmpty_iff_length_eq_zero]; simpa using h

set_option maxHeartbeats 400000 in
theorem implName_any (s : ByteArray) (w : World) :
    Calls Try.prog 8 #[.string s] w fun e w' => e = .returned (.bool (nameB s)) ∧ Below w.heap.size w w' := by
  by_cases h0 : s.size = 0
  · have he := empty_of_size h0
    have E := Lib.hid (name_in (s := s) (by omega))
    clear h0
    go_enter Try.func8, Try.ntmps8
    go_wp2
    go_ret
    exact ⟨ret_bool E.out.symm, Below.refl _ _⟩
  · have he := not_empty_of_size h0
    have h1 : 1 ≤ s.size := by omega
    clear h0
    by_cases h20 : 20 < s.size
    · have E := Lib.hid (name_in (s := s) (by omega))
      go_enter Try.func8, Try.ntmps8
      go_wp2
      go_ret
      exact ⟨ret_bool E.out.symm, Below.refl _ _⟩
    · have hd : decide (20 < s.size) = false := by simpa using h20
      go_enter Try.func8, Try.ntmps8
      go_wp2
      go_loopw [] (fun w' => ∃ pos : Nat, w' = w.iter s pos ∧ OkTo s pos ∧ pos ≤ s.size) (fun w' => s.size - w'.iterPos w.heap.size)
      case atStart => exact ⟨0, rfl, fun j _ h => by omega, by omega⟩
      case round =>
        obtain ⟨pos, rfl, hok, hple⟩ := hrel
        have HK := Lib.hid hok; clear hok
        by_cases hp : pos < s.size
        · by_cases ha : s[pos].toNat < 128
          · have hnx : ∀ ty, (Instr.next (.pointer (some ⟨w.heap.size, 0, none⟩)) true ty).run Try.prog (w.iter s pos) = _ := fun ty => run_next_ascii w s pos ty hp ha
            have hc : (s[pos].toNat : Int) = (s[pos].toNat : Int) := rfl
            clear hc
            cases a1 : signB s[pos].toNat
            · have E := Lib.hid (name_no hp (ok_of_not_sign a1))
              go_wp2_with (first | (go_at_call 16; refine (isNameSign_any _ _).mono ?_; rintro e w' ⟨rfl, rfl⟩) | (go_at_call 17; refine (isDigit_any _ _).mono ?_; rintro e w' ⟨rfl, rfl⟩))
              go_ret
              exact ⟨ret_bool E.out.symm, (Below.refl _ _).alloc (Nat.le_refl _) _⟩
            · by_cases hz : pos = 0
              · subst hz
                cases a2 : digB s[0].toNat
                · have HN := Lib.hid (okTo_snoc HK.out hp (ok_of_first' a1 a2 0))
                  go_wp2_with (first | (go_at_call 16; refine (isNameSign_any _ _).mono ?_; rintro e w' ⟨rfl, rfl⟩) | (go_at_call 17; refine (isDigit_any _ _).mono ?_; rintro e w' ⟨rfl, rfl⟩))
                  go_roundw
                  case rel => exact ⟨0 + 1, rfl, HN.out, by omega⟩
                  case measure => simp; omega
                · have E := Lib.hid (name_no hp (ok_of_first a2))
                  go_wp2_with (first | (go_at_call 16; refine (isNameSign_any _ _).mono ?_; rintro e w' ⟨rfl, rfl⟩) | (go_at_call 17; refine (isDigit_any _ _).mono ?_; rintro e w' ⟨rfl, rfl⟩))
                  go_ret
                  exact ⟨ret_bool E.out.symm, (Below.refl _ _).alloc (Nat.le_refl _) _⟩
              · have HN := Lib.hid (okTo_snoc HK.out hp (ok_of_later a1 (by omega)))
                have hz2 : ((pos : Int) == 0) = false := by simp; omega
                clear hz
                go_wp2_with (first | (go_at_call 16; refine (isNameSign_any _ _).mono ?_; rintro e w' ⟨rfl, rfl⟩) | (go_at_call 17; refine (isDigit_any _ _).mono ?_; rintro e w' ⟨rfl, rfl⟩))
                go_roundw
                case rel => exact ⟨pos + 1, rfl, HN.out, by omega⟩
                case measure => simp; omega
          · have hh := decode_high s pos hp (by omega)
            have hnx : ∀ ty, (Instr.next (.pointer (some ⟨w.heap.size, 0, none⟩)) true ty).run Try.prog (w.iter s pos) = _ := fun ty => run_next_any w s pos ty hp
            generalize hu : (Utf8.decode s pos).1 = u at hnx hh
            generalize hv : (Utf8.decode s pos).2 = v at hnx hh
            clear hu hv
            have hsg : signB (u : Int) = false := sign_high (by omega)
            have hsb : signB s[pos].toNat = false := sign_high (by omega)
            have E := Lib.hid (name_no hp (ok_of_not_sign hsb))
            clear hsb
            go_wp2_with (first | (go_at_call 16; refine (isNameSign_any _ _).mono ?_; rintro e w' ⟨rfl, rfl⟩) | (go_at_call 17; refine (isDigit_any _ _).mono ?_; rintro e w' ⟨rfl, rfl⟩))
            go_ret
            exact ⟨ret_bool E.out.symm, (Below.refl _ _).alloc (Nat.le_refl _) _⟩
        · have hnx : ∀ ty, (Instr.next (.pointer (some ⟨w.heap.size, 0, none⟩)) true ty).run Try.prog (w.iter s pos) = _ := fun ty => run_next_end w s pos ty hp
          have E := Lib.hid (name_yes HK.out (by omega) h1 (by omega))
          go_wp2
          go_ret
          exact ⟨ret_bool E.out.symm, (Below.refl _ _).alloc (Nat.le_refl _) _⟩

set_option maxHeartbeats 400000 in
theorem walk (s : ByteArray) (w : World) (hs : s.size ≤ maxLen) :
    Calls Try.prog 4 #[.string s] w fun e w' => e = .returned (.bool true) ∧ Below w.heap.size w w' := by
  by_cases hb : 1048576 < s.size
  · unfold maxLen at hs
    go_enter Try.func4, Try.ntmps4
    go_wp2
    go_ret
    exact ⟨rfl, Below.refl _ _⟩
  · have hd : decide (1048576 < s.size) = false := by simpa using hb
    have HS := Lib.hid hs; clear hs
    cases a : nameB s
    all_goals
      go_enter Try.func4, Try.ntmps4
      go_wp2_with (first | (go_at_call 7; refine (specName_any _ _ HS.out).mono ?_; rintro e w' ⟨rfl, rfl⟩) | (go_at_call 8; refine (implName_any _ _).mono ?_; rintro e w' ⟨rfl, hbel⟩))
      go_ret
      exact ⟨rfl, hbel⟩

theorem own : ownKnob Try.prog.godebug = none := by kernel_rfl

set_option maxRecDepth 100000 in
theorem lifted (os : Os) (started : os.Started) (H : Type) (enc : TypeId × Value → H) :
    ReturnsInHanded {} Try.checked os 4 .any (Rows.fnExactNameOkSpec.pre6 enc Try.prog Try.f4 Rows.fnExactNameOkRow.domain false) (Rows.fnExactNameOkSpec.post enc Try.prog Try.f4 false true false false) := by
  refine returnsInHanded_of_change (C := Try.checked) own started (by kernel_rfl) Try.func4
    (ChangeSpec.witness6 (enc := enc) (C := Try.checked) false ⟨#[], #[.string ⟨#[]⟩], []⟩ 8 (by kernel_rfl) (by kernel_rfl) (by kernel_rfl) (by kernel_rfl)) ?_
  intro W base args ds gs before hval0 hW hcnd _
  have hval : ∀ (j : Nat) t v, Try.f4.params[j]? = some t → args[j]? = some v → Value.okWide Try.prog W .any base t v := hval0
  have hW' := hW
  obtain ⟨p, q, hA0, hV, rfl, hfz, hnd⟩ := hW
  have hA : DataW.TrodAll enc Try.prog W 0 (fun _ => true) true Try.f4.params.toList args.toList ds p := hA0
  rw [Try.params4] at hA hval
  obtain ⟨v0, vs0, d0, ds0, p0, q0, hargs, rfl, rfl, h0, r0⟩ := trodAll_cons hA
  obtain ⟨rfl, rfl, rfl⟩ := trodAll_nil r0
  obtain rfl : args = #[v0] := by cases args; simp_all
  obtain ⟨rfl, rfl⟩ := trodVars_none hV
  obtain ⟨s, rfl, rfl, rfl, hs⟩ := open_string Try.underlying9 (hval 0 9 v0 rfl rfl) h0
  clear hA0 hval0
  refine (walk s W hs).mono fun e W' ⟨he, bel⟩ => ?_
  subst he
  exact ⟨_, rfl, _, _, _, [], _, [], hW', trodAll_mk1 (shut_bool Try.underlying4 _), (trodAll_cons_mk (shut_string Try.underlying9 hs) trodAll_mk0), rfl, bel.frame _, fun h => by cases h⟩

theorem over : Rows.fnExactNameOkRow.holds Try.pinned (OpenSpec.ofChange Rows.fnExactNameOkSpec) :=
  OpenClaim.holds_of_wide 4 Try.f4 rfl rfl rfl rfl rfl rfl rfl ⟨rfl, rfl, rfl, rfl, rfl⟩ rfl rfl rfl rfl rfl (by kernel_rfl) Try.func4 (by kernel_rfl)
    (of_decide_eq_true (by kernel_rfl)) (by unfold Func.isWrapper; first | (rw [if_pos (by decide +kernel)]; kernel_rfl) | (rw [if_neg (by decide +kernel)]; exact ⟨rfl, rfl⟩))
    (fun os started H enc _ => lifted os started H enc)

theorem proved : Rows.FnExactNameOkSaid := over
#print axioms proved
end Go.Proofs.Ytlfmnkpelkomcab.nameOk
