/-
  Contracts of spec.l04Set and impl.ascends over this seat's translation: whether bytes ascend. Conditions: each theorem names its own.
-/
import Derived.Test.YtiggdpckjmellaaDoorRe5
import Derived.Deep.QuietTactic
import Derived.BigQuiet
namespace Go.Proofs.YtiggdpckjmellaaDoor.kit
open Go.ChangeShapes Go.WideShapes Go.ChangeAt Go.RowKit
set_option linter.unusedVariables false

theorem belowK {B : Nat} {a w : World} (h : Below B a w) (n : Nat) : Below B a (w.drewN n) := ⟨h.os, h.tape, h.output, h.size, h.block⟩
theorem RT.asc_iff : ∀ (l : List UInt8), RT.asc l = true ↔ ∀ (j : Nat) (h : j + 1 < l.length), (l[j]'(by omega)).toNat < (l[j + 1]).toNat
  | [] => by simp [RT.asc]
  | [a] => by simp [RT.asc]
  | a :: b :: l => by
    rw [RT.asc, Bool.and_eq_true, decide_eq_true_eq, RT.asc_iff (b :: l)]
    constructor
    · rintro ⟨h1, h2⟩ j hj
      cases j with
      | zero => simpa using h1
      | succ j => exact h2 j (by simp only [List.length_cons] at *; omega)
    · intro h
      exact ⟨h 0 (by simp), fun j hj => h (j + 1) (by simp only [List.length_cons] at *; omega)⟩
theorem asc_start (l : List UInt8) : RT.asc (l.take 1) = true := by
  rw [RT.asc_iff]; intro j h; simp at h; omega
theorem asc_next {s : ByteArray} {j k : Nat} (hk : j + 1 = k) (hj : k < s.size) (hj' : j < s.size) (h : RT.asc (s.data.toList.take k) = true) (hc : ¬ s[k].toNat ≤ s[j].toNat) : RT.asc (s.data.toList.take (k + 1)) = true := by
  subst hk
  rw [RT.asc_iff] at *
  intro i hi
  have hl : s.data.toList.length = s.size := by simp
  simp only [List.length_take] at hi h
  by_cases c : i = j
  · subst c
    simp only [List.getElem_take]
    have e1 : s.data.toList[i]'(by omega) = s[i]'(by omega) := rfl
    have e2 : s.data.toList[i + 1]'(by omega) = s[i + 1] := rfl
    rw [e1, e2]; omega
  · have := h i (by omega)
    simpa only [List.getElem_take] using this
theorem asc_no {s : ByteArray} {j k : Nat} (hk : j + 1 = k) (hj : k < s.size) (hj' : j < s.size) (hc : s[k].toNat ≤ s[j].toNat) : RT.asc s.data.toList = false := by
  subst hk
  cases h : RT.asc s.data.toList
  · rfl
  · rw [RT.asc_iff] at h
    have hl : s.data.toList.length = s.size := by simp
    have := h j (by omega)
    have e1 : s.data.toList[j]'(by omega) = s[j]'(by omega) := rfl
    have e2 : s.data.toList[j + 1]'(by omega) = s[j + 1] := rfl
    rw [e1, e2] at this; omega
theorem asc_one {s : ByteArray} (h : ¬ 1 < s.size) : RT.asc s.data.toList = true := by
  rw [RT.asc_iff]; intro j hj; have hl : s.data.toList.length = s.size := by simp
  omega
theorem asc_in {s : ByteArray} (h : RT.asc s.data.toList = true) : inB (s.size : Int) 1 256 = !s.data.toList.isEmpty := by
  have h1 := RT.asc_len _ h
  have hl : s.data.toList.length = s.size := by simp
  by_cases c : s.size = 0
  · have := empty_of_size c
    rw [ByteArray.toList_eq] at this
    simp [inB, this, c]
  · have := not_empty_of_size c
    rw [ByteArray.toList_eq] at this
    simp [inB, this]; omega
theorem isE (s : ByteArray) : s.toList.isEmpty = s.data.toList.isEmpty := by rw [ByteArray.toList_eq]
set_option maxRecDepth 100000 in
set_option maxHeartbeats 1000000 in
theorem ascends_any (s : ByteArray) (w : World) (hs : s.size ≤ 1048576) :
    Calls Tryd.prog 124 #[.string s] w fun e w' => e = .returned (.bool (RT.asc s.data.toList && !s.data.toList.isEmpty)) ∧ Below w.heap.size w w' := by
  have H1 := Lib.hid (asc_start s.data.toList)
  go_enter Tryd.func124, Tryd.ntmps124
  go_wp2_with fail
  go_loopw [3] (fun i wr => ∃ k : Nat, 1 ≤ k ∧ (k ≤ s.size ∨ k = 1) ∧ i = .int .i64 (k : Int) ∧ RT.asc (s.data.toList.take k) = true ∧ Below w.heap.size w wr) (fun i _ => s.size - (intOf i).toNat)
  case atStart => exact ⟨1, by omega, by omega, rfl, H1.out, Below.refl _ _⟩
  case round =>
    obtain ⟨k, h1, h2, rfl, h3, hb⟩ := hrel
    have H3 := Lib.hid h3
    have HB := Lib.hid hb
    clear h3 hb
    by_cases hlt : k < s.size
    · obtain ⟨j, hjk⟩ : ∃ j, j + 1 = k := ⟨k - 1, by omega⟩
      have hj : j < s.size := by omega
      have hw : IntKind.i64.wrap ((k : Int) - 1) = (j : Int) := by rw [IntKind.wrap_i64]; omega
      have hj0 : (0 : Int) ≤ j := by omega
      have hj1 : (j : Int) < s.size := by omega
      have hk0 : (0 : Int) ≤ (k : Int) := by omega
      have hk1 : (k : Int) < s.size := by omega
      have HN := Lib.hid (fun hc => asc_next hjk hlt hj H3.out hc)
      have HQ := Lib.hid (fun hc => asc_no hjk hlt hj hc)
      clear hjk
      by_cases hc : s[k].toNat ≤ s[j].toNat
      · go_wp2_with fail
        go_quiet (fail)
        go_wp2_with fail
        go_ret
        exact ⟨ret_bool (by rw [HQ.out hc]; rfl), belowK HB.out _⟩
      · go_wp2_with fail
        go_quiet (fail)
        go_wp2_with fail
        go_roundw
        case rel => exact ⟨k + 1, by omega, by omega, by go_num, HN.out hc, belowK HB.out _⟩
        case measure => simp [intOf]; omega
    · have ha : RT.asc s.data.toList = true := by
        by_cases c : 1 < s.size
        · have h4 := H3.out
          rwa [take_all s k (by omega)] at h4
        · exact asc_one c
      have HA := Lib.hid ha
      clear ha
      have HE := Lib.hid (isE s)
      go_wp2_with fail
      go_ret
      exact ⟨ret_bool (by rw [HA.out, ← HE.out]; simp), HB.out⟩
set_option maxRecDepth 100000 in
set_option maxHeartbeats 1000000 in
theorem l04Set_any (s : ByteArray) (w : World) (hs : s.size ≤ 1048576) :
    Calls Tryd.prog 126 #[.string s] w fun e w' => e = .returned (.bool (RT.asc s.data.toList && !s.data.toList.isEmpty)) ∧ Below w.heap.size w w' := by
  have H1 := Lib.hid (asc_start s.data.toList)
  go_enter Tryd.func126, Tryd.ntmps126
  go_wp2_with fail
  go_loopw [3] (fun i wr => ∃ k : Nat, 1 ≤ k ∧ (k ≤ s.size ∨ k = 1) ∧ i = .int .i64 (k : Int) ∧ RT.asc (s.data.toList.take k) = true ∧ Below w.heap.size w wr) (fun i _ => s.size - (intOf i).toNat)
  case atStart => exact ⟨1, by omega, by omega, rfl, H1.out, Below.refl _ _⟩
  case round =>
    obtain ⟨k, h1, h2, rfl, h3, hb⟩ := hrel
    have H3 := Lib.hid h3
    have HB := Lib.hid hb
    clear h3 hb
    by_cases hlt : k < s.size
    · obtain ⟨j, hjk⟩ : ∃ j, j + 1 = k := ⟨k - 1, by omega⟩
      have hj : j < s.size := by omega
      have hw : IntKind.i64.wrap ((k : Int) - 1) = (j : Int) := by rw [IntKind.wrap_i64]; omega
      have hj0 : (0 : Int) ≤ j := by omega
      have hj1 : (j : Int) < s.size := by omega
      have hk0 : (0 : Int) ≤ (k : Int) := by omega
      have hk1 : (k : Int) < s.size := by omega
      have HN := Lib.hid (fun hc => asc_next hjk hlt hj H3.out hc)
      have HQ := Lib.hid (fun hc => asc_no hjk hlt hj hc)
      clear hjk
      by_cases hc : s[k].toNat ≤ s[j].toNat
      · go_wp2_with fail
        go_quiet (fail)
        go_wp2_with fail
        go_ret
        exact ⟨ret_bool (by rw [HQ.out hc]; rfl), belowK HB.out _⟩
      · go_wp2_with fail
        go_quiet (fail)
        go_wp2_with fail
        go_roundw
        case rel => exact ⟨k + 1, by omega, by omega, by go_num, HN.out hc, belowK HB.out _⟩
        case measure => simp [intOf]; omega
    · have ha : RT.asc s.data.toList = true := by
        by_cases c : 1 < s.size
        · have h4 := H3.out
          rwa [take_all s k (by omega)] at h4
        · exact asc_one c
      have HA := Lib.hid ha
      clear ha
      go_wp2_with fail
      refine (in_any _ _ _ _).mono ?_
      rintro e w1 ⟨rfl, rfl⟩
      go_wp2_with fail
      go_ret
      exact ⟨ret_bool (by rw [HA.out, asc_in HA.out]; rfl), HB.out⟩
end Go.Proofs.YtiggdpckjmellaaDoor.kit
