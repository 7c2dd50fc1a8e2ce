/-
  Contracts of spec.ReadDec and impl.ReadDec over this seat's translation: for every text both give the number whose decimal text it is, or -1. Conditions: none but that the text has at most maxLen bytes.
-/
import Derived.Test.YtcnmcfalobekmaaRows
import Derived.Test.YtcnmcfalobekmaaDec
import Derived.Test.YtcnmcfalobekmaaRd0
import Derived.Test.YtcnmcfalobekmaaDig
namespace Go.Proofs.Ytcnmcfalobekmaa.kit
open Go.ChangeShapes Go.WideShapes Go.ChangeAt Go.RowKit
set_option linter.unusedVariables false

def DigTo (s : ByteArray) (k : Nat) : Prop := ∀ (j : Nat) (h : j < s.size), j < k → digB s[j].toNat = true
open Classical in
/-- What both answer. -/
noncomputable def rdv (s : ByteArray) : Int := if s.size ≤ 9 ∧ DigTo s s.size ∧ Lib.decDigits (valN s.data.toList) = s.data.toList then (valN s.data.toList : Int) else -1
theorem digTo_snoc {s : ByteArray} {k : Nat} (h : DigTo s k) (hk : k < s.size) (ho : digB s[k].toNat = true) : DigTo s (k + 1) := by
  intro j hj hjk
  by_cases e : j = k
  · subst e; exact ho
  · exact h j hj (by omega)
theorem dig_of {c : UInt8} (h : digB c.toNat = true) : isDig c := by
  simp only [digB, inB, decide_eq_true_eq] at h; unfold isDig; omega
theorem dig_mem {s : ByteArray} {k : Nat} (h : DigTo s k) : ∀ c ∈ s.data.toList.take k, isDig c := by
  intro c hc
  obtain ⟨j, hj, rfl⟩ := List.getElem_of_mem hc
  have hj2 : j < s.size := by simp at hj; omega
  have hj3 : j < k := by simp at hj; omega
  have := dig_of (h j hj2 hj3)
  rw [List.getElem_take]; exact this
theorem rdv_no {s : ByteArray} {k : Nat} (h : k < s.size) (hk : digB s[k].toNat = false) : rdv s = -1 := by
  rw [rdv, if_neg]; rintro ⟨_, g, _⟩; have := g k h h; rw [hk] at this; cases this
theorem rdv_long {s : ByteArray} (h : 9 < s.size) : rdv s = -1 := by rw [rdv, if_neg]; rintro ⟨g, _⟩; omega
theorem rdv_empty {s : ByteArray} (h : s.size = 0) : rdv s = -1 := by
  rw [rdv, if_neg]; rintro ⟨_, _, g⟩
  have a := congrArg List.length g
  rw [Lib.decDigits_length, show s.data.toList.length = s.size by simp] at a
  have := Lib.nDigits_pos (valN s.data.toList)
  omega
theorem rdv_end {s : ByteArray} {k : Nat} (h9 : s.size ≤ 9) (h : DigTo s k) (hk : s.size ≤ k) : rdv s = if Lib.decDigits (valN s.data.toList) = s.data.toList then (valN s.data.toList : Int) else -1 := by
  have : DigTo s s.size := fun j hj _ => h j hj (by omega)
  rw [rdv]; simp [h9, this]
theorem val_step {s : ByteArray} {k : Nat} (hk : k < s.size) (hd : digB s[k].toNat = true) : (valN (s.data.toList.take (k + 1)) : Int) = 10 * (valN (s.data.toList.take k) : Int) + s[k].toNat - 48 := by
  rw [take_snoc s k hk, valN_snoc]
  have := dig_of hd
  unfold isDig at this
  omega
theorem val_bd {s : ByteArray} {k : Nat} (h : DigTo s k) (h9 : s.size ≤ 9) : valN (s.data.toList.take k) < 1000000000 := by
  have a := valN_lt _ (dig_mem h)
  have b : (s.data.toList.take k).length ≤ 9 := by simp; omega
  exact Nat.lt_of_lt_of_le a (Nat.pow_le_pow_right (by omega) b)

theorem list_of_head (s : ByteArray) (h : 0 < s.size) : ∃ t, s.data.toList = s[0] :: t := by
  have hl : 0 < s.data.toList.length := by simpa using h
  cases e : s.data.toList with
  | nil => rw [e] at hl; simp at hl
  | cons a t =>
    have : s.data.toList[0] = s[0] := rfl
    refine ⟨t, ?_⟩
    rw [← this]; simp [e]
theorem rdv_nought {s : ByteArray} (h : 1 < s.size) (h0 : s[0].toNat = 48) : rdv s = -1 := by
  rw [rdv, if_neg]; rintro ⟨_, _, g⟩
  obtain ⟨t, ht⟩ := list_of_head s (by omega)
  have e0 : s[0] = 48 := UInt8.toNat_inj.1 h0
  have hz := head_of_dec _ _ (Nat.le_refl _) (by rw [g, ht, e0]; rfl)
  rw [hz, Lib.decDigits_one (by omega)] at g
  have a := congrArg List.length g
  rw [show s.data.toList.length = s.size by simp] at a
  simp at a; omega
theorem rdv_val {s : ByteArray} {k : Nat} (h9 : s.size ≤ 9) (hd : DigTo s k) (hk : s.size ≤ k) (h1 : 0 < s.size) (h : s[0].toNat ≠ 48 ∨ s.size = 1) : rdv s = (valN s.data.toList : Int) := by
  rw [rdv_end h9 hd hk, if_pos]
  obtain ⟨t, ht⟩ := list_of_head s h1
  have hm := dig_mem hd
  rw [take_all s k hk, ht] at hm
  rw [ht]
  by_cases h48 : s[0].toNat = 48
  · have hs1 : s.size = 1 := by omega
    have a := congrArg List.length ht
    rw [show s.data.toList.length = s.size by simp, hs1] at a
    have : t = [] := List.length_eq_zero_iff.1 (by simpa using a.symm)
    subst this
    have e0 : s[0] = 48 := UInt8.toNat_inj.1 h48
    rw [e0]
    rw [show valN [48] = 0 from rfl, Lib.decDigits_one (by omega)]; rfl
  · exact dec_of_digits _ h48 t hm
theorem one_nought {s : ByteArray} (h1 : 0 < s.size) (h0 : s[0].toNat = 48) : (s.toList == [48]) = decide (s.size = 1) := by
  obtain ⟨t, ht⟩ := list_of_head s h1
  have e0 : s[0] = 48 := UInt8.toNat_inj.1 h0
  have a := congrArg List.length ht
  rw [show s.data.toList.length = s.size by simp] at a
  rw [ByteArray.toList_eq, ht, e0, a, Bool.eq_iff_iff]
  simp

set_option maxHeartbeats 400000 in
theorem implRd_loop (s : ByteArray) (w : World) (h9 : s.size ≤ 9) (h1 : 0 < s.size) (h : s[0].toNat ≠ 48 ∨ s.size = 1) :
    Calls Try.prog 21 #[.string s] w fun e w' => e = .returned (.int .i64 (rdv s)) ∧ Below w.heap.size w w' := by
  have he := not_empty_of_size (s := s) (by omega)
  have hd : decide (9 < s.size) = false := by simp; omega
  have HH := Lib.hid h
  have hb0 : s[0].toNat < 256 := s[0].toNat_lt
  have key : ∀ (b c : Bool), ((s[0].toNat : Int) == 48) = b → (s.toList == [48]) = c → (b && !c) = false →
      Calls Try.prog 21 #[.string s] w fun e w' => e = .returned (.int .i64 (rdv s)) ∧ Below w.heap.size w w' := by
    intro b c hb hc hbc
    clear h
    cases b <;> cases c <;> simp only [Bool.false_and, Bool.true_and, Bool.not_false, Bool.not_true, Bool.true_eq_false] at hbc
    all_goals
      clear hbc
      go_enter Try.func21, Try.ntmps21
      go_wp2
      go_loopw [3] (fun v w' => ∃ pos : Nat, w' = w.iter s pos ∧ v = .int .i64 (valN (s.data.toList.take pos) : Int) ∧ DigTo s pos ∧ pos ≤ s.size) (fun _ w' => s.size - w'.iterPos w.heap.size)
      case atStart => exact ⟨0, rfl, by simp [valN], fun j _ h => by omega, by omega⟩
      case round =>
        obtain ⟨pos, rfl, rfl, hok, hple⟩ := hrel
        have hvb := val_bd hok (by omega)
        have HK := Lib.hid hok; clear hok
        by_cases hp : pos < s.size
        · by_cases ha : s[pos].toNat < 128
          · have hnx : ∀ ty, (Instr.next (.pointer (some ⟨w.heap.size, 0, none⟩)) true ty).run Try.prog (w.iter s pos) = _ := fun ty => run_next_ascii w s pos ty hp ha
            cases a1 : digB s[pos].toNat
            · have E := Lib.hid (rdv_no hp a1)
              go_wp2_with (go_at_call 29; refine (isDigit_any _ _).mono ?_; rintro e w' ⟨rfl, rfl⟩)
              go_ret
              exact ⟨ret_int E.out.symm, (Below.refl _ _).alloc (Nat.le_refl _) _⟩
            · have HN := Lib.hid (digTo_snoc HK.out hp a1)
              have HV := Lib.hid (val_step hp a1)
              have hdg := dig_of a1
              unfold isDig at hdg
              obtain ⟨hg1, hg2⟩ := hdg
              generalize valN (s.data.toList.take pos) = v at hvb HV
              go_wp2_with (go_at_call 29; refine (isDigit_any _ _).mono ?_; rintro e w' ⟨rfl, rfl⟩)
              go_roundw
              case rel => exact ⟨pos + 1, rfl, by rw [HV.out]; go_num, HN.out, by omega⟩
              case measure => simp; omega
          · have hh := decode_high s pos hp (by omega)
            have hnx : ∀ ty, (Instr.next (.pointer (some ⟨w.heap.size, 0, none⟩)) true ty).run Try.prog (w.iter s pos) = _ := fun ty => run_next_any w s pos ty hp
            generalize hu : (Utf8.decode s pos).1 = u at hnx hh
            generalize hv : (Utf8.decode s pos).2 = v at hnx hh
            clear hu hv
            have hsg : digB (u : Int) = false := by simp only [digB, inB, decide_eq_false_iff_not]; omega
            have E := Lib.hid (rdv_no hp (by simp only [digB, inB, decide_eq_false_iff_not]; omega))
            go_wp2_with (go_at_call 29; refine (isDigit_any _ _).mono ?_; rintro e w' ⟨rfl, rfl⟩)
            go_ret
            exact ⟨ret_int E.out.symm, (Below.refl _ _).alloc (Nat.le_refl _) _⟩
        · have hnx : ∀ ty, (Instr.next (.pointer (some ⟨w.heap.size, 0, none⟩)) true ty).run Try.prog (w.iter s pos) = _ := fun ty => run_next_end w s pos ty hp
          have E := Lib.hid (rdv_val h9 HK.out (by omega) h1 HH.out)
          have T := Lib.hid (take_all s pos (by omega))
          go_wp2
          go_ret
          exact ⟨ret_int (by rw [E.out, T.out]), (Below.refl _ _).alloc (Nat.le_refl _) _⟩
  refine key _ _ rfl rfl ?_
  rcases h with h | h
  · have : ((s[0].toNat : Int) == 48) = false := by simp; omega
    simp [this]
  · by_cases h0 : s[0].toNat = 48
    · rw [one_nought h1 h0]; simp [h]
    · have : ((s[0].toNat : Int) == 48) = false := by simp; omega
      simp [this]

set_option maxHeartbeats 400000 in
theorem implRd_any (s : ByteArray) (w : World) (hs : s.size ≤ maxLen) :
    Calls Try.prog 21 #[.string s] w fun e w' => e = .returned (.int .i64 (rdv s)) ∧ Below w.heap.size w w' := by
  unfold maxLen at hs
  by_cases h0 : s.size = 0
  · have he := empty_of_size h0
    have E := Lib.hid (rdv_empty h0)
    clear h0
    go_enter Try.func21, Try.ntmps21
    go_wp2
    go_ret
    exact ⟨ret_int E.out.symm, Below.refl _ _⟩
  · have he := not_empty_of_size h0
    have h1 : 0 < s.size := by omega
    clear h0
    by_cases h9 : 9 < s.size
    · have E := Lib.hid (rdv_long h9)
      go_enter Try.func21, Try.ntmps21
      go_wp2
      go_ret
      exact ⟨ret_int E.out.symm, Below.refl _ _⟩
    · by_cases h : s[0].toNat ≠ 48 ∨ s.size = 1
      · exact implRd_loop s w (by omega) h1 h
      · have hd : decide (9 < s.size) = false := by simpa using h9
        have h48 : s[0].toNat = 48 := by omega
        have e1 : ((s[0].toNat : Int) == 48) = true := by simp; omega
        have e2 : (s.toList == [48]) = false := by rw [one_nought h1 h48]; simp; omega
        have E := Lib.hid (rdv_nought (s := s) (by omega) h48)
        clear h h48
        go_enter Try.func21, Try.ntmps21
        go_wp2
        go_ret
        exact ⟨ret_int E.out.symm, Below.refl _ _⟩
end Go.Proofs.Ytcnmcfalobekmaa.kit
