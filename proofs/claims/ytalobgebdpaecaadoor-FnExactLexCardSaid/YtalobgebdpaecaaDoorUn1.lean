/-
  Contracts of impl.readOctal, impl.readQuoted, spec.l01Octal and spec.l01Escape over this seat's translation: each reads one byte as it stands inside quotes. Conditions: the text has at most 1048576 bytes; of readQuoted that it is not empty; of the two of spec that the place is 0 or more and at most the text's length.
-/
import Derived.Test.YtalobgebdpaecaaDoorUn0
namespace Go.Proofs.YtalobgebdpaecaaDoor.kit
open Go.ChangeShapes Go.WideShapes Go.ChangeAt Go.RowKit
set_option linter.unusedVariables false

def v8 (g : Nat → UInt8) : Nat → Int
  | 0 => 0
  | t + 1 => 8 * v8 g t + (g t).toNat - 48
def o3 (g : Nat → UInt8) : Option UInt8 := oct3 (g 0) (g 1) (g 2)
def OctTo (g : Nat → UInt8) (j : Nat) : Prop := ∀ t, t < j → octB (g t) = true
theorem octB_t {c : UInt8} (h : octB c = true) : 48 ≤ c.toNat ∧ c.toNat ≤ 55 := by simpa [octB] using h
theorem octB_f {c : UInt8} (h : octB c = false) : ¬ (48 ≤ c.toNat ∧ c.toNat ≤ 55) := by simpa [octB] using h
theorem octTo_snoc {g : Nat → UInt8} {j : Nat} (h : OctTo g j) (hj : octB (g j) = true) : OctTo g (j + 1) := by
  intro t ht
  by_cases e : t = j
  · subst e; exact hj
  · exact h t (by omega)
theorem v8_bd {g : Nat → UInt8} {j : Nat} (h : OctTo g j) (hj : j ≤ 3) : 0 ≤ v8 g j ∧ v8 g j ≤ 511 := by
  match j, hj with
  | 0, _ => simp [v8]
  | 1, _ => have a := octB_t (h 0 (by omega)); simp only [v8]; omega
  | 2, _ => have a := octB_t (h 0 (by omega)); have b := octB_t (h 1 (by omega)); simp only [v8]; omega
  | 3, _ => have a := octB_t (h 0 (by omega)); have b := octB_t (h 1 (by omega)); have c := octB_t (h 2 (by omega)); simp only [v8]; omega
theorem o3_no {g : Nat → UInt8} {j : Nat} (hj : j < 3) (h : octB (g j) = false) : o3 g = none := by
  match j, hj with
  | 0, _ => simp [o3, oct3, h]
  | 1, _ => simp [o3, oct3, h]
  | 2, _ => simp [o3, oct3, h]
theorem v8_eq {g : Nat → UInt8} (h : OctTo g 3) : v8 g 3 = (octN (g 0) (g 1) (g 2) : Int) := by
  have a := octB_t (h 0 (by omega)); have b := octB_t (h 1 (by omega)); have c := octB_t (h 2 (by omega))
  simp only [v8, octN]; omega
theorem o3_big {g : Nat → UInt8} (h : OctTo g 3) (hv : 255 < v8 g 3) : o3 g = none := by
  rw [v8_eq h] at hv
  have : ¬ octN (g 0) (g 1) (g 2) ≤ 255 := by omega
  simp [o3, oct3, this]
theorem o3_ok {g : Nat → UInt8} (h : OctTo g 3) (hv : v8 g 3 ≤ 255) : ∃ b : UInt8, o3 g = some b ∧ (b.toNat : Int) = v8 g 3 := by
  have e := v8_eq h
  rw [e] at hv ⊢
  have hn : octN (g 0) (g 1) (g 2) ≤ 255 := by omega
  refine ⟨UInt8.ofNat (octN (g 0) (g 1) (g 2)), ?_, ?_⟩
  · simp [o3, oct3, h 0 (by omega), h 1 (by omega), h 2 (by omega), hn]
  · rw [UInt8.toNat_ofNat']; omega

/-- What spec.l01Octal tells. -/
def octI (o : Option UInt8) : Int := match o with | some b => b.toNat | none => -1
def at_ (s : ByteArray) (j : Nat) : UInt8 := s.data.toList.getD j 0
theorem at_eq (s : ByteArray) (j : Nat) (h : j < s.size) : s[j] = at_ s j := by
  have hl : j < s.data.toList.length := by simpa using h
  show s.data.toList[j] = _
  rw [at_, List.getD_eq_getElem?_getD, List.getElem?_eq_getElem hl]; rfl

set_option maxHeartbeats 400000 in
theorem specOct_any (s : ByteArray) (i : Nat) (w : World) (hs : s.size ≤ 1048576) (hi : i ≤ s.size) :
    Calls Tryd.prog 131 #[.string s, .int .i64 (i : Int)] w fun e w' => e = .returned (.int .i64 (if i + 3 ≤ s.size then octI (o3 fun t => at_ s (i + t)) else -1)) ∧ w = w' := by
  by_cases h3 : i + 3 ≤ s.size
  · rw [if_pos h3]
    have hq : ¬ (s.size : Int) - 3 < (i : Int) := by omega
    obtain ⟨g, hg⟩ : ∃ g : Nat → UInt8, g = fun t => at_ s (i + t) := ⟨_, rfl⟩
    rw [← hg]
    have HG := Lib.hid hg; clear hg
    go_enter Tryd.func131, Tryd.ntmps131
    go_wp2
    go_loop [5, 6] (fun v k => ∃ j : Nat, j ≤ 3 ∧ k = .int .i64 ((i : Int) + j) ∧ v = .int .i64 (v8 g j) ∧ OctTo g j) (fun _ k => i + 3 - (intOf k).toNat)
    case atStart => exact ⟨0, by omega, by go_num, rfl, fun t h => by omega⟩
    case round =>
      obtain ⟨j, hj, rfl, rfl, hok⟩ := hrel
      have hvb := v8_bd hok hj
      obtain ⟨vb0, vb1⟩ := hvb
      have HK := Lib.hid hok; clear hok
      by_cases hlt : j < 3
      · have e0 : ((i : Int) + j).toNat = i + j := by omega
        have hjs : i + j < s.size := by omega
        have hgj : s[i + j] = g j := by rw [HG.out]; exact at_eq s (i + j) hjs
        have i0 : (0 : Int) ≤ (i : Int) + j := by omega
        have i1 : (i : Int) + j < (s.size : Int) := by omega
        have hb : (g j).toNat < 256 := (g j).toNat_lt
        have i2 : (i : Int) + j < (i : Int) + 3 := by omega
        have HV : Hid (v8 g (j + 1) = 8 * v8 g j + (g j).toNat - 48) := Lib.hid rfl
        cases a1 : octB (g j)
        · have E := Lib.hid (o3_no hlt a1)
          have a2 : inB (g j).toNat 48 55 = false := by have := octB_f a1; simp only [inB, decide_eq_false_iff_not]; omega
          generalize v8 g j = v at *
          generalize g j = c at *
          go_wp2_with (go_at_call 106; refine (in_any _ _ _ _).mono ?_; rintro e w' ⟨rfl, rfl⟩)
          go_ret
          exact ⟨ret_int (by rw [E.out]; rfl), rfl⟩
        · have HN := Lib.hid (octTo_snoc HK.out a1)
          have a2 : inB (g j).toNat 48 55 = true := by have := octB_t a1; simp only [inB, decide_eq_true_eq]; omega
          obtain ⟨o1, o2⟩ := octB_t a1
          generalize v8 g j = v at *
          generalize g j = c at *
          go_wp2_with (go_at_call 106; refine (in_any _ _ _ _).mono ?_; rintro e w' ⟨rfl, rfl⟩)
          go_round
          case rel => exact ⟨j + 1, by omega, by go_num, by rw [HV.out], HN.out⟩
          case measure => simp [intOf]; omega
      · obtain rfl : j = 3 := by omega
        by_cases hv : 255 < v8 g 3
        · have E := Lib.hid (o3_big HK.out hv)
          generalize v8 g 3 = v at *
          go_wp2
          go_ret
          exact ⟨ret_int (by rw [E.out]; rfl), rfl⟩
        · obtain ⟨b, hb1, hb2⟩ := o3_ok HK.out (by omega)
          have E1 := Lib.hid hb1
          have E2 := Lib.hid hb2
          clear hb1 hb2
          generalize v8 g 3 = v at *
          go_wp2
          go_ret
          exact ⟨ret_int (by rw [E1.out]; exact E2.out.symm), rfl⟩
  · rw [if_neg h3]
    have hq : (s.size : Int) - 3 < (i : Int) := by omega
    go_enter Tryd.func131, Tryd.ntmps131
    go_wp2
    go_ret
    exact ⟨rfl, rfl⟩

theorem drop_at (s : ByteArray) (j : Nat) (h : j < s.size) : s.data.toList.drop j = at_ s j :: s.data.toList.drop (j + 1) := by
  have hl : j < s.data.toList.length := by simpa using h
  rw [List.drop_eq_getElem_cons hl]
  congr 1
  rw [at_, List.getD_eq_getElem?_getD, List.getElem?_eq_getElem hl]; rfl
theorem drop_end (s : ByteArray) (j : Nat) (h : s.size ≤ j) : s.data.toList.drop j = [] := List.drop_eq_nil_of_le (by simpa using h)
/-- What is told by the bytes from place i on, behind a byte 92. -/
def esc (s : ByteArray) (i : Nat) : Option (UInt8 × Nat) := rd (92 :: s.data.toList.drop i)
theorem esc_end {s : ByteArray} {i : Nat} (h : s.size ≤ i) : esc s i = none := by simp [esc, drop_end s i h, rd]
theorem esc_same {s : ByteArray} {i : Nat} (h : i < s.size) (hc : (at_ s i).toNat = 34 ∨ (at_ s i).toNat = 92) : esc s i = some (at_ s i, 2) := by
  have e : at_ s i = 34 ∨ at_ s i = 92 := by simpa [← UInt8.toNat_inj] using hc
  simp [esc, drop_at s i h, rd, e]
theorem esc_n {s : ByteArray} {i : Nat} (h : i < s.size) (hc : (at_ s i).toNat = 110) : esc s i = some (10, 2) := by
  have e : at_ s i = 110 := by simpa [← UInt8.toNat_inj] using hc
  simp [esc, drop_at s i h, rd, e]
theorem esc_t {s : ByteArray} {i : Nat} (h : i < s.size) (hc : (at_ s i).toNat = 116) : esc s i = some (9, 2) := by
  have e : at_ s i = 116 := by simpa [← UInt8.toNat_inj] using hc
  simp [esc, drop_at s i h, rd, e]
theorem esc_oct {s : ByteArray} {i : Nat} (h : i < s.size) (h1 : (at_ s i).toNat ≠ 34) (h2 : (at_ s i).toNat ≠ 92) (h3 : (at_ s i).toNat ≠ 110) (h4 : (at_ s i).toNat ≠ 116) :
    esc s i = if i + 3 ≤ s.size then (o3 fun t => at_ s (i + t)).map fun b => (b, 4) else none := by
  have e1 : at_ s i ≠ 34 := by intro e; rw [e] at h1; exact h1 rfl
  have e2 : at_ s i ≠ 92 := by intro e; rw [e] at h2; exact h2 rfl
  have e3 : at_ s i ≠ 110 := by intro e; rw [e] at h3; exact h3 rfl
  have e4 : at_ s i ≠ 116 := by intro e; rw [e] at h4; exact h4 rfl
  by_cases g : i + 3 ≤ s.size
  · rw [if_pos g, esc, drop_at s i h, drop_at s (i + 1) (by omega), drop_at s (i + 1 + 1) (by omega)]
    simp [rd, e1, e2, e3, e4, o3]
  · rw [if_neg g, esc, drop_at s i h]
    by_cases g1 : i + 1 < s.size
    · rw [drop_at s (i + 1) g1, drop_end s (i + 1 + 1) (by omega)]
      simp [rd, e1, e2, e3, e4]
    · rw [drop_end s (i + 1) (by omega)]
      simp [rd, e1, e2, e3, e4]
def tupE (i : Nat) (o : Option (UInt8 × Nat)) : Value := match o with | some (b, n) => .tuple #[.int .i64 b.toNat, .int .i64 ((i : Int) + n - 1)] | none => .tuple #[.int .i64 (-1), .int .i64 (-1)]
theorem ret_val {a b : Value} (h : a = b) : Ending.returned a = .returned b := by rw [h]

set_option maxHeartbeats 400000 in
theorem specEsc_any (s : ByteArray) (i : Nat) (w : World) (hs : s.size ≤ 1048576) (hi : i ≤ s.size) :
    Calls Tryd.prog 113 #[.string s, .int .i64 (i : Int)] w fun e w' => e = .returned (tupE i (esc s i)) ∧ w = w' := by
  by_cases h : i < s.size
  · have hgl := at_eq s i h
    have hb : (at_ s i).toNat < 256 := (at_ s i).toNat_lt
    by_cases h1 : (at_ s i).toNat = 34
    · have E := Lib.hid (esc_same h (.inl h1))
      have e1 : (((at_ s i).toNat : Int) == 34) = true := by simp; omega
      generalize at_ s i = c at *
      clear h1
      go_enter Tryd.func113, Tryd.ntmps113
      go_wp2
      go_ret2
      exact ⟨ret_val (by rw [E.out, tupE]; congr 3; simp; omega), rfl⟩
    by_cases h2 : (at_ s i).toNat = 92
    · have E := Lib.hid (esc_same h (.inr h2))
      have e1 : (((at_ s i).toNat : Int) == 34) = false := by simp; omega
      have e2 : (((at_ s i).toNat : Int) == 92) = true := by simp; omega
      generalize at_ s i = c at *
      clear h1 h2
      go_enter Tryd.func113, Tryd.ntmps113
      go_wp2
      go_ret2
      exact ⟨ret_val (by rw [E.out, tupE]; congr 3; simp; omega), rfl⟩
    have e1 : (((at_ s i).toNat : Int) == 34) = false := by simp; omega
    have e2 : (((at_ s i).toNat : Int) == 92) = false := by simp; omega
    by_cases h3 : (at_ s i).toNat = 110
    · have E := Lib.hid (esc_n h h3)
      have e3 : (((at_ s i).toNat : Int) == 110) = true := by simp; omega
      generalize at_ s i = c at *
      clear h1 h2 h3
      go_enter Tryd.func113, Tryd.ntmps113
      go_wp2
      go_ret2
      exact ⟨ret_val (by rw [E.out, tupE]; congr 3; simp; omega), rfl⟩
    have e3 : (((at_ s i).toNat : Int) == 110) = false := by simp; omega
    by_cases h4 : (at_ s i).toNat = 116
    · have E := Lib.hid (esc_t h h4)
      have e4 : (((at_ s i).toNat : Int) == 116) = true := by simp; omega
      generalize at_ s i = c at *
      clear h1 h2 h3 h4
      go_enter Tryd.func113, Tryd.ntmps113
      go_wp2
      go_ret2
      exact ⟨ret_val (by rw [E.out, tupE]; congr 3; simp; omega), rfl⟩
    have e4 : (((at_ s i).toNat : Int) == 116) = false := by simp; omega
    have E := Lib.hid (esc_oct h h1 h2 h3 h4)
    obtain ⟨r, hr⟩ : ∃ r : Int, r = (if i + 3 ≤ s.size then octI (o3 fun t => at_ s (i + t)) else -1) := ⟨_, rfl⟩
    have HC := Lib.hid (specOct_any s i w hs hi)
    rw [← hr] at HC
    have HR := Lib.hid hr
    clear hr
    by_cases hneg : 0 ≤ r
    · have F : Hid (∃ b : UInt8, esc s i = some (b, 4) ∧ (b.toNat : Int) = r) := by
        refine Lib.hid ?_
        have hr := HR.out
        rw [E.out]
        by_cases g : i + 3 ≤ s.size
        · rw [if_pos g] at hr ⊢
          cases ho : o3 fun t => at_ s (i + t) with
          | none => rw [ho] at hr; simp [octI] at hr; omega
          | some b => rw [ho] at hr; exact ⟨b, rfl, hr.symm⟩
        · rw [if_neg g] at hr; omega
      generalize at_ s i = c at *
      clear h1 h2 h3 h4
      go_enter Tryd.func113, Tryd.ntmps113
      go_wp2_with fail
      refine HC.out.mono ?_
      rintro e w' ⟨rfl, rfl⟩
      go_wp2
      go_ret2
      obtain ⟨b, hb1, hb2⟩ := F.out
      exact ⟨ret_val (by rw [hb1, tupE, ← hb2]; congr 3; simp; omega), rfl⟩
    · have F : Hid (esc s i = none) := by
        refine Lib.hid ?_
        have hr := HR.out
        rw [E.out]
        by_cases g : i + 3 ≤ s.size
        · rw [if_pos g] at hr ⊢
          cases ho : o3 fun t => at_ s (i + t) with
          | none => rfl
          | some b => rw [ho] at hr; simp [octI] at hr; omega
        · rw [if_neg g]
      have hneg2 : r < 0 := by omega
      generalize at_ s i = c at *
      clear h1 h2 h3 h4 hneg
      go_enter Tryd.func113, Tryd.ntmps113
      go_wp2_with fail
      refine HC.out.mono ?_
      rintro e w' ⟨rfl, rfl⟩
      go_wp2
      go_ret2
      exact ⟨ret_val (by rw [F.out]; rfl), rfl⟩
  · have E := Lib.hid (esc_end (s := s) (i := i) (by omega))
    go_enter Tryd.func113, Tryd.ntmps113
    go_wp2
    go_ret2
    exact ⟨ret_val (by rw [E.out]; rfl), rfl⟩
end Go.Proofs.YtalobgebdpaecaaDoor.kit
