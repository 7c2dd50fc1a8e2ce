/-
  Plain facts on quoted texts, of no program: how one byte is read inside quotes, how a whole text is read, and that reading it byte by byte with a check at each gives what reading it all and checking at the end gives. Conditions: each theorem names its own.
-/
import Derived.Test.YtebeoijoljlhiaaGreatDoorMQb
namespace Go.Proofs.YtebeoijoljlhiaaGreatDoor.kit
set_option linter.unusedVariables false

def octB (c : UInt8) : Bool := decide (48 ≤ c.toNat ∧ c.toNat ≤ 55)
def octN (a b c : UInt8) : Nat := (a.toNat - 48) * 64 + (b.toNat - 48) * 8 + (c.toNat - 48)
def oct3 (a b c : UInt8) : Option UInt8 := if octB a && octB b && octB c && decide (octN a b c ≤ 255) then some (UInt8.ofNat (octN a b c)) else none
/-- The byte that is told first, and by how many bytes. -/
def rd : List UInt8 → Option (UInt8 × Nat)
  | [] => none
  | c :: r => if c = 92 then
      match r with
      | [] => none
      | d :: r2 => if d = 34 ∨ d = 92 then some (d, 2) else if d = 110 then some (10, 2) else if d = 116 then some (9, 2) else
        match r2 with
        | e :: f :: _ => (oct3 d e f).map fun b => (b, 4)
        | _ => none
    else some (c, 1)
def scan : Nat → List UInt8 → Option (List UInt8 × Nat)
  | 0, _ => none
  | n + 1, l => if l.head? = some 34 then some ([], 1) else
    match rd l with
    | none => none
    | some (b, k) => (scan n (l.drop k)).map fun x => (b :: x.1, k + x.2)
def scanS : Nat → List UInt8 → Option (List UInt8 × Nat)
  | 0, _ => none
  | n + 1, l => if l.head? = some 34 then some ([], 1) else
    match rd l with
    | none => none
    | some (b, k) => if qb b = l.take k then (scanS n (l.drop k)).map fun x => (b :: x.1, k + x.2) else none
theorem oct_fin : ∀ i : Fin 256, oct3 (48 + UInt8.ofNat i.val / 64) (48 + UInt8.ofNat i.val / 8 % 8) (48 + UInt8.ofNat i.val % 8) = some (UInt8.ofNat i.val) := by decide +kernel
theorem lead_fin : ∀ i : Fin 256, (48 + UInt8.ofNat i.val / 64 : UInt8) ≠ 34 ∧ (48 + UInt8.ofNat i.val / 64 : UInt8) ≠ 92 ∧ (48 + UInt8.ofNat i.val / 64 : UInt8) ≠ 110 ∧ (48 + UInt8.ofNat i.val / 64 : UInt8) ≠ 116 := by decide +kernel
theorem byte_fin (b : UInt8) : ∃ i : Fin 256, b = UInt8.ofNat i.val := ⟨⟨b.toNat, b.toNat_lt⟩, by simp⟩
theorem rd_qb (b : UInt8) (Y : List UInt8) : rd (qb b ++ Y) = some (b, (qb b).length) := by
  by_cases h1 : b.toNat = 34 ∨ b.toNat = 92
  · rw [qb1 h1]
    have e : b = 34 ∨ b = 92 := by simpa [← UInt8.toNat_inj] using h1
    simp [rd, e]
  by_cases h2 : b.toNat = 10
  · rw [qb2 h2]
    obtain rfl : b = 10 := by simpa [← UInt8.toNat_inj] using h2
    simp [rd]
  by_cases h3 : b.toNat = 9
  · rw [qb3 h3]
    obtain rfl : b = 9 := by simpa [← UInt8.toNat_inj] using h3
    simp [rd]
  by_cases h4 : b.toNat < 32 ∨ 127 ≤ b.toNat
  · rw [qb4 (by omega) (by omega) h2 h3 h4]
    obtain ⟨i, rfl⟩ := byte_fin b
    have ho := oct_fin i
    obtain ⟨l1, l2, l3, l4⟩ := lead_fin i
    generalize UInt8.ofNat i.val = c at *
    simp only [rd, List.cons_append, List.nil_append, if_true, l1, l2, l3, l4, or_self, if_false, ho, Option.map_some, List.length_cons, List.length_nil]
  · rw [qb5 (by omega) (by omega) h2 h3 h4]
    have e : b ≠ 92 := by intro e; subst e; simp at h1
    simp [rd, e]
theorem rd_pos {l : List UInt8} {b : UInt8} {k : Nat} (h : rd l = some (b, k)) : 1 ≤ k ∧ k ≤ 4 ∧ k ≤ l.length := by
  cases l with
  | nil => simp [rd] at h
  | cons c r =>
    simp only [rd] at h
    split at h
    · cases r with
      | nil => simp at h
      | cons d r2 =>
        simp only at h
        split at h
        · simp at h; obtain ⟨_, rfl⟩ := h; simp
        · split at h
          · simp at h; obtain ⟨_, rfl⟩ := h; simp
          · split at h
            · simp at h; obtain ⟨_, rfl⟩ := h; simp
            · match r2, h with
              | [], h => simp at h
              | [_], h => simp at h
              | e :: f :: r3, h =>
                simp at h
                obtain ⟨_, _, _, rfl⟩ := h
                simp
    · simp at h; obtain ⟨_, rfl⟩ := h; simp
theorem strict_eq (n : Nat) : ∀ l : List UInt8, scanS n l = (scan n l).bind fun x => if x.1.flatMap qb ++ [34] = l.take x.2 then some x else none := by
  induction n with
  | zero => intro l; rfl
  | succ n ih =>
    intro l
    simp only [scanS, scan]
    by_cases h34 : l.head? = some 34
    · rw [if_pos h34, if_pos h34]
      cases l with
      | nil => simp at h34
      | cons c r => simp at h34; subst h34; simp
    · rw [if_neg h34, if_neg h34]
      cases hr : rd l with
      | none => rfl
      | some x =>
        obtain ⟨b, k⟩ := x
        have hp := rd_pos hr
        simp only
        by_cases hq : qb b = l.take k
        · rw [if_pos hq, ih]
          cases hs : scan n (l.drop k) with
          | none => rfl
          | some y =>
            obtain ⟨o, m⟩ := y
            have e : ((b :: o).flatMap qb ++ [34] = l.take (k + m)) ↔ (o.flatMap qb ++ [34] = (l.drop k).take m) := by
              rw [List.take_add, List.flatMap_cons, List.append_assoc, hq]
              exact List.append_cancel_left_eq _ _ _ |>.to_iff
            simp only [Option.bind_some, Option.map_some]
            by_cases h : o.flatMap qb ++ [34] = (l.drop k).take m
            · rw [if_pos h, if_pos (e.2 h)]; rfl
            · rw [if_neg h, if_neg (fun g => h (e.1 g))]; rfl
        · rw [if_neg hq]
          cases hs : scan n (l.drop k) with
          | none => rfl
          | some y =>
            obtain ⟨o, m⟩ := y
            simp only [Option.bind_some, Option.map_some]
            rw [if_neg]
            intro g
            apply hq
            rw [List.flatMap_cons, List.append_assoc] at g
            have hl : l = qb b ++ ((o.flatMap qb ++ [34]) ++ l.drop (k + m)) := by
              rw [← List.append_assoc, g, List.take_append_drop]
            have h2 := rd_qb b ((o.flatMap qb ++ [34]) ++ l.drop (k + m))
            rw [← hl, hr] at h2
            simp at h2
            rw [h2]
            conv => rhs; rw [hl]
            simp
end Go.Proofs.YtebeoijoljlhiaaGreatDoor.kit
/-
  Contracts of impl.readOctal, impl.readQuoted, spec.l01Octal and spec.l01Escape over this seat's translation: each reads one byte as it stands inside quotes. Conditions: the text has at most 1048576 bytes; of readQuoted that it is not empty; of the two of spec that the place is 0 or more and at most the text's length.
-/
namespace Go.Proofs.YtebeoijoljlhiaaGreatDoor.kit
open Go.ChangeShapes Go.WideShapes Go.ChangeAt Go.RowKit
set_option linter.unusedVariables false

def v8 (g : Nat → UInt8) : Nat → Int
  | 0 => 0
  | t + 1 => 8 * v8 g t + (g t).toNat - 48
def o3 (g : Nat → UInt8) : Option UInt8 := oct3 (g 0) (g 1) (g 2)
def OctTo (g : Nat → UInt8) (j : Nat) : Prop := ∀ t, t < j → octB (g t) = true
theorem octB_t {c : UInt8} (h : octB c = true) : 48 ≤ c.toNat ∧ c.toNat ≤ 55 := by simpa [octB] using h
theorem octB_f {c : UInt8} (h : octB c = false) : ¬ (48 ≤ c.toNat ∧ c.toNat ≤ 55) := by simpa [octB] using h
theorem octTo_snoc {g : Nat → UInt8} {j : Nat} (h : OctTo g j) (hj : octB (g j) = true) : OctTo g (j + 1) := by
  intro t ht
  by_cases e : t = j
  · subst e; exact hj
  · exact h t (by omega)
theorem v8_bd {g : Nat → UInt8} {j : Nat} (h : OctTo g j) (hj : j ≤ 3) : 0 ≤ v8 g j ∧ v8 g j ≤ 511 := by
  match j, hj with
  | 0, _ => simp [v8]
  | 1, _ => have a := octB_t (h 0 (by omega)); simp only [v8]; omega
  | 2, _ => have a := octB_t (h 0 (by omega)); have b := octB_t (h 1 (by omega)); simp only [v8]; omega
  | 3, _ => have a := octB_t (h 0 (by omega)); have b := octB_t (h 1 (by omega)); have c := octB_t (h 2 (by omega)); simp only [v8]; omega
theorem o3_no {g : Nat → UInt8} {j : Nat} (hj : j < 3) (h : octB (g j) = false) : o3 g = none := by
  match j, hj with
  | 0, _ => simp [o3, oct3, h]
  | 1, _ => simp [o3, oct3, h]
  | 2, _ => simp [o3, oct3, h]
theorem v8_eq {g : Nat → UInt8} (h : OctTo g 3) : v8 g 3 = (octN (g 0) (g 1) (g 2) : Int) := by
  have a := octB_t (h 0 (by omega)); have b := octB_t (h 1 (by omega)); have c := octB_t (h 2 (by omega))
  simp only [v8, octN]; omega
theorem o3_big {g : Nat → UInt8} (h : OctTo g 3) (hv : 255 < v8 g 3) : o3 g = none := by
  rw [v8_eq h] at hv
  have : ¬ octN (g 0) (g 1) (g 2) ≤ 255 := by omega
  simp [o3, oct3, this]
theorem o3_ok {g : Nat → UInt8} (h : OctTo g 3) (hv : v8 g 3 ≤ 255) : ∃ b : UInt8, o3 g = some b ∧ (b.toNat : Int) = v8 g 3 := by
  have e := v8_eq h
  rw [e] at hv ⊢
  have hn : octN (g 0) (g 1) (g 2) ≤ 255 := by omega
  refine ⟨UInt8.ofNat (octN (g 0) (g 1) (g 2)), ?_, ?_⟩
  · simp [o3, oct3, h 0 (by omega), h 1 (by omega), h 2 (by omega), hn]
  · rw [UInt8.toNat_ofNat']; omega

/-- What spec.l01Octal tells. -/
def octI (o : Option UInt8) : Int := match o with | some b => b.toNat | none => -1
def at_ (s : ByteArray) (j : Nat) : UInt8 := s.data.toList.getD j 0
theorem at_eq (s : ByteArray) (j : Nat) (h : j < s.size) : s[j] = at_ s j := by
  have hl : j < s.data.toList.length := by simpa using h
  show s.data.toList[j] = _
  rw [at_, List.getD_eq_getElem?_getD, List.getElem?_eq_getElem hl]; rfl

set_option maxHeartbeats 400000 in
theorem specOct_any (s : ByteArray) (i : Nat) (w : World) (hs : s.size ≤ 1048576) (hi : i ≤ s.size) :
    Calls Tryz.prog 215 #[.string s, .int .i64 (i : Int)] w fun e w' => e = .returned (.int .i64 (if i + 3 ≤ s.size then octI (o3 fun t => at_ s (i + t)) else -1)) ∧ w = w' := by
  by_cases h3 : i + 3 ≤ s.size
  · rw [if_pos h3]
    have hq : ¬ (s.size : Int) - 3 < (i : Int) := by omega
    obtain ⟨g, hg⟩ : ∃ g : Nat → UInt8, g = fun t => at_ s (i + t) := ⟨_, rfl⟩
    rw [← hg]
    have HG := Lib.hid hg; clear hg
    go_enter Tryz.func215, Tryz.ntmps215
    go_wp2
    go_loop [5, 6] (fun v k => ∃ j : Nat, j ≤ 3 ∧ k = .int .i64 ((i : Int) + j) ∧ v = .int .i64 (v8 g j) ∧ OctTo g j) (fun _ k => i + 3 - (intOf k).toNat)
    case atStart => exact ⟨0, by omega, by go_num, rfl, fun t h => by omega⟩
    case round =>
      obtain ⟨j, hj, rfl, rfl, hok⟩ := hrel
      have hvb := v8_bd hok hj
      obtain ⟨vb0, vb1⟩ := hvb
      have HK := Lib.hid hok; clear hok
      by_cases hlt : j < 3
      · have e0 : ((i : Int) + j).toNat = i + j := by omega
        have hjs : i + j < s.size := by omega
        have hgj : s[i + j] = g j := by rw [HG.out]; exact at_eq s (i + j) hjs
        have i0 : (0 : Int) ≤ (i : Int) + j := by omega
        have i1 : (i : Int) + j < (s.size : Int) := by omega
        have hb : (g j).toNat < 256 := (g j).toNat_lt
        have i2 : (i : Int) + j < (i : Int) + 3 := by omega
        have HV : Hid (v8 g (j + 1) = 8 * v8 g j + (g j).toNat - 48) := Lib.hid rfl
        cases a1 : octB (g j)
        · have E := Lib.hid (o3_no hlt a1)
          have a2 : inB (g j).toNat 48 55 = false := by have := octB_f a1; simp only [inB, decide_eq_false_iff_not]; omega
          generalize v8 g j = v at *
          generalize g j = c at *
          go_wp2_with (go_at_call 67; refine (in_any _ _ _ _).mono ?_; rintro e w' ⟨rfl, rfl⟩)
          go_ret
          exact ⟨ret_int (by rw [E.out]; rfl), rfl⟩
        · have HN := Lib.hid (octTo_snoc HK.out a1)
          have a2 : inB (g j).toNat 48 55 = true := by have := octB_t a1; simp only [inB, decide_eq_true_eq]; omega
          obtain ⟨o1, o2⟩ := octB_t a1
          generalize v8 g j = v at *
          generalize g j = c at *
          go_wp2_with (go_at_call 67; refine (in_any _ _ _ _).mono ?_; rintro e w' ⟨rfl, rfl⟩)
          go_round
          case rel => exact ⟨j + 1, by omega, by go_num, by rw [HV.out], HN.out⟩
          case measure => simp [intOf]; omega
      · obtain rfl : j = 3 := by omega
        by_cases hv : 255 < v8 g 3
        · have E := Lib.hid (o3_big HK.out hv)
          generalize v8 g 3 = v at *
          go_wp2
          go_ret
          exact ⟨ret_int (by rw [E.out]; rfl), rfl⟩
        · obtain ⟨b, hb1, hb2⟩ := o3_ok HK.out (by omega)
          have E1 := Lib.hid hb1
          have E2 := Lib.hid hb2
          clear hb1 hb2
          generalize v8 g 3 = v at *
          go_wp2
          go_ret
          exact ⟨ret_int (by rw [E1.out]; exact E2.out.symm), rfl⟩
  · rw [if_neg h3]
    have hq : (s.size : Int) - 3 < (i : Int) := by omega
    go_enter Tryz.func215, Tryz.ntmps215
    go_wp2
    go_ret
    exact ⟨rfl, rfl⟩

theorem drop_at (s : ByteArray) (j : Nat) (h : j < s.size) : s.data.toList.drop j = at_ s j :: s.data.toList.drop (j + 1) := by
  have hl : j < s.data.toList.length := by simpa using h
  rw [List.drop_eq_getElem_cons hl]
  congr 1
  rw [at_, List.getD_eq_getElem?_getD, List.getElem?_eq_getElem hl]; rfl
theorem drop_end (s : ByteArray) (j : Nat) (h : s.size ≤ j) : s.data.toList.drop j = [] := List.drop_eq_nil_of_le (by simpa using h)
/-- What is told by the bytes from place i on, behind a byte 92. -/
def esc (s : ByteArray) (i : Nat) : Option (UInt8 × Nat) := rd (92 :: s.data.toList.drop i)
theorem esc_end {s : ByteArray} {i : Nat} (h : s.size ≤ i) : esc s i = none := by simp [esc, drop_end s i h, rd]
theorem esc_same {s : ByteArray} {i : Nat} (h : i < s.size) (hc : (at_ s i).toNat = 34 ∨ (at_ s i).toNat = 92) : esc s i = some (at_ s i, 2) := by
  have e : at_ s i = 34 ∨ at_ s i = 92 := by simpa [← UInt8.toNat_inj] using hc
  simp [esc, drop_at s i h, rd, e]
theorem esc_n {s : ByteArray} {i : Nat} (h : i < s.size) (hc : (at_ s i).toNat = 110) : esc s i = some (10, 2) := by
  have e : at_ s i = 110 := by simpa [← UInt8.toNat_inj] using hc
  simp [esc, drop_at s i h, rd, e]
theorem esc_t {s : ByteArray} {i : Nat} (h : i < s.size) (hc : (at_ s i).toNat = 116) : esc s i = some (9, 2) := by
  have e : at_ s i = 116 := by simpa [← UInt8.toNat_inj] using hc
  simp [esc, drop_at s i h, rd, e]
theorem esc_oct {s : ByteArray} {i : Nat} (h : i < s.size) (h1 : (at_ s i).toNat ≠ 34) (h2 : (at_ s i).toNat ≠ 92) (h3 : (at_ s i).toNat ≠ 110) (h4 : (at_ s i).toNat ≠ 116) :
    esc s i = if i + 3 ≤ s.size then (o3 fun t => at_ s (i + t)).map fun b => (b, 4) else none := by
  have e1 : at_ s i ≠ 34 := by intro e; rw [e] at h1; exact h1 rfl
  have e2 : at_ s i ≠ 92 := by intro e; rw [e] at h2; exact h2 rfl
  have e3 : at_ s i ≠ 110 := by intro e; rw [e] at h3; exact h3 rfl
  have e4 : at_ s i ≠ 116 := by intro e; rw [e] at h4; exact h4 rfl
  by_cases g : i + 3 ≤ s.size
  · rw [if_pos g, esc, drop_at s i h, drop_at s (i + 1) (by omega), drop_at s (i + 1 + 1) (by omega)]
    simp [rd, e1, e2, e3, e4, o3]
  · rw [if_neg g, esc, drop_at s i h]
    by_cases g1 : i + 1 < s.size
    · rw [drop_at s (i + 1) g1, drop_end s (i + 1 + 1) (by omega)]
      simp [rd, e1, e2, e3, e4]
    · rw [drop_end s (i + 1) (by omega)]
      simp [rd, e1, e2, e3, e4]
def tupE (i : Nat) (o : Option (UInt8 × Nat)) : Value := match o with | some (b, n) => .tuple #[.int .i64 b.toNat, .int .i64 ((i : Int) + n - 1)] | none => .tuple #[.int .i64 (-1), .int .i64 (-1)]
theorem ret_val {a b : Value} (h : a = b) : Ending.returned a = .returned b := by rw [h]

set_option maxHeartbeats 400000 in
theorem specEsc_any (s : ByteArray) (i : Nat) (w : World) (hs : s.size ≤ 1048576) (hi : i ≤ s.size) :
    Calls Tryz.prog 181 #[.string s, .int .i64 (i : Int)] w fun e w' => e = .returned (tupE i (esc s i)) ∧ w = w' := by
  by_cases h : i < s.size
  · have hgl := at_eq s i h
    have hb : (at_ s i).toNat < 256 := (at_ s i).toNat_lt
    by_cases h1 : (at_ s i).toNat = 34
    · have E := Lib.hid (esc_same h (.inl h1))
      have e1 : (((at_ s i).toNat : Int) == 34) = true := by simp; omega
      generalize at_ s i = c at *
      clear h1
      go_enter Tryz.func181, Tryz.ntmps181
      go_wp2
      go_ret2
      exact ⟨ret_val (by rw [E.out, tupE]; congr 3; simp; omega), rfl⟩
    by_cases h2 : (at_ s i).toNat = 92
    · have E := Lib.hid (esc_same h (.inr h2))
      have e1 : (((at_ s i).toNat : Int) == 34) = false := by simp; omega
      have e2 : (((at_ s i).toNat : Int) == 92) = true := by simp; omega
      generalize at_ s i = c at *
      clear h1 h2
      go_enter Tryz.func181, Tryz.ntmps181
      go_wp2
      go_ret2
      exact ⟨ret_val (by rw [E.out, tupE]; congr 3; simp; omega), rfl⟩
    have e1 : (((at_ s i).toNat : Int) == 34) = false := by simp; omega
    have e2 : (((at_ s i).toNat : Int) == 92) = false := by simp; omega
    by_cases h3 : (at_ s i).toNat = 110
    · have E := Lib.hid (esc_n h h3)
      have e3 : (((at_ s i).toNat : Int) == 110) = true := by simp; omega
      generalize at_ s i = c at *
      clear h1 h2 h3
      go_enter Tryz.func181, Tryz.ntmps181
      go_wp2
      go_ret2
      exact ⟨ret_val (by rw [E.out, tupE]; congr 3; simp; omega), rfl⟩
    have e3 : (((at_ s i).toNat : Int) == 110) = false := by simp; omega
    by_cases h4 : (at_ s i).toNat = 116
    · have E := Lib.hid (esc_t h h4)
      have e4 : (((at_ s i).toNat : Int) == 116) = true := by simp; omega
      generalize at_ s i = c at *
      clear h1 h2 h3 h4
      go_enter Tryz.func181, Tryz.ntmps181
      go_wp2
      go_ret2
      exact ⟨ret_val (by rw [E.out, tupE]; congr 3; simp; omega), rfl⟩
    have e4 : (((at_ s i).toNat : Int) == 116) = false := by simp; omega
    have E := Lib.hid (esc_oct h h1 h2 h3 h4)
    obtain ⟨r, hr⟩ : ∃ r : Int, r = (if i + 3 ≤ s.size then octI (o3 fun t => at_ s (i + t)) else -1) := ⟨_, rfl⟩
    have HC := Lib.hid (specOct_any s i w hs hi)
    rw [← hr] at HC
    have HR := Lib.hid hr
    clear hr
    by_cases hneg : 0 ≤ r
    · have F : Hid (∃ b : UInt8, esc s i = some (b, 4) ∧ (b.toNat : Int) = r) := by
        refine Lib.hid ?_
        have hr := HR.out
        rw [E.out]
        by_cases g : i + 3 ≤ s.size
        · rw [if_pos g] at hr ⊢
          cases ho : o3 fun t => at_ s (i + t) with
          | none => rw [ho] at hr; simp [octI] at hr; omega
          | some b => rw [ho] at hr; exact ⟨b, rfl, hr.symm⟩
        · rw [if_neg g] at hr; omega
      generalize at_ s i = c at *
      clear h1 h2 h3 h4
      go_enter Tryz.func181, Tryz.ntmps181
      go_wp2_with fail
      refine HC.out.mono ?_
      rintro e w' ⟨rfl, rfl⟩
      go_wp2
      go_ret2
      obtain ⟨b, hb1, hb2⟩ := F.out
      exact ⟨ret_val (by rw [hb1, tupE, ← hb2]; congr 3; simp; omega), rfl⟩
    · have F : Hid (esc s i = none) := by
        refine Lib.hid ?_
        have hr := HR.out
        rw [E.out]
        by_cases g : i + 3 ≤ s.size
        · rw [if_pos g] at hr ⊢
          cases ho : o3 fun t => at_ s (i + t) with
          | none => rfl
          | some b => rw [ho] at hr; simp [octI] at hr; omega
        · rw [if_neg g]
      have hneg2 : r < 0 := by omega
      generalize at_ s i = c at *
      clear h1 h2 h3 h4 hneg
      go_enter Tryz.func181, Tryz.ntmps181
      go_wp2_with fail
      refine HC.out.mono ?_
      rintro e w' ⟨rfl, rfl⟩
      go_wp2
      go_ret2
      exact ⟨ret_val (by rw [F.out]; rfl), rfl⟩
  · have E := Lib.hid (esc_end (s := s) (i := i) (by omega))
    go_enter Tryz.func181, Tryz.ntmps181
    go_wp2
    go_ret2
    exact ⟨ret_val (by rw [E.out]; rfl), rfl⟩
end Go.Proofs.YtebeoijoljlhiaaGreatDoor.kit
/-
  Contracts of impl.readOctal and impl.readQuoted over this seat's translation: each reads one byte as it stands inside quotes. Conditions: the text has 1 .. 1048576 bytes.
-/
namespace Go.Proofs.YtebeoijoljlhiaaGreatDoor.kit
open Go.ChangeShapes Go.WideShapes Go.ChangeAt Go.RowKit
set_option linter.unusedVariables false

def tupB (o : Option (UInt8 × Nat)) : Value := match o with | some (b, n) => .tuple #[.int .u8 b.toNat, .int .i64 (n : Int)] | none => .tuple #[.int .u8 0, .int .i64 0]

set_option maxHeartbeats 400000 in
theorem implOct_any (t : ByteArray) (w : World) (hs : t.size ≤ 1048576) :
    Calls Tryz.prog 247 #[.string t] w fun e w' => e = .returned (tupB (if 4 ≤ t.size then (o3 fun j => at_ t (1 + j)).map fun b => (b, 4) else none)) ∧ Below w.heap.size w w' := by
  by_cases h4 : 4 ≤ t.size
  · rw [if_pos h4]
    have hq : ¬ (t.size : Int) < 4 := by omega
    obtain ⟨g, hg⟩ : ∃ g : Nat → UInt8, g = fun j => at_ t (1 + j) := ⟨_, rfl⟩
    rw [← hg]
    have HG := Lib.hid hg; clear hg
    have hsl := fun (W : World) => run_slice_string (P := Tryz.prog) W 9 t .i64 .i64 1 4 Tryz.underlying9 (by omega) (by omega) (by omega)
    obtain ⟨u, hu⟩ : ∃ u : ByteArray, u = t.extract (Int.toNat 1) (Int.toNat 4) := ⟨_, rfl⟩
    rw [← hu] at hsl
    have hu1 : u.size ≤ 3 := by rw [hu]; simp [ByteArray.size_extract]; omega
    have hu2 : 3 ≤ u.size := by rw [hu]; simp [ByteArray.size_extract]; omega
    have hat : ∀ (j : Nat) (h : j < u.size), u[j] = g j := by
      intro j h
      rw [HG.out]
      subst hu
      rw [ByteArray.getElem_extract]
      exact at_eq t (1 + j) _
    have HA := Lib.hid hat
    clear hat hu
    go_enter Tryz.func247, Tryz.ntmps247
    go_wp2
    go_loopw [4] (fun v w' => ∃ pos : Nat, w' = w.iter u pos ∧ v = .int .i32 (v8 g pos) ∧ OctTo g pos ∧ pos ≤ 3) (fun _ w' => u.size - w'.iterPos w.heap.size)
    case atStart => exact ⟨0, rfl, rfl, fun t h => by omega, by omega⟩
    case round =>
      obtain ⟨pos, rfl, rfl, hok, hj⟩ := hrel
      have hvb := v8_bd hok hj
      obtain ⟨vb0, vb1⟩ := hvb
      have HK := Lib.hid hok; clear hok
      by_cases hp : pos < u.size
      · have hgl := HA.out pos hp
        have HV : Hid (v8 g (pos + 1) = 8 * v8 g pos + (g pos).toNat - 48) := Lib.hid rfl
        by_cases ha : u[pos].toNat < 128
        · have hnx : ∀ ty, (Instr.next (.pointer (some ⟨w.heap.size, 0, none⟩)) true ty).run Tryz.prog (w.iter u pos) = _ := fun ty => run_next_ascii w u pos ty hp ha
          rw [hgl] at hnx ha
          clear hgl
          cases a1 : octB (g pos)
          · have E := Lib.hid (o3_no (by omega) a1)
            have a2 := octB_f a1
            generalize v8 g pos = v at *
            generalize g pos = c at *
            clear a1
            by_cases q : (c.toNat : Int) < 48
            · go_wp2
              go_ret2
              exact ⟨ret_val (by rw [E.out]; rfl), (Below.refl _ _).alloc (Nat.le_refl _) _⟩
            · have q2 : (55 : Int) < (c.toNat : Int) := by omega
              go_wp2
              go_ret2
              exact ⟨ret_val (by rw [E.out]; rfl), (Below.refl _ _).alloc (Nat.le_refl _) _⟩
          · have HN := Lib.hid (octTo_snoc HK.out a1)
            obtain ⟨o1, o2⟩ := octB_t a1
            generalize v8 g pos = v at *
            generalize g pos = c at *
            clear a1
            go_wp2
            go_roundw
            case rel => exact ⟨pos + 1, rfl, by rw [HV.out]; go_num, HN.out, by omega⟩
            case measure => simp; omega
        · have hh := decode_high u pos hp (by omega)
          have hnx : ∀ ty, (Instr.next (.pointer (some ⟨w.heap.size, 0, none⟩)) true ty).run Tryz.prog (w.iter u pos) = _ := fun ty => run_next_any w u pos ty hp
          have E := Lib.hid (o3_no (g := g) (j := pos) (by omega) (by rw [← hgl]; simp only [octB, decide_eq_false_iff_not]; omega))
          generalize hu : (Utf8.decode u pos).1 = r at hnx hh
          generalize hv : (Utf8.decode u pos).2 = n at hnx hh
          clear hu hv hgl
          have q2 : (55 : Int) < (r : Int) := by omega
          generalize v8 g pos = v at *
          generalize g pos = c at *
          go_wp2
          go_ret2
          exact ⟨ret_val (by rw [E.out]; rfl), (Below.refl _ _).alloc (Nat.le_refl _) _⟩
      · have hnx : ∀ ty, (Instr.next (.pointer (some ⟨w.heap.size, 0, none⟩)) true ty).run Tryz.prog (w.iter u pos) = _ := fun ty => run_next_end w u pos ty hp
        obtain rfl : pos = 3 := by omega
        by_cases hv : 255 < v8 g 3
        · have E := Lib.hid (o3_big HK.out hv)
          generalize v8 g 3 = v at *
          go_wp2
          go_ret2
          exact ⟨ret_val (by rw [E.out]; rfl), (Below.refl _ _).alloc (Nat.le_refl _) _⟩
        · obtain ⟨b, hb1, hb2⟩ := o3_ok HK.out (by omega)
          have E1 := Lib.hid hb1
          have E2 := Lib.hid hb2
          clear hb1 hb2
          generalize v8 g 3 = v at *
          go_wp2
          go_ret2
          exact ⟨ret_val (by rw [E1.out]; simp only [Option.map_some, tupB]; rw [E2.out]; rfl), (Below.refl _ _).alloc (Nat.le_refl _) _⟩
  · rw [if_neg h4]
    have hq : (t.size : Int) < 4 := by omega
    go_enter Tryz.func247, Tryz.ntmps247
    go_wp2
    go_ret2
    exact ⟨rfl, Below.refl _ _⟩

theorem rd_plain {t : ByteArray} (h : 0 < t.size) (hc : (at_ t 0).toNat ≠ 92) : rd t.data.toList = some (at_ t 0, 1) := by
  have := drop_at t 0 h
  rw [List.drop_zero] at this
  have e : at_ t 0 ≠ 92 := by intro e; rw [e] at hc; exact hc rfl
  rw [this]; simp [rd, e]
theorem rd_esc {t : ByteArray} (h : 0 < t.size) (hc : (at_ t 0).toNat = 92) : rd t.data.toList = esc t 1 := by
  have := drop_at t 0 h
  rw [List.drop_zero] at this
  have e : at_ t 0 = 92 := by simpa [← UInt8.toNat_inj] using hc
  rw [this, e, esc]
end Go.Proofs.YtebeoijoljlhiaaGreatDoor.kit
/-
  Contract of impl.readQuoted over this seat's translation: it reads one byte as it stands inside quotes. Conditions: the text has 1 .. 1048576 bytes.
-/
namespace Go.Proofs.YtebeoijoljlhiaaGreatDoor.kit
open Go.ChangeShapes Go.WideShapes Go.ChangeAt Go.RowKit
set_option linter.unusedVariables false

set_option maxHeartbeats 400000 in
theorem implRq_any (t : ByteArray) (w : World) (hs : t.size ≤ 1048576) (h0 : 0 < t.size) :
    Calls Tryz.prog 213 #[.string t] w fun e w' => e = .returned (tupB (rd t.data.toList)) ∧ Below w.heap.size w w' := by
  have hg0 := at_eq t 0 h0
  have hb0 : (at_ t 0).toNat < 256 := (at_ t 0).toNat_lt
  have i00 : (0 : Int) < (t.size : Int) := by omega
  by_cases h92 : (at_ t 0).toNat = 92
  · rw [rd_esc h0 h92]
    have e0 : (((at_ t 0).toNat : Int) != 92) = false := by simp; omega
    generalize at_ t 0 = c0 at *
    clear h92
    by_cases h2 : t.size < 2
    · have E := Lib.hid (esc_end (s := t) (i := 1) (by omega))
      go_enter Tryz.func213, Tryz.ntmps213
      go_wp2
      go_ret2
      exact ⟨ret_val (by rw [E.out]; rfl), Below.refl _ _⟩
    · have h2' : ¬ (t.size : Int) < 2 := by omega
      have h1 : 1 < t.size := by omega
      have i01 : (1 : Int) < (t.size : Int) := by omega
      have hg1 := at_eq t 1 h1
      have hb1 : (at_ t 1).toNat < 256 := (at_ t 1).toNat_lt
      clear h2
      by_cases k1 : (at_ t 1).toNat = 34
      · have E := Lib.hid (esc_same h1 (.inl k1))
        have e1 : (((at_ t 1).toNat : Int) == 34) = true := by simp; omega
        generalize at_ t 1 = c at *
        clear k1
        go_enter Tryz.func213, Tryz.ntmps213
        go_wp2
        go_ret2
        exact ⟨ret_val (by rw [E.out]; rfl), Below.refl _ _⟩
      by_cases k2 : (at_ t 1).toNat = 92
      · have E := Lib.hid (esc_same h1 (.inr k2))
        have e1 : (((at_ t 1).toNat : Int) == 34) = false := by simp; omega
        have e2 : (((at_ t 1).toNat : Int) == 92) = true := by simp; omega
        generalize at_ t 1 = c at *
        clear k1 k2
        go_enter Tryz.func213, Tryz.ntmps213
        go_wp2
        go_ret2
        exact ⟨ret_val (by rw [E.out]; rfl), Below.refl _ _⟩
      have e1 : (((at_ t 1).toNat : Int) == 34) = false := by simp; omega
      have e2 : (((at_ t 1).toNat : Int) == 92) = false := by simp; omega
      by_cases k3 : (at_ t 1).toNat = 110
      · have E := Lib.hid (esc_n h1 k3)
        have e3 : (((at_ t 1).toNat : Int) == 110) = true := by simp; omega
        generalize at_ t 1 = c at *
        clear k1 k2 k3
        go_enter Tryz.func213, Tryz.ntmps213
        go_wp2
        go_ret2
        exact ⟨ret_val (by rw [E.out]; rfl), Below.refl _ _⟩
      have e3 : (((at_ t 1).toNat : Int) == 110) = false := by simp; omega
      by_cases k4 : (at_ t 1).toNat = 116
      · have E := Lib.hid (esc_t h1 k4)
        have e4 : (((at_ t 1).toNat : Int) == 116) = true := by simp; omega
        generalize at_ t 1 = c at *
        clear k1 k2 k3 k4
        go_enter Tryz.func213, Tryz.ntmps213
        go_wp2
        go_ret2
        exact ⟨ret_val (by rw [E.out]; rfl), Below.refl _ _⟩
      have e4 : (((at_ t 1).toNat : Int) == 116) = false := by simp; omega
      have E : Hid (esc t 1 = (if 4 ≤ t.size then (o3 fun j => at_ t (1 + j)).map fun b => (b, 4) else none)) := Lib.hid (by rw [esc_oct h1 k1 k2 k3 k4])
      have HC := Lib.hid (implOct_any t w hs)
      rw [← E.out] at HC
      generalize at_ t 1 = c at *
      clear k1 k2 k3 k4
      cases hes : esc t 1 with
      | none =>
        rw [hes] at HC
        clear hes E
        go_enter Tryz.func213, Tryz.ntmps213
        go_wp2_with fail
        refine HC.out.mono ?_
        rintro e w' ⟨rfl, hb⟩
        simp only [tupB]
        go_wp2
        go_ret2
        exact ⟨rfl, hb⟩
      | some x =>
        obtain ⟨b, n⟩ := x
        rw [hes] at HC
        clear hes E
        go_enter Tryz.func213, Tryz.ntmps213
        go_wp2_with fail
        refine HC.out.mono ?_
        rintro e w' ⟨rfl, hb⟩
        simp only [tupB]
        go_wp2
        go_ret2
        exact ⟨rfl, hb⟩
  · have E := Lib.hid (rd_plain h0 h92)
    have e0 : (((at_ t 0).toNat : Int) != 92) = true := by simp; omega
    generalize at_ t 0 = c0 at *
    clear h92
    go_enter Tryz.func213, Tryz.ntmps213
    go_wp2
    go_ret2
    exact ⟨ret_val (by rw [E.out]; rfl), Below.refl _ _⟩
end Go.Proofs.YtebeoijoljlhiaaGreatDoor.kit
