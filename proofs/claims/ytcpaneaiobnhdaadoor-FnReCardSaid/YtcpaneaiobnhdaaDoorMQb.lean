/-
 How a byte is written inside quotes, and the contract of impl.quoteByte: for every byte it gives that text. Conditions: none.
-/
import Derived.Test.YtcpaneaiobnhdaaDoorMInfo
import Derived.Lib.AppendStr
import Derived.Deep.RegionLaw
namespace Go.Proofs.YtcpaneaiobnhdaaDoor.kit
open Go.ChangeShapes Go.WideShapes Go.ChangeAt Go.RowKit
set_option linter.unusedVariables false

/-- How a byte is written inside quotes. -/
def qb (c : UInt8) : List UInt8 :=
 if c = 34 ∨ c = 92 then [92, c] else if c = 10 then [92, 110] else if c = 9 then [92, 116]
 else if c < 32 ∨ 127 ≤ c then [92, 48 + c / 64, 48 + c / 8 % 8, 48 + c % 8] else [c]
def qbs (l : List UInt8) : List UInt8 := 34 :: l.flatMap qb
theorem qb_len (c : UInt8) : (qb c).length ≤ 4 := by
 unfold qb; repeat' split
 all_goals simp
theorem qb1 {c : UInt8} (h : c.toNat = 34 ∨ c.toNat = 92) : qb c = [92, c] := by
 have e : c = 34 ∨ c = 92 := by simpa [← UInt8.toNat_inj] using h
 simp [qb, e]
theorem qb2 {c : UInt8} (h : c.toNat = 10) : qb c = [92, 110] := by
 obtain rfl : c = 10 := by simpa [← UInt8.toNat_inj] using h
 rfl
theorem qb3 {c : UInt8} (h : c.toNat = 9) : qb c = [92, 116] := by
 obtain rfl : c = 9 := by simpa [← UInt8.toNat_inj] using h
 rfl
theorem qb4 {c : UInt8} (h1 : c.toNat ≠ 34) (h2 : c.toNat ≠ 92) (h3 : c.toNat ≠ 10) (h4 : c.toNat ≠ 9) (h : c.toNat < 32 ∨ 127 ≤ c.toNat) : qb c = [92, 48 + c / 64, 48 + c / 8 % 8, 48 + c % 8] := by
 have e : ¬ (c = 34 ∨ c = 92) := by simp [← UInt8.toNat_inj]; omega
 have e3 : ¬ c = 10 := by simp [← UInt8.toNat_inj]; omega
 have e4 : ¬ c = 9 := by simp [← UInt8.toNat_inj]; omega
 have e5 : c < 32 ∨ 127 ≤ c := by simpa [UInt8.lt_iff_toNat_lt, UInt8.le_iff_toNat_le] using h
 rw [qb, if_neg e, if_neg e3, if_neg e4, if_pos e5]
theorem qb5 {c : UInt8} (h1 : c.toNat ≠ 34) (h2 : c.toNat ≠ 92) (h3 : c.toNat ≠ 10) (h4 : c.toNat ≠ 9) (h : ¬ (c.toNat < 32 ∨ 127 ≤ c.toNat)) : qb c = [c] := by
 have e : ¬ (c = 34 ∨ c = 92) := by simp [← UInt8.toNat_inj]; omega
 have e3 : ¬ c = 10 := by simp [← UInt8.toNat_inj]; omega
 have e4 : ¬ c = 9 := by simp [← UInt8.toNat_inj]; omega
 have e5 : ¬ (c < 32 ∨ 127 ≤ c) := by simpa [UInt8.lt_iff_toNat_lt, UInt8.le_iff_toNat_le] using h
 rw [qb, if_neg e, if_neg e3, if_neg e4, if_neg e5]
theorem cells1 (c : UInt8) : [Value.int .u8 92, .int .u8 (c.toNat : Int)] = cellsOf [92, c] := rfl
theorem cells4 (c : UInt8) : [Value.int .u8 92, .int .u8 (48 + (c.toNat : Int) / 64), .int .u8 (48 + (c.toNat : Int) / 8 % 8), .int .u8 (48 + (c.toNat : Int) % 8)] = cellsOf [92, 48 + c / 64, 48 + c / 8 % 8, 48 + c % 8] := by
 have hc : c.toNat < 256 := c.toNat_lt
 simp only [cellsOf, List.map_cons, List.map_nil, UInt8.toNat_add, UInt8.toNat_div, UInt8.toNat_mod, UInt8.toNat_ofNat, Nat.reducePow, Nat.reduceMod]
 congr 2
 congr 1
 ·congr 1; omega
 congr 1
 ·congr 1; omega
 congr 1
 congr 1; omega

theorem wrap_u8 {n : Int} (h0 : 0 ≤ n) (h1 : n ≤ 255) : IntKind.u8.wrap n = n := by
 simp only [IntKind.wrap, IntKind.bits, IntKind.signed, Bool.false_and, Bool.false_eq_true, if_false]; omega
theorem cells4w (c : UInt8) : [Value.int .u8 92, .int .u8 (IntKind.u8.wrap (48 + IntKind.u8.wrap ((c.toNat : Int) / 64))), .int .u8 (IntKind.u8.wrap (48 + (IntKind.u8.wrap ((c.toNat : Int) / 8)).tmod 8)), .int .u8 (IntKind.u8.wrap (48 + (c.toNat : Int).tmod 8))] = cellsOf [92, 48 + c / 64, 48 + c / 8 % 8, 48 + c % 8] := by
 have hc : c.toNat < 256 := c.toNat_lt
 rw [wrap_u8 (n := (c.toNat : Int) / 64) (by omega) (by omega), wrap_u8 (n := (c.toNat : Int) / 8) (by omega) (by omega), Int.tmod_eq_emod_of_nonneg (by omega), Int.tmod_eq_emod_of_nonneg (by omega),
  wrap_u8 (by omega) (by omega), wrap_u8 (by omega) (by omega), wrap_u8 (by omega) (by omega)]
 exact cells4 c

theorem qbs_snoc (s : ByteArray) (k : Nat) (h : k < s.size) : qbs (s.data.toList.take (k + 1)) = qbs (s.data.toList.take k) ++ qb s[k] := by
 simp [qbs, take_snoc s k h]
theorem flat_len (l : List UInt8) : (l.flatMap qb).length ≤ 4 * l.length := by
 induction l with
 | nil => simp
 | cons a l ih => have := qb_len a; simp only [List.flatMap_cons, List.length_append, List.length_cons]; omega
theorem qbs_len (l : List UInt8) (k : Nat) : (qbs (l.take k)).length ≤ 4 * k + 1 := by
 have := flat_len (l.take k)
 have : (l.take k).length ≤ k := List.length_take_le _ _
 simp only [qbs, List.length_cons]; omega

end Go.Proofs.YtcpaneaiobnhdaaDoor.kit
/-
 Plain facts on quoted texts, of no program: how one byte is read inside quotes, how a whole text is read, and that reading it byte by byte with a check at each gives what reading it all and checking at the end gives. Conditions: each theorem names its own.
-/
namespace Go.Proofs.YtcpaneaiobnhdaaDoor.kit
set_option linter.unusedVariables false

def octB (c : UInt8) : Bool := decide (48 ≤ c.toNat ∧ c.toNat ≤ 55)
def octN (a b c : UInt8) : Nat := (a.toNat - 48) * 64 + (b.toNat - 48) * 8 + (c.toNat - 48)
def oct3 (a b c : UInt8) : Option UInt8 := if octB a && octB b && octB c && decide (octN a b c ≤ 255) then some (UInt8.ofNat (octN a b c)) else none
/-- The byte that is told first, and by how many bytes. -/
def rd : List UInt8 → Option (UInt8 × Nat)
 | [] => none
 | c :: r => if c = 92 then
   match r with
   | [] => none
   | d :: r2 => if d = 34 ∨ d = 92 then some (d, 2) else if d = 110 then some (10, 2) else if d = 116 then some (9, 2) else
    match r2 with
    | e :: f :: _ => (oct3 d e f).map fun b => (b, 4)
    | _ => none
  else some (c, 1)
def scan : Nat → List UInt8 → Option (List UInt8 × Nat)
 | 0, _ => none
 | n + 1, l => if l.head? = some 34 then some ([], 1) else
  match rd l with
  | none => none
  | some (b, k) => (scan n (l.drop k)).map fun x => (b :: x.1, k + x.2)
def scanS : Nat → List UInt8 → Option (List UInt8 × Nat)
 | 0, _ => none
 | n + 1, l => if l.head? = some 34 then some ([], 1) else
  match rd l with
  | none => none
  | some (b, k) => if qb b = l.take k then (scanS n (l.drop k)).map fun x => (b :: x.1, k + x.2) else none
theorem oct_fin : ∀ i : Fin 256, oct3 (48 + UInt8.ofNat i.val / 64) (48 + UInt8.ofNat i.val / 8 % 8) (48 + UInt8.ofNat i.val % 8) = some (UInt8.ofNat i.val) := by decide +kernel
theorem lead_fin : ∀ i : Fin 256, (48 + UInt8.ofNat i.val / 64 : UInt8) ≠ 34 ∧ (48 + UInt8.ofNat i.val / 64 : UInt8) ≠ 92 ∧ (48 + UInt8.ofNat i.val / 64 : UInt8) ≠ 110 ∧ (48 + UInt8.ofNat i.val / 64 : UInt8) ≠ 116 := by decide +kernel
theorem byte_fin (b : UInt8) : ∃ i : Fin 256, b = UInt8.ofNat i.val := ⟨⟨b.toNat, b.toNat_lt⟩, by simp⟩
theorem rd_qb (b : UInt8) (Y : List UInt8) : rd (qb b ++ Y) = some (b, (qb b).length) := by
 by_cases h1 : b.toNat = 34 ∨ b.toNat = 92
 ·rw [qb1 h1]
  have e : b = 34 ∨ b = 92 := by simpa [← UInt8.toNat_inj] using h1
  simp [rd, e]
 by_cases h2 : b.toNat = 10
 ·rw [qb2 h2]
  obtain rfl : b = 10 := by simpa [← UInt8.toNat_inj] using h2
  simp [rd]
 by_cases h3 : b.toNat = 9
 ·rw [qb3 h3]
  obtain rfl : b = 9 := by simpa [← UInt8.toNat_inj] using h3
  simp [rd]
 by_cases h4 : b.toNat < 32 ∨ 127 ≤ b.toNat
 ·rw [qb4 (by omega) (by omega) h2 h3 h4]
  obtain ⟨i, rfl⟩ := byte_fin b
  have ho := oct_fin i
  obtain ⟨l1, l2, l3, l4⟩ := lead_fin i
  generalize UInt8.ofNat i.val = c at *
  simp only [rd, List.cons_append, List.nil_append, if_true, l1, l2, l3, l4, or_self, if_false, ho, Option.map_some, List.length_cons, List.length_nil]
 ·rw [qb5 (by omega) (by omega) h2 h3 h4]
  have e : b ≠ 92 := by intro e; subst e; simp at h1
  simp [rd, e]
theorem rd_pos {l : List UInt8} {b : UInt8} {k : Nat} (h : rd l = some (b, k)) : 1 ≤ k ∧ k ≤ 4 ∧ k ≤ l.length := by
 cases l with
 | nil => simp [rd] at h
 | cons c r =>
  simp only [rd] at h
  split at h
  ·cases r with
   | nil => simp at h
   | cons d r2 =>
    simp only at h
    split at h
    ·simp at h; obtain ⟨_, rfl⟩ := h; simp
    ·split at h
     ·simp at h; obtain ⟨_, rfl⟩ := h; simp
     ·split at h
      ·simp at h; obtain ⟨_, rfl⟩ := h; simp
      ·match r2, h with
       | [], h => simp at h
       | [_], h => simp at h
       | e :: f :: r3, h =>
        simp at h
        obtain ⟨_, _, _, rfl⟩ := h
        simp
  ·simp at h; obtain ⟨_, rfl⟩ := h; simp
theorem strict_eq (n : Nat) : ∀ l : List UInt8, scanS n l = (scan n l).bind fun x => if x.1.flatMap qb ++ [34] = l.take x.2 then some x else none := by
 induction n with
 | zero => intro l; rfl
 | succ n ih =>
  intro l
  simp only [scanS, scan]
  by_cases h34 : l.head? = some 34
  ·rw [if_pos h34, if_pos h34]
   cases l with
   | nil => simp at h34
   | cons c r => simp at h34; subst h34; simp
  ·rw [if_neg h34, if_neg h34]
   cases hr : rd l with
   | none => rfl
   | some x =>
    obtain ⟨b, k⟩ := x
    have hp := rd_pos hr
    simp only
    by_cases hq : qb b = l.take k
    ·rw [if_pos hq, ih]
     cases hs : scan n (l.drop k) with
     | none => rfl
     | some y =>
      obtain ⟨o, m⟩ := y
      have e : ((b :: o).flatMap qb ++ [34] = l.take (k + m)) ↔ (o.flatMap qb ++ [34] = (l.drop k).take m) := by
       rw [List.take_add, List.flatMap_cons, List.append_assoc, hq]
       exact List.append_cancel_left_eq _ _ _ |>.to_iff
      simp only [Option.bind_some, Option.map_some]
      by_cases h : o.flatMap qb ++ [34] = (l.drop k).take m
      ·rw [if_pos h, if_pos (e.2 h)]; rfl
      ·rw [if_neg h, if_neg (fun g => h (e.1 g))]; rfl
    ·rw [if_neg hq]
     cases hs : scan n (l.drop k) with
     | none => rfl
     | some y =>
      obtain ⟨o, m⟩ := y
      simp only [Option.bind_some, Option.map_some]
      rw [if_neg]
      intro g
      apply hq
      rw [List.flatMap_cons, List.append_assoc] at g
      have hl : l = qb b ++ ((o.flatMap qb ++ [34]) ++ l.drop (k + m)) := by
       rw [← List.append_assoc, g, List.take_append_drop]
      have h2 := rd_qb b ((o.flatMap qb ++ [34]) ++ l.drop (k + m))
      rw [← hl, hr] at h2
      simp at h2
      rw [h2]
      conv => rhs; rw [hl]
      simp
end Go.Proofs.YtcpaneaiobnhdaaDoor.kit
/-
 Contracts of impl.readOctal, impl.readQuoted, spec.l01Octal and spec.l01Escape over this seat's translation: each reads one byte as it stands inside quotes. Conditions: the text has at most 1048576 bytes; of readQuoted that it is not empty; of the two of spec that the place is 0 or more and at most the text's length.
-/
namespace Go.Proofs.YtcpaneaiobnhdaaDoor.kit
open Go.ChangeShapes Go.WideShapes Go.ChangeAt Go.RowKit
set_option linter.unusedVariables false

def v8 (g : Nat → UInt8) : Nat → Int
 | 0 => 0
 | t + 1 => 8 * v8 g t + (g t).toNat - 48
def o3 (g : Nat → UInt8) : Option UInt8 := oct3 (g 0) (g 1) (g 2)
def OctTo (g : Nat → UInt8) (j : Nat) : Prop := ∀ t, t < j → octB (g t) = true
theorem octB_t {c : UInt8} (h : octB c = true) : 48 ≤ c.toNat ∧ c.toNat ≤ 55 := by simpa [octB] using h
theorem octB_f {c : UInt8} (h : octB c = false) : ¬ (48 ≤ c.toNat ∧ c.toNat ≤ 55) := by simpa [octB] using h
theorem octTo_snoc {g : Nat → UInt8} {j : Nat} (h : OctTo g j) (hj : octB (g j) = true) : OctTo g (j + 1) := by
 intro t ht
 by_cases e : t = j
 ·subst e; exact hj
 ·exact h t (by omega)
theorem v8_bd {g : Nat → UInt8} {j : Nat} (h : OctTo g j) (hj : j ≤ 3) : 0 ≤ v8 g j ∧ v8 g j ≤ 511 := by
 match j, hj with
 | 0, _ => simp [v8]
 | 1, _ => have a := octB_t (h 0 (by omega)); simp only [v8]; omega
 | 2, _ => have a := octB_t (h 0 (by omega)); have b := octB_t (h 1 (by omega)); simp only [v8]; omega
 | 3, _ => have a := octB_t (h 0 (by omega)); have b := octB_t (h 1 (by omega)); have c := octB_t (h 2 (by omega)); simp only [v8]; omega
theorem o3_no {g : Nat → UInt8} {j : Nat} (hj : j < 3) (h : octB (g j) = false) : o3 g = none := by
 match j, hj with
 | 0, _ => simp [o3, oct3, h]
 | 1, _ => simp [o3, oct3, h]
 | 2, _ => simp [o3, oct3, h]
theorem v8_eq {g : Nat → UInt8} (h : OctTo g 3) : v8 g 3 = (octN (g 0) (g 1) (g 2) : Int) := by
 have a := octB_t (h 0 (by omega)); have b := octB_t (h 1 (by omega)); have c := octB_t (h 2 (by omega))
 simp only [v8, octN]; omega
theorem o3_big {g : Nat → UInt8} (h : OctTo g 3) (hv : 255 < v8 g 3) : o3 g = none := by
 rw [v8_eq h] at hv
 have : ¬ octN (g 0) (g 1) (g 2) ≤ 255 := by omega
 simp [o3, oct3, this]
theorem o3_ok {g : Nat → UInt8} (h : OctTo g 3) (hv : v8 g 3 ≤ 255) : ∃ b : UInt8, o3 g = some b ∧ (b.toNat : Int) = v8 g 3 := by
 have e := v8_eq h
 rw [e] at hv ⊢
 have hn : octN (g 0) (g 1) (g 2) ≤ 255 := by omega
 refine ⟨UInt8.ofNat (octN (g 0) (g 1) (g 2)), ?_, ?_⟩
 ·simp [o3, oct3, h 0 (by omega), h 1 (by omega), h 2 (by omega), hn]
 ·rw [UInt8.toNat_ofNat']; omega

/-- What spec.l01Octal tells. -/
def octI (o : Option UInt8) : Int := match o with | some b => b.toNat | none => -1
def at_ (s : ByteArray) (j : Nat) : UInt8 := s.data.toList.getD j 0
theorem at_eq (s : ByteArray) (j : Nat) (h : j < s.size) : s[j] = at_ s j := by
 have hl : j < s.data.toList.length := by simpa using h
 show s.data.toList[j] = _
 rw [at_, List.getD_eq_getElem?_getD, List.getElem?_eq_getElem hl]; rfl

theorem drop_at (s : ByteArray) (j : Nat) (h : j < s.size) : s.data.toList.drop j = at_ s j :: s.data.toList.drop (j + 1) := by
 have hl : j < s.data.toList.length := by simpa using h
 rw [List.drop_eq_getElem_cons hl]
 congr 1
 rw [at_, List.getD_eq_getElem?_getD, List.getElem?_eq_getElem hl]; rfl
theorem drop_end (s : ByteArray) (j : Nat) (h : s.size ≤ j) : s.data.toList.drop j = [] := List.drop_eq_nil_of_le (by simpa using h)
/-- What is told by the bytes from place i on, behind a byte 92. -/
def esc (s : ByteArray) (i : Nat) : Option (UInt8 × Nat) := rd (92 :: s.data.toList.drop i)
theorem esc_end {s : ByteArray} {i : Nat} (h : s.size ≤ i) : esc s i = none := by simp [esc, drop_end s i h, rd]
theorem esc_same {s : ByteArray} {i : Nat} (h : i < s.size) (hc : (at_ s i).toNat = 34 ∨ (at_ s i).toNat = 92) : esc s i = some (at_ s i, 2) := by
 have e : at_ s i = 34 ∨ at_ s i = 92 := by simpa [← UInt8.toNat_inj] using hc
 simp [esc, drop_at s i h, rd, e]
theorem esc_n {s : ByteArray} {i : Nat} (h : i < s.size) (hc : (at_ s i).toNat = 110) : esc s i = some (10, 2) := by
 have e : at_ s i = 110 := by simpa [← UInt8.toNat_inj] using hc
 simp [esc, drop_at s i h, rd, e]
theorem esc_t {s : ByteArray} {i : Nat} (h : i < s.size) (hc : (at_ s i).toNat = 116) : esc s i = some (9, 2) := by
 have e : at_ s i = 116 := by simpa [← UInt8.toNat_inj] using hc
 simp [esc, drop_at s i h, rd, e]
theorem esc_oct {s : ByteArray} {i : Nat} (h : i < s.size) (h1 : (at_ s i).toNat ≠ 34) (h2 : (at_ s i).toNat ≠ 92) (h3 : (at_ s i).toNat ≠ 110) (h4 : (at_ s i).toNat ≠ 116) :
  esc s i = if i + 3 ≤ s.size then (o3 fun t => at_ s (i + t)).map fun b => (b, 4) else none := by
 have e1 : at_ s i ≠ 34 := by intro e; rw [e] at h1; exact h1 rfl
 have e2 : at_ s i ≠ 92 := by intro e; rw [e] at h2; exact h2 rfl
 have e3 : at_ s i ≠ 110 := by intro e; rw [e] at h3; exact h3 rfl
 have e4 : at_ s i ≠ 116 := by intro e; rw [e] at h4; exact h4 rfl
 by_cases g : i + 3 ≤ s.size
 ·rw [if_pos g, esc, drop_at s i h, drop_at s (i + 1) (by omega), drop_at s (i + 1 + 1) (by omega)]
  simp [rd, e1, e2, e3, e4, o3]
 ·rw [if_neg g, esc, drop_at s i h]
  by_cases g1 : i + 1 < s.size
  ·rw [drop_at s (i + 1) g1, drop_end s (i + 1 + 1) (by omega)]
   simp [rd, e1, e2, e3, e4]
  ·rw [drop_end s (i + 1) (by omega)]
   simp [rd, e1, e2, e3, e4]
def tupE (i : Nat) (o : Option (UInt8 × Nat)) : Value := match o with | some (b, n) => .tuple #[.int .i64 b.toNat, .int .i64 ((i : Int) + n - 1)] | none => .tuple #[.int .i64 (-1), .int .i64 (-1)]
theorem ret_val {a b : Value} (h : a = b) : Ending.returned a = .returned b := by rw [h]

end Go.Proofs.YtcpaneaiobnhdaaDoor.kit
