/-
  Contracts of spec.ReadDec and impl.ReadDec over this seat's translation: for every text both give the number whose decimal text it is, or -1. Conditions: none but that the text has at most maxLen bytes.
-/
import Derived.Test.YthffjcclcladoaaGreatDoorRows
import Derived.Test.YthffjcclcladoaaGreatDoorMDec
import Derived.Test.YthffjcclcladoaaGreatDoorMRd0
import Derived.Test.YthffjcclcladoaaGreatDoorMDig
namespace Go.Proofs.YthffjcclcladoaaGreatDoor.kit
open Go.ChangeShapes Go.WideShapes Go.ChangeAt Go.RowKit
set_option linter.unusedVariables false

def DigTo (s : ByteArray) (k : Nat) : Prop := ∀ (j : Nat) (h : j < s.size), j < k → digB s[j].toNat = true
open Classical in
/-- What both answer. -/
noncomputable def rdv (s : ByteArray) : Int := if s.size ≤ 9 ∧ DigTo s s.size ∧ Lib.decDigits (valN s.data.toList) = s.data.toList then (valN s.data.toList : Int) else -1
theorem digTo_snoc {s : ByteArray} {k : Nat} (h : DigTo s k) (hk : k < s.size) (ho : digB s[k].toNat = true) : DigTo s (k + 1) := by
  intro j hj hjk
  by_cases e : j = k
  · subst e; exact ho
  · exact h j hj (by omega)
theorem dig_of {c : UInt8} (h : digB c.toNat = true) : isDig c := by
  simp only [digB, inB, decide_eq_true_eq] at h; unfold isDig; omega
theorem dig_mem {s : ByteArray} {k : Nat} (h : DigTo s k) : ∀ c ∈ s.data.toList.take k, isDig c := by
  intro c hc
  obtain ⟨j, hj, rfl⟩ := List.getElem_of_mem hc
  have hj2 : j < s.size := by simp at hj; omega
  have hj3 : j < k := by simp at hj; omega
  have := dig_of (h j hj2 hj3)
  rw [List.getElem_take]; exact this
theorem rdv_no {s : ByteArray} {k : Nat} (h : k < s.size) (hk : digB s[k].toNat = false) : rdv s = -1 := by
  rw [rdv, if_neg]; rintro ⟨_, g, _⟩; have := g k h h; rw [hk] at this; cases this
theorem rdv_long {s : ByteArray} (h : 9 < s.size) : rdv s = -1 := by rw [rdv, if_neg]; rintro ⟨g, _⟩; omega
theorem rdv_empty {s : ByteArray} (h : s.size = 0) : rdv s = -1 := by
  rw [rdv, if_neg]; rintro ⟨_, _, g⟩
  have a := congrArg List.length g
  rw [Lib.decDigits_length, show s.data.toList.length = s.size by simp] at a
  have := Lib.nDigits_pos (valN s.data.toList)
  omega
theorem rdv_end {s : ByteArray} {k : Nat} (h9 : s.size ≤ 9) (h : DigTo s k) (hk : s.size ≤ k) : rdv s = if Lib.decDigits (valN s.data.toList) = s.data.toList then (valN s.data.toList : Int) else -1 := by
  have : DigTo s s.size := fun j hj _ => h j hj (by omega)
  rw [rdv]; simp [h9, this]
theorem val_step {s : ByteArray} {k : Nat} (hk : k < s.size) (hd : digB s[k].toNat = true) : (valN (s.data.toList.take (k + 1)) : Int) = 10 * (valN (s.data.toList.take k) : Int) + s[k].toNat - 48 := by
  rw [take_snoc s k hk, valN_snoc]
  have := dig_of hd
  unfold isDig at this
  omega
theorem val_bd {s : ByteArray} {k : Nat} (h : DigTo s k) (h9 : s.size ≤ 9) : valN (s.data.toList.take k) < 1000000000 := by
  have a := valN_lt _ (dig_mem h)
  have b : (s.data.toList.take k).length ≤ 9 := by simp; omega
  exact Nat.lt_of_lt_of_le a (Nat.pow_le_pow_right (by omega) b)

theorem list_of_head (s : ByteArray) (h : 0 < s.size) : ∃ t, s.data.toList = s[0] :: t := by
  have hl : 0 < s.data.toList.length := by simpa using h
  cases e : s.data.toList with
  | nil => rw [e] at hl; simp at hl
  | cons a t =>
    have : s.data.toList[0] = s[0] := rfl
    refine ⟨t, ?_⟩
    rw [← this]; simp [e]
theorem rdv_nought {s : ByteArray} (h : 1 < s.size) (h0 : s[0].toNat = 48) : rdv s = -1 := by
  rw [rdv, if_neg]; rintro ⟨_, _, g⟩
  obtain ⟨t, ht⟩ := list_of_head s (by omega)
  have e0 : s[0] = 48 := UInt8.toNat_inj.1 h0
  have hz := head_of_dec _ _ (Nat.le_refl _) (by rw [g, ht, e0]; rfl)
  rw [hz, Lib.decDigits_one (by omega)] at g
  have a := congrArg List.length g
  rw [show s.data.toList.length = s.size by simp] at a
  simp at a; omega
theorem rdv_val {s : ByteArray} {k : Nat} (h9 : s.size ≤ 9) (hd : DigTo s k) (hk : s.size ≤ k) (h1 : 0 < s.size) (h : s[0].toNat ≠ 48 ∨ s.size = 1) : rdv s = (valN s.data.toList : Int) := by
  rw [rdv_end h9 hd hk, if_pos]
  obtain ⟨t, ht⟩ := list_of_head s h1
  have hm := dig_mem hd
  rw [take_all s k hk, ht] at hm
  rw [ht]
  by_cases h48 : s[0].toNat = 48
  · have hs1 : s.size = 1 := by omega
    have a := congrArg List.length ht
    rw [show s.data.toList.length = s.size by simp, hs1] at a
    have : t = [] := List.length_eq_zero_iff.1 (by simpa using a.symm)
    subst this
    have e0 : s[0] = 48 := UInt8.toNat_inj.1 h48
    rw [e0]
    rw [show valN [48] = 0 from rfl, Lib.decDigits_one (by omega)]; rfl
  · exact dec_of_digits _ h48 t hm
theorem one_nought {s : ByteArray} (h1 : 0 < s.size) (h0 : s[0].toNat = 48) : (s.toList == [48]) = decide (s.size = 1) := by
  obtain ⟨t, ht⟩ := list_of_head s h1
  have e0 : s[0] = 48 := UInt8.toNat_inj.1 h0
  have a := congrArg List.length ht
  rw [show s.data.toList.length = s.size by simp] at a
  rw [ByteArray.toList_eq, ht, e0, a, Bool.eq_iff_iff]
  simp

set_option maxHeartbeats 400000 in
theorem implRd_loop (s : ByteArray) (w : World) (h9 : s.size ≤ 9) (h1 : 0 < s.size) (h : s[0].toNat ≠ 48 ∨ s.size = 1) :
    Calls Tryz.prog 89 #[.string s] w fun e w' => e = .returned (.int .i64 (rdv s)) ∧ Below w.heap.size w w' := by
  have he := not_empty_of_size (s := s) (by omega)
  have hd : decide (9 < s.size) = false := by simp; omega
  have HH := Lib.hid h
  have hb0 : s[0].toNat < 256 := s[0].toNat_lt
  have key : ∀ (b c : Bool), ((s[0].toNat : Int) == 48) = b → (s.toList == [48]) = c → (b && !c) = false →
      Calls Tryz.prog 89 #[.string s] w fun e w' => e = .returned (.int .i64 (rdv s)) ∧ Below w.heap.size w w' := by
    intro b c hb hc hbc
    clear h
    cases b <;> cases c <;> simp only [Bool.false_and, Bool.true_and, Bool.not_false, Bool.not_true, Bool.true_eq_false] at hbc
    all_goals
      clear hbc
      go_enter Tryz.func89, Tryz.ntmps89
      go_wp2
      go_loopw [3] (fun v w' => ∃ pos : Nat, w' = w.iter s pos ∧ v = .int .i64 (valN (s.data.toList.take pos) : Int) ∧ DigTo s pos ∧ pos ≤ s.size) (fun _ w' => s.size - w'.iterPos w.heap.size)
      case atStart => exact ⟨0, rfl, by simp [valN], fun j _ h => by omega, by omega⟩
      case round =>
        obtain ⟨pos, rfl, rfl, hok, hple⟩ := hrel
        have hvb := val_bd hok (by omega)
        have HK := Lib.hid hok; clear hok
        by_cases hp : pos < s.size
        · by_cases ha : s[pos].toNat < 128
          · have hnx : ∀ ty, (Instr.next (.pointer (some ⟨w.heap.size, 0, none⟩)) true ty).run Tryz.prog (w.iter s pos) = _ := fun ty => run_next_ascii w s pos ty hp ha
            cases a1 : digB s[pos].toNat
            · have E := Lib.hid (rdv_no hp a1)
              go_wp2_with (go_at_call 107; refine (isDigit_any _ _).mono ?_; rintro e w' ⟨rfl, rfl⟩)
              go_ret
              exact ⟨ret_int E.out.symm, (Below.refl _ _).alloc (Nat.le_refl _) _⟩
            · have HN := Lib.hid (digTo_snoc HK.out hp a1)
              have HV := Lib.hid (val_step hp a1)
              have hdg := dig_of a1
              unfold isDig at hdg
              obtain ⟨hg1, hg2⟩ := hdg
              generalize valN (s.data.toList.take pos) = v at hvb HV
              go_wp2_with (go_at_call 107; refine (isDigit_any _ _).mono ?_; rintro e w' ⟨rfl, rfl⟩)
              go_roundw
              case rel => exact ⟨pos + 1, rfl, by rw [HV.out]; go_num, HN.out, by omega⟩
              case measure => simp; omega
          · have hh := decode_high s pos hp (by omega)
            have hnx : ∀ ty, (Instr.next (.pointer (some ⟨w.heap.size, 0, none⟩)) true ty).run Tryz.prog (w.iter s pos) = _ := fun ty => run_next_any w s pos ty hp
            generalize hu : (Utf8.decode s pos).1 = u at hnx hh
            generalize hv : (Utf8.decode s pos).2 = v at hnx hh
            clear hu hv
            have hsg : digB (u : Int) = false := by simp only [digB, inB, decide_eq_false_iff_not]; omega
            have E := Lib.hid (rdv_no hp (by simp only [digB, inB, decide_eq_false_iff_not]; omega))
            go_wp2_with (go_at_call 107; refine (isDigit_any _ _).mono ?_; rintro e w' ⟨rfl, rfl⟩)
            go_ret
            exact ⟨ret_int E.out.symm, (Below.refl _ _).alloc (Nat.le_refl _) _⟩
        · have hnx : ∀ ty, (Instr.next (.pointer (some ⟨w.heap.size, 0, none⟩)) true ty).run Tryz.prog (w.iter s pos) = _ := fun ty => run_next_end w s pos ty hp
          have E := Lib.hid (rdv_val h9 HK.out (by omega) h1 HH.out)
          have T := Lib.hid (take_all s pos (by omega))
          go_wp2
          go_ret
          exact ⟨ret_int (by rw [E.out, T.out]), (Below.refl _ _).alloc (Nat.le_refl _) _⟩
  refine key _ _ rfl rfl ?_
  rcases h with h | h
  · have : ((s[0].toNat : Int) == 48) = false := by simp; omega
    simp [this]
  · by_cases h0 : s[0].toNat = 48
    · rw [one_nought h1 h0]; simp [h]
    · have : ((s[0].toNat : Int) == 48) = false := by simp; omega
      simp [this]

set_option maxHeartbeats 400000 in
theorem implRd_any (s : ByteArray) (w : World) (hs : s.size ≤ maxLen) :
    Calls Tryz.prog 89 #[.string s] w fun e w' => e = .returned (.int .i64 (rdv s)) ∧ Below w.heap.size w w' := by
  unfold maxLen at hs
  by_cases h0 : s.size = 0
  · have he := empty_of_size h0
    have E := Lib.hid (rdv_empty h0)
    clear h0
    go_enter Tryz.func89, Tryz.ntmps89
    go_wp2
    go_ret
    exact ⟨ret_int E.out.symm, Below.refl _ _⟩
  · have he := not_empty_of_size h0
    have h1 : 0 < s.size := by omega
    clear h0
    by_cases h9 : 9 < s.size
    · have E := Lib.hid (rdv_long h9)
      go_enter Tryz.func89, Tryz.ntmps89
      go_wp2
      go_ret
      exact ⟨ret_int E.out.symm, Below.refl _ _⟩
    · by_cases h : s[0].toNat ≠ 48 ∨ s.size = 1
      · exact implRd_loop s w (by omega) h1 h
      · have hd : decide (9 < s.size) = false := by simpa using h9
        have h48 : s[0].toNat = 48 := by omega
        have e1 : ((s[0].toNat : Int) == 48) = true := by simp; omega
        have e2 : (s.toList == [48]) = false := by rw [one_nought h1 h48]; simp; omega
        have E := Lib.hid (rdv_nought (s := s) (by omega) h48)
        clear h h48
        go_enter Tryz.func89, Tryz.ntmps89
        go_wp2
        go_ret
        exact ⟨ret_int E.out.symm, Below.refl _ _⟩
end Go.Proofs.YthffjcclcladoaaGreatDoor.kit
/-
  What a form's places are, as lists of bytes tell them: plain facts, of no program. Conditions: each theorem names its own.
-/
namespace Go.Proofs.YthffjcclcladoaaGreatDoor.kit
set_option linter.unusedVariables false

def isFl (c : UInt8) : Bool := c == 45 || c == 48
def isDg (c : UInt8) : Bool := decide (48 ≤ c.toNat) && decide (c.toNat ≤ 57)
/-- The flags, one behind the other. -/
def rdF : List UInt8 → Bool → Bool → List UInt8 × Bool × Bool
  | [], a, b => ([], a, b)
  | c :: l, a, b => if isFl c then rdF l (a || c == 45) (b || c == 48) else (c :: l, a, b)
/-- Up to so many digits, and their number. -/
def rdD : Nat → List UInt8 → Nat → List UInt8 × Nat
  | 0, l, a => (l, a)
  | _ + 1, [], a => ([], a)
  | n + 1, c :: l, a => if isDg c then rdD n l (10 * a + (c.toNat - 48)) else (c :: l, a)
/-- A point and one digit up to 6. -/
def rdQ : List UInt8 → List UInt8 × Int
  | 46 :: c :: l => if 48 ≤ c.toNat ∧ c.toNat ≤ 54 then (l, (c.toNat : Int) - 48) else (46 :: c :: l, -1)
  | l => (l, -1)
def kindB (c : UInt8) : Bool := c == 100 || c == 105 || c == 115 || c == 102 || c == 99 || c == 120 || c == 111
structure Plc where
  left : Bool
  nought : Bool
  width : Nat
  prec : Int
  kind : UInt8
/-- The place that l begins with, and what stands behind it. -/
def rdP (l : List UInt8) : Option (Plc × List UInt8) :=
  match (rdQ (rdD 3 (rdF l false false).1 0).1).1 with
  | [] => none
  | c :: r => if (rdD 3 (rdF l false false).1 0).2 ≤ 99 ∧ kindB c = true then some (⟨(rdF l false false).2.1, (rdF l false false).2.2, (rdD 3 (rdF l false false).1 0).2, (rdQ (rdD 3 (rdF l false false).1 0).1).2, c⟩, r) else none
theorem rdF_len : ∀ (l : List UInt8) (a b : Bool), (rdF l a b).1.length ≤ l.length
  | [], a, b => by simp [rdF]
  | c :: l, a, b => by
    rw [rdF]; split
    · have := rdF_len l (a || c == 45) (b || c == 48); simp; omega
    · simp
theorem rdD_len : ∀ (n : Nat) (l : List UInt8) (a : Nat), (rdD n l a).1.length ≤ l.length
  | 0, l, a => by simp [rdD]
  | n + 1, [], a => by simp [rdD]
  | n + 1, c :: l, a => by
    rw [rdD]; split
    · have := rdD_len n l (10 * a + (c.toNat - 48)); simp; omega
    · simp
theorem rdQ_len (l : List UInt8) : (rdQ l).1.length ≤ l.length := by
  unfold rdQ; split
  · split <;> simp <;> omega
  · simp
theorem rdP_len {l r : List UInt8} {p : Plc} (h : rdP l = some (p, r)) : r.length < l.length := by
  unfold rdP at h
  have h1 := rdF_len l false false
  have h2 := rdD_len 3 (rdF l false false).1 0
  have h3 := rdQ_len (rdD 3 (rdF l false false).1 0).1
  split at h
  · cases h
  · rename_i c r' e
    split at h
    · rw [e] at h3
      obtain ⟨-, rfl⟩ := by simpa using h
      simp at h3; omega
    · cases h
theorem rdP_kind {l r : List UInt8} {p : Plc} (h : rdP l = some (p, r)) : kindB p.kind = true ∧ p.width ≤ 99 := by
  unfold rdP at h
  split at h
  · cases h
  · rename_i c r' e
    split at h
    · rename_i hc
      simp only [Option.some.injEq, Prod.mk.injEq] at h
      obtain ⟨rfl, rfl⟩ := h
      exact ⟨hc.2, hc.1⟩
    · cases h
/-- How many places. -/
def plN (l : List UInt8) (n : Nat) : Int :=
  match l with
  | [] => n
  | c :: l =>
    if c ≠ 37 then plN l n
    else if l.head? = some 37 then plN l.tail n
    else match h : rdP l with
      | none => -1
      | some (p, r) => plN r (n + 1)
termination_by l.length
decreasing_by
  all_goals first | (simp; done) | (have := rdP_len h; simp; omega) | (simp; omega)
theorem plN_nil (n : Nat) : plN [] n = n := by rw [plN]
theorem plN_skip {c : UInt8} (l : List UInt8) (n : Nat) (h : c ≠ 37) : plN (c :: l) n = plN l n := by rw [plN, if_pos h]
theorem plN_both (l : List UInt8) (n : Nat) : plN (37 :: 37 :: l) n = plN l n := by rw [plN, if_neg (by simp), if_pos (by simp)]; rfl
theorem plN_none {l : List UInt8} (n : Nat) (h0 : l.head? ≠ some 37) (h : rdP l = none) : plN (37 :: l) n = -1 := by
  rw [plN, if_neg (by simp), if_neg h0]; split
  · rfl
  · rename_i e; rw [h] at e; cases e
theorem plN_some {l r : List UInt8} {p : Plc} (n : Nat) (h0 : l.head? ≠ some 37) (h : rdP l = some (p, r)) : plN (37 :: l) n = plN r (n + 1) := by
  rw [plN, if_neg (by simp), if_neg h0]; split
  · rename_i e; rw [h] at e; cases e
  · rename_i e; rw [h] at e; cases e; rfl
theorem plN_app : ∀ (a l : List UInt8) (n : Nat), (37 : UInt8) ∉ a → plN (a ++ l) n = plN l n
  | [], l, n, _ => rfl
  | c :: a, l, n, h => by
    have hc : c ≠ 37 := fun e => h (by simp [e])
    rw [List.cons_append, plN_skip _ _ hc, plN_app a l n (fun e => h (by simp [e]))]
theorem plN_bd : ∀ (k : Nat) (l : List UInt8) (n : Nat), l.length ≤ k → -1 ≤ plN l n ∧ plN l n ≤ n + l.length
  | k, [], n, _ => by rw [plN_nil]; simp
  | 0, c :: l, n, h => by simp at h
  | k + 1, c :: l, n, h => by
    by_cases hc : c = 37
    · subst hc
      by_cases h0 : l.head? = some 37
      · obtain ⟨l', rfl⟩ : ∃ l', l = 37 :: l' := by
          cases l with
          | nil => simp at h0
          | cons x l' => simp at h0; exact ⟨l', by rw [h0]⟩
        rw [plN_both]
        have := plN_bd k l' n (by simp at h; omega)
        simp; omega
      · cases e : rdP l with
        | none => rw [plN_none n h0 e]; omega
        | some x =>
          obtain ⟨p, r⟩ := x
          rw [plN_some n h0 e]
          have := rdP_len e
          have := plN_bd k r (n + 1) (by simp at h; omega)
          simp at h ⊢; omega
    · rw [plN_skip _ _ hc]
      have := plN_bd k l n (by simp at h; omega)
      simp; omega
/-- How many flags l begins with. -/
def flN : List UInt8 → Nat
  | [] => 0
  | c :: l => if isFl c then flN l + 1 else 0
theorem flN_le : ∀ l : List UInt8, flN l ≤ l.length
  | [] => Nat.le_refl _
  | c :: l => by rw [flN]; split <;> simp; exact flN_le l
theorem rdF_eq : ∀ (l : List UInt8) (a b : Bool), rdF l a b = (l.drop (flN l), a || (l.take (flN l)).contains 45, b || (l.take (flN l)).contains 48)
  | [], a, b => by simp [rdF, flN]
  | c :: l, a, b => by
    rw [rdF, flN]; split
    · have e1 : ∀ x y : UInt8, (x == y) = (y == x) := fun x y => by rw [Bool.eq_iff_iff, beq_iff_eq, beq_iff_eq]; exact eq_comm
      rw [rdF_eq l, List.drop_succ_cons, List.take_succ_cons, List.contains_cons, List.contains_cons, Bool.or_assoc, Bool.or_assoc, e1 c 45, e1 c 48]
    · simp
theorem flN_head (l : List UInt8) (c : UInt8) (r : List UInt8) (h : l.drop (flN l) = c :: r) : c ≠ 48 := by
  induction l with
  | nil => simp at h
  | cons x l ih =>
    rw [flN] at h
    split at h
    · exact ih (by simpa using h)
    · rename_i hx
      simp at h
      intro e
      rw [h.1] at hx; rw [e] at hx; exact hx (by decide)
/-- How many digits l begins with. -/
def dgN : List UInt8 → Nat
  | [] => 0
  | c :: l => if isDg c then dgN l + 1 else 0
theorem dgN_le : ∀ l : List UInt8, dgN l ≤ l.length
  | [] => Nat.le_refl _
  | c :: l => by rw [dgN]; split <;> simp; exact dgN_le l
theorem rdD_eq : ∀ (n : Nat) (l : List UInt8) (a : Nat), dgN l ≤ n → rdD n l a = (l.drop (dgN l), (l.take (dgN l)).foldl (fun n c => 10 * n + (c.toNat - 48)) a)
  | 0, l, a, h => by rw [Nat.le_zero.1 h]; simp [rdD]
  | n + 1, [], a, h => by simp [rdD, dgN]
  | n + 1, c :: l, a, h => by
    rw [dgN] at h ⊢
    rw [rdD]
    split
    · rename_i hc
      rw [if_pos hc] at h
      rw [rdD_eq n l _ (by omega)]; simp
    · simp
theorem rdD_ge : ∀ (n : Nat) (l : List UInt8) (a m : Nat), n ≤ dgN l → m ≤ a → m * 10 ^ n ≤ (rdD n l a).2
  | 0, l, a, m, h, hm => by simp [rdD]; exact hm
  | n + 1, [], a, m, h, hm => by simp [dgN] at h
  | n + 1, c :: l, a, m, h, hm => by
    rw [dgN] at h
    split at h
    · rename_i hc
      rw [rdD, if_pos hc]
      have := rdD_ge n l (10 * a + (c.toNat - 48)) (10 * m) (by omega) (by omega)
      rw [Nat.pow_succ]
      calc m * (10 ^ n * 10) = 10 * m * 10 ^ n := by rw [Nat.mul_comm (10 ^ n) 10, ← Nat.mul_assoc, Nat.mul_comm m 10]
        _ ≤ _ := this
    · omega
theorem rdD_far {l : List UInt8} (h : 2 < dgN l) (h0 : ∀ c r, l = c :: r → c ≠ 48) : 99 < (rdD 3 l 0).2 := by
  cases l with
  | nil => simp [dgN] at h
  | cons c l =>
    rw [dgN] at h
    split at h
    · rename_i hc
      have h1 := h0 c l rfl
      simp only [isDg, Bool.and_eq_true, decide_eq_true_eq] at hc
      have h2 : c.toNat ≠ 48 := fun e => h1 (UInt8.toNat_inj.1 e)
      rw [rdD, if_pos (by simp [isDg]; omega)]
      have := rdD_ge 2 l (10 * 0 + (c.toNat - 48)) 1 (by omega) (by omega)
      omega
    · omega
/-- A place that has more than two digits is none. -/
theorem rdP_far {l : List UInt8} (h : 2 < dgN (l.drop (flN l))) : rdP l = none := by
  have h1 : 99 < (rdD 3 (rdF l false false).1 0).2 := by
    rw [rdF_eq]; exact rdD_far h (fun c r e => flN_head l c r e)
  unfold rdP
  split
  · rfl
  · rw [if_neg (by omega)]
end Go.Proofs.YthffjcclcladoaaGreatDoor.kit
