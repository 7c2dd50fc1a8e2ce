/-
  Contract of spec.Unquote over this seat's translation: it gives the text whose quotes stand from a place on, read whole and checked at the end: the same answer as a check at each byte gives. Conditions: the text has at most 1048576 bytes.
-/
import Derived.Test.YtebeoijoljlhiaaGreatDoorMUn4
import Derived.Test.YtebeoijoljlhiaaGreatDoorMQb
namespace Go.Proofs.YtebeoijoljlhiaaGreatDoor.kit
open Go.ChangeShapes Go.WideShapes Go.ChangeAt Go.RowKit
set_option linter.unusedVariables false

def AnsL (s : ByteArray) (k : Nat) (acc : List UInt8) (fin : Option (List UInt8 × Nat)) : Prop :=
  ∃ n, s.size - k ≤ n ∧ fin = (scan n (s.data.toList.drop k)).map fun x => (acc ++ x.1, k + x.2)
theorem ansL_end {s : ByteArray} {k : Nat} {acc : List UInt8} {fin : Option (List UInt8 × Nat)} (h : AnsL s k acc fin) (hk : s.size ≤ k) : fin = none := by
  obtain ⟨n, _, e⟩ := h
  rw [drop_end s k hk] at e
  cases n with
  | zero => simpa [scan] using e
  | succ n => simpa [scan, rd_nil] using e
theorem ansL_quote {s : ByteArray} {k : Nat} {acc : List UInt8} {fin : Option (List UInt8 × Nat)} (h : AnsL s k acc fin) (hk : k < s.size) (hc : (at_ s k).toNat = 34) : fin = some (acc, k + 1) := by
  obtain ⟨n, hn, e⟩ := h
  obtain ⟨n, rfl⟩ : ∃ m, n = m + 1 := ⟨n - 1, by omega⟩
  have ec : at_ s k = 34 := by simpa [← UInt8.toNat_inj] using hc
  rw [drop_at s k hk, ec] at e
  simpa [scan] using e
theorem ansL_none {s : ByteArray} {k : Nat} {acc : List UInt8} {fin : Option (List UInt8 × Nat)} (h : AnsL s k acc fin) (hk : k < s.size) (hc : (at_ s k).toNat ≠ 34) (hr : rd (s.data.toList.drop k) = none) : fin = none := by
  obtain ⟨n, hn, e⟩ := h
  obtain ⟨n, rfl⟩ : ∃ m, n = m + 1 := ⟨n - 1, by omega⟩
  have ec : ¬ (s.data.toList.drop k).head? = some 34 := by
    rw [drop_at s k hk]; intro h; simp at h; rw [h] at hc; exact hc rfl
  rw [scan, if_neg ec, hr] at e
  simpa using e
theorem ansL_step {s : ByteArray} {k : Nat} {acc : List UInt8} {fin : Option (List UInt8 × Nat)} {b : UInt8} {m : Nat} (h : AnsL s k acc fin) (hk : k < s.size) (hc : (at_ s k).toNat ≠ 34) (hr : rd (s.data.toList.drop k) = some (b, m)) :
    AnsL s (k + m) (acc ++ [b]) fin := by
  obtain ⟨n, hn, e⟩ := h
  obtain ⟨n, rfl⟩ : ∃ m, n = m + 1 := ⟨n - 1, by omega⟩
  have hp := rd_pos hr
  have ec : ¬ (s.data.toList.drop k).head? = some 34 := by
    rw [drop_at s k hk]; intro h; simp at h; rw [h] at hc; exact hc rfl
  rw [scan, if_neg ec, hr] at e
  simp only at e
  refine ⟨n, by omega, ?_⟩
  rw [e, List.drop_drop]
  cases scan n (s.data.toList.drop (k + m)) with
  | none => rfl
  | some x => simp [Nat.add_assoc]
/-- The loose answer. -/
def loose (s : ByteArray) (i : Nat) : Option (List UInt8 × Nat) := (scan s.size (s.data.toList.drop (i + 1))).map fun x => (x.1, i + 1 + x.2)
theorem loose_start (s : ByteArray) (i : Nat) : AnsL s (i + 1) [] (loose s i) := ⟨s.size, by omega, by simp [loose]⟩
theorem unq_of_none {s : ByteArray} {i : Nat} (h : i < s.size) (hc : (at_ s i).toNat = 34) (hl : loose s i = none) : unq s (i : Int) = none := by
  rw [unq, if_pos ⟨by omega, by omega, by simpa using hc⟩, Int.toNat_natCast, strict_eq]
  rw [loose] at hl
  cases hs : scan s.size (s.data.toList.drop (i + 1)) with
  | none => rfl
  | some x => rw [hs] at hl; simp at hl
theorem whole_eq {s : ByteArray} {i k : Nat} (h : i < s.size) (hc : (at_ s i).toNat = 34) (hk : i < k) (acc : List UInt8) :
    (qbs acc ++ [34] == (s.extract i (k + 1)).toList) = decide (acc.flatMap qb ++ [34] = (s.data.toList.drop (i + 1)).take (k - i)) := by
  have ec : at_ s i = 34 := by simpa [← UInt8.toNat_inj] using hc
  have e := extract_take s i (k + 1 - i)
  rw [show i + (k + 1 - i) = k + 1 by omega, drop_at s i h, show k + 1 - i = (k - i) + 1 by omega, List.take_succ_cons, ec] at e
  rw [e, Bool.eq_iff_iff]
  simp [qbs]
theorem unq_of_some {s : ByteArray} {i k : Nat} {acc : List UInt8} (h : i < s.size) (hc : (at_ s i).toNat = 34) (hk : i < k) (hl : loose s i = some (acc, k + 1)) :
    unq s (i : Int) = if (qbs acc ++ [34] == (s.extract i (k + 1)).toList) = true then some (acc, k + 1) else none := by
  rw [whole_eq h hc hk, unq, if_pos ⟨by omega, by omega, by simpa using hc⟩, Int.toNat_natCast, strict_eq]
  rw [loose] at hl
  cases hs : scan s.size (s.data.toList.drop (i + 1)) with
  | none => rw [hs] at hl; simp at hl
  | some x =>
    obtain ⟨o, m⟩ := x
    rw [hs] at hl
    simp at hl
    obtain ⟨rfl, hm⟩ := hl
    have em : m = k - i := by omega
    subst em
    simp only [Option.bind_some, decide_eq_true_eq]
    by_cases g : o.flatMap qb ++ [34] = (s.data.toList.drop (i + 1)).take (k - i)
    · rw [if_pos g, if_pos g]; simp; omega
    · rw [if_neg g, if_neg g]; rfl
theorem rd_at {s : ByteArray} {k : Nat} (h : k < s.size) : rd (s.data.toList.drop k) = if (at_ s k).toNat = 92 then esc s (k + 1) else some (at_ s k, 1) := by
  rw [drop_at s k h]
  by_cases e : at_ s k = 92
  · rw [e]; rfl
  · have : (at_ s k).toNat ≠ 92 := fun g => e (by simpa [← UInt8.toNat_inj] using g)
    rw [if_neg this]; simp [rd, e]

set_option maxRecDepth 100000 in
set_option maxHeartbeats 1000000 in
theorem specUn_loop (s : ByteArray) (i : Nat) (w : World) (hs : s.size ≤ 1048576) (hi : i < s.size) (h34 : (at_ s i).toNat = 34) :
    Calls Tryz.prog 127 #[.string s, .int .i64 (i : Int)] w fun e w' => e = .returned (tupU (unq s (i : Int))) ∧ Below w.heap.size w w' := by
  have hgi := at_eq s i hi
  have e34 : (((at_ s i).toNat : Int) != 34) = false := by simp; omega
  have q0 : ¬ (i : Int) < 0 := by omega
  have q1 : ¬ (s.size : Int) ≤ (i : Int) := by omega
  have L0 := Lib.hid (loose_start s i)
  have UN := Lib.hid (fun h => unq_of_none hi h34 h)
  have US := Lib.hid (fun k acc hk h => unq_of_some (k := k) (acc := acc) hi h34 hk h)
  generalize loose s i = fin at *
  generalize unq s (i : Int) = un at *
  generalize at_ s i = ci at *
  clear h34
  go_enter Tryz.func127, Tryz.ntmps127
  go_wp2
  go_loopw [6, 7] (fun v k wr => ∃ (p : Nat) (acc : List UInt8), i < p ∧ p ≤ s.size ∧ acc.length ≤ p ∧ k = .int .i64 (p : Int) ∧ Own 5 w.heap.size wr v acc ∧ AnsL s p acc fin ∧ Below w.heap.size w wr) (fun _ k _ => s.size - (intOf k).toNat)
  case atStart => exact ⟨i + 1, [], by omega, by omega, by simp, by go_num, own_start (Nat.le_refl _), L0.out, (Below.refl _ _).alloc (Nat.le_refl _) _⟩
  case round =>
    obtain ⟨p, acc, hip, hps, hal, rfl, hown, hans, hbel⟩ := hrel
    have HO := Lib.hid hown
    have HA := Lib.hid hans
    have HB := Lib.hid hbel
    have hz := hbel.size
    clear hown hans hbel hgi e34
    by_cases hlt : p < s.size
    · have hgp := at_eq s p hlt
      have hbp : (at_ s p).toNat < 256 := (at_ s p).toNat_lt
      by_cases h3 : (at_ s p).toNat = 34
      · have E := Lib.hid (US.out p acc hip (ansL_quote HA.out hlt h3))
        have e3 : (((at_ s p).toNat : Int) != 34) = false := by simp; omega
        have hbk := fun n : Nat => (HO.out.kept (B' := 0) (w' := wr.drewN n) ⟨rfl, rfl, rfl, Nat.le_refl _, fun _ _ => rfl⟩).back (P := Tryz.prog) 22 9 Tryz.underlying22 Tryz.underlying5 Tryz.underlying9
        have hbk1 := HO.out.drew.back (P := Tryz.prog) 22 9 Tryz.underlying22 Tryz.underlying5 Tryz.underlying9
        have hsl : ∀ (W : World), (Instr.slice 9 (.string s) (some (.int .i64 (i : Int))) (some (.int .i64 ((p : Int) + 1))) none).run Tryz.prog W = .ok (.string (s.extract i (p + 1))) W := by
          intro W
          rw [run_slice_string W _ s .i64 .i64 _ _ Tryz.underlying9 (by omega) (by omega) (by omega), Int.toNat_natCast, show ((p : Int) + 1).toNat = p + 1 by omega]
        generalize at_ s p = c at *
        clear h3 UN US
        have hz2 : (qbs acc ++ [34]).length ≤ 10000000 := by have := qbs_len acc acc.length; rw [List.take_length] at this; simp; omega
        cases a1 : (qbs acc ++ [34] == (s.extract i (p + 1)).toList)
        · rw [a1] at E
          go_wp2
          have hwr : IntKind.i64.wrap ((p : Int) + 1) = (p : Int) + 1 := IntWalk.i64_in _ (by omega)
          have hw0 : (0 : Int) ≤ (i : Int) := by omega
          have hw1 : (i : Int) ≤ (p : Int) + 1 := by omega
          have hw2 : (p : Int) + 1 ≤ (s.size : Int) := by omega
          have hdq : decide ((s.size : Int) ≤ (p : Int)) = false := by simp; omega
          have hdq2 : decide (s.size ≤ p) = false := by simp; omega
          go_region_held3 (fun w' => Sem.run Tryz.prog (convert 22 9 u6) w' = Result.ok (Value.string ⟨acc.toArray⟩) w') (first | exact hbk1 | exact (HO.out.drew.kept (B' := 0) hb2).back (P := Tryz.prog) 22 9 Tryz.underlying22 Tryz.underlying5 Tryz.underlying9) (first | (go_at_call 81; refine (specQuote_any _ _ ?_).mono ?_; (simp [ByteArray.size]; omega); rintro e w2 ⟨rfl, hb2⟩))
          clear hwr hw0 hw1 hw2 hdq hdq2
          go_wp2
          go_ret2
          exact ⟨ret_val (by rw [E.out]; rfl), HB.out.trans ((below_undrew hb2).mono hz)⟩
        · rw [a1] at E
          go_wp2
          have hwr : IntKind.i64.wrap ((p : Int) + 1) = (p : Int) + 1 := IntWalk.i64_in _ (by omega)
          have hw0 : (0 : Int) ≤ (i : Int) := by omega
          have hw1 : (i : Int) ≤ (p : Int) + 1 := by omega
          have hw2 : (p : Int) + 1 ≤ (s.size : Int) := by omega
          have hdq : decide ((s.size : Int) ≤ (p : Int)) = false := by simp; omega
          have hdq2 : decide (s.size ≤ p) = false := by simp; omega
          go_region_held3 (fun w' => Sem.run Tryz.prog (convert 22 9 u6) w' = Result.ok (Value.string ⟨acc.toArray⟩) w') (first | exact hbk1 | exact (HO.out.drew.kept (B' := 0) hb2).back (P := Tryz.prog) 22 9 Tryz.underlying22 Tryz.underlying5 Tryz.underlying9) (first | (go_at_call 81; refine (specQuote_any _ _ ?_).mono ?_; (simp [ByteArray.size]; omega); rintro e w2 ⟨rfl, hb2⟩))
          clear hwr hw0 hw1 hw2 hdq hdq2
          have hbk2 := (HO.out.drew.kept (B' := 0) hb2).back (P := Tryz.prog) 22 9 Tryz.underlying22 Tryz.underlying5 Tryz.underlying9
          go_wp2
          go_ret2
          exact ⟨ret_val (by rw [E.out]; rfl), HB.out.trans ((below_undrew hb2).mono hz)⟩
      · have e3 : (((at_ s p).toNat : Int) != 34) = true := by simp; omega
        have hra := rd_at hlt
        by_cases h92 : (at_ s p).toNat = 92
        · rw [if_pos h92] at hra
          have HC := Lib.hid (specEsc_any s (p + 1) wr hs (by omega))
          rw [show (((p + 1 : Nat)) : Int) = (p : Int) + 1 by omega] at HC
          have e9 : (((at_ s p).toNat : Int) == 92) = true := by simp; omega
          cases hes : esc s (p + 1) with
          | none =>
            rw [hes] at hra HC
            have E := Lib.hid (UN.out (ansL_none HA.out hlt h3 hra))
            generalize at_ s p = c at *
            clear h3 h92 hra hes UN US
            go_wp2_with fail
            refine HC.out.mono ?_
            rintro e w1 ⟨rfl, rfl⟩
            simp only [tupE]
            go_wp2
            go_ret2
            exact ⟨ret_val (by rw [E.out]; rfl), HB.out⟩
          | some x =>
            obtain ⟨b, m⟩ := x
            rw [hes] at hra HC
            have hpos := rd_pos hra
            have hml : p + m ≤ s.size := by have := hpos.2.2; simp at this; omega
            obtain ⟨hm1, hm2, _⟩ := hpos
            have E := Lib.hid (ansL_step HA.out hlt h3 hra)
            have hb256 : b.toNat < 256 := b.toNat_lt
            generalize at_ s p = c at *
            clear h3 h92 hra hes UN US
            have eq1 : (((p + 1 : Nat) : Int) + (m : Int) - 1) = (p : Int) + m := by omega
            go_wp2_with fail
            refine HC.out.mono ?_
            rintro e w1 ⟨rfl, rfl⟩
            simp only [tupE]
            rw [eq1]
            clear eq1
            go_wp2_with (at_builtin; refine wp_append_bytes Tryz.underlying22 Tryz.infoU8 rfl _ _ rfl w.heap.size _ _ rfl (HO.out.alloc _) ⟨wr.heap.size, 0, none⟩ 1 1 [b] rfl rfl (news_one _ _ _) (by simp; omega) (by simp; omega) ?_; intro v' w3 hown3 hbel3)
            go_roundw
            case rel => exact ⟨p + m, acc ++ [b], by omega, by omega, by simp; omega, by go_num, hown3, E.out, (HB.out.alloc (by omega) _).trans hbel3⟩
            case measure => simp [intOf]; omega
        · rw [if_neg h92] at hra
          have e9 : (((at_ s p).toNat : Int) == 92) = false := by simp; omega
          have E := Lib.hid (ansL_step HA.out hlt h3 hra)
          generalize at_ s p = c at *
          clear h3 h92 hra UN US
          go_wp2_with (at_builtin; refine wp_append_bytes Tryz.underlying22 Tryz.infoU8 rfl _ _ rfl w.heap.size _ _ rfl (HO.out.alloc _) ⟨wr.heap.size, 0, none⟩ 1 1 [c] rfl rfl (news_one _ _ _) (by simp; omega) (by simp; omega) ?_; intro v' w3 hown3 hbel3)
          go_roundw
          case rel => exact ⟨p + 1, acc ++ [c], by omega, by omega, by simp; omega, by go_num, hown3, E.out, (HB.out.alloc (by omega) _).trans hbel3⟩
          case measure => simp [intOf]; omega
    · have E := Lib.hid (UN.out (ansL_end HA.out (by omega)))
      clear UN US
      go_wp2
      have hdq : decide ((s.size : Int) ≤ (p : Int)) = true := by simp; omega
      have hdq2 : decide (s.size ≤ p) = true := by simp; omega
      go_quiet (fail)
      go_wp2
      go_ret2
      exact ⟨ret_val (by rw [E.out]; rfl), HB.out.trans ⟨rfl, rfl, rfl, Nat.le_refl _, fun _ _ => rfl⟩⟩

set_option maxRecDepth 100000 in
set_option maxHeartbeats 1000000 in
theorem specUn_any (s : ByteArray) (i : Int) (w : World) (hs : s.size ≤ 1048576) (h1 : -9223372036854775808 ≤ i) (h2 : i ≤ 9223372036854775807) :
    Calls Tryz.prog 127 #[.string s, .int .i64 i] w fun e w' => e = .returned (tupU (unq s i)) ∧ Below w.heap.size w w' := by
  by_cases q0 : i < 0
  · have E := Lib.hid (unq_no (s := s) (.inl q0))
    go_enter Tryz.func127, Tryz.ntmps127
    go_wp2
    go_ret2
    exact ⟨ret_val (by rw [E.out]; rfl), Below.refl _ _⟩
  by_cases q1 : (s.size : Int) ≤ i
  · have E := Lib.hid (unq_no (s := s) (.inr (.inl q1)))
    go_enter Tryz.func127, Tryz.ntmps127
    go_wp2
    go_ret2
    exact ⟨ret_val (by rw [E.out]; rfl), Below.refl _ _⟩
  obtain ⟨k, rfl⟩ : ∃ k : Nat, i = (k : Int) := ⟨i.toNat, by omega⟩
  have hk : k < s.size := by omega
  by_cases q2 : (at_ s k).toNat = 34
  · exact specUn_loop s k w hs hk q2
  · have E := Lib.hid (unq_no (s := s) (i := (k : Int)) (.inr (.inr (by simpa using q2))))
    have hg := at_eq s k hk
    have hb : (at_ s k).toNat < 256 := (at_ s k).toNat_lt
    have e34 : (((at_ s k).toNat : Int) != 34) = true := by simp; omega
    generalize at_ s k = c at *
    clear q2
    go_enter Tryz.func127, Tryz.ntmps127
    go_wp2
    go_ret2
    exact ⟨ret_val (by rw [E.out]; rfl), Below.refl _ _⟩
end Go.Proofs.YtebeoijoljlhiaaGreatDoor.kit
