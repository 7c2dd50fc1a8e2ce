/-
  Contract of impl.Unquote over this seat's translation: it gives the text whose quotes stand from a place on, read byte by byte with a check at each. Conditions: the text has at most 1048576 bytes.
-/
import Derived.Test.YtebeoijoljlhiaaGreatDoorMUn0
import Derived.Deep.RegionHeld3
import Derived.Deep.QuietTactic
import Derived.BigQuiet
namespace Go.Proofs.YtebeoijoljlhiaaGreatDoor.kit
open Go.ChangeShapes Go.WideShapes Go.ChangeAt Go.RowKit
set_option linter.unusedVariables false

def tupU (o : Option (List UInt8 × Nat)) : Value := match o with | some (l, n) => .tuple #[.string ⟨l.toArray⟩, .int .i64 (n : Int)] | none => .tuple #[.string ⟨#[]⟩, .int .i64 (-1)]
/-- What is still to come tells the whole answer. -/
def AnsS (s : ByteArray) (k : Nat) (acc : List UInt8) (fin : Option (List UInt8 × Nat)) : Prop :=
  ∃ n, s.size - k ≤ n ∧ fin = (scanS n (s.data.toList.drop k)).map fun x => (acc ++ x.1, k + x.2)
theorem below_undrew {w1 w2 : World} (h : Below w1.drew.heap.size w1.drew w2) : Below w1.heap.size w1 w2 := ((Below.refl _ w1).drew).trans h
theorem rd_nil : rd [] = none := rfl
theorem ansS_end {s : ByteArray} {k : Nat} {acc : List UInt8} {fin : Option (List UInt8 × Nat)} (h : AnsS s k acc fin) (hk : s.size ≤ k) : fin = none := by
  obtain ⟨n, _, e⟩ := h
  rw [drop_end s k hk] at e
  cases n with
  | zero => simpa [scanS] using e
  | succ n => simpa [scanS, rd_nil] using e
theorem ansS_quote {s : ByteArray} {k : Nat} {acc : List UInt8} {fin : Option (List UInt8 × Nat)} (h : AnsS s k acc fin) (hk : k < s.size) (hc : (at_ s k).toNat = 34) : fin = some (acc, k + 1) := by
  obtain ⟨n, hn, e⟩ := h
  obtain ⟨n, rfl⟩ : ∃ m, n = m + 1 := ⟨n - 1, by omega⟩
  have ec : at_ s k = 34 := by simpa [← UInt8.toNat_inj] using hc
  rw [drop_at s k hk, ec] at e
  simpa [scanS] using e
theorem ansS_none {s : ByteArray} {k : Nat} {acc : List UInt8} {fin : Option (List UInt8 × Nat)} (h : AnsS s k acc fin) (hk : k < s.size) (hc : (at_ s k).toNat ≠ 34) (hr : rd (s.data.toList.drop k) = none) : fin = none := by
  obtain ⟨n, hn, e⟩ := h
  obtain ⟨n, rfl⟩ : ∃ m, n = m + 1 := ⟨n - 1, by omega⟩
  have ec : ¬ (s.data.toList.drop k).head? = some 34 := by
    rw [drop_at s k hk]; intro h; simp at h; rw [h] at hc; exact hc rfl
  rw [scanS, if_neg ec, hr] at e
  simpa using e
theorem ansS_step {s : ByteArray} {k : Nat} {acc : List UInt8} {fin : Option (List UInt8 × Nat)} {b : UInt8} {m : Nat} (h : AnsS s k acc fin) (hk : k < s.size) (hc : (at_ s k).toNat ≠ 34) (hr : rd (s.data.toList.drop k) = some (b, m)) :
    if qb b = (s.data.toList.drop k).take m then AnsS s (k + m) (acc ++ [b]) fin else fin = none := by
  obtain ⟨n, hn, e⟩ := h
  obtain ⟨n, rfl⟩ : ∃ m, n = m + 1 := ⟨n - 1, by omega⟩
  have hp := rd_pos hr
  have ec : ¬ (s.data.toList.drop k).head? = some 34 := by
    rw [drop_at s k hk]; intro h; simp at h; rw [h] at hc; exact hc rfl
  rw [scanS, if_neg ec, hr] at e
  simp only at e
  by_cases hq : qb b = (s.data.toList.drop k).take m
  · rw [if_pos hq] at e ⊢
    refine ⟨n, by omega, ?_⟩
    rw [e, List.drop_drop]
    cases scanS n (s.data.toList.drop (k + m)) with
    | none => rfl
    | some x => simp [Nat.add_assoc]
  · rw [if_neg hq] at e ⊢
    simpa using e
theorem extract_take (s : ByteArray) (k m : Nat) : (s.extract k (k + m)).toList = (s.data.toList.drop k).take m := by
  obtain ⟨⟨l⟩⟩ := s
  rw [show (⟨⟨l⟩⟩ : ByteArray) = ByteArray.mk l.toArray from rfl, ByteArray.extract_mk, ByteArray.toList_mk]
  simp

set_option maxHeartbeats 400000 in
theorem implUn_loop (s : ByteArray) (i : Nat) (w : World) (hs : s.size ≤ 1048576) (hi : i < s.size) (h34 : (at_ s i).toNat = 34) (fin : Option (List UInt8 × Nat)) (hfin : Hid (AnsS s (i + 1) [] fin)) :
    Calls Tryz.prog 177 #[.string s, .int .i64 (i : Int)] w fun e w' => e = .returned (tupU fin) ∧ Below w.heap.size w w' := by
  have hgi := at_eq s i hi
  have e34 : (((at_ s i).toNat : Int) != 34) = false := by simp; omega
  have q0 : ¬ (i : Int) < 0 := by omega
  have q1 : ¬ (s.size : Int) ≤ (i : Int) := by omega
  generalize at_ s i = ci at *
  clear h34
  go_enter Tryz.func177, Tryz.ntmps177
  go_wp2
  go_loopw [6, 7] (fun v k wr => ∃ (p : Nat) (acc : List UInt8), i < p ∧ p ≤ s.size ∧ acc.length ≤ p ∧ k = .int .i64 (p : Int) ∧ Own 5 w.heap.size wr v acc ∧ AnsS s p acc fin ∧ Below w.heap.size w wr) (fun _ k _ => s.size - (intOf k).toNat)
  case atStart => exact ⟨i + 1, [], by omega, by omega, by simp, by go_num, own_start (Nat.le_refl _), hfin.out, (Below.refl _ _).alloc (Nat.le_refl _) _⟩
  case round =>
    obtain ⟨p, acc, hip, hps, hal, rfl, hown, hans, hbel⟩ := hrel
    have HO := Lib.hid hown
    have HA := Lib.hid hans
    have HB := Lib.hid hbel
    have hz := hbel.size
    clear hown hans hbel hgi e34
    by_cases hlt : p < s.size
    · have hgp := at_eq s p hlt
      have hbp : (at_ s p).toNat < 256 := (at_ s p).toNat_lt
      by_cases h3 : (at_ s p).toNat = 34
      · have E := Lib.hid (ansS_quote HA.out hlt h3)
        have e3 : (((at_ s p).toNat : Int) != 34) = false := by simp; omega
        have e5 : ((p : Int) == (s.size : Int)) = false := by simp; omega
        have hbk := HO.out.back (P := Tryz.prog) 22 9 Tryz.underlying22 Tryz.underlying5 Tryz.underlying9
        generalize at_ s p = c at *
        clear h3
        go_wp2
        go_ret2
        exact ⟨ret_val (by rw [E.out]; rfl), HB.out⟩
      · have e3 : (((at_ s p).toNat : Int) != 34) = true := by simp; omega
        have hne := h3
        have hsl : ∀ (W : World), (Instr.slice 9 (.string s) (some (.int .i64 (p : Int))) none none).run Tryz.prog W = .ok (.string (s.extract p s.size)) W := by
          intro W
          rw [run_slice_string_from_if W _ s .i64 _ Tryz.underlying9, if_pos ⟨by omega, by omega⟩, Int.toNat_natCast]
        have ht : (s.extract p s.size).data.toList = s.data.toList.drop p := by
          have := extract_take s p (s.size - p)
          rw [show p + (s.size - p) = s.size by omega, ByteArray.toList_eq] at this
          rw [this, List.take_of_length_le (by simp)]
        have htz : 0 < (s.extract p s.size).size := by simp [ByteArray.size_extract]; omega
        have htz2 : (s.extract p s.size).size ≤ 1048576 := by simp [ByteArray.size_extract]; omega
        obtain ⟨t, hte⟩ : ∃ t : ByteArray, t = s.extract p s.size := ⟨_, rfl⟩
        rw [← hte] at hsl ht htz htz2
        clear hte
        have HT := Lib.hid ht
        clear ht
        cases hr : rd (s.data.toList.drop p) with
        | none =>
          have E := Lib.hid (ansS_none HA.out hlt hne hr)
          have HC := Lib.hid (fun W => implRq_any t W htz2 htz)
          rw [HT.out, hr] at HC
          generalize at_ s p = c at *
          clear h3 hne hr
          go_wp2_with fail
          refine (HC.out _).mono ?_
          rintro e w1 ⟨rfl, hb1⟩
          simp only [tupB]
          go_wp2
          go_quiet (fail)
          go_wp2
          go_ret2
          exact ⟨ret_val (by rw [E.out]; rfl), HB.out.trans (hb1.mono hz) |>.trans ⟨rfl, rfl, rfl, Nat.le_refl _, fun _ _ => rfl⟩⟩
        | some x =>
          obtain ⟨b, m⟩ := x
          have hstep := ansS_step HA.out hlt hne hr
          have hpos := rd_pos hr
          have HC := Lib.hid (fun W => implRq_any t W htz2 htz)
          rw [HT.out, hr] at HC
          have hml : p + m ≤ s.size := by have := hpos.2.2; simp at this; omega
          obtain ⟨hm1, hm2, _⟩ := hpos
          rw [← extract_take] at hstep
          have em : ((m : Int) == 0) = false := by simp; omega
          have hsl2 : ∀ (W : World), (Instr.slice 9 (.string s) (some (.int .i64 (p : Int))) (some (.int .i64 ((p : Int) + m))) none).run Tryz.prog W = .ok (.string (s.extract p (p + m))) W := by
            intro W
            rw [run_slice_string W _ s .i64 .i64 _ _ Tryz.underlying9 (by omega) (by omega) (by omega), Int.toNat_natCast, show ((p : Int) + m).toNat = p + m by omega]
          cases a1 : (qb b == (s.extract p (p + m)).toList)
          · have E : Hid (fin = none) := Lib.hid (by rw [if_neg (by simpa using a1)] at hstep; exact hstep)
            clear hstep
            generalize at_ s p = c at *
            clear h3 hne hr
            go_wp2_with fail
            refine (HC.out _).mono ?_
            rintro e w1 ⟨rfl, hb1⟩
            simp only [tupB]
            go_wp2
            have hwr : IntKind.i64.wrap ((p : Int) + (m : Int)) = (p : Int) + m := IntWalk.i64_in _ (by omega)
            have hw0 : (0 : Int) ≤ (p : Int) := by omega
            have hw1 : (p : Int) ≤ (p : Int) + m := by omega
            have hw2 : (p : Int) + m ≤ (s.size : Int) := by omega
            go_region_held3 (fun w' => w'.tape = w1.tape) (first | rfl | exact hb2.tape) (first | (go_at_call 136; refine (quoteByte_any _ _).mono ?_; rintro e w2 ⟨rfl, hb2⟩))
            clear hwr hw0 hw1 hw2
            go_wp2
            go_ret2
            exact ⟨ret_val (by rw [E.out]; rfl), (HB.out.trans (hb1.mono hz)).trans ((below_undrew hb2).mono (Nat.le_trans hz hb1.size))⟩
          · have E : Hid (AnsS s (p + m) (acc ++ [b]) fin) := Lib.hid (by rw [if_pos (by simpa using a1)] at hstep; exact hstep)
            clear hstep
            generalize at_ s p = c at *
            clear h3 hne hr
            go_wp2_with fail
            refine (HC.out _).mono ?_
            rintro e w1 ⟨rfl, hb1⟩
            simp only [tupB]
            go_wp2
            have hwr : IntKind.i64.wrap ((p : Int) + (m : Int)) = (p : Int) + m := IntWalk.i64_in _ (by omega)
            have hw0 : (0 : Int) ≤ (p : Int) := by omega
            have hw1 : (p : Int) ≤ (p : Int) + m := by omega
            have hw2 : (p : Int) + m ≤ (s.size : Int) := by omega
            go_region_held3 (fun w' => w'.tape = w1.tape) (first | rfl | exact hb2.tape) (first | (go_at_call 136; refine (quoteByte_any _ _).mono ?_; rintro e w2 ⟨rfl, hb2⟩))
            clear hwr hw0 hw1 hw2
            have hz1 := hb1.size
            have hb2' := below_undrew hb2
            have hz2 := hb2'.size
            have HO2 := Lib.hid ((HO.out.kept (B' := 0) hb1).kept (B' := 0) hb2')
            have HB2 := Lib.hid ((HB.out.trans (hb1.mono hz)).trans (hb2'.mono (Nat.le_trans hz hz1)))
            clear hb2 hb2'
            go_wp2_with (at_builtin; refine wp_append_bytes Tryz.underlying22 Tryz.infoU8 rfl _ _ rfl w.heap.size _ _ rfl (HO2.out.alloc _) ⟨w2.heap.size, 0, none⟩ 1 1 [b] rfl rfl (news_one _ _ _) (by simp; omega) (by simp; omega) ?_; intro v' w3 hown3 hbel3)
            go_roundw
            case rel => exact ⟨p + m, acc ++ [b], by omega, by omega, by simp; omega, by go_num, hown3, E.out, (HB2.out.alloc (by omega) _).trans hbel3⟩
            case measure => simp [intOf]; omega
    · have E := Lib.hid (ansS_end HA.out (by omega))
      have e5 : ((p : Int) == (s.size : Int)) = true := by simp; omega
      go_wp2
      go_ret2
      exact ⟨ret_val (by rw [E.out]; rfl), HB.out⟩

open Classical in
/-- What both answer. -/
noncomputable def unq (s : ByteArray) (i : Int) : Option (List UInt8 × Nat) :=
  if 0 ≤ i ∧ i < s.size ∧ (at_ s i.toNat).toNat = 34 then (scanS s.size (s.data.toList.drop (i.toNat + 1))).map fun x => (x.1, i.toNat + 1 + x.2) else none
theorem unq_yes {s : ByteArray} {i : Nat} (h : i < s.size) (hc : (at_ s i).toNat = 34) : AnsS s (i + 1) [] (unq s (i : Int)) := by
  refine ⟨s.size, by omega, ?_⟩
  rw [unq, if_pos ⟨by omega, by omega, by simpa using hc⟩]
  simp
theorem unq_no {s : ByteArray} {i : Int} (h : i < 0 ∨ (s.size : Int) ≤ i ∨ (at_ s i.toNat).toNat ≠ 34) : unq s i = none := by
  rw [unq, if_neg]; rintro ⟨a, b, c⟩; rcases h with h | h | h
  · omega
  · omega
  · exact h c

set_option maxHeartbeats 400000 in
theorem implUn_any (s : ByteArray) (i : Int) (w : World) (hs : s.size ≤ 1048576) (h1 : -9223372036854775808 ≤ i) (h2 : i ≤ 9223372036854775807) :
    Calls Tryz.prog 177 #[.string s, .int .i64 i] w fun e w' => e = .returned (tupU (unq s i)) ∧ Below w.heap.size w w' := by
  by_cases q0 : i < 0
  · have E := Lib.hid (unq_no (s := s) (.inl q0))
    go_enter Tryz.func177, Tryz.ntmps177
    go_wp2
    go_ret2
    exact ⟨ret_val (by rw [E.out]; rfl), Below.refl _ _⟩
  by_cases q1 : (s.size : Int) ≤ i
  · have E := Lib.hid (unq_no (s := s) (.inr (.inl q1)))
    go_enter Tryz.func177, Tryz.ntmps177
    go_wp2
    go_ret2
    exact ⟨ret_val (by rw [E.out]; rfl), Below.refl _ _⟩
  obtain ⟨k, rfl⟩ : ∃ k : Nat, i = (k : Int) := ⟨i.toNat, by omega⟩
  have hk : k < s.size := by omega
  by_cases q2 : (at_ s k).toNat = 34
  · exact implUn_loop s k w hs hk q2 _ (Lib.hid (unq_yes hk q2))
  · have E := Lib.hid (unq_no (s := s) (i := (k : Int)) (.inr (.inr (by simpa using q2))))
    have hg := at_eq s k hk
    have hb : (at_ s k).toNat < 256 := (at_ s k).toNat_lt
    have e34 : (((at_ s k).toNat : Int) != 34) = true := by simp; omega
    generalize at_ s k = c at *
    clear q2
    go_enter Tryz.func177, Tryz.ntmps177
    go_wp2
    go_ret2
    exact ⟨ret_val (by rw [E.out]; rfl), Below.refl _ _⟩
end Go.Proofs.YtebeoijoljlhiaaGreatDoor.kit
