/-
  Contracts of spec.Substr and impl.Substr over this seat's translation: for every text and every two numbers both give the bytes of the text from one place on and ahead of another. Conditions: none but that the text has at most 1048576 bytes.
-/
import Derived.Test.YtalobgebdpaecaaRows
import Derived.Test.YtalobgebdpaecaaKit
namespace Go.Proofs.Ytalobgebdpaecaa.kit
open Go.ChangeShapes Go.WideShapes Go.ChangeAt Go.RowKit
set_option linter.unusedVariables false

theorem Try.infoU8 : (Try.prog.info? 5).map (fun i => (i.zero, i.size, i.bytes)) = some (some (.int .u8 0), 1, 1) := by kernel_rfl
def subTo (a h k : Nat) (l : List UInt8) : List UInt8 := (l.take (min k h)).drop a
theorem subTo_keep {a h k : Nat} {l : List UInt8} (hk : k < l.length) (h1 : a ≤ k) (h2 : k < h) : subTo a h (k + 1) l = subTo a h k l ++ [l[k]] := by
  have e1 : min (k + 1) h = k + 1 := by omega
  have e2 : min k h = k := by omega
  simp only [subTo, e1, e2]
  rw [List.take_succ_eq_append_getElem hk, List.drop_append_of_le_length (by simp; omega)]
theorem subTo_skip {a h k : Nat} {l : List UInt8} (h1 : k < a ∨ h ≤ k) : subTo a h (k + 1) l = subTo a h k l := by
  rcases h1 with h1 | h1
  · simp only [subTo]
    rw [List.drop_eq_nil_of_le (by simp; omega), List.drop_eq_nil_of_le (by simp; omega)]
  · have e1 : min (k + 1) h = h := by omega
    have e2 : min k h = h := by omega
    simp only [subTo, e1, e2]
theorem subTo_all {a h k : Nat} {l : List UInt8} (hk : l.length ≤ k) : subTo a h k l = (l.take h).drop a := by
  simp only [subTo]
  congr 1
  rcases Nat.le_total k h with e | e
  · rw [Nat.min_eq_left e, List.take_of_length_le hk, List.take_of_length_le (by omega)]
  · rw [Nat.min_eq_right e]
theorem subTo_len (a h k : Nat) (l : List UInt8) : (subTo a h k l).length ≤ k := by simp [subTo]; omega

/-- Whether a place is kept. -/
def keepB (f m : Int) (k : Nat) : Bool := decide (f ≤ (k : Int) + 1 ∧ (k : Int) + 1 < f + m)
theorem subTo_yes {f m : Int} {A H k : Nat} {l : List UInt8} (hA : Hid (A = (f - 1).toNat)) (hH : Hid (H = (f + m - 1).toNat)) (hk : k < l.length) (h : keepB f m k = true) : subTo A H (k + 1) l = subTo A H k l ++ [l[k]] := by
  have := hA.out; have := hH.out
  simp only [keepB, decide_eq_true_eq] at h
  exact subTo_keep hk (by omega) (by omega)
theorem subTo_no {f m : Int} {A H k : Nat} {l : List UInt8} (hA : Hid (A = (f - 1).toNat)) (hH : Hid (H = (f + m - 1).toNat)) (h : keepB f m k = false) : subTo A H (k + 1) l = subTo A H k l := by
  have := hA.out; have := hH.out
  simp only [keepB, decide_eq_false_iff_not] at h
  exact subTo_skip (by omega)

set_option maxRecDepth 100000 in
set_option maxHeartbeats 1000000 in
theorem specSub_any (s : ByteArray) (f m : Int) (w : World) (hs : s.size ≤ 1048576) (wf : (Lit.int .i64 f).wf = true) (wm : (Lit.int .i64 m).wf = true) (A H : Nat) (hA : Hid (A = (f - 1).toNat)) (hH : Hid (H = (f + m - 1).toNat)) :
    Calls Try.prog 25 #[.string s, .int .i64 f, .int .i64 m] w fun e w' => e = .returned (.string ⟨((s.data.toList.take H).drop A).toArray⟩) ∧ Below w.heap.size w w' := by
  have hf : -9223372036854775808 ≤ f ∧ f ≤ 9223372036854775807 := by simpa [Lit.wf, IntKind.min, IntKind.max, IntKind.signed, IntKind.bits] using wf
  have hm : -9223372036854775808 ≤ m ∧ m ≤ 9223372036854775807 := by simpa [Lit.wf, IntKind.min, IntKind.max, IntKind.signed, IntKind.bits] using wm
  obtain ⟨hf1, hf2⟩ := hf
  obtain ⟨hm1, hm2⟩ := hm
  clear wf wm
  go_enter Try.func25, Try.ntmps25
  go_wp2
  go_loopw [7, 8] (fun v i wr => ∃ k : Nat, k ≤ s.size ∧ i = .int .i64 ((k : Int) + 1) ∧ Own 5 w.heap.size wr v (subTo A H k s.data.toList) ∧ Below w.heap.size w wr) (fun _ i _ => s.size + 1 - (intOf i).toNat)
  case atStart => exact ⟨0, Nat.zero_le _, by go_num, by simpa [subTo] using own_start (Nat.le_refl _), (Below.refl _ _).alloc (Nat.le_refl _) _⟩
  case round =>
    obtain ⟨k, hk, rfl, hown, hbel⟩ := hrel
    have HO := Lib.hid hown
    have HB := Lib.hid hbel
    have hz := hbel.size
    clear hown hbel
    by_cases hlt : k < s.size
    · have hl : k < s.data.toList.length := by simpa using hlt
      have hlen := subTo_len A H k s.data.toList
      have hgl : s.data.toList[k] = s[k] := rfl
      have HG := Lib.hid hgl; clear hgl
      cases a1 : keepB f m k
      · have HN := Lib.hid (subTo_no (l := s.data.toList) hA hH a1)
        have hno : ¬ (f ≤ (k : Int) + 1 ∧ (k : Int) + 1 < f + m) := by simpa [keepB] using a1
        clear a1
        by_cases q1 : f ≤ (k : Int) + 1
        · by_cases q2 : f ≤ 0
          · by_cases q3 : 0 < m
            · have q4 : ¬ (k : Int) + 1 < f + m := by omega
              go_wp2
              go_roundw
              case rel => exact ⟨k + 1, by omega, by go_num, by rw [HN.out]; exact HO.out, HB.out⟩
              case measure => simp [intOf]; omega
            · go_wp2
              go_roundw
              case rel => exact ⟨k + 1, by omega, by go_num, by rw [HN.out]; exact HO.out, HB.out⟩
              case measure => simp [intOf]; omega
          · have q4 : ¬ (k : Int) + 1 - f < m := by omega
            go_wp2
            go_roundw
            case rel => exact ⟨k + 1, by omega, by go_num, by rw [HN.out]; exact HO.out, HB.out⟩
            case measure => simp [intOf]; omega
        · go_wp2
          go_roundw
          case rel => exact ⟨k + 1, by omega, by go_num, by rw [HN.out]; exact HO.out, HB.out⟩
          case measure => simp [intOf]; omega
      · have HN := Lib.hid (subTo_yes hA hH hl a1)
        have hyes : f ≤ (k : Int) + 1 ∧ (k : Int) + 1 < f + m := by simpa [keepB] using a1
        clear a1
        obtain ⟨q1, q5⟩ := hyes
        by_cases q2 : f ≤ 0
        · have q3 : 0 < m := by omega
          go_wp2_with (at_builtin; refine wp_append_bytes Try.underlying22 Try.infoU8 rfl _ _ rfl w.heap.size _ _ rfl (HO.out.alloc _) ⟨wr.heap.size, 0, none⟩ 1 1 [s[k]] rfl rfl (news_one _ _ _) (by simp; omega) (by simp; omega) ?_; intro v' w3 hown3 hbel3)
          go_roundw
          case rel => exact ⟨k + 1, by omega, by go_num, by rw [HN.out, HG.out]; exact hown3, (HB.out.alloc hz _).trans hbel3⟩
          case measure => simp [intOf]; omega
        · have q4 : (k : Int) + 1 - f < m := by omega
          go_wp2_with (at_builtin; refine wp_append_bytes Try.underlying22 Try.infoU8 rfl _ _ rfl w.heap.size _ _ rfl (HO.out.alloc _) ⟨wr.heap.size, 0, none⟩ 1 1 [s[k]] rfl rfl (news_one _ _ _) (by simp; omega) (by simp; omega) ?_; intro v' w3 hown3 hbel3)
          go_roundw
          case rel => exact ⟨k + 1, by omega, by go_num, by rw [HN.out, HG.out]; exact hown3, (HB.out.alloc hz _).trans hbel3⟩
          case measure => simp [intOf]; omega
    · have hfin : subTo A H k s.data.toList = _ := subTo_all (by simp; omega)
      have hbk := HO.out.back (P := Try.prog) 22 9 Try.underlying22 Try.underlying5 Try.underlying9
      rw [hfin] at hbk
      clear hfin
      go_wp2
      go_ret
      exact ⟨rfl, HB.out⟩

theorem extract_eq (s : ByteArray) (i j : Nat) : s.extract i j = ⟨((s.data.toList.take j).drop i).toArray⟩ := by
  obtain ⟨⟨l⟩⟩ := s
  rw [show (⟨⟨l⟩⟩ : ByteArray) = ByteArray.mk l.toArray from rfl, ByteArray.extract_mk, List.take_drop, List.drop_take, List.drop_take]
  congr 3
  omega
theorem slice_eq {P : Program} {t : TypeId} (ht : P.underlying t = some .string) (s : ByteArray) (i j : Int) (A H : Nat) (h0 : 0 ≤ i) (h1 : i ≤ j) (h2 : j ≤ s.size) (hA : i.toNat = A) (hH : j.toNat = H ∨ (s.size ≤ H ∧ s.size ≤ j.toNat)) (W : World) :
    (Instr.slice t (.string s) (some (.int .i64 i)) (some (.int .i64 j)) none).run P W = .ok (.string ⟨((s.data.toList.take H).drop A).toArray⟩) W := by
  rw [run_slice_string W t s .i64 .i64 i j ht h0 h1 h2, extract_eq, hA]
  rcases hH with hH | ⟨a, b⟩
  · rw [hH]
  · rw [List.take_of_length_le (by simpa using b), List.take_of_length_le (by simpa using a)]
theorem sub_nil {l : List UInt8} {A H : Nat} (h : H ≤ A ∨ l.length ≤ A) : (l.take H).drop A = [] := List.drop_eq_nil_of_le (by simp; omega)

set_option maxRecDepth 100000 in
set_option maxHeartbeats 1000000 in
theorem implSub_any (s : ByteArray) (f m : Int) (w : World) (hs : s.size ≤ 1048576) (wf : (Lit.int .i64 f).wf = true) (wm : (Lit.int .i64 m).wf = true) (A H : Nat) (hA : Hid (A = (f - 1).toNat)) (hH : Hid (H = (f + m - 1).toNat)) :
    Calls Try.prog 17 #[.string s, .int .i64 f, .int .i64 m] w fun e w' => e = .returned (.string ⟨((s.data.toList.take H).drop A).toArray⟩) ∧ w = w' := by
  have hf : -9223372036854775808 ≤ f ∧ f ≤ 9223372036854775807 := by simpa [Lit.wf, IntKind.min, IntKind.max, IntKind.signed, IntKind.bits] using wf
  have hm : -9223372036854775808 ≤ m ∧ m ≤ 9223372036854775807 := by simpa [Lit.wf, IntKind.min, IntKind.max, IntKind.signed, IntKind.bits] using wm
  obtain ⟨hf1, hf2⟩ := hf
  obtain ⟨hm1, hm2⟩ := hm
  clear wf wm
  have hl : s.data.toList.length = s.size := by simp
  have HL := Lib.hid hl; clear hl
  by_cases q1 : m ≤ 0
  · have E := Lib.hid (show (s.data.toList.take H).drop A = [] from sub_nil (.inl (by have := hA.out; have := hH.out; omega)))
    go_enter Try.func17, Try.ntmps17
    go_wp2
    go_ret
    exact ⟨ret_str (by rw [E.out]), rfl⟩
  · by_cases q2 : (s.size : Int) < f
    · have E := Lib.hid (show (s.data.toList.take H).drop A = [] from sub_nil (.inr (by have := hA.out; have := HL.out; omega)))
      go_enter Try.func17, Try.ntmps17
      go_wp2
      go_ret
      exact ⟨ret_str (by rw [E.out]), rfl⟩
    · by_cases q3 : f < 1
      · by_cases q4 : m + f - 1 ≤ 0
        · have E := Lib.hid (show (s.data.toList.take H).drop A = [] from sub_nil (.inl (by have := hA.out; have := hH.out; omega)))
          go_enter Try.func17, Try.ntmps17
          go_wp2
          go_ret
          exact ⟨ret_str (by rw [E.out]; rfl), rfl⟩
        · by_cases q5 : m + f - 1 ≤ s.size
          · have hsl := slice_eq (P := Try.prog) Try.underlying9 s 0 (m + f - 1) A H (by omega) (by omega) (by omega) (by have := hA.out; omega) (.inl (by have := hH.out; omega))
            go_enter Try.func17, Try.ntmps17
            go_wp2
            go_ret
            exact ⟨rfl, rfl⟩
          · by_cases q6 : 0 < s.size
            · have hsl := slice_eq (P := Try.prog) Try.underlying9 s 0 s.size A H (by omega) (by omega) (by omega) (by have := hA.out; omega) (.inr (by have := hH.out; omega))
              go_enter Try.func17, Try.ntmps17
              go_wp2
              go_ret
              exact ⟨rfl, rfl⟩
            · have E := Lib.hid (show (s.data.toList.take H).drop A = [] from sub_nil (.inr (by have := HL.out; omega)))
              go_enter Try.func17, Try.ntmps17
              go_wp2
              go_ret
              exact ⟨ret_str (by rw [E.out]; rfl), rfl⟩
      · by_cases q4 : m ≤ s.size - f + 1
        · have hsl := slice_eq (P := Try.prog) Try.underlying9 s (f - 1) (f - 1 + m) A H (by omega) (by omega) (by omega) (by have := hA.out; omega) (.inl (by have := hH.out; omega))
          go_enter Try.func17, Try.ntmps17
          go_wp2
          go_ret
          exact ⟨rfl, rfl⟩
        · have hsl := slice_eq (P := Try.prog) Try.underlying9 s (f - 1) (f - 1 + (s.size - f + 1)) A H (by omega) (by omega) (by omega) (by have := hA.out; omega) (.inr (by have := hH.out; omega))
          go_enter Try.func17, Try.ntmps17
          go_wp2
          go_ret
          exact ⟨rfl, rfl⟩
end Go.Proofs.Ytalobgebdpaecaa.kit
