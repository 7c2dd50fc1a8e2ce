/-
  Contracts of spec.Substr and impl.Substr over this seat's translation: for every text and every two numbers both give the bytes of the text from one place on and ahead of another. Conditions: none but that the text has at most 1048576 bytes.
-/
import Derived.Test.YthffjcclcladoaaGreatDoorRows
import Derived.Test.YthffjcclcladoaaGreatDoorMKit
namespace Go.Proofs.YthffjcclcladoaaGreatDoor.kit
open Go.ChangeShapes Go.WideShapes Go.ChangeAt Go.RowKit
set_option linter.unusedVariables false

theorem Tryz.infoU8 : (Tryz.prog.info? 5).map (fun i => (i.zero, i.size, i.bytes)) = some (some (.int .u8 0), 1, 1) := by kernel_rfl
def subTo (a h k : Nat) (l : List UInt8) : List UInt8 := (l.take (min k h)).drop a
theorem subTo_keep {a h k : Nat} {l : List UInt8} (hk : k < l.length) (h1 : a ≤ k) (h2 : k < h) : subTo a h (k + 1) l = subTo a h k l ++ [l[k]] := by
  have e1 : min (k + 1) h = k + 1 := by omega
  have e2 : min k h = k := by omega
  simp only [subTo, e1, e2]
  rw [List.take_succ_eq_append_getElem hk, List.drop_append_of_le_length (by simp; omega)]
theorem subTo_skip {a h k : Nat} {l : List UInt8} (h1 : k < a ∨ h ≤ k) : subTo a h (k + 1) l = subTo a h k l := by
  rcases h1 with h1 | h1
  · simp only [subTo]
    rw [List.drop_eq_nil_of_le (by simp; omega), List.drop_eq_nil_of_le (by simp; omega)]
  · have e1 : min (k + 1) h = h := by omega
    have e2 : min k h = h := by omega
    simp only [subTo, e1, e2]
theorem subTo_all {a h k : Nat} {l : List UInt8} (hk : l.length ≤ k) : subTo a h k l = (l.take h).drop a := by
  simp only [subTo]
  congr 1
  rcases Nat.le_total k h with e | e
  · rw [Nat.min_eq_left e, List.take_of_length_le hk, List.take_of_length_le (by omega)]
  · rw [Nat.min_eq_right e]
theorem subTo_len (a h k : Nat) (l : List UInt8) : (subTo a h k l).length ≤ k := by simp [subTo]; omega

/-- Whether a place is kept. -/
def keepB (f m : Int) (k : Nat) : Bool := decide (f ≤ (k : Int) + 1 ∧ (k : Int) + 1 < f + m)
theorem subTo_yes {f m : Int} {A H k : Nat} {l : List UInt8} (hA : Hid (A = (f - 1).toNat)) (hH : Hid (H = (f + m - 1).toNat)) (hk : k < l.length) (h : keepB f m k = true) : subTo A H (k + 1) l = subTo A H k l ++ [l[k]] := by
  have := hA.out; have := hH.out
  simp only [keepB, decide_eq_true_eq] at h
  exact subTo_keep hk (by omega) (by omega)
theorem subTo_no {f m : Int} {A H k : Nat} {l : List UInt8} (hA : Hid (A = (f - 1).toNat)) (hH : Hid (H = (f + m - 1).toNat)) (h : keepB f m k = false) : subTo A H (k + 1) l = subTo A H k l := by
  have := hA.out; have := hH.out
  simp only [keepB, decide_eq_false_iff_not] at h
  exact subTo_skip (by omega)

theorem extract_eq (s : ByteArray) (i j : Nat) : s.extract i j = ⟨((s.data.toList.take j).drop i).toArray⟩ := by
  obtain ⟨⟨l⟩⟩ := s
  rw [show (⟨⟨l⟩⟩ : ByteArray) = ByteArray.mk l.toArray from rfl, ByteArray.extract_mk, List.take_drop, List.drop_take, List.drop_take]
  congr 3
  omega
theorem slice_eq {P : Program} {t : TypeId} (ht : P.underlying t = some .string) (s : ByteArray) (i j : Int) (A H : Nat) (h0 : 0 ≤ i) (h1 : i ≤ j) (h2 : j ≤ s.size) (hA : i.toNat = A) (hH : j.toNat = H ∨ (s.size ≤ H ∧ s.size ≤ j.toNat)) (W : World) :
    (Instr.slice t (.string s) (some (.int .i64 i)) (some (.int .i64 j)) none).run P W = .ok (.string ⟨((s.data.toList.take H).drop A).toArray⟩) W := by
  rw [run_slice_string W t s .i64 .i64 i j ht h0 h1 h2, extract_eq, hA]
  rcases hH with hH | ⟨a, b⟩
  · rw [hH]
  · rw [List.take_of_length_le (by simpa using b), List.take_of_length_le (by simpa using a)]
theorem sub_nil {l : List UInt8} {A H : Nat} (h : H ≤ A ∨ l.length ≤ A) : (l.take H).drop A = [] := List.drop_eq_nil_of_le (by simp; omega)

set_option maxRecDepth 100000 in
set_option maxHeartbeats 1000000 in
theorem implSub_any (s : ByteArray) (f m : Int) (w : World) (hs : s.size ≤ 1048576) (wf : (Lit.int .i64 f).wf = true) (wm : (Lit.int .i64 m).wf = true) (A H : Nat) (hA : Hid (A = (f - 1).toNat)) (hH : Hid (H = (f + m - 1).toNat)) :
    Calls Tryz.prog 126 #[.string s, .int .i64 f, .int .i64 m] w fun e w' => e = .returned (.string ⟨((s.data.toList.take H).drop A).toArray⟩) ∧ w = w' := by
  have hf : -9223372036854775808 ≤ f ∧ f ≤ 9223372036854775807 := by simpa [Lit.wf, IntKind.min, IntKind.max, IntKind.signed, IntKind.bits] using wf
  have hm : -9223372036854775808 ≤ m ∧ m ≤ 9223372036854775807 := by simpa [Lit.wf, IntKind.min, IntKind.max, IntKind.signed, IntKind.bits] using wm
  obtain ⟨hf1, hf2⟩ := hf
  obtain ⟨hm1, hm2⟩ := hm
  clear wf wm
  have hl : s.data.toList.length = s.size := by simp
  have HL := Lib.hid hl; clear hl
  by_cases q1 : m ≤ 0
  · have E := Lib.hid (show (s.data.toList.take H).drop A = [] from sub_nil (.inl (by have := hA.out; have := hH.out; omega)))
    go_enter Tryz.func126, Tryz.ntmps126
    go_wp2
    go_ret
    exact ⟨ret_str (by rw [E.out]), rfl⟩
  · by_cases q2 : (s.size : Int) < f
    · have E := Lib.hid (show (s.data.toList.take H).drop A = [] from sub_nil (.inr (by have := hA.out; have := HL.out; omega)))
      go_enter Tryz.func126, Tryz.ntmps126
      go_wp2
      go_ret
      exact ⟨ret_str (by rw [E.out]), rfl⟩
    · by_cases q3 : f < 1
      · by_cases q4 : m + f - 1 ≤ 0
        · have E := Lib.hid (show (s.data.toList.take H).drop A = [] from sub_nil (.inl (by have := hA.out; have := hH.out; omega)))
          go_enter Tryz.func126, Tryz.ntmps126
          go_wp2
          go_ret
          exact ⟨ret_str (by rw [E.out]; rfl), rfl⟩
        · by_cases q5 : m + f - 1 ≤ s.size
          · have hsl := slice_eq (P := Tryz.prog) Tryz.underlying9 s 0 (m + f - 1) A H (by omega) (by omega) (by omega) (by have := hA.out; omega) (.inl (by have := hH.out; omega))
            go_enter Tryz.func126, Tryz.ntmps126
            go_wp2
            go_ret
            exact ⟨rfl, rfl⟩
          · by_cases q6 : 0 < s.size
            · have hsl := slice_eq (P := Tryz.prog) Tryz.underlying9 s 0 s.size A H (by omega) (by omega) (by omega) (by have := hA.out; omega) (.inr (by have := hH.out; omega))
              go_enter Tryz.func126, Tryz.ntmps126
              go_wp2
              go_ret
              exact ⟨rfl, rfl⟩
            · have E := Lib.hid (show (s.data.toList.take H).drop A = [] from sub_nil (.inr (by have := HL.out; omega)))
              go_enter Tryz.func126, Tryz.ntmps126
              go_wp2
              go_ret
              exact ⟨ret_str (by rw [E.out]; rfl), rfl⟩
      · by_cases q4 : m ≤ s.size - f + 1
        · have hsl := slice_eq (P := Tryz.prog) Tryz.underlying9 s (f - 1) (f - 1 + m) A H (by omega) (by omega) (by omega) (by have := hA.out; omega) (.inl (by have := hH.out; omega))
          go_enter Tryz.func126, Tryz.ntmps126
          go_wp2
          go_ret
          exact ⟨rfl, rfl⟩
        · have hsl := slice_eq (P := Tryz.prog) Tryz.underlying9 s (f - 1) (f - 1 + (s.size - f + 1)) A H (by omega) (by omega) (by omega) (by have := hA.out; omega) (.inr (by have := hH.out; omega))
          go_enter Tryz.func126, Tryz.ntmps126
          go_wp2
          go_ret
          exact ⟨rfl, rfl⟩
end Go.Proofs.YthffjcclcladoaaGreatDoor.kit
