/-
  Contracts of impl.isReplSign, impl.Escape and spec.Escape over this seat's translation. Conditions: a text of at most 1048576 bytes.
-/
import Derived.Test.YthffjcclcladoaaInfo
import Derived.Test.YthffjcclcladoaaParts0
namespace Go.Proofs.Ythffjcclcladoaa.kit
open Go.ChangeShapes Go.WideShapes Go.ChangeAt Go.RowKit
set_option linter.unusedVariables false

theorem app_litE (l m : List UInt8) : (⟨l.toArray⟩ : ByteArray) ++ ⟨m.toArray⟩ = ⟨(l ++ m).toArray⟩ := by
  apply ByteArray.ext; simp
theorem ext_oneE (s : ByteArray) (k : Nat) (h : k < s.size) : s.extract k (k + 1) = ⟨[s[k]].toArray⟩ := by
  apply ByteArray.ext
  apply Array.ext'
  rw [ByteArray.data_extract, Array.toList_extract]
  show List.take (k + 1 - k) (List.drop k s.data.toList) = [s[k]]
  rw [show k + 1 - k = 1 by omega, List.drop_eq_getElem_cons (by simpa using h)]
  rfl
/-- Bytes that mean themselves only behind a stroke. -/
def rsB (c : UInt8) : Bool := decide (c.toNat = 38 ∨ c.toNat = 92)
def escB (c : UInt8) : List UInt8 := if rsB c then [92, c] else [c]
def escL (l : List UInt8) : List UInt8 := l.flatMap escB
theorem escL_snoc (s : ByteArray) (k : Nat) (h : k < s.size) : escL (s.data.toList.take (k + 1)) = escL (s.data.toList.take k) ++ escB s[k] := by
  rw [take_snoc s k h]; simp [escL, List.flatMap_append]
theorem escL_len (l : List UInt8) : (escL l).length ≤ 2 * l.length := by
  induction l with
  | nil => simp [escL]
  | cons c l ih =>
    have : (escB c).length ≤ 2 := by unfold escB; split <;> simp
    simp only [escL, List.flatMap_cons, List.length_append, List.length_cons] at *; omega
theorem escL_bd (s : ByteArray) (k : Nat) (hs : s.size ≤ 1048576) : (escL (s.data.toList.take k)).length ≤ 2097152 := by
  have h1 := escL_len (s.data.toList.take k)
  have h2 : (s.data.toList.take k).length ≤ s.size := by rw [List.length_take]; simp; omega
  omega
theorem isRepl_any (c : UInt8) (w : World) :
    Calls Try.prog 11 #[.int .u8 (c.toNat : Int)] w fun e w' => e = .returned (.bool (rsB c)) ∧ w = w' := by
  by_cases h1 : c.toNat = 38
  · have E := Lib.hid (show rsB c = true by simp [rsB, h1])
    have e1 : ((c.toNat : Int) == 38) = true := by simp; omega
    clear h1
    go_enter Try.func11, Try.ntmps11
    go_wp2
    go_ret
    exact ⟨ret_bool E.out.symm, rfl⟩
  · have e1 : ((c.toNat : Int) == 38) = false := by simp; omega
    by_cases h2 : c.toNat = 92
    · have E := Lib.hid (show rsB c = true by simp [rsB, h2])
      have e2 : ((c.toNat : Int) == 92) = true := by simp; omega
      clear h1 h2
      go_enter Try.func11, Try.ntmps11
      go_wp2
      go_ret
      exact ⟨ret_bool E.out.symm, rfl⟩
    · have E := Lib.hid (show rsB c = false by simp [rsB, h1, h2])
      have e2 : ((c.toNat : Int) == 92) = false := by simp; omega
      clear h1 h2
      go_enter Try.func11, Try.ntmps11
      go_wp2
      go_ret
      exact ⟨ret_bool E.out.symm, rfl⟩

theorem escB_yes {c : UInt8} (h : rsB c = true) : escB c = [92] ++ [c] := by simp [escB, h]
theorem escB_no {c : UInt8} (h : rsB c = false) : escB c = [c] := by simp [escB, h]
theorem escB_len (c : UInt8) : (escB c).length ≤ 2 := by unfold escB; split <;> simp
set_option maxRecDepth 100000 in
set_option maxHeartbeats 1000000 in
theorem implEsc_any (s : ByteArray) (w : World) (hs : s.size ≤ 1048576) :
    Calls Try.prog 8 #[.string s] w fun e w' => e = .returned (.string ⟨(escL s.data.toList).toArray⟩) ∧ Below w.heap.size w w' := by
  have O0 := Lib.hid (own_start (e := 5) (w := w) (Nat.le_refl _))
  go_enter Try.func8, Try.ntmps8
  go_wp2
  go_loopw [3, 8] (fun v i wr => ∃ k : Nat, k ≤ s.size ∧ i = .int .i64 k ∧ Own 5 w.heap.size wr v (escL (s.data.toList.take k)) ∧ Below w.heap.size w wr) (fun _ i _ => s.size - (intOf i).toNat)
  case atStart => exact ⟨0, Nat.zero_le _, rfl, O0.out, (Below.refl _ _).alloc (Nat.le_refl _) _⟩
  case round =>
    obtain ⟨k, hk, rfl, hown, hbel⟩ := hrel
    have HO := Lib.hid hown
    have HB := Lib.hid hbel
    have hz := hbel.size
    have hlen := escL_bd s k hs
    clear hown hbel
    by_cases hlt : k < s.size
    · have HN := Lib.hid (escL_snoc s k hlt)
      have hlen2 : (escL (s.data.toList.take k) ++ [92]).length ≤ 2097153 := by simp; omega
      generalize escL (s.data.toList.take k) = xs at *
      cases hr : rsB s[k]
      · have HN := Lib.hid (HN.out.trans (by rw [escB_no hr]))
        have HC := Lib.hid (fun W => isRepl_any s[k] W)
        rw [hr] at HC
        clear hr
        have hl1 : xs.length + [s[k]].length ≤ 1099511627776 := by simp; omega
        go_wp2_with (first
          | (go_at_call 11; refine (HC.out _).mono ?_; rintro e w1 ⟨rfl, rfl⟩)
          | (at_builtin; refine wp_append_bytes Try.underlying30 Try.infoU8 rfl _ _ rfl w.heap.size _ _ rfl (HO.out.alloc _) ⟨wr.heap.size, 0, none⟩ 1 1 [s[k]] rfl rfl (news_one _ s[k] _) hl1 (by simp; omega) ?_; intro v' w3 hown3 hbel3))
        go_roundw
        case rel => exact ⟨k + 1, by omega, by go_num, by rw [HN.out]; exact hown3, (HB.out.alloc hz _).trans hbel3⟩
        case measure => simp [intOf]; omega
      · have HN := Lib.hid (HN.out.trans (by rw [escB_yes hr]))
        have HC := Lib.hid (fun W => isRepl_any s[k] W)
        rw [hr] at HC
        clear hr
        have hl1 : xs.length + [(92 : UInt8)].length ≤ 1099511627776 := by simp; omega
        have hl2 : (xs ++ [92]).length + [s[k]].length ≤ 1099511627776 := by simp at *; omega
        go_wp2_with (first
          | (go_at_call 11; refine (HC.out _).mono ?_; rintro e w1 ⟨rfl, rfl⟩)
          | (at_builtin; refine wp_append_bytes Try.underlying30 Try.infoU8 rfl (.tmp 15) (.tmp 16) rfl w.heap.size _ _ rfl (HO.out.alloc _) ⟨wr.heap.size, 0, none⟩ 1 1 [92] rfl rfl (news_one _ 92 _) hl1 (by simp; omega) ?_; intro v' w3 hown3 hbel3; have HO3 := Lib.hid hown3; have HB3 := Lib.hid hbel3; have hz3 := hbel3.size; have hz4 : w.heap.size ≤ w3.heap.size := (by simp at hz3; omega); clear hown3 hbel3 hz3)
          | (at_builtin; refine wp_append_bytes Try.underlying30 Try.infoU8 rfl (.tmp 18) (.tmp 22) rfl w.heap.size _ (xs ++ [92]) rfl (HO3.out.alloc _) ⟨w3.heap.size, 0, none⟩ 1 1 [s[k]] rfl rfl (news_one _ s[k] _) hl2 (by simp; omega) ?_; intro v4 w4 hown4 hbel4))
        go_roundw
        case rel => exact ⟨k + 1, by omega, by go_num, by rw [HN.out, ← List.append_assoc]; exact hown4, (((HB.out.alloc hz _).trans HB3.out).alloc (by omega) _).trans hbel4⟩
        case measure => simp [intOf]; omega
    · have E := Lib.hid (take_all s k (by omega))
      have hbk := HO.out.back (P := Try.prog) 30 9 Try.underlying30 Try.underlying5 Try.underlying9
      go_wp2
      go_ret
      exact ⟨ret_str (by rw [E.out]), HB.out⟩
set_option maxRecDepth 100000 in
set_option maxHeartbeats 1000000 in
theorem specEsc_any (s : ByteArray) (w : World) (hs : s.size ≤ 1048576) :
    Calls Try.prog 7 #[.string s] w fun e w' => e = .returned (.string ⟨(escL s.data.toList).toArray⟩) ∧ Below w.heap.size w w' := by
  go_enter Try.func7, Try.ntmps7
  go_wp2
  go_loop [3, 4] (fun o i => ∃ k : Nat, k ≤ s.size ∧ i = .int .i64 k ∧ o = .string ⟨(escL (s.data.toList.take k)).toArray⟩) (fun _ i => s.size - (intOf i).toNat)
  case atStart => exact ⟨0, Nat.zero_le _, rfl, rfl⟩
  case round =>
    obtain ⟨k, hk, rfl, rfl⟩ := hrel
    have hlen := escL_bd s k hs
    by_cases hlt : k < s.size
    · have HN := Lib.hid (escL_snoc s k hlt)
      have hsl : ∀ (W : World), (Instr.slice 9 (.string s) (some (.int .i64 (k : Int))) (some (.int .i64 ((k : Int) + 1))) none).run Try.prog W = .ok (.string ⟨[s[k]].toArray⟩) W := by
        intro W
        rw [run_slice_string W _ s .i64 .i64 _ _ Try.underlying9 (by omega) (by omega) (by omega), Int.toNat_natCast, show ((k : Int) + 1).toNat = k + 1 by omega, ext_oneE s k hlt]
      generalize escL (s.data.toList.take k) = xs at *
      by_cases h1 : s[k].toNat = 38
      · have e1 : ((s[k].toNat : Int) == 38) = true := by simp; omega
        have HN := Lib.hid (HN.out.trans (by rw [escB_yes (by simp [rsB, h1])]))
        clear h1
        go_wp2
        go_round
        case rel => exact ⟨k + 1, by omega, by go_num, by rw [HN.out, show (⟨#[92]⟩ : ByteArray) = ⟨[92].toArray⟩ from rfl, app_litE, app_litE]; simp⟩
        case measure => simp [intOf]; omega
      · have e1 : ((s[k].toNat : Int) == 38) = false := by simp; omega
        by_cases h2 : s[k].toNat = 92
        · have e2 : ((s[k].toNat : Int) == 92) = true := by simp; omega
          have HN := Lib.hid (HN.out.trans (by rw [escB_yes (by simp [rsB, h2])]))
          clear h1 h2
          go_wp2
          go_round
          case rel => exact ⟨k + 1, by omega, by go_num, by rw [HN.out, show (⟨#[92]⟩ : ByteArray) = ⟨[92].toArray⟩ from rfl, app_litE, app_litE]; simp⟩
          case measure => simp [intOf]; omega
        · have e2 : ((s[k].toNat : Int) == 92) = false := by simp; omega
          have HN := Lib.hid (HN.out.trans (by rw [escB_no (by simp [rsB, h1, h2])]))
          clear h1 h2
          go_wp2
          go_round
          case rel => exact ⟨k + 1, by omega, by go_num, by rw [HN.out, app_litE]⟩
          case measure => simp [intOf]; omega
    · have E := Lib.hid (take_all s k (by omega))
      go_wp2
      go_ret
      exact ⟨ret_str (by rw [E.out]), Below.refl _ _⟩
end Go.Proofs.Ythffjcclcladoaa.kit
