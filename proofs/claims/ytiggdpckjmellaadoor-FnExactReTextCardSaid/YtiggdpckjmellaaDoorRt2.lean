/-
  Contract of spec.l04Runs over this seat's translation: bytes told in runs. Conditions: the text has at most 1048576 bytes.
-/
import Derived.Test.YtiggdpckjmellaaDoorRt1
import Derived.Deep.QuietTactic
import Derived.BigQuiet
import Derived.Deep.LoopGhost
namespace Go.Proofs.YtiggdpckjmellaaDoor.kit
open Go.ChangeShapes Go.WideShapes Go.ChangeAt Go.RowKit
set_option linter.unusedVariables false

theorem piece_len (l : List UInt8) (i e : Nat) : (piece l i e).length ≤ e - i := by
  unfold piece
  split
  · simp only [List.length_cons, List.length_nil]; omega
  · simp only [List.length_take]; omega
theorem join4 (l : List UInt8) (s : ByteArray) (i k i1 j : Nat) (hi : i < s.size) (hk : k < s.size) (h1 : i1 - i = 1) (h2 : j - k = 1) : Value.string ((((⟨l.toArray⟩ : ByteArray) ++ s.extract i i1) ++ ⟨#[45]⟩) ++ s.extract k j) = .string ⟨(l ++ [s.data.toList.getD i 0, 45, s.data.toList.getD k 0]).toArray⟩ := by
  rw [app_ext, show (⟨#[45]⟩ : ByteArray) = ⟨[45].toArray⟩ from rfl, app_lit, app_ext, h1, h2, one_at s i hi, one_at s k hk]
  simp
set_option maxRecDepth 100000 in
set_option maxHeartbeats 4000000 in
theorem l04Runs_any (s : ByteArray) (w : World) (hs : s.size ≤ 1048576) :
    Calls Tryd.prog 128 #[.string s] w fun e w' => e = .returned (.string ⟨(rTxt s.data.toList 0).toArray⟩) ∧ Below w.heap.size w w' := by
  have hl : s.data.toList.length = s.size := by simp
  have HL := Lib.hid hl
  clear hl
  go_enter Tryd.func128, Tryd.ntmps128
  go_wp2_with fail
  go_loopg [3, 4] s.size (fun g o i wr => ∃ (l : List UInt8) (k : Nat), k ≤ s.size ∧ l.length ≤ k ∧ g = s.size - k ∧ i = .int .i64 (k : Int) ∧ o = .string ⟨l.toArray⟩ ∧ l ++ rTxt s.data.toList k = rTxt s.data.toList 0 ∧ Below w.heap.size w wr)
  case atStart => exact ⟨[], 0, Nat.zero_le _, Nat.le_refl _, rfl, rfl, rfl, rfl, Below.refl _ _⟩
  case round =>
    obtain ⟨l, i, hi, hll, rfl, rfl, rfl, hrec, hb⟩ := hrel
    have HR := Lib.hid hrec
    have HB := Lib.hid hb
    clear hrec hb
    by_cases hlt : i < s.size
    · go_wp2_with fail
      go_loopg [5] (s.size - i) (fun g e wr2 => ∃ (k : Nat), i ≤ k ∧ k < s.size ∧ g = s.size - k ∧ e = .int .i64 (k : Int) ∧ rEnd s.data.toList (k + 1) = rEnd s.data.toList (i + 1) ∧ Below w.heap.size w wr2)
      case atStart => exact ⟨i, Nat.le_refl _, hlt, rfl, rfl, rfl, HB.out⟩
      case round =>
        obtain ⟨k, hik, hk, rfl, rfl, hend, hb2⟩ := hrel
        have HE := Lib.hid hend
        have HB2 := Lib.hid hb2
        clear hend hb2
        obtain ⟨j, hj⟩ : ∃ j, k + 1 = j := ⟨_, rfl⟩
        have hwj : IntKind.i64.wrap ((k : Int) + 1) = (j : Int) := by rw [IntKind.wrap_i64]; omega
        have hk0 : (0 : Int) ≤ k := by omega
        have hk1 : (k : Int) < s.size := by omega
        have hj0 : (0 : Int) ≤ j := by omega
        obtain ⟨i1, hi1⟩ : ∃ i1, i + 1 = i1 := ⟨_, rfl⟩
        have hwi : IntKind.i64.wrap ((i : Int) + 1) = (i1 : Int) := by rw [IntKind.wrap_i64]; omega
        have hi10 : (0 : Int) ≤ i := by omega
        have hi11 : (i : Int) ≤ i1 := by omega
        have hi12 : (i1 : Int) ≤ s.size := by omega
        have hkj : (k : Int) ≤ j := by omega
        have hij : (i : Int) ≤ j := by omega
        have hjz : (j : Int) ≤ s.size := by omega
        have hs1 : (s.extract i i1).size ≤ 1 := by rw [ByteArray.size_extract]; omega
        have hs2 : (s.extract k j).size ≤ 1 := by rw [ByteArray.size_extract]; omega
        have hs3 : (s.extract i j).size ≤ 1048576 := by rw [ByteArray.size_extract]; omega
        by_cases hjs : j < s.size
        · have hj1 : (j : Int) < s.size := by omega
          have hf := foll_at s k j hk hjs
          have HF := Lib.hid (show foll s[k] s[j] = foll (s.data.toList.getD (j - 1) 0) (s.data.toList.getD j 0) by rw [getD_at s j hjs, show j - 1 = k by omega, getD_at s k hk])
          generalize foll s[k] s[j] = fo at *
          cases fo
          · have hstop : rEnd s.data.toList j = j := rEnd_stop (fun h => HF.out.symm)
            have hpc := rTxt_go (l := s.data.toList) (i := i) (by rw [HL.out]; exact hlt)
            rw [← HE.out, hj, hstop] at hpc
            have HPC := Lib.hid hpc
            clear hpc hstop
            by_cases h2 : (2 : Int) ≤ (k : Int) - i
            · have HPL := Lib.hid (piece_long (l := s.data.toList) (i := i) (e := j) (by omega))
              go_wp2_with fail
              go_quiet (fail)
              go_wp2_with fail
              go_quiet (fail)
              go_wp2_with fail
              go_roundg (s.size - j)
              case rel => exact ⟨l ++ piece s.data.toList i j, j, by omega, by rw [List.length_append]; have := piece_len s.data.toList i j; omega, rfl, by go_num, by rw [HPL.out, show j - 1 = k by omega]; exact join4 l s i k _ _ hlt hk (by omega) (by omega), by rw [List.append_assoc, ← HPC.out]; exact HR.out, belowK HB2.out _⟩
              case measure => omega
            · have HPS := Lib.hid (piece_short (l := s.data.toList) (i := i) (e := j) (by omega))
              go_wp2_with fail
              go_quiet (fail)
              go_wp2_with fail
              go_roundg (s.size - j)
              case rel => exact ⟨l ++ piece s.data.toList i j, j, by omega, by rw [List.length_append]; have := piece_len s.data.toList i j; omega, rfl, by go_num, by rw [HPS.out, ← app_ext], by rw [List.append_assoc, ← HPC.out]; exact HR.out, belowK HB2.out _⟩
              case measure => omega
          · go_wp2_with fail
            go_quiet (fail)
            go_wp2_with fail
            go_roundg (s.size - j)
            case rel => exact ⟨j, by omega, hjs, rfl, by go_num, by rw [← HE.out, ← rEnd_go (by omega) (by rw [HL.out]; exact hjs) HF.out.symm, hj], belowK HB2.out _⟩
            case measure => omega
        · have hstop : rEnd s.data.toList j = j := rEnd_stop (fun h => absurd h (by rw [HL.out]; exact hjs))
          have hpc := rTxt_go (l := s.data.toList) (i := i) (by rw [HL.out]; exact hlt)
          rw [← HE.out, hj, hstop] at hpc
          have HPC := Lib.hid hpc
          clear hpc hstop
          by_cases h2 : (2 : Int) ≤ (k : Int) - i
          · have HPL := Lib.hid (piece_long (l := s.data.toList) (i := i) (e := j) (by omega))
            go_wp2_with fail
            go_quiet (fail)
            go_wp2_with fail
            go_quiet (fail)
            go_wp2_with fail
            go_roundg (s.size - j)
            case rel => exact ⟨l ++ piece s.data.toList i j, j, by omega, by rw [List.length_append]; have := piece_len s.data.toList i j; omega, rfl, by go_num, by rw [HPL.out, show j - 1 = k by omega]; exact join4 l s i k _ _ hlt hk (by omega) (by omega), by rw [List.append_assoc, ← HPC.out]; exact HR.out, belowK HB2.out _⟩
            case measure => omega
          · have HPS := Lib.hid (piece_short (l := s.data.toList) (i := i) (e := j) (by omega))
            go_wp2_with fail
            go_quiet (fail)
            go_wp2_with fail
            go_roundg (s.size - j)
            case rel => exact ⟨l ++ piece s.data.toList i j, j, by omega, by rw [List.length_append]; have := piece_len s.data.toList i j; omega, rfl, by go_num, by rw [HPS.out, ← app_ext], by rw [List.append_assoc, ← HPC.out]; exact HR.out, belowK HB2.out _⟩
            case measure => omega
    · have HN := Lib.hid (rTxt_end (l := s.data.toList) (i := i) (by rw [HL.out]; exact hlt))
      go_wp2_with fail
      go_ret
      exact ⟨by rw [← HR.out, HN.out]; simp, HB.out⟩
end Go.Proofs.YtiggdpckjmellaaDoor.kit
