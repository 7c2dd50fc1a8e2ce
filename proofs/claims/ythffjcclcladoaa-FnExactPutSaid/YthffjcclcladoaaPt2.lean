/-
  Contracts of spec.Put and impl.readRepl over this seat's translation. Conditions: texts of at most 1048576 bytes.
-/
import Derived.Test.YthffjcclcladoaaPt1
namespace Go.Proofs.Ythffjcclcladoaa.kit
open Go.ChangeShapes Go.WideShapes Go.ChangeAt Go.RowKit
set_option linter.unusedVariables false

theorem drop_consP (s : ByteArray) (k : Nat) (h : k < s.size) : s.data.toList.drop k = s[k] :: s.data.toList.drop (k + 1) := by
  rw [List.drop_eq_getElem_cons (by simpa using h)]; rfl
theorem drop_allP (s : ByteArray) : s.data.toList.drop s.size = [] := List.drop_of_length_le (by simp)
theorem app_sP (out : List UInt8) (f : ByteArray) : (⟨out.toArray⟩ : ByteArray) ++ f = ⟨(out ++ f.data.toList).toArray⟩ := by
  apply ByteArray.ext; simp
theorem bszP (l : List UInt8) : (ByteArray.mk l.toArray).size = l.length := by simp [ByteArray.size]
theorem rsB_no {c : UInt8} (h : rsB c = false) : c.toNat ≠ 38 ∧ c.toNat ≠ 92 := by
  simp [rsB] at h; exact h
theorem ofNat38 {c : UInt8} (h : c.toNat = 38) : c = 38 := UInt8.toNat_inj.1 h
theorem ofNat92 {c : UInt8} (h : c.toNat = 92) : c = 92 := UInt8.toNat_inj.1 h

set_option maxRecDepth 100000 in
set_option maxHeartbeats 2000000 in
theorem specPut_any (s f : ByteArray) (w : World) (hs : s.size ≤ 1048576) (hf : f.size ≤ 1048576) :
    Calls Try.prog 5 #[.string s, .string f] w fun e w' => e = .returned (.string ⟨(putL f.data.toList s.data.toList).toArray⟩) ∧ w = w' := by
  go_enter Try.func5, Try.ntmps5
  go_wp2
  go_loop [5, 6] (fun o i => ∃ (k : Nat) (out : List UInt8), k ≤ s.size ∧ out.length ≤ k * 1048577 ∧ i = .int .i64 k ∧ o = .string ⟨out.toArray⟩ ∧ out ++ putL f.data.toList (s.data.toList.drop k) = putL f.data.toList s.data.toList) (fun _ i => s.size - (intOf i).toNat)
  case atStart => exact ⟨0, [], Nat.zero_le _, by simp, rfl, rfl, by simp⟩
  case round =>
    obtain ⟨k, out, hk, hlen, rfl, rfl, hrec⟩ := hrel
    have hbz := bszP out
    have HR := Lib.hid hrec
    clear hrec
    by_cases hlt : k < s.size
    · have hd := drop_consP s k hlt
      by_cases h1 : s[k].toNat = 38
      · have e1 : ((s[k].toNat : Int) == 38) = true := by simp; omega
        have HN := Lib.hid (show (out ++ f.data.toList) ++ putL f.data.toList (s.data.toList.drop (k + 1)) = putL f.data.toList s.data.toList by
          rw [← HR.out, hd, ofNat38 h1, putL_amp, List.append_assoc])
        have hl2 : (out ++ f.data.toList).length ≤ (k + 1) * 1048577 := by rw [List.length_append]; simp; omega
        have HL2 := Lib.hid hl2
        clear h1 hd hl2
        go_wp2
        go_round
        case rel => exact ⟨k + 1, out ++ f.data.toList, by omega, HL2.out, by go_num, by rw [app_sP], HN.out⟩
        case measure => simp [intOf]; omega
      · have e1 : ((s[k].toNat : Int) == 38) = false := by simp; omega
        have hone : ∀ (hno : s[k].toNat = 92 → ∀ d u, s.data.toList.drop (k + 1) = d :: u → rsB d = false), (out ++ [s[k]]) ++ putL f.data.toList (s.data.toList.drop (k + 1)) = putL f.data.toList s.data.toList := fun hno => by
          rw [← HR.out, hd, putL_one _ _ _ (fun e => h1 (by rw [e]; rfl)) (fun e => hno (by rw [e]; rfl))]; simp
        have HL2 := Lib.hid (show (out ++ [s[k]]).length ≤ (k + 1) * 1048577 by simp; omega)
        have hsl : ∀ (W : World), (Instr.slice 9 (.string s) (some (.int .i64 (k : Int))) (some (.int .i64 ((k : Int) + 1))) none).run Try.prog W = .ok (.string ⟨[s[k]].toArray⟩) W := by
          intro W
          rw [run_slice_string W _ s .i64 .i64 _ _ Try.underlying9 (by omega) (by omega) (by omega), Int.toNat_natCast, show ((k : Int) + 1).toNat = k + 1 by omega, ext_oneE s k hlt]
        by_cases h2 : s[k].toNat = 92
        · have e2 : ((s[k].toNat : Int) == 92) = true := by simp; omega
          by_cases h3 : k + 1 < s.size
          · have hd2 := drop_consP s (k + 1) h3
            have e3 : decide (k + 1 < s.size) = true := by simp; exact h3
            by_cases hr : rsB s[k + 1] = true
            · have HN := Lib.hid (show (out ++ [s[k + 1]]) ++ putL f.data.toList (s.data.toList.drop (k + 2)) = putL f.data.toList s.data.toList by
                rw [← HR.out, hd, hd2, ofNat92 h2, putL_esc _ _ _ hr]; simp)
              have HL3 := Lib.hid (show (out ++ [s[k + 1]]).length ≤ (k + 2) * 1048577 by simp; omega)
              have hsl2 : ∀ (W : World), (Instr.slice 9 (.string s) (some (.int .i64 ((k : Int) + 1))) (some (.int .i64 ((k : Int) + 2))) none).run Try.prog W = .ok (.string ⟨[s[k + 1]].toArray⟩) W := by
                intro W
                rw [run_slice_string W _ s .i64 .i64 _ _ Try.underlying9 (by omega) (by omega) (by omega), show ((k : Int) + 1).toNat = k + 1 by omega, show ((k : Int) + 2).toNat = k + 1 + 1 by omega, ext_oneE s (k + 1) h3]
              clear hsl hone hd hd2 h1 h2
              by_cases h4 : s[k + 1].toNat = 38
              · have e4 : ((s[k + 1].toNat : Int) == 38) = true := by simp; omega
                clear h4 hr
                go_wp2
                go_round
                case rel => exact ⟨k + 2, out ++ [s[k + 1]], by omega, HL3.out, by go_num, by rw [app_litE], HN.out⟩
                case measure => simp [intOf]; omega
              · have e4 : ((s[k + 1].toNat : Int) == 38) = false := by simp; omega
                have e5 : ((s[k + 1].toNat : Int) == 92) = true := by simp [rsB, h4] at hr; simp; omega
                clear h4 hr
                go_wp2
                go_round
                case rel => exact ⟨k + 2, out ++ [s[k + 1]], by omega, HL3.out, by go_num, by rw [app_litE], HN.out⟩
                case measure => simp [intOf]; omega
            · have hr : rsB s[k + 1] = false := by simpa using hr
              have HN := Lib.hid (hone (fun _ d u e => by rw [hd2] at e; injection e with e _; rw [← e]; exact hr))
              have hn := rsB_no hr
              have e4 : ((s[k + 1].toNat : Int) == 38) = false := by simp; omega
              have e5 : ((s[k + 1].toNat : Int) == 92) = false := by simp; omega
              clear hone hd hd2 h1 h2 hr hn
              go_wp2
              go_round
              case rel => exact ⟨k + 1, out ++ [s[k]], by omega, HL2.out, by go_num, by rw [app_litE], HN.out⟩
              case measure => simp [intOf]; omega
          · have HN := Lib.hid (hone (fun _ d u e => by rw [List.drop_of_length_le (by simp; omega)] at e; cases e))
            have e3 : decide (k + 1 < s.size) = false := by simp; omega
            clear hone hd h1 h2
            go_wp2
            go_round
            case rel => exact ⟨k + 1, out ++ [s[k]], by omega, HL2.out, by go_num, by rw [app_litE], HN.out⟩
            case measure => simp [intOf]; omega
        · have e2 : ((s[k].toNat : Int) == 92) = false := by simp; omega
          have HN := Lib.hid (hone (fun e => absurd e h2))
          clear hone hd h1 h2
          go_wp2
          go_round
          case rel => exact ⟨k + 1, out ++ [s[k]], by omega, HL2.out, by go_num, by rw [app_litE], HN.out⟩
          case measure => simp [intOf]; omega
    · obtain rfl : k = s.size := by omega
      have HN := Lib.hid (show out = putL f.data.toList s.data.toList by rw [← HR.out, drop_allP]; simp [putL])
      go_wp2
      go_ret
      exact ⟨ret_str (by rw [HN.out]), rfl⟩
end Go.Proofs.Ythffjcclcladoaa.kit
