/-
  Contract of spec.Quote: for every text of at most 1048576 bytes it gives the quoted text.
-/
import Derived.Test.YtcimhpdpfckgiaaDoorQb
namespace Go.Proofs.YtcimhpdpfckgiaaDoor.kit
open Go.ChangeShapes Go.WideShapes Go.ChangeAt Go.RowKit
set_option linter.unusedVariables false

set_option maxHeartbeats 1000000 in
set_option maxRecDepth 100000 in
theorem specQuote_any (s : ByteArray) (w : World) (hs : s.size ≤ 1048576) :
    Calls Tryd.prog 10 #[.string s] w fun e w' => e = .returned (.string ⟨(qbs s.data.toList ++ [34]).toArray⟩) ∧ Below w.heap.size w w' := by
  have O0 := Lib.hid (Own.lit (e := 5) (w := w) (Nat.le_refl _) [34] [.int .u8 34] rfl 1 rfl (by simp))
  go_enter Tryd.func10, Tryd.ntmps10
  go_wp2
  go_loopw [3, 4] (fun v i wr => ∃ k : Nat, k ≤ s.size ∧ i = .int .i64 k ∧ Own 5 w.heap.size wr v (qbs (s.data.toList.take k)) ∧ Below w.heap.size w wr) (fun _ i _ => s.size - (intOf i).toNat)
  case atStart => exact ⟨0, Nat.zero_le _, rfl, O0.out, (Below.refl _ _).alloc (Nat.le_refl _) _⟩
  case round =>
    obtain ⟨k, hk, rfl, hown, hbel⟩ := hrel
    have HO := Lib.hid hown
    have HB := Lib.hid hbel
    have hz := hbel.size
    have hlen := qbs_len s.data.toList k
    clear hown hbel
    by_cases hlt : k < s.size
    · have hn := qbs_snoc s k hlt
      have hc : s[k].toNat < 256 := s[k].toNat_lt
      by_cases h1 : s[k].toNat = 34
      · rw [qb1 (.inl h1)] at hn
        have HN := Lib.hid hn
        have e1 : ((s[k].toNat : Int) == 34) = true := by simp; omega
        clear h1 hn
        go_wp2_with (at_builtin; refine wp_append_bytes Tryd.underlying35 Tryd.infoU8 rfl _ _ rfl w.heap.size _ _ rfl (HO.out.alloc _) ⟨wr.heap.size, 0, none⟩ 2 2 [92, s[k]] rfl rfl (news_lit wr 5 [92, s[k]] _ (cells1 _)) (by simp; omega) (by simp; omega) ?_; intro v' w3 hown3 hbel3)
        go_roundw
        case rel => exact ⟨k + 1, by omega, by go_num, by rw [HN.out]; exact hown3, (HB.out.alloc hz _).trans hbel3⟩
        case measure => simp [intOf]; omega
      by_cases h2 : s[k].toNat = 92
      · rw [qb1 (.inr h2)] at hn
        have HN := Lib.hid hn
        have e1 : ((s[k].toNat : Int) == 34) = false := by simp; omega
        have e2 : ((s[k].toNat : Int) == 92) = true := by simp; omega
        clear h1 h2 hn
        go_wp2_with (at_builtin; refine wp_append_bytes Tryd.underlying35 Tryd.infoU8 rfl _ _ rfl w.heap.size _ _ rfl (HO.out.alloc _) ⟨wr.heap.size, 0, none⟩ 2 2 [92, s[k]] rfl rfl (news_lit wr 5 [92, s[k]] _ (cells1 _)) (by simp; omega) (by simp; omega) ?_; intro v' w3 hown3 hbel3)
        go_roundw
        case rel => exact ⟨k + 1, by omega, by go_num, by rw [HN.out]; exact hown3, (HB.out.alloc hz _).trans hbel3⟩
        case measure => simp [intOf]; omega
      have e1 : ((s[k].toNat : Int) == 34) = false := by simp; omega
      have e2 : ((s[k].toNat : Int) == 92) = false := by simp; omega
      by_cases h3 : s[k].toNat = 10
      · rw [qb2 h3] at hn
        have HN := Lib.hid hn
        have e3 : ((s[k].toNat : Int) == 10) = true := by simp; omega
        clear h1 h2 h3 hn
        go_wp2_with (at_builtin; refine wp_append_bytes Tryd.underlying35 Tryd.infoU8 rfl _ _ rfl w.heap.size _ _ rfl (HO.out.alloc _) ⟨wr.heap.size, 0, none⟩ 2 2 [92, 110] rfl rfl (news_lit wr 5 [92, 110] _ (cells1 110)) (by simp; omega) (by simp; omega) ?_; intro v' w3 hown3 hbel3)
        go_roundw
        case rel => exact ⟨k + 1, by omega, by go_num, by rw [HN.out]; exact hown3, (HB.out.alloc hz _).trans hbel3⟩
        case measure => simp [intOf]; omega
      have e3 : ((s[k].toNat : Int) == 10) = false := by simp; omega
      by_cases h4 : s[k].toNat = 9
      · rw [qb3 h4] at hn
        have HN := Lib.hid hn
        have e4 : ((s[k].toNat : Int) == 9) = true := by simp; omega
        clear h1 h2 h3 h4 hn
        go_wp2_with (at_builtin; refine wp_append_bytes Tryd.underlying35 Tryd.infoU8 rfl _ _ rfl w.heap.size _ _ rfl (HO.out.alloc _) ⟨wr.heap.size, 0, none⟩ 2 2 [92, 116] rfl rfl (news_lit wr 5 [92, 116] _ (cells1 116)) (by simp; omega) (by simp; omega) ?_; intro v' w3 hown3 hbel3)
        go_roundw
        case rel => exact ⟨k + 1, by omega, by go_num, by rw [HN.out]; exact hown3, (HB.out.alloc hz _).trans hbel3⟩
        case measure => simp [intOf]; omega
      have e4 : ((s[k].toNat : Int) == 9) = false := by simp; omega
      by_cases h5 : s[k].toNat < 32
      · rw [qb4 h1 h2 h3 h4 (.inl h5)] at hn
        have HN := Lib.hid hn
        clear h1 h2 h3 h4 hn
        have i0 : (0 : Int) ≤ (k : Int) := by omega
        have i1 : (k : Int) < (s.size : Int) := by omega
        go_wp2
        go_region_law ((refine step_append_bytes Tryd.underlying35 Tryd.infoU8 rfl (.tmp 62) (.tmp 79) rfl w.heap.size _ _ (by simp [Act.eval]; rfl) (by exact (HO.out.alloc _).drew) ⟨wr.heap.size, 0, none⟩ 4 4 [92, 48 + s[k] / 64, 48 + s[k] / 8 % 8, 48 + s[k] % 8] rfl (by simp [Act.eval]) (by exact news_lit wr 5 [92, 48 + s[k] / 64, 48 + s[k] / 8 % 8, 48 + s[k] % 8] _ (cells4w _)) (by simp; omega) (by simp; omega) ?_; intro v' w3 hown3 hbel3))
        all_goals
          go_wp2
          go_roundw
          case rel => exact ⟨k + 1, by omega, by go_num, by rw [HN.out]; exact hown3, ((HB.out.alloc hz _).drew).trans hbel3⟩
          case measure => simp [intOf]; omega
      · by_cases h6 : 127 ≤ s[k].toNat
        · rw [qb4 h1 h2 h3 h4 (.inr h6)] at hn
          have HN := Lib.hid hn
          clear h1 h2 h3 h4 hn
          have i0 : (0 : Int) ≤ (k : Int) := by omega
          have i1 : (k : Int) < (s.size : Int) := by omega
          go_wp2
          go_region_law ((refine step_append_bytes Tryd.underlying35 Tryd.infoU8 rfl (.tmp 62) (.tmp 79) rfl w.heap.size _ _ (by simp [Act.eval]; rfl) (by exact (HO.out.alloc _).drew) ⟨wr.heap.size, 0, none⟩ 4 4 [92, 48 + s[k] / 64, 48 + s[k] / 8 % 8, 48 + s[k] % 8] rfl (by simp [Act.eval]) (by exact news_lit wr 5 [92, 48 + s[k] / 64, 48 + s[k] / 8 % 8, 48 + s[k] % 8] _ (cells4w _)) (by simp; omega) (by simp; omega) ?_; intro v' w3 hown3 hbel3))
          all_goals
            go_wp2
            go_roundw
            case rel => exact ⟨k + 1, by omega, by go_num, by rw [HN.out]; exact hown3, ((HB.out.alloc hz _).drew).trans hbel3⟩
            case measure => simp [intOf]; omega
        · rw [qb5 h1 h2 h3 h4 (by omega)] at hn
          have HN := Lib.hid hn
          clear h1 h2 h3 h4 hn
          go_wp2_with (at_builtin; refine wp_append_bytes Tryd.underlying35 Tryd.infoU8 rfl _ _ rfl w.heap.size _ _ rfl (HO.out.alloc _) ⟨wr.heap.size, 0, none⟩ 1 1 [s[k]] rfl rfl (news_lit wr 5 [s[k]] _ rfl) (by simp; omega) (by simp; omega) ?_; intro v' w3 hown3 hbel3)
          go_roundw
          case rel => exact ⟨k + 1, by omega, by go_num, by rw [HN.out]; exact hown3, (HB.out.alloc hz _).trans hbel3⟩
          case measure => simp [intOf]; omega
    · have E := Lib.hid (take_all s k (by omega))
      go_wp2_with (at_builtin; refine wp_append_bytes Tryd.underlying35 Tryd.infoU8 rfl _ _ rfl w.heap.size _ _ rfl (HO.out.alloc _) ⟨wr.heap.size, 0, none⟩ 1 1 [34] rfl rfl (news_one _ 34 _) (by simp; omega) (by simp; omega) ?_; intro v' w3 hown3 hbel3; have hbk := hown3.back (P := Tryd.prog) 35 9 Tryd.underlying35 Tryd.underlying5 Tryd.underlying9; clear hown3)
      go_ret
      exact ⟨ret_str (by rw [E.out]), (HB.out.alloc hz _).trans hbel3⟩
end Go.Proofs.YtcimhpdpfckgiaaDoor.kit
