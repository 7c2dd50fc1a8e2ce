/-
  Contract of impl.Quote over this seat's translation: for every text of at most 1048576 bytes it gives the quoted text. Conditions: the text's size.
-/
import Derived.Test.YtcimhpdpfckgiaaDoorQb
namespace Go.Proofs.YtcimhpdpfckgiaaDoor.kit
open Go.ChangeShapes Go.WideShapes Go.ChangeAt Go.RowKit
set_option linter.unusedVariables false

set_option maxRecDepth 100000 in
set_option maxHeartbeats 400000 in
theorem implQuote_any (s : ByteArray) (w : World) (hs : s.size ≤ 1048576) :
    Calls Tryd.prog 13 #[.string s] w fun e w' => e = .returned (.string ⟨(qbs s.data.toList ++ [34]).toArray⟩) ∧ Below w.heap.size w w' := by
  have O0 := Lib.hid (Own.lit (e := 5) (w := w) (Nat.le_refl _) [34] [.int .u8 34] rfl 1 rfl (by simp))
  go_enter Tryd.func13, Tryd.ntmps13
  go_wp2
  go_loopw [3, 8] (fun v i wr => ∃ k : Nat, k ≤ s.size ∧ i = .int .i64 k ∧ Own 5 w.heap.size wr v (qbs (s.data.toList.take k)) ∧ Below w.heap.size w wr) (fun _ i _ => s.size - (intOf i).toNat)
  case atStart => exact ⟨0, Nat.zero_le _, rfl, O0.out, (Below.refl _ _).alloc (Nat.le_refl _) _⟩
  case round =>
    obtain ⟨k, hk, rfl, hown, hbel⟩ := hrel
    have HO := Lib.hid hown
    have HB := Lib.hid hbel
    have hz := hbel.size
    have hlen := qbs_len s.data.toList k
    clear hown hbel
    by_cases hlt : k < s.size
    · have HN := Lib.hid (qbs_snoc s k hlt)
      have hq := qb_len s[k]
      go_wp2_with (first
        | (go_at_call 20; refine (quoteByte_any _ _).mono ?_; rintro e w1 ⟨rfl, hb1⟩; have HB1 := Lib.hid hb1; have hz1 := hb1.size; clear hb1)
        | (at_builtin; refine wp_append_text Tryd.underlying35 Tryd.underlying9 Tryd.infoU8 rfl _ _ rfl w.heap.size _ _ rfl (HO.out.kept (B' := 0) HB1.out) (qb s[k]) rfl (by omega) (by omega) ?_; intro v' w3 hown3 hbel3))
      go_roundw
      case rel => exact ⟨k + 1, by omega, by go_num, by rw [HN.out]; exact hown3, (HB.out.trans (HB1.out.mono hz)).trans hbel3⟩
      case measure => simp [intOf]; omega
    · have E := Lib.hid (take_all s k (by omega))
      go_wp2_with (at_builtin; refine wp_append_bytes Tryd.underlying35 Tryd.infoU8 rfl _ _ rfl w.heap.size _ _ rfl (HO.out.alloc _) ⟨wr.heap.size, 0, none⟩ 1 1 [34] rfl rfl (news_one _ 34 _) (by simp; omega) (by simp; omega) ?_; intro v' w3 hown3 hbel3; have hbk := hown3.back (P := Tryd.prog) 35 9 Tryd.underlying35 Tryd.underlying5 Tryd.underlying9; clear hown3)
      go_ret
      exact ⟨ret_str (by rw [E.out]), (HB.out.alloc hz _).trans hbel3⟩

end Go.Proofs.YtcimhpdpfckgiaaDoor.kit
