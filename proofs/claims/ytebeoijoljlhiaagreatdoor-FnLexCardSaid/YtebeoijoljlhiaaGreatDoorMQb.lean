/-
  How a byte is written inside quotes, and the contract of impl.quoteByte: for every byte it gives that text. Conditions: none.
-/
import Derived.Test.YtebeoijoljlhiaaGreatDoorMInfo
import Derived.Lib.AppendStr
import Derived.Deep.RegionLaw
namespace Go.Proofs.YtebeoijoljlhiaaGreatDoor.kit
open Go.ChangeShapes Go.WideShapes Go.ChangeAt Go.RowKit
set_option linter.unusedVariables false

/-- How a byte is written inside quotes. -/
def qb (c : UInt8) : List UInt8 :=
  if c = 34 ∨ c = 92 then [92, c] else if c = 10 then [92, 110] else if c = 9 then [92, 116]
  else if c < 32 ∨ 127 ≤ c then [92, 48 + c / 64, 48 + c / 8 % 8, 48 + c % 8] else [c]
def qbs (l : List UInt8) : List UInt8 := 34 :: l.flatMap qb
theorem qb_len (c : UInt8) : (qb c).length ≤ 4 := by
  unfold qb; repeat' split
  all_goals simp
theorem qb1 {c : UInt8} (h : c.toNat = 34 ∨ c.toNat = 92) : qb c = [92, c] := by
  have e : c = 34 ∨ c = 92 := by simpa [← UInt8.toNat_inj] using h
  simp [qb, e]
theorem qb2 {c : UInt8} (h : c.toNat = 10) : qb c = [92, 110] := by
  obtain rfl : c = 10 := by simpa [← UInt8.toNat_inj] using h
  rfl
theorem qb3 {c : UInt8} (h : c.toNat = 9) : qb c = [92, 116] := by
  obtain rfl : c = 9 := by simpa [← UInt8.toNat_inj] using h
  rfl
theorem qb4 {c : UInt8} (h1 : c.toNat ≠ 34) (h2 : c.toNat ≠ 92) (h3 : c.toNat ≠ 10) (h4 : c.toNat ≠ 9) (h : c.toNat < 32 ∨ 127 ≤ c.toNat) : qb c = [92, 48 + c / 64, 48 + c / 8 % 8, 48 + c % 8] := by
  have e : ¬ (c = 34 ∨ c = 92) := by simp [← UInt8.toNat_inj]; omega
  have e3 : ¬ c = 10 := by simp [← UInt8.toNat_inj]; omega
  have e4 : ¬ c = 9 := by simp [← UInt8.toNat_inj]; omega
  have e5 : c < 32 ∨ 127 ≤ c := by simpa [UInt8.lt_iff_toNat_lt, UInt8.le_iff_toNat_le] using h
  rw [qb, if_neg e, if_neg e3, if_neg e4, if_pos e5]
theorem qb5 {c : UInt8} (h1 : c.toNat ≠ 34) (h2 : c.toNat ≠ 92) (h3 : c.toNat ≠ 10) (h4 : c.toNat ≠ 9) (h : ¬ (c.toNat < 32 ∨ 127 ≤ c.toNat)) : qb c = [c] := by
  have e : ¬ (c = 34 ∨ c = 92) := by simp [← UInt8.toNat_inj]; omega
  have e3 : ¬ c = 10 := by simp [← UInt8.toNat_inj]; omega
  have e4 : ¬ c = 9 := by simp [← UInt8.toNat_inj]; omega
  have e5 : ¬ (c < 32 ∨ 127 ≤ c) := by simpa [UInt8.lt_iff_toNat_lt, UInt8.le_iff_toNat_le] using h
  rw [qb, if_neg e, if_neg e3, if_neg e4, if_neg e5]
theorem cells1 (c : UInt8) : [Value.int .u8 92, .int .u8 (c.toNat : Int)] = cellsOf [92, c] := rfl
theorem cells4 (c : UInt8) : [Value.int .u8 92, .int .u8 (48 + (c.toNat : Int) / 64), .int .u8 (48 + (c.toNat : Int) / 8 % 8), .int .u8 (48 + (c.toNat : Int) % 8)] = cellsOf [92, 48 + c / 64, 48 + c / 8 % 8, 48 + c % 8] := by
  have hc : c.toNat < 256 := c.toNat_lt
  simp only [cellsOf, List.map_cons, List.map_nil, UInt8.toNat_add, UInt8.toNat_div, UInt8.toNat_mod, UInt8.toNat_ofNat, Nat.reducePow, Nat.reduceMod]
  congr 2
  congr 1
  · congr 1; omega
  congr 1
  · congr 1; omega
  congr 1
  congr 1; omega

theorem wrap_u8 {n : Int} (h0 : 0 ≤ n) (h1 : n ≤ 255) : IntKind.u8.wrap n = n := by
  simp only [IntKind.wrap, IntKind.bits, IntKind.signed, Bool.false_and, Bool.false_eq_true, if_false]; omega
theorem cells4w (c : UInt8) : [Value.int .u8 92, .int .u8 (IntKind.u8.wrap (48 + IntKind.u8.wrap ((c.toNat : Int) / 64))), .int .u8 (IntKind.u8.wrap (48 + (IntKind.u8.wrap ((c.toNat : Int) / 8)).tmod 8)), .int .u8 (IntKind.u8.wrap (48 + (c.toNat : Int).tmod 8))] = cellsOf [92, 48 + c / 64, 48 + c / 8 % 8, 48 + c % 8] := by
  have hc : c.toNat < 256 := c.toNat_lt
  rw [wrap_u8 (n := (c.toNat : Int) / 64) (by omega) (by omega), wrap_u8 (n := (c.toNat : Int) / 8) (by omega) (by omega), Int.tmod_eq_emod_of_nonneg (by omega), Int.tmod_eq_emod_of_nonneg (by omega),
    wrap_u8 (by omega) (by omega), wrap_u8 (by omega) (by omega), wrap_u8 (by omega) (by omega)]
  exact cells4 c

set_option maxHeartbeats 400000 in
theorem quoteByte_any (c : UInt8) (w : World) :
    Calls Tryz.prog 136 #[.int .u8 (c.toNat : Int)] w fun e w' => e = .returned (.string ⟨(qb c).toArray⟩) ∧ Below w.heap.size w w' := by
  have hc : c.toNat < 256 := c.toNat_lt
  have b1 := back_lit (P := Tryz.prog) Tryz.underlying22 Tryz.underlying5 Tryz.underlying9 [92, c] _ (cells1 c) 2 2 rfl
  have b4 := back_lit (P := Tryz.prog) Tryz.underlying22 Tryz.underlying5 Tryz.underlying9 [92, 48 + c / 64, 48 + c / 8 % 8, 48 + c % 8] _ (cells4 c) 4 4 rfl
  have b5 := back_lit (P := Tryz.prog) Tryz.underlying22 Tryz.underlying5 Tryz.underlying9 [c] [.int .u8 (c.toNat : Int)] rfl 1 1 rfl
  by_cases h1 : c.toNat = 34
  · rw [qb1 (.inl h1)]
    have e1 : ((c.toNat : Int) == 34) = true := by simp; omega
    clear h1 b4 b5
    go_enter Tryz.func136, Tryz.ntmps136
    go_wp2
    go_ret
    exact ⟨rfl, (Below.refl _ _).alloc (Nat.le_refl _) _⟩
  by_cases h2 : c.toNat = 92
  · rw [qb1 (.inr h2)]
    have e1 : ((c.toNat : Int) == 34) = false := by simp; omega
    have e2 : ((c.toNat : Int) == 92) = true := by simp; omega
    clear h1 h2 b4 b5
    go_enter Tryz.func136, Tryz.ntmps136
    go_wp2
    go_ret
    exact ⟨rfl, (Below.refl _ _).alloc (Nat.le_refl _) _⟩
  have e1 : ((c.toNat : Int) == 34) = false := by simp; omega
  have e2 : ((c.toNat : Int) == 92) = false := by simp; omega
  by_cases h3 : c.toNat = 10
  · rw [qb2 h3]
    have e3 : ((c.toNat : Int) == 10) = true := by simp; omega
    clear h1 h2 h3 b1 b4 b5
    go_enter Tryz.func136, Tryz.ntmps136
    go_wp2
    go_ret
    exact ⟨rfl, Below.refl _ _⟩
  have e3 : ((c.toNat : Int) == 10) = false := by simp; omega
  by_cases h4 : c.toNat = 9
  · rw [qb3 h4]
    have e4 : ((c.toNat : Int) == 9) = true := by simp; omega
    clear h1 h2 h3 h4 b1 b4 b5
    go_enter Tryz.func136, Tryz.ntmps136
    go_wp2
    go_ret
    exact ⟨rfl, Below.refl _ _⟩
  have e4 : ((c.toNat : Int) == 9) = false := by simp; omega
  by_cases h5 : c.toNat < 32
  · rw [qb4 h1 h2 h3 h4 (.inl h5)]
    clear h1 h2 h3 h4 b1 b5
    go_enter Tryz.func136, Tryz.ntmps136
    go_wp2
    go_ret
    exact ⟨rfl, (Below.refl _ _).alloc (Nat.le_refl _) _⟩
  · by_cases h6 : 127 ≤ c.toNat
    · rw [qb4 h1 h2 h3 h4 (.inr h6)]
      clear h1 h2 h3 h4 b1 b5
      go_enter Tryz.func136, Tryz.ntmps136
      go_wp2
      go_ret
      exact ⟨rfl, (Below.refl _ _).alloc (Nat.le_refl _) _⟩
    · rw [qb5 h1 h2 h3 h4 (by omega)]
      clear h1 h2 h3 h4 b1 b4
      go_enter Tryz.func136, Tryz.ntmps136
      go_wp2
      go_ret
      exact ⟨rfl, (Below.refl _ _).alloc (Nat.le_refl _) _⟩

theorem qbs_snoc (s : ByteArray) (k : Nat) (h : k < s.size) : qbs (s.data.toList.take (k + 1)) = qbs (s.data.toList.take k) ++ qb s[k] := by
  simp [qbs, take_snoc s k h]
theorem flat_len (l : List UInt8) : (l.flatMap qb).length ≤ 4 * l.length := by
  induction l with
  | nil => simp
  | cons a l ih => have := qb_len a; simp only [List.flatMap_cons, List.length_append, List.length_cons]; omega
theorem qbs_len (l : List UInt8) (k : Nat) : (qbs (l.take k)).length ≤ 4 * k + 1 := by
  have := flat_len (l.take k)
  have : (l.take k).length ≤ k := List.length_take_le _ _
  simp only [qbs, List.length_cons]; omega

end Go.Proofs.YtebeoijoljlhiaaGreatDoor.kit
/-
  Contract of spec.Quote: for every text of at most 1048576 bytes it gives the quoted text.
-/
namespace Go.Proofs.YtebeoijoljlhiaaGreatDoor.kit
open Go.ChangeShapes Go.WideShapes Go.ChangeAt Go.RowKit
set_option linter.unusedVariables false

set_option maxHeartbeats 1000000 in
set_option maxRecDepth 100000 in
theorem specQuote_any (s : ByteArray) (w : World) (hs : s.size ≤ 1048576) :
    Calls Tryz.prog 81 #[.string s] w fun e w' => e = .returned (.string ⟨(qbs s.data.toList ++ [34]).toArray⟩) ∧ Below w.heap.size w w' := by
  have O0 := Lib.hid (Own.lit (e := 5) (w := w) (Nat.le_refl _) [34] [.int .u8 34] rfl 1 rfl (by simp))
  go_enter Tryz.func81, Tryz.ntmps81
  go_wp2
  go_loopw [3, 4] (fun v i wr => ∃ k : Nat, k ≤ s.size ∧ i = .int .i64 k ∧ Own 5 w.heap.size wr v (qbs (s.data.toList.take k)) ∧ Below w.heap.size w wr) (fun _ i _ => s.size - (intOf i).toNat)
  case atStart => exact ⟨0, Nat.zero_le _, rfl, O0.out, (Below.refl _ _).alloc (Nat.le_refl _) _⟩
  case round =>
    obtain ⟨k, hk, rfl, hown, hbel⟩ := hrel
    have HO := Lib.hid hown
    have HB := Lib.hid hbel
    have hz := hbel.size
    have hlen := qbs_len s.data.toList k
    clear hown hbel
    by_cases hlt : k < s.size
    · have hn := qbs_snoc s k hlt
      have hc : s[k].toNat < 256 := s[k].toNat_lt
      by_cases h1 : s[k].toNat = 34
      · rw [qb1 (.inl h1)] at hn
        have HN := Lib.hid hn
        have e1 : ((s[k].toNat : Int) == 34) = true := by simp; omega
        clear h1 hn
        go_wp2_with (at_builtin; refine wp_append_bytes Tryz.underlying22 Tryz.infoU8 rfl _ _ rfl w.heap.size _ _ rfl (HO.out.alloc _) ⟨wr.heap.size, 0, none⟩ 2 2 [92, s[k]] rfl rfl (news_lit wr 5 [92, s[k]] _ (cells1 _)) (by simp; omega) (by simp; omega) ?_; intro v' w3 hown3 hbel3)
        go_roundw
        case rel => exact ⟨k + 1, by omega, by go_num, by rw [HN.out]; exact hown3, (HB.out.alloc hz _).trans hbel3⟩
        case measure => simp [intOf]; omega
      by_cases h2 : s[k].toNat = 92
      · rw [qb1 (.inr h2)] at hn
        have HN := Lib.hid hn
        have e1 : ((s[k].toNat : Int) == 34) = false := by simp; omega
        have e2 : ((s[k].toNat : Int) == 92) = true := by simp; omega
        clear h1 h2 hn
        go_wp2_with (at_builtin; refine wp_append_bytes Tryz.underlying22 Tryz.infoU8 rfl _ _ rfl w.heap.size _ _ rfl (HO.out.alloc _) ⟨wr.heap.size, 0, none⟩ 2 2 [92, s[k]] rfl rfl (news_lit wr 5 [92, s[k]] _ (cells1 _)) (by simp; omega) (by simp; omega) ?_; intro v' w3 hown3 hbel3)
        go_roundw
        case rel => exact ⟨k + 1, by omega, by go_num, by rw [HN.out]; exact hown3, (HB.out.alloc hz _).trans hbel3⟩
        case measure => simp [intOf]; omega
      have e1 : ((s[k].toNat : Int) == 34) = false := by simp; omega
      have e2 : ((s[k].toNat : Int) == 92) = false := by simp; omega
      by_cases h3 : s[k].toNat = 10
      · rw [qb2 h3] at hn
        have HN := Lib.hid hn
        have e3 : ((s[k].toNat : Int) == 10) = true := by simp; omega
        clear h1 h2 h3 hn
        go_wp2_with (at_builtin; refine wp_append_bytes Tryz.underlying22 Tryz.infoU8 rfl _ _ rfl w.heap.size _ _ rfl (HO.out.alloc _) ⟨wr.heap.size, 0, none⟩ 2 2 [92, 110] rfl rfl (news_lit wr 5 [92, 110] _ (cells1 110)) (by simp; omega) (by simp; omega) ?_; intro v' w3 hown3 hbel3)
        go_roundw
        case rel => exact ⟨k + 1, by omega, by go_num, by rw [HN.out]; exact hown3, (HB.out.alloc hz _).trans hbel3⟩
        case measure => simp [intOf]; omega
      have e3 : ((s[k].toNat : Int) == 10) = false := by simp; omega
      by_cases h4 : s[k].toNat = 9
      · rw [qb3 h4] at hn
        have HN := Lib.hid hn
        have e4 : ((s[k].toNat : Int) == 9) = true := by simp; omega
        clear h1 h2 h3 h4 hn
        go_wp2_with (at_builtin; refine wp_append_bytes Tryz.underlying22 Tryz.infoU8 rfl _ _ rfl w.heap.size _ _ rfl (HO.out.alloc _) ⟨wr.heap.size, 0, none⟩ 2 2 [92, 116] rfl rfl (news_lit wr 5 [92, 116] _ (cells1 116)) (by simp; omega) (by simp; omega) ?_; intro v' w3 hown3 hbel3)
        go_roundw
        case rel => exact ⟨k + 1, by omega, by go_num, by rw [HN.out]; exact hown3, (HB.out.alloc hz _).trans hbel3⟩
        case measure => simp [intOf]; omega
      have e4 : ((s[k].toNat : Int) == 9) = false := by simp; omega
      by_cases h5 : s[k].toNat < 32
      · rw [qb4 h1 h2 h3 h4 (.inl h5)] at hn
        have HN := Lib.hid hn
        clear h1 h2 h3 h4 hn
        have i0 : (0 : Int) ≤ (k : Int) := by omega
        have i1 : (k : Int) < (s.size : Int) := by omega
        go_wp2
        go_region_law ((refine step_append_bytes Tryz.underlying22 Tryz.infoU8 rfl (.tmp 62) (.tmp 79) rfl w.heap.size _ _ (by simp [Act.eval]; rfl) (by exact (HO.out.alloc _).drew) ⟨wr.heap.size, 0, none⟩ 4 4 [92, 48 + s[k] / 64, 48 + s[k] / 8 % 8, 48 + s[k] % 8] rfl (by simp [Act.eval]) (by exact news_lit wr 5 [92, 48 + s[k] / 64, 48 + s[k] / 8 % 8, 48 + s[k] % 8] _ (cells4w _)) (by simp; omega) (by simp; omega) ?_; intro v' w3 hown3 hbel3))
        all_goals
          go_wp2
          go_roundw
          case rel => exact ⟨k + 1, by omega, by go_num, by rw [HN.out]; exact hown3, ((HB.out.alloc hz _).drew).trans hbel3⟩
          case measure => simp [intOf]; omega
      · by_cases h6 : 127 ≤ s[k].toNat
        · rw [qb4 h1 h2 h3 h4 (.inr h6)] at hn
          have HN := Lib.hid hn
          clear h1 h2 h3 h4 hn
          have i0 : (0 : Int) ≤ (k : Int) := by omega
          have i1 : (k : Int) < (s.size : Int) := by omega
          go_wp2
          go_region_law ((refine step_append_bytes Tryz.underlying22 Tryz.infoU8 rfl (.tmp 62) (.tmp 79) rfl w.heap.size _ _ (by simp [Act.eval]; rfl) (by exact (HO.out.alloc _).drew) ⟨wr.heap.size, 0, none⟩ 4 4 [92, 48 + s[k] / 64, 48 + s[k] / 8 % 8, 48 + s[k] % 8] rfl (by simp [Act.eval]) (by exact news_lit wr 5 [92, 48 + s[k] / 64, 48 + s[k] / 8 % 8, 48 + s[k] % 8] _ (cells4w _)) (by simp; omega) (by simp; omega) ?_; intro v' w3 hown3 hbel3))
          all_goals
            go_wp2
            go_roundw
            case rel => exact ⟨k + 1, by omega, by go_num, by rw [HN.out]; exact hown3, ((HB.out.alloc hz _).drew).trans hbel3⟩
            case measure => simp [intOf]; omega
        · rw [qb5 h1 h2 h3 h4 (by omega)] at hn
          have HN := Lib.hid hn
          clear h1 h2 h3 h4 hn
          go_wp2_with (at_builtin; refine wp_append_bytes Tryz.underlying22 Tryz.infoU8 rfl _ _ rfl w.heap.size _ _ rfl (HO.out.alloc _) ⟨wr.heap.size, 0, none⟩ 1 1 [s[k]] rfl rfl (news_lit wr 5 [s[k]] _ rfl) (by simp; omega) (by simp; omega) ?_; intro v' w3 hown3 hbel3)
          go_roundw
          case rel => exact ⟨k + 1, by omega, by go_num, by rw [HN.out]; exact hown3, (HB.out.alloc hz _).trans hbel3⟩
          case measure => simp [intOf]; omega
    · have E := Lib.hid (take_all s k (by omega))
      go_wp2_with (at_builtin; refine wp_append_bytes Tryz.underlying22 Tryz.infoU8 rfl _ _ rfl w.heap.size _ _ rfl (HO.out.alloc _) ⟨wr.heap.size, 0, none⟩ 1 1 [34] rfl rfl (news_one _ 34 _) (by simp; omega) (by simp; omega) ?_; intro v' w3 hown3 hbel3; have hbk := hown3.back (P := Tryz.prog) 22 9 Tryz.underlying22 Tryz.underlying5 Tryz.underlying9; clear hown3)
      go_ret
      exact ⟨ret_str (by rw [E.out]), (HB.out.alloc hz _).trans hbel3⟩
end Go.Proofs.YtebeoijoljlhiaaGreatDoor.kit
