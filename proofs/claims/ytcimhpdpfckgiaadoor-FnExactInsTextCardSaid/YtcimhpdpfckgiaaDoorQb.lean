/-
  How a byte is written inside quotes, and the contract of impl.quoteByte: for every byte it gives that text. Conditions: none.
-/
import Derived.Test.YtcimhpdpfckgiaaDoorInfo
import Derived.Lib.AppendStr
import Derived.Deep.RegionLaw
namespace Go.Proofs.YtcimhpdpfckgiaaDoor.kit
open Go.ChangeShapes Go.WideShapes Go.ChangeAt Go.RowKit
set_option linter.unusedVariables false

/-- How a byte is written inside quotes. -/
def qb (c : UInt8) : List UInt8 :=
  if c = 34 ∨ c = 92 then [92, c] else if c = 10 then [92, 110] else if c = 9 then [92, 116]
  else if c < 32 ∨ 127 ≤ c then [92, 48 + c / 64, 48 + c / 8 % 8, 48 + c % 8] else [c]
def qbs (l : List UInt8) : List UInt8 := 34 :: l.flatMap qb
theorem qb_len (c : UInt8) : (qb c).length ≤ 4 := by
  unfold qb; repeat' split
  all_goals simp
theorem qb1 {c : UInt8} (h : c.toNat = 34 ∨ c.toNat = 92) : qb c = [92, c] := by
  have e : c = 34 ∨ c = 92 := by simpa [← UInt8.toNat_inj] using h
  simp [qb, e]
theorem qb2 {c : UInt8} (h : c.toNat = 10) : qb c = [92, 110] := by
  obtain rfl : c = 10 := by simpa [← UInt8.toNat_inj] using h
  rfl
theorem qb3 {c : UInt8} (h : c.toNat = 9) : qb c = [92, 116] := by
  obtain rfl : c = 9 := by simpa [← UInt8.toNat_inj] using h
  rfl
theorem qb4 {c : UInt8} (h1 : c.toNat ≠ 34) (h2 : c.toNat ≠ 92) (h3 : c.toNat ≠ 10) (h4 : c.toNat ≠ 9) (h : c.toNat < 32 ∨ 127 ≤ c.toNat) : qb c = [92, 48 + c / 64, 48 + c / 8 % 8, 48 + c % 8] := by
  have e : ¬ (c = 34 ∨ c = 92) := by simp [← UInt8.toNat_inj]; omega
  have e3 : ¬ c = 10 := by simp [← UInt8.toNat_inj]; omega
  have e4 : ¬ c = 9 := by simp [← UInt8.toNat_inj]; omega
  have e5 : c < 32 ∨ 127 ≤ c := by simpa [UInt8.lt_iff_toNat_lt, UInt8.le_iff_toNat_le] using h
  rw [qb, if_neg e, if_neg e3, if_neg e4, if_pos e5]
theorem qb5 {c : UInt8} (h1 : c.toNat ≠ 34) (h2 : c.toNat ≠ 92) (h3 : c.toNat ≠ 10) (h4 : c.toNat ≠ 9) (h : ¬ (c.toNat < 32 ∨ 127 ≤ c.toNat)) : qb c = [c] := by
  have e : ¬ (c = 34 ∨ c = 92) := by simp [← UInt8.toNat_inj]; omega
  have e3 : ¬ c = 10 := by simp [← UInt8.toNat_inj]; omega
  have e4 : ¬ c = 9 := by simp [← UInt8.toNat_inj]; omega
  have e5 : ¬ (c < 32 ∨ 127 ≤ c) := by simpa [UInt8.lt_iff_toNat_lt, UInt8.le_iff_toNat_le] using h
  rw [qb, if_neg e, if_neg e3, if_neg e4, if_neg e5]
theorem cells1 (c : UInt8) : [Value.int .u8 92, .int .u8 (c.toNat : Int)] = cellsOf [92, c] := rfl
theorem cells4 (c : UInt8) : [Value.int .u8 92, .int .u8 (48 + (c.toNat : Int) / 64), .int .u8 (48 + (c.toNat : Int) / 8 % 8), .int .u8 (48 + (c.toNat : Int) % 8)] = cellsOf [92, 48 + c / 64, 48 + c / 8 % 8, 48 + c % 8] := by
  have hc : c.toNat < 256 := c.toNat_lt
  simp only [cellsOf, List.map_cons, List.map_nil, UInt8.toNat_add, UInt8.toNat_div, UInt8.toNat_mod, UInt8.toNat_ofNat, Nat.reducePow, Nat.reduceMod]
  congr 2
  congr 1
  · congr 1; omega
  congr 1
  · congr 1; omega
  congr 1
  congr 1; omega

theorem wrap_u8 {n : Int} (h0 : 0 ≤ n) (h1 : n ≤ 255) : IntKind.u8.wrap n = n := by
  simp only [IntKind.wrap, IntKind.bits, IntKind.signed, Bool.false_and, Bool.false_eq_true, if_false]; omega
theorem cells4w (c : UInt8) : [Value.int .u8 92, .int .u8 (IntKind.u8.wrap (48 + IntKind.u8.wrap ((c.toNat : Int) / 64))), .int .u8 (IntKind.u8.wrap (48 + (IntKind.u8.wrap ((c.toNat : Int) / 8)).tmod 8)), .int .u8 (IntKind.u8.wrap (48 + (c.toNat : Int).tmod 8))] = cellsOf [92, 48 + c / 64, 48 + c / 8 % 8, 48 + c % 8] := by
  have hc : c.toNat < 256 := c.toNat_lt
  rw [wrap_u8 (n := (c.toNat : Int) / 64) (by omega) (by omega), wrap_u8 (n := (c.toNat : Int) / 8) (by omega) (by omega), Int.tmod_eq_emod_of_nonneg (by omega), Int.tmod_eq_emod_of_nonneg (by omega),
    wrap_u8 (by omega) (by omega), wrap_u8 (by omega) (by omega), wrap_u8 (by omega) (by omega)]
  exact cells4 c

set_option maxHeartbeats 400000 in
theorem quoteByte_any (c : UInt8) (w : World) :
    Calls Tryd.prog 20 #[.int .u8 (c.toNat : Int)] w fun e w' => e = .returned (.string ⟨(qb c).toArray⟩) ∧ Below w.heap.size w w' := by
  have hc : c.toNat < 256 := c.toNat_lt
  have b1 := back_lit (P := Tryd.prog) Tryd.underlying35 Tryd.underlying5 Tryd.underlying9 [92, c] _ (cells1 c) 2 2 rfl
  have b4 := back_lit (P := Tryd.prog) Tryd.underlying35 Tryd.underlying5 Tryd.underlying9 [92, 48 + c / 64, 48 + c / 8 % 8, 48 + c % 8] _ (cells4 c) 4 4 rfl
  have b5 := back_lit (P := Tryd.prog) Tryd.underlying35 Tryd.underlying5 Tryd.underlying9 [c] [.int .u8 (c.toNat : Int)] rfl 1 1 rfl
  by_cases h1 : c.toNat = 34
  · rw [qb1 (.inl h1)]
    have e1 : ((c.toNat : Int) == 34) = true := by simp; omega
    clear h1 b4 b5
    go_enter Tryd.func20, Tryd.ntmps20
    go_wp2
    go_ret
    exact ⟨rfl, (Below.refl _ _).alloc (Nat.le_refl _) _⟩
  by_cases h2 : c.toNat = 92
  · rw [qb1 (.inr h2)]
    have e1 : ((c.toNat : Int) == 34) = false := by simp; omega
    have e2 : ((c.toNat : Int) == 92) = true := by simp; omega
    clear h1 h2 b4 b5
    go_enter Tryd.func20, Tryd.ntmps20
    go_wp2
    go_ret
    exact ⟨rfl, (Below.refl _ _).alloc (Nat.le_refl _) _⟩
  have e1 : ((c.toNat : Int) == 34) = false := by simp; omega
  have e2 : ((c.toNat : Int) == 92) = false := by simp; omega
  by_cases h3 : c.toNat = 10
  · rw [qb2 h3]
    have e3 : ((c.toNat : Int) == 10) = true := by simp; omega
    clear h1 h2 h3 b1 b4 b5
    go_enter Tryd.func20, Tryd.ntmps20
    go_wp2
    go_ret
    exact ⟨rfl, Below.refl _ _⟩
  have e3 : ((c.toNat : Int) == 10) = false := by simp; omega
  by_cases h4 : c.toNat = 9
  · rw [qb3 h4]
    have e4 : ((c.toNat : Int) == 9) = true := by simp; omega
    clear h1 h2 h3 h4 b1 b4 b5
    go_enter Tryd.func20, Tryd.ntmps20
    go_wp2
    go_ret
    exact ⟨rfl, Below.refl _ _⟩
  have e4 : ((c.toNat : Int) == 9) = false := by simp; omega
  by_cases h5 : c.toNat < 32
  · rw [qb4 h1 h2 h3 h4 (.inl h5)]
    clear h1 h2 h3 h4 b1 b5
    go_enter Tryd.func20, Tryd.ntmps20
    go_wp2
    go_ret
    exact ⟨rfl, (Below.refl _ _).alloc (Nat.le_refl _) _⟩
  · by_cases h6 : 127 ≤ c.toNat
    · rw [qb4 h1 h2 h3 h4 (.inr h6)]
      clear h1 h2 h3 h4 b1 b5
      go_enter Tryd.func20, Tryd.ntmps20
      go_wp2
      go_ret
      exact ⟨rfl, (Below.refl _ _).alloc (Nat.le_refl _) _⟩
    · rw [qb5 h1 h2 h3 h4 (by omega)]
      clear h1 h2 h3 h4 b1 b4
      go_enter Tryd.func20, Tryd.ntmps20
      go_wp2
      go_ret
      exact ⟨rfl, (Below.refl _ _).alloc (Nat.le_refl _) _⟩

theorem qbs_snoc (s : ByteArray) (k : Nat) (h : k < s.size) : qbs (s.data.toList.take (k + 1)) = qbs (s.data.toList.take k) ++ qb s[k] := by
  simp [qbs, take_snoc s k h]
theorem flat_len (l : List UInt8) : (l.flatMap qb).length ≤ 4 * l.length := by
  induction l with
  | nil => simp
  | cons a l ih => have := qb_len a; simp only [List.flatMap_cons, List.length_append, List.length_cons]; omega
theorem qbs_len (l : List UInt8) (k : Nat) : (qbs (l.take k)).length ≤ 4 * k + 1 := by
  have := flat_len (l.take k)
  have : (l.take k).length ≤ k := List.length_take_le _ _
  simp only [qbs, List.length_cons]; omega

end Go.Proofs.YtcimhpdpfckgiaaDoor.kit
