/-
  Contract of spec.Cut over this seat's translation: for every text of at most 1048576 bytes and every byte it gives a new slice that owns the parts between these bytes.
-/
import Derived.Test.YtalobgebdpaecaaInfo
import Derived.Test.YtalobgebdpaecaaParts0
namespace Go.Proofs.Ytalobgebdpaecaa.kit
open Go.ChangeShapes Go.WideShapes Go.ChangeAt Go.RowKit
set_option linter.unusedVariables false

theorem Try.infoStr : (Try.prog.info? 9).map (fun i => (i.zero, i.size, i.bytes)) = some (some (.string ⟨#[]⟩), 1, 16) := by kernel_rfl
def isB (b : UInt8) (c : UInt8) : Bool := c.toNat == b.toNat
theorem isB_int (b c : UInt8) : ((c.toNat : Int) == (b.toNat : Int)) = isB b c := by
  rw [Bool.eq_iff_iff]; simp only [isB, beq_iff_eq]; omega
def CutPost (B : Nat) (w : World) (xs : List (List UInt8)) (e : Ending) (w' : World) : Prop := ∃ v, e = .returned v ∧ OwnS 9 B w' v xs ∧ Below B w w'

set_option maxHeartbeats 400000 in
theorem specCut_any (s : ByteArray) (b : UInt8) (w : World) (hs : s.size ≤ 1048576) :
    Calls Try.prog 23 #[.string s, .int .u8 (b.toNat : Int)] w (CutPost w.heap.size w (parts (isB b) s.data.toList)) := by
  go_enter Try.func23, Try.ntmps23
  go_wp2
  go_loopw [5, 6, 7] (fun v f i wr => ∃ k : Nat, k ≤ s.size ∧ i = .int .i64 k ∧ f = .int .i64 ((cs (isB b) s.data.toList k).2 : Int) ∧ OwnS 9 w.heap.size wr v (cs (isB b) s.data.toList k).1 ∧ Below w.heap.size w wr) (fun _ _ i _ => s.size - (intOf i).toNat)
  case atStart => exact ⟨0, Nat.zero_le _, rfl, rfl, ownS_start (Nat.le_refl _), (Below.refl _ _).alloc (Nat.le_refl _) _⟩
  case round =>
    obtain ⟨k, hk, rfl, rfl, hown, hbel⟩ := hrel
    have HO := Lib.hid hown
    have HB := Lib.hid hbel
    have hz := hbel.size
    have hbd := cs_bd (isB b) s.data.toList k
    obtain ⟨hbd1, hbd2⟩ := hbd
    clear hown hbel
    by_cases hlt : k < s.size
    · have hga := getD_at s k hlt
      cases a1 : isB b (s.data.toList.getD k 0)
      · have HN := Lib.hid (cs_no (l := s.data.toList) (k := k) a1)
        have e1 : (((s.data.toList.getD k 0).toNat : Int) == (b.toNat : Int)) = false := (isB_int _ _).trans a1
        generalize s.data.toList.getD k 0 = c at *
        generalize (cs (isB b) s.data.toList k) = x at *
        go_wp2
        go_roundw
        case rel => exact ⟨k + 1, by omega, by go_num, by rw [HN.out], by rw [HN.out]; exact HO.out, HB.out⟩
        case measure => simp [intOf]; omega
      · have HN := Lib.hid (cs_yes (l := s.data.toList) (k := k) a1)
        have e1 : (((s.data.toList.getD k 0).toNat : Int) == (b.toNat : Int)) = true := (isB_int _ _).trans a1
        generalize s.data.toList.getD k 0 = c at *
        generalize (cs (isB b) s.data.toList k) = x at *
        obtain ⟨xs, f⟩ := x
        simp only at *
        have hsl : ∀ (W : World), (Instr.slice 9 (.string s) (some (.int .i64 (f : Int))) (some (.int .i64 (k : Int))) none).run Try.prog W = .ok (eS ((s.data.toList.take k).drop f)) W := by
          intro W
          rw [run_slice_string W _ s .i64 .i64 _ _ Try.underlying9 (by omega) (by omega) (by omega), Int.toNat_natCast, Int.toNat_natCast, extract_drop]; rfl
        generalize (s.data.toList.take k).drop f = new at *
        unfold eS at hsl
        go_wp2_with (at_builtin; refine wp_append_str1 Try.underlying25 Try.infoStr rfl _ _ rfl w.heap.size _ _ rfl (HO.out.alloc _) ⟨wr.heap.size, 0, none⟩ 1 new rfl (cell_one _ _ _) (by omega) (by simp; omega) ?_; intro v' w3 hown3 hbel3)
        go_roundw
        case rel => exact ⟨k + 1, by omega, by go_num, by rw [HN.out]; go_num, by rw [HN.out]; exact hown3, (HB.out.alloc hz _).trans hbel3⟩
        case measure => simp [intOf]; omega
    · obtain rfl : k = s.size := by omega
      have hlen : s.data.toList.length = s.size := by simp
      have HN : Hid (parts (isB b) s.data.toList = (cs (isB b) s.data.toList s.size).1 ++ [s.data.toList.drop (cs (isB b) s.data.toList s.size).2]) := Lib.hid (by rw [parts, hlen])
      generalize (cs (isB b) s.data.toList s.size) = x at *
      clear hlen
      obtain ⟨xs, f⟩ := x
      simp only at *
      have hsl : ∀ (W : World), (Instr.slice 9 (.string s) (some (.int .i64 (f : Int))) none none).run Try.prog W = .ok (eS (s.data.toList.drop f)) W := by
        intro W
        rw [run_slice_string_from_if W _ s .i64 _ Try.underlying9, if_pos ⟨by omega, by omega⟩, Int.toNat_natCast, extract_drop, List.take_of_length_le (by simp)]; rfl
      generalize s.data.toList.drop f = new at *
      unfold eS at hsl
      go_wp2_with (at_builtin; refine wp_append_str1 Try.underlying25 Try.infoStr rfl _ _ rfl w.heap.size _ _ rfl (HO.out.alloc _) ⟨wr.heap.size, 0, none⟩ 1 new rfl (cell_one _ _ _) (by omega) (by simp; omega) ?_; intro v' w3 hown3 hbel3)
      go_ret
      exact ⟨v', rfl, by rw [HN.out]; exact hown3, (HB.out.alloc hz _).trans hbel3⟩
end Go.Proofs.Ytalobgebdpaecaa.kit
