/-
  Contracts of spec.IndexOf and impl.IndexOf over this seat's translation: for every two texts both give one more than the library's index, and 0 of an empty text. Conditions: both texts have at most 1048576 bytes; of impl.IndexOf that the world is shaped as the program's types want it.
-/
import Derived.Test.YtcimhpdpfckgiaaGreatDoorRows
import Derived.Test.YtcimhpdpfckgiaaGreatDoorMxKit
import Derived.Lib.IndexLaws
import Derived.Lib.IndexMore
import Derived.Lib.IndexBytes
import Derived.Test.YtcimhpdpfckgiaaGreatDoorShelf
set_option linter.unusedVariables false
namespace Go.Proofs.YtcimhpdpfckgiaaGreatDoor.kit
open Go.ChangeShapes Go.WideShapes Go.ChangeAt Go.RowKit
def idxOf (s t : ByteArray) : Int := if s.size = 0 then 0 else Lib.index s.data.toList t.data.toList + 1
theorem occ_eq (s t : ByteArray) (k : Nat) (h : k + t.size ≤ s.size) : ((s.extract k (k + t.size)).toList == t.toList) = Lib.occAt s.data.toList t.data.toList k := by
 rw [Bool.eq_iff_iff, beq_iff_eq, Lib.occAt, List.isPrefixOf_iff_prefix, List.prefix_iff_eq_take, ByteArray.toList_eq, ByteArray.toList_eq]
 have e : (s.extract k (k + t.size)).data.toList = (s.data.toList.drop k).take t.data.toList.length := by
  obtain ⟨⟨l⟩⟩ := s
  obtain ⟨⟨m⟩⟩ := t
  rw [show (⟨⟨l⟩⟩ : ByteArray) = ByteArray.mk l.toArray from rfl, ByteArray.extract_mk]
  simp [ByteArray.size]
 rw [e]
 exact eq_comm
theorem idx_hit {s t : ByteArray} {k : Nat} (h : Lib.NoOcc s.data.toList t.data.toList k) (hk : k < s.size) (ho : Lib.occAt s.data.toList t.data.toList k = true) : idxOf s t = (k : Int) + 1 := by
 rw [idxOf, if_neg (by omega), Lib.index_hit h (by simp; omega) ho]
theorem idx_past {s t : ByteArray} {k : Nat} (h : Lib.NoOcc s.data.toList t.data.toList k) (hk : s.size < k + t.size ∨ s.size ≤ k) : idxOf s t = 0 := by
 rw [idxOf]
 split
 · rfl
 · rename_i hz
   have hne : t.data.toList ≠ [] := by
    intro e
    have hs0 : t.size = 0 := by simpa using congrArg List.length e
    have h0 := h 0 (by omega)
    rw [e] at h0
    simp [Lib.occAt] at h0
   have hpos : t.size ≠ 0 := fun e => hne (List.length_eq_zero_iff.1 (by simpa using e))
   have la : s.data.toList.length = s.size := by simp
   have lb : t.data.toList.length = t.size := by simp
   rw [Lib.index_past hne h (by omega)]
   rfl
set_option maxHeartbeats 400000 in
theorem specIdx_any (s t : ByteArray) (w : World) (hs : s.size ≤ 1048576) (ht : t.size ≤ 1048576) :
 Calls Tryz.prog 71 #[.string s, .string t] w fun e w' => e = .returned (.int .i64 (idxOf s t)) ∧ w = w' := by
 go_enter Tryz.func71, Tryz.ntmps71
 go_wp2
 go_loop [5] (fun i => ∃ k : Nat, k ≤ s.size ∧ i = .int .i64 k ∧ Lib.NoOcc s.data.toList t.data.toList k) (fun i => s.size - (intOf i).toNat)
 case atStart => exact ⟨0, Nat.zero_le _, rfl, fun j h => by omega⟩
 case round =>
  obtain ⟨k, hk, rfl, hno⟩ := hrel
  have HN := qd hno; clear hno
  by_cases h1 : k < s.size
  · by_cases h2 : (t.size : Int) ≤ (s.size : Int) - (k : Int)
    · have hsl : ∀ (W : World), (Instr.slice 9 (.string s) (some (.int .i64 (k : Int))) (some (.int .i64 ((k : Int) + t.size))) none).run Tryz.prog W = _ := fun W => run_slice_string W 9 s .i64 .i64 (k : Int) ((k : Int) + t.size) Tryz.underlying9 (by omega) (by omega) (by omega)
      have hoc := occ_eq s t k (by omega)
      have e1 : ((k : Int) + t.size).toNat = k + t.size := by omega
      rw [Int.toNat_natCast, e1] at hsl
      clear e1
      cases a1 : ((s.extract k (k + t.size)).toList == t.toList)
      · rw [a1] at hoc
        have HO := qd (HN.out.succ hoc.symm)
        clear hoc
        go_wp2
        go_round
        case rel => exact ⟨k + 1, by omega, by go_num, HO.out⟩
        case measure => simp [intOf]; omega
      · rw [a1] at hoc
        have HO := qd (idx_hit HN.out h1 hoc.symm)
        clear hoc
        go_wp2
        go_ret
        exact ⟨ret_int HO.out.symm, rfl⟩
    · have HO := qd (idx_past HN.out (.inl (by omega)))
      go_wp2
      go_ret
      exact ⟨ret_int HO.out.symm, rfl⟩
  · have HO := qd (idx_past HN.out (.inr (by omega)))
    go_wp2
    go_ret
    exact ⟨ret_int HO.out.symm, rfl⟩
end Go.Proofs.YtcimhpdpfckgiaaGreatDoor.kit
