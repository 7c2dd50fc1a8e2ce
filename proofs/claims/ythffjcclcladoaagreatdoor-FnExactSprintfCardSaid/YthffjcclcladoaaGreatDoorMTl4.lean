/-
  Contract of impl.told at every kind of place over this seat's translation: what it tells is what the place tells. Conditions: the tables are as listed; a text of at most 1048576 bytes.
-/
import Derived.Test.YthffjcclcladoaaGreatDoorMTl2
import Derived.Test.YthffjcclcladoaaGreatDoorMSv0
import Derived.Test.YthffjcclcladoaaGreatDoorMFp6
import Derived.Lib.CountLaws
import Derived.Lib.IndexBytes
namespace Go.Proofs.YthffjcclcladoaaGreatDoor.kit
open Go.ChangeShapes Go.WideShapes Go.ChangeAt Go.RowKit
set_option linter.unusedVariables false

theorem idxC (d : UInt8) : ∀ l : List UInt8, (Lib.indexByte l d = -1 ∧ d ∉ l) ∨ ∃ n : Nat, Lib.indexByte l d = (n : Int) ∧ n < l.length ∧ l = l.take n ++ d :: l.drop (n + 1) ∧ d ∉ l.take n
  | [] => .inl ⟨rfl, by simp⟩
  | c :: l => by
    by_cases h : c = d
    · subst h; exact .inr ⟨0, by simp [Lib.indexByte], by simp, by simp, by simp⟩
    · have hb : (c == d) = false := by simpa using h
      rcases idxC d l with ⟨h1, h2⟩ | ⟨n, h1, h2, h3, h4⟩
      · refine .inl ⟨?_, ?_⟩
        · simp [Lib.indexByte, hb, h1]
        · intro hm; rcases List.mem_cons.1 hm with e | e
          · exact h e.symm
          · exact h2 e
      · refine .inr ⟨n + 1, ?_, by simpa using h2, ?_, ?_⟩
        · rw [Lib.indexByte, hb, h1]
          have : ((n : Int) == -1) = false := beq_eq_false_iff_ne.2 (by omega)
          simp [this]
        · rw [List.take_succ_cons, List.drop_succ_cons, List.cons_append, ← h3]
        · intro hm; rw [List.take_succ_cons] at hm
          rcases List.mem_cons.1 hm with e | e
          · exact h e.symm
          · exact h4 e
theorem filter_no (l : List UInt8) (d : UInt8) (h : d ∉ l) : l.filter (fun c => c != d) = l := List.filter_eq_self.2 (fun c hc => by
  have : c ≠ d := fun e => h (e ▸ hc)
  simpa using this)
theorem repK (d : UInt8) : ∀ (k : Nat) (l : List UInt8), Lib.count l [d] = k → Lib.replaceK [d] [] k l = l.filter (fun c => c != d)
  | 0, l, h => by
    rcases idxC d l with ⟨h1, h2⟩ | ⟨n, h1, h2, h3, h4⟩
    · rw [filter_no l d h2]; rfl
    · have := Lib.count_hit (s := l) (sub := [d]) (i := n) (by simp) (by rw [Lib.index_one, h1])
      omega
  | k + 1, l, h => by
    rcases idxC d l with ⟨h1, h2⟩ | ⟨n, h1, h2, h3, h4⟩
    · have := Lib.count_miss (s := l) (sub := [d]) (by rw [Lib.index_one, h1])
      omega
    · have hi : Lib.index l [d] = n := by rw [Lib.index_one, h1]
      have hc := Lib.count_hit (s := l) (sub := [d]) (i := n) (by simp) hi
      rw [Lib.replaceK_hit [d] [] k l n hi, repK d k (l.drop (n + [d].length)) (by omega)]
      conv => rhs; rw [h3]
      rw [List.filter_append, filter_no _ d h4, List.filter_cons_of_neg (by simp)]
      simp
theorem noZ_eq (fl : ByteArray) : (noZ fl).data.toList = fl.data.toList.filter (fun c => c != 48) := by
  show (Lib.replaceAll fl.data.toList [48] []).toArray.toList = _
  rw [Lib.replaceAll, Lib.replace, if_neg (by decide), Lib.replaceNum, if_pos (.inl (by decide)), repK 48 _ _ rfl]
theorem noZ_45 (fl : ByteArray) : bhas (noZ fl).data.toList 45 = bhas fl.data.toList 45 := by
  rw [noZ_eq, bhas, bhas, Bool.eq_iff_iff]
  simp
theorem noZ_48 (fl : ByteArray) : bhas (noZ fl).data.toList 48 = false := by
  rw [noZ_eq, bhas]
  simp
theorem noZ_le (fl : ByteArray) : (noZ fl).size ≤ fl.size := by
  have e : ∀ s : ByteArray, s.size = s.data.toList.length := fun s => by simp
  rw [e, e, noZ_eq]
  exact List.length_filter_le _ _
theorem rdP_fl {l r : List UInt8} {p : Plc} (h : rdP l = some (p, r)) : p.left = bhas (l.take (flN l)) 45 ∧ p.nought = bhas (l.take (flN l)) 48 := by
  unfold rdP at h
  rw [rdF_eq] at h
  split at h
  · cases h
  · split at h
    · simp only [Option.some.injEq, Prod.mk.injEq] at h
      obtain ⟨rfl, rfl⟩ := h
      exact ⟨by simp [bhas], by simp [bhas]⟩
    · cases h
theorem rdQ_bd (l : List UInt8) : -1 ≤ (rdQ l).2 ∧ (rdQ l).2 ≤ 6 := by
  unfold rdQ
  split
  · split
    · simp only; omega
    · simp
  · simp
theorem rdP_pc {l r : List UInt8} {p : Plc} (h : rdP l = some (p, r)) : -1 ≤ p.prec ∧ p.prec ≤ 6 := by
  unfold rdP at h
  split at h
  · cases h
  · split at h
    · simp only [Option.some.injEq, Prod.mk.injEq] at h
      obtain ⟨rfl, rfl⟩ := h
      exact rdQ_bd _
    · cases h
end Go.Proofs.YthffjcclcladoaaGreatDoor.kit
