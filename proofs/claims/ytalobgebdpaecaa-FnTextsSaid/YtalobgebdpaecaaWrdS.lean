/-
  Contract of spec.Words over this seat's translation: for every text of at most 1048576 bytes it gives a new slice that owns its words.
-/
import Derived.Test.YtalobgebdpaecaaCutS
import Derived.Test.YtalobgebdpaecaaWrd0
namespace Go.Proofs.Ytalobgebdpaecaa.kit
open Go.ChangeShapes Go.WideShapes Go.ChangeAt Go.RowKit
set_option linter.unusedVariables false

theorem blank_any (c : UInt8) (w : World) :
    Calls Try.prog 52 #[.int .u8 (c.toNat : Int)] w fun e w' => e = .returned (.bool (blankB c)) ∧ w = w' := by
  have hc : c.toNat < 256 := c.toNat_lt
  by_cases h1 : c.toNat = 32
  · have E := Lib.hid (show blankB c = true by simp [blankB, h1])
    have e1 : ((c.toNat : Int) == 32) = true := by simp; omega
    clear h1
    go_enter Try.func52, Try.ntmps52
    go_wp2
    go_ret
    exact ⟨ret_bool E.out.symm, rfl⟩
  · have E := Lib.hid (show blankB c = ((c.toNat : Int) == 9) by rw [Bool.eq_iff_iff]; simp [blankB, h1]; omega)
    have e1 : ((c.toNat : Int) == 32) = false := by simp; omega
    clear h1
    go_enter Try.func52, Try.ntmps52
    go_wp2
    go_ret
    exact ⟨ret_bool E.out.symm, rfl⟩

def gat (s : ByteArray) (k : Nat) : UInt8 := s.data.toList.getD k 0
theorem gat_eq (s : ByteArray) (k : Nat) (h : k < s.size) : s[k] = gat s k := getD_at s k h
theorem drop_gat (s : ByteArray) (j : Nat) (h : j < s.size) : s.data.toList.drop j = gat s j :: s.data.toList.drop (j + 1) := by
  have hl : j < s.data.toList.length := by simpa using h
  rw [List.drop_eq_getElem_cons hl]
  congr 1
  rw [gat, List.getD_eq_getElem?_getD, List.getElem?_eq_getElem hl]; rfl
/-- The bytes from i on ahead of e are no blanks. -/
def RunTo (s : ByteArray) (i e : Nat) : Prop := ∀ j, i ≤ j → j < e → blankB (gat s j) = false
theorem run_mem {s : ByteArray} {i e : Nat} (h : RunTo s i e) (he : e ≤ s.size) : ∀ c ∈ (s.data.toList.take e).drop i, blankB c = false := by
  intro c hc
  obtain ⟨j, hj, rfl⟩ := List.getElem_of_mem hc
  have hj2 : i + j < e := by simp at hj; omega
  have := h (i + j) (by omega) hj2
  rw [List.getElem_drop, List.getElem_take]
  rw [gat, List.getD_eq_getElem?_getD, List.getElem?_eq_getElem (by simp; omega)] at this
  exact this
theorem words_run {s : ByteArray} {i e : Nat} (h : RunTo s i e) (hi : i < e) (he : e ≤ s.size) (hend : e = s.size ∨ (e < s.size ∧ blankB (gat s e) = true)) :
    wordsOf (s.data.toList.drop i) = (s.data.toList.take e).drop i :: wordsOf (s.data.toList.drop e) := by
  have hsplit : s.data.toList.drop i = (s.data.toList.take e).drop i ++ s.data.toList.drop e := by
    conv => lhs; rw [← List.take_append_drop e s.data.toList]
    rw [List.drop_append_of_le_length (by simp; omega)]
  rw [hsplit]
  refine wordsOf_run _ _ ?_ (run_mem h he) ?_
  · intro g
    have := congrArg List.length g
    simp at this; omega
  · rcases hend with rfl | ⟨h1, h2⟩
    · left; exact List.drop_eq_nil_of_le (by simp)
    · right; exact ⟨_, _, drop_gat s e h1, h2⟩

set_option maxHeartbeats 1000000 in
theorem specWords_any (s : ByteArray) (w : World) (hs : s.size ≤ 1048576) :
    Calls Try.prog 22 #[.string s] w (CutPost w.heap.size w (wordsOf s.data.toList)) := by
  go_enter Try.func22, Try.ntmps22
  go_wp2
  go_loopw [3, 4] (fun v i wr => ∃ (k : Nat) (xs : List (List UInt8)), k ≤ s.size ∧ xs.length ≤ k ∧ i = .int .i64 (k : Int) ∧ wordsOf s.data.toList = xs ++ wordsOf (s.data.toList.drop k) ∧ OwnS 9 w.heap.size wr v xs ∧ Below w.heap.size w wr) (fun _ i _ => s.size - (intOf i).toNat)
  case atStart => exact ⟨0, [], Nat.zero_le _, by simp, rfl, by simp, ownS_start (Nat.le_refl _), (Below.refl _ _).alloc (Nat.le_refl _) _⟩
  case round =>
    obtain ⟨k, xs, hk, hxl, rfl, heq, hown, hbel⟩ := hrel
    have HE := Lib.hid heq
    have HO := Lib.hid hown
    have HB := Lib.hid hbel
    have hz := hbel.size
    clear heq hown hbel
    by_cases hlt : k < s.size
    · have hga := gat_eq s k hlt
      have hd := Lib.hid (drop_gat s k hlt)
      cases a1 : blankB (gat s k)
      · have HR : Hid (RunTo s k (k + 1)) := Lib.hid (fun j h1 h2 => by obtain rfl : j = k := by omega
                                                                        exact a1)
        generalize hcc : gat s k = c at *
        clear hcc
        go_wp2_with (go_at_call 52; refine (blank_any _ _).mono ?_; rintro e w' ⟨rfl, rfl⟩)
        obtain ⟨wo, rfl⟩ : ∃ wo : World, wo = wr := ⟨_, rfl⟩
        go_loop [5] (fun e => ∃ m : Nat, k ≤ m ∧ m ≤ s.size ∧ e = .int .i64 (m : Int) ∧ RunTo s k m) (fun e => s.size - (intOf e).toNat)
        case atStart => exact ⟨k, Nat.le_refl _, hk, rfl, fun j h1 h2 => by omega⟩
        case round =>
          obtain ⟨m, hkm, hms, rfl, hrun⟩ := hrel
          have HM := Lib.hid hrun; clear hrun
          have fin : ∀ (hkm2 : k < m) (hend : m = s.size ∨ (m < s.size ∧ blankB (gat s m) = true)), Hid (wordsOf s.data.toList = (xs ++ [(s.data.toList.take m).drop k]) ++ wordsOf (s.data.toList.drop m)) := fun hkm2 hend => Lib.hid (by
            rw [HE.out, words_run HM.out hkm2 hms hend]; simp)
          have FIN := Lib.hid fin
          clear fin
          by_cases hml : m < s.size
          · have hgm := gat_eq s m hml
            cases a2 : blankB (gat s m)
            · have HM2 : Hid (RunTo s k (m + 1)) := Lib.hid (fun j h1 h2 => by
                by_cases e : j = m
                · subst e; exact a2
                · exact HM.out j h1 (by omega))
              generalize gat s m = cm at *
              go_wp2_with (go_at_call 52; refine (blank_any _ _).mono ?_; rintro e w' ⟨rfl, rfl⟩)
              go_round
              case rel => exact ⟨m + 1, by omega, by omega, by go_num, HM2.out⟩
              case measure => simp [intOf]; omega
            · have hkm2 : k < m := by
                rcases Nat.lt_or_ge k m with h | h
                · exact h
                · have : m = k := by omega
                  subst this
                  have := HR.out m (Nat.le_refl _) (by omega)
                  rw [a2] at this; cases this
              have HF := FIN.out hkm2 (.inr ⟨hml, a2⟩)
              have hsl : ∀ (W : World), (Instr.slice 9 (.string s) (some (.int .i64 (k : Int))) (some (.int .i64 (m : Int))) none).run Try.prog W = .ok (eS ((s.data.toList.take m).drop k)) W := by
                intro W
                rw [run_slice_string W _ s .i64 .i64 _ _ Try.underlying9 (by omega) (by omega) (by omega), Int.toNat_natCast, Int.toNat_natCast, extract_drop]; rfl
              generalize gat s m = cm at *
              generalize (s.data.toList.take m).drop k = new at *
              unfold eS at hsl
              go_wp2_with (first | (go_at_call 52; refine (blank_any _ _).mono ?_; rintro e w' ⟨rfl, rfl⟩) | (at_builtin; refine wp_append_str1 Try.underlying25 Try.infoStr rfl _ _ rfl w.heap.size _ _ rfl (HO.out.alloc _) ⟨wo.heap.size, 0, none⟩ 1 new rfl (cell_one _ _ _) (by omega) (by simp; omega) ?_; intro v' w3 hown3 hbel3))
              go_roundw
              case rel => exact ⟨m, xs ++ [new], by omega, by simp; omega, rfl, HF.out, hown3, (HB.out.alloc hz _).trans hbel3⟩
              case measure => simp [intOf]; omega
          · have hkm2 : k < m := by omega
            have HF := FIN.out hkm2 (.inl (by omega))
            have hsl : ∀ (W : World), (Instr.slice 9 (.string s) (some (.int .i64 (k : Int))) (some (.int .i64 (m : Int))) none).run Try.prog W = .ok (eS ((s.data.toList.take m).drop k)) W := by
              intro W
              rw [run_slice_string W _ s .i64 .i64 _ _ Try.underlying9 (by omega) (by omega) (by omega), Int.toNat_natCast, Int.toNat_natCast, extract_drop]; rfl
            generalize (s.data.toList.take m).drop k = new at *
            unfold eS at hsl
            go_wp2_with (at_builtin; refine wp_append_str1 Try.underlying25 Try.infoStr rfl _ _ rfl w.heap.size _ _ rfl (HO.out.alloc _) ⟨wo.heap.size, 0, none⟩ 1 new rfl (cell_one _ _ _) (by omega) (by simp; omega) ?_; intro v' w3 hown3 hbel3)
            go_roundw
            case rel => exact ⟨m, xs ++ [new], by omega, by simp; omega, rfl, HF.out, hown3, (HB.out.alloc hz _).trans hbel3⟩
            case measure => simp [intOf]; omega
      · have HN : Hid (wordsOf s.data.toList = xs ++ wordsOf (s.data.toList.drop (k + 1))) := Lib.hid (by rw [HE.out, hd.out, wordsOf_blank a1])
        generalize gat s k = c at *
        go_wp2_with (go_at_call 52; refine (blank_any _ _).mono ?_; rintro e w' ⟨rfl, rfl⟩)
        go_roundw
        case rel => exact ⟨k + 1, xs, by omega, by omega, by go_num, HN.out, HO.out, HB.out⟩
        case measure => simp [intOf]; omega
    · have E : Hid (wordsOf s.data.toList = xs) := Lib.hid (by rw [HE.out, List.drop_eq_nil_of_le (by simp; omega), wordsOf_nil, List.append_nil])
      go_wp2
      go_ret
      exact ⟨_, rfl, by rw [E.out]; exact HO.out, HB.out⟩
end Go.Proofs.Ytalobgebdpaecaa.kit
