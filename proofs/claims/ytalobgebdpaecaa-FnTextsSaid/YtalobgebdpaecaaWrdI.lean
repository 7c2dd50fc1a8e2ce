/-
  Contract of impl.Words over this seat's translation: for every text of at most 1048576 bytes it gives a new slice that owns its words.
-/
import Derived.Test.YtalobgebdpaecaaColl
import Derived.Test.YtalobgebdpaecaaWrd0
import Derived.Maps.OwnIn
namespace Go.Proofs.Ytalobgebdpaecaa.kit
open Go.ChangeShapes Go.WideShapes Go.ChangeAt Go.RowKit Go.Shelf
set_option linter.unusedVariables false
attribute [local go_sem] Oper.semAt_some

theorem blank_has (c : UInt8) : hasB [32, 9] c = blankB c := by
  rw [Bool.eq_iff_iff]
  simp only [hasB, blankB, List.any_cons, List.any_nil, Bool.or_false, Bool.or_eq_true, beq_iff_eq]
  constructor
  · rintro (h | h)
    · exact .inl h.symm
    · exact .inr h.symm
  · rintro (h | h)
    · exact .inl h.symm
    · exact .inr h.symm
theorem wordsOf_parts (l : List UInt8) : wordsOf l = keepNe (parts (hasB [32, 9]) l) := by
  rw [wordsOf, ← parts_eq_pr, parts_congr blank_has]
theorem empty_arr (x : List UInt8) : (ByteArray.mk x.toArray).toList.isEmpty = x.isEmpty := by rw [ByteArray.toList_mk]

set_option maxRecDepth 100000 in
set_option maxHeartbeats 2000000 in
theorem implWords_in (n : Nat) (hn : 8 ≤ n) (s : ByteArray) (w : World) (hs : s.size ≤ 1048576) :
    CallsIn Fence.wide n Try.prog 11 #[.string s] w (CutPost w.heap.size w (wordsOf s.data.toList)) := by
  have h1 : 1 ≤ n := by omega
  have hf : Fence.wide.fn 45 := trivial
  obtain ⟨i0, hi, hz0, hz1, hz2⟩ := info_parts Try.infoStr
  refine callsIn_of_wp_marks Try.func11 rfl trivial ?_ rfl
  simp only [Try.ntmps11, List.size_toArray, List.length_cons, List.length_nil, Nat.reduceAdd, Nat.reduceSub, Array.replicate_succ, Array.replicate_zero, List.push_toArray, List.append_toArray, List.nil_append, List.cons_append]
  gi_wp2_with (gi_at_call 45; refine (partsOf_in (n - 1) _ _ _ _ _).mono ?_; rintro e w' ⟨rfl, rfl⟩)
  obtain ⟨W5, hW5⟩ : ∃ W5, W5 = ((((w.alloc (.cells #[] 9)).alloc (.cells #[.slice (some ⟨w.heap.size, 0, none⟩) 0 0] 25)).alloc (.cells #[.int .u8 32, .int .u8 9] 5)).alloc (.cells #[.string s] 9)).alloc (.cells #[.slice (some ⟨w.heap.size + 1 + 1, 0, none⟩) 2 2] 22) := ⟨_, rfl⟩
  rw [← hW5]
  have hz5 : W5.heap.size = w.heap.size + 5 := by rw [hW5]; simp
  have bO : Boxed W5 (w.heap.size + 1) 25 (.slice (some ⟨w.heap.size, 0, none⟩) 0 0) := by
    have h := Boxed.new (w.alloc (.cells #[] 9)) 25 (.slice (some ⟨w.heap.size, 0, none⟩) 0 0)
    rw [World.size_alloc] at h
    rw [hW5]; exact ((h.alloc _).alloc _).alloc _
  have rO : W5.ownsRow w.heap.size 9 1 (.slice (some ⟨w.heap.size, 0, none⟩) 0 0) 0 [] := by
    have h := ownS_start (e := 9) (w := w) (Nat.le_refl w.heap.size)
    rw [hW5]; exact World.ownsRow.alloc (World.ownsRow.alloc (World.ownsRow.alloc (World.ownsRow.alloc h _) _) _) _
  have hB0 : Below w.heap.size w W5 := by rw [hW5]; exact (((((Below.refl _ w).alloc (Nat.le_refl _) _).alloc (by simp) _).alloc (by simp; omega) _).alloc (by simp; omega) _).alloc (by simp; omega) _
  have c1 : W5.cell? ⟨w.heap.size + 1 + 1 + 1, 0, none⟩ = some (.string s) := by
    rw [hW5, World.cell?_alloc_past _ _ _ (by simp), World.cell?_alloc_at _ _ _ _ (by simp)]; rfl
  have c2 : W5.cell? ⟨w.heap.size + 1 + 1 + 1 + 1, 0, none⟩ = some (.slice (some ⟨w.heap.size + 1 + 1, 0, none⟩) 2 2) := by
    rw [hW5, World.cell?_alloc_at _ _ _ _ (by simp)]; rfl
  have c0 : CellsAt W5 (w.heap.size + 1 + 1) [32, 9] := by
    intro j hj
    rw [hW5, World.cell?_alloc_past _ _ _ (by simp), World.cell?_alloc_past _ _ _ (by simp), World.cell?_alloc_at _ _ _ _ (by simp)]
    match j, hj with
    | 0, _ => rfl
    | 1, _ => rfl
  have hseq := parts_stops3 (n - 1) (by omega) (w.heap.size + 1 + 1 + 1) (w.heap.size + 1 + 1 + 1 + 1) (w.heap.size + 1 + 1) 2 s [32, 9] hs (by simp) W5 (by omega) (by omega) (by omega) c1 c2 c0
  have HWP := Lib.hid (wordsOf_parts s.data.toList)
  clear hW5 c0 c1 c2
  refine wpIn_rangeFunc_ownG rfl h1 (gf := 67) rfl trivial (enters_of Try.func67 (by kernel_rfl) rfl)
    hseq (fun h k => K3.trans h k) (fun W l o o' hl _ _ _ => ⟨World.putObj_heap_other (by omega), World.putObj_heap_other (by omega), World.putObj_heap_other (by omega)⟩) (Below.refl _ _) (fun _ => rfl)
    (fun pre W => ((∃ v, Boxed W (w.heap.size + 1) 25 v ∧ W.ownsRow w.heap.size 9 1 v (keepNe pre).length ((keepNe pre).map eS) ∧ ∀ k, v.ownBlock = some k → k = w.heap.size ∨ w.heap.size + 5 ≤ k) ∧ Below w.heap.size w W) ∧ w.heap.size + 5 ≤ W.heap.size)
    (fun _ _ _ => False)
    (OwnFrom.and (OwnFrom.and (Own.from (holdsRow_own w.heap.size (w.heap.size + 1) 25 9 1 (fun pre : List (List UInt8) => (keepNe pre).length) (fun pre => (keepNe pre).map eS) (fun pre v => ∀ k, v.ownBlock = some k → k = w.heap.size ∨ w.heap.size + 5 ≤ k)) _) (ownFrom_below (Nat.le_refl _) (by omega))) (fun _ _ _ _ hs hg _ => Nat.le_trans hs hg.size))
    (fun _ _ _ _ _ hs _ _ => hs)
    ⟨⟨⟨_, bO, rO, fun k e => by simp [Value.ownBlock] at e; omega⟩, hB0⟩, by omega⟩
    (fun x => { tmps := #[.string s, undef, .slice none 0 0, .pointer (some ⟨w.heap.size + 1, 0, none⟩), eS x, .slice (some ⟨w.heap.size, 0, none⟩) 0 0, .string s, .slice (some ⟨w.heap.size + 1 + 1, 0, none⟩) 2 2, .func (.func 67) #[] #[.pointer (some ⟨w.heap.size + 1 + 1 + 1, 0, none⟩), .pointer (some ⟨w.heap.size + 1 + 1 + 1 + 1, 0, none⟩)], eS x, undef, undef, undef, undef, undef, undef, undef], defers := [] }) ?assign ?body ?done ?stop
  case assign =>
    intro l x W K hK
    gi_wp2
    exact hK
  case body =>
    rintro l pre x W ⟨⟨⟨v, hv, hrow, hG⟩, hB⟩, hz⟩ hlt
    have hc := hv.cell
    have hpl := keepNe_len pre
    have HG := Lib.hid hG
    clear hG
    cases he : x.isEmpty
    · have HN := Lib.hid (keepNe_snoc_yes pre he)
      have hne : (ByteArray.mk x.toArray).toList.isEmpty = false := by rw [empty_arr]; exact he
      unfold eS
      gi_wp2_with (gi_at_builtin; refine wpListIn_append_own_at _ rfl _ _ 25 rfl w.heap.size 9 i0 (.string ⟨#[]⟩) 1 16 Try.underlying25 hi hz0 hz1 hz2 rfl (by decide) _ _ _ rfl (hrow.alloc _) ⟨W.heap.size, 0, none⟩ 1 1 [eS x] rfl rfl (cell_one_new _ _ _) (by simp [Value.oneCell', eS]) (by simp only [maxLen]; omega) (by omega) (by have := hB.size; simp; omega) ?_; intro v' w1 hown' hgrow _ hat; obtain ⟨g', cap', rfl⟩ := ownsRow_succ hown'; obtain ⟨hv1, hv2, hr2, hk2, hb2⟩ := hv.appended (by decide) hrow hB.size (by omega) hown' hgrow; have hc1 := hv1.cell; have hf1 := hv1.frozen; have HAT := Lib.hid hat; clear hat)
      have k3 : ∀ a, w.heap.size + 1 < a → a < w.heap.size + 5 → (w1.setCell ⟨w.heap.size + 1, 0, none⟩ (.slice (some ⟨g', 0, none⟩) ((keepNe pre).length + 1) cap')).heap[a]? = W.heap[a]? := by
        intro a ha1 ha2
        rw [Below.heap_setCell _ _ _ a (by simp only; omega), hgrow.block a (by simp; omega) (fun e => by have := HG.out a e.symm; omega), Below.heap_alloc _ _ a (by omega)]
      refine ⟨hk2.from _, ⟨k3 _ (by omega) (by omega), k3 _ (by omega) (by omega), k3 _ (by omega) (by omega)⟩, ⟨⟨_, hv2, ?_, ?_⟩, hB.trans hb2⟩, ?_⟩
      · rw [HN.out]
        have h2 : (w1.setCell ⟨w.heap.size + 1, 0, none⟩ (.slice (some ⟨g', 0, none⟩) ((keepNe pre).length + 1) cap')).ownsRow w.heap.size 9 1 (.slice (some ⟨g', 0, none⟩) ((keepNe pre).length + 1) cap') (keepNe pre ++ [x]).length ((keepNe pre ++ [x]).map eS) := by simpa using hr2
        exact h2
      · intro k e
        rcases HAT.out with h | h
        · exact HG.out k (h.symm.trans e)
        · right
          have h' := h.symm.trans e
          simp at h'; omega
      · have := hgrow.size; simp at this ⊢; omega
    · have HN := Lib.hid (keepNe_snoc_no pre he)
      have hne : (ByteArray.mk x.toArray).toList.isEmpty = true := by rw [empty_arr]; exact he
      unfold eS
      gi_wp2
      exact ⟨KeepsFrom.refl _ _, K3.refl _ _ _ _, ⟨⟨v, hv, by rw [HN.out]; exact hrow, HG.out⟩, hB⟩, hz⟩
  case done =>
    rintro D ys W hD rfl ⟨⟨⟨v, hv, hrow, _⟩, hB⟩, hz⟩ hK
    have hc := hv.cell
    gi_wp2
    refine ⟨by simp, .inl ⟨_, _, rfl, run_takeDeferred hK, ?_⟩⟩
    exact ⟨_, results_tmp rfl _ _ _, v, rfl, by rw [HWP.out]; exact ownsRow_putObj hrow _ hK rfl, hB.trans (belowK_b (w := w) (Nat.le_refl _) W D _ _ (by omega) hK rfl rfl)⟩
  case stop =>
    rintro D c pre W _ _ h _
    exact h.elim

theorem implWords_any (s : ByteArray) (w : World) (hs : s.size ≤ 1048576) :
    Calls Try.prog 11 #[.string s] w (CutPost w.heap.size w (wordsOf s.data.toList)) :=
  callsIn_wide.1 (implWords_in 8 (Nat.le_refl _) s w hs)
end Go.Proofs.Ytalobgebdpaecaa.kit
