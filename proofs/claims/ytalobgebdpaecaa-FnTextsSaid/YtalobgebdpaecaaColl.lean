/-
  Contracts of slices.AppendSeq, slices.Collect and impl.Cut over this seat's translation: for every text of at most 1048576 bytes and every byte impl.Cut gives a new slice that owns the parts between these bytes.
-/
import Derived.Test.YtalobgebdpaecaaIter
import Derived.Maps.AppendAt
namespace Go.Proofs.Ytalobgebdpaecaa.kit
open Go.ChangeShapes Go.WideShapes Go.ChangeAt Go.RowKit Go.Shelf
set_option linter.unusedVariables false
attribute [local go_sem] Oper.semAt_some

set_option maxRecDepth 100000 in
set_option maxHeartbeats 2000000 in
theorem appendSeq_in (n : Nat) (hn : 5 ≤ n) (lb : Array Value) (xs : List (List UInt8)) (N : Nat) (hN : N ≤ 10000000) (w : World)
    (hseq : SeqStopsK Fence.wide (n - 1) Try.prog 67 lb (fun x : List UInt8 => #[eS x]) (Below w.heap.size) (fun ys => ys = xs) (fun _ => True) N w) :
    CallsIn Fence.wide n Try.prog 69 #[.slice none 0 0, .func (.func 67) #[] lb] w (CutPost w.heap.size w xs) := by
  have h1 : 1 ≤ n := by omega
  obtain ⟨i0, hi, hz0, hz1, hz2⟩ := info_parts Try.infoStr
  refine callsIn_of_wp_marks Try.func69 rfl trivial ?_ rfl
  simp only [Try.ntmps69, List.size_toArray, List.length_cons, List.length_nil, Nat.reduceAdd, Nat.reduceSub, Array.replicate_succ, Array.replicate_zero, List.push_toArray, List.append_toArray, List.nil_append, List.cons_append]
  gi_wp2
  have bO := Boxed.new w 25 (.slice none 0 0)
  have hB0 : Below w.heap.size w (w.alloc (.cells #[.slice none 0 0] 25)) := (Below.refl _ w).alloc (Nat.le_refl _) _
  refine wpIn_rangeFunc_ownG rfl h1 (gf := 67) (lb := lb) rfl trivial (enters_of Try.func67 (by kernel_rfl) rfl)
    hseq belowK_t (belowK_b (by simp)) hB0 (fun _ => rfl)
    (fun pre W => (∃ v, Boxed W w.heap.size 25 v ∧ W.ownsRow w.heap.size 9 1 v pre.length (pre.map eS) ∧ True) ∧ Below w.heap.size w W)
    (fun _ _ _ => False)
    (OwnFrom.and (Own.from (holdsRow_own w.heap.size w.heap.size 25 9 1 (fun pre : List (List UInt8) => pre.length) (fun pre => pre.map eS) (fun pre v => True)) _) (ownFrom_below (Nat.le_refl _) (by simp)))
    (fun _ _ _ _ _ hs _ _ => hs)
    ⟨⟨_, bO, World.ownsRow_nil _ _ _ _, trivial⟩, hB0⟩
    (fun x => { tmps := #[.slice none 0 0, .func (.func 67) #[] lb, .pointer (some ⟨w.heap.size, 0, none⟩), undef, .slice none 0 0, eS x, .func (.func 67) #[] lb, eS x, undef, undef, undef, undef, undef], defers := [] }) ?assign ?body ?done ?stop
  case assign =>
    intro l x W K hK
    gi_wp2
    exact hK
  case body =>
    rintro l pre x W ⟨⟨v, hv, hrow, _⟩, hB⟩ hlt
    have hc := hv.cell
    unfold eS
    gi_wp2_with (gi_at_builtin; refine wpListIn_append_own _ rfl _ _ 25 rfl w.heap.size 9 i0 (.string ⟨#[]⟩) 1 16 Try.underlying25 hi hz0 hz1 hz2 rfl (by decide) _ _ _ rfl (hrow.alloc _) ⟨W.heap.size, 0, none⟩ 1 1 [eS x] rfl rfl (cell_one_new _ _ _) (by simp [Value.oneCell', eS]) (by simp only [maxLen]; omega) (by omega) (by have := hB.size; simp; omega) ?_; intro v' w1 hown' hgrow _; obtain ⟨g', cap', rfl⟩ := ownsRow_succ hown'; obtain ⟨hv1, hv2, hr2, hk2, hb2⟩ := hv.appended (by decide) hrow hB.size (Nat.le_refl _) hown' hgrow; have hc1 := hv1.cell; have hf1 := hv1.frozen)
    exact ⟨hk2.from _, hb2, ⟨_, hv2, (by
      have h2 : (w1.setCell ⟨w.heap.size, 0, none⟩ (.slice (some ⟨g', 0, none⟩) (pre.length + 1) cap')).ownsRow w.heap.size 9 1 (.slice (some ⟨g', 0, none⟩) (pre.length + 1) cap') (pre ++ [x]).length ((pre ++ [x]).map eS) := by simpa using hr2
      exact h2), trivial⟩, hB.trans hb2⟩
  case done =>
    rintro D ys W hD rfl ⟨⟨v, hv, hrow, _⟩, hB⟩ hK
    have hc := hv.cell
    gi_wp2
    refine ⟨by simp, .inl ⟨_, _, rfl, run_takeDeferred hK, ?_⟩⟩
    exact ⟨_, results_tmp rfl _ _ _, v, rfl, ownsRow_putObj hrow _ hK rfl, hB.trans (belowK_b (w := w) (Nat.le_refl _) W D _ _ (by simp at hD; omega) hK rfl rfl)⟩
  case stop =>
    rintro D c pre W _ _ h _
    exact h.elim

set_option maxHeartbeats 1000000 in
theorem collect_any (lb : Array Value) (xs : List (List UInt8)) (N : Nat) (hN : N ≤ 10000000) (w : World)
    (hseq : SeqStopsK Fence.wide 5 Try.prog 67 lb (fun x : List UInt8 => #[eS x]) (Below w.heap.size) (fun ys => ys = xs) (fun _ => True) N w) :
    Calls Try.prog 47 #[.func (.func 67) #[] lb] w (CutPost w.heap.size w xs) := by
  have HA := Lib.hid (callsIn_wide.1 (appendSeq_in 6 (by omega) lb xs N hN w hseq))
  clear hseq
  go_enter Try.func47, Try.ntmps47
  go_wp2_with fail
  refine HA.out.mono ?_
  rintro e w' ⟨v, rfl, ho, hb⟩
  go_wp2
  go_ret
  exact ⟨v, rfl, ho, hb⟩

theorem parts_congr {p q : UInt8 → Bool} (h : ∀ c, p c = q c) (l : List UInt8) : parts p l = parts q l := by
  have : p = q := funext h
  rw [this]

set_option maxHeartbeats 1000000 in
theorem implCut_any (s : ByteArray) (b : UInt8) (w : World) (hs : s.size ≤ 1048576) :
    Calls Try.prog 13 #[.string s, .int .u8 (b.toNat : Int)] w (CutPost w.heap.size w (parts (isB b) s.data.toList)) := by
  have hpc := parts_congr (p := isB b) (q := hasB [b]) (fun c => by simp [isB, hasB, Bool.beq_comm]) s.data.toList
  obtain ⟨W3, hW3⟩ : ∃ W3, W3 = ((w.alloc (.cells #[.int .u8 (b.toNat : Int)] 5)).alloc (.cells #[.string s] 9)).alloc (.cells #[.slice (some ⟨w.heap.size, 0, none⟩) 1 1] 22) := ⟨_, rfl⟩
  have hz3 : W3.heap.size = w.heap.size + 3 := by rw [hW3]; simp
  have c1 : W3.cell? ⟨w.heap.size + 1, 0, none⟩ = some (.string s) := by
    rw [hW3, World.cell?_alloc_past _ _ _ (by simp), World.cell?_alloc_at _ _ _ _ (by simp)]; rfl
  have c2 : W3.cell? ⟨w.heap.size + 2, 0, none⟩ = some (.slice (some ⟨w.heap.size, 0, none⟩) 1 1) := by
    rw [hW3, World.cell?_alloc_at _ _ _ _ (by simp)]; rfl
  have c0 : CellsAt W3 w.heap.size [b] := by
    intro j hj
    obtain rfl : j = 0 := by simpa using hj
    rw [hW3, World.cell?_alloc_past _ _ _ (by simp; omega), World.cell?_alloc_past _ _ _ (by simp), World.cell?_alloc_at _ _ _ _ rfl]; rfl
  have hb3 : Below w.heap.size w W3 := by rw [hW3]; exact (((Below.refl _ w).alloc (Nat.le_refl _) _).alloc (by simp) _).alloc (by simp; omega) _
  have hseq := parts_stops 5 (by omega) (w.heap.size + 1) (w.heap.size + 2) w.heap.size W3.heap.size 1 s [b] hs (by simp) (by omega) (by omega) (by omega) W3 (Nat.le_refl _) c1 c2 c0
  have HC := Lib.hid (collect_any _ _ _ (by omega) W3 hseq)
  have HP := Lib.hid (callsIn_wide.1 (partsOf_in 5 s (some ⟨w.heap.size, 0, none⟩) 1 1 (w.alloc (.cells #[.int .u8 (b.toNat : Int)] 5))))
  rw [World.size_alloc] at HP
  have HB3 := Lib.hid hb3
  have HZ3 := Lib.hid hz3
  have HW3 := Lib.hid hW3
  have HPC := Lib.hid hpc
  clear hseq hb3 hz3 hW3 hpc c0 c1 c2
  go_enter Try.func13, Try.ntmps13
  go_wp2_with fail
  refine HP.out.mono ?_
  rintro e w' ⟨rfl, rfl⟩
  rw [← HW3.out]
  go_wp2_with fail
  refine HC.out.mono ?_
  rintro e w' ⟨v, rfl, ho, hb⟩
  go_wp2
  go_ret
  exact ⟨v, rfl, by rw [HPC.out]; exact ho.mono (by have := HZ3.out; omega), HB3.out.trans (hb.mono (by have := HZ3.out; omega))⟩
end Go.Proofs.Ytalobgebdpaecaa.kit
