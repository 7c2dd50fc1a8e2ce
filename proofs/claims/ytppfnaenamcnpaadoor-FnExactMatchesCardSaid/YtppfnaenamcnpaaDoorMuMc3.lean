/-
  Contracts of laws.eqIntA2, laws.eqIntA2S, laws.markIntA2S and laws.heldIntA2S over this seat's translation: rows of pairs of numbers are told to be the same, are marked, and their marks are found again. Conditions: at most 2000000 pairs, marks of at most 10000000.
-/
import Derived.Test.YtppfnaenamcnpaaDoorMuMc0
import Derived.Test.YtppfnaenamcnpaaDoorMuPm0
import Derived.Deep.RegionHeld3
import Derived.Deep.LoopGhost
import Derived.Deep.QuietTactic
import Derived.BigQuiet
set_option linter.unusedVariables false
set_option linter.unusedSimpArgs false
namespace Go.Proofs.YtppfnaenamcnpaaDoor.kit
open Go.ChangeShapes Go.WideShapes Go.ChangeAt Go.RowKit
def C2 (w W : World) (g h : Nat) (x y : Int) : Prop := (∀ d, d < 2 → ∃ z : Int, W.cell? ⟨g, d, none⟩ = some (.int .i64 z) ∧ W.cell? ⟨h, d, none⟩ = some (.int .i64 z)) ∧ Below w.heap.size w W
set_option maxRecDepth 100000 in
theorem eqPr_any (x y : Int) (w : World) :
 Calls Tryd.prog 48 #[.agg #[.int .i64 x, .int .i64 y], .agg #[.int .i64 x, .int .i64 y]] w fun e w' => e = .returned (.bool true) ∧ Below w.heap.size w w' := by
 have H0 := Lib.hid (show ∀ e1 e2, C2 w ((w.alloc (.cells #[.int .i64 x, .int .i64 y] e1)).alloc (.cells #[.int .i64 x, .int .i64 y] e2)) w.heap.size (w.heap.size + 1) x y from fun e1 e2 => by
  refine ⟨fun d hd => ?_, ((Below.refl _ _).alloc (Nat.le_refl _) _).alloc (by simp) _⟩
  have hb := (Below.refl _ (w.alloc (.cells #[.int .i64 x, .int .i64 y] e1))).alloc (Nat.le_refl _) (.cells #[.int .i64 x, .int .i64 y] e2)
  match d, hd with
  | 0, _ => exact ⟨x, (hb.cell (p := ⟨w.heap.size, 0, none⟩) (by simp)).trans (by rw [World.cell?_alloc_at _ _ _ _ rfl]; rfl), by rw [World.cell?_alloc_at _ _ _ _ (by simp)]; rfl⟩
  | 1, _ => exact ⟨y, (hb.cell (p := ⟨w.heap.size, 1, none⟩) (by simp)).trans (by rw [World.cell?_alloc_at _ _ _ _ rfl]; rfl), by rw [World.cell?_alloc_at _ _ _ _ (by simp)]; rfl⟩)
 go_enter Tryd.func48, Tryd.ntmps48
 go_wp2_with fail
 go_loopw [5] (fun i wr => ∃ d : Nat, d ≤ 2 ∧ i = .int .i64 (d : Int) ∧ C2 w wr w.heap.size (w.heap.size + 1) x y) (fun i _ => 2 - (intOf i).toNat)
 case atStart => exact ⟨0, by omega, rfl, H0.out _ _⟩
 case round =>
  obtain ⟨d, hd, rfl, hc⟩ := hrel
  have HC := Lib.hid hc
  clear hc
  by_cases hd2 : d < 2
  · obtain ⟨z, c0, c1⟩ := HC.out.1 d hd2
    have i2 : (0 : Int) ≤ (d : Int) := by omega
    have i3 : (d : Int) < 2 := by omega
    go_wp2_with fail
    go_region
    go_wp2_with fail
    go_roundw
    case rel => exact ⟨d + 1, by omega, by go_num, fun d hd => HC.out.1 d hd, HC.out.2.drew⟩
    case measure => simp [intOf]; omega
  · obtain rfl : d = 2 := by omega
    go_wp2_with fail
    go_ret
    exact ⟨rfl, HC.out.2⟩
def PrM (B : Nat) (w : World) (a : Option Addr) (n k m : Nat) : Prop :=
 ∀ j, j < n * 2 → ∃ g, a = some ⟨g, 0, none⟩ ∧ B ≤ g ∧ g < w.heap.size ∧ (∃ x : Int, w.cell? ⟨g, j, none⟩ = some (.int .i64 x) ∧ (j < k → x = (m : Int) + j)) ∧ w.frozen? ⟨g, j, none⟩ = false
theorem PrM.of {B : Nat} {w w' : World} {a : Option Addr} {n k m : Nat} (h : PrM B w a n k m) (hs : w.heap.size ≤ w'.heap.size) (hb : ∀ g, a = some ⟨g, 0, none⟩ → w'.heap[g]? = w.heap[g]?) : PrM B w' a n k m := fun j hj => by
 obtain ⟨g, e, h1, h2, ⟨x, h3, h4⟩, h5⟩ := h j hj
 have hq := hb g e
 exact ⟨g, e, h1, Nat.lt_of_lt_of_le h2 hs, ⟨x, (World.cell?_of_block (a := ⟨g, j, none⟩) hq).trans h3, h4⟩, by rw [← h5]; simp only [World.frozen?, hq]⟩
theorem PrM.kept {B : Nat} {w w' : World} {a : Option Addr} {n k m : Nat} (h : PrM B w a n k m) (hb : Below w.heap.size w w') : PrM B w' a n k m := fun j hj => by
 obtain ⟨g, e, h1, h2, ⟨x, h3, h4⟩, h5⟩ := h j hj
 exact ⟨g, e, h1, Nat.lt_of_lt_of_le h2 hb.size, ⟨x, (hb.cell (p := ⟨g, j, none⟩) h2).trans h3, h4⟩, (hb.frozen (p := ⟨g, j, none⟩) h2).trans h5⟩
theorem PrM.put {B : Nat} {w : World} {g n k m : Nat} (h : PrM B w (some ⟨g, 0, none⟩) n k m) (hk : k < n * 2) : PrM B (w.setCell ⟨g, k, none⟩ (.int .i64 ((m : Int) + k))) (some ⟨g, 0, none⟩) n (k + 1) m := fun j hj => by
 obtain ⟨g', e, h1, h2, ⟨x, h3, h4⟩, h5⟩ := h j hj
 cases e
 refine ⟨g, rfl, h1, by simpa using h2, ?_, by rw [World.frozen?_setCell]; exact h5⟩
 by_cases e : j = k
 · subst e
   exact ⟨_, set_same _ _ _ _ (by rw [h3]; rfl), fun _ => rfl⟩
 · exact ⟨x, (set_off _ _ _ _ _ (fun q => e q.symm)).trans h3, fun q => h4 (by omega)⟩
theorem OwnPr.prm {B : Nat} {w : World} {v : Value} {ps : List (Nat × Nat)} (h : OwnPr B w v ps) (m : Nat) : ∃ a cap, v = .slice a ps.length cap ∧ PrR w ps a ∧ PrM B w a ps.length 0 m ∧ ∀ g, a = some ⟨g, 0, none⟩ → B ≤ g ∧ g < w.heap.size := by
 obtain ⟨a, cap, rfl, hr⟩ := h.look
 refine ⟨a, cap, rfl, hr, fun j hj => ?_, fun g hg => h.lt g (by subst hg; rfl)⟩
 obtain ⟨i, d, hd, rfl⟩ : ∃ i d, d < 2 ∧ j = i * 2 + d := ⟨j / 2, j % 2, Nat.mod_lt _ (by omega), by omega⟩
 obtain ⟨g, rfl, h2, h3, h4⟩ := hr i (by omega)
 have hfz : ∀ o, w.frozen? ⟨g, o, none⟩ = false := fun o => by
  rcases h.2 with ⟨e, _⟩ | ⟨g', cap', cur, e, _, hg, _⟩
  · cases e
  · cases e
    simp only [World.frozen?, hg]; rfl
 refine ⟨g, rfl, (h.lt g rfl).1, h2, ?_, hfz _⟩
 match d, hd with
 | 0, _ => exact ⟨_, h3, fun q => by omega⟩
 | 1, _ => exact ⟨_, h4, fun q => by omega⟩
set_option maxRecDepth 100000 in
set_option maxHeartbeats 1000000 in
theorem markPr_any (B : Nat) (a : Option Addr) (cap n m : Nat) (w : World) (hB : B ≤ w.heap.size) (hn : n ≤ 2000000) (hm : m ≤ 10000000) (hsl : PrM B w a n 0 m) :
 Calls Tryd.prog 26 #[.slice a n cap, .int .i64 (m : Int)] w fun e w' => e = .returned (.int .i64 ((m : Int) + 2 * n)) ∧ PrM B w' a n (n * 2) m ∧ Below B w w' ∧ (∀ j, j < w.heap.size → (∀ g, a = some ⟨g, 0, none⟩ → j ≠ g) → w'.heap[j]? = w.heap[j]?) := by
 have HS := Lib.hid hsl; clear hsl
 go_enter Tryd.func26, Tryd.ntmps26
 go_wp2_with fail
 go_loopg [1, 5] (n) (fun gg q i wr => ∃ k : Nat, k + gg = n ∧ i = .int .i64 (k : Int) ∧ q = .int .i64 ((m : Int) + 2 * k) ∧ PrM B wr a n (k * 2) m ∧ Below B w wr ∧ (∀ j, j < w.heap.size → (∀ g, a = some ⟨g, 0, none⟩ → j ≠ g) → wr.heap[j]? = w.heap[j]?))
 case atStart => exact ⟨0, by omega, rfl, by go_num, by simpa using HS.out, Below.refl _ _, fun _ _ _ => rfl⟩
 case round =>
  obtain ⟨k, hk, rfl, rfl, hsl, hbel, hoth⟩ := hrel
  have HB := Lib.hid hbel
  have HL := Lib.hid hsl
  have HT := Lib.hid hoth
  have HK := Lib.hid hk
  clear hsl hbel hoth hk
  by_cases hlt : k < n
  · go_wp2_with fail
    go_loopg [1, 6] (2) (fun gj q j wx => ∃ d : Nat, d + gj = 2 ∧ j = .int .i64 (d : Int) ∧ q = .int .i64 ((m : Int) + 2 * k + d) ∧ PrM B wx a n (k * 2 + d) m ∧ Below B w wx ∧ (∀ j, j < w.heap.size → (∀ g, a = some ⟨g, 0, none⟩ → j ≠ g) → wx.heap[j]? = w.heap[j]?))
    case atStart => exact ⟨0, by omega, rfl, by go_num, by simpa using HL.out, HB.out, HT.out⟩
    case round =>
        obtain ⟨d, hd, rfl, rfl, hsl, hbel, hoth⟩ := hrel
        have HB := Lib.hid hbel
        have hz := hbel.size
        have HL := Lib.hid hsl
        have HT := Lib.hid hoth
        have HD := Lib.hid hd
        clear hsl hbel hoth hd
        by_cases hd2 : d < 2
        · obtain ⟨g, rfl, hg1, hg2, ⟨x, hg3, _⟩, hg4⟩ := HL.out (k * 2 + d) (by omega)
          have HP := Lib.hid (HL.out.put (by omega))
          have HQ := Lib.hid (HB.out.setCell (p := ⟨g, k * 2 + d, none⟩) hg1 (.int .i64 ((m : Int) + 2 * k + d)))
          rw [show (m : Int) + ((k * 2 + d : Nat) : Int) = (m : Int) + 2 * k + d by omega] at HP
          have i0 : (0 : Int) ≤ (k : Int) := by omega
          have i1 : (k : Int) < (n : Int) := by omega
          have i2 : (0 : Int) ≤ (d : Int) := by omega
          have i3 : (d : Int) < 2 := by omega
          go_wp2_with fail
          go_roundg (2 - (d + 1))
          case rel =>
           refine ⟨d + 1, by omega, by go_num, by go_num, HP.out, HQ.out, fun j hj hne => ?_⟩
           rw [Below.heap_setCell _ ⟨g, k * 2 + d, none⟩ _ j (fun q => hne g rfl q)]
           exact HT.out j hj hne
          case measure => have := HD.out; omega
        · obtain rfl : d = 2 := by have := HD.out; omega
          have hd3 : ¬ ((2 : Nat) : Int) < 2 := by omega
          go_wp2_with fail
          go_roundg (n - (k + 1))
          case rel => exact ⟨k + 1, by omega, by go_num, by go_num, by rw [show (k + 1) * 2 = k * 2 + 2 by omega]; exact HL.out, HB.out, HT.out⟩
          case measure => have := HK.out; omega
  · obtain rfl : k = n := by have := HK.out; omega
    go_wp2_with fail
    go_ret
    exact ⟨rfl, HL.out, HB.out, HT.out⟩
set_option maxRecDepth 100000 in
set_option maxHeartbeats 1000000 in
theorem heldPr_any (B : Nat) (a : Option Addr) (cap n m : Nat) (w : World) (hn : n ≤ 2000000) (hm : m ≤ 10000000) (hsl : PrM B w a n (n * 2) m) :
 Calls Tryd.prog 27 #[.slice a n cap, .int .i64 (m : Int)] w fun e w' => e = .returned (.int .i64 ((m : Int) + 2 * n)) ∧ Below w.heap.size w w' := by
 have HS := Lib.hid hsl; clear hsl
 go_enter Tryd.func27, Tryd.ntmps27
 go_wp2_with fail
 go_loopg [1, 5] (n) (fun gg q i wr => ∃ k : Nat, k + gg = n ∧ i = .int .i64 (k : Int) ∧ q = .int .i64 ((m : Int) + 2 * k) ∧ Below w.heap.size w wr)
 case atStart => exact ⟨0, by omega, rfl, by go_num, Below.refl _ _⟩
 case round =>
  obtain ⟨k, hk, rfl, rfl, hbel⟩ := hrel
  have HB := Lib.hid hbel
  have HK := Lib.hid hk
  clear hbel hk
  by_cases hlt : k < n
  · go_wp2_with fail
    go_loopg [1, 6] (2) (fun gj q j wx => ∃ d : Nat, d + gj = 2 ∧ j = .int .i64 (d : Int) ∧ q = .int .i64 ((m : Int) + 2 * k + d) ∧ Below w.heap.size w wx)
    case atStart => exact ⟨0, by omega, rfl, by go_num, HB.out⟩
    case round =>
        obtain ⟨d, hd, rfl, rfl, hbel⟩ := hrel
        have HB := Lib.hid hbel
        have hz := hbel.size
        have HD := Lib.hid hd
        clear hd
        by_cases hd2 : d < 2
        · obtain ⟨g, rfl, hg1, hg2, ⟨x, hg3, hx⟩, hg4⟩ := (HS.out.kept hbel) (k * 2 + d) (by omega)
          have hx := hx (by omega)
          rw [show (m : Int) + ((k * 2 + d : Nat) : Int) = (m : Int) + 2 * k + d by omega] at hx
          subst hx
          clear hbel
          have i0 : (0 : Int) ≤ (k : Int) := by omega
          have i1 : (k : Int) < (n : Int) := by omega
          have i2 : (0 : Int) ≤ (d : Int) := by omega
          have i3 : (d : Int) < 2 := by omega
          go_wp2_with fail
          go_roundg (2 - (d + 1))
          case rel => exact ⟨d + 1, by omega, by go_num, by go_num, HB.out⟩
          case measure => have := HD.out; omega
        · obtain rfl : d = 2 := by have := HD.out; omega
          have hd3 : ¬ ((2 : Nat) : Int) < 2 := by omega
          clear hbel
          go_wp2_with fail
          go_roundg (n - (k + 1))
          case rel => exact ⟨k + 1, by omega, by go_num, by go_num, HB.out⟩
          case measure => have := HK.out; omega
  · obtain rfl : k = n := by have := HK.out; omega
    go_wp2_with fail
    go_ret
    exact ⟨rfl, HB.out⟩
def Fo2 (g o g' o' : Nat) (x y : Int) (w W : World) : Prop := ((W.cell? ⟨g, o, none⟩ = some (.int .i64 x) ∧ W.cell? ⟨g, o + 1, none⟩ = some (.int .i64 y)) ∧ (W.cell? ⟨g', o', none⟩ = some (.int .i64 x) ∧ W.cell? ⟨g', o' + 1, none⟩ = some (.int .i64 y))) ∧ (g < W.heap.size ∧ g' < W.heap.size) ∧ Below w.heap.size w W
theorem Fo2.start {g o g' o' : Nat} {x y : Int} {w W : World} (h : Fo2 g o g' o' x y w W) : Fo2 g o g' o' x y w W.drew := ⟨h.1, h.2.1, h.2.2.drew⟩
theorem Fo2.step {g o g' o' : Nat} {x y : Int} {w W W' : World} (h : Fo2 g o g' o' x y w W) (hb : Below W.heap.size W W') : Fo2 g o g' o' x y w W' := by
 obtain ⟨⟨⟨h0, h1⟩, h2, h3⟩, ⟨q, q'⟩, hB⟩ := h
 exact ⟨⟨⟨(hb.cell (p := ⟨g, o, none⟩) q).trans h0, (hb.cell (p := ⟨g, o + 1, none⟩) q).trans h1⟩, (hb.cell (p := ⟨g', o', none⟩) q').trans h2, (hb.cell (p := ⟨g', o' + 1, none⟩) q').trans h3⟩, ⟨Nat.lt_of_lt_of_le q hb.size, Nat.lt_of_lt_of_le q' hb.size⟩, hB.trans (hb.mono hB.size)⟩
theorem Fo2.below {g o g' o' : Nat} {x y : Int} {w W : World} (h : Fo2 g o g' o' x y w W) : Below w.heap.size w W := h.2.2
set_option maxRecDepth 100000 in
set_option maxHeartbeats 1000000 in
theorem eqPrs_any (a a' : Option Addr) (cap cap' : Nat) (ps : List (Nat × Nat)) (w : World) (hn : ps.length ≤ 2000000) (h1 : PrR w ps a) (h2 : PrR w ps a') :
 Calls Tryd.prog 23 #[.slice a ps.length cap, .slice a' ps.length cap'] w fun e w' => e = .returned (.bool true) ∧ Below w.heap.size w w' := by
 have H1 := Lib.hid h1
 have H2 := Lib.hid h2
 clear h1 h2
 go_enter Tryd.func23, Tryd.ntmps23
 go_wp2_with fail
 go_loopw [5] (fun i wr => ∃ k : Nat, k ≤ ps.length ∧ i = .int .i64 (k : Int) ∧ Below w.heap.size w wr) (fun i _ => ps.length - (intOf i).toNat)
 case atStart => exact ⟨0, Nat.zero_le _, rfl, Below.refl _ _⟩
 case round =>
  obtain ⟨k, hkl, rfl, hb⟩ := hrel
  have HB := Lib.hid hb
  clear hb
  by_cases hlt : k < ps.length
  · obtain ⟨g, rfl, hg2, hg3, hg4⟩ := (H1.out.kept HB.out) k hlt
    obtain ⟨g', rfl, hg2', hg3', hg4'⟩ := (H2.out.kept HB.out) k hlt
    generalize ps[k] = p at *
    obtain ⟨x, y⟩ := p
    have HO := Lib.hid (fun W => eqPr_any (x : Int) (y : Int) W)
    have HT : Fo2 g (k * 2) g' (k * 2) x y w _ := ⟨⟨⟨hg3, hg4⟩, hg3', hg4'⟩, ⟨hg2, hg2'⟩, HB.out⟩
    have HT := Lib.hid HT
    clear hg3 hg3' hg4 hg4' HB
    have i0 : (0 : Int) ≤ (k : Int) := by omega
    have i1 : (k : Int) < (ps.length : Int) := by omega
    go_wp2_with fail
    go_region_held3 (fun w' => ((w'.cell? ⟨g, k * 2, none⟩ = some (.int .i64 (x : Int)) ∧ w'.cell? ⟨g, k * 2 + 1, none⟩ = some (.int .i64 (y : Int))) ∧ (w'.cell? ⟨g', k * 2, none⟩ = some (.int .i64 (x : Int)) ∧ w'.cell? ⟨g', k * 2 + 1, none⟩ = some (.int .i64 (y : Int)))) ∧ (g < w'.heap.size ∧ g' < w'.heap.size) ∧ Below w.heap.size w w') (first | exact HT.out.start | exact Fo2.step HT.out.start (by assumption)) (first | (go_at_call 48; refine (HO.out _).mono ?_; rintro e w2 ⟨rfl, hb2⟩))
    go_wp2_with fail
    go_roundw
    case rel => exact ⟨k + 1, by omega, by go_num, Fo2.below (g := g) (o := k * 2) (g' := g') (o' := k * 2) (x := x) (y := y) (by assumption)⟩
    case measure => simp [intOf]; omega
  · obtain rfl : k = ps.length := by omega
    go_wp2_with fail
    go_ret
    exact ⟨rfl, HB.out⟩
end Go.Proofs.YtppfnaenamcnpaaDoor.kit
