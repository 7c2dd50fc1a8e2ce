/-
  Contracts of laws.markTokenS and laws.heldTokenS over this seat's translation: words are marked, and their marks are found again. Conditions: at most 2000000 words, marks from 1 to 10000000.
-/
import Derived.Test.YtalobgebdpaecaaDoorTok2
import Derived.Test.YtalobgebdpaecaaDoorMark
namespace Go.Proofs.YtalobgebdpaecaaDoor.kit
open Go.ChangeShapes Go.WideShapes Go.ChangeAt Go.RowKit
set_option linter.unusedVariables false

def mkT (m j : Nat) : Tok := ⟨(m : Int) + 4 * j, ⟨(mt (m + 4 * j + 1)).toArray⟩, (m : Int) + 4 * j + 2, (m : Int) + 4 * j + 3⟩
theorem TokF.fst {B : Nat} {w : World} {a : Option Addr} {n : Nat} {f : Nat → Tok} (h : TokF B w a n f) (k : Nat) (hk : k < n) : ∃ g, a = some ⟨g, 0, none⟩ ∧ B ≤ g ∧ g < w.heap.size ∧ TokC w g (k * 4) (f k) ∧ w.frozen? ⟨g, k * 4, none⟩ = false ∧ w.frozen? ⟨g, k * 4 + 1, none⟩ = false ∧ w.frozen? ⟨g, k * 4 + 2, none⟩ = false ∧ w.frozen? ⟨g, k * 4 + 3, none⟩ = false := by
  obtain ⟨g, e, h1, h2, h3, h4⟩ := h k hk
  exact ⟨g, e, h1, h2, h3, h4 0 (by omega), h4 1 (by omega), h4 2 (by omega), h4 3 (by omega)⟩
/-- One cell of the k-th word is written. -/
theorem TokF.put {B : Nat} {w : World} {g n : Nat} {f : Nat → Tok} (h : TokF B w (some ⟨g, 0, none⟩) n f) (k d : Nat) (hk : k < n) (hd : d < 4) (v : Value) (t' : Tok)
    (ht : TokC (w.setCell ⟨g, k * 4 + d, none⟩ v) g (k * 4) t') : TokF B (w.setCell ⟨g, k * 4 + d, none⟩ v) (some ⟨g, 0, none⟩) n (fun j => if j = k then t' else f j) := by
  intro j hj
  obtain ⟨g', e, h1, h2, h3, h4⟩ := h j hj
  cases e
  refine ⟨g, rfl, h1, by simpa using h2, ?_, fun d hd => by rw [World.frozen?_setCell]; exact h4 d hd⟩
  by_cases e : j = k
  · subst e; simpa using ht
  · simp only [e, if_false]
    obtain ⟨c0, c1, c2, c3⟩ := h3
    exact ⟨by rw [sett_off _ _ _ _ _ (by omega)]; exact c0, by rw [sett_off _ _ _ _ _ (by omega)]; exact c1, by rw [sett_off _ _ _ _ _ (by omega)]; exact c2, by rw [sett_off _ _ _ _ _ (by omega)]; exact c3⟩
theorem TokC.put0 {w : World} {g o : Nat} {t : Tok} (h : TokC w g o t) (x : Int) : TokC (w.setCell ⟨g, o, none⟩ (.int .i64 x)) g o { t with k := x } := by
  obtain ⟨c0, c1, c2, c3⟩ := h
  exact ⟨World.cell?_setCell_same w _ _ c0, by rw [sett_off _ _ _ _ _ (by omega)]; exact c1, by rw [sett_off _ _ _ _ _ (by omega)]; exact c2, by rw [sett_off _ _ _ _ _ (by omega)]; exact c3⟩
theorem TokC.put1 {w : World} {g o : Nat} {t : Tok} (h : TokC w g o t) (x : ByteArray) : TokC (w.setCell ⟨g, o + 1, none⟩ (.string x)) g o { t with s := x } := by
  obtain ⟨c0, c1, c2, c3⟩ := h
  exact ⟨by rw [sett_off _ _ _ _ _ (by omega)]; exact c0, World.cell?_setCell_same w _ _ c1, by rw [sett_off _ _ _ _ _ (by omega)]; exact c2, by rw [sett_off _ _ _ _ _ (by omega)]; exact c3⟩
theorem TokC.put2 {w : World} {g o : Nat} {t : Tok} (h : TokC w g o t) (x : Int) : TokC (w.setCell ⟨g, o + 2, none⟩ (.int .i64 x)) g o { t with n := x } := by
  obtain ⟨c0, c1, c2, c3⟩ := h
  exact ⟨by rw [sett_off _ _ _ _ _ (by omega)]; exact c0, by rw [sett_off _ _ _ _ _ (by omega)]; exact c1, World.cell?_setCell_same w _ _ c2, by rw [sett_off _ _ _ _ _ (by omega)]; exact c3⟩
theorem TokC.put3 {w : World} {g o : Nat} {t : Tok} (h : TokC w g o t) (x : Int) : TokC (w.setCell ⟨g, o + 3, none⟩ (.int .i64 x)) g o { t with l := x } := by
  obtain ⟨c0, c1, c2, c3⟩ := h
  exact ⟨by rw [sett_off _ _ _ _ _ (by omega)]; exact c0, by rw [sett_off _ _ _ _ _ (by omega)]; exact c1, by rw [sett_off _ _ _ _ _ (by omega)]; exact c2, World.cell?_setCell_same w _ _ c3⟩

set_option maxRecDepth 100000 in
set_option maxHeartbeats 1000000 in
theorem markToks_any (B : Nat) (a : Option Addr) (cap n m : Nat) (f : Nat → Tok) (w : World) (hB : B ≤ w.heap.size) (hn : n ≤ 2000000) (hm0 : 0 < m) (hm : m ≤ 10000000) (hsl : TokF B w a n f) :
    Calls Tryd.prog 23 #[.slice a n cap, .int .i64 (m : Int)] w fun e w' => e = .returned (.int .i64 ((m : Int) + 4 * n)) ∧ TokF B w' a n (mkT m) ∧ Below B w w' := by
  have HS := Lib.hid hsl; clear hsl
  go_enter Tryd.func23, Tryd.ntmps23
  go_wp2
  go_loopw [1, 5] (fun q i wr => ∃ k : Nat, k ≤ n ∧ i = .int .i64 (k : Int) ∧ q = .int .i64 ((m : Int) + 4 * k) ∧ TokF B wr a n (fun j => if j < k then mkT m j else f j) ∧ Below B w wr) (fun _ i _ => n - (intOf i).toNat)
  case atStart => exact ⟨0, Nat.zero_le _, rfl, by go_num, by simpa using HS.out, Below.refl _ _⟩
  case round =>
    obtain ⟨k, hk, rfl, rfl, hsl, hbel⟩ := hrel
    have HB := Lib.hid hbel
    have hz := hbel.size
    have HL := Lib.hid hsl
    clear hsl hbel
    by_cases hlt : k < n
    · obtain ⟨g, rfl, hg1, hg2, hg3, f0, f1, f2, f3⟩ := HL.out.fst k hlt
      have P0 := Lib.hid (HL.out.put k 0 hlt (by omega) _ _ (hg3.put0 ((m : Int) + 4 * k)))
      have C0 := Lib.hid (hg3.put0 ((m : Int) + 4 * k))
      have HM := Lib.hid (fun W => markText_any (m + 4 * k + 1) W (by omega) (by omega))
      rw [show ((m + 4 * k + 1 : Nat) : Int) = (m : Int) + 4 * k + 1 by omega] at HM
      obtain ⟨h0, h1, h2, h3⟩ := hg3
      go_wp2_with fail
      refine (HM.out _).mono ?_
      rintro e w1 ⟨rfl, hb1⟩
      have hs1 : g < (wr.setCell ⟨g, k * 4, none⟩ (.int .i64 ((m : Int) + 4 * k))).heap.size := by simpa using hg2
      have D1 := C0.out.of fun o => hb1.cell (p := ⟨g, o, none⟩) hs1
      have Q1 := Lib.hid (P0.out.kept hb1)
      have g2' : ∀ d, w1.frozen? ⟨g, k * 4 + d, none⟩ = wr.frozen? ⟨g, k * 4 + d, none⟩ := fun d => (hb1.frozen (p := ⟨g, k * 4 + d, none⟩) hs1).trans (World.frozen?_setCell _ _ _ _)
      have f1' := (g2' 1).trans f1
      have f2' := (g2' 2).trans f2
      have f3' := (g2' 3).trans f3
      have P1 := Lib.hid (Q1.out.put k 1 hlt (by omega) _ _ (D1.put1 ⟨(mt (m + 4 * k + 1)).toArray⟩))
      have P2 := Lib.hid (P1.out.put k 2 hlt (by omega) _ _ ((D1.put1 ⟨(mt (m + 4 * k + 1)).toArray⟩).put2 ((m : Int) + 4 * k + 2)))
      have P3 := Lib.hid (P2.out.put k 3 hlt (by omega) _ _ (((D1.put1 ⟨(mt (m + 4 * k + 1)).toArray⟩).put2 ((m : Int) + 4 * k + 2)).put3 ((m : Int) + 4 * k + 3)))
      have HF := Lib.hid (P3.out.congr (f' := fun j => if j < k + 1 then mkT m j else f j) (fun j hj => by
          by_cases e : j = k
          · subst e; simp [mkT]
          · by_cases e2 : j < k
            · simp [e, e2, show j < k + 1 by omega]
            · simp [e, e2, show ¬ j < k + 1 by omega]))
      have HB1 := Lib.hid (((((HB.out.setCell (p := ⟨g, k * 4, none⟩) hg1 (.int .i64 ((m : Int) + 4 * k))).trans (hb1.mono (by have := hb1.size; simp; omega))).setCell (p := ⟨g, k * 4 + 1, none⟩) hg1 (.string ⟨(mt (m + 4 * k + 1)).toArray⟩)).setCell (p := ⟨g, k * 4 + 2, none⟩) hg1 (.int .i64 ((m : Int) + 4 * k + 2))).setCell (p := ⟨g, k * 4 + 3, none⟩) hg1 (.int .i64 ((m : Int) + 4 * k + 3)))
      obtain ⟨d0, d1, d2, d3⟩ := D1
      clear hb1 P0 P1 P2 P3 Q1 C0 HM h0 h1 h2 h3 g2'
      unfold eS
      generalize mt (m + 4 * k + 1) = x at *
      go_wp2_with fail
      go_roundw
      case rel => exact ⟨k + 1, by omega, by go_num, by go_num, HF.out, HB1.out⟩
      case measure => simp [intOf]; omega
    · go_wp2
      go_ret
      obtain rfl : k = n := by omega
      exact ⟨rfl, HL.out.congr (fun j hj => by simp [hj]), HB.out⟩

def Four (g o : Nat) (t : Tok) (w W : World) : Prop := (W.cell? ⟨g, o, none⟩ = some (.int .i64 t.k) ∧ W.cell? ⟨g, o + 1, none⟩ = some (.string t.s) ∧ W.cell? ⟨g, o + 2, none⟩ = some (.int .i64 t.n) ∧ W.cell? ⟨g, o + 3, none⟩ = some (.int .i64 t.l)) ∧ g < W.heap.size ∧ Below w.heap.size w W
theorem Four.start {g o : Nat} {t : Tok} {w W : World} (h : Four g o t w W) : Four g o t w W.drew := ⟨h.1, h.2.1, h.2.2.drew⟩
theorem Four.step {g o : Nat} {t : Tok} {w W W' : World} (h : Four g o t w W) (hb : Below W.heap.size W W') : Four g o t w W' := by
  obtain ⟨⟨h0, h1, h2, h3⟩, q, hB⟩ := h
  have e : ∀ j, W'.cell? ⟨g, j, none⟩ = W.cell? ⟨g, j, none⟩ := fun j => hb.cell (p := ⟨g, j, none⟩) q
  exact ⟨⟨(e _).trans h0, (e _).trans h1, (e _).trans h2, (e _).trans h3⟩, Nat.lt_of_lt_of_le q hb.size, hB.trans (hb.mono hB.size)⟩
theorem Four.below {g o : Nat} {t : Tok} {w W : World} (h : Four g o t w W) : Below w.heap.size w W := h.2.2
set_option maxRecDepth 100000 in
set_option maxHeartbeats 1000000 in
theorem heldToks_any (B : Nat) (a : Option Addr) (cap n m : Nat) (w : World) (hn : n ≤ 2000000) (hm0 : 0 < m) (hm : m ≤ 10000000) (hsl : TokF B w a n (mkT m)) :
    Calls Tryd.prog 24 #[.slice a n cap, .int .i64 (m : Int)] w fun e w' => e = .returned (.int .i64 ((m : Int) + 4 * n)) ∧ Below w.heap.size w w' := by
  have HS := Lib.hid hsl; clear hsl
  go_enter Tryd.func24, Tryd.ntmps24
  go_wp2
  go_loopw [1, 5] (fun q i wr => ∃ k : Nat, k ≤ n ∧ i = .int .i64 (k : Int) ∧ q = .int .i64 ((m : Int) + 4 * k) ∧ Below w.heap.size w wr) (fun _ i _ => n - (intOf i).toNat)
  case atStart => exact ⟨0, Nat.zero_le _, rfl, by go_num, Below.refl _ _⟩
  case round =>
    obtain ⟨k, hk, rfl, rfl, hbel⟩ := hrel
    have HB := Lib.hid hbel
    have hz := hbel.size
    clear hbel
    by_cases hlt : k < n
    · obtain ⟨g, rfl, hg1, hg2, hg3, _⟩ := (HS.out.kept HB.out).fst k hlt
      have HM := Lib.hid (fun W => markText_any (m + 4 * k + 1) W (by omega) (by omega))
      rw [show ((m + 4 * k + 1 : Nat) : Int) = (m : Int) + 4 * k + 1 by omega] at HM
      have HT : Hid (Four g (k * 4) (mkT m k) w wr) := Lib.hid ⟨hg3, hg2, HB.out⟩
      obtain ⟨h0, h1, h2, h3⟩ := hg3
      unfold mkT at HT h0 h1 h2 h3
      simp only [eS] at HM h0 h1 h2 h3
      generalize mt (m + 4 * k + 1) = x at *
      have i0 : (0 : Int) ≤ (k : Int) := by omega
      have i1 : (k : Int) < (n : Int) := by omega
      go_wp2
      go_region_held3 (fun w' => (w'.cell? ⟨g, k * 4, none⟩ = some (.int .i64 ((m : Int) + 4 * k)) ∧ w'.cell? ⟨g, k * 4 + 1, none⟩ = some (.string ⟨x.toArray⟩) ∧ w'.cell? ⟨g, k * 4 + 2, none⟩ = some (.int .i64 ((m : Int) + 4 * k + 2)) ∧ w'.cell? ⟨g, k * 4 + 3, none⟩ = some (.int .i64 ((m : Int) + 4 * k + 3))) ∧ g < w'.heap.size ∧ Below w.heap.size w w') (first | exact HT.out.start | exact Four.step HT.out.start (by assumption)) (first | (go_at_call 48; refine (HM.out _).mono ?_; rintro e w2 ⟨rfl, hb2⟩))
      go_wp2
      go_roundw
      case rel => exact ⟨k + 1, by omega, by go_num, by go_num, Four.below (g := g) (o := k * 4) (t := ⟨(m : Int) + 4 * k, ⟨x.toArray⟩, (m : Int) + 4 * k + 2, (m : Int) + 4 * k + 3⟩) (by assumption)⟩
      case measure => simp [intOf]; omega
    · go_wp2
      go_ret
      obtain rfl : k = n := by omega
      exact ⟨rfl, HB.out⟩
end Go.Proofs.YtalobgebdpaecaaDoor.kit
