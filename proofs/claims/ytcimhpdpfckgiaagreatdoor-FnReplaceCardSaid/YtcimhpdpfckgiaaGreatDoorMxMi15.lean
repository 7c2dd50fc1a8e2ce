/-
  The table by which bits are told, as this seat's rows list it. Conditions: each theorem names its own.
-/
import Derived.Test.YtcimhpdpfckgiaaGreatDoorMxMi11
import Derived.Lib.LaidTab
import Derived.Laws.Rows
import Derived.LaidSub
set_option linter.unusedVariables false
set_option linter.unusedSimpArgs false
open Go.ChangeShapes Go.WideShapes Go.ChangeAt Go.RowKit
namespace Go.Proofs.YtcimhpdpfckgiaaGreatDoor.kit
theorem gBits : Tryz.prog.globalNamed "math/bits.deBruijn64tab" = some 0 := by kernel_rfl
theorem gBitsType : (Tryz.prog.globals[0]?).map (·.type) = some 121 := by kernel_rfl
theorem cellsB64 : Tryz.prog.cellsOf 121 = 64 := by kernel_rfl
theorem cellsB1 : Tryz.prog.cellsOf 5 = 1 := by kernel_rfl
theorem bt_of {laid : List (String × DataW Unit)} {W : World} (h : laidMet Tryz.prog laid W) (e : laid.filter (fun x => x.1 == "math/bits.deBruijn64tab") = [("math/bits.deBruijn64tab", Lib.tabData .u8 (Lib.deBruijn64tab.map fun n : Nat => (n : Int)))]) : BT W := by
 have h2 := h.filter (fun x => x.1 == "math/bits.deBruijn64tab")
 rw [e] at h2
 have h3 := Lib.tabIs_of_head (rest := []) gBits gBitsType Tryz.underlying121 Tryz.underlying5 cellsB1 cellsB64 h2
 intro j hj
 have hl : (Lib.deBruijn64tab.map fun n : Nat => (n : Int)).length = 64 := by decide
 have h4 := h3.cell gBits j (by omega)
 rw [h4, List.getD_eq_getElem?_getD, List.getElem?_map, List.getD_eq_getElem?_getD]
 have hl2 : Lib.deBruijn64tab.length = 64 := by decide
 rw [List.getElem?_eq_getElem (by omega)]; rfl
end Go.Proofs.YtcimhpdpfckgiaaGreatDoor.kit
namespace Go.Proofs.YtcimhpdpfckgiaaGreatDoor.kit
attribute [local go_sem] Oper.semAt_some
def BegsPost (s : ByteArray) (t : RT) (w : World) (e : Ending) (w' : World) : Prop :=
 ∃ sk ws a' c', e = .returned (setV sk a' ws.length c') ∧ SetB ((s.size + 1) / 64 + 1) sk ws ∧ WordsAt w' ws a' ∧ (∀ j, memS sk ws j ↔ RT.ok t = true ∧ ∃ k, k ≤ s.size ∧ RT.M s.data.toList t j k) ∧ Below w.heap.size w w' ∧ ∀ x, a' = some x → w.heap.size ≤ x.block ∧ x.block < w'.heap.size
set_option maxRecDepth 100000 in
set_option maxHeartbeats 4000000 in
theorem beginnings_any (t : RT) (s : ByteArray) (a : Option Addr) (cap : Nat) (w : World) (hs : s.size ≤ 1048576) (hc : RT.cost t ≤ 1048576) (hk : Kids 0 w t.kids a) (hT : BT w) :
 Calls Tryz.prog 51 #[reV t a cap, .string s] w (BegsPost s t w) := by
 have HO := qd (fun W (hW : Below w.heap.size w W) => implReOk_any t a cap W (hk.kept (Nat.le_refl _) hW) hc)
 have HB := qd (fun o p => below2a w o p)
 obtain ⟨w2, hw2⟩ : ∃ w2, w2 = (w.alloc (.cells #[.int .i64 t.kind, .string t.set, .bool t.neg, .int .i64 t.low, .int .i64 t.high, .slice a t.kids.length cap] 26)).alloc (.cells #[.int .i64 0, .slice none 0 0] 68) := ⟨_, rfl⟩
 have hb2 : Below w.heap.size w w2 := by rw [hw2]; exact below2a w _ _
 have hz2 : w2.heap.size = w.heap.size + 2 := by rw [hw2]; simp
 have hc2 : ∀ j, w2.cell? ⟨w.heap.size + 1, j, none⟩ = #[Value.int .i64 0, .slice none 0 0][j]? := fun j => by rw [hw2]; exact World.cell?_alloc_at _ _ _ _ (by simp)
 have hf2 : ∀ j, w2.frozen? ⟨w.heap.size + 1, j, none⟩ = false := fun j => by rw [hw2]; exact World.frozen?_alloc_at _ _ _ _ (by simp)
 have hx2 : Box w.heap.size t.kind t.set t.neg t.low t.high t.kids a cap w2 := by rw [hw2]; exact (Box.start w _).step ((Below.refl _ _).alloc (Nat.le_refl _) _)
 have HX2 := qd hx2
 have HB2 := qd hb2
 have HC2 := qd (And.intro hz2 (And.intro hc2 hf2))
 have HW2 := qd hw2
 cases hok : RT.ok t
 · rw [hok] at HO
   have HPO := qd (show ∀ w', Below w.heap.size w w' → BegsPost s t w (.returned (.agg #[.int .i64 0, .slice none 0 0])) w' from fun w' hb => ⟨0, [], none, 0, rfl, SetB.nil _ _ (by omega), fun j hj => absurd hj (Nat.not_lt_zero j), fun j => by rw [hok]; simp [memS_nil], hb, fun x hx => by cases hx⟩)
   clear hw2 hb2 hz2 hc2 hf2 hx2 hk hT hok
   generalize BegsPost s t w = Q at *
   obtain ⟨k, ss, n, lo, hi, ts⟩ := t
   unfold reV at *
   simp only [RT.kind, RT.set, RT.neg, RT.low, RT.high, RT.kids] at *
   obtain ⟨⟨x0, x1, x2, x3, x4, x5⟩, _⟩ := HX2.out
   go_enter Tryz.func51, Tryz.ntmps51
   go_wp2_with fail
   rw [← HW2.out]
   refine (HO.out _ HB2.out).mono ?_
   rintro e w3 ⟨rfl, hb3⟩
   have t0 := (hb3.cell (p := ⟨w.heap.size + 1, 0, none⟩) (by have := HC2.out.1; show w.heap.size + 1 < _; omega)).trans (HC2.out.2.1 0)
   have t1 := (hb3.cell (p := ⟨w.heap.size + 1, 1, none⟩) (by have := HC2.out.1; show w.heap.size + 1 < _; omega)).trans (HC2.out.2.1 1)
   have u0 := (hb3.frozen (p := ⟨w.heap.size + 1, 0, none⟩) (by have := HC2.out.1; show w.heap.size + 1 < _; omega)).trans (HC2.out.2.2 0)
   have u1 := (hb3.frozen (p := ⟨w.heap.size + 1, 1, none⟩) (by have := HC2.out.1; show w.heap.size + 1 < _; omega)).trans (HC2.out.2.2 1)
   simp only [List.getElem?_toArray, List.getElem?_cons_succ, List.getElem?_cons_zero] at t0 t1
   have HB3 := qd (HB2.out.trans (hb3.mono HB2.out.size))
   clear hb3 x0 x1 x2 x3 x4 x5
   obtain ⟨y0, y1⟩ := two_put w3 (w.heap.size + 1) t0 t1 (.int .i64 0) (.slice none 0 0)
   have HY := qd (And.intro y0 y1)
   clear y0 y1
   go_wp2_with fail
   obtain ⟨y0, y1⟩ := HY.out
   refine bodyPost_ret (v := .agg #[.int .i64 0, .slice none 0 0]) (by simp [results, Tryz.results51, go_sem, y0, y1]) rfl (HPO.out _ ((HB3.out.setCell (by simp) _).setCell (by simp) _))
 · rw [hok] at HO
   have hg := RT.ok_good hok
   have hsz := RT.ok_sz hok
   obtain ⟨N, hN⟩ : ∃ N, N = (s.size + 1) / 64 + 1 := ⟨_, rfl⟩
   have env : LayEnv w.heap.size N s w := ⟨by omega, hs, by omega, hT.lt, hT, rfl⟩
   have HL := qd (fun (W : World) (hW : Below w.heap.size w W) => layNet_all w.heap.size N s true w env t hg (by omega) a cap W hW hk)
   have HP := qd (show ∀ W, Calls Tryz.prog 34 #[.int .i64 0, .int .i64 (s.size : Int)] W (NewSet N (fun j => 0 ≤ j ∧ j ≤ s.size) W) from fun W => places_any N 0 s.size W env.n9 (by omega) (by omega))
   have HEN := qd (And.intro env.n9 (And.intro hs (And.intro hsz (And.intro hN hok))))
   have HPO := qd (show ∀ sk ws a' c' w', SetB N sk ws → WordsAt w' ws a' → (∀ j, memS sk ws j ↔ ∃ k, k ≤ s.size ∧ RT.M s.data.toList t j k) → Below w.heap.size w w' → (∀ x, a' = some x → w.heap.size ≤ x.block ∧ x.block < w'.heap.size) → BegsPost s t w (.returned (.agg #[.int .i64 (sk : Int), .slice a' ws.length c'])) w' from fun sk ws a' c' w' h1 h2 h3 h4 h5 => ⟨sk, ws, a', c', rfl, by rw [← hN]; exact h1, h2, fun j => by rw [hok, h3 j]; simp, h4, h5⟩)
   clear hw2 hb2 hz2 hc2 hf2 hx2 hk hT hok hsz hN env hg hs hc
   generalize BegsPost s t w = Q at *
   obtain ⟨k, ss, n, lo, hi, ts⟩ := t
   unfold reV at *
   simp only [RT.kind, RT.set, RT.neg, RT.low, RT.high, RT.kids] at *
   obtain ⟨⟨x0, x1, x2, x3, x4, x5⟩, _⟩ := HX2.out
   go_enter Tryz.func51, Tryz.ntmps51
   go_wp2_with fail
   rw [← HW2.out]
   refine (HO.out _ HB2.out).mono ?_
   rintro e w3 ⟨rfl, hb3⟩
   have HX3 := qd (HX2.out.step hb3)
   have HC3 := qd (show (∀ j, w3.cell? ⟨w.heap.size + 1, j, none⟩ = #[Value.int .i64 0, .slice none 0 0][j]?) ∧ (∀ j, w3.frozen? ⟨w.heap.size + 1, j, none⟩ = false) ∧ w.heap.size + 2 ≤ w3.heap.size from ⟨fun j => (hb3.cell (p := ⟨w.heap.size + 1, j, none⟩) (by have := HC2.out.1; show w.heap.size + 1 < _; omega)).trans (HC2.out.2.1 j), fun j => (hb3.frozen (p := ⟨w.heap.size + 1, j, none⟩) (by have := HC2.out.1; show w.heap.size + 1 < _; omega)).trans (HC2.out.2.2 j), by have := HC2.out.1; have := hb3.size; omega⟩)
   have HB3 := qd (HB2.out.trans (hb3.mono HB2.out.size))
   clear hb3 x0 x1 x2 x3 x4 x5
   obtain ⟨⟨x0, x1, x2, x3, x4, x5⟩, _⟩ := HX3.out
   go_wp2_with fail
   refine (HL.out w3 HB3.out).mono ?_
   rintro e w4 ⟨nb, D, Fs, F, f, rfl, hn, hf, h4, hl, hE, hln, hb4⟩
   have HNN := qd (And.intro hn (And.intro hf (And.intro h4 (And.intro hl (And.intro hE hln)))))
   have HB4 := qd hb4
   clear hn hf h4 hl hE hln hb4 HL x0 x1 x2 x3 x4 x5
   go_wp2_with fail
   refine (HP.out w4).mono ?_
   rintro e w5 ⟨sk, ws, aw, cw, rfl, hb5, hsb, hwa, hal, hmm⟩
   have HP5 := qd (And.intro hb5 (And.intro hsb (And.intro hwa hmm)))
   clear hb5 hsb hwa hal hmm
   unfold setV
   go_wp2_with fail
   have HA := qd (net_asked HEN.out.1 HNN.out.1 HNN.out.2.1 HNN.out.2.2.1 HNN.out.2.2.2.1 HNN.out.2.2.2.2.1 (by have := HNN.out.2.2.2.2.2; have := HEN.out.2.2.1; omega) HB3.out.size HB4.out HP5.out.1 sk ws aw cw HP5.out.2.1 HP5.out.2.2.1 (fun j hj => ((HP5.out.2.2.2 j).1 hj).2))
   unfold setV at HA
   refine HA.out.mono ?_
   rintro e w6 ⟨sk6, ws6, a6, c6, rfl, h6a, h6b, h6c, h6d, h6e, h6f⟩
   have t0 := (h6e.cell (p := ⟨w.heap.size + 1, 0, none⟩) (by have := HC3.out.2.2; show w.heap.size + 1 < _; omega)).trans (HC3.out.1 0)
   have t1 := (h6e.cell (p := ⟨w.heap.size + 1, 1, none⟩) (by have := HC3.out.2.2; show w.heap.size + 1 < _; omega)).trans (HC3.out.1 1)
   have u0 := (h6e.frozen (p := ⟨w.heap.size + 1, 0, none⟩) (by have := HC3.out.2.2; show w.heap.size + 1 < _; omega)).trans (HC3.out.2.1 0)
   have u1 := (h6e.frozen (p := ⟨w.heap.size + 1, 1, none⟩) (by have := HC3.out.2.2; show w.heap.size + 1 < _; omega)).trans (HC3.out.2.1 1)
   simp only [List.getElem?_toArray, List.getElem?_cons_succ, List.getElem?_cons_zero] at t0 t1
   obtain ⟨n6, hn6⟩ : ∃ n6, n6 = ws6.length := ⟨_, rfl⟩
   have HN6 := qd hn6
   rw [← hn6]
   have H6 := qd (And.intro h6a (And.intro h6b (And.intro h6c (And.intro (HB3.out.trans (h6e.mono HB3.out.size)) h6f))))
   obtain ⟨y0, y1⟩ := two_put w6 (w.heap.size + 1) t0 t1 (.int .i64 (sk6 : Int)) (.slice a6 n6 c6)
   have HY := qd (And.intro y0 y1)
   clear y0 y1 h6a h6b h6c h6d h6e h6f hn6
   unfold setV
   go_wp2_with fail
   obtain ⟨y0, y1⟩ := HY.out
   obtain ⟨g1, g2, g3, g4, g5⟩ := H6.out
   have hw3 := HB3.out.size
   have h32 := HC3.out.2.2
   refine bodyPost_ret (v := .agg #[.int .i64 (sk6 : Int), .slice a6 n6 c6]) (by simp [results, Tryz.results51, go_sem, y0, y1]) rfl ?_
   rw [HN6.out]
   refine HPO.out sk6 ws6 a6 c6 _ g1 ((g2.set _ _ (fun p hp => by have := (g5 p hp).1; show p.block ≠ w.heap.size + 1; omega)).set _ _ (fun p hp => by have := (g5 p hp).1; show p.block ≠ w.heap.size + 1; omega)) (fun j => (g3 j).trans ⟨fun ⟨i, h1, h2⟩ => ⟨i, ((HP5.out.2.2.2 i).1 h1).2, h2⟩, fun ⟨i, h1, h2⟩ => ⟨i, (HP5.out.2.2.2 i).2 ⟨Nat.zero_le _, h1⟩, h2⟩⟩) ((g4.setCell (by simp) _).setCell (by simp) _) (fun x hx => by have := g5 x hx; simp; omega)
end Go.Proofs.YtcimhpdpfckgiaaGreatDoor.kit
