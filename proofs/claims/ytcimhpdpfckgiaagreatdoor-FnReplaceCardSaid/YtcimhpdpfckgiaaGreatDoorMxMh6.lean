/-
  Contract of manyPart's pass over this seat's translation. Conditions: each theorem names its own.
-/
import Derived.Test.YtcimhpdpfckgiaaGreatDoorMxMq1
import Derived.Test.YtcimhpdpfckgiaaGreatDoorMxMh5
import Derived.StillTailTactics
set_option linter.unusedVariables false
namespace Go.Proofs.YtcimhpdpfckgiaaGreatDoor.kit
open Go.ChangeShapes Go.WideShapes Go.ChangeAt Go.RowKit Go.Shelf Go.ChangeMaps
set_option maxRecDepth 100000 in
set_option maxHeartbeats 4000000 in
theorem passM_any {K N L nb p lo hi : Nat} {R RM : Nat → Nat → Prop} {OkK : (Nat → Prop) → World → Prop} (hk : KidOk K N L nb R OkK) (hlo : lo ≤ hi) (hhi : hi ≤ 9) (hRM : ∀ (P : Nat → Prop) j, untilN R (img (rpow R lo) P) (hi - lo) j ↔ img RM P j)
 {FK F : Nat → Prop} {mb : Nat} {Ls : List KE} {w : World} (h : OkMs K N nb p lo hi RM OkK FK mb Ls w) (hF : ∀ k, F k ↔ ownM FK mb Ls k) (hFp : ¬ F p) (hK : K ≤ w.heap.size) (sk : Nat) (ws : List Nat) (a : Option Addr) (c : Nat) (hb : SetB N sk ws) (hw : WordsAt w ws a) (hL : ∀ j, memS sk ws j → j ≤ L) (ha : ∀ x, a = some x → x.block < w.heap.size ∧ ¬ F x.block) :
 Calls Tryz.prog 103 #[.pointer (some ⟨p, 0, none⟩), setV sk a ws.length c] w (PassPost N a F (img RM (memS sk ws)) (OkM K N nb p lo hi RM OkK) w) := by
 have hpF : ¬ FK p := fun e => hFp ((hF p).2 (.inl e))
 have hp := h.lt
 obtain ⟨n, hn⟩ : ∃ n, n = ws.length := ⟨_, rfl⟩
 obtain ⟨w2, hw2⟩ : ∃ w2, w2 = (w.alloc (.cells #[.int .i64 (sk : Int), .slice a n c] 68)).alloc (.cells #[.int .i64 0, .slice none 0 0] 68) := ⟨_, rfl⟩
 have hb2 : Below w.heap.size w w2 := by rw [hw2]; exact ((Below.refl _ w).alloc (Nat.le_refl _) _).alloc (by simp) _
 have hz2 : w2.heap.size = w.heap.size + 2 := by rw [hw2]; simp
 have s3 : Sb w2 w.heap.size sk a n c := by
  rw [hw2]; exact (Sb.made w sk a n c).keep (Below.heap_alloc _ _ _ (by simp))
 have x1 : ∀ j, w2.cell? ⟨w.heap.size + 1, j, none⟩ = #[Value.int .i64 0, .slice none 0 0][j]? := fun j => by
  rw [hw2, World.cell?_alloc_at _ _ _ _ (by simp)]
 have g1 : ∀ j, w2.frozen? ⟨w.heap.size + 1, j, none⟩ = false := fun j => by
  rw [hw2, World.frozen?_alloc_at _ _ _ _ (by simp)]
 have b4 : Sb w2 (w.heap.size + 1) 0 none 0 0 := ⟨x1 0, x1 1, g1 0, g1 1⟩
 have HKY := qd (key_any N sk ws a c w2 hk.n9 hb (hw.kept hb2))
 rw [← hn] at HKY
 -- lowTimes and highTimes at later worlds
 have HLOW := qd (fun (W : World) (hW : Below w.heap.size w W) => low_any hk p lo FK W sk ws a c (by omega) (Nat.le_trans hK hW.size) (hk.kept h.kid hK hW) (Nat.lt_of_lt_of_le hp hW.size) hpF ((hW.cell (p := ⟨p, 7, none⟩) hp).trans h.c7) ((hW.cell (p := ⟨p, 8, none⟩) hp).trans h.c8) hb (hw.kept hW) hL (fun x hx => ⟨by have := (ha x hx).1; have := hW.size; omega, fun y => (ha x hx).2 ((hF _).2 (.inl y))⟩))
 have HHIGH := qd (fun (W w5 : World) (hW : Below w.heap.size w W) (sk5 : Nat) (ws5 : List Nat) (a5 : Option Addr) (c5 : Nat) (F5 : Nat → Prop) (s5 : SetB N sk5 ws5) (v5 : WordsAt w5 ws5 a5) (l5 : ∀ j, memS sk5 ws5 j → j ≤ L) (o5 : OkK F5 w5) (i5 : ∀ k, F5 k → FK k ∨ W.heap.size ≤ k) (g5 : GuestChg FK W w5) (f5 : ∀ x, a5 = some x → x.block < w5.heap.size ∧ ¬ F5 x.block) =>
  have hpW : p < W.heap.size := Nat.lt_of_lt_of_le hp hW.size
  have hc := fun j => (g5.cell (j := j) hpW hpF).trans (hW.cell (p := ⟨p, j, none⟩) hp)
  high_any hk p lo hi F5 w5 sk5 ws5 a5 c5 hlo hhi (Nat.le_trans hK (Nat.le_trans hW.size g5.size)) o5 (Nat.lt_of_lt_of_le hpW g5.size) (fun e => (i5 _ e).elim hpF (fun y => by omega)) ((hc 7).trans h.c7) ((hc 8).trans h.c8) ((hc 9).trans h.c9) s5 v5 l5 f5)
 rw [← hn] at HLOW
 have d10 := h.c10
 have HH := qd h
 have HFF := qd hF
 have HFP := qd hFp
 have HPF := qd hpF
 have HKO := qd hk
 have HKK := qd hK
 have HSB := qd hb
 have HRM := qd hRM
 have HW2 := qd hw2
 have HZ2 := qd hz2
 have HB2 := qd hb2
 have HS3 := qd s3
 have HB4 := qd b4
 rw [← hn]
 have HN := qd hn
 have HP := qd hp
 clear h hF hFp hpF hk hK hb hRM hw2 hz2 hb2 s3 b4 x1 g1 hn hw hL ha d10 hp
 obtain ⟨k30, k31, _, _⟩ := HS3.out
 unfold setV
 go_enter Tryz.func103, Tryz.ntmps103
 go_wp2_with (fail)
 rw [← HW2.out]
 unfold setV at HKY HLOW HHIGH
 refine HKY.out.mono ?_
 rintro e w3 ⟨rfl, hb3⟩
 have HB3 := qd (HB2.out.trans (hb3.mono HB2.out.size))
 have S33 := HS3.out.keep (hb3.block _ HS3.out.lt)
 have S34 := HB4.out.keep (hb3.block _ HB4.out.lt)
 have d10 := (HB3.out.cell (p := ⟨p, 10, none⟩) HP.out).trans HH.out.c10
 have hlk := (HH.out.tab.keep (HB3.out.block mb HH.out.tab.lt)).look (keyT sk ws)
 have hz3 := hb3.size
 have HZ3 := qd (show w.heap.size + 2 ≤ w3.heap.size by have := HZ2.out; omega)
 have HS33 := qd S33
 have HS34 := qd S34
 obtain ⟨k30, k31, _, _⟩ := S33
 clear S34 hb3 hz3
 cases hfd : KE.find Ls (keyT sk ws) with
 | some en =>
   rw [hfd] at hlk
   have HFD := qd hfd
   simp only [keptV, KE.v] at hlk
   obtain ⟨esk, ews, ea, ec, hen⟩ : ∃ esk ews ea ec, esk = en.sk ∧ ews = en.ws ∧ ea = en.a ∧ ec = en.c := ⟨_, _, _, _, rfl, rfl, rfl, rfl⟩
   obtain ⟨h1, h2, h3, h4⟩ := hen
   rw [← h1, ← h2, ← h3, ← h4] at hlk
   obtain ⟨en', hen'⟩ : ∃ n', n' = ews.length := ⟨_, rfl⟩
   rw [← hen'] at hlk
   unfold setV at hlk
   have HE := qd (show setV en.sk en.a en.ws.length en.c = .agg #[.int .i64 (esk : Int), .slice ea en' ec] by rw [hen', h1, h2, h3, h4]; rfl)
   have r40 := (Below.heap_alloc w3 (.cells #[.int .i64 (esk : Int), .slice ea en' ec] 68) _ HS34.out.lt)
   have S4 := HS34.out.keep r40
   have HS4 := qd S4
   clear h1 h2 h3 h4 hen' hfd r40
   obtain ⟨c40, c41, c4f, c4g⟩ := S4
   obtain ⟨y0, y1⟩ := two_put _ (w.heap.size + 1) HS4.out.c0 HS4.out.c1 (.int .i64 (esk : Int)) (.slice ea en' ec)
   go_wp2_with fail
   refine bodyPost_ret (v := .agg #[.int .i64 (esk : Int), .slice ea en' ec]) (by simp [results, Tryz.results103, go_sem, y0, y1]) rfl ?_
   rw [← HE.out]
   refine pass_found HKO.out HH.out HFF.out HKK.out HFD.out ?_
   exact ((HB3.out.alloc (by have := HZ3.out; omega) _).setCell (p := ⟨w.heap.size + 1, 0, none⟩) (Nat.le_succ _) _).setCell (p := ⟨w.heap.size + 1, 1, none⟩) (Nat.le_succ _) _
 | none =>
   rw [hfd] at hlk
   have HFD := qd hfd
   simp only [keptV] at hlk
   clear hfd
   have HB4' := qd (HB3.out.alloc (by have := HZ3.out; omega) (.cells #[.int .i64 0, .slice none 0 0] 68))
   have k30' := (HS33.out.keep (Below.heap_alloc w3 (.cells #[.int .i64 0, .slice none 0 0] 68) _ HS33.out.lt)).c0
   have k31' := (HS33.out.keep (Below.heap_alloc w3 (.cells #[.int .i64 0, .slice none 0 0] 68) _ HS33.out.lt)).c1
   have HB6 := qd (Sb.made w3 0 none 0 0)
   have HS44 := qd (HS34.out.keep (Below.heap_alloc w3 (.cells #[.int .i64 0, .slice none 0 0] 68) _ HS34.out.lt))
   obtain ⟨w4, hw4⟩ : ∃ w4, w4 = w3.alloc (.cells #[.int .i64 0, .slice none 0 0] 68) := ⟨_, rfl⟩
   have hz4 : w4.heap.size = w3.heap.size + 1 := by rw [hw4]; simp
   rw [show ((0 : Nat) : Int) = 0 from rfl] at *
   have HW4 := qd hw4
   have HZ4 := qd hz4
   go_wp2_with fail
   rw [← HW4.out]
   have hBW := HB4'.out
   rw [← HW4.out] at hBW
   have HBW := qd hBW
   have HX6 := qd (show Sb w4 w3.heap.size 0 none 0 0 by rw [HW4.out]; exact HB6.out)
   have HX4 := qd (show Sb w4 (w.heap.size + 1) 0 none 0 0 by rw [HW4.out]; exact HS44.out)
   refine (HLOW.out w4 hBW).mono ?_
   rintro e w5 ⟨sk5, ws5, a5, c5, F5, rfl, s5, v5, m5, l5, o5, i5, g5, f5⟩
   have HI := qd (HHIGH.out w4 w5 hBW sk5 ws5 a5 c5 F5 s5 v5 l5 o5 i5 g5 f5)
   have M5 := qd m5
   have I5 := qd i5
   have G5 := qd g5
   clear s5 v5 m5 l5 o5 i5 g5 f5 k30' k31' hBW hw4 hlk d10 k30 k31
   unfold setV
   go_wp2_with fail
   refine HI.out.mono ?_
   rintro e w6 ⟨sk6, ws6, a6, c6, F6, rfl, s6, v6, m6, l6, o6, i6, g6, f6⟩
   have hz3 := HZ3.out
   have hFKl : ∀ k, FK k → k < w.heap.size := fun k x => (HKO.out.lt _ _ _ HH.out.kid x).2
   have hmbl := HH.out.tab.lt
   have h45 := G5.out.size
   have h56 := g6.size
   have k6 : ∀ k, k < w4.heap.size → ¬ FK k → w6.heap[k]? = w4.heap[k]? := fun k x y => (g6.block k (by omega) (fun z => (I5.out k z).elim y (fun u => by omega))).trans (G5.out.block k x y)
   have kw : ∀ k, k < w.heap.size → ¬ FK k → w6.heap[k]? = w.heap[k]? := fun k x y => (k6 k (by have := HBW.out.size; omega) y).trans (HBW.out.block k x)
   have q6 := HX6.out.keep (k6 w3.heap.size (by omega) (fun x => by have := hFKl _ x; omega))
   have q4 := HX4.out.keep (k6 (w.heap.size + 1) (by omega) (fun x => by have := hFKl _ x; omega))
   have hp6 := kw p HP.out HPF.out
   have hm6 := kw mb hmbl HH.out.mbF
   have Q6 := qd (q6.put sk6 a6 ws6.length c6)
   have hbp : p ≠ w3.heap.size := by have := HP.out; omega
   have hbm : mb ≠ w3.heap.size := by omega
   have hb64 : w.heap.size + 1 ≠ w3.heap.size := by omega
   have hbm4 : w.heap.size + 1 ≠ mb := by omega
   obtain ⟨w7, hw7⟩ : ∃ w7, w7 = set2 w6 w3.heap.size sk6 a6 ws6.length c6 := ⟨_, rfl⟩
   have e7 : ∀ k, k ≠ w3.heap.size → w7.heap[k]? = w6.heap[k]? := fun k x => by rw [hw7]; exact set2_heap w6 _ sk6 a6 ws6.length c6 k x
   have z7 : w7.heap.size = w6.heap.size := by rw [hw7]; exact set2_size _ _ _ _ _ _
   have u7 : w7.os = w6.os ∧ w7.tape = w6.tape ∧ w7.output = w6.output := by rw [hw7]; exact ⟨rfl, rfl, rfl⟩
   rw [← hw7] at Q6
   have d10 := (cob (a := ⟨p, 10, none⟩) ((e7 p hbp).trans hp6)).trans HH.out.c10
   have tab7 : KeptAt w7.drew mb Ls := HH.out.tab.keep ((e7 mb hbm).trans hm6)
   obtain ⟨w8, hrun, tab8, ho8, ht8, hu8, hz8, hw8⟩ := tab7.put ⟨keyT sk ws, sk6, ws6, a6, c6⟩ HFD.out
   have S6 := Q6.out.keep (w' := w8) ((hw8 w3.heap.size (fun e => hbm e.symm)).trans rfl)
   have S4 := q4.keep (w' := w8) ((hw8 _ hbm4).trans (e7 _ hb64))
   have HM := qd (show ∀ j, memS sk6 ws6 j ↔ img RM (memS sk ws) j from fun j => (m6 j).trans (by
    rw [show memS sk5 ws5 = img (rpow R lo) (memS sk ws) from funext fun j => propext (M5.out j)]
    exact HRM.out _ j))
   have HFIN := qd (pass_new (a := a) (w' := set2 w8 (w.heap.size + 1) sk6 a6 ws6.length c6) HKO.out HH.out HFF.out HFP.out HKK.out HSB.out s6 v6 HM.out o6 (fun k x => (i6 k x).elim (fun y => (I5.out k y).imp id (fun u => by have := HBW.out.size; omega)) (fun y => .inr (by have := HBW.out.size; omega)))
    ⟨g6.os.trans (G5.out.os.trans HBW.out.os), g6.tape.trans (G5.out.tape.trans HBW.out.tape), g6.output.trans (G5.out.output.trans HBW.out.output), by have := HBW.out.size; omega, kw⟩ (fun x hx => ⟨(f6 x hx).1, (f6 x hx).2.1, by have := (f6 x hx).2.2; have := HBW.out.size; omega⟩)
    w3.heap.size (w.heap.size + 1) (by omega) (by omega) (fun x => (i6 _ x).elim (fun y => (I5.out _ y).elim (fun u => by have := hFKl _ u; omega) (fun u => by omega)) (fun y => by omega)) (fun x => (i6 _ x).elim (fun y => (I5.out _ y).elim (fun u => by have := hFKl _ u; omega) (fun u => by omega)) (fun y => by omega))
    (fun x hx => ⟨by have := (f6 x hx).2.2; omega, by have := (f6 x hx).2.2; omega⟩)
    (ho8.trans u7.1) (ht8.trans u7.2.1) (hu8.trans u7.2.2) (by rw [set2_size]; have zd : w7.drew.heap.size = w7.heap.size := rfl; omega)
    (fun k hk h1 h2 h3 => (set2_heap w8 (w.heap.size + 1) sk6 a6 ws6.length c6 k h3).trans ((hw8 k h1).trans (e7 k h2))) (tab8.keep (set2_heap w8 (w.heap.size + 1) sk6 a6 ws6.length c6 mb (fun e => hbm4 e.symm))))
   unfold set2 at hw7
   have HW7 := qd hw7
   obtain ⟨q60, q61, q6f, q6g⟩ := q6
   obtain ⟨s60, s61, _, _⟩ := S6
   obtain ⟨y0, y1⟩ := two_put w8 (w.heap.size + 1) S4.c0 S4.c1 (.int .i64 (sk6 : Int)) (.slice a6 ws6.length c6)
   obtain ⟨s40, s41, s4f, s4g⟩ := S4
   clear hw7 s6 v6 m6 l6 o6 i6 g6 f6 q4 hp6 hm6 e7 z7 u7 tab7 tab8 ho8 ht8 hu8 hz8 hw8 k6 kw hFKl hmbl h45 h56 hz3 hz4 hbp hbm hb64 hbm4
   simp only [KE.k, KE.v, setV] at hrun
   unfold setV
   go_wp2_with fail
   rw [← HW7.out]
   clear q60 q61 q6f q6g
   obtain ⟨q70, q71, _, _⟩ := Q6.out
   go_still_tail 6, (by kernel_rfl)
   change wpList _ _ _ _ _ w7.drew
   go_wp2_with fail
   exact bodyPost_ret (v := .agg #[.int .i64 (sk6 : Int), .slice a6 ws6.length c6]) (by simp [results, Tryz.results103, go_sem, y0, y1]) rfl HFIN.out
theorem okM {K N L nb p lo hi : Nat} {R RM : Nat → Nat → Prop} {OkK : (Nat → Prop) → World → Prop} (hk : KidOk K N L nb R OkK) (hlo : lo ≤ hi) (hhi : hi ≤ 9) (hRM : ∀ (P : Nat → Prop) j, untilN R (img (rpow R lo) P) (hi - lo) j ↔ img RM P j) (hbd : ∀ i j, i ≤ L → RM i j → j ≤ L) :
 PassOk K N L p 103 129 RM (OkM K N nb p lo hi RM OkK) where
 meth := mm_pass p
 enter := enters_of Tryz.func103 (by kernel_rfl) rfl
 bd := hbd
 lt := fun F w k ⟨FK, mb, Ls, hF, h⟩ hx => h.own hk ((hF k).1 hx)
 keep := fun F w w' ⟨FK, mb, Ls, hF, h⟩ hz hb hc => ⟨FK, mb, Ls, hF, h.keep hk hz (fun k hx => hb k (hx.imp id (hF k).2)) hc⟩
 call := fun F w sk ws a c ⟨FK, mb, Ls, hF, h⟩ hFp hb hw hL ha => passM_any hk hlo hhi hRM h hF hFp (Nat.le_of_lt (Nat.lt_of_le_of_lt h.mbK h.tab.lt)) sk ws a c hb hw hL (fun x hx => ⟨(ha x hx).1, (ha x hx).2.1⟩)
end Go.Proofs.YtcimhpdpfckgiaaGreatDoor.kit
