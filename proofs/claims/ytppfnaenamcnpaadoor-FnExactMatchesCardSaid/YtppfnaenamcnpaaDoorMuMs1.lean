/-
  Contract of spec.l04Put over this seat's translation: ascending places with one more. Conditions: at most 1048577 places, each at most 1048576.
-/
import Derived.Test.YtppfnaenamcnpaaDoorMuMw1
import Derived.Test.YtppfnaenamcnpaaDoorMuKit
import Derived.Deep.RegionHeld3
set_option linter.unusedVariables false
set_option linter.unusedSimpArgs false
open Go.ChangeShapes Go.WideShapes Go.ChangeAt Go.RowKit
namespace Go.Proofs.YtppfnaenamcnpaaDoor.kit
theorem cellK {w w' : World} {row : Option Nat} {g o : Nat} {v : Value} (h : w.cell? ⟨g, o, none⟩ = some v) (hg : w.grownBy w' row) (hne : some g ≠ row) : w'.cell? ⟨g, o, none⟩ = some v :=
 (World.cell?_of_block (a := ⟨g, o, none⟩) (hg.block g (World.block_lt_of_cell? w ⟨g, o, none⟩ h) hne)).trans h
theorem oneI {w : World} {g n : Nat} (h : w.cell? ⟨g, 0, none⟩ = some (iV n)) : ∀ (j : Nat) (hj : j < [n].length), w.cell? ((⟨g, 0, none⟩ : Addr).add j) = some (iV [n][j]) := fun j hj => by
 obtain rfl : j = 0 := by simpa using hj
 have e : (⟨g, 0, none⟩ : Addr).add 0 = ⟨g, 0, none⟩ := by unfold Addr.add; split <;> simp_all
 rw [e]; exact h
theorem addI (b o k : Nat) : (⟨b, o, none⟩ : Addr).add k = ⟨b, o + k, none⟩ := by unfold Addr.add; split <;> simp_all
theorem step_lit0 {w : World} {ops : Array Oper} {o : Oper} {a : Act} {K : Act → World → Prop} {Q : Exit → Act → World → Prop} {E : Prop} (hgd : o.guard = none) (ho : o.op = .buildSlice 57 0 #[])
 (h : ∀ v' w', OwnI w.heap.size w' v' [] → v' ≠ .slice none 0 0 → Below w.heap.size w w' → K (a.put o.dst v') w') : if Region.wanted o (yielded ops a.tmps) = true then Oper.wp Tryd.prog o a w K Q else E := by
 have hw : Region.wanted o (yielded ops a.tmps) = true := by simp [Region.wanted, hgd]
 rw [if_pos hw]
 have hrun : (Instr.buildSlice 57 0 #[]).run Tryd.prog w = .ok (.slice (some ⟨w.heap.size, 0, none⟩) 0 0) (w.alloc (.cells #[] 3)) := by go_simp
 unfold Oper.wp execOp
 simp only [ho, Sem.run_bind, List.map_toArray, List.map_nil, hrun, Result.andThen_ok]
 exact h _ _ (ownI_start (Nat.le_refl _)) (by simp) ((Below.refl _ w).alloc (Nat.le_refl _) _)
theorem step_lit1 {w : World} {ops : Array Oper} {o : Oper} {a : Act} {K : Act → World → Prop} {Q : Exit → Act → World → Prop} {E : Prop} (hgd : o.guard = none) (x : Operand) (n : Nat) (ho : o.op = .buildSlice 57 1 #[(0, x)]) (hx : a.eval x = iV n)
 (h : ∀ w' g, g = w.heap.size → w'.cell? ⟨g, 0, none⟩ = some (iV n) → Below w.heap.size w w' → g < w'.heap.size → K (a.put o.dst (.slice (some ⟨g, 0, none⟩) 1 1)) w') : if Region.wanted o (yielded ops a.tmps) = true then Oper.wp Tryd.prog o a w K Q else E := by
 have hw : Region.wanted o (yielded ops a.tmps) = true := by simp [Region.wanted, hgd]
 rw [if_pos hw]
 have hrun : (Instr.buildSlice 57 1 #[(0, iV n)]).run Tryd.prog w = .ok (.slice (some ⟨w.heap.size, 0, none⟩) 1 1) (w.alloc (.cells #[iV n] 3)) := by
  unfold iV
  go_simp
 unfold Oper.wp execOp
 simp only [ho, Sem.run_bind, List.map_toArray, List.map_nil, List.map_cons, hx, hrun, Result.andThen_ok]
 exact h _ _ rfl (cell_one w (iV n) 3) ((Below.refl _ w).alloc (Nat.le_refl _) _) (by simp)
theorem OwnI.block_lt {B : Nat} {w : World} {v : Value} {xs : List Nat} (h : OwnI B w v xs) : ∀ k, v.ownBlock = some k → k < w.heap.size := fun k hk => (World.ownsRow.lt h k hk).2
theorem put_end {xs : List Nat} {n g : Nat} {B : Nat} {w W : World} {v : Value} (he : putN xs n = xs.take g ++ n :: xs.drop g) (ho : OwnI B W v ([] ++ xs.take g ++ [n] ++ xs.drop g)) (hn : v ≠ .slice none 0 0) (hb : Below w.heap.size w W) :
 ∃ b' c', Ending.returned v = .returned (.slice (some ⟨b', 0, none⟩) (putN xs n).length c') ∧ IRow W (putN xs n) b' c' ∧ Below w.heap.size w W := by
 have e : [] ++ xs.take g ++ [n] ++ xs.drop g = putN xs n := by rw [he]; simp
 rw [e] at ho
 rcases ho.row with ⟨h, _⟩ | ⟨b', c', rfl, _, h⟩
 · exact absurd h hn
 · exact ⟨b', c', rfl, h, hb⟩
set_option maxRecDepth 100000 in
set_option maxHeartbeats 4000000 in
theorem l04Put_any (xs : List Nat) (n b c : Nat) (w : World) (h : IRow w xs b c) (hl : xs.length ≤ 1048577) (ha : AscN xs) :
 Calls Tryd.prog 80 #[.slice (some ⟨b, 0, none⟩) xs.length c, .int .i64 (n : Int)] w fun e w' => ∃ b' c', e = .returned (.slice (some ⟨b', 0, none⟩) (putN xs n).length c') ∧ IRow w' (putN xs n) b' c' ∧ Below w.heap.size w w' := by
 have HR := Lib.hid h
 have HA := Lib.hid ha
 have HP := Lib.hid (fun k h1 h2 h3 => putN_at xs n k h1 ha h2 h3)
 have hbl := h.lt
 have hlc : (xs.length : Int) ≤ (c : Int) := by have := h.le; omega
 have hcm : c ≤ 9223372036854775807 := by have := h.cap; unfold maxLen at this; exact this
 have hlz : xs.length ≤ c := h.le
 clear h ha
 go_enter Tryd.func80, Tryd.ntmps80
 go_wp2_with fail
 go_loopg [5] (xs.length) (fun gg v wr => gg ≤ xs.length ∧ v = .int .i64 (gg : Int) ∧ wr = w ∧ ∀ j (h : j < xs.length), gg ≤ j → n < xs[j])
 case atStart => exact ⟨Nat.le_refl _, rfl, rfl, fun j h1 h2 => by omega⟩
 case round =>
  obtain ⟨hg, rfl, rfl, hall⟩ := hrel
  have HALL := Lib.hid hall
  clear hall
  obtain ⟨g, hgg⟩ : ∃ g, g = gk := ⟨_, rfl⟩
  subst hgg
  have hgc : g ≤ c := by omega
  obtain ⟨A, hA⟩ : ∃ A : Addr, A = if c = g then (⟨b, 0, none⟩ : Addr) else ⟨b, g, none⟩ := ⟨_, rfl⟩
  have hs2 : ∀ W, (Instr.slice 57 (.slice (some ⟨b, 0, none⟩) xs.length c) (some (.int .i64 (g : Int))) none none).run Tryd.prog W = .ok (.slice (some A) (xs.length - g) (c - g)) W := fun W => by
   have hsz : (sizeOf (Tryd.prog.elem 57)).run Tryd.prog W = .ok 1 W := by kernel_rfl
   rw [run_slice_l (P := Tryd.prog) (w := W) 57 (some ⟨b, 0, none⟩) xs.length c (by kernel_rfl) .i64 (g : Int) (by omega) (by omega), hsz]
   by_cases hcg : c = g
   · rw [hA, if_pos hcg]; simp [sliced, hcg]
   · rw [hA, if_neg hcg]; simp [sliced, hcg, addI]
  have HCA := Lib.hid (show ∀ W, Below wr.heap.size wr W → ∀ (j : Nat) (hj : j < (xs.drop g).length), W.cell? (A.add j) = some (iV (xs.drop g)[j]) from fun W hW j hj => by
   have hjl : j < xs.length - g := by simpa using hj
   rw [hA, if_neg (by omega), addI, hW.cell (p := ⟨b, g + j, none⟩) hbl, HR.out.cell (g + j) (by omega), List.getElem_drop])
  have HCB := Lib.hid (show ∀ W, Below wr.heap.size wr W → ∀ (j : Nat) (hj : j < (xs.take g).length), W.cell? ((⟨b, 0, none⟩ : Addr).add j) = some (iV (xs.take g)[j]) from fun W hW j hj => by
   have hjl : j < g := by simp at hj; omega
   rw [addI, Nat.zero_add, hW.cell (p := ⟨b, j, none⟩) hbl, HR.out.cell j (by omega), List.getElem_take])
  have htl : (xs.take g).length = g := by simp; omega
  have hdl : (xs.drop g).length = xs.length - g := by simp
  have HTL := Lib.hid htl
  have HDL := Lib.hid hdl
  clear hA htl hdl
  by_cases h0 : 0 < g
  · obtain ⟨m, hm⟩ : ∃ m, g = m + 1 := ⟨g - 1, by omega⟩
    have hml : m < xs.length := by omega
    have c0 := HR.out.cell m hml
    have hsub : (g : Int) - 1 = (m : Int) := by omega
    have HP2 := Lib.hid (HP.out g hg (fun j h1 h2 => HALL.out j h1 h2))
    have HM := Lib.hid hm
    have hm0 : (0 : Int) ≤ (m : Int) := by omega
    have hm1 : (m : Int) < (xs.length : Int) := by omega
    have hg8 : (m : Int) ≤ 1048577 := by omega
    have HY := Lib.hid (show ∃ y, y = xs[m] from ⟨_, rfl⟩)
    obtain ⟨y, hy⟩ := HY.out
    rw [← hy] at c0
    unfold iV at c0
    have hgl : g - 1 < xs.length := by omega
    have hy2 : xs[g - 1]'hgl = y := by rw [hy]; congr 1; omega
    have HY2 := Lib.hid hy2
    have HYM := Lib.hid hy
    clear hy2
    clear HY
    clear hy
    clear hm
    by_cases h1 : n < y
    · have HALL2 := Lib.hid (show ∀ (j : Nat) (h : j < xs.length), m ≤ j → n < xs[j] from fun j h h2 => by
       by_cases e : j = m
       · subst e; rw [← HYM.out]; exact h1
       · exact HALL.out j h (by have := HM.out; omega))
      clear hs2
      go_wp2_with fail
      go_roundg m
      case rel => exact ⟨by omega, by go_num, rfl, HALL2.out⟩
      case measure => have := HM.out; omega
    · have HQ := Lib.hid (HP2.out (fun _ => by rw [HY2.out]; omega))
      by_cases h2 : y = n
      · subst h2
        have HE := Lib.hid (show putN xs y = xs from by
         rcases HQ.out with ⟨_, _, e⟩ | ⟨e, _⟩
         · exact e
         · exact absurd HY2.out (e h0))
        clear hs2
        go_wp2_with fail
        go_ret
        exact ⟨b, c, by rw [HE.out]; rfl, by rw [HE.out]; exact HR.out, Below.refl _ _⟩
      · have HE := Lib.hid (show putN xs n = xs.take g ++ n :: xs.drop g from by
         rcases HQ.out with ⟨_, e, _⟩ | ⟨_, e⟩
         · exact absurd (HY2.out.symm.trans e) h2
         · exact e)
        have e2 : ((y : Int) == (n : Int)) = false := by rw [beq_eq_false_iff_ne]; omega
        go_wp2_with fail
        refine wp_region_held_drew (S := (fun _ => True)) (by kernel_rfl) trivial (fun hHeld => ?_)
        refine wpAnyH_take (i := 1) (v := ?_) rfl (by kernel_rfl) (by kernel_rfl) (by kernel_rfl) (fun _ _ _ h => h) (Or.inl ⟨by kernel_rfl, ?_⟩) (by assumption) ?_
        rotate_left 1
        · intro w hSw
          go_simp
          try with_reducible rfl
        try simp only [List.getElem_toArray, List.getElem_cons_zero, List.getElem_cons_succ, Act.put, List.setIfInBounds_toArray, List.set_cons_zero, List.set_cons_succ]
        refine wpAnyH_take (i := 2) (v := ?_) rfl (by kernel_rfl) (by kernel_rfl) (by kernel_rfl) (fun _ _ _ h => h) (Or.inl ⟨by kernel_rfl, ?_⟩) (by assumption) ?_
        rotate_left 1
        · intro w hSw
          go_simp
          try with_reducible rfl
        try simp only [List.getElem_toArray, List.getElem_cons_zero, List.getElem_cons_succ, Act.put, List.setIfInBounds_toArray, List.set_cons_zero, List.set_cons_succ]
        refine wpAnyH_take (i := 3) (v := ?_) rfl (by kernel_rfl) (by kernel_rfl) (by kernel_rfl) (fun _ _ _ h => h) (Or.inl ⟨by kernel_rfl, ?_⟩) (by assumption) ?_
        rotate_left 1
        · intro w hSw
          go_simp
          try with_reducible rfl
        try simp only [List.getElem_toArray, List.getElem_cons_zero, List.getElem_cons_succ, Act.put, List.setIfInBounds_toArray, List.set_cons_zero, List.set_cons_succ]
        refine wpAnyH_take (i := 5) (v := ?_) rfl (by kernel_rfl) (by kernel_rfl) (by kernel_rfl) (fun _ _ _ h => h) (Or.inl ⟨by kernel_rfl, ?_⟩) (by assumption) ?_
        rotate_left 1
        · intro w hSw
          go_simp
          try with_reducible rfl
        try simp only [List.getElem_toArray, List.getElem_cons_zero, List.getElem_cons_succ, Act.put, List.setIfInBounds_toArray, List.set_cons_zero, List.set_cons_succ]
        refine wpAnyH_take (i := 8) (v := ?_) rfl (by kernel_rfl) (by kernel_rfl) (by kernel_rfl) (fun _ _ _ h => h) (Or.inl ⟨by kernel_rfl, ?_⟩) (by assumption) ?_
        rotate_left 1
        · intro w hSw
          go_simp
          try with_reducible rfl
        try simp only [List.getElem_toArray, List.getElem_cons_zero, List.getElem_cons_succ, Act.put, List.setIfInBounds_toArray, List.set_cons_zero, List.set_cons_succ]
        refine wpAnyH_take (i := 9) (v := ?_) rfl (by kernel_rfl) (by kernel_rfl) (by kernel_rfl) (fun _ _ _ h => h) (Or.inl ⟨by kernel_rfl, ?_⟩) (by assumption) ?_
        rotate_left 1
        · intro w hSw
          go_simp
          try with_reducible rfl
        try simp only [List.getElem_toArray, List.getElem_cons_zero, List.getElem_cons_succ, Act.put, List.setIfInBounds_toArray, List.set_cons_zero, List.set_cons_succ]
        refine wpAnyH_take (i := 10) (v := ?_) rfl (by kernel_rfl) (by kernel_rfl) (by kernel_rfl) (fun _ _ _ h => h) (Or.inl ⟨by kernel_rfl, ?_⟩) (by assumption) ?_
        rotate_left 1
        · intro w hSw
          go_simp
          try with_reducible rfl
        try simp only [List.getElem_toArray, List.getElem_cons_zero, List.getElem_cons_succ, Act.put, List.setIfInBounds_toArray, List.set_cons_zero, List.set_cons_succ]
        have hS : Below wr.heap.size wr wr.drew := (Below.refl _ wr).drew
        refine wpAnyH_ready (rs := [0, 6]) (by kernel_rfl) (by simp) ?_
        refine AllReadyH.cons rfl (fun K hK => ?_) (AllReadyH.cons rfl (fun K hK => ?_) AllReadyH.nil)
        · refine step_lit0 rfl rfl ?_
          intro v0 w0 ho0 hn0 hb0
          have hB0 : Below wr.heap.size wr w0 := hS.trans hb0
          have hZ0 : wr.heap.size ≤ w0.heap.size := hB0.size
          replace ho0 : OwnI wr.heap.size w0 v0 [] := ho0
          refine hK.out _ _ trivial (fun hHeld => ?_)
          clear hK K
          try simp only [List.getElem_toArray, List.getElem_cons_zero, List.getElem_cons_succ, Act.put, List.setIfInBounds_toArray, List.set_cons_zero, List.set_cons_succ]
          refine wpAnyH_ready (rs := [4, 6]) (by kernel_rfl) (by simp) ?_
          refine AllReadyH.cons rfl (fun K hK => ?_) (AllReadyH.cons rfl (fun K hK => ?_) AllReadyH.nil)
          · refine step_append_ints rfl (.tmp 33) (.tmp 36) rfl _ _ ([]) rfl ho0 hn0 ⟨b, 0, none⟩ (c) (g) (xs.take g) (HTL.out.symm) rfl (HCB.out _ (hB0)) (by rw [HTL.out]; show 0 + g ≤ _; omega) (hZ0) ?_
            intro v1 w1 ho1 hn1 hb1 hg1
            have hB1 : Below wr.heap.size wr w1 := hB0.trans hb1
            have hZ1 : wr.heap.size ≤ w1.heap.size := hB1.size
            refine hK.out _ _ trivial (fun hHeld => ?_)
            clear hK K
            try simp only [List.getElem_toArray, List.getElem_cons_zero, List.getElem_cons_succ, Act.put, List.setIfInBounds_toArray, List.set_cons_zero, List.set_cons_succ]
            refine wpAnyH_ready (rs := [6]) (by kernel_rfl) (by simp) ?_
            refine AllReadyH.cons rfl (fun K hK => ?_) AllReadyH.nil
            refine step_lit1 rfl (.tmp 38) n rfl rfl ?_
            intro wl G hG hcG hbG hlG
            have hBl : Below wr.heap.size wr wl := hB1.trans (hbG.mono hZ1)
            have hZl : wr.heap.size ≤ wl.heap.size := hBl.size
            have hol := ho1.kept hbG
            refine hK.out _ _ trivial (fun hHeld => ?_)
            clear hK K
            try simp only [List.getElem_toArray, List.getElem_cons_zero, List.getElem_cons_succ, Act.put, List.setIfInBounds_toArray, List.set_cons_zero, List.set_cons_succ]
            refine wpAnyH_ready (rs := [7]) (by kernel_rfl) (by simp) ?_
            refine AllReadyH.cons rfl (fun K hK => ?_) AllReadyH.nil
            refine step_append_ints rfl (.tmp 37) (.tmp 39) rfl _ _ ([] ++ xs.take g) rfl hol hn1 ⟨G, 0, none⟩ (1) (1) ([n]) (rfl) rfl (oneI (hcG)) (by rw [List.nil_append, HTL.out]; show g + 1 ≤ _; omega) (hZl) ?_
            intro v2 w2 ho2 hn2 hb2 hg2
            have hB2 : Below wr.heap.size wr w2 := hBl.trans hb2
            have hZ2 : wr.heap.size ≤ w2.heap.size := hB2.size
            refine hK.out _ _ trivial (fun hHeld => ?_)
            clear hK K
            try simp only [List.getElem_toArray, List.getElem_cons_zero, List.getElem_cons_succ, Act.put, List.setIfInBounds_toArray, List.set_cons_zero, List.set_cons_succ]
            refine wpAnyH_ready (rs := [11]) (by kernel_rfl) (by simp) ?_
            refine AllReadyH.cons rfl (fun K hK => ?_) AllReadyH.nil
            refine step_append_ints rfl (.tmp 40) (.tmp 43) rfl _ _ ([] ++ xs.take g ++ [n]) rfl ho2 hn2 A (c - g) (xs.length - g) (xs.drop g) (HDL.out.symm) rfl (HCA.out _ (hB2)) (by rw [List.nil_append, List.length_append, HTL.out, HDL.out]; show g + 1 + _ ≤ _; omega) (hZ2) ?_
            intro v3 w3 ho3 hn3 hb3 hg3
            have hB3 : Below wr.heap.size wr w3 := hB2.trans hb3
            refine hK.out _ _ trivial (fun hHeld => ?_)
            clear hK K
            try simp only [List.getElem_toArray, List.getElem_cons_zero, List.getElem_cons_succ, Act.put, List.setIfInBounds_toArray, List.set_cons_zero, List.set_cons_succ]
            refine wpAnyH_take (i := 12) (v := ?_) rfl (by kernel_rfl) (by kernel_rfl) (by kernel_rfl) (fun _ _ _ h => h) (Or.inl ⟨by kernel_rfl, ?_⟩) (by assumption) ?_
            rotate_left 1
            · intro w hSw
              go_simp
              try with_reducible rfl
            try simp only [List.getElem_toArray, List.getElem_cons_zero, List.getElem_cons_succ, Act.put, List.setIfInBounds_toArray, List.set_cons_zero, List.set_cons_succ]
            refine wpAnyH_done (by kernel_rfl) ?_ _
            have HF := Lib.hid (hB3)
            have HO := Lib.hid ho3
            have HN := Lib.hid hn3
            clear hs2
            go_wp2_with fail
            go_ret
            exact put_end HE.out HO.out HN.out HF.out
          · refine step_lit1 rfl (.tmp 38) n rfl rfl ?_
            intro wl G hG hcG hbG hlG
            have hBl : Below wr.heap.size wr wl := hB0.trans (hbG.mono hZ0)
            have hZl : wr.heap.size ≤ wl.heap.size := hBl.size
            have hol := ho0.kept hbG
            refine hK.out _ _ trivial (fun hHeld => ?_)
            clear hK K
            try simp only [List.getElem_toArray, List.getElem_cons_zero, List.getElem_cons_succ, Act.put, List.setIfInBounds_toArray, List.set_cons_zero, List.set_cons_succ]
            refine wpAnyH_ready (rs := [4]) (by kernel_rfl) (by simp) ?_
            refine AllReadyH.cons rfl (fun K hK => ?_) AllReadyH.nil
            refine step_append_ints rfl (.tmp 33) (.tmp 36) rfl _ _ ([]) rfl hol hn0 ⟨b, 0, none⟩ (c) (g) (xs.take g) (HTL.out.symm) rfl (HCB.out _ (hBl)) (by rw [HTL.out]; show 0 + g ≤ _; omega) (hZl) ?_
            intro v1 w1 ho1 hn1 hb1 hg1
            have hB1 : Below wr.heap.size wr w1 := hBl.trans hb1
            have hZ1 : wr.heap.size ≤ w1.heap.size := hB1.size
            have hcG1 := cellK hcG hg1 (fun e => absurd (ho0.block_lt _ e.symm) (by omega))
            refine hK.out _ _ trivial (fun hHeld => ?_)
            clear hK K
            try simp only [List.getElem_toArray, List.getElem_cons_zero, List.getElem_cons_succ, Act.put, List.setIfInBounds_toArray, List.set_cons_zero, List.set_cons_succ]
            refine wpAnyH_ready (rs := [7]) (by kernel_rfl) (by simp) ?_
            refine AllReadyH.cons rfl (fun K hK => ?_) AllReadyH.nil
            refine step_append_ints rfl (.tmp 37) (.tmp 39) rfl _ _ ([] ++ xs.take g) rfl ho1 hn1 ⟨G, 0, none⟩ (1) (1) ([n]) (rfl) rfl (oneI (hcG1)) (by rw [List.nil_append, HTL.out]; show g + 1 ≤ _; omega) (hZ1) ?_
            intro v2 w2 ho2 hn2 hb2 hg2
            have hB2 : Below wr.heap.size wr w2 := hB1.trans hb2
            have hZ2 : wr.heap.size ≤ w2.heap.size := hB2.size
            refine hK.out _ _ trivial (fun hHeld => ?_)
            clear hK K
            try simp only [List.getElem_toArray, List.getElem_cons_zero, List.getElem_cons_succ, Act.put, List.setIfInBounds_toArray, List.set_cons_zero, List.set_cons_succ]
            refine wpAnyH_ready (rs := [11]) (by kernel_rfl) (by simp) ?_
            refine AllReadyH.cons rfl (fun K hK => ?_) AllReadyH.nil
            refine step_append_ints rfl (.tmp 40) (.tmp 43) rfl _ _ ([] ++ xs.take g ++ [n]) rfl ho2 hn2 A (c - g) (xs.length - g) (xs.drop g) (HDL.out.symm) rfl (HCA.out _ (hB2)) (by rw [List.nil_append, List.length_append, HTL.out, HDL.out]; show g + 1 + _ ≤ _; omega) (hZ2) ?_
            intro v3 w3 ho3 hn3 hb3 hg3
            have hB3 : Below wr.heap.size wr w3 := hB2.trans hb3
            refine hK.out _ _ trivial (fun hHeld => ?_)
            clear hK K
            try simp only [List.getElem_toArray, List.getElem_cons_zero, List.getElem_cons_succ, Act.put, List.setIfInBounds_toArray, List.set_cons_zero, List.set_cons_succ]
            refine wpAnyH_take (i := 12) (v := ?_) rfl (by kernel_rfl) (by kernel_rfl) (by kernel_rfl) (fun _ _ _ h => h) (Or.inl ⟨by kernel_rfl, ?_⟩) (by assumption) ?_
            rotate_left 1
            · intro w hSw
              go_simp
              try with_reducible rfl
            try simp only [List.getElem_toArray, List.getElem_cons_zero, List.getElem_cons_succ, Act.put, List.setIfInBounds_toArray, List.set_cons_zero, List.set_cons_succ]
            refine wpAnyH_done (by kernel_rfl) ?_ _
            have HF := Lib.hid (hB3)
            have HO := Lib.hid ho3
            have HN := Lib.hid hn3
            clear hs2
            go_wp2_with fail
            go_ret
            exact put_end HE.out HO.out HN.out HF.out
        · refine step_lit1 rfl (.tmp 38) n rfl rfl ?_
          intro wl G hG hcG hbG hlG
          have hBl : Below wr.heap.size wr wl := hS.trans hbG
          have hZl : wr.heap.size ≤ wl.heap.size := hBl.size
          refine hK.out _ _ trivial (fun hHeld => ?_)
          clear hK K
          try simp only [List.getElem_toArray, List.getElem_cons_zero, List.getElem_cons_succ, Act.put, List.setIfInBounds_toArray, List.set_cons_zero, List.set_cons_succ]
          refine wpAnyH_ready (rs := [0]) (by kernel_rfl) (by simp) ?_
          refine AllReadyH.cons rfl (fun K hK => ?_) AllReadyH.nil
          refine step_lit0 rfl rfl ?_
          intro v0 w0 ho0 hn0 hb0
          have hB0 : Below wr.heap.size wr w0 := hBl.trans (hb0.mono hZl)
          have hZ0 : wl.heap.size ≤ w0.heap.size := hb0.size
          refine hK.out _ _ trivial (fun hHeld => ?_)
          clear hK K
          try simp only [List.getElem_toArray, List.getElem_cons_zero, List.getElem_cons_succ, Act.put, List.setIfInBounds_toArray, List.set_cons_zero, List.set_cons_succ]
          refine wpAnyH_ready (rs := [4]) (by kernel_rfl) (by simp) ?_
          refine AllReadyH.cons rfl (fun K hK => ?_) AllReadyH.nil
          refine step_append_ints rfl (.tmp 33) (.tmp 36) rfl _ _ ([]) rfl ho0 hn0 ⟨b, 0, none⟩ (c) (g) (xs.take g) (HTL.out.symm) rfl (HCB.out _ (hB0)) (by rw [HTL.out]; show 0 + g ≤ _; omega) (hZ0) ?_
          intro v1 w1 ho1 hn1 hb1 hg1
          have hB1 : Below wr.heap.size wr w1 := hB0.trans (hb1.mono hZl)
          have hZ1 : wl.heap.size ≤ w1.heap.size := Nat.le_trans hZ0 hb1.size
          have hcG1 : w1.cell? ⟨G, 0, none⟩ = some (iV n) := ((hb0.trans hb1).cell (p := ⟨G, 0, none⟩) hlG).trans hcG
          refine hK.out _ _ trivial (fun hHeld => ?_)
          clear hK K
          try simp only [List.getElem_toArray, List.getElem_cons_zero, List.getElem_cons_succ, Act.put, List.setIfInBounds_toArray, List.set_cons_zero, List.set_cons_succ]
          refine wpAnyH_ready (rs := [7]) (by kernel_rfl) (by simp) ?_
          refine AllReadyH.cons rfl (fun K hK => ?_) AllReadyH.nil
          refine step_append_ints rfl (.tmp 37) (.tmp 39) rfl _ _ ([] ++ xs.take g) rfl ho1 hn1 ⟨G, 0, none⟩ (1) (1) ([n]) (rfl) rfl (oneI (hcG1)) (by rw [List.nil_append, HTL.out]; show g + 1 ≤ _; omega) (hZ1) ?_
          intro v2 w2 ho2 hn2 hb2 hg2
          have hB2 : Below wr.heap.size wr w2 := hB1.trans (hb2.mono hZl)
          have hZ2 : wl.heap.size ≤ w2.heap.size := Nat.le_trans hZ1 hb2.size
          refine hK.out _ _ trivial (fun hHeld => ?_)
          clear hK K
          try simp only [List.getElem_toArray, List.getElem_cons_zero, List.getElem_cons_succ, Act.put, List.setIfInBounds_toArray, List.set_cons_zero, List.set_cons_succ]
          refine wpAnyH_ready (rs := [11]) (by kernel_rfl) (by simp) ?_
          refine AllReadyH.cons rfl (fun K hK => ?_) AllReadyH.nil
          refine step_append_ints rfl (.tmp 40) (.tmp 43) rfl _ _ ([] ++ xs.take g ++ [n]) rfl ho2 hn2 A (c - g) (xs.length - g) (xs.drop g) (HDL.out.symm) rfl (HCA.out _ (hB2)) (by rw [List.nil_append, List.length_append, HTL.out, HDL.out]; show g + 1 + _ ≤ _; omega) (hZ2) ?_
          intro v3 w3 ho3 hn3 hb3 hg3
          have hB3 : Below wr.heap.size wr w3 := hB2.trans (hb3.mono hZl)
          refine hK.out _ _ trivial (fun hHeld => ?_)
          clear hK K
          try simp only [List.getElem_toArray, List.getElem_cons_zero, List.getElem_cons_succ, Act.put, List.setIfInBounds_toArray, List.set_cons_zero, List.set_cons_succ]
          refine wpAnyH_take (i := 12) (v := ?_) rfl (by kernel_rfl) (by kernel_rfl) (by kernel_rfl) (fun _ _ _ h => h) (Or.inl ⟨by kernel_rfl, ?_⟩) (by assumption) ?_
          rotate_left 1
          · intro w hSw
            go_simp
            try with_reducible rfl
          try simp only [List.getElem_toArray, List.getElem_cons_zero, List.getElem_cons_succ, Act.put, List.setIfInBounds_toArray, List.set_cons_zero, List.set_cons_succ]
          refine wpAnyH_done (by kernel_rfl) ?_ _
          have HF := Lib.hid (hB3)
          have HO := Lib.hid ho3
          have HN := Lib.hid hn3
          clear hs2
          go_wp2_with fail
          go_ret
          exact put_end HE.out HO.out HN.out HF.out
  · have HE := Lib.hid (show putN xs n = xs.take g ++ n :: xs.drop g from by
        rcases HP.out g hg (fun j h1 h2 => HALL.out j h1 h2) (fun h => absurd h h0) with ⟨h, _⟩ | ⟨_, e⟩
        · exact absurd h h0
        · exact e)
    go_wp2_with fail
    refine wp_region_held_drew (S := (fun _ => True)) (by kernel_rfl) trivial (fun hHeld => ?_)
    refine wpAnyH_take (i := 1) (v := ?_) rfl (by kernel_rfl) (by kernel_rfl) (by kernel_rfl) (fun _ _ _ h => h) (Or.inl ⟨by kernel_rfl, ?_⟩) (by assumption) ?_
    rotate_left 1
    · intro w hSw
      go_simp
      try with_reducible rfl
    try simp only [List.getElem_toArray, List.getElem_cons_zero, List.getElem_cons_succ, Act.put, List.setIfInBounds_toArray, List.set_cons_zero, List.set_cons_succ]
    refine wpAnyH_take (i := 2) (v := ?_) rfl (by kernel_rfl) (by kernel_rfl) (by kernel_rfl) (fun _ _ _ h => h) (Or.inl ⟨by kernel_rfl, ?_⟩) (by assumption) ?_
    rotate_left 1
    · intro w hSw
      go_simp
      try with_reducible rfl
    try simp only [List.getElem_toArray, List.getElem_cons_zero, List.getElem_cons_succ, Act.put, List.setIfInBounds_toArray, List.set_cons_zero, List.set_cons_succ]
    refine wpAnyH_take (i := 3) (v := ?_) rfl (by kernel_rfl) (by kernel_rfl) (by kernel_rfl) (fun _ _ _ h => h) (Or.inl ⟨by kernel_rfl, ?_⟩) (by assumption) ?_
    rotate_left 1
    · intro w hSw
      go_simp
      try with_reducible rfl
    try simp only [List.getElem_toArray, List.getElem_cons_zero, List.getElem_cons_succ, Act.put, List.setIfInBounds_toArray, List.set_cons_zero, List.set_cons_succ]
    refine wpAnyH_take (i := 5) (v := ?_) rfl (by kernel_rfl) (by kernel_rfl) (by kernel_rfl) (fun _ _ _ h => h) (Or.inl ⟨by kernel_rfl, ?_⟩) (by assumption) ?_
    rotate_left 1
    · intro w hSw
      go_simp
      try with_reducible rfl
    try simp only [List.getElem_toArray, List.getElem_cons_zero, List.getElem_cons_succ, Act.put, List.setIfInBounds_toArray, List.set_cons_zero, List.set_cons_succ]
    refine wpAnyH_take (i := 8) (v := ?_) rfl (by kernel_rfl) (by kernel_rfl) (by kernel_rfl) (fun _ _ _ h => h) (Or.inl ⟨by kernel_rfl, ?_⟩) (by assumption) ?_
    rotate_left 1
    · intro w hSw
      go_simp
      try with_reducible rfl
    try simp only [List.getElem_toArray, List.getElem_cons_zero, List.getElem_cons_succ, Act.put, List.setIfInBounds_toArray, List.set_cons_zero, List.set_cons_succ]
    refine wpAnyH_take (i := 9) (v := ?_) rfl (by kernel_rfl) (by kernel_rfl) (by kernel_rfl) (fun _ _ _ h => h) (Or.inl ⟨by kernel_rfl, ?_⟩) (by assumption) ?_
    rotate_left 1
    · intro w hSw
      go_simp
      try with_reducible rfl
    try simp only [List.getElem_toArray, List.getElem_cons_zero, List.getElem_cons_succ, Act.put, List.setIfInBounds_toArray, List.set_cons_zero, List.set_cons_succ]
    refine wpAnyH_take (i := 10) (v := ?_) rfl (by kernel_rfl) (by kernel_rfl) (by kernel_rfl) (fun _ _ _ h => h) (Or.inl ⟨by kernel_rfl, ?_⟩) (by assumption) ?_
    rotate_left 1
    · intro w hSw
      go_simp
      try with_reducible rfl
    try simp only [List.getElem_toArray, List.getElem_cons_zero, List.getElem_cons_succ, Act.put, List.setIfInBounds_toArray, List.set_cons_zero, List.set_cons_succ]
    have hS : Below wr.heap.size wr wr.drew := (Below.refl _ wr).drew
    refine wpAnyH_ready (rs := [0, 6]) (by kernel_rfl) (by simp) ?_
    refine AllReadyH.cons rfl (fun K hK => ?_) (AllReadyH.cons rfl (fun K hK => ?_) AllReadyH.nil)
    · refine step_lit0 rfl rfl ?_
      intro v0 w0 ho0 hn0 hb0
      have hB0 : Below wr.heap.size wr w0 := hS.trans hb0
      have hZ0 : wr.heap.size ≤ w0.heap.size := hB0.size
      replace ho0 : OwnI wr.heap.size w0 v0 [] := ho0
      refine hK.out _ _ trivial (fun hHeld => ?_)
      clear hK K
      try simp only [List.getElem_toArray, List.getElem_cons_zero, List.getElem_cons_succ, Act.put, List.setIfInBounds_toArray, List.set_cons_zero, List.set_cons_succ]
      refine wpAnyH_ready (rs := [4, 6]) (by kernel_rfl) (by simp) ?_
      refine AllReadyH.cons rfl (fun K hK => ?_) (AllReadyH.cons rfl (fun K hK => ?_) AllReadyH.nil)
      · refine step_append_ints rfl (.tmp 33) (.tmp 36) rfl _ _ ([]) rfl ho0 hn0 ⟨b, 0, none⟩ (c) (g) (xs.take g) (HTL.out.symm) rfl (HCB.out _ (hB0)) (by rw [HTL.out]; show 0 + g ≤ _; omega) (hZ0) ?_
        intro v1 w1 ho1 hn1 hb1 hg1
        have hB1 : Below wr.heap.size wr w1 := hB0.trans hb1
        have hZ1 : wr.heap.size ≤ w1.heap.size := hB1.size
        refine hK.out _ _ trivial (fun hHeld => ?_)
        clear hK K
        try simp only [List.getElem_toArray, List.getElem_cons_zero, List.getElem_cons_succ, Act.put, List.setIfInBounds_toArray, List.set_cons_zero, List.set_cons_succ]
        refine wpAnyH_ready (rs := [6]) (by kernel_rfl) (by simp) ?_
        refine AllReadyH.cons rfl (fun K hK => ?_) AllReadyH.nil
        refine step_lit1 rfl (.tmp 38) n rfl rfl ?_
        intro wl G hG hcG hbG hlG
        have hBl : Below wr.heap.size wr wl := hB1.trans (hbG.mono hZ1)
        have hZl : wr.heap.size ≤ wl.heap.size := hBl.size
        have hol := ho1.kept hbG
        refine hK.out _ _ trivial (fun hHeld => ?_)
        clear hK K
        try simp only [List.getElem_toArray, List.getElem_cons_zero, List.getElem_cons_succ, Act.put, List.setIfInBounds_toArray, List.set_cons_zero, List.set_cons_succ]
        refine wpAnyH_ready (rs := [7]) (by kernel_rfl) (by simp) ?_
        refine AllReadyH.cons rfl (fun K hK => ?_) AllReadyH.nil
        refine step_append_ints rfl (.tmp 37) (.tmp 39) rfl _ _ ([] ++ xs.take g) rfl hol hn1 ⟨G, 0, none⟩ (1) (1) ([n]) (rfl) rfl (oneI (hcG)) (by rw [List.nil_append, HTL.out]; show g + 1 ≤ _; omega) (hZl) ?_
        intro v2 w2 ho2 hn2 hb2 hg2
        have hB2 : Below wr.heap.size wr w2 := hBl.trans hb2
        have hZ2 : wr.heap.size ≤ w2.heap.size := hB2.size
        refine hK.out _ _ trivial (fun hHeld => ?_)
        clear hK K
        try simp only [List.getElem_toArray, List.getElem_cons_zero, List.getElem_cons_succ, Act.put, List.setIfInBounds_toArray, List.set_cons_zero, List.set_cons_succ]
        refine wpAnyH_ready (rs := [11]) (by kernel_rfl) (by simp) ?_
        refine AllReadyH.cons rfl (fun K hK => ?_) AllReadyH.nil
        refine step_append_ints rfl (.tmp 40) (.tmp 43) rfl _ _ ([] ++ xs.take g ++ [n]) rfl ho2 hn2 A (c - g) (xs.length - g) (xs.drop g) (HDL.out.symm) rfl (HCA.out _ (hB2)) (by rw [List.nil_append, List.length_append, HTL.out, HDL.out]; show g + 1 + _ ≤ _; omega) (hZ2) ?_
        intro v3 w3 ho3 hn3 hb3 hg3
        have hB3 : Below wr.heap.size wr w3 := hB2.trans hb3
        refine hK.out _ _ trivial (fun hHeld => ?_)
        clear hK K
        try simp only [List.getElem_toArray, List.getElem_cons_zero, List.getElem_cons_succ, Act.put, List.setIfInBounds_toArray, List.set_cons_zero, List.set_cons_succ]
        refine wpAnyH_take (i := 12) (v := ?_) rfl (by kernel_rfl) (by kernel_rfl) (by kernel_rfl) (fun _ _ _ h => h) (Or.inl ⟨by kernel_rfl, ?_⟩) (by assumption) ?_
        rotate_left 1
        · intro w hSw
          go_simp
          try with_reducible rfl
        try simp only [List.getElem_toArray, List.getElem_cons_zero, List.getElem_cons_succ, Act.put, List.setIfInBounds_toArray, List.set_cons_zero, List.set_cons_succ]
        refine wpAnyH_done (by kernel_rfl) ?_ _
        have HF := Lib.hid (hB3)
        have HO := Lib.hid ho3
        have HN := Lib.hid hn3
        clear hs2
        go_wp2_with fail
        go_ret
        exact put_end HE.out HO.out HN.out HF.out
      · refine step_lit1 rfl (.tmp 38) n rfl rfl ?_
        intro wl G hG hcG hbG hlG
        have hBl : Below wr.heap.size wr wl := hB0.trans (hbG.mono hZ0)
        have hZl : wr.heap.size ≤ wl.heap.size := hBl.size
        have hol := ho0.kept hbG
        refine hK.out _ _ trivial (fun hHeld => ?_)
        clear hK K
        try simp only [List.getElem_toArray, List.getElem_cons_zero, List.getElem_cons_succ, Act.put, List.setIfInBounds_toArray, List.set_cons_zero, List.set_cons_succ]
        refine wpAnyH_ready (rs := [4]) (by kernel_rfl) (by simp) ?_
        refine AllReadyH.cons rfl (fun K hK => ?_) AllReadyH.nil
        refine step_append_ints rfl (.tmp 33) (.tmp 36) rfl _ _ ([]) rfl hol hn0 ⟨b, 0, none⟩ (c) (g) (xs.take g) (HTL.out.symm) rfl (HCB.out _ (hBl)) (by rw [HTL.out]; show 0 + g ≤ _; omega) (hZl) ?_
        intro v1 w1 ho1 hn1 hb1 hg1
        have hB1 : Below wr.heap.size wr w1 := hBl.trans hb1
        have hZ1 : wr.heap.size ≤ w1.heap.size := hB1.size
        have hcG1 := cellK hcG hg1 (fun e => absurd (ho0.block_lt _ e.symm) (by omega))
        refine hK.out _ _ trivial (fun hHeld => ?_)
        clear hK K
        try simp only [List.getElem_toArray, List.getElem_cons_zero, List.getElem_cons_succ, Act.put, List.setIfInBounds_toArray, List.set_cons_zero, List.set_cons_succ]
        refine wpAnyH_ready (rs := [7]) (by kernel_rfl) (by simp) ?_
        refine AllReadyH.cons rfl (fun K hK => ?_) AllReadyH.nil
        refine step_append_ints rfl (.tmp 37) (.tmp 39) rfl _ _ ([] ++ xs.take g) rfl ho1 hn1 ⟨G, 0, none⟩ (1) (1) ([n]) (rfl) rfl (oneI (hcG1)) (by rw [List.nil_append, HTL.out]; show g + 1 ≤ _; omega) (hZ1) ?_
        intro v2 w2 ho2 hn2 hb2 hg2
        have hB2 : Below wr.heap.size wr w2 := hB1.trans hb2
        have hZ2 : wr.heap.size ≤ w2.heap.size := hB2.size
        refine hK.out _ _ trivial (fun hHeld => ?_)
        clear hK K
        try simp only [List.getElem_toArray, List.getElem_cons_zero, List.getElem_cons_succ, Act.put, List.setIfInBounds_toArray, List.set_cons_zero, List.set_cons_succ]
        refine wpAnyH_ready (rs := [11]) (by kernel_rfl) (by simp) ?_
        refine AllReadyH.cons rfl (fun K hK => ?_) AllReadyH.nil
        refine step_append_ints rfl (.tmp 40) (.tmp 43) rfl _ _ ([] ++ xs.take g ++ [n]) rfl ho2 hn2 A (c - g) (xs.length - g) (xs.drop g) (HDL.out.symm) rfl (HCA.out _ (hB2)) (by rw [List.nil_append, List.length_append, HTL.out, HDL.out]; show g + 1 + _ ≤ _; omega) (hZ2) ?_
        intro v3 w3 ho3 hn3 hb3 hg3
        have hB3 : Below wr.heap.size wr w3 := hB2.trans hb3
        refine hK.out _ _ trivial (fun hHeld => ?_)
        clear hK K
        try simp only [List.getElem_toArray, List.getElem_cons_zero, List.getElem_cons_succ, Act.put, List.setIfInBounds_toArray, List.set_cons_zero, List.set_cons_succ]
        refine wpAnyH_take (i := 12) (v := ?_) rfl (by kernel_rfl) (by kernel_rfl) (by kernel_rfl) (fun _ _ _ h => h) (Or.inl ⟨by kernel_rfl, ?_⟩) (by assumption) ?_
        rotate_left 1
        · intro w hSw
          go_simp
          try with_reducible rfl
        try simp only [List.getElem_toArray, List.getElem_cons_zero, List.getElem_cons_succ, Act.put, List.setIfInBounds_toArray, List.set_cons_zero, List.set_cons_succ]
        refine wpAnyH_done (by kernel_rfl) ?_ _
        have HF := Lib.hid (hB3)
        have HO := Lib.hid ho3
        have HN := Lib.hid hn3
        clear hs2
        go_wp2_with fail
        go_ret
        exact put_end HE.out HO.out HN.out HF.out
    · refine step_lit1 rfl (.tmp 38) n rfl rfl ?_
      intro wl G hG hcG hbG hlG
      have hBl : Below wr.heap.size wr wl := hS.trans hbG
      have hZl : wr.heap.size ≤ wl.heap.size := hBl.size
      refine hK.out _ _ trivial (fun hHeld => ?_)
      clear hK K
      try simp only [List.getElem_toArray, List.getElem_cons_zero, List.getElem_cons_succ, Act.put, List.setIfInBounds_toArray, List.set_cons_zero, List.set_cons_succ]
      refine wpAnyH_ready (rs := [0]) (by kernel_rfl) (by simp) ?_
      refine AllReadyH.cons rfl (fun K hK => ?_) AllReadyH.nil
      refine step_lit0 rfl rfl ?_
      intro v0 w0 ho0 hn0 hb0
      have hB0 : Below wr.heap.size wr w0 := hBl.trans (hb0.mono hZl)
      have hZ0 : wl.heap.size ≤ w0.heap.size := hb0.size
      refine hK.out _ _ trivial (fun hHeld => ?_)
      clear hK K
      try simp only [List.getElem_toArray, List.getElem_cons_zero, List.getElem_cons_succ, Act.put, List.setIfInBounds_toArray, List.set_cons_zero, List.set_cons_succ]
      refine wpAnyH_ready (rs := [4]) (by kernel_rfl) (by simp) ?_
      refine AllReadyH.cons rfl (fun K hK => ?_) AllReadyH.nil
      refine step_append_ints rfl (.tmp 33) (.tmp 36) rfl _ _ ([]) rfl ho0 hn0 ⟨b, 0, none⟩ (c) (g) (xs.take g) (HTL.out.symm) rfl (HCB.out _ (hB0)) (by rw [HTL.out]; show 0 + g ≤ _; omega) (hZ0) ?_
      intro v1 w1 ho1 hn1 hb1 hg1
      have hB1 : Below wr.heap.size wr w1 := hB0.trans (hb1.mono hZl)
      have hZ1 : wl.heap.size ≤ w1.heap.size := Nat.le_trans hZ0 hb1.size
      have hcG1 : w1.cell? ⟨G, 0, none⟩ = some (iV n) := ((hb0.trans hb1).cell (p := ⟨G, 0, none⟩) hlG).trans hcG
      refine hK.out _ _ trivial (fun hHeld => ?_)
      clear hK K
      try simp only [List.getElem_toArray, List.getElem_cons_zero, List.getElem_cons_succ, Act.put, List.setIfInBounds_toArray, List.set_cons_zero, List.set_cons_succ]
      refine wpAnyH_ready (rs := [7]) (by kernel_rfl) (by simp) ?_
      refine AllReadyH.cons rfl (fun K hK => ?_) AllReadyH.nil
      refine step_append_ints rfl (.tmp 37) (.tmp 39) rfl _ _ ([] ++ xs.take g) rfl ho1 hn1 ⟨G, 0, none⟩ (1) (1) ([n]) (rfl) rfl (oneI (hcG1)) (by rw [List.nil_append, HTL.out]; show g + 1 ≤ _; omega) (hZ1) ?_
      intro v2 w2 ho2 hn2 hb2 hg2
      have hB2 : Below wr.heap.size wr w2 := hB1.trans (hb2.mono hZl)
      have hZ2 : wl.heap.size ≤ w2.heap.size := Nat.le_trans hZ1 hb2.size
      refine hK.out _ _ trivial (fun hHeld => ?_)
      clear hK K
      try simp only [List.getElem_toArray, List.getElem_cons_zero, List.getElem_cons_succ, Act.put, List.setIfInBounds_toArray, List.set_cons_zero, List.set_cons_succ]
      refine wpAnyH_ready (rs := [11]) (by kernel_rfl) (by simp) ?_
      refine AllReadyH.cons rfl (fun K hK => ?_) AllReadyH.nil
      refine step_append_ints rfl (.tmp 40) (.tmp 43) rfl _ _ ([] ++ xs.take g ++ [n]) rfl ho2 hn2 A (c - g) (xs.length - g) (xs.drop g) (HDL.out.symm) rfl (HCA.out _ (hB2)) (by rw [List.nil_append, List.length_append, HTL.out, HDL.out]; show g + 1 + _ ≤ _; omega) (hZ2) ?_
      intro v3 w3 ho3 hn3 hb3 hg3
      have hB3 : Below wr.heap.size wr w3 := hB2.trans (hb3.mono hZl)
      refine hK.out _ _ trivial (fun hHeld => ?_)
      clear hK K
      try simp only [List.getElem_toArray, List.getElem_cons_zero, List.getElem_cons_succ, Act.put, List.setIfInBounds_toArray, List.set_cons_zero, List.set_cons_succ]
      refine wpAnyH_take (i := 12) (v := ?_) rfl (by kernel_rfl) (by kernel_rfl) (by kernel_rfl) (fun _ _ _ h => h) (Or.inl ⟨by kernel_rfl, ?_⟩) (by assumption) ?_
      rotate_left 1
      · intro w hSw
        go_simp
        try with_reducible rfl
      try simp only [List.getElem_toArray, List.getElem_cons_zero, List.getElem_cons_succ, Act.put, List.setIfInBounds_toArray, List.set_cons_zero, List.set_cons_succ]
      refine wpAnyH_done (by kernel_rfl) ?_ _
      have HF := Lib.hid (hB3)
      have HO := Lib.hid ho3
      have HN := Lib.hid hn3
      clear hs2
      go_wp2_with fail
      go_ret
      exact put_end HE.out HO.out HN.out HF.out
structure PRow (w : World) (xs : List Nat) (m : Nat) (v : Value) : Prop where
 at_ : ∃ b c, v = .slice (some ⟨b, 0, none⟩) xs.length c ∧ IRow w xs b c
 asc : AscN xs
 le : ∀ x ∈ xs, x ≤ m
theorem PRow.kept {w w' : World} {xs : List Nat} {m : Nat} {v : Value} (h : PRow w xs m v) (hb : Below w.heap.size w w') : PRow w' xs m v := by
 obtain ⟨b, c, e, hr⟩ := h.at_
 exact ⟨⟨b, c, e, hr.kept hb⟩, h.asc, h.le⟩
theorem PRow.len {w : World} {xs : List Nat} {m : Nat} {v : Value} (h : PRow w xs m v) : xs.length ≤ m + 1 := h.asc.len_le h.le
theorem allN_take (a b : List Nat) (g : Nat) (h : g < b.length) : allN a (b.take (g + 1)) = putN (allN a (b.take g)) b[g] := by
 unfold allN
 rw [List.take_add_one, List.getElem?_eq_getElem h, List.foldl_append]
 rfl
theorem putN_le (m : Nat) (xs : List Nat) (n : Nat) (hx : ∀ x ∈ xs, x ≤ m) (hn : n ≤ m) : ∀ x ∈ putN xs n, x ≤ m := fun x h => by
 rcases (putN_mem n x xs).1 h with rfl | h
 · exact hn
 · exact hx x h
theorem l04Put_row (xs : List Nat) (n m : Nat) (v : Value) (w : World) (h : PRow w xs m v) (hm : m ≤ 1048576) (hn : n ≤ m) :
 Calls Tryd.prog 80 #[v, .int .i64 (n : Int)] w fun e w' => ∃ v', e = .returned v' ∧ PRow w' (putN xs n) m v' ∧ Below w.heap.size w w' := by
 obtain ⟨b, c, rfl, hr⟩ := h.at_
 refine (l04Put_any xs n b c w hr (by have := h.len; omega) h.asc).mono ?_
 rintro e w' ⟨b', c', rfl, h1, h2⟩
 exact ⟨_, rfl, ⟨⟨b', c', rfl, h1⟩, putN_asc n xs h.asc, putN_le m xs n h.le hn⟩, h2⟩
set_option maxRecDepth 100000 in
set_option maxHeartbeats 2000000 in
theorem l04All_any (xs ys : List Nat) (m : Nat) (vx vy : Value) (w : World) (hx : PRow w xs m vx) (hy : PRow w ys m vy) (hm : m ≤ 1048576) :
 Calls Tryd.prog 65 #[vx, vy] w fun e w' => ∃ v', e = .returned v' ∧ PRow w' (allN xs ys) m v' ∧ Below w.heap.size w w' := by
 obtain ⟨b, c, rfl, hyr⟩ := hy.at_
 have HY := Lib.hid hy
 have HYR := Lib.hid hyr
 have HX := Lib.hid hx
 have hyl : (ys.length : Int) ≤ 1048577 := by have := hy.len; omega
 clear hx hy hyr
 go_enter Tryd.func65, Tryd.ntmps65
 go_wp2_with fail
 go_loopg [0, 5] (ys.length) (fun gg va vi wr => gg ≤ ys.length ∧ vi = .int .i64 ((ys.length - gg : Nat) : Int) ∧ PRow wr (allN xs (ys.take (ys.length - gg))) m va ∧ Below w.heap.size w wr)
 case atStart => exact ⟨Nat.le_refl _, by simp, by simpa [allN] using HX.out, Below.refl _ _⟩
 case round =>
  obtain ⟨hg, rfl, hp, hb⟩ := hrel
  have HP := Lib.hid hp
  have HB := Lib.hid hb
  obtain ⟨g, hgg⟩ : ∃ g, g = ys.length - gk := ⟨_, rfl⟩
  have hgl : g ≤ ys.length := by omega
  have HGK := Lib.hid (show gk = ys.length - g from by omega)
  rw [← hgg] at HP ⊢
  clear hp hb hgg
  by_cases h0 : g < ys.length
  · have c0 := (HYR.out.kept HB.out).cell g h0
    obtain ⟨y, hy⟩ : ∃ y, y = ys[g] := ⟨_, rfl⟩
    rw [← hy] at c0
    unfold iV at c0
    have hym : y ≤ m := HY.out.le _ (hy ▸ List.getElem_mem h0)
    have HN := Lib.hid (show allN xs (ys.take (g + 1)) = putN (allN xs (ys.take g)) y from by rw [hy]; exact allN_take xs ys g h0)
    clear hy
    go_wp2_with fail
    refine (l04Put_row _ y m _ _ HP.out hm hym).mono ?_
    rintro e w2 ⟨v2, rfl, hp2, hb2⟩
    have HP2 := Lib.hid hp2
    have HB2 := Lib.hid (HB.out.trans (hb2.mono HB.out.size))
    clear hp2 hb2
    go_wp2_with fail
    go_roundg (gk - 1)
    case rel =>
        have e1 : ys.length - (gk - 1) = g + 1 := by have := HGK.out; omega
        refine ⟨by omega, by rw [e1]; go_num, ?_, HB2.out⟩
        rw [e1, HN.out]
        exact HP2.out
    case measure => have := HGK.out; omega
  · have HE := Lib.hid (show PRow wr (allN xs ys) m u0 from by
        have := HP.out
        rwa [List.take_of_length_le (by omega)] at this)
    go_wp2_with fail
    go_ret
    exact ⟨_, rfl, HE.out, HB.out⟩
end Go.Proofs.YtppfnaenamcnpaaDoor.kit
