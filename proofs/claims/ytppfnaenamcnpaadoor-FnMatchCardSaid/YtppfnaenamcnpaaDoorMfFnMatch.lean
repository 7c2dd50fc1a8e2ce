/-
  Proves FnMatchCardSaid: for every code the law returns true and leaves its argument as it was: what expressions match. Conditions: none beyond the card's own; the library's table that it lists is tied to the program's text by the given tie, over a pruned copy of it.
-/
import Derived.Test.YtppfnaenamcnpaaDoorCards
import Derived.Test.YtppfnaenamcnpaaDoorTie
import Derived.Deep.DeepHandedRow
import Derived.Lay
import Derived.LaidSub
import Derived.ChangeVars
import Derived.OpenVars
import Derived.Deep.CutRange
import Derived.Deep.CutBlock
import Derived.Test.YtppfnaenamcnpaaDoorMfFmK
import Derived.Test.YtppfnaenamcnpaaDoorMfCu2
import Derived.Test.YtppfnaenamcnpaaDoorMfMi15
set_option linter.unusedVariables false
set_option linter.unusedSimpArgs false
namespace Go.Proofs.YtppfnaenamcnpaaDoor.fnMatch
open Go.ChangeShapes Go.WideShapes Go.ChangeAt Go.RowKit
open Go.ChangeMaps (open_string shut_string)
open Go.Proofs.YtppfnaenamcnpaaDoor.kit
theorem own : ownKnob Tryd.prog.godebug = none := by kernel_rfl
theorem table {W : World} (h : laidMet Tryd.prog Rows.fnMatchRow.laid W) : BT W := bt_of h (by kernel_rfl)
theorem find_facts {t : ByteArray} {q : RT} {i f1 f2 : Int} (h1 : f1 = (findZ (matchZ t.data.toList q) (t.size : Int) i).1) (h2 : f2 = (findZ (matchZ t.data.toList q) (t.size : Int) i).2) (h : 0 ≤ f1) :
 0 ≤ i ∧ i ≤ f1 ∧ f1 ≤ t.size ∧ matchZ t.data.toList q f1 = f2 ∧ f1 ≤ f2 ∧ f2 ≤ t.size ∧ RT.ok q = true ∧ RT.lst q ≤ f2 - f1 ∧ ∀ j, i ≤ j → j < f1 → matchZ t.data.toList q j < 0 := by
 have S := findZ_spec (h1 ▸ h)
 rw [← h1, ← h2] at S
 obtain ⟨a1, a2, a3, a4, a5, a6⟩ := S
 clear h1 h2
 obtain ⟨m, rfl⟩ : ∃ m : Nat, f1 = (m : Int) := ⟨f1.toNat, by omega⟩
 have hl : t.data.toList.length = t.size := Array.length_toList
 have hm : m ≤ t.data.toList.length := by omega
 cases ho : RT.ok q with
 | false => rw [matchZ_bad ho] at a5; omega
 | true =>
   have a4' := a4
   rw [matchZ_in hm ho] at a4' a5
   rcases lastZ_cases (P := fun j => RT.M t.data.toList q m j) (fun k hk => M_le_len hm hk) with ⟨e, _⟩ | ⟨k, hk, _, e⟩
   · rw [e] at a5; omega
   · have b := (RT.M_bd t.data.toList q m k hk hm).1
     have c := M_le_len hm hk
     have l := lst_le ho hk
     rw [e] at a4'
     exact ⟨a1, a2, a3, a4.symm, by omega, by omega, rfl, by omega, fun j x y => by have := a6 j x y; omega⟩
set_option maxRecDepth 100000 in
set_option maxHeartbeats 4000000 in
theorem walk1 (a : Option Addr) (n cap : Nat) (w : World) (hn : n ≤ 1048576) (hc : Code8 w a n) (ht : BT w) :
 Calls Tryd.prog 3 #[.slice a n cap] w fun e w' => e = .returned (.bool true) ∧ Below w.heap.size w w' := by
 have HC := Lib.hid hc
 have HT := Lib.hid ht
 have BW := Lib.hid (Below.refl w.heap.size w)
 clear hc ht
 go_enter Tryd.func3, Tryd.ntmps3
 go_wp2_with fail
 refine (big_no a n cap _ hn).mono ?_
 rintro e wq ⟨rfl, rfl⟩
 go_wp2_with fail
 refine (drawMatchAt_any a n cap _ hn HC.out).mono ?_
 rintro e w1 ⟨r, ar, cr, s, i, rfl, hk, hcr, hs, hi0, hi1, hb⟩
 have BW := Lib.hid (BW.out.trans (hb.mono BW.out.size))
 clear hb
 have hk := hk.mono (Nat.zero_le _)
 have hcr : RT.cost r ≤ 1048576 := by omega
 skip
 unfold reV
 have X3 : Hid (Bx (w1.alloc (.cells #[.int .i64 r.kind, .string r.set, .bool r.neg, .int .i64 r.low, .int .i64 r.high, .slice ar r.kids.length cr] 26)) w1.heap.size r ar cr) := Lib.hid (bx_new hk)
 clear hk
 have bx : Below w1.heap.size w1 (w1.alloc (.cells #[.int .i64 r.kind, .string r.set, .bool r.neg, .int .i64 r.low, .int .i64 r.high, .slice ar r.kids.length cr] 26)) := (Below.refl _ _).alloc (Nat.le_refl _) _
 have BW := Lib.hid (BW.out.trans (bx.mono BW.out.size))
 clear bx
 go_wp2_with fail
 obtain ⟨g3, hg3⟩ : ∃ g, g = w1.heap.size := ⟨_, rfl⟩
 rw [← hg3] at X3 ⊢
 generalize (w1.alloc (.cells #[.int .i64 r.kind, .string r.set, .bool r.neg, .int .i64 r.low, .int .i64 r.high, .slice ar r.kids.length cr] 26)) = x3 at *
 clear hg3
 refine (implMatchAt_any r s i ar cr _ (by omega) hcr X3.out.kids (HT.out.kept BW.out)).mono ?_
 rintro e w2 ⟨rfl, hb⟩
 have X3 := Lib.hid (X3.out.kept hb)
 have BW := Lib.hid (BW.out.trans (hb.mono BW.out.size))
 clear hb
 obtain ⟨m, HM⟩ : ∃ m, Hid (m = matchZ s.data.toList r i) := ⟨_, Lib.hid rfl⟩
 rw [← HM.out]
 go_wp2_with fail
 refine (drawFindRe_any a n cap _ hn (HC.out.kept BW.out)).mono ?_
 rintro e w3 ⟨q, aq, cq, t, from', rfl, hk, hcq, ht9, hf0, hf1, hb⟩
 have X3 := Lib.hid (X3.out.kept hb)
 have BW := Lib.hid (BW.out.trans (hb.mono BW.out.size))
 clear hb
 have hk := hk.mono (Nat.zero_le _)
 have hcq : RT.cost q ≤ 1048576 := by omega
 unfold reV
 have hl3 := X3.out.six.lt
 have X7 : Hid (Bx (w3.alloc (.cells #[.int .i64 q.kind, .string q.set, .bool q.neg, .int .i64 q.low, .int .i64 q.high, .slice aq q.kids.length cq] 26)) w3.heap.size q aq cq) := Lib.hid (bx_new hk)
 clear hk
 have bx : Below w3.heap.size w3 (w3.alloc (.cells #[.int .i64 q.kind, .string q.set, .bool q.neg, .int .i64 q.low, .int .i64 q.high, .slice aq q.kids.length cq] 26)) := (Below.refl _ _).alloc (Nat.le_refl _) _
 have X3 := Lib.hid (X3.out.kept bx)
 have BW := Lib.hid (BW.out.trans (bx.mono BW.out.size))
 clear bx hl3
 go_wp2_with fail
 obtain ⟨g7, hg7⟩ : ∃ g, g = w3.heap.size := ⟨_, rfl⟩
 rw [← hg7] at X7 ⊢
 generalize (w3.alloc (.cells #[.int .i64 q.kind, .string q.set, .bool q.neg, .int .i64 q.low, .int .i64 q.high, .slice aq q.kids.length cq] 26)) = x7 at *
 clear hg7
 refine (implFindRe_any q t from' aq cq _ (by omega) hcq X7.out.kids (HT.out.kept BW.out)).mono ?_
 rintro e w4 ⟨rfl, hb⟩
 have X3 := Lib.hid (X3.out.kept hb)
 have X7 := Lib.hid (X7.out.kept hb)
 have BW := Lib.hid (BW.out.trans (hb.mono BW.out.size))
 clear hb
 obtain ⟨f1, HF1⟩ : ∃ f1, Hid (f1 = (findZ (matchZ t.data.toList q) (t.size : Int) from').1) := ⟨_, Lib.hid rfl⟩
 obtain ⟨f2, HF2⟩ : ∃ f2, Hid (f2 = (findZ (matchZ t.data.toList q) (t.size : Int) from').2) := ⟨_, Lib.hid rfl⟩
 rw [← HF1.out, ← HF2.out]
 have HSF := Lib.hid (fun a c W h => specFindRe_any q t from' a c W (by omega) hcq h)
 unfold reV at HSF
 rw [← HF1.out, ← HF2.out] at HSF
 obtain ⟨x0, x1, x2, x3', x4, x5, x6⟩ := X7.out.six.cells
 clear x6
 go_wp2_with fail
 refine (HSF.out aq cq _ X7.out.kids).mono ?_
 rintro e w5 ⟨rfl, hb⟩
 clear x0 x1 x2 x3' x4 x5 HSF
 have X3 := Lib.hid (X3.out.kept hb)
 have X7 := Lib.hid (X7.out.kept hb)
 have BW := Lib.hid (BW.out.trans (hb.mono BW.out.size))
 clear hb
 go_wp2_with fail
 refine (drawHas_any a n cap _ hn (HC.out.kept BW.out)).mono ?_
 rintro e w6 ⟨h, ah, ch, u, rfl, hk, hch, hu, hb⟩
 have X3 := Lib.hid (X3.out.kept hb)
 have X7 := Lib.hid (X7.out.kept hb)
 have BW := Lib.hid (BW.out.trans (hb.mono BW.out.size))
 clear hb
 have hk := hk.mono (Nat.zero_le _)
 have hch : RT.cost h ≤ 1048576 := by omega
 unfold reV
 have hl3 := X3.out.six.lt
 have hl7 := X7.out.six.lt
 have X14 : Hid (Bx (w6.alloc (.cells #[.int .i64 h.kind, .string h.set, .bool h.neg, .int .i64 h.low, .int .i64 h.high, .slice ah h.kids.length ch] 26)) w6.heap.size h ah ch) := Lib.hid (bx_new hk)
 clear hk
 have bx : Below w6.heap.size w6 (w6.alloc (.cells #[.int .i64 h.kind, .string h.set, .bool h.neg, .int .i64 h.low, .int .i64 h.high, .slice ah h.kids.length ch] 26)) := (Below.refl _ _).alloc (Nat.le_refl _) _
 have X3 := Lib.hid (X3.out.kept bx)
 have X7 := Lib.hid (X7.out.kept bx)
 have BW := Lib.hid (BW.out.trans (bx.mono BW.out.size))
 clear bx hl3 hl7
 go_wp2_with fail
 obtain ⟨g14, hg14⟩ : ∃ g, g = w6.heap.size := ⟨_, rfl⟩
 rw [← hg14] at X14 ⊢
 generalize (w6.alloc (.cells #[.int .i64 h.kind, .string h.set, .bool h.neg, .int .i64 h.low, .int .i64 h.high, .slice ah h.kids.length ch] 26)) = x14 at *
 clear hg14
 have SS : FmS g3 g7 g14 r q h ar aq ah cr cq ch w x14 := ⟨X3.out, X7.out, X14.out, BW.out⟩
 clear X3 X7 X14 BW
 have HOO := Lib.hid (show FmS g3 g7 g14 r q h ar aq ah cr cq ch w x14.drew from SS.drew)
 clear SS
 have HSM := Lib.hid (fun a c W h => specMatchAt_any r s i a c W (by omega) hcr h)
 rw [← HM.out] at HSM
 have HHI := Lib.hid (fun W (z : FmS g3 g7 g14 r q h ar aq ah cr cq ch w W) => implHas_any h u ah ch W (by omega) hch z.b14.kids (HT.out.kept z.below))
 have HHS := Lib.hid (fun W (z : FmS g3 g7 g14 r q h ar aq ah cr cq ch w W) => specHas_any h u ah ch W (by omega) hch z.b14.kids)
 unfold reV at HSM HHI HHS
 generalize hasZ u h = hz at *
 refine wp_region_held_drew (S := fun w' => FmS g3 g7 g14 r q h ar aq ah cr cq ch w w') (by kernel_rfl) HOO.out (fun hHeld => ?_)
 clear HOO
 refine wpAnyH_take (i := 0) (v := .int .i64 m) rfl (by kernel_rfl) (by kernel_rfl) (by kernel_rfl) (fun _ _ _ h => h) (Or.inl ⟨by kernel_rfl, fun w hSw => by go_simp⟩) (by assumption) ?_
 try simp only [List.getElem_toArray, List.getElem_cons_zero, List.getElem_cons_succ, Act.put, List.setIfInBounds_toArray, List.set_cons_zero, List.set_cons_succ]
 refine wpAnyH_take (i := 1) (v := .agg #[.int .i64 r.kind, .string r.set, .bool r.neg, .int .i64 r.low, .int .i64 r.high, .slice ar r.kids.length cr]) rfl (by kernel_rfl) (by kernel_rfl) (by kernel_rfl) (fun _ _ _ h => h) (Or.inl ⟨by kernel_rfl, fun w hSw => by obtain ⟨x0, x1, x2, x3, x4, x5, _⟩ := hSw.b3.six.cells; go_simp⟩) (by assumption) ?_
 try simp only [List.getElem_toArray, List.getElem_cons_zero, List.getElem_cons_succ, Act.put, List.setIfInBounds_toArray, List.set_cons_zero, List.set_cons_succ]
 refine wpAnyH_take (i := 2) (v := .string s) rfl (by kernel_rfl) (by kernel_rfl) (by kernel_rfl) (fun _ _ _ h => h) (Or.inl ⟨by kernel_rfl, fun w hSw => by go_simp⟩) (by assumption) ?_
 try simp only [List.getElem_toArray, List.getElem_cons_zero, List.getElem_cons_succ, Act.put, List.setIfInBounds_toArray, List.set_cons_zero, List.set_cons_succ]
 refine wpAnyH_take (i := 3) (v := .int .i64 i) rfl (by kernel_rfl) (by kernel_rfl) (by kernel_rfl) (fun _ _ _ h => h) (Or.inl ⟨by kernel_rfl, fun w hSw => by go_simp⟩) (by assumption) ?_
 try simp only [List.getElem_toArray, List.getElem_cons_zero, List.getElem_cons_succ, Act.put, List.setIfInBounds_toArray, List.set_cons_zero, List.set_cons_succ]
 refine wpAnyH_ready (rs := [4]) (by kernel_rfl) (by simp) ?_
 refine AllReadyH.cons rfl (fun K hK => ?_) AllReadyH.nil
 go_simp
 refine (HSM.out ar cr _ (show FmS g3 g7 g14 r q h ar aq ah cr cq ch w _ by assumption).b3.kids).mono ?_
 rintro e wz ⟨rfl, hbz⟩
 go_wp2_with fail
 refine hK.out _ _ (FmS.step (by assumption) hbz) (fun hHeld => ?_)
 clear hK K hbz
 try simp only [List.getElem_toArray, List.getElem_cons_zero, List.getElem_cons_succ, Act.put, List.setIfInBounds_toArray, List.set_cons_zero, List.set_cons_succ]
 refine wpAnyH_take (i := 5) (v := .bool false) rfl (by kernel_rfl) (by kernel_rfl) (by kernel_rfl) (fun _ _ _ h => h) (Or.inl ⟨by kernel_rfl, fun w hSw => by go_simp⟩) (by assumption) ?_
 try simp only [List.getElem_toArray, List.getElem_cons_zero, List.getElem_cons_succ, Act.put, List.setIfInBounds_toArray, List.set_cons_zero, List.set_cons_succ]
 refine wpAnyH_take (i := 6) (v := .bool false) rfl (by kernel_rfl) (by kernel_rfl) (by kernel_rfl) (fun _ _ _ h => h) (Or.inl ⟨by kernel_rfl, fun w hSw => by go_simp⟩) (by assumption) ?_
 try simp only [List.getElem_toArray, List.getElem_cons_zero, List.getElem_cons_succ, Act.put, List.setIfInBounds_toArray, List.set_cons_zero, List.set_cons_succ]
 refine wpAnyH_take (i := 7) (v := .int .i64 f1) rfl (by kernel_rfl) (by kernel_rfl) (by kernel_rfl) (fun _ _ _ h => h) (Or.inl ⟨by kernel_rfl, fun w hSw => by go_simp⟩) (by assumption) ?_
 try simp only [List.getElem_toArray, List.getElem_cons_zero, List.getElem_cons_succ, Act.put, List.setIfInBounds_toArray, List.set_cons_zero, List.set_cons_succ]
 refine wpAnyH_take (i := 8) (v := .int .i64 f1) rfl (by kernel_rfl) (by kernel_rfl) (by kernel_rfl) (fun _ _ _ h => h) (Or.inl ⟨by kernel_rfl, fun w hSw => by go_simp⟩) (by assumption) ?_
 try simp only [List.getElem_toArray, List.getElem_cons_zero, List.getElem_cons_succ, Act.put, List.setIfInBounds_toArray, List.set_cons_zero, List.set_cons_succ]
 refine wpAnyH_take (i := 9) (v := .bool false) rfl (by kernel_rfl) (by kernel_rfl) (by kernel_rfl) (fun _ _ _ h => h) (Or.inl ⟨by kernel_rfl, fun w hSw => by go_simp⟩) (by assumption) ?_
 try simp only [List.getElem_toArray, List.getElem_cons_zero, List.getElem_cons_succ, Act.put, List.setIfInBounds_toArray, List.set_cons_zero, List.set_cons_succ]
 refine wpAnyH_take (i := 10) (v := .bool false) rfl (by kernel_rfl) (by kernel_rfl) (by kernel_rfl) (fun _ _ _ h => h) (Or.inl ⟨by kernel_rfl, fun w hSw => by go_simp⟩) (by assumption) ?_
 try simp only [List.getElem_toArray, List.getElem_cons_zero, List.getElem_cons_succ, Act.put, List.setIfInBounds_toArray, List.set_cons_zero, List.set_cons_succ]
 refine wpAnyH_take (i := 11) (v := .bool false) rfl (by kernel_rfl) (by kernel_rfl) (by kernel_rfl) (fun _ _ _ h => h) (Or.inl ⟨by kernel_rfl, fun w hSw => by go_simp⟩) (by assumption) ?_
 try simp only [List.getElem_toArray, List.getElem_cons_zero, List.getElem_cons_succ, Act.put, List.setIfInBounds_toArray, List.set_cons_zero, List.set_cons_succ]
 refine wpAnyH_take (i := 12) (v := .int .i64 f2) rfl (by kernel_rfl) (by kernel_rfl) (by kernel_rfl) (fun _ _ _ h => h) (Or.inl ⟨by kernel_rfl, fun w hSw => by go_simp⟩) (by assumption) ?_
 try simp only [List.getElem_toArray, List.getElem_cons_zero, List.getElem_cons_succ, Act.put, List.setIfInBounds_toArray, List.set_cons_zero, List.set_cons_succ]
 refine wpAnyH_take (i := 13) (v := .int .i64 f2) rfl (by kernel_rfl) (by kernel_rfl) (by kernel_rfl) (fun _ _ _ h => h) (Or.inl ⟨by kernel_rfl, fun w hSw => by go_simp⟩) (by assumption) ?_
 try simp only [List.getElem_toArray, List.getElem_cons_zero, List.getElem_cons_succ, Act.put, List.setIfInBounds_toArray, List.set_cons_zero, List.set_cons_succ]
 refine wpAnyH_take (i := 14) (v := .bool false) rfl (by kernel_rfl) (by kernel_rfl) (by kernel_rfl) (fun _ _ _ h => h) (Or.inl ⟨by kernel_rfl, fun w hSw => by go_simp⟩) (by assumption) ?_
 try simp only [List.getElem_toArray, List.getElem_cons_zero, List.getElem_cons_succ, Act.put, List.setIfInBounds_toArray, List.set_cons_zero, List.set_cons_succ]
 refine wpAnyH_take (i := 15) (v := .bool false) rfl (by kernel_rfl) (by kernel_rfl) (by kernel_rfl) (fun _ _ _ h => h) (Or.inl ⟨by kernel_rfl, fun w hSw => by go_simp⟩) (by assumption) ?_
 try simp only [List.getElem_toArray, List.getElem_cons_zero, List.getElem_cons_succ, Act.put, List.setIfInBounds_toArray, List.set_cons_zero, List.set_cons_succ]
 refine wpAnyH_take (i := 16) (v := .bool false) rfl (by kernel_rfl) (by kernel_rfl) (by kernel_rfl) (fun _ _ _ h => h) (Or.inl ⟨by kernel_rfl, fun w hSw => by go_simp⟩) (by assumption) ?_
 try simp only [List.getElem_toArray, List.getElem_cons_zero, List.getElem_cons_succ, Act.put, List.setIfInBounds_toArray, List.set_cons_zero, List.set_cons_succ]
 refine wpAnyH_take (i := 17) (v := .agg #[.int .i64 h.kind, .string h.set, .bool h.neg, .int .i64 h.low, .int .i64 h.high, .slice ah h.kids.length ch]) rfl (by kernel_rfl) (by kernel_rfl) (by kernel_rfl) (fun _ _ _ h => h) (Or.inl ⟨by kernel_rfl, fun w hSw => by obtain ⟨x0, x1, x2, x3, x4, x5, _⟩ := hSw.b14.six.cells; go_simp⟩) (by assumption) ?_
 try simp only [List.getElem_toArray, List.getElem_cons_zero, List.getElem_cons_succ, Act.put, List.setIfInBounds_toArray, List.set_cons_zero, List.set_cons_succ]
 refine wpAnyH_take (i := 18) (v := .string u) rfl (by kernel_rfl) (by kernel_rfl) (by kernel_rfl) (fun _ _ _ h => h) (Or.inl ⟨by kernel_rfl, fun w hSw => by go_simp⟩) (by assumption) ?_
 try simp only [List.getElem_toArray, List.getElem_cons_zero, List.getElem_cons_succ, Act.put, List.setIfInBounds_toArray, List.set_cons_zero, List.set_cons_succ]
 refine wpAnyH_take (i := 20) (v := .agg #[.int .i64 h.kind, .string h.set, .bool h.neg, .int .i64 h.low, .int .i64 h.high, .slice ah h.kids.length ch]) rfl (by kernel_rfl) (by kernel_rfl) (by kernel_rfl) (fun _ _ _ h => h) (Or.inl ⟨by kernel_rfl, fun w hSw => by obtain ⟨x0, x1, x2, x3, x4, x5, _⟩ := hSw.b14.six.cells; go_simp⟩) (by assumption) ?_
 try simp only [List.getElem_toArray, List.getElem_cons_zero, List.getElem_cons_succ, Act.put, List.setIfInBounds_toArray, List.set_cons_zero, List.set_cons_succ]
 refine wpAnyH_take (i := 21) (v := .string u) rfl (by kernel_rfl) (by kernel_rfl) (by kernel_rfl) (fun _ _ _ h => h) (Or.inl ⟨by kernel_rfl, fun w hSw => by go_simp⟩) (by assumption) ?_
 try simp only [List.getElem_toArray, List.getElem_cons_zero, List.getElem_cons_succ, Act.put, List.setIfInBounds_toArray, List.set_cons_zero, List.set_cons_succ]
 refine wpAnyH_ready (rs := [19]) (by kernel_rfl) (by simp) ?_
 refine AllReadyH.cons rfl (fun K hK => ?_) AllReadyH.nil
 go_simp
 refine (HHI.out _ (show FmS g3 g7 g14 r q h ar aq ah cr cq ch w _ by assumption)).mono ?_
 rintro e wz ⟨rfl, hbz⟩
 go_wp2_with fail
 refine hK.out _ _ (FmS.step (by assumption) hbz) (fun hHeld => ?_)
 clear hK K hbz
 try simp only [List.getElem_toArray, List.getElem_cons_zero, List.getElem_cons_succ, Act.put, List.setIfInBounds_toArray, List.set_cons_zero, List.set_cons_succ]
 refine wpAnyH_ready (rs := [22]) (by kernel_rfl) (by simp) ?_
 refine AllReadyH.cons rfl (fun K hK => ?_) AllReadyH.nil
 go_simp
 refine (HHS.out _ (show FmS g3 g7 g14 r q h ar aq ah cr cq ch w _ by assumption)).mono ?_
 rintro e wz ⟨rfl, hbz⟩
 go_wp2_with fail
 refine hK.out _ _ (FmS.step (by assumption) hbz) (fun hHeld => ?_)
 clear hK K hbz
 try simp only [List.getElem_toArray, List.getElem_cons_zero, List.getElem_cons_succ, Act.put, List.setIfInBounds_toArray, List.set_cons_zero, List.set_cons_succ]
 refine wpAnyH_take (i := 23) (v := .bool false) rfl (by kernel_rfl) (by kernel_rfl) (by kernel_rfl) (fun _ _ _ h => h) (Or.inl ⟨by kernel_rfl, fun w hSw => by go_simp⟩) (by assumption) ?_
 try simp only [List.getElem_toArray, List.getElem_cons_zero, List.getElem_cons_succ, Act.put, List.setIfInBounds_toArray, List.set_cons_zero, List.set_cons_succ]
 refine wpAnyH_take (i := 24) (v := .bool false) rfl (by kernel_rfl) (by kernel_rfl) (by kernel_rfl) (fun _ _ _ h => h) (Or.inl ⟨by kernel_rfl, fun w hSw => by go_simp⟩) (by assumption) ?_
 try simp only [List.getElem_toArray, List.getElem_cons_zero, List.getElem_cons_succ, Act.put, List.setIfInBounds_toArray, List.set_cons_zero, List.set_cons_succ]
 refine wpAnyH_done (by kernel_rfl) ?_ _
 skip
 have HF := Lib.hid (show FmS g3 g7 g14 r q h ar aq ah cr cq ch w _ by assumption)
 clear hHeld
 have HMQ := Lib.hid (fun k W (z : FmS g3 g7 g14 r q h ar aq ah cr cq ch w W) => implMatchAt_any q t k aq cq W (by omega) hcq z.b7.kids (HT.out.kept z.below))
 have HLQ := Lib.hid (fun W (z : FmS g3 g7 g14 r q h ar aq ah cr cq ch w W) => implLeast_any q aq cq W z.b7.kids hcq)
 unfold reV at HMQ HLQ
 have HFF := Lib.hid (fun z => find_facts HF1.out HF2.out z)
 go_upto_region 11 with fail
 go_cut [110] from 83 to 110 (fun c wx => c = .bool false ∧ FmS g3 g7 g14 r q h ar aq ah cr cq ch w wx)
 case first =>
  by_cases hf : 0 ≤ f1
  · obtain ⟨a1, a2, a3, a4, a5, a6, a7, a8, a9⟩ := HFF.out hf
    have e1 : decide (0 ≤ f1) = true := by simp [hf]
    have e2 : decide (f1 < from') = false := by rw [decide_eq_false_iff_not]; omega
    have e3 : decide (f2 < f1) = false := by rw [decide_eq_false_iff_not]; omega
    have e4 : decide (f2 - f1 < RT.lst q) = false := by rw [decide_eq_false_iff_not]; omega
    have e5 : IntKind.i64.wrap (f2 - f1) = f2 - f1 := by rw [IntKind.wrap_i64]; omega
    have MQ := Lib.hid (HMQ.out f1 _ HF.out)
    rw [a4] at MQ
    have A7 := Lib.hid a7
    clear a4 a7 a9
    obtain ⟨y0, y1, y2, y3, y4, y5, y6⟩ := HF.out.b7.six.cells
    clear y6
    go_wp2_with fail
    refine MQ.out.mono ?_
    rintro e wz ⟨rfl, hb⟩
    have HF := Lib.hid (HF.out.step hb)
    clear hb
    clear y0 y1 y2 y3 y4 y5
    clear MQ
    have LQ := Lib.hid (HLQ.out _ HF.out)
    rw [if_pos A7.out] at LQ
    obtain ⟨y0, y1, y2, y3, y4, y5, y6⟩ := HF.out.b7.six.cells
    clear y6
    go_wp2_with fail
    refine LQ.out.mono ?_
    rintro e wy ⟨rfl, hb⟩
    have HF := Lib.hid (HF.out.step hb)
    clear hb
    clear y0 y1 y2 y3 y4 y5
    clear LQ
    go_wp2_with fail
    go_meet
    exact ⟨rfl, HF.out⟩
  · have e1 : decide (0 ≤ f1) = false := by simp; omega
    go_wp2_with fail
    go_meet
    exact ⟨rfl, HF.out⟩
 case rest =>
  obtain ⟨rfl, hss⟩ := hcut
  have HF := Lib.hid hss
  clear hss HLQ
  go_wp2_with fail
  go_loopw [16] (fun v wr => ∃ k : Int, -1 ≤ k ∧ k ≤ 9 ∧ from' ≤ k ∧ v = .int .i64 k ∧ FmS g3 g7 g14 r q h ar aq ah cr cq ch w wr) (fun v _ => (f1 - intOf v).toNat)
  case atStart => exact ⟨from', by omega, by omega, by omega, rfl, HF.out⟩
  case round =>
   obtain ⟨k, hk0, hk1, hk2, rfl, hss⟩ := hrel
   have HF := Lib.hid hss
   clear hss
   go_upto_region 14 with fail
   go_cut [118] from 112 to 125 (fun c wx => c = .bool (decide (0 ≤ k ∧ k < f1)) ∧ FmS g3 g7 g14 r q h ar aq ah cr cq ch w wx)
   case first =>
        by_cases h0 : 0 ≤ k
        · have e1 : decide (0 ≤ k) = true := by simp [h0]
          by_cases h1 : k < f1
          · have e2 : decide (k < f1) = true := by simp [h1]
            go_wp2_with fail
            go_meet
            exact ⟨congrArg Value.bool (decide_eq_true ⟨h0, h1⟩).symm, HF.out⟩
          · have e2 : decide (k < f1) = false := by rw [decide_eq_false_iff_not]; exact h1
            go_wp2_with fail
            go_meet
            exact ⟨congrArg Value.bool (decide_eq_false (fun z => by omega)).symm, HF.out⟩
        · have e1 : decide (0 ≤ k) = false := by rw [decide_eq_false_iff_not]; exact h0
          go_wp2_with fail
          go_meet
          exact ⟨congrArg Value.bool (decide_eq_false (fun z => by omega)).symm, HF.out⟩
   case rest =>
        obtain ⟨rfl, hss⟩ := hcut
        have HF := Lib.hid hss
        clear hss
        by_cases hh : 0 ≤ k ∧ k < f1
        · have hk8 : f1 ≤ t.size := (HFF.out (by omega)).2.2.1
          have hz : matchZ t.data.toList q k < 0 := (HFF.out (by omega)).2.2.2.2.2.2.2.2 k hk2 hh.2
          have MQ := Lib.hid (HMQ.out k _ HF.out)
          generalize matchZ t.data.toList q k = mk at MQ hz
          have e2 : decide (0 ≤ mk) = false := by rw [decide_eq_false_iff_not]; omega
          have hk9 : k ≤ 7 := by omega
          have e3 : decide (0 ≤ k ∧ k < f1) = true := by simp [hh]
          have hh2 := hh.2
          rw [e3]
          clear e3 hh
          obtain ⟨y0, y1, y2, y3, y4, y5, y6⟩ := HF.out.b7.six.cells
          clear y6
          go_wp2_with fail
          refine MQ.out.mono ?_
          rintro e wz ⟨rfl, hb⟩
          have HF := Lib.hid (HF.out.step hb)
          clear hb
          clear y0 y1 y2 y3 y4 y5
          clear MQ
          go_wp2_with fail
          go_roundw
          case rel => exact ⟨k + 1, by omega, by omega, by omega, by go_num, HF.out⟩
          case measure => simp [intOf]; omega
        · have e3 : decide (0 ≤ k ∧ k < f1) = false := by rw [decide_eq_false_iff_not]; exact hh
          rw [e3]
          clear e3 hh HMQ HFF
          have HOR := Lib.hid (fun W (z : FmS g3 g7 g14 r q h ar aq ah cr cq ch w W) => specReOk_any r ar cr W z.b3.kids hcr)
          have HOH := Lib.hid (fun W (z : FmS g3 g7 g14 r q h ar aq ah cr cq ch w W) => specReOk_any h ah ch W z.b14.kids hch)
          unfold reV at HOR HOH
          cases hor : RT.ok r
          · skip
            have OK := Lib.hid (HOR.out _ HF.out)
            rw [hor] at OK
            obtain ⟨y0, y1, y2, y3, y4, y5, y6⟩ := HF.out.b3.six.cells
            clear y6
            obtain ⟨z0, z1, z2, z3, z4, z5, z6⟩ := HF.out.b14.six.cells
            clear z6
            go_wp2_with fail
            refine OK.out.mono ?_
            rintro e wz ⟨rfl, hb⟩
            have HF := Lib.hid (HF.out.step hb)
            clear hb
            clear y0 y1 y2 y3 y4 y5
            clear z0 z1 z2 z3 z4 z5
            clear OK
            go_wp2_with fail
            go_ret
            exact ⟨rfl, HF.out.below⟩
          · skip
            have OK := Lib.hid (HOR.out _ HF.out)
            rw [hor] at OK
            obtain ⟨y0, y1, y2, y3, y4, y5, y6⟩ := HF.out.b3.six.cells
            clear y6
            obtain ⟨z0, z1, z2, z3, z4, z5, z6⟩ := HF.out.b14.six.cells
            clear z6
            go_wp2_with fail
            refine OK.out.mono ?_
            rintro e wz ⟨rfl, hb⟩
            have HF := Lib.hid (HF.out.step hb)
            clear hb
            clear y0 y1 y2 y3 y4 y5
            clear z0 z1 z2 z3 z4 z5
            clear OK
            clear HOR
            have HR := Lib.hid hor
            clear hor
            cases hoh : RT.ok h
            · skip
              have OK := Lib.hid (HOH.out _ HF.out)
              rw [hoh] at OK
              obtain ⟨y0, y1, y2, y3, y4, y5, y6⟩ := HF.out.b3.six.cells
              clear y6
              obtain ⟨z0, z1, z2, z3, z4, z5, z6⟩ := HF.out.b14.six.cells
              clear z6
              go_wp2_with fail
              refine OK.out.mono ?_
              rintro e wz ⟨rfl, hb⟩
              have HF := Lib.hid (HF.out.step hb)
              clear hb
              clear y0 y1 y2 y3 y4 y5
              clear z0 z1 z2 z3 z4 z5
              clear OK
              go_wp2_with fail
              go_ret
              exact ⟨rfl, HF.out.below⟩
            · skip
              have OK := Lib.hid (HOH.out _ HF.out)
              rw [hoh] at OK
              obtain ⟨y0, y1, y2, y3, y4, y5, y6⟩ := HF.out.b3.six.cells
              clear y6
              obtain ⟨z0, z1, z2, z3, z4, z5, z6⟩ := HF.out.b14.six.cells
              clear z6
              go_wp2_with fail
              refine OK.out.mono ?_
              rintro e wz ⟨rfl, hb⟩
              have HF := Lib.hid (HF.out.step hb)
              clear hb
              clear y0 y1 y2 y3 y4 y5
              clear z0 z1 z2 z3 z4 z5
              clear OK
              clear HOH
              have HH := Lib.hid hoh
              clear hoh
              by_cases hi2 : 0 ≤ i
              rotate_left
              · have e1 : decide (i < 0) = true := by rw [decide_eq_true_iff]; omega
                go_wp2_with fail
                go_ret
                exact ⟨rfl, HF.out.below⟩
              have e1 : decide (i < 0) = false := by rw [decide_eq_false_iff_not]; omega
              by_cases hi3 : i ≤ (s.size : Int)
              rotate_left
              · have e2 : decide ((s.size : Int) < i) = true := by rw [decide_eq_true_iff]; omega
                go_wp2_with fail
                go_ret
                exact ⟨rfl, HF.out.below⟩
              have e2 : decide ((s.size : Int) < i) = false := by rw [decide_eq_false_iff_not]; omega
              obtain ⟨y0, y1, y2, y3, y4, y5, y6⟩ := HF.out.b3.six.cells
              clear y6
              obtain ⟨z0, z1, z2, z3, z4, z5, z6⟩ := HF.out.b14.six.cells
              clear z6
              go_upto_region 21 with fail
              clear y0 y1 y2 y3 y4 y5
              clear z0 z1 z2 z3 z4 z5
              have hsz : (wz.alloc (.cells #[.int .i64 r.kind, .string r.set, .bool r.neg, .int .i64 r.low, .int .i64 r.high, .slice ar r.kids.length cr, .int .i64 h.kind, .string h.set, .bool h.neg, .int .i64 h.low, .int .i64 h.high, .slice ah h.kids.length ch] 26)).heap.size = wz.heap.size + 1 := by simp
              have BX : Bx ((wz.alloc (.cells #[.int .i64 r.kind, .string r.set, .bool r.neg, .int .i64 r.low, .int .i64 r.high, .slice ar r.kids.length cr, .int .i64 h.kind, .string h.set, .bool h.neg, .int .i64 h.low, .int .i64 h.high, .slice ah h.kids.length ch] 26)).alloc (.cells #[.int .i64 4, .string ⟨#[]⟩, .bool false, .int .i64 0, .int .i64 0, .slice (some ⟨wz.heap.size, 0, none⟩) 2 2] 26)) (wz.alloc (.cells #[.int .i64 r.kind, .string r.set, .bool r.neg, .int .i64 r.low, .int .i64 r.high, .slice ar r.kids.length cr, .int .i64 h.kind, .string h.set, .bool h.neg, .int .i64 h.low, .int .i64 h.high, .slice ah h.kids.length ch] 26)).heap.size (.node 4 ⟨#[]⟩ false 0 0 [r, h]) (some ⟨wz.heap.size, 0, none⟩) 2 := bx_new (t := .node 4 ⟨#[]⟩ false 0 0 [r, h]) (kids2_new HF.out.b3.kids HF.out.b14.kids (fitR_of hcr) (fitR_of hch))
              rw [hsz] at BX
              have hb : Below wz.heap.size wz ((wz.alloc (.cells #[.int .i64 r.kind, .string r.set, .bool r.neg, .int .i64 r.low, .int .i64 r.high, .slice ar r.kids.length cr, .int .i64 h.kind, .string h.set, .bool h.neg, .int .i64 h.low, .int .i64 h.high, .slice ah h.kids.length ch] 26)).alloc (.cells #[.int .i64 4, .string ⟨#[]⟩, .bool false, .int .i64 0, .int .i64 0, .slice (some ⟨wz.heap.size, 0, none⟩) 2 2] 26)) := ((Below.refl _ _).alloc (Nat.le_refl _) _).alloc (by rw [hsz]; omega) _
              have HF := Lib.hid (HF.out.step hb)
              clear hb
              clear hsz
              have X17 := Lib.hid BX
              clear BX
              obtain ⟨g17, hg17⟩ : ∃ g, g = wz.heap.size + 1 := ⟨_, rfl⟩
              rw [← hg17] at X17 ⊢
              clear hg17
              generalize ((wz.alloc (.cells #[.int .i64 r.kind, .string r.set, .bool r.neg, .int .i64 r.low, .int .i64 r.high, .slice ar r.kids.length cr, .int .i64 h.kind, .string h.set, .bool h.neg, .int .i64 h.low, .int .i64 h.high, .slice ah h.kids.length ch] 26)).alloc (.cells #[.int .i64 4, .string ⟨#[]⟩, .bool false, .int .i64 0, .int .i64 0, .slice (some ⟨wz.heap.size, 0, none⟩) 2 2] 26)) = x17 at *
              generalize wz.heap.size = g16 at X17
              have HMH := Lib.hid (fun W (z : FmS g3 g7 g14 r q h ar aq ah cr cq ch w W) => implMatchAt_any h s i ah ch W (by omega) hch z.b14.kids (HT.out.kept z.below))
              unfold reV at HMH
              obtain ⟨m2, HM2⟩ : ∃ m2, Hid (m2 = matchZ s.data.toList h i) := ⟨_, Lib.hid rfl⟩
              rw [← HM2.out] at HMH
              obtain ⟨z0, z1, z2, z3, z4, z5, z6⟩ := HF.out.b14.six.cells
              clear z6
              go_wp2_with fail
              refine (HMH.out _ HF.out).mono ?_
              rintro e wy ⟨rfl, hb⟩
              have X17 := Lib.hid (X17.out.kept hb)
              have HF := Lib.hid (HF.out.step hb)
              clear hb
              clear z0 z1 z2 z3 z4 z5
              clear HMH
              by_cases hlt : m2 < m
              · have e3 : decide (m2 < m) = true := by rw [decide_eq_true_iff]; omega
                have HA := Lib.hid (show RT.ok (.node 4 ⟨#[]⟩ false 0 0 [r, h]) = true → matchZ s.data.toList (.node 4 ⟨#[]⟩ false 0 0 [r, h]) i = m from fun z => by rw [alt_fact hi2 hi3 z HR.out HH.out, ← HM.out, ← HM2.out]; omega)
                go_upto_region 24 with fail
                go_cut [165] from 156 to 165 (fun c wx => c = .bool false ∧ FmS g3 g7 g14 r q h ar aq ah cr cq ch w wx)
                case first =>
                  have hco : RT.cost (.node 4 ⟨#[]⟩ false 0 0 [r, h]) ≤ 1048576 := by rw [cost_two]; omega
                  have OK := Lib.hid (implReOk_any (.node 4 ⟨#[]⟩ false 0 0 [r, h]) _ 2 _ X17.out.kids hco)
                  cases hoa : RT.ok (.node 4 ⟨#[]⟩ false 0 0 [r, h])
                  · rw [hoa] at OK
                    obtain ⟨v0, v1, v2, v3, v4, v5, v6⟩ := X17.out.six.cells
                    clear v6
                    simp only [RT.kind, RT.set, RT.neg, RT.low, RT.high, RT.kids, List.length_cons, List.length_nil] at v0 v1 v2 v3 v4 v5
                    go_wp2_with fail
                    refine OK.out.mono ?_
                    rintro e wv ⟨rfl, hb⟩
                    have X17 := Lib.hid (X17.out.kept hb)
                    have HF := Lib.hid (HF.out.step hb)
                    clear hb
                    clear v0 v1 v2 v3 v4 v5
                    clear OK
                    go_wp2_with fail
                    go_meet
                    exact ⟨rfl, HF.out⟩
                  · rw [hoa] at OK
                    obtain ⟨v0, v1, v2, v3, v4, v5, v6⟩ := X17.out.six.cells
                    clear v6
                    simp only [RT.kind, RT.set, RT.neg, RT.low, RT.high, RT.kids, List.length_cons, List.length_nil] at v0 v1 v2 v3 v4 v5
                    go_wp2_with fail
                    refine OK.out.mono ?_
                    rintro e wv ⟨rfl, hb⟩
                    have X17 := Lib.hid (X17.out.kept hb)
                    have HF := Lib.hid (HF.out.step hb)
                    clear hb
                    clear v0 v1 v2 v3 v4 v5
                    clear OK
                    have MA := Lib.hid (implMatchAt_any (.node 4 ⟨#[]⟩ false 0 0 [r, h]) s i _ 2 _ (by omega) hco X17.out.kids (HT.out.kept HF.out.below))
                    rw [HA.out hoa] at MA
                    obtain ⟨v0, v1, v2, v3, v4, v5, v6⟩ := X17.out.six.cells
                    clear v6
                    simp only [RT.kind, RT.set, RT.neg, RT.low, RT.high, RT.kids, List.length_cons, List.length_nil] at v0 v1 v2 v3 v4 v5
                    go_wp2_with fail
                    refine MA.out.mono ?_
                    rintro e wu ⟨rfl, hb⟩
                    have HF := Lib.hid (HF.out.step hb)
                    clear hb
                    clear v0 v1 v2 v3 v4 v5
                    clear MA
                    go_wp2_with fail
                    go_meet
                    exact ⟨rfl, HF.out⟩
                case rest =>
                  obtain ⟨rfl, hss⟩ := hcut
                  have HF := Lib.hid hss
                  clear hss HA
                  skip
                  obtain ⟨y0, y1, y2, y3, y4, y5, y6⟩ := HF.out.b3.six.cells
                  clear y6
                  go_upto_region 27 with fail
                  clear y0 y1 y2 y3 y4 y5
                  have hsz : (wc.alloc (.cells #[.int .i64 0, .string ⟨#[]⟩, .bool false, .int .i64 0, .int .i64 0, .slice none 0 0, .int .i64 r.kind, .string r.set, .bool r.neg, .int .i64 r.low, .int .i64 r.high, .slice ar r.kids.length cr] 26)).heap.size = wc.heap.size + 1 := by simp
                  have BX : Bx ((wc.alloc (.cells #[.int .i64 0, .string ⟨#[]⟩, .bool false, .int .i64 0, .int .i64 0, .slice none 0 0, .int .i64 r.kind, .string r.set, .bool r.neg, .int .i64 r.low, .int .i64 r.high, .slice ar r.kids.length cr] 26)).alloc (.cells #[.int .i64 3, .string ⟨#[]⟩, .bool false, .int .i64 0, .int .i64 0, .slice (some ⟨wc.heap.size, 0, none⟩) 2 2] 26)) (wc.alloc (.cells #[.int .i64 0, .string ⟨#[]⟩, .bool false, .int .i64 0, .int .i64 0, .slice none 0 0, .int .i64 r.kind, .string r.set, .bool r.neg, .int .i64 r.low, .int .i64 r.high, .slice ar r.kids.length cr] 26)).heap.size (.node 3 ⟨#[]⟩ false 0 0 [(.node 0 ⟨#[]⟩ false 0 0 []), r]) (some ⟨wc.heap.size, 0, none⟩) 2 := bx_new (t := (.node 3 ⟨#[]⟩ false 0 0 [(.node 0 ⟨#[]⟩ false 0 0 []), r])) (kids2_new (x := (.node 0 ⟨#[]⟩ false 0 0 [])) (kit.Kids.nil 0 wc none) HF.out.b3.kids (by simp [FitR, RT.set, RT.kids, ByteArray.size]) (fitR_of hcr))
                  rw [hsz] at BX
                  have hb : Below wc.heap.size wc ((wc.alloc (.cells #[.int .i64 0, .string ⟨#[]⟩, .bool false, .int .i64 0, .int .i64 0, .slice none 0 0, .int .i64 r.kind, .string r.set, .bool r.neg, .int .i64 r.low, .int .i64 r.high, .slice ar r.kids.length cr] 26)).alloc (.cells #[.int .i64 3, .string ⟨#[]⟩, .bool false, .int .i64 0, .int .i64 0, .slice (some ⟨wc.heap.size, 0, none⟩) 2 2] 26)) := ((Below.refl _ _).alloc (Nat.le_refl _) _).alloc (by rw [hsz]; omega) _
                  have HF := Lib.hid (HF.out.step hb)
                  clear hb
                  clear hsz
                  have X19 := Lib.hid BX
                  clear BX
                  obtain ⟨g19, hg19⟩ : ∃ g, g = wc.heap.size + 1 := ⟨_, rfl⟩
                  rw [← hg19] at X19 ⊢
                  clear hg19
                  generalize ((wc.alloc (.cells #[.int .i64 0, .string ⟨#[]⟩, .bool false, .int .i64 0, .int .i64 0, .slice none 0 0, .int .i64 r.kind, .string r.set, .bool r.neg, .int .i64 r.low, .int .i64 r.high, .slice ar r.kids.length cr] 26)).alloc (.cells #[.int .i64 3, .string ⟨#[]⟩, .bool false, .int .i64 0, .int .i64 0, .slice (some ⟨wc.heap.size, 0, none⟩) 2 2] 26)) = x19 at *
                  generalize wc.heap.size = g18 at X19
                  obtain ⟨y0, y1, y2, y3, y4, y5, y6⟩ := HF.out.b3.six.cells
                  clear y6
                  go_upto_region 28 with fail
                  clear y0 y1 y2 y3 y4 y5
                  have hsz : (x19.alloc (.cells #[.int .i64 r.kind, .string r.set, .bool r.neg, .int .i64 r.low, .int .i64 r.high, .slice ar r.kids.length cr] 26)).heap.size = x19.heap.size + 1 := by simp
                  have BX : Bx ((x19.alloc (.cells #[.int .i64 r.kind, .string r.set, .bool r.neg, .int .i64 r.low, .int .i64 r.high, .slice ar r.kids.length cr] 26)).alloc (.cells #[.int .i64 5, .string ⟨#[]⟩, .bool false, .int .i64 0, .int .i64 1, .slice (some ⟨x19.heap.size, 0, none⟩) 1 1] 26)) (x19.alloc (.cells #[.int .i64 r.kind, .string r.set, .bool r.neg, .int .i64 r.low, .int .i64 r.high, .slice ar r.kids.length cr] 26)).heap.size (.node 5 ⟨#[]⟩ false 0 1 [r]) (some ⟨x19.heap.size, 0, none⟩) 1 := bx_new (t := (.node 5 ⟨#[]⟩ false 0 1 [r])) (kids1_new HF.out.b3.kids (fitR_of hcr))
                  rw [hsz] at BX
                  have hb : Below x19.heap.size x19 ((x19.alloc (.cells #[.int .i64 r.kind, .string r.set, .bool r.neg, .int .i64 r.low, .int .i64 r.high, .slice ar r.kids.length cr] 26)).alloc (.cells #[.int .i64 5, .string ⟨#[]⟩, .bool false, .int .i64 0, .int .i64 1, .slice (some ⟨x19.heap.size, 0, none⟩) 1 1] 26)) := ((Below.refl _ _).alloc (Nat.le_refl _) _).alloc (by rw [hsz]; omega) _
                  have X19 := Lib.hid (X19.out.kept hb)
                  have HF := Lib.hid (HF.out.step hb)
                  clear hb
                  clear hsz
                  have X20 := Lib.hid BX
                  clear BX
                  obtain ⟨g20, hg20⟩ : ∃ g, g = x19.heap.size + 1 := ⟨_, rfl⟩
                  rw [← hg20] at X20 ⊢
                  clear hg20
                  generalize ((x19.alloc (.cells #[.int .i64 r.kind, .string r.set, .bool r.neg, .int .i64 r.low, .int .i64 r.high, .slice ar r.kids.length cr] 26)).alloc (.cells #[.int .i64 5, .string ⟨#[]⟩, .bool false, .int .i64 0, .int .i64 1, .slice (some ⟨x19.heap.size, 0, none⟩) 1 1] 26)) = x20 at *
                  generalize x19.heap.size = g21 at X20
                  have HA := Lib.hid (show RT.ok (.node 3 ⟨#[]⟩ false 0 0 [(.node 0 ⟨#[]⟩ false 0 0 []), r]) = true → matchZ s.data.toList (.node 3 ⟨#[]⟩ false 0 0 [(.node 0 ⟨#[]⟩ false 0 0 []), r]) i = m from fun z => by rw [cat_fact hi2 hi3 z HR.out, ← HM.out])
                  go_cut [182] from 173 to 182 (fun c wx => c = .bool false ∧ FmS g3 g7 g14 r q h ar aq ah cr cq ch w wx ∧ Bx wx g20 (.node 5 ⟨#[]⟩ false 0 1 [r]) (some ⟨g21, 0, none⟩) 1)
                  case first =>
                    have hco : RT.cost (.node 3 ⟨#[]⟩ false 0 0 [(.node 0 ⟨#[]⟩ false 0 0 []), r]) ≤ 1048576 := by rw [cost_two, cost_node]; simp [RT.costs, ByteArray.size]; omega
                    have OK := Lib.hid (implReOk_any (.node 3 ⟨#[]⟩ false 0 0 [(.node 0 ⟨#[]⟩ false 0 0 []), r]) _ 2 _ X19.out.kids hco)
                    cases hoa : RT.ok (.node 3 ⟨#[]⟩ false 0 0 [(.node 0 ⟨#[]⟩ false 0 0 []), r])
                    · rw [hoa] at OK
                      obtain ⟨v0, v1, v2, v3, v4, v5, v6⟩ := X19.out.six.cells
                      clear v6
                      simp only [RT.kind, RT.set, RT.neg, RT.low, RT.high, RT.kids, List.length_cons, List.length_nil] at v0 v1 v2 v3 v4 v5
                      go_wp2_with fail
                      refine OK.out.mono ?_
                      rintro e wv ⟨rfl, hb⟩
                      have X19 := Lib.hid (X19.out.kept hb)
                      have X20 := Lib.hid (X20.out.kept hb)
                      have HF := Lib.hid (HF.out.step hb)
                      clear hb
                      clear v0 v1 v2 v3 v4 v5
                      clear OK
                      go_wp2_with fail
                      go_meet
                      exact ⟨rfl, HF.out, X20.out⟩
                    · rw [hoa] at OK
                      obtain ⟨v0, v1, v2, v3, v4, v5, v6⟩ := X19.out.six.cells
                      clear v6
                      simp only [RT.kind, RT.set, RT.neg, RT.low, RT.high, RT.kids, List.length_cons, List.length_nil] at v0 v1 v2 v3 v4 v5
                      go_wp2_with fail
                      refine OK.out.mono ?_
                      rintro e wv ⟨rfl, hb⟩
                      have X19 := Lib.hid (X19.out.kept hb)
                      have X20 := Lib.hid (X20.out.kept hb)
                      have HF := Lib.hid (HF.out.step hb)
                      clear hb
                      clear v0 v1 v2 v3 v4 v5
                      clear OK
                      have MA := Lib.hid (implMatchAt_any (.node 3 ⟨#[]⟩ false 0 0 [(.node 0 ⟨#[]⟩ false 0 0 []), r]) s i _ 2 _ (by omega) hco X19.out.kids (HT.out.kept HF.out.below))
                      rw [HA.out hoa] at MA
                      obtain ⟨v0, v1, v2, v3, v4, v5, v6⟩ := X19.out.six.cells
                      clear v6
                      simp only [RT.kind, RT.set, RT.neg, RT.low, RT.high, RT.kids, List.length_cons, List.length_nil] at v0 v1 v2 v3 v4 v5
                      go_wp2_with fail
                      refine MA.out.mono ?_
                      rintro e wu ⟨rfl, hb⟩
                      have X20 := Lib.hid (X20.out.kept hb)
                      have HF := Lib.hid (HF.out.step hb)
                      clear hb
                      clear v0 v1 v2 v3 v4 v5
                      clear MA
                      go_wp2_with fail
                      go_meet
                      exact ⟨rfl, HF.out, X20.out⟩
                  case rest =>
                    obtain ⟨rfl, hss, hx⟩ := hcut
                    have HF := Lib.hid hss
                    have X20 := Lib.hid hx
                    clear hss hx HA
                    have hco : RT.cost (.node 5 ⟨#[]⟩ false 0 1 [r]) ≤ 1048576 := by rw [cost_sole]; omega
                    by_cases hmi : m < i
                    · have e7 : decide (m < i) = true := by rw [decide_eq_true_iff]; omega
                      have HA := Lib.hid (show RT.ok (.node 5 ⟨#[]⟩ false 0 1 [r]) = true → matchZ s.data.toList (.node 5 ⟨#[]⟩ false 0 1 [r]) i = i from fun z => by rw [maybe_fact hi2 hi3 z HR.out, ← HM.out]; omega)
                      have OK := Lib.hid (implReOk_any (.node 5 ⟨#[]⟩ false 0 1 [r]) _ 1 _ X20.out.kids hco)
                      cases hoa : RT.ok (.node 5 ⟨#[]⟩ false 0 1 [r])
                      · rw [hoa] at OK
                        obtain ⟨v0, v1, v2, v3, v4, v5, v6⟩ := X20.out.six.cells
                        clear v6
                        simp only [RT.kind, RT.set, RT.neg, RT.low, RT.high, RT.kids, List.length_cons, List.length_nil] at v0 v1 v2 v3 v4 v5
                        go_wp2_with fail
                        refine OK.out.mono ?_
                        rintro e wv ⟨rfl, hb⟩
                        have X20 := Lib.hid (X20.out.kept hb)
                        have HF := Lib.hid (HF.out.step hb)
                        clear hb
                        clear v0 v1 v2 v3 v4 v5
                        clear OK
                        go_wp2_with fail
                        go_ret
                        exact ⟨rfl, HF.out.below⟩
                      · rw [hoa] at OK
                        obtain ⟨v0, v1, v2, v3, v4, v5, v6⟩ := X20.out.six.cells
                        clear v6
                        simp only [RT.kind, RT.set, RT.neg, RT.low, RT.high, RT.kids, List.length_cons, List.length_nil] at v0 v1 v2 v3 v4 v5
                        go_wp2_with fail
                        refine OK.out.mono ?_
                        rintro e wv ⟨rfl, hb⟩
                        have X20 := Lib.hid (X20.out.kept hb)
                        have HF := Lib.hid (HF.out.step hb)
                        clear hb
                        clear v0 v1 v2 v3 v4 v5
                        clear OK
                        have MA := Lib.hid (implMatchAt_any (.node 5 ⟨#[]⟩ false 0 1 [r]) s i _ 1 _ (by omega) hco X20.out.kids (HT.out.kept HF.out.below))
                        rw [HA.out hoa] at MA
                        obtain ⟨v0, v1, v2, v3, v4, v5, v6⟩ := X20.out.six.cells
                        clear v6
                        simp only [RT.kind, RT.set, RT.neg, RT.low, RT.high, RT.kids, List.length_cons, List.length_nil] at v0 v1 v2 v3 v4 v5
                        go_wp2_with fail
                        refine MA.out.mono ?_
                        rintro e wu ⟨rfl, hb⟩
                        have HF := Lib.hid (HF.out.step hb)
                        clear hb
                        clear v0 v1 v2 v3 v4 v5
                        clear MA
                        go_wp2_with fail
                        go_ret
                        exact ⟨rfl, HF.out.below⟩
                    · have e7 : decide (m < i) = false := by rw [decide_eq_false_iff_not]; omega
                      have HA := Lib.hid (show RT.ok (.node 5 ⟨#[]⟩ false 0 1 [r]) = true → matchZ s.data.toList (.node 5 ⟨#[]⟩ false 0 1 [r]) i = m from fun z => by rw [maybe_fact hi2 hi3 z HR.out, ← HM.out]; omega)
                      have OK := Lib.hid (implReOk_any (.node 5 ⟨#[]⟩ false 0 1 [r]) _ 1 _ X20.out.kids hco)
                      cases hoa : RT.ok (.node 5 ⟨#[]⟩ false 0 1 [r])
                      · rw [hoa] at OK
                        obtain ⟨v0, v1, v2, v3, v4, v5, v6⟩ := X20.out.six.cells
                        clear v6
                        simp only [RT.kind, RT.set, RT.neg, RT.low, RT.high, RT.kids, List.length_cons, List.length_nil] at v0 v1 v2 v3 v4 v5
                        go_wp2_with fail
                        refine OK.out.mono ?_
                        rintro e wv ⟨rfl, hb⟩
                        have X20 := Lib.hid (X20.out.kept hb)
                        have HF := Lib.hid (HF.out.step hb)
                        clear hb
                        clear v0 v1 v2 v3 v4 v5
                        clear OK
                        go_wp2_with fail
                        go_ret
                        exact ⟨rfl, HF.out.below⟩
                      · rw [hoa] at OK
                        obtain ⟨v0, v1, v2, v3, v4, v5, v6⟩ := X20.out.six.cells
                        clear v6
                        simp only [RT.kind, RT.set, RT.neg, RT.low, RT.high, RT.kids, List.length_cons, List.length_nil] at v0 v1 v2 v3 v4 v5
                        go_wp2_with fail
                        refine OK.out.mono ?_
                        rintro e wv ⟨rfl, hb⟩
                        have X20 := Lib.hid (X20.out.kept hb)
                        have HF := Lib.hid (HF.out.step hb)
                        clear hb
                        clear v0 v1 v2 v3 v4 v5
                        clear OK
                        have MA := Lib.hid (implMatchAt_any (.node 5 ⟨#[]⟩ false 0 1 [r]) s i _ 1 _ (by omega) hco X20.out.kids (HT.out.kept HF.out.below))
                        rw [HA.out hoa] at MA
                        obtain ⟨v0, v1, v2, v3, v4, v5, v6⟩ := X20.out.six.cells
                        clear v6
                        simp only [RT.kind, RT.set, RT.neg, RT.low, RT.high, RT.kids, List.length_cons, List.length_nil] at v0 v1 v2 v3 v4 v5
                        go_wp2_with fail
                        refine MA.out.mono ?_
                        rintro e wu ⟨rfl, hb⟩
                        have HF := Lib.hid (HF.out.step hb)
                        clear hb
                        clear v0 v1 v2 v3 v4 v5
                        clear MA
                        go_wp2_with fail
                        go_ret
                        exact ⟨rfl, HF.out.below⟩
              · have e3 : decide (m2 < m) = false := by rw [decide_eq_false_iff_not]; omega
                have HA := Lib.hid (show RT.ok (.node 4 ⟨#[]⟩ false 0 0 [r, h]) = true → matchZ s.data.toList (.node 4 ⟨#[]⟩ false 0 0 [r, h]) i = m2 from fun z => by rw [alt_fact hi2 hi3 z HR.out HH.out, ← HM.out, ← HM2.out]; omega)
                go_upto_region 24 with fail
                go_cut [165] from 156 to 165 (fun c wx => c = .bool false ∧ FmS g3 g7 g14 r q h ar aq ah cr cq ch w wx)
                case first =>
                  have hco : RT.cost (.node 4 ⟨#[]⟩ false 0 0 [r, h]) ≤ 1048576 := by rw [cost_two]; omega
                  have OK := Lib.hid (implReOk_any (.node 4 ⟨#[]⟩ false 0 0 [r, h]) _ 2 _ X17.out.kids hco)
                  cases hoa : RT.ok (.node 4 ⟨#[]⟩ false 0 0 [r, h])
                  · rw [hoa] at OK
                    obtain ⟨v0, v1, v2, v3, v4, v5, v6⟩ := X17.out.six.cells
                    clear v6
                    simp only [RT.kind, RT.set, RT.neg, RT.low, RT.high, RT.kids, List.length_cons, List.length_nil] at v0 v1 v2 v3 v4 v5
                    go_wp2_with fail
                    refine OK.out.mono ?_
                    rintro e wv ⟨rfl, hb⟩
                    have X17 := Lib.hid (X17.out.kept hb)
                    have HF := Lib.hid (HF.out.step hb)
                    clear hb
                    clear v0 v1 v2 v3 v4 v5
                    clear OK
                    go_wp2_with fail
                    go_meet
                    exact ⟨rfl, HF.out⟩
                  · rw [hoa] at OK
                    obtain ⟨v0, v1, v2, v3, v4, v5, v6⟩ := X17.out.six.cells
                    clear v6
                    simp only [RT.kind, RT.set, RT.neg, RT.low, RT.high, RT.kids, List.length_cons, List.length_nil] at v0 v1 v2 v3 v4 v5
                    go_wp2_with fail
                    refine OK.out.mono ?_
                    rintro e wv ⟨rfl, hb⟩
                    have X17 := Lib.hid (X17.out.kept hb)
                    have HF := Lib.hid (HF.out.step hb)
                    clear hb
                    clear v0 v1 v2 v3 v4 v5
                    clear OK
                    have MA := Lib.hid (implMatchAt_any (.node 4 ⟨#[]⟩ false 0 0 [r, h]) s i _ 2 _ (by omega) hco X17.out.kids (HT.out.kept HF.out.below))
                    rw [HA.out hoa] at MA
                    obtain ⟨v0, v1, v2, v3, v4, v5, v6⟩ := X17.out.six.cells
                    clear v6
                    simp only [RT.kind, RT.set, RT.neg, RT.low, RT.high, RT.kids, List.length_cons, List.length_nil] at v0 v1 v2 v3 v4 v5
                    go_wp2_with fail
                    refine MA.out.mono ?_
                    rintro e wu ⟨rfl, hb⟩
                    have HF := Lib.hid (HF.out.step hb)
                    clear hb
                    clear v0 v1 v2 v3 v4 v5
                    clear MA
                    go_wp2_with fail
                    go_meet
                    exact ⟨rfl, HF.out⟩
                case rest =>
                  obtain ⟨rfl, hss⟩ := hcut
                  have HF := Lib.hid hss
                  clear hss HA
                  skip
                  obtain ⟨y0, y1, y2, y3, y4, y5, y6⟩ := HF.out.b3.six.cells
                  clear y6
                  go_upto_region 27 with fail
                  clear y0 y1 y2 y3 y4 y5
                  have hsz : (wc.alloc (.cells #[.int .i64 0, .string ⟨#[]⟩, .bool false, .int .i64 0, .int .i64 0, .slice none 0 0, .int .i64 r.kind, .string r.set, .bool r.neg, .int .i64 r.low, .int .i64 r.high, .slice ar r.kids.length cr] 26)).heap.size = wc.heap.size + 1 := by simp
                  have BX : Bx ((wc.alloc (.cells #[.int .i64 0, .string ⟨#[]⟩, .bool false, .int .i64 0, .int .i64 0, .slice none 0 0, .int .i64 r.kind, .string r.set, .bool r.neg, .int .i64 r.low, .int .i64 r.high, .slice ar r.kids.length cr] 26)).alloc (.cells #[.int .i64 3, .string ⟨#[]⟩, .bool false, .int .i64 0, .int .i64 0, .slice (some ⟨wc.heap.size, 0, none⟩) 2 2] 26)) (wc.alloc (.cells #[.int .i64 0, .string ⟨#[]⟩, .bool false, .int .i64 0, .int .i64 0, .slice none 0 0, .int .i64 r.kind, .string r.set, .bool r.neg, .int .i64 r.low, .int .i64 r.high, .slice ar r.kids.length cr] 26)).heap.size (.node 3 ⟨#[]⟩ false 0 0 [(.node 0 ⟨#[]⟩ false 0 0 []), r]) (some ⟨wc.heap.size, 0, none⟩) 2 := bx_new (t := (.node 3 ⟨#[]⟩ false 0 0 [(.node 0 ⟨#[]⟩ false 0 0 []), r])) (kids2_new (x := (.node 0 ⟨#[]⟩ false 0 0 [])) (kit.Kids.nil 0 wc none) HF.out.b3.kids (by simp [FitR, RT.set, RT.kids, ByteArray.size]) (fitR_of hcr))
                  rw [hsz] at BX
                  have hb : Below wc.heap.size wc ((wc.alloc (.cells #[.int .i64 0, .string ⟨#[]⟩, .bool false, .int .i64 0, .int .i64 0, .slice none 0 0, .int .i64 r.kind, .string r.set, .bool r.neg, .int .i64 r.low, .int .i64 r.high, .slice ar r.kids.length cr] 26)).alloc (.cells #[.int .i64 3, .string ⟨#[]⟩, .bool false, .int .i64 0, .int .i64 0, .slice (some ⟨wc.heap.size, 0, none⟩) 2 2] 26)) := ((Below.refl _ _).alloc (Nat.le_refl _) _).alloc (by rw [hsz]; omega) _
                  have HF := Lib.hid (HF.out.step hb)
                  clear hb
                  clear hsz
                  have X19 := Lib.hid BX
                  clear BX
                  obtain ⟨g19, hg19⟩ : ∃ g, g = wc.heap.size + 1 := ⟨_, rfl⟩
                  rw [← hg19] at X19 ⊢
                  clear hg19
                  generalize ((wc.alloc (.cells #[.int .i64 0, .string ⟨#[]⟩, .bool false, .int .i64 0, .int .i64 0, .slice none 0 0, .int .i64 r.kind, .string r.set, .bool r.neg, .int .i64 r.low, .int .i64 r.high, .slice ar r.kids.length cr] 26)).alloc (.cells #[.int .i64 3, .string ⟨#[]⟩, .bool false, .int .i64 0, .int .i64 0, .slice (some ⟨wc.heap.size, 0, none⟩) 2 2] 26)) = x19 at *
                  generalize wc.heap.size = g18 at X19
                  obtain ⟨y0, y1, y2, y3, y4, y5, y6⟩ := HF.out.b3.six.cells
                  clear y6
                  go_upto_region 28 with fail
                  clear y0 y1 y2 y3 y4 y5
                  have hsz : (x19.alloc (.cells #[.int .i64 r.kind, .string r.set, .bool r.neg, .int .i64 r.low, .int .i64 r.high, .slice ar r.kids.length cr] 26)).heap.size = x19.heap.size + 1 := by simp
                  have BX : Bx ((x19.alloc (.cells #[.int .i64 r.kind, .string r.set, .bool r.neg, .int .i64 r.low, .int .i64 r.high, .slice ar r.kids.length cr] 26)).alloc (.cells #[.int .i64 5, .string ⟨#[]⟩, .bool false, .int .i64 0, .int .i64 1, .slice (some ⟨x19.heap.size, 0, none⟩) 1 1] 26)) (x19.alloc (.cells #[.int .i64 r.kind, .string r.set, .bool r.neg, .int .i64 r.low, .int .i64 r.high, .slice ar r.kids.length cr] 26)).heap.size (.node 5 ⟨#[]⟩ false 0 1 [r]) (some ⟨x19.heap.size, 0, none⟩) 1 := bx_new (t := (.node 5 ⟨#[]⟩ false 0 1 [r])) (kids1_new HF.out.b3.kids (fitR_of hcr))
                  rw [hsz] at BX
                  have hb : Below x19.heap.size x19 ((x19.alloc (.cells #[.int .i64 r.kind, .string r.set, .bool r.neg, .int .i64 r.low, .int .i64 r.high, .slice ar r.kids.length cr] 26)).alloc (.cells #[.int .i64 5, .string ⟨#[]⟩, .bool false, .int .i64 0, .int .i64 1, .slice (some ⟨x19.heap.size, 0, none⟩) 1 1] 26)) := ((Below.refl _ _).alloc (Nat.le_refl _) _).alloc (by rw [hsz]; omega) _
                  have X19 := Lib.hid (X19.out.kept hb)
                  have HF := Lib.hid (HF.out.step hb)
                  clear hb
                  clear hsz
                  have X20 := Lib.hid BX
                  clear BX
                  obtain ⟨g20, hg20⟩ : ∃ g, g = x19.heap.size + 1 := ⟨_, rfl⟩
                  rw [← hg20] at X20 ⊢
                  clear hg20
                  generalize ((x19.alloc (.cells #[.int .i64 r.kind, .string r.set, .bool r.neg, .int .i64 r.low, .int .i64 r.high, .slice ar r.kids.length cr] 26)).alloc (.cells #[.int .i64 5, .string ⟨#[]⟩, .bool false, .int .i64 0, .int .i64 1, .slice (some ⟨x19.heap.size, 0, none⟩) 1 1] 26)) = x20 at *
                  generalize x19.heap.size = g21 at X20
                  have HA := Lib.hid (show RT.ok (.node 3 ⟨#[]⟩ false 0 0 [(.node 0 ⟨#[]⟩ false 0 0 []), r]) = true → matchZ s.data.toList (.node 3 ⟨#[]⟩ false 0 0 [(.node 0 ⟨#[]⟩ false 0 0 []), r]) i = m from fun z => by rw [cat_fact hi2 hi3 z HR.out, ← HM.out])
                  go_cut [182] from 173 to 182 (fun c wx => c = .bool false ∧ FmS g3 g7 g14 r q h ar aq ah cr cq ch w wx ∧ Bx wx g20 (.node 5 ⟨#[]⟩ false 0 1 [r]) (some ⟨g21, 0, none⟩) 1)
                  case first =>
                    have hco : RT.cost (.node 3 ⟨#[]⟩ false 0 0 [(.node 0 ⟨#[]⟩ false 0 0 []), r]) ≤ 1048576 := by rw [cost_two, cost_node]; simp [RT.costs, ByteArray.size]; omega
                    have OK := Lib.hid (implReOk_any (.node 3 ⟨#[]⟩ false 0 0 [(.node 0 ⟨#[]⟩ false 0 0 []), r]) _ 2 _ X19.out.kids hco)
                    cases hoa : RT.ok (.node 3 ⟨#[]⟩ false 0 0 [(.node 0 ⟨#[]⟩ false 0 0 []), r])
                    · rw [hoa] at OK
                      obtain ⟨v0, v1, v2, v3, v4, v5, v6⟩ := X19.out.six.cells
                      clear v6
                      simp only [RT.kind, RT.set, RT.neg, RT.low, RT.high, RT.kids, List.length_cons, List.length_nil] at v0 v1 v2 v3 v4 v5
                      go_wp2_with fail
                      refine OK.out.mono ?_
                      rintro e wv ⟨rfl, hb⟩
                      have X19 := Lib.hid (X19.out.kept hb)
                      have X20 := Lib.hid (X20.out.kept hb)
                      have HF := Lib.hid (HF.out.step hb)
                      clear hb
                      clear v0 v1 v2 v3 v4 v5
                      clear OK
                      go_wp2_with fail
                      go_meet
                      exact ⟨rfl, HF.out, X20.out⟩
                    · rw [hoa] at OK
                      obtain ⟨v0, v1, v2, v3, v4, v5, v6⟩ := X19.out.six.cells
                      clear v6
                      simp only [RT.kind, RT.set, RT.neg, RT.low, RT.high, RT.kids, List.length_cons, List.length_nil] at v0 v1 v2 v3 v4 v5
                      go_wp2_with fail
                      refine OK.out.mono ?_
                      rintro e wv ⟨rfl, hb⟩
                      have X19 := Lib.hid (X19.out.kept hb)
                      have X20 := Lib.hid (X20.out.kept hb)
                      have HF := Lib.hid (HF.out.step hb)
                      clear hb
                      clear v0 v1 v2 v3 v4 v5
                      clear OK
                      have MA := Lib.hid (implMatchAt_any (.node 3 ⟨#[]⟩ false 0 0 [(.node 0 ⟨#[]⟩ false 0 0 []), r]) s i _ 2 _ (by omega) hco X19.out.kids (HT.out.kept HF.out.below))
                      rw [HA.out hoa] at MA
                      obtain ⟨v0, v1, v2, v3, v4, v5, v6⟩ := X19.out.six.cells
                      clear v6
                      simp only [RT.kind, RT.set, RT.neg, RT.low, RT.high, RT.kids, List.length_cons, List.length_nil] at v0 v1 v2 v3 v4 v5
                      go_wp2_with fail
                      refine MA.out.mono ?_
                      rintro e wu ⟨rfl, hb⟩
                      have X20 := Lib.hid (X20.out.kept hb)
                      have HF := Lib.hid (HF.out.step hb)
                      clear hb
                      clear v0 v1 v2 v3 v4 v5
                      clear MA
                      go_wp2_with fail
                      go_meet
                      exact ⟨rfl, HF.out, X20.out⟩
                  case rest =>
                    obtain ⟨rfl, hss, hx⟩ := hcut
                    have HF := Lib.hid hss
                    have X20 := Lib.hid hx
                    clear hss hx HA
                    have hco : RT.cost (.node 5 ⟨#[]⟩ false 0 1 [r]) ≤ 1048576 := by rw [cost_sole]; omega
                    by_cases hmi : m < i
                    · have e7 : decide (m < i) = true := by rw [decide_eq_true_iff]; omega
                      have HA := Lib.hid (show RT.ok (.node 5 ⟨#[]⟩ false 0 1 [r]) = true → matchZ s.data.toList (.node 5 ⟨#[]⟩ false 0 1 [r]) i = i from fun z => by rw [maybe_fact hi2 hi3 z HR.out, ← HM.out]; omega)
                      have OK := Lib.hid (implReOk_any (.node 5 ⟨#[]⟩ false 0 1 [r]) _ 1 _ X20.out.kids hco)
                      cases hoa : RT.ok (.node 5 ⟨#[]⟩ false 0 1 [r])
                      · rw [hoa] at OK
                        obtain ⟨v0, v1, v2, v3, v4, v5, v6⟩ := X20.out.six.cells
                        clear v6
                        simp only [RT.kind, RT.set, RT.neg, RT.low, RT.high, RT.kids, List.length_cons, List.length_nil] at v0 v1 v2 v3 v4 v5
                        go_wp2_with fail
                        refine OK.out.mono ?_
                        rintro e wv ⟨rfl, hb⟩
                        have X20 := Lib.hid (X20.out.kept hb)
                        have HF := Lib.hid (HF.out.step hb)
                        clear hb
                        clear v0 v1 v2 v3 v4 v5
                        clear OK
                        go_wp2_with fail
                        go_ret
                        exact ⟨rfl, HF.out.below⟩
                      · rw [hoa] at OK
                        obtain ⟨v0, v1, v2, v3, v4, v5, v6⟩ := X20.out.six.cells
                        clear v6
                        simp only [RT.kind, RT.set, RT.neg, RT.low, RT.high, RT.kids, List.length_cons, List.length_nil] at v0 v1 v2 v3 v4 v5
                        go_wp2_with fail
                        refine OK.out.mono ?_
                        rintro e wv ⟨rfl, hb⟩
                        have X20 := Lib.hid (X20.out.kept hb)
                        have HF := Lib.hid (HF.out.step hb)
                        clear hb
                        clear v0 v1 v2 v3 v4 v5
                        clear OK
                        have MA := Lib.hid (implMatchAt_any (.node 5 ⟨#[]⟩ false 0 1 [r]) s i _ 1 _ (by omega) hco X20.out.kids (HT.out.kept HF.out.below))
                        rw [HA.out hoa] at MA
                        obtain ⟨v0, v1, v2, v3, v4, v5, v6⟩ := X20.out.six.cells
                        clear v6
                        simp only [RT.kind, RT.set, RT.neg, RT.low, RT.high, RT.kids, List.length_cons, List.length_nil] at v0 v1 v2 v3 v4 v5
                        go_wp2_with fail
                        refine MA.out.mono ?_
                        rintro e wu ⟨rfl, hb⟩
                        have HF := Lib.hid (HF.out.step hb)
                        clear hb
                        clear v0 v1 v2 v3 v4 v5
                        clear MA
                        go_wp2_with fail
                        go_ret
                        exact ⟨rfl, HF.out.below⟩
                    · have e7 : decide (m < i) = false := by rw [decide_eq_false_iff_not]; omega
                      have HA := Lib.hid (show RT.ok (.node 5 ⟨#[]⟩ false 0 1 [r]) = true → matchZ s.data.toList (.node 5 ⟨#[]⟩ false 0 1 [r]) i = m from fun z => by rw [maybe_fact hi2 hi3 z HR.out, ← HM.out]; omega)
                      have OK := Lib.hid (implReOk_any (.node 5 ⟨#[]⟩ false 0 1 [r]) _ 1 _ X20.out.kids hco)
                      cases hoa : RT.ok (.node 5 ⟨#[]⟩ false 0 1 [r])
                      · rw [hoa] at OK
                        obtain ⟨v0, v1, v2, v3, v4, v5, v6⟩ := X20.out.six.cells
                        clear v6
                        simp only [RT.kind, RT.set, RT.neg, RT.low, RT.high, RT.kids, List.length_cons, List.length_nil] at v0 v1 v2 v3 v4 v5
                        go_wp2_with fail
                        refine OK.out.mono ?_
                        rintro e wv ⟨rfl, hb⟩
                        have X20 := Lib.hid (X20.out.kept hb)
                        have HF := Lib.hid (HF.out.step hb)
                        clear hb
                        clear v0 v1 v2 v3 v4 v5
                        clear OK
                        go_wp2_with fail
                        go_ret
                        exact ⟨rfl, HF.out.below⟩
                      · rw [hoa] at OK
                        obtain ⟨v0, v1, v2, v3, v4, v5, v6⟩ := X20.out.six.cells
                        clear v6
                        simp only [RT.kind, RT.set, RT.neg, RT.low, RT.high, RT.kids, List.length_cons, List.length_nil] at v0 v1 v2 v3 v4 v5
                        go_wp2_with fail
                        refine OK.out.mono ?_
                        rintro e wv ⟨rfl, hb⟩
                        have X20 := Lib.hid (X20.out.kept hb)
                        have HF := Lib.hid (HF.out.step hb)
                        clear hb
                        clear v0 v1 v2 v3 v4 v5
                        clear OK
                        have MA := Lib.hid (implMatchAt_any (.node 5 ⟨#[]⟩ false 0 1 [r]) s i _ 1 _ (by omega) hco X20.out.kids (HT.out.kept HF.out.below))
                        rw [HA.out hoa] at MA
                        obtain ⟨v0, v1, v2, v3, v4, v5, v6⟩ := X20.out.six.cells
                        clear v6
                        simp only [RT.kind, RT.set, RT.neg, RT.low, RT.high, RT.kids, List.length_cons, List.length_nil] at v0 v1 v2 v3 v4 v5
                        go_wp2_with fail
                        refine MA.out.mono ?_
                        rintro e wu ⟨rfl, hb⟩
                        have HF := Lib.hid (HF.out.step hb)
                        clear hb
                        clear v0 v1 v2 v3 v4 v5
                        clear MA
                        go_wp2_with fail
                        go_ret
                        exact ⟨rfl, HF.out.below⟩
set_option maxRecDepth 100000 in
theorem walk (a : Option Addr) (n cap : Nat) (w : World) (hm : n ≤ maxLen) (hc : Code8 w a n) (ht : BT w) :
 Calls Tryd.prog 3 #[.slice a n cap] w fun e w' => e = .returned (.bool true) ∧ Below w.heap.size w w' := by
 by_cases hn : n ≤ 1048576
 · exact walk1 a n cap w hn hc ht
 · go_enter Tryd.func3, Tryd.ntmps3
   go_wp2_with fail
   refine (big_yes a n cap _ (by omega)).mono ?_
   rintro e w1 ⟨rfl, rfl⟩
   go_wp2
   go_ret
   exact ⟨rfl, Below.refl _ _⟩
set_option maxRecDepth 100000 in
theorem contract (H : Type) (enc : TypeId × Value → H) (W : World) (base : Nat) (args : Array Value) (ds gs : List (DataW H)) (before : List MemPlace)
 (hval : ∀ (j : Nat) t v, Tryd.f3.params[j]? = some t → args[j]? = some v → Value.okWide Tryd.prog W .any base t v)
 (hW : DataW.Whole enc Tryd.prog Tryd.f3.params.toList Rows.fnMatchSpec.vars false W args.toList ds gs before) (hL : laidMet Tryd.prog Rows.fnMatchRow.laid W) :
 Calls Tryd.prog 3 args W fun e W' => ∃ v, e = .returned v ∧ Rows.fnMatchSpec.post enc Tryd.prog Tryd.f3 false true false false W args v W' := by
 have hW' := hW
 obtain ⟨p, q, hA0, hV, rfl, hfz, hnd⟩ := hW
 have hA : DataW.TrodAll enc Tryd.prog W 0 (fun _ => true) true Tryd.f3.params.toList args.toList ds p := hA0
 rw [Tryd.params3] at hA hval
 obtain ⟨v0, vs0, d0, ds0, p0, q0, hargs, rfl, rfl, h0, r0⟩ := trodAll_cons hA
 obtain ⟨rfl, rfl, rfl⟩ := trodAll_nil r0
 obtain rfl : args = #[v0] := by cases args; simp_all
 obtain ⟨rfl, rfl⟩ := trodVars_none hV
 obtain ⟨a0, n0, c0, rfl, hn0, hc0⟩ := open_code (hval 0 22 v0 rfl rfl) h0
 have hlt0 : ∀ x ∈ p0, x.block < W.heap.size := fun x hx => by simpa using hW'.lt x (by simp [hx])
 clear hA0
 refine (walk a0 n0 c0 W hn0 hc0 (table hL)).mono fun e W' ⟨he, bel⟩ => ?_
 subst he
 exact ⟨_, rfl, _, _, _, [], _, [], hW', trodAll_mk1 (shut_bool Tryd.underlying4 _), (trodAll_cons_mk (Below.trod laidOut (by kernel_rfl) (of_decide_eq_true (by kernel_rfl)) h0 bel hlt0) trodAll_mk0), rfl, bel.frame _, fun h => by cases h⟩
noncomputable def laidWorld (os : Os) : World := World.laidAll Tryd.prog os Rows.fnMatchRow.laid
theorem laid_met (os : Os) : laidMet Tryd.prog Rows.fnMatchRow.laid ((laidWorld os).forCall (fun _ _ => 0) ⟨#[], #[.slice none 0 0], []⟩).memory :=
 laidMet_laidAll _ (by kernel_rfl) (by kernel_rfl)
theorem reads (os : Os) {H : Type} (enc : TypeId × Value → H) : ∃ places, DataW.whole enc Tryd.prog ((laidWorld os).forCall (fun _ _ => 0) ⟨#[], #[.slice none 0 0], []⟩).memory Tryd.f3.params.toList Rows.fnMatchSpec.vars false #[Value.slice none 0 0].toList 8 = some ([.nil], [], places) :=
 ⟨[], by kernel_rfl⟩
set_option maxRecDepth 100000 in
theorem lifted (os : Os) (started : os.Started) (H : Type) (enc : TypeId × Value → H) (F : Stop.Interp) :
 ReturnsInHanded {} Tryd.checked os 3 .any ((OpenSpec.ofChange Rows.fnMatchSpec).preRow enc Tryd.prog Tryd.f3 Rows.fnMatchRow.domain false Rows.fnMatchRow.laid) (((OpenSpec.ofChange Rows.fnMatchSpec).at F).post enc Tryd.prog Tryd.f3 false true false false) := by
 obtain ⟨places, hx⟩ := reads os enc
 refine returnsInHanded_of_row (C := Tryd.checked) (s := OpenSpec.ofChange Rows.fnMatchSpec) own started (by kernel_rfl) Tryd.func3
  (witness_row_at (enc := enc) (C := Tryd.checked) false (laidWorld os) #[.slice none 0 0] (World.laidAll_os _ _ _) (by kernel_rfl) (by kernel_rfl) (by kernel_rfl)
    (OpenSpec.preRow_of_cond 8 hx (by kernel_rfl) (fun k hk => by cases hk) (by kernel_rfl) (laid_met os))) ?_
 intro W base args ds gs before hval hW _ _ _ hL _ _
 exact contract H enc W base args ds gs before hval hW hL
theorem said : Rows.FnMatchSaid :=
 OpenClaim.holds_of_cond 3 Tryd.f3 rfl rfl rfl rfl rfl rfl rfl ⟨rfl, rfl, rfl, rfl, rfl⟩ rfl rfl rfl rfl rfl (by kernel_rfl) Tryd.func3 (by kernel_rfl)
  (of_decide_eq_true (by kernel_rfl)) (by unfold Func.isWrapper; first | (rw [if_pos (by decide +kernel)]; kernel_rfl) | (rw [if_neg (by decide +kernel)]; exact ⟨rfl, rfl⟩))
  (fun os started H enc _ F => by rw [OpenClaim.pre_eq_preRow]; exact lifted os started H enc F)
theorem plain (f : FuncId) (fn : Func) (hf : Tryd.pinned.checked.prog.funcNamed Rows.fnMatchRow.func = some f) (hfn : Tryd.pinned.checked.prog.funcs[f]? = some fn) :
 false = Tryd.pinned.checked.prog.looks [] ∧ ∀ (j : Nat) t, fn.params[j]? = some t → Tryd.pinned.checked.prog.wantsStandIn t = false := by
 obtain rfl : f = 3 := Option.some.inj ((show Tryd.prog.funcNamed Rows.fnMatchRow.func = some 3 by kernel_rfl).symm.trans hf) |>.symm
 obtain rfl : fn = Tryd.f3 := (Option.some.inj (Tryd.func3.symm.trans hfn)).symm
 refine ⟨by kernel_rfl, fun j t ht => ?_⟩
 rw [Tryd.params3] at ht
 obtain rfl : t = 22 := by simpa using Array.mem_of_getElem? ht
 exact (show Tryd.prog.wantsStandIn 22 = false by kernel_rfl)
theorem card : Rows.FnMatchCardSaid :=
 Claim7.holds_tied_plain_at .later [] _ _ _ _ said (fun _ h => by cases h) (by kernel_rfl) (fun _ h => by cases h) fnMatch_row_tie rfl ⟨rfl, rfl⟩ (by kernel_rfl) rfl plain (by kernel_rfl)
#print axioms card
end Go.Proofs.YtppfnaenamcnpaaDoor.fnMatch
