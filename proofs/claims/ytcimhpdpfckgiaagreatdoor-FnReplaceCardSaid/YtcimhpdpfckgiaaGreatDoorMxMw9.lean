/-
  Contracts of slices.Equal over words, of set's same and of ground's step over this seat's translation. Conditions: each theorem names its own.
-/
import Derived.Test.YtcimhpdpfckgiaaGreatDoorMxMw4
import Derived.Test.YtcimhpdpfckgiaaGreatDoorMxKit
set_option linter.unusedVariables false
namespace Go.Proofs.YtcimhpdpfckgiaaGreatDoor.kit
open Go.ChangeShapes Go.WideShapes Go.ChangeAt Go.RowKit
theorem list_ne {ws vs : List Nat} {i : Nat} (h : i < ws.length) (h2 : i < vs.length) (hne : ws[i] ≠ vs[i]) : ¬ ws = vs := fun e => hne (by subst e; rfl)
set_option maxRecDepth 100000 in
set_option maxHeartbeats 1000000 in
theorem equalW_any (ws vs : List Nat) (a b : Option Addr) (c d : Nat) (w : World) (hl : ws.length ≤ 1048576) (hl2 : vs.length ≤ 1048576) (ha : WordsAt w ws a) (hb : WordsAt w vs b) :
 Calls Tryz.prog 112 #[.slice a ws.length c, .slice b vs.length d] w fun e w' => e = .returned (.bool (decide (ws = vs))) ∧ Below w.heap.size w w' := by
 obtain ⟨n, hn⟩ : ∃ n, n = ws.length := ⟨_, rfl⟩
 obtain ⟨m, hm⟩ : ∃ m, m = vs.length := ⟨_, rfl⟩
 have HA := qd ha
 have HB := qd hb
 have HN := qd hn
 have HM := qd hm
 rw [← hn, ← hm]
 by_cases hnm : n = m
 · subst hnm
   have e1 : ((n : Int) != (n : Int)) = false := by simp
   clear ha hb hn hm
   go_enter Tryz.func112, Tryz.ntmps112
   go_wp2_with fail
   go_loopw [13] (fun iv wr => ∃ i : Nat, iv = .int .i64 (i : Int) ∧ i ≤ n ∧ Below w.heap.size w wr ∧ ∀ j (h : j < i) (h1 : j < ws.length) (h2 : j < vs.length), ws[j] = vs[j]) (fun iv _ => n - (intOf iv).toNat)
   case atStart => exact ⟨0, rfl, Nat.zero_le _, Below.refl _ _, fun j h => by omega⟩
   case round =>
    obtain ⟨i, rfl, hi, hbl, heq⟩ := hrel
    have HBL := qd hbl
    have HEQ := qd heq
    clear hbl heq
    by_cases hlt : i < n
    · have hil : i < ws.length := by have := HN.out; omega
      have hil2 : i < vs.length := by have := HM.out; omega
      obtain ⟨p, hp, _, d0⟩ := (HA.out.kept HBL.out) i hil
      obtain ⟨q, hq, _, d1⟩ := (HB.out.kept HBL.out) i hil2
      subst hp hq
      have HNE := qd (fun h => list_ne (ws := ws) (vs := vs) hil hil2 h)
      have HX := qd (show ws[i] = ws[i] from rfl)
      have hi8 : (i : Int) ≤ 1048576 := by omega
      have j0 : (0 : Int) ≤ (i : Int) := by omega
      have j1 : (i : Int) < (n : Int) := by omega
      by_cases hxy : ws[i] = vs[i]
      · have e2 : ((ws[i] : Int) != (vs[i] : Int)) = false := by rw [hxy]; simp
        have HI := qd (show i + 1 ≤ n by omega)
        have HXY := qd (show ∀ j (h : j < i + 1) (h1 : j < ws.length) (h2 : j < vs.length), ws[j] = vs[j] from fun j h h1 h2 => by
         by_cases c : j < i
         · exact HEQ.out j c h1 h2
         · obtain rfl : j = i := by omega
           exact hxy)
        clear hxy
        generalize ws[i] = x at *
        generalize vs[i] = y at *
        clear hil hil2 hi
        go_wp2_with fail
        go_quiet (fail)
        go_wp2_with fail
        go_roundw
        case measure => simp [intOf]; have := HI.out; omega
        case rel => exact ⟨i + 1, by go_num, HI.out, HBL.out.trans (below_drew0 _ _ _), HXY.out⟩
      · have e2 : ((ws[i] : Int) != (vs[i] : Int)) = true := by rw [bne_iff_ne]; omega
        have HF := qd (decide_eq_false (HNE.out hxy))
        clear hxy
        generalize ws[i] = x at *
        generalize vs[i] = y at *
        clear hil hil2 hi
        go_wp2_with fail
        go_quiet (fail)
        go_wp2_with fail
        go_ret
        exact ⟨ret_bool HF.out.symm, HBL.out.trans (below_drew0 _ _ _)⟩
    · obtain rfl : i = n := by omega
      have HT := qd (decide_eq_true (show ws = vs from List.ext_getElem (by rw [← HN.out, ← HM.out]) (fun j h1 h2 => HEQ.out j (by have := HN.out; omega) h1 h2)))
      go_wp2_with fail
      go_ret
      exact ⟨ret_bool HT.out.symm, HBL.out⟩
 · have e1 : ((n : Int) != (m : Int)) = true := by rw [bne_iff_ne]; omega
   have HF := qd (decide_eq_false (show ¬ ws = vs from fun e => hnm (by rw [HN.out, HM.out, e])))
   clear ha hb hn hm hnm
   go_enter Tryz.func112, Tryz.ntmps112
   go_wp2_with fail
   go_ret
   exact ⟨ret_bool HF.out.symm, Below.refl _ _⟩
def sameB (sk : Nat) (ws : List Nat) (sk2 : Nat) (vs : List Nat) : Bool := (decide (ws.length = 0) && decide (vs.length = 0)) || (decide (sk = sk2) && decide (ws = vs))
theorem sameB_mem {sk sk2 : Nat} {ws vs : List Nat} (h : sameB sk ws sk2 vs = true) (j : Nat) : memS sk ws j ↔ memS sk2 vs j := by
 simp only [sameB, Bool.or_eq_true, Bool.and_eq_true, decide_eq_true_eq] at h
 rcases h with ⟨h1, h2⟩ | ⟨rfl, rfl⟩
 · rw [List.length_eq_zero_iff.1 h1, List.length_eq_zero_iff.1 h2]; simp [memS_nil]
 · exact Iff.rfl
set_option maxRecDepth 100000 in
set_option maxHeartbeats 1000000 in
theorem same_any (N sk : Nat) (ws : List Nat) (a : Option Addr) (c sk2 : Nat) (vs : List Nat) (b : Option Addr) (d : Nat) (w : World) (hN : N ≤ 1048576) (h1 : SetB N sk ws) (h2 : SetB N sk2 vs) (ha : WordsAt w ws a) (hb : WordsAt w vs b) :
 Calls Tryz.prog 109 #[setV sk a ws.length c, setV sk2 b vs.length d] w fun e w' => e = .returned (.bool (sameB sk ws sk2 vs)) ∧ Below w.heap.size w w' := by
 have hle := h1.le
 have hle2 := h2.le
 have HC := qd (fun (W : World) (hW : Below w.heap.size w W) => equalW_any ws vs a b c d W (by omega) (by omega) (ha.kept hW) (hb.kept hW))
 obtain ⟨n, hn⟩ : ∃ n, n = ws.length := ⟨_, rfl⟩
 obtain ⟨m, hm⟩ : ∃ m, m = vs.length := ⟨_, rfl⟩
 rw [← hn, ← hm] at HC
 have hnb : n ≤ 1048576 := by omega
 have hmb : m ≤ 1048576 := by omega
 have HS : Hid (sameB sk ws sk2 vs = ((decide (n = 0) && decide (m = 0)) || (decide (sk = sk2) && decide (ws = vs)))) := qd (by rw [hn, hm]; rfl)
 rw [← hn, ← hm]
 have HW := qd (fun (W : World) => setEmpty_any sk a n c W hnb)
 have HV := qd (fun (W : World) => setEmpty_any sk2 b m d W hmb)
 have HB2 := qd (show ∀ o p, Below w.heap.size w ((w.alloc o).alloc p) from fun o p => ((Below.refl _ w).alloc (Nat.le_refl _) o).alloc (by simp) p)
 obtain ⟨w1, hw1⟩ : ∃ w1, w1 = (w.alloc (.cells #[.int .i64 (sk : Int), .slice a n c] 68)).alloc (.cells #[.int .i64 (sk2 : Int), .slice b m d] 68) := ⟨_, rfl⟩
 have hz1 : w1.heap.size = w.heap.size + 2 := by rw [hw1]; simp
 have HZ1 := qd hz1
 have x0 : ∀ j, w1.cell? ⟨w.heap.size, j, none⟩ = #[Value.int .i64 (sk : Int), .slice a n c][j]? := fun j => by
  rw [hw1, World.cell?_alloc_past _ _ _ (by simp; try omega), World.cell?_alloc_at _ _ _ _ rfl]
 have x1 : ∀ j, w1.cell? ⟨w.heap.size + 1, j, none⟩ = #[Value.int .i64 (sk2 : Int), .slice b m d][j]? := fun j => by
  rw [hw1, World.cell?_alloc_at _ _ _ _ (by simp)]
 have HX0 := qd x0
 have HX1 := qd x1
 have HB1 := qd (show Below w.heap.size w w1 from by rw [hw1]; exact HB2.out _ _)
 have HW1 := qd hw1
 clear h1 h2 ha hb hn hm hw1 hz1 x0 x1 hle hle2
 unfold setV
 generalize sameB sk ws sk2 vs = sb at *
 by_cases cn : n = 0
 · have e0 : decide (n = 0) = true := decide_eq_true cn
   by_cases cm : m = 0
   · have e1 : decide (m = 0) = true := decide_eq_true cm
     have HE := qd (show sb = true by rw [HS.out, e0, e1]; rfl)
     clear cn cm
     go_enter Tryz.func109, Tryz.ntmps109
     go_wp2_with fail
     rw [← HW1.out]
     refine (HW.out _).mono ?_
     rintro en w2 ⟨rfl, hb2⟩
     have y0 := (hb2.cell (p := ⟨w.heap.size + 1, 0, none⟩) (by rw [HZ1.out]; simp)).trans (HX1.out 0)
     have y1 := (hb2.cell (p := ⟨w.heap.size + 1, 1, none⟩) (by rw [HZ1.out]; simp)).trans (HX1.out 1)
     simp only [List.getElem?_toArray, List.getElem?_cons_succ, List.getElem?_cons_zero] at y0 y1
     have HBB := qd (HB1.out.trans (hb2.mono HB1.out.size))
     clear hb2
     go_wp2_with fail
     refine (HV.out _).mono ?_
     rintro en w3 ⟨rfl, hb3⟩
     have HB3 := qd (HBB.out.trans (hb3.mono HBB.out.size))
     clear hb3
     go_wp2_with fail
     go_ret
     exact ⟨ret_bool HE.out.symm, HB3.out⟩
   · have e1 : decide (m = 0) = false := decide_eq_false cm
     by_cases ck : sk = sk2
     · have e2 : decide (sk = sk2) = true := decide_eq_true ck
       have e3 : ((sk : Int) == (sk2 : Int)) = true := by rw [ck]; simp
       have HE := qd (show sb = decide (ws = vs) by rw [HS.out, e0, e1, e2]; simp)
       subst ck
       clear cn cm
       go_enter Tryz.func109, Tryz.ntmps109
       go_wp2_with fail
       rw [← HW1.out]
       refine (HW.out _).mono ?_
       rintro en w2 ⟨rfl, hb2⟩
       have HBB := qd (HB1.out.trans (hb2.mono HB1.out.size))
       have HK2 := qd (show Below w1.heap.size w1 w2 from hb2)
       have y0 := (hb2.cell (p := ⟨w.heap.size + 1, 0, none⟩) (by rw [HZ1.out]; simp)).trans (HX1.out 0)
       have y1 := (hb2.cell (p := ⟨w.heap.size + 1, 1, none⟩) (by rw [HZ1.out]; simp)).trans (HX1.out 1)
       simp only [List.getElem?_toArray, List.getElem?_cons_succ, List.getElem?_cons_zero] at y0 y1
       clear hb2
       go_wp2_with fail
       refine (HV.out _).mono ?_
       rintro en w3 ⟨rfl, hb3⟩
       have HBB := qd (HBB.out.trans (hb3.mono HBB.out.size))
       have HK2 := qd (HK2.out.trans (hb3.mono HK2.out.size))
       clear hb3 y0 y1
       have z00 := (HK2.out.cell (p := ⟨w.heap.size, 0, none⟩) (by rw [HZ1.out]; simp)).trans (HX0.out 0)
       have z01 := (HK2.out.cell (p := ⟨w.heap.size, 1, none⟩) (by rw [HZ1.out]; simp)).trans (HX0.out 1)
       have z10 := (HK2.out.cell (p := ⟨w.heap.size + 1, 0, none⟩) (by rw [HZ1.out]; simp)).trans (HX1.out 0)
       have z11 := (HK2.out.cell (p := ⟨w.heap.size + 1, 1, none⟩) (by rw [HZ1.out]; simp)).trans (HX1.out 1)
       simp only [List.getElem?_toArray, List.getElem?_cons_succ, List.getElem?_cons_zero] at z00 z01 z10 z11
       go_wp2_with fail
       refine (HC.out _ HBB.out).mono ?_
       rintro en w4 ⟨rfl, hb4⟩
       have HB4 := qd (HBB.out.trans (hb4.mono HBB.out.size))
       clear hb4
       go_wp2_with fail
       go_ret
       exact ⟨ret_bool HE.out.symm, HB4.out⟩
     · have e2 : decide (sk = sk2) = false := decide_eq_false ck
       have e3 : ((sk : Int) == (sk2 : Int)) = false := by rw [beq_eq_false_iff_ne]; omega
       have HE := qd (show sb = false by rw [HS.out, e0, e1, e2]; simp)
       clear ck
       clear cn cm
       go_enter Tryz.func109, Tryz.ntmps109
       go_wp2_with fail
       rw [← HW1.out]
       refine (HW.out _).mono ?_
       rintro en w2 ⟨rfl, hb2⟩
       have HBB := qd (HB1.out.trans (hb2.mono HB1.out.size))
       have HK2 := qd (show Below w1.heap.size w1 w2 from hb2)
       have y0 := (hb2.cell (p := ⟨w.heap.size + 1, 0, none⟩) (by rw [HZ1.out]; simp)).trans (HX1.out 0)
       have y1 := (hb2.cell (p := ⟨w.heap.size + 1, 1, none⟩) (by rw [HZ1.out]; simp)).trans (HX1.out 1)
       simp only [List.getElem?_toArray, List.getElem?_cons_succ, List.getElem?_cons_zero] at y0 y1
       clear hb2
       go_wp2_with fail
       refine (HV.out _).mono ?_
       rintro en w3 ⟨rfl, hb3⟩
       have HBB := qd (HBB.out.trans (hb3.mono HBB.out.size))
       have HK2 := qd (HK2.out.trans (hb3.mono HK2.out.size))
       clear hb3 y0 y1
       have z00 := (HK2.out.cell (p := ⟨w.heap.size, 0, none⟩) (by rw [HZ1.out]; simp)).trans (HX0.out 0)
       have z01 := (HK2.out.cell (p := ⟨w.heap.size, 1, none⟩) (by rw [HZ1.out]; simp)).trans (HX0.out 1)
       have z10 := (HK2.out.cell (p := ⟨w.heap.size + 1, 0, none⟩) (by rw [HZ1.out]; simp)).trans (HX1.out 0)
       have z11 := (HK2.out.cell (p := ⟨w.heap.size + 1, 1, none⟩) (by rw [HZ1.out]; simp)).trans (HX1.out 1)
       simp only [List.getElem?_toArray, List.getElem?_cons_succ, List.getElem?_cons_zero] at z00 z01 z10 z11
       go_wp2_with fail
       go_ret
       exact ⟨ret_bool HE.out.symm, HBB.out⟩
 · have e0 : decide (n = 0) = false := decide_eq_false cn
   by_cases ck : sk = sk2
   · have e2 : decide (sk = sk2) = true := decide_eq_true ck
     have e3 : ((sk : Int) == (sk2 : Int)) = true := by rw [ck]; simp
     have HE := qd (show sb = decide (ws = vs) by rw [HS.out, e0, e2]; simp)
     subst ck
     clear cn
     go_enter Tryz.func109, Tryz.ntmps109
     go_wp2_with fail
     rw [← HW1.out]
     refine (HW.out _).mono ?_
     rintro en w2 ⟨rfl, hb2⟩
     have HBB := qd (HB1.out.trans (hb2.mono HB1.out.size))
     have HK2 := qd (show Below w1.heap.size w1 w2 from hb2)
     clear hb2
     have z00 := (HK2.out.cell (p := ⟨w.heap.size, 0, none⟩) (by rw [HZ1.out]; simp)).trans (HX0.out 0)
     have z01 := (HK2.out.cell (p := ⟨w.heap.size, 1, none⟩) (by rw [HZ1.out]; simp)).trans (HX0.out 1)
     have z10 := (HK2.out.cell (p := ⟨w.heap.size + 1, 0, none⟩) (by rw [HZ1.out]; simp)).trans (HX1.out 0)
     have z11 := (HK2.out.cell (p := ⟨w.heap.size + 1, 1, none⟩) (by rw [HZ1.out]; simp)).trans (HX1.out 1)
     simp only [List.getElem?_toArray, List.getElem?_cons_succ, List.getElem?_cons_zero] at z00 z01 z10 z11
     go_wp2_with fail
     refine (HC.out _ HBB.out).mono ?_
     rintro en w4 ⟨rfl, hb4⟩
     have HB4 := qd (HBB.out.trans (hb4.mono HBB.out.size))
     clear hb4
     go_wp2_with fail
     go_ret
     exact ⟨ret_bool HE.out.symm, HB4.out⟩
   · have e2 : decide (sk = sk2) = false := decide_eq_false ck
     have e3 : ((sk : Int) == (sk2 : Int)) = false := by rw [beq_eq_false_iff_ne]; omega
     have HE := qd (show sb = false by rw [HS.out, e0, e2]; simp)
     clear ck
     clear cn
     go_enter Tryz.func109, Tryz.ntmps109
     go_wp2_with fail
     rw [← HW1.out]
     refine (HW.out _).mono ?_
     rintro en w2 ⟨rfl, hb2⟩
     have HBB := qd (HB1.out.trans (hb2.mono HB1.out.size))
     have HK2 := qd (show Below w1.heap.size w1 w2 from hb2)
     clear hb2
     have z00 := (HK2.out.cell (p := ⟨w.heap.size, 0, none⟩) (by rw [HZ1.out]; simp)).trans (HX0.out 0)
     have z01 := (HK2.out.cell (p := ⟨w.heap.size, 1, none⟩) (by rw [HZ1.out]; simp)).trans (HX0.out 1)
     have z10 := (HK2.out.cell (p := ⟨w.heap.size + 1, 0, none⟩) (by rw [HZ1.out]; simp)).trans (HX1.out 0)
     have z11 := (HK2.out.cell (p := ⟨w.heap.size + 1, 1, none⟩) (by rw [HZ1.out]; simp)).trans (HX1.out 1)
     simp only [List.getElem?_toArray, List.getElem?_cons_succ, List.getElem?_cons_zero] at z00 z01 z10 z11
     go_wp2_with fail
     go_ret
     exact ⟨ret_bool HE.out.symm, HBB.out⟩
def stepN (s : List UInt8) (back : Bool) (i : Nat) : Option (UInt8 × Nat) := if back then (if i = 0 ∨ s.length < i then none else some (s.getD (i - 1) 0, i - 1)) else (if i < s.length then some (s.getD i 0, i + 1) else none)
def stepV (r : Option (UInt8 × Nat)) : Value := match r with
 | none => .tuple #[.int .u8 0, .int .i64 0, .bool false]
 | some (b, j) => .tuple #[.int .u8 (b.toNat : Int), .int .i64 (j : Int), .bool true]
set_option maxRecDepth 100000 in
set_option maxHeartbeats 1000000 in
theorem step_any (s : ByteArray) (back : Bool) (i : Nat) (w : World) (hs : s.size ≤ 1048576) (hi : i ≤ 1048640) :
 Calls Tryz.prog 88 #[.agg #[.string s, .bool back], .int .i64 (i : Int)] w fun e w' => e = .returned (stepV (stepN s.data.toList back i)) ∧ Below w.heap.size w w' := by
 have HB := qd (show ∀ o, Below w.heap.size w (w.alloc o) from fun o => (Below.refl _ w).alloc (Nat.le_refl _) o)
 have hlen : s.data.toList.length = s.size := by simp
 cases back
 case false =>
  by_cases c : i < s.size
  · have E := qd (show stepV (stepN s.data.toList false i) = .tuple #[.int .u8 (s[i].toNat : Int), .int .i64 ((i + 1 : Nat) : Int), .bool true] from by
        unfold stepN; rw [if_neg (by simp), if_pos (by rw [hlen]; exact c), ← getD_at s i c]; rfl)
    have h1 : ¬ (i : Int) < 0 := by omega
    have h2 : ¬ (s.size : Int) ≤ (i : Int) := by omega
    have j0 : (0 : Int) ≤ (i : Int) := by omega
    have j1 : (i : Int) < (s.size : Int) := by omega
    have hi8 : (i : Int) ≤ 1048640 := by omega
    clear hlen
    go_enter Tryz.func88, Tryz.ntmps88
    go_wp2_with fail
    go_ret3
    exact ⟨by rw [E.out]; rfl, HB.out _⟩
  · have E := qd (show stepV (stepN s.data.toList false i) = .tuple #[.int .u8 0, .int .i64 0, .bool false] from by
        unfold stepN; rw [if_neg (by simp), if_neg (by rw [hlen]; exact c)]; rfl)
    have h1 : ¬ (i : Int) < 0 := by omega
    have h2 : (s.size : Int) ≤ (i : Int) := by omega
    have h3 : decide (s.size ≤ i) = true := decide_eq_true (by omega)
    clear hlen
    go_enter Tryz.func88, Tryz.ntmps88
    go_wp2_with fail
    go_ret3
    exact ⟨by rw [E.out]; rfl, HB.out _⟩
 case true =>
  by_cases c0 : i = 0
  · subst c0
    have E := qd (show stepV (stepN s.data.toList true 0) = .tuple #[.int .u8 0, .int .i64 0, .bool false] from by
        unfold stepN; rw [if_pos rfl, if_pos (.inl rfl)]; rfl)
    clear hlen
    go_enter Tryz.func88, Tryz.ntmps88
    go_wp2_with fail
    go_ret3
    exact ⟨by rw [E.out]; rfl, HB.out _⟩
  · obtain ⟨k, rfl⟩ : ∃ k, i = k + 1 := ⟨i - 1, by omega⟩
    by_cases c : k < s.size
    · have E := qd (show stepV (stepN s.data.toList true (k + 1)) = .tuple #[.int .u8 (s[k].toNat : Int), .int .i64 ((k : Nat) : Int), .bool true] from by
       unfold stepN; rw [if_pos rfl, if_neg (by rw [hlen]; omega), Nat.add_sub_cancel, ← getD_at s k c]; rfl)
      have h1 : ¬ (k : Int) < 0 := by omega
      have h2 : ¬ (s.size : Int) ≤ (k : Int) := by omega
      have j0 : (0 : Int) ≤ (k : Int) := by omega
      have j1 : (k : Int) < (s.size : Int) := by omega
      have hi8 : (k : Int) ≤ 1048640 := by omega
      clear hlen
      go_enter Tryz.func88, Tryz.ntmps88
      go_wp2_with fail
      go_ret3
      exact ⟨by rw [E.out]; rfl, HB.out _⟩
    · have E := qd (show stepV (stepN s.data.toList true (k + 1)) = .tuple #[.int .u8 0, .int .i64 0, .bool false] from by
       unfold stepN; rw [if_pos rfl, if_pos (.inr (by rw [hlen]; omega))]; rfl)
      have h1 : ¬ (k : Int) < 0 := by omega
      have h2 : (s.size : Int) ≤ (k : Int) := by omega
      have h3 : decide (s.size ≤ k) = true := decide_eq_true (by omega)
      have hi8 : (k : Int) ≤ 1048640 := by omega
      clear hlen
      go_enter Tryz.func88, Tryz.ntmps88
      go_wp2_with fail
      go_ret3
      exact ⟨by rw [E.out]; rfl, HB.out _⟩
end Go.Proofs.YtcimhpdpfckgiaaGreatDoor.kit
