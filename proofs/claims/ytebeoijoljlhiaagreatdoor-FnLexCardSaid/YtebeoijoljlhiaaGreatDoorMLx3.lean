/-
  Contracts of spec.l05Operand, impl.endsValue and spec.l05Sign over this seat's translation: whether a stroke divides behind words, and the sign at a place. Conditions: the text has at most 1048576 bytes, the place is one of it.
-/
import Derived.Test.YtebeoijoljlhiaaGreatDoorMLx2
import Derived.Test.YtebeoijoljlhiaaGreatDoorMBc0
namespace Go.Proofs.YtebeoijoljlhiaaGreatDoor.kit
open Go.ChangeShapes Go.WideShapes Go.ChangeAt Go.RowKit
set_option linter.unusedVariables false

def opL : List (List UInt8) := [[41], [93], [43, 43], [45, 45]]
def opB (l : List UInt8) : Bool := l == [41] || (l == [93] || (l == [43, 43] || l == [45, 45]))
def divT (t : Tok) : Bool := t.k == 0 || t.k == 1 || t.k == 2 || t.k == 3 || (t.k == 5 && opB t.s.toList)
def divs (ts : List Tok) : Bool := match ts.getLast? with | none => false | some t => divT t
theorem divs_at {ts : List Tok} {m : Nat} (h : ts.length = m + 1) : divs ts = divT (ts.getD m default) := by
  have e : ts.getLast? = ts[m]? := by rw [List.getLast?_eq_getElem?, h]; rfl
  unfold divs
  rw [e, List.getD_eq_getElem?_getD, List.getElem?_eq_getElem (by omega)]; rfl
theorem divs_nil {ts : List Tok} (h : ts.length = 0) : divs ts = false := by
  rw [List.length_eq_zero_iff.1 h]; rfl
theorem opB_any (l : List UInt8) : anyTo (fun j => opL.getD j []) 4 l = opB l := by
  have c : ∀ x : List UInt8, (x == l) = (l == x) := fun x => by rw [Bool.eq_iff_iff, beq_iff_eq, beq_iff_eq]; exact eq_comm
  have : (List.range 4) = [0, 1, 2, 3] := rfl
  simp only [anyTo, this, List.any_cons, List.any_nil, Bool.or_false, opL, List.getD_cons_zero, List.getD_cons_succ, c, opB]
set_option maxRecDepth 100000 in
set_option maxHeartbeats 1000000 in
theorem operand05_one (B : Nat) (a : Option Addr) (cap n m : Nat) (hn : n = m + 1) (hm : m ≤ 100000) (f : Nat → Tok) (w : World) (h : TokF B w a n f) :
    Calls Tryz.prog 128 #[.slice a n cap] w fun e w' => e = .returned (.bool (divT (f m))) ∧ Below w.heap.size w w' := by
  obtain ⟨g, rfl, hg1, hg2, ⟨e0, e1, e2, e3⟩, hg4⟩ := h m (by omega)
  clear hg4 h
  generalize f m = t at *
  obtain ⟨k, s, nn, l⟩ := t
  simp only at e0 e1 e2 e3
  have i0 : (0 : Int) ≤ (n : Int) - 1 := by omega
  have i1 : (n : Int) - 1 < (n : Int) := by omega
  have i2 : ((n : Int) - 1).toNat = m := by omega
  have i3 : ((n : Int) == 0) = false := by simp; omega
  have HB := Lib.hid (show ∀ o, Below w.heap.size w (w.alloc o) from fun o => (Below.refl w.heap.size w).alloc (Nat.le_refl _) _)
  have HB2 := Lib.hid (show ∀ o o2, Below w.heap.size w ((w.alloc o).alloc o2) from fun o o2 => ((Below.refl w.heap.size w).alloc (Nat.le_refl _) _).alloc (by simp) _)
  clear hn
  by_cases c0 : k = 0
  · subst c0
    have E : Hid (divT ⟨0, s, nn, l⟩ = true) := Lib.hid rfl
    go_enter Tryz.func128, Tryz.ntmps128
    go_wp2_with fail
    go_ret
    exact ⟨ret_bool E.out.symm, HB.out _⟩
  have b0 : (k == 0) = false := by simpa using c0
  by_cases c1 : k = 1
  · subst c1
    have E : Hid (divT ⟨1, s, nn, l⟩ = true) := Lib.hid rfl
    go_enter Tryz.func128, Tryz.ntmps128
    go_wp2_with fail
    go_ret
    exact ⟨ret_bool E.out.symm, HB.out _⟩
  have b1 : (k == 1) = false := by simpa using c1
  by_cases c2 : k = 2
  · subst c2
    have E : Hid (divT ⟨2, s, nn, l⟩ = true) := Lib.hid rfl
    go_enter Tryz.func128, Tryz.ntmps128
    go_wp2_with fail
    go_ret
    exact ⟨ret_bool E.out.symm, HB.out _⟩
  have b2 : (k == 2) = false := by simpa using c2
  by_cases c3 : k = 3
  · subst c3
    have E : Hid (divT ⟨3, s, nn, l⟩ = true) := Lib.hid rfl
    go_enter Tryz.func128, Tryz.ntmps128
    go_wp2_with fail
    go_ret
    exact ⟨ret_bool E.out.symm, HB.out _⟩
  have b3 : (k == 3) = false := by simpa using c3
  by_cases c5 : k = 5
  · subst c5
    have E : Hid (divT ⟨5, s, nn, l⟩ = opB s.toList) := Lib.hid (by simp [divT])
    have E2 := Lib.hid (opB_any s.toList)
    go_enter Tryz.func128, Tryz.ntmps128
    go_wp2_with fail
    refine (has01_any _ _ 4 (fun j => opL.getD j []) s _ (by decide) ?_).mono ?_
    · intro j hj
      refine ⟨_, rfl, ?_⟩
      rw [World.cell?_alloc_at _ _ _ _ (by simp)]
      match j, hj with
      | 0, _ => rfl
      | 1, _ => rfl
      | 2, _ => rfl
      | 3, _ => rfl
    · rintro e w' ⟨rfl, rfl⟩
      go_wp2_with fail
      go_ret
      exact ⟨ret_bool (by rw [E.out]; exact E2.out), HB2.out _ _⟩
  · have b5 : (k == 5) = false := by simpa using c5
    have E : Hid (divT ⟨k, s, nn, l⟩ = false) := Lib.hid (by simp [divT, b0, b1, b2, b3, b5])
    go_enter Tryz.func128, Tryz.ntmps128
    go_wp2_with fail
    go_ret
    first | exact ⟨ret_bool E.out.symm, HB2.out _ _⟩ | exact ⟨ret_bool E.out.symm, HB.out _⟩
theorem operand05_any (B : Nat) (ts : List Tok) (a : Option Addr) (cap : Nat) (w : World) (hl : ts.length ≤ 100000) (h : TokF B w a ts.length (fun j => ts.getD j default)) :
    Calls Tryz.prog 128 #[.slice a ts.length cap] w fun e w' => e = .returned (.bool (divs ts)) ∧ Below w.heap.size w w' := by
  by_cases h0 : ts.length = 0
  · have E := Lib.hid (divs_nil h0)
    have h1 : ((ts.length : Int) == 0) = true := by rw [h0]; rfl
    go_enter Tryz.func128, Tryz.ntmps128
    go_wp2_with fail
    go_ret
    exact ⟨ret_bool E.out.symm, Below.refl _ _⟩
  · rw [divs_at (m := ts.length - 1) (by omega)]
    exact operand05_one B a cap ts.length (ts.length - 1) (by omega) (by omega) _ w h
set_option maxRecDepth 100000 in
set_option maxHeartbeats 1000000 in
theorem ends_one (B : Nat) (a : Option Addr) (cap n m : Nat) (hn : n = m + 1) (hm : m ≤ 100000) (f : Nat → Tok) (w : World) (h : TokF B w a n f) :
    Calls Tryz.prog 73 #[.slice a n cap] w fun e w' => e = .returned (.bool (divT (f m))) ∧ Below w.heap.size w w' := by
  obtain ⟨g, rfl, hg1, hg2, ⟨e0, e1, e2, e3⟩, hg4⟩ := h m (by omega)
  clear hg4 h
  generalize f m = t at *
  obtain ⟨k, s, nn, l⟩ := t
  simp only at e0 e1 e2 e3
  have i0 : (0 : Int) ≤ (n : Int) - 1 := by omega
  have i1 : (n : Int) - 1 < (n : Int) := by omega
  have i2 : ((n : Int) - 1).toNat = m := by omega
  have i3 : ((n : Int) == 0) = false := by simp; omega
  have HB := Lib.hid (show ∀ o, Below w.heap.size w (w.alloc o) from fun o => (Below.refl w.heap.size w).alloc (Nat.le_refl _) _)
  have HB2 := Lib.hid (show ∀ o o2, Below w.heap.size w ((w.alloc o).alloc o2) from fun o o2 => ((Below.refl w.heap.size w).alloc (Nat.le_refl _) _).alloc (by simp) _)
  clear hn
  by_cases c0 : k = 0
  · subst c0
    have E : Hid (divT ⟨0, s, nn, l⟩ = true) := Lib.hid rfl
    go_enter Tryz.func73, Tryz.ntmps73
    go_wp2_with fail
    go_ret
    exact ⟨ret_bool E.out.symm, HB.out _⟩
  have b0 : (k == 0) = false := by simpa using c0
  by_cases c1 : k = 1
  · subst c1
    have E : Hid (divT ⟨1, s, nn, l⟩ = true) := Lib.hid rfl
    go_enter Tryz.func73, Tryz.ntmps73
    go_wp2_with fail
    go_ret
    exact ⟨ret_bool E.out.symm, HB.out _⟩
  have b1 : (k == 1) = false := by simpa using c1
  by_cases c2 : k = 2
  · subst c2
    have E : Hid (divT ⟨2, s, nn, l⟩ = true) := Lib.hid rfl
    go_enter Tryz.func73, Tryz.ntmps73
    go_wp2_with fail
    go_ret
    exact ⟨ret_bool E.out.symm, HB.out _⟩
  have b2 : (k == 2) = false := by simpa using c2
  by_cases c3 : k = 3
  · subst c3
    have E : Hid (divT ⟨3, s, nn, l⟩ = true) := Lib.hid rfl
    go_enter Tryz.func73, Tryz.ntmps73
    go_wp2_with fail
    go_ret
    exact ⟨ret_bool E.out.symm, HB.out _⟩
  have b3 : (k == 3) = false := by simpa using c3
  by_cases c5 : k = 5
  · subst c5
    have E : Hid (divT ⟨5, s, nn, l⟩ = opB s.toList) := Lib.hid (by simp [divT])
    cases d1 : (s.toList == [41])
    · cases d2 : (s.toList == [93])
      · cases d3 : (s.toList == [43, 43])
        · cases d4 : (s.toList == [45, 45])
          all_goals
            have E2 := Lib.hid (show opB s.toList = _ by rw [opB, d1, d2, d3, d4])
            go_enter Tryz.func73, Tryz.ntmps73
            go_wp2_with fail
            go_ret
            exact ⟨ret_bool (by rw [E.out, E2.out]; rfl), HB.out _⟩
        · have E2 := Lib.hid (show opB s.toList = _ by rw [opB, d1, d2, d3])
          go_enter Tryz.func73, Tryz.ntmps73
          go_wp2_with fail
          go_ret
          exact ⟨ret_bool (by rw [E.out, E2.out]; rfl), HB.out _⟩
      · have E2 := Lib.hid (show opB s.toList = _ by rw [opB, d1, d2])
        go_enter Tryz.func73, Tryz.ntmps73
        go_wp2_with fail
        go_ret
        exact ⟨ret_bool (by rw [E.out, E2.out]; rfl), HB.out _⟩
    · have E2 := Lib.hid (show opB s.toList = _ by rw [opB, d1])
      go_enter Tryz.func73, Tryz.ntmps73
      go_wp2_with fail
      go_ret
      exact ⟨ret_bool (by rw [E.out, E2.out]; rfl), HB.out _⟩
  · have b5 : (k == 5) = false := by simpa using c5
    have E : Hid (divT ⟨k, s, nn, l⟩ = false) := Lib.hid (by simp [divT, b0, b1, b2, b3, b5])
    go_enter Tryz.func73, Tryz.ntmps73
    go_wp2_with fail
    go_ret
    exact ⟨ret_bool E.out.symm, HB.out _⟩
theorem ends_any (B : Nat) (ts : List Tok) (a : Option Addr) (cap : Nat) (w : World) (hl : ts.length ≤ 100000) (h : TokF B w a ts.length (fun j => ts.getD j default)) :
    Calls Tryz.prog 73 #[.slice a ts.length cap] w fun e w' => e = .returned (.bool (divs ts)) ∧ Below w.heap.size w w' := by
  by_cases h0 : ts.length = 0
  · have E := Lib.hid (divs_nil h0)
    have h1 : ((ts.length : Int) == 0) = true := by rw [h0]; rfl
    go_enter Tryz.func73, Tryz.ntmps73
    go_wp2_with fail
    go_ret
    exact ⟨ret_bool E.out.symm, Below.refl _ _⟩
  · rw [divs_at (m := ts.length - 1) (by omega)]
    exact ends_one B a cap ts.length (ts.length - 1) (by omega) (by omega) _ w h
theorem idx_fin : ∀ i : Fin 256, decide (0 < idxOf ⟨oneS.toArray⟩ ⟨#[UInt8.ofNat i.val]⟩) = oneS.contains (UInt8.ofNat i.val) := by decide +kernel
theorem idx_one (a : UInt8) : decide (0 < idxOf ⟨oneS.toArray⟩ ⟨#[a]⟩) = oneS.contains a := by
  have h := idx_fin ⟨a.toNat, a.toNat_lt⟩
  simpa using h
theorem two_any (l : List UInt8) : anyTo (fun j => twoS.getD j []) 14 l = twoS.contains l := by
  rw [Bool.eq_iff_iff]
  simp only [anyTo, List.any_eq_true, List.mem_range, beq_iff_eq]
  constructor
  · rintro ⟨j, hj, rfl⟩
    have key : ∀ j : Fin 14, twoS.contains (twoS.getD j.val []) = true := by decide
    exact key ⟨j, hj⟩
  · intro h
    have h1 : l ∈ twoS := by simpa using h
    obtain ⟨j, hj, e⟩ := List.getElem_of_mem h1
    exact ⟨j, hj, by rw [List.getD_eq_getElem?_getD, List.getElem?_eq_getElem hj]; exact e⟩
theorem sgn_two {a b : UInt8} {r : List UInt8} (h : twoS.contains [a, b] = true) : sgn (a :: b :: r) = [a, b] := by simp only [sgn, h, if_true]
theorem sgn_one {a : UInt8} {r : List UInt8} (h : ∀ b r2, r = b :: r2 → twoS.contains [a, b] = false) : sgn (a :: r) = if oneS.contains a then [a] else [] := by
  cases r with
  | nil => rfl
  | cons b r2 => simp only [sgn, h b r2 rfl]; rfl
set_option maxRecDepth 100000 in
set_option maxHeartbeats 1000000 in
theorem sign05_any (s : ByteArray) (i : Nat) (w : World) (hs : s.size ≤ 1048576) (hi : i < s.size) :
    Calls Tryz.prog 130 #[.string s, .int .i64 (i : Int)] w fun e w' => e = .returned (.string ⟨(sgn (s.data.toList.drop i)).toArray⟩) ∧ Below w.heap.size w w' := by
  obtain ⟨a, ha⟩ : ∃ a, a = s.data.toList.getD i 0 := ⟨_, rfl⟩
  have hd : s.data.toList.drop i = a :: s.data.toList.drop (i + 1) := by
    have hl : i < s.data.toList.length := by simpa using hi
    rw [List.drop_eq_getElem_cons hl, ha, List.getD_eq_getElem?_getD, List.getElem?_eq_getElem hl]; rfl
  have hx1 : s.extract i (i + 1) = ⟨#[a]⟩ := by
    rw [extract_drop, List.drop_take, hd, show i + 1 - i = 1 by omega]; rfl
  have HB := Lib.hid (show ∀ o, Below w.heap.size w (w.alloc o) from fun o => (Below.refl w.heap.size w).alloc (Nat.le_refl _) _)
  have HT : Hid (∀ (w0 : World) (ty : TypeId), TextsAt (w0.alloc (.cells #[.string ⟨#[43, 43]⟩, .string ⟨#[45, 45]⟩, .string ⟨#[43, 61]⟩, .string ⟨#[45, 61]⟩, .string ⟨#[42, 61]⟩, .string ⟨#[47, 61]⟩, .string ⟨#[37, 61]⟩, .string ⟨#[61, 61]⟩, .string ⟨#[60, 61]⟩, .string ⟨#[62, 61]⟩, .string ⟨#[33, 61]⟩, .string ⟨#[38, 38]⟩, .string ⟨#[124, 124]⟩, .string ⟨#[33, 126]⟩] ty)) (some ⟨w0.heap.size, 0, none⟩) 14 (fun j => twoS.getD j [])) := Lib.hid (fun w0 ty j hj => by
    refine ⟨_, rfl, ?_⟩
    rw [World.cell?_alloc_at _ _ _ _ (by simp)]
    match j, hj with
    | 0, _ => rfl
    | 1, _ => rfl
    | 2, _ => rfl
    | 3, _ => rfl
    | 4, _ => rfl
    | 5, _ => rfl
    | 6, _ => rfl
    | 7, _ => rfl
    | 8, _ => rfl
    | 9, _ => rfl
    | 10, _ => rfl
    | 11, _ => rfl
    | 12, _ => rfl
    | 13, _ => rfl)
  have E1 := Lib.hid (idx_one a)
  have hsl1 : ∀ (W : World), (Instr.slice 9 (.string s) (some (.int .i64 (i : Int))) (some (.int .i64 ((i : Int) + 1))) none).run Tryz.prog W = .ok (.string ⟨#[a]⟩) W := by
    intro W
    rw [run_slice_string W _ s .i64 .i64 _ _ Tryz.underlying9 (by omega) (by omega) (by omega), ← hx1]
    congr 2 <;> omega
  have C1 := Lib.hid (fun W => specIdx_any ⟨oneS.toArray⟩ ⟨#[a]⟩ W (by decide) (by show 1 ≤ 1048576; omega))
  have fin : ∀ (hno : ∀ b r2, s.data.toList.drop (i + 1) = b :: r2 → twoS.contains [a, b] = false), Hid (sgn (s.data.toList.drop i) = if decide (0 < idxOf ⟨oneS.toArray⟩ ⟨#[a]⟩) = true then [a] else []) := fun hno => Lib.hid (by
    rw [hd, sgn_one hno, E1.out])
  by_cases h2 : i + 2 ≤ s.size
  · obtain ⟨b, hb⟩ : ∃ b, b = s.data.toList.getD (i + 1) 0 := ⟨_, rfl⟩
    have hd2 : s.data.toList.drop (i + 1) = b :: s.data.toList.drop (i + 2) := by
      have hl : i + 1 < s.data.toList.length := by simp; omega
      rw [List.drop_eq_getElem_cons hl, hb, List.getD_eq_getElem?_getD, List.getElem?_eq_getElem hl]; rfl
    have hx2 : s.extract i (i + 2) = ⟨#[a, b]⟩ := by
      rw [extract_drop, List.drop_take, hd, hd2, show i + 2 - i = 2 by omega]; rfl
    have hsl2 : ∀ (W : World), (Instr.slice 9 (.string s) (some (.int .i64 (i : Int))) (some (.int .i64 ((i : Int) + 2))) none).run Tryz.prog W = .ok (.string ⟨#[a, b]⟩) W := by
      intro W
      rw [run_slice_string W _ s .i64 .i64 _ _ Tryz.underlying9 (by omega) (by omega) (by omega), ← hx2]
      congr 2 <;> omega
    have E2 : Hid (anyTo (fun j => twoS.getD j []) 14 (ByteArray.mk #[a, b]).toList = twoS.contains [a, b]) := Lib.hid (by rw [two_any, show (ByteArray.mk #[a, b]).toList = [a, b] from by rw [show (#[a, b] : Array UInt8) = [a, b].toArray from rfl, ByteArray.toList_mk]])
    have hj : (i : Int) + 2 ≤ (s.size : Int) := by omega
    cases c2 : twoS.contains [a, b]
    · have FIN := fin (fun b' r2 e => by rw [hd2] at e; cases e; exact c2)
      rw [c2] at E2
      clear fin hd hd2 hx1 hx2 ha hb
      cases c1 : decide (0 < idxOf ⟨oneS.toArray⟩ ⟨#[a]⟩)
      · have E := Lib.hid (FIN.out.trans (by rw [c1]; try rfl))
        go_enter Tryz.func130, Tryz.ntmps130
        go_wp2_with fail
        refine (has01_any _ _ 14 (fun j => twoS.getD j []) ⟨#[a, b]⟩ _ (by decide) (HT.out _ _)).mono ?_
        rintro e w' ⟨rfl, rfl⟩
        rw [E2.out]
        go_wp2_with fail
        refine (C1.out _).mono ?_
        rintro e w' ⟨rfl, rfl⟩
        go_wp2_with fail
        go_ret
        exact ⟨ret_str (by rw [E.out]; try rfl), HB.out _⟩
      · have E := Lib.hid (FIN.out.trans (by rw [c1]; try rfl))
        go_enter Tryz.func130, Tryz.ntmps130
        go_wp2_with fail
        refine (has01_any _ _ 14 (fun j => twoS.getD j []) ⟨#[a, b]⟩ _ (by decide) (HT.out _ _)).mono ?_
        rintro e w' ⟨rfl, rfl⟩
        rw [E2.out]
        go_wp2_with fail
        refine (C1.out _).mono ?_
        rintro e w' ⟨rfl, rfl⟩
        go_wp2_with fail
        go_ret
        exact ⟨ret_str (by rw [E.out]; try rfl), HB.out _⟩
    · have E : Hid (sgn (s.data.toList.drop i) = [a, b]) := Lib.hid (by rw [hd, hd2, sgn_two c2])
      rw [c2] at E2
      clear fin hd hd2 hx1 hx2 ha hb
      go_enter Tryz.func130, Tryz.ntmps130
      go_wp2_with fail
      refine (has01_any _ _ 14 (fun j => twoS.getD j []) ⟨#[a, b]⟩ _ (by decide) (HT.out _ _)).mono ?_
      rintro e w' ⟨rfl, rfl⟩
      rw [E2.out]
      go_wp2_with fail
      go_ret
      exact ⟨ret_str (by rw [E.out]; try rfl), HB.out _⟩
  · have hj : ¬ (i : Int) + 2 ≤ (s.size : Int) := by omega
    have FIN := fin (fun b' r2 e => by
      have := congrArg List.length e
      simp at this; try omega)
    clear fin hd hx1 ha
    cases c1 : decide (0 < idxOf ⟨oneS.toArray⟩ ⟨#[a]⟩)
    · have E := Lib.hid (FIN.out.trans (by rw [c1]; try rfl))
      go_enter Tryz.func130, Tryz.ntmps130
      go_wp2_with fail
      refine (C1.out _).mono ?_
      rintro e w' ⟨rfl, rfl⟩
      go_wp2_with fail
      go_ret
      first | exact ⟨ret_str (by rw [E.out]; try rfl), HB.out _⟩ | exact ⟨ret_str (by rw [E.out]; try rfl), Below.refl _ _⟩
    · have E := Lib.hid (FIN.out.trans (by rw [c1]; try rfl))
      go_enter Tryz.func130, Tryz.ntmps130
      go_wp2_with fail
      refine (C1.out _).mono ?_
      rintro e w' ⟨rfl, rfl⟩
      go_wp2_with fail
      go_ret
      first | exact ⟨ret_str (by rw [E.out]; try rfl), HB.out _⟩ | exact ⟨ret_str (by rw [E.out]; try rfl), Below.refl _ _⟩
end Go.Proofs.YtebeoijoljlhiaaGreatDoor.kit
/-
  Plain facts on the word that begins at a place of a text, of no program: over what is left of the text it is the same. Conditions: each theorem names its own.
-/
namespace Go.Proofs.YtebeoijoljlhiaaGreatDoor.kit
open Go.ChangeShapes Go.WideShapes Go.ChangeAt Go.RowKit
set_option linter.unusedVariables false

/-- The word that begins at place i with byte c, and the place behind it. -/
noncomputable def wdc (s : ByteArray) (i : Nat) (c : UInt8) (div : Bool) : Option (Tok × Nat) :=
  if c = 59 ∨ c = 10 then some (⟨6, ⟨#[]⟩, 0, 0⟩, i + 1)
  else if letB c.toNat = true then
    (if keyB (s.extract i (runEnd signB s i)).toList = true then some (⟨4, s.extract i (runEnd signB s i), 0, 0⟩, runEnd signB s i)
     else if nameB (s.extract i (runEnd signB s i)) = true then some (⟨3, s.extract i (runEnd signB s i), 0, 0⟩, runEnd signB s i) else none)
  else if digB c.toNat = true then
    (if rnPlace (s.extract i (numEnd s i)) = 0 then none else some (⟨0, ⟨#[]⟩, rnNum (s.extract i (numEnd s i)), 0⟩, numEnd s i))
  else if c = 34 then (unq s i).map fun x => (⟨1, ⟨x.1.toArray⟩, 0, 0⟩, x.2)
  else if c = 47 ∧ div = false then (stroke s (i + 1) (i + 1)).map fun k => (⟨2, s.extract (i + 1) k, 0, 0⟩, k + 1)
  else if sgn (s.data.toList.drop i) = [] then none else some (⟨5, ⟨(sgn (s.data.toList.drop i)).toArray⟩, 0, 0⟩, i + (sgn (s.data.toList.drop i)).length)
noncomputable def wd (s : ByteArray) (i : Nat) (div : Bool) : Option (Tok × Nat) := if h : i < s.size then wdc s i s[i] div else none
theorem wd_in {s : ByteArray} {i : Nat} {div : Bool} (h : i < s.size) : wd s i div = wdc s i s[i] div := dif_pos h
theorem wdc_end {s : ByteArray} {i : Nat} {c : UInt8} {div : Bool} (h : c = 59 ∨ c = 10) : wdc s i c div = some (⟨6, ⟨#[]⟩, 0, 0⟩, i + 1) := if_pos h
theorem wdc_name {s : ByteArray} {i : Nat} {c : UInt8} {div : Bool} (h : ¬ (c = 59 ∨ c = 10)) (h1 : letB c.toNat = true) : wdc s i c div = (if keyB (s.extract i (runEnd signB s i)).toList = true then some (⟨4, s.extract i (runEnd signB s i), 0, 0⟩, runEnd signB s i)
     else if nameB (s.extract i (runEnd signB s i)) = true then some (⟨3, s.extract i (runEnd signB s i), 0, 0⟩, runEnd signB s i) else none) := by rw [wdc, if_neg h, if_pos h1]
theorem wdc_num {s : ByteArray} {i : Nat} {c : UInt8} {div : Bool} (h : ¬ (c = 59 ∨ c = 10)) (h1 : letB c.toNat = false) (h2 : digB c.toNat = true) : wdc s i c div =
    (if rnPlace (s.extract i (numEnd s i)) = 0 then none else some (⟨0, ⟨#[]⟩, rnNum (s.extract i (numEnd s i)), 0⟩, numEnd s i)) := by rw [wdc, if_neg h, if_neg (by rw [h1]; decide), if_pos h2]
theorem wdc_str {s : ByteArray} {i : Nat} {c : UInt8} {div : Bool} (h : ¬ (c = 59 ∨ c = 10)) (h1 : letB c.toNat = false) (h2 : digB c.toNat = false) (h3 : c = 34) : wdc s i c div = (unq s i).map fun x => (⟨1, ⟨x.1.toArray⟩, 0, 0⟩, x.2) := by
  rw [wdc, if_neg h, if_neg (by rw [h1]; decide), if_neg (by rw [h2]; decide), if_pos h3]
theorem wdc_re {s : ByteArray} {i : Nat} {c : UInt8} {div : Bool} (h : ¬ (c = 59 ∨ c = 10)) (h1 : letB c.toNat = false) (h2 : digB c.toNat = false) (h3 : c ≠ 34) (h4 : c = 47 ∧ div = false) : wdc s i c div = (stroke s (i + 1) (i + 1)).map fun k => (⟨2, s.extract (i + 1) k, 0, 0⟩, k + 1) := by
  rw [wdc, if_neg h, if_neg (by rw [h1]; decide), if_neg (by rw [h2]; decide), if_neg h3, if_pos h4]
theorem wdc_sign {s : ByteArray} {i : Nat} {c : UInt8} {div : Bool} (h : ¬ (c = 59 ∨ c = 10)) (h1 : letB c.toNat = false) (h2 : digB c.toNat = false) (h3 : c ≠ 34) (h4 : ¬ (c = 47 ∧ div = false)) :
    wdc s i c div = if sgn (s.data.toList.drop i) = [] then none else some (⟨5, ⟨(sgn (s.data.toList.drop i)).toArray⟩, 0, 0⟩, i + (sgn (s.data.toList.drop i)).length) := by
  rw [wdc, if_neg h, if_neg (by rw [h1]; decide), if_neg (by rw [h2]; decide), if_neg h3, if_neg h4]
theorem wdc_suf (s : ByteArray) (i : Nat) (c : UInt8) (div : Bool) (hi : i < s.size) : (wdc (sufB s i) 0 c div).map (fun x => (x.1, i + x.2)) = wdc s i c div := by
  have hle : i ≤ s.size := by omega
  have e1 := runEnd_suf signB s i 0 (by omega)
  rw [Nat.add_zero] at e1
  have l1 := runEnd_le signB s i hle
  have x1 : (sufB s i).extract 0 (runEnd signB (sufB s i) 0) = s.extract i (runEnd signB s i) := by rw [suf_extract _ _ _ _ (by omega), e1]; rfl
  have e2 := numEnd_suf s i hle
  have l2 := numEnd_le s i hle
  have x2 : (sufB s i).extract 0 (numEnd (sufB s i) 0) = s.extract i (numEnd s i) := by rw [suf_extract _ _ _ _ (by omega), e2]; rfl
  have e3 := unq_suf s i hi
  have e4 := stroke_suf s i 1 _ 1 rfl hle (Nat.le_refl _)
  have e5 := suf_drop s i 0
  rw [Nat.add_zero] at e5
  unfold wdc
  rw [x1, x2, e5, Nat.zero_add]
  by_cases c1 : c = 59 ∨ c = 10
  · rw [if_pos c1, if_pos c1]; rfl
  · rw [if_neg c1, if_neg c1]
    by_cases c2 : letB c.toNat = true
    · rw [if_pos c2, if_pos c2]
      by_cases d1 : keyB (s.extract i (runEnd signB s i)).toList = true
      · rw [if_pos d1, if_pos d1]; simp [e1]
      · rw [if_neg d1, if_neg d1]
        by_cases d2 : nameB (s.extract i (runEnd signB s i)) = true
        · rw [if_pos d2, if_pos d2]; simp [e1]
        · rw [if_neg d2, if_neg d2]; rfl
    · rw [if_neg c2, if_neg c2]
      by_cases c3 : digB c.toNat = true
      · rw [if_pos c3, if_pos c3]
        by_cases d1 : rnPlace (s.extract i (numEnd s i)) = 0
        · rw [if_pos d1, if_pos d1]; rfl
        · rw [if_neg d1, if_neg d1]; simp [e2]
      · rw [if_neg c3, if_neg c3]
        by_cases c4 : c = 34
        · rw [if_pos c4, if_pos c4, ← e3]
          show Option.map _ (Option.map _ (unq (sufB s i) ((0 : Nat) : Int))) = _
          cases unq (sufB s i) 0 <;> rfl
        · rw [if_neg c4, if_neg c4]
          by_cases c5 : c = 47 ∧ div = false
          · rw [if_pos c5, if_pos c5, ← e4]
            cases hk : stroke (sufB s i) 1 1 with
            | none => rfl
            | some k =>
              have hb := stroke_le (sufB s i) 1 _ 1 rfl k hk
              have hz := suf_size hle
              simp only [Option.map_some]
              rw [suf_extract _ _ _ _ (by omega)]
              rfl
          · rw [if_neg c5, if_neg c5]
            by_cases c6 : sgn (s.data.toList.drop i) = []
            · rw [if_pos c6, if_pos c6]; rfl
            · rw [if_neg c6, if_neg c6]; simp
theorem wd_suf (s : ByteArray) (i : Nat) (div : Bool) (hi : i < s.size) : (wd (sufB s i) 0 div).map (fun x => (x.1, i + x.2)) = wd s i div := by
  have hz := suf_size (s := s) (i := i) (by omega)
  rw [wd_in hi, wd_in (by omega), suf_get s i 0 (by omega) (by omega)]
  exact wdc_suf s i _ div hi
theorem wd_bounds {s : ByteArray} {i k : Nat} {div : Bool} {t : Tok} (hi : i < s.size) (h : wd s i div = some (t, k)) : i < k ∧ k ≤ s.size := by
  rw [wd_in hi] at h
  have hle : i ≤ s.size := by omega
  have l1 := runEnd_le signB s i hle
  have l2 := numEnd_le s i hle
  unfold wdc at h
  by_cases c1 : s[i] = 59 ∨ s[i] = 10
  · rw [if_pos c1] at h; cases h; omega
  · rw [if_neg c1] at h
    by_cases c2 : letB s[i].toNat = true
    · rw [if_pos c2] at h
      have hg : i < runEnd signB s i := runEnd_gt hi (by simp [signB, c2])
      by_cases d1 : keyB (s.extract i (runEnd signB s i)).toList = true
      · rw [if_pos d1] at h; cases h; omega
      · rw [if_neg d1] at h
        by_cases d2 : nameB (s.extract i (runEnd signB s i)) = true
        · rw [if_pos d2] at h; cases h; omega
        · rw [if_neg d2] at h; cases h
    · rw [if_neg c2] at h
      by_cases c3 : digB s[i].toNat = true
      · rw [if_pos c3] at h
        have hg : i < runEnd digB s i := runEnd_gt hi c3
        by_cases d1 : rnPlace (s.extract i (numEnd s i)) = 0
        · rw [if_pos d1] at h; cases h
        · rw [if_neg d1] at h; cases h; omega
      · rw [if_neg c3] at h
        by_cases c4 : s[i] = 34
        · rw [if_pos c4] at h
          cases hu : unq s (i : Int) with
          | none => rw [hu] at h; cases h
          | some x =>
            rw [hu] at h
            cases h
            exact unq_bounds hu
        · rw [if_neg c4] at h
          by_cases c5 : s[i] = 47 ∧ div = false
          · rw [if_pos c5] at h
            cases hk : stroke s (i + 1) (i + 1) with
            | none => rw [hk] at h; cases h
            | some k =>
              rw [hk] at h
              cases h
              have := stroke_le s (i + 1) _ (i + 1) rfl k hk
              omega
          · rw [if_neg c5] at h
            by_cases c6 : sgn (s.data.toList.drop i) = []
            · rw [if_pos c6] at h; cases h
            · rw [if_neg c6] at h
              cases h
              have h1 := sgn_len (s.data.toList.drop i)
              have h2 : (sgn (s.data.toList.drop i)).length ≠ 0 := fun e => c6 (List.length_eq_zero_iff.1 e)
              simp at h1; omega
/-- What a reader of one word answers: z where there is none. -/
def WPost (z : Int) (o : Option (Tok × Nat)) (w : World) (e : Ending) (w' : World) : Prop :=
  ∃ (t : Tok) (n : Int), e = .returned (.tuple #[t.v, .int .i64 n]) ∧ (o = none ∧ n = z ∨ ∃ x, o = some x ∧ t = x.1 ∧ n = (x.2 : Int)) ∧ Below w.heap.size w w'
end Go.Proofs.YtebeoijoljlhiaaGreatDoor.kit
