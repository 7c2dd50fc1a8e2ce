/-
  Proves FnTextsSaid: for every code, what is drawn of it makes the law true: what is cut is put together again, a word has no blanks, what is found is there and nowhere ahead; the law returns true and leaves its argument as it was. Conditions: none beyond the row's own.
-/
import Derived.Test.YtalobgebdpaecaaTd0
import Derived.Test.YtalobgebdpaecaaTf0
import Derived.Test.YtalobgebdpaecaaColl
import Derived.Test.YtalobgebdpaecaaWrdI
import Derived.Test.YtalobgebdpaecaaSub0
import Derived.HandedShaped
namespace Go.Proofs.Ytalobgebdpaecaa.fnTexts
open Go.ChangeShapes Go.WideShapes Go.ChangeAt Go.RowKit
open Go.ChangeMaps (open_string shut_string)
open Go.Proofs.Ytalobgebdpaecaa.kit
set_option linter.unusedVariables false

theorem wf64 {x : Int} (h : I64 x) : (Lit.int .i64 x).wf = true := by
  unfold I64 at h; simp [Lit.wf, IntKind.min, IntKind.max, IntKind.signed, IntKind.bits]; omega
theorem arr_app (A B : List UInt8) : (⟨A.toArray⟩ : ByteArray) ++ ⟨B.toArray⟩ = ⟨(A ++ B).toArray⟩ := by
  apply ByteArray.ext; simp
theorem take_snoc (xs : List (List UInt8)) (k : Nat) (h : k < xs.length) : xs.take (k + 1) = xs.take k ++ [xs.getD k []] := by
  rw [List.take_add_one, List.getD_eq_getElem?_getD, List.getElem?_eq_getElem h]; rfl
theorem al_take_le (xs : List (List UInt8)) (k : Nat) : (al (xs.take k)).length ≤ (al xs).length := by
  have h : al (xs.take k ++ xs.drop k) = al (xs.take k) ++ al (xs.drop k) := by simp only [al, List.flatMap_append]
  rw [List.take_append_drop] at h
  rw [h]; simp
theorem jn_take_le (sep : List UInt8) (xs : List (List UInt8)) (k : Nat) : (jn sep (xs.take k)).length ≤ (jn sep xs).length := by
  cases xs with
  | nil => simp [jn]
  | cons x r =>
    cases k with
    | zero => simp [jn]
    | succ k =>
      have h : (r.take k ++ r.drop k).flatMap (fun y => sep ++ y) = (r.take k).flatMap (fun y => sep ++ y) ++ (r.drop k).flatMap (fun y => sep ++ y) := List.flatMap_append
      rw [List.take_append_drop] at h
      show (x ++ (r.take k).flatMap (fun y => sep ++ y)).length ≤ (x ++ r.flatMap (fun y => sep ++ y)).length
      rw [h]; simp
theorem pr_le (p : UInt8 → Bool) (l : List UInt8) : ∀ x ∈ pr p l, x.length ≤ l.length := by
  induction l with
  | nil => intro x hx; simp [pr] at hx; subst hx; simp
  | cons d r ih =>
    intro x hx
    simp only [pr] at hx
    cases hd : p d
    · rw [hd] at hx
      simp only [Bool.false_eq_true, if_false] at hx
      cases hp : pr p r with
      | nil => exact absurd hp (pr_ne p r)
      | cons y ys =>
        rw [hp] at hx ih
        simp only [glue, List.mem_cons] at hx
        rcases hx with rfl | hx
        · have := ih y (by simp); simp; omega
        · have := ih x (by simp [hx]); simp; omega
    · rw [hd] at hx
      simp only [if_true, List.mem_cons] at hx
      rcases hx with rfl | hx
      · simp
      · have := ih x hx; simp; omega
theorem words_le (l x : List UInt8) (h : x ∈ wordsOf l) : x.length ≤ l.length := by
  simp only [wordsOf, keepNe, List.mem_filter] at h
  exact pr_le blankB l x h.1
theorem shaped_on {w w' : World} (h : w.ShapedOpen Try.prog) (hb : Below w.heap.size w w') : w'.ShapedOpen Try.prog := h.keptBut (hb.frame (fun _ => False)) (fun _ h => h.elim)
theorem big_no (a : Option Addr) (n cap : Nat) (w : World) (h : n ≤ 1048576) :
    Calls Try.prog 7 #[.slice a n cap] w fun e w' => e = .returned (.bool false) ∧ w = w' := by
  have d1 : decide (1048576 < n) = false := by simp; omega
  have d2 : decide ((1048576 : Int) < (n : Int)) = false := by simp; omega
  go_enter Try.func7, Try.ntmps7
  go_wp2
  go_ret
  exact ⟨rfl, rfl⟩
theorem big_yes (a : Option Addr) (n cap : Nat) (w : World) (h : 1048576 < n) :
    Calls Try.prog 7 #[.slice a n cap] w fun e w' => e = .returned (.bool true) ∧ w = w' := by
  have d1 : decide (1048576 < n) = true := by simp; omega
  have d2 : decide ((1048576 : Int) < (n : Int)) = true := by simp; omega
  go_enter Try.func7, Try.ntmps7
  go_wp2
  go_ret
  exact ⟨rfl, rfl⟩
set_option maxRecDepth 100000 in
set_option maxHeartbeats 20000000 in
theorem walk1 (a : Option Addr) (n cap : Nat) (w : World) (hn : n ≤ 1048576) (hc : Code8 w a n) (hsh : w.ShapedOpen Try.prog) :
    Calls Try.prog 3 #[.slice a n cap] w fun e w' => e = .returned (.bool true) ∧ Below w.heap.size w w' := by
  have HC := Lib.hid hc
  have HS := Lib.hid hsh
  have BL : Hid (Below w.heap.size w w) := Lib.hid (Below.refl _ _)
  clear hc hsh
  go_enter Try.func3, Try.ntmps3
  go_wp2_with fail
  refine (big_no a n cap _ hn).mono ?_
  rintro e w0 ⟨rfl, rfl⟩
  go_wp2_with fail
  refine (drawLines_any a n cap _ hn (HC.out.kept BL.out)).mono ?_
  rintro e q1 ⟨l, hl, rfl, hb⟩
  have BL2 := Lib.hid (BL.out.trans (hb.mono BL.out.size))
  clear BL hb 
  have BL := BL2
  clear BL2 
  obtain ⟨xs1, hx1⟩ : ∃ xs1, xs1 = trimLast (parts (isB 10) l.data.toList) := ⟨_, rfl⟩
  have CL := Lib.hid (fun W => implLines_any l W (by omega)); have CL2 := Lib.hid (fun W => specLines_any l W (by omega))
  rw [← hx1] at CL CL2
  have len1 : xs1.length ≤ 100 := by rw [hx1]; have h1 := trimLast_len (parts (isB 10) l.data.toList); have h2 := parts_len (isB 10) l.data.toList; have h3 : l.data.toList.length = l.size := (by simp); omega
  have AL := Lib.hid (lines_all l.data.toList); rw [← hx1] at AL; clear hx1
  go_wp2_with fail
  refine (CL.out _).mono ?_
  rintro e q2 ⟨v, rfl, ov, hb⟩
  obtain ⟨a1, c1, rfl, sv⟩ := ov.slF
  have BL2 := Lib.hid (BL.out.trans (hb.mono BL.out.size))
  clear BL hb 
  have BL := BL2
  clear BL2 
  have S1 := Lib.hid sv
  clear sv ov
  go_wp2_with fail
  refine (drawWords_any a n cap _ hn (HC.out.kept BL.out)).mono ?_
  rintro e q3 ⟨wd, hwd, rfl, hb⟩
  have BL2 := Lib.hid (BL.out.trans (hb.mono BL.out.size))
  have S1_ := Lib.hid (S1.out.kept hb)
  clear BL hb S1
  have BL := BL2
  have S1 := S1_
  clear BL2 S1_
  obtain ⟨xs2, hx2⟩ : ∃ xs2, xs2 = wordsOf wd.data.toList := ⟨_, rfl⟩
  have CW := Lib.hid (fun W => implWords_any wd W (by omega)); have CW2 := Lib.hid (fun W => specWords_any wd W (by omega))
  rw [← hx2] at CW CW2
  have len2 : xs2.length ≤ 100 := by rw [hx2]; have h1 := wordsOf_len wd.data.toList; have h3 : wd.data.toList.length = wd.size := (by simp); omega
  have AW : Hid (∀ k, k < xs2.length → xs2.getD k [] ≠ [] ∧ (∀ c ∈ xs2.getD k [], c ≠ 32) ∧ (xs2.getD k []).length ≤ 20) := Lib.hid (fun k hk => by
    rw [List.getD_eq_getElem?_getD, List.getElem?_eq_getElem hk]
    have hm := words_mem wd.data.toList (xs2[k]) (by rw [← hx2]; exact List.getElem_mem hk)
    have hl := words_le wd.data.toList (xs2[k]) (by rw [← hx2]; exact List.getElem_mem hk)
    have h3 : wd.data.toList.length = wd.size := (by simp)
    exact ⟨hm.1, hm.2, Nat.le_trans hl (by omega)⟩)
  clear hx2
  go_wp2_with fail
  refine (CW.out _).mono ?_
  rintro e q4 ⟨v, rfl, ov, hb⟩
  obtain ⟨a2, c2, rfl, sv⟩ := ov.slF
  have BL2 := Lib.hid (BL.out.trans (hb.mono BL.out.size))
  have S1_ := Lib.hid (S1.out.kept hb)
  clear BL hb S1
  have BL := BL2
  have S1 := S1_
  clear BL2 S1_
  have S2 := Lib.hid sv
  clear sv ov
  go_wp2_with fail
  refine (drawCut_any a n cap _ hn (HC.out.kept BL.out)).mono ?_
  rintro e q5 ⟨s, b, hs, rfl, hb⟩
  have BL2 := Lib.hid (BL.out.trans (hb.mono BL.out.size))
  have S1_ := Lib.hid (S1.out.kept hb)
  have S2_ := Lib.hid (S2.out.kept hb)
  clear BL hb S1 S2
  have BL := BL2
  have S1 := S1_
  have S2 := S2_
  clear BL2 S1_ S2_
  obtain ⟨xs3, hx3⟩ : ∃ xs3, xs3 = parts (isB b) s.data.toList := ⟨_, rfl⟩
  have CC := Lib.hid (fun W => implCut_any s b W (by omega)); have CC2 := Lib.hid (fun W => specCut_any s b W (by omega))
  rw [← hx3] at CC CC2
  have len3 : xs3.length ≤ 100 := by rw [hx3]; have h2 := parts_len (isB b) s.data.toList; have h3 : s.data.toList.length = s.size := (by simp); omega
  have AC := Lib.hid (jn_parts b s.data.toList); rw [← hx3] at AC; clear hx3
  go_wp2_with fail
  refine (CC.out _).mono ?_
  rintro e q6 ⟨v, rfl, ov, hb⟩
  obtain ⟨a3, c3, rfl, sv⟩ := ov.slF
  have BL2 := Lib.hid (BL.out.trans (hb.mono BL.out.size))
  have S1_ := Lib.hid (S1.out.kept hb)
  have S2_ := Lib.hid (S2.out.kept hb)
  clear BL hb S1 S2
  have BL := BL2
  have S1 := S1_
  have S2 := S2_
  clear BL2 S1_ S2_
  have S3 := Lib.hid sv
  clear sv ov
  go_wp2_with fail
  refine (drawIndexOf_any a n cap _ hn (HC.out.kept BL.out)).mono ?_
  rintro e q7 ⟨x, y, hx, hy, rfl, hb⟩
  have BL2 := Lib.hid (BL.out.trans (hb.mono BL.out.size))
  have S1_ := Lib.hid (S1.out.kept hb)
  have S2_ := Lib.hid (S2.out.kept hb)
  have S3_ := Lib.hid (S3.out.kept hb)
  clear BL hb S1 S2 S3
  have BL := BL2
  have S1 := S1_
  have S2 := S2_
  have S3 := S3_
  clear BL2 S1_ S2_ S3_
  have IF := Lib.hid (idx_found x y); have CI2 := Lib.hid (fun W => specIdx_any x y W (by omega) (by omega)); have CI := Lib.hid (fun W (h : W.ShapedOpen Try.prog) => implIdx_any x y W h (by omega))
  have nb : idxOf x y ≤ 100 ∧ -1 ≤ idxOf x y := by
    unfold idxOf; split
    · omega
    · have h1 := Lib.index_ge x.data.toList y.data.toList; have h2 := Lib.index_le x.data.toList y.data.toList; have h3 : x.data.toList.length = x.size := (by simp); omega
  generalize hnn : idxOf x y = nn at *
  go_wp2_with fail
  refine (CI.out _ (shaped_on HS.out BL.out)).mono ?_
  rintro e q8 ⟨rfl, rfl⟩
  go_wp2_with fail
  refine (drawSubstr_any a n cap _ hn (HC.out.kept BL.out)).mono ?_
  rintro e q9 ⟨t, f, m, ht, hf, hm, rfl, hb⟩
  have BL2 := Lib.hid (BL.out.trans (hb.mono BL.out.size))
  have S1_ := Lib.hid (S1.out.kept hb)
  have S2_ := Lib.hid (S2.out.kept hb)
  have S3_ := Lib.hid (S3.out.kept hb)
  clear BL hb S1 S2 S3
  have BL := BL2
  have S1 := S1_
  have S2 := S2_
  have S3 := S3_
  clear BL2 S1_ S2_ S3_
  obtain ⟨A, hA⟩ : ∃ A : Nat, A = (f - 1).toNat := ⟨_, rfl⟩
  obtain ⟨H, hH⟩ : ∃ H : Nat, H = (f + m - 1).toNat := ⟨_, rfl⟩
  have CS := Lib.hid (fun W => implSub_any t f m W (by omega) (wf64 hf) (wf64 hm) A H (Lib.hid hA) (Lib.hid hH)); have CS2 := Lib.hid (fun W => specSub_any t f m W (by omega) (wf64 hf) (wf64 hm) A H (Lib.hid hA) (Lib.hid hH))
  have UN := Lib.hid (idx_sub t A H)
  have ul : ((t.data.toList.take H).drop A).length ≤ t.size := by simp; omega
  clear hA hH hf hm
  generalize hu : (t.data.toList.take H).drop A = u at *
  clear hu
  go_wp2_with fail
  refine (CS.out _).mono ?_
  rintro e q10 ⟨rfl, rfl⟩
  go_wp2_with fail
  refine (drawLower_any a n cap _ hn (HC.out.kept BL.out)).mono ?_
  rintro e q11 ⟨aa, haa, rfl, hb⟩
  have BL2 := Lib.hid (BL.out.trans (hb.mono BL.out.size))
  have S1_ := Lib.hid (S1.out.kept hb)
  have S2_ := Lib.hid (S2.out.kept hb)
  have S3_ := Lib.hid (S3.out.kept hb)
  clear BL hb S1 S2 S3
  have BL := BL2
  have S1 := S1_
  have S2 := S2_
  have S3 := S3_
  clear BL2 S1_ S2_ S3_
  go_wp2_with fail
  refine (drawUpper_any a n cap _ hn (HC.out.kept BL.out)).mono ?_
  rintro e q12 ⟨cc, hcc, rfl, hb⟩
  have BL2 := Lib.hid (BL.out.trans (hb.mono BL.out.size))
  have S1_ := Lib.hid (S1.out.kept hb)
  have S2_ := Lib.hid (S2.out.kept hb)
  have S3_ := Lib.hid (S3.out.kept hb)
  clear BL hb S1 S2 S3
  have BL := BL2
  have S1 := S1_
  have S2 := S2_
  have S3 := S3_
  clear BL2 S1_ S2_ S3_
  have L1 := Lib.hid (fun W => implLower_any aa W (by unfold maxLen; omega)); have L2 := Lib.hid (fun W => specLower_any aa W (by unfold maxLen; omega)); have U1 := Lib.hid (fun W => implUpper_any cc W (by unfold maxLen; omega)); have U2 := Lib.hid (fun W => specUpper_any cc W (by unfold maxLen; omega))
  have UA := Lib.hid (fun W => implUpper_any aa W (by unfold maxLen; omega))
  have LU := Lib.hid (fun W => implLower_any ⟨(aa.data.toList.map (shiftB 97 122 (-32))).toArray⟩ W (by show (List.map _ aa.data.toList).toArray.size ≤ maxLen; rw [List.size_toArray, List.length_map, Array.length_toList]; unfold maxLen; exact Nat.le_trans (show aa.data.size ≤ 100 from haa) (by decide)))
  simp only [low_up] at LU
  have hcl : (cc.data.toList.map (shiftB 97 122 (-32))).length = cc.size := by simp
  generalize aa.data.toList.map (shiftB 65 90 32) = la at *
  generalize cc.data.toList.map (shiftB 97 122 (-32)) = uc at *
  generalize aa.data.toList.map (shiftB 97 122 (-32)) = ua at *
  go_wp2_with fail
  refine (CL2.out _).mono ?_
  rintro e q13 ⟨v, rfl, ov, hb⟩
  obtain ⟨a9, c9, rfl, sv⟩ := ov.slF
  have SV := Lib.hid sv
  have BL2 := Lib.hid (BL.out.trans (hb.mono BL.out.size))
  have S1_ := Lib.hid (S1.out.kept hb)
  have S2_ := Lib.hid (S2.out.kept hb)
  have S3_ := Lib.hid (S3.out.kept hb)
  clear BL hb S1 S2 S3
  have BL := BL2
  have S1 := S1_
  have S2 := S2_
  have S3 := S3_
  clear BL2 S1_ S2_ S3_
  clear sv ov
  go_wp2_with fail
  refine (same_any _ _ a1 a9 c1 c9 xs1.length _ _ (by omega) S1.out SV.out).mono ?_
  rintro e q14 ⟨rfl, hb⟩
  clear SV
  have BL2 := Lib.hid (BL.out.trans (hb.mono BL.out.size))
  have S1_ := Lib.hid (S1.out.kept hb)
  have S2_ := Lib.hid (S2.out.kept hb)
  have S3_ := Lib.hid (S3.out.kept hb)
  clear BL hb S1 S2 S3
  have BL := BL2
  have S1 := S1_
  have S2 := S2_
  have S3 := S3_
  clear BL2 S1_ S2_ S3_
  go_wp2_with fail
  refine (CW2.out _).mono ?_
  rintro e q15 ⟨v, rfl, ov, hb⟩
  obtain ⟨a9, c9, rfl, sv⟩ := ov.slF
  have SV := Lib.hid sv
  have BL2 := Lib.hid (BL.out.trans (hb.mono BL.out.size))
  have S1_ := Lib.hid (S1.out.kept hb)
  have S2_ := Lib.hid (S2.out.kept hb)
  have S3_ := Lib.hid (S3.out.kept hb)
  clear BL hb S1 S2 S3
  have BL := BL2
  have S1 := S1_
  have S2 := S2_
  have S3 := S3_
  clear BL2 S1_ S2_ S3_
  clear sv ov
  go_wp2_with fail
  refine (same_any _ _ a2 a9 c2 c9 xs2.length _ _ (by omega) S2.out SV.out).mono ?_
  rintro e q16 ⟨rfl, hb⟩
  clear SV
  have BL2 := Lib.hid (BL.out.trans (hb.mono BL.out.size))
  have S1_ := Lib.hid (S1.out.kept hb)
  have S2_ := Lib.hid (S2.out.kept hb)
  have S3_ := Lib.hid (S3.out.kept hb)
  clear BL hb S1 S2 S3
  have BL := BL2
  have S1 := S1_
  have S2 := S2_
  have S3 := S3_
  clear BL2 S1_ S2_ S3_
  go_wp2_with fail
  refine (CC2.out _).mono ?_
  rintro e q17 ⟨v, rfl, ov, hb⟩
  obtain ⟨a9, c9, rfl, sv⟩ := ov.slF
  have SV := Lib.hid sv
  have BL2 := Lib.hid (BL.out.trans (hb.mono BL.out.size))
  have S1_ := Lib.hid (S1.out.kept hb)
  have S2_ := Lib.hid (S2.out.kept hb)
  have S3_ := Lib.hid (S3.out.kept hb)
  clear BL hb S1 S2 S3
  have BL := BL2
  have S1 := S1_
  have S2 := S2_
  have S3 := S3_
  clear BL2 S1_ S2_ S3_
  clear sv ov
  go_wp2_with fail
  refine (same_any _ _ a3 a9 c3 c9 xs3.length _ _ (by omega) S3.out SV.out).mono ?_
  rintro e q18 ⟨rfl, hb⟩
  clear SV
  have BL2 := Lib.hid (BL.out.trans (hb.mono BL.out.size))
  have S1_ := Lib.hid (S1.out.kept hb)
  have S2_ := Lib.hid (S2.out.kept hb)
  have S3_ := Lib.hid (S3.out.kept hb)
  clear BL hb S1 S2 S3
  have BL := BL2
  have S1 := S1_
  have S2 := S2_
  have S3 := S3_
  clear BL2 S1_ S2_ S3_
  go_wp2_with fail
  refine (CI2.out _).mono ?_
  rintro e q19 ⟨rfl, rfl⟩
  go_wp2_with fail
  refine (CS2.out _).mono ?_
  rintro e q20 ⟨rfl, hb⟩
  have BL2 := Lib.hid (BL.out.trans (hb.mono BL.out.size))
  have S1_ := Lib.hid (S1.out.kept hb)
  have S2_ := Lib.hid (S2.out.kept hb)
  have S3_ := Lib.hid (S3.out.kept hb)
  clear BL hb S1 S2 S3
  have BL := BL2
  have S1 := S1_
  have S2 := S2_
  have S3 := S3_
  clear BL2 S1_ S2_ S3_
  go_wp2_with fail
  refine (L1.out _).mono ?_
  rintro e q21 ⟨rfl, hb⟩
  have BL2 := Lib.hid (BL.out.trans (hb.mono BL.out.size))
  have S1_ := Lib.hid (S1.out.kept hb)
  have S2_ := Lib.hid (S2.out.kept hb)
  have S3_ := Lib.hid (S3.out.kept hb)
  clear BL hb S1 S2 S3
  have BL := BL2
  have S1 := S1_
  have S2 := S2_
  have S3 := S3_
  clear BL2 S1_ S2_ S3_
  go_wp2_with fail
  refine (L2.out _).mono ?_
  rintro e q22 ⟨rfl, hb⟩
  have BL2 := Lib.hid (BL.out.trans (hb.mono BL.out.size))
  have S1_ := Lib.hid (S1.out.kept hb)
  have S2_ := Lib.hid (S2.out.kept hb)
  have S3_ := Lib.hid (S3.out.kept hb)
  clear BL hb S1 S2 S3
  have BL := BL2
  have S1 := S1_
  have S2 := S2_
  have S3 := S3_
  clear BL2 S1_ S2_ S3_
  go_wp2_with fail
  refine (U1.out _).mono ?_
  rintro e q23 ⟨rfl, hb⟩
  have BL2 := Lib.hid (BL.out.trans (hb.mono BL.out.size))
  have S1_ := Lib.hid (S1.out.kept hb)
  have S2_ := Lib.hid (S2.out.kept hb)
  have S3_ := Lib.hid (S3.out.kept hb)
  clear BL hb S1 S2 S3
  have BL := BL2
  have S1 := S1_
  have S2 := S2_
  have S3 := S3_
  clear BL2 S1_ S2_ S3_
  go_wp2_with fail
  refine (U2.out _).mono ?_
  rintro e q24 ⟨rfl, hb⟩
  have BL2 := Lib.hid (BL.out.trans (hb.mono BL.out.size))
  have S1_ := Lib.hid (S1.out.kept hb)
  have S2_ := Lib.hid (S2.out.kept hb)
  have S3_ := Lib.hid (S3.out.kept hb)
  clear BL hb S1 S2 S3
  have BL := BL2
  have S1 := S1_
  have S2 := S2_
  have S3 := S3_
  clear BL2 S1_ S2_ S3_
  go_wp2_with fail
  have hal : (al xs1).length ≤ 100 := by
    have h3 : l.data.toList.length = l.size := (by simp)
    rcases AL.out with e | e
    · rw [e]; omega
    · rw [e, List.length_append, List.length_singleton]; omega
  go_loop [19, 20] (fun v i => ∃ k : Nat, k ≤ xs1.length ∧ i = .int .i64 (k : Int) ∧ v = .string ⟨(al (xs1.take k)).toArray⟩) (fun _ i => xs1.length - (intOf i).toNat)
  case atStart => exact ⟨0, Nat.zero_le _, rfl, rfl⟩
  case round =>
    obtain ⟨k, hk, rfl, rfl⟩ := hrel
    by_cases hlt : k < xs1.length
    · obtain ⟨g, rfl, hg1, hg2, hg3, hg4⟩ := S1.out k hlt
      have hb1 := al_take_le xs1 k
      have hb2 := al_take_le xs1 (k + 1)
      have hE := al_snoc (xs1.take k) (xs1.getD k [])
      rw [← take_snoc xs1 k hlt] at hE
      rw [hE, List.length_append, List.length_append, List.length_singleton] at hb2
      have HE := Lib.hid hE
      clear hE hg4
      unfold eS at hg3
      replace hg3 : _ = some (Value.string ⟨(xs1.getD k []).toArray⟩) := hg3
      generalize xs1.getD k [] = x1 at *
      generalize al (xs1.take k) = A1 at *
      have i0 : (0 : Int) ≤ (k : Int) := by omega
      have i1 : (k : Int) < (xs1.length : Int) := by omega
      go_wp2_with fail
      go_round
      case rel => exact ⟨k + 1, by omega, by go_num, by rw [HE.out]; exact congrArg Value.string (by apply ByteArray.ext; simp)⟩
      case measure => simp [intOf]; omega
    · obtain rfl : k = xs1.length := by omega
      rw [List.take_length]
      obtain ⟨LA, hLA⟩ : ∃ LA : ByteArray, LA = ⟨(al xs1).toArray⟩ := ⟨_, rfl⟩
      rw [← hLA]
      have LC : Hid (LA = l ∨ LA = l ++ ⟨#[10]⟩) := Lib.hid (by
        rcases AL.out with e | e
        · left; rw [hLA, e]
        · right; rw [hLA, e, ← arr_app])
      have hla : LA.size ≤ 100 := by rw [hLA]; simpa [ByteArray.size] using hal
      have nq : ((l ++ ⟨#[10]⟩ : ByteArray).toList == l.toList) = false := by
        rw [beq_eq_false_iff_ne]; intro e
        have := congrArg List.length e
        rw [ByteArray.toList_eq, ByteArray.toList_eq] at this
        simp at this
      clear hLA S1
      rcases LC.out with e | e
      all_goals
        subst e
        clear LC
        go_wp2_with fail
        go_loop [21] (fun i => ∃ k : Nat, k ≤ xs2.length ∧ i = .int .i64 (k : Int)) (fun i => xs2.length - (intOf i).toNat)
        case atStart => exact ⟨0, Nat.zero_le _, rfl⟩
        case round =>
          obtain ⟨k, hk, rfl⟩ := hrel
          by_cases hlt : k < xs2.length
          · obtain ⟨g, rfl, hg1, hg2, hg3, hg4⟩ := S2.out k hlt
            obtain ⟨w1, w2, w3⟩ := AW.out k hlt
            unfold eS at hg3
            replace hg3 : _ = some (Value.string ⟨(xs2.getD k []).toArray⟩) := hg3
            generalize xs2.getD k [] = x2 at *
            have hne : x2.isEmpty = false := by cases x2 with
              | nil => exact absurd rfl w1
              | cons _ _ => rfl
            have CX := Lib.hid (fun W (h : W.ShapedOpen Try.prog) => implIdx_any ⟨x2.toArray⟩ ⟨#[32]⟩ W h (by show x2.toArray.size ≤ _; rw [List.size_toArray]; omega))
            rw [idx_blank ⟨x2.toArray⟩ (by simpa using w2)] at CX
            clear w1 w2 hg4
            have i0 : (0 : Int) ≤ (k : Int) := by omega
            have i1 : (k : Int) < (xs2.length : Int) := by omega
            go_wp2_with fail
            refine (CX.out _ (shaped_on HS.out BL.out)).mono ?_
            rintro e w9 ⟨rfl, rfl⟩
            go_wp2_with fail
            go_round
            case rel => exact ⟨k + 1, by omega, by go_num⟩
            case measure => simp [intOf]; omega
          · clear S2
            go_wp2_with fail
            obtain ⟨wo, hwo⟩ : ∃ wo : World, wo = q24 := ⟨_, rfl⟩
            go_loopw [22, 23] (fun v i wr => ∃ k : Nat, k ≤ xs3.length ∧ i = .int .i64 (k : Int) ∧ v = .string ⟨(jn [b] (xs3.take k)).toArray⟩ ∧ Below q24.heap.size q24 wr) (fun _ i _ => xs3.length - (intOf i).toNat)
            case atStart => exact ⟨0, Nat.zero_le _, rfl, rfl, Below.refl _ _⟩
            case round =>
              obtain ⟨k3, hk3, rfl, rfl, hb3⟩ := hrel
              have HB3 := Lib.hid hb3
              clear hb3
              have hjs : (jn [b] xs3).length ≤ 20 := by rw [AC.out]; have h3 : s.data.toList.length = s.size := (by simp); omega
              by_cases hlt3 : k3 < xs3.length
              · obtain ⟨g, rfl, hg1, hg2, hg3, hg4⟩ := (S3.out.kept HB3.out) k3 hlt3
                have hb2 := jn_take_le [b] xs3 (k3 + 1)
                have hE := jn_snoc [b] (xs3.take k3) (xs3.getD k3 [])
                rw [← take_snoc xs3 k3 hlt3] at hE
                unfold eS at hg3
                replace hg3 : _ = some (Value.string ⟨(xs3.getD k3 []).toArray⟩) := hg3
                have hbk := back_lit (P := Try.prog) Try.underlying22 Try.underlying5 Try.underlying9 [b] _ (one_back b) 1 1 rfl
                clear hg4
                have i0 : (0 : Int) ≤ (k3 : Int) := by omega
                have i1 : (k3 : Int) < (xs3.length : Int) := by omega
                by_cases hz : k3 = 0
                · subst hz
                  have e0 : xs3.take 0 = [] := rfl
                  rw [e0, if_pos rfl] at hE
                  rw [hE] at hb2
                  have HE := Lib.hid hE
                  clear hE
                  generalize xs3.getD 0 [] = x3 at *
                  rw [e0, show jn [b] ([] : List (List UInt8)) = [] from rfl]
                  go_wp2_with fail
                  go_roundw
                  case rel => exact ⟨0 + 1, by omega, by go_num, by rw [HE.out]; exact congrArg Value.string (by apply ByteArray.ext; simp), HB3.out⟩
                  case measure => simp [intOf]; omega
                · have hne3 : xs3.take k3 ≠ [] := fun e => by
                    have := congrArg List.length e
                    rw [List.length_take, List.length_nil] at this; omega
                  rw [if_neg hne3] at hE
                  rw [hE, List.length_append, List.length_append, List.length_singleton] at hb2
                  have HE := Lib.hid hE
                  clear hE hne3
                  have hz2 : 0 < k3 := by omega
                  generalize xs3.getD k3 [] = x3 at *
                  generalize jn [b] (xs3.take k3) = J3 at *
                  go_wp2_with fail
                  go_roundw
                  case rel => exact ⟨k3 + 1, by omega, by go_num, by rw [HE.out]; exact congrArg Value.string (by apply ByteArray.ext; simp), HB3.out.alloc HB3.out.size _⟩
                  case measure => simp [intOf]; omega
              · obtain rfl : k3 = xs3.length := by omega
                rw [List.take_length, AC.out, show (⟨s.data.toList.toArray⟩ : ByteArray) = s from rfl]
                have BL3 := Lib.hid (BL.out.trans (HB3.out.mono BL.out.size))
                clear S3 HB3 BL
                have BL := BL3
                clear BL3
                have UTOT : (u.isEmpty = true ∧ u = []) ∨ (u.isEmpty = false ∧ ∃ q : Int, q ≠ 0 ∧ ∀ W : World, W.ShapedOpen Try.prog → Calls Try.prog 15 #[.string t, .string ⟨u.toArray⟩] W fun e w' => e = .returned (.int .i64 q) ∧ W = w') := by
                  cases u with
                  | nil => exact .inl ⟨rfl, rfl⟩
                  | cons u0 us => exact .inr ⟨rfl, _, UN.out (by simp), fun W h => implIdx_any t _ W h (by omega)⟩
                rcases UTOT with ⟨ue, ue2⟩ | ⟨ue, q, hq, CQ⟩
                · subst ue2
                  clear UN
                  by_cases hnp : 0 < nn
                  · obtain ⟨i, rfl, hle, hex, hi0⟩ := IF.out nn rfl hnp
                    clear hnp
                    have HX := Lib.hid hex
                    have sl1 : ∀ (W : World), (Instr.slice 9 (.string x) (some (.int .i64 (i : Int))) (some (.int .i64 ((i : Int) + y.size))) none).run Try.prog W = .ok (.string y) W := by
                      intro W
                      rw [run_slice_string W _ x .i64 .i64 _ _ Try.underlying9 (by omega) (by omega) (by omega)]
                      rw [show ((i : Int) + y.size).toNat = i + y.size by omega, show ((i : Int)).toNat = i by omega, hex]
                    have sl2 : ∀ (W : World), (Instr.slice 9 (.string x) none (some (.int .i64 (i : Int))) none).run Try.prog W = .ok (.string (x.extract 0 i)) W := by
                      intro W
                      rw [run_slice_string_to_if W _ x .i64 _ Try.underlying9, if_pos ⟨by omega, by omega⟩]; rfl
                    have CJ := Lib.hid (fun W (h : W.ShapedOpen Try.prog) => implIdx_any (x.extract 0 i) y W h (by rw [ByteArray.size_extract]; omega))
                    rw [hi0] at CJ
                    have CK := Lib.hid (fun W => implSub_any x ((i : Int) + 1) (y.size : Int) W (by omega) (wf64 (by unfold I64; omega)) (wf64 (by unfold I64; omega)) i (i + y.size) (Lib.hid (by omega)) (Lib.hid (by omega)))
                    have hsy : (⟨((x.data.toList.take (i + y.size)).drop i).toArray⟩ : ByteArray) = y := by rw [← extract_drop]; exact hex
                    rw [hsy] at CK
                    clear hsy hex hi0 IF HX
                    generalize x.extract 0 i = xp at *
                    go_wp2_with fail
                    refine (CJ.out _ (shaped_on HS.out BL.out)).mono ?_
                    rintro e p2 ⟨rfl, rfl⟩
                    go_wp2_with fail
                    refine (CK.out _).mono ?_
                    rintro e p3 ⟨rfl, rfl⟩
                    go_wp2_with fail
                    refine (UA.out _).mono ?_
                    rintro e p4 ⟨rfl, hb⟩
                    have BLa := Lib.hid (BL.out.trans (hb.mono BL.out.size))
                    clear hb
                    go_wp2_with fail
                    refine (LU.out _).mono ?_
                    rintro e p5 ⟨rfl, hb⟩
                    have BLb := Lib.hid (BLa.out.trans (hb.mono BLa.out.size))
                    clear hb
                    go_wp2_with fail
                    refine (L1.out _).mono ?_
                    rintro e p6 ⟨rfl, hb⟩
                    have BLc := Lib.hid (BLb.out.trans (hb.mono BLb.out.size))
                    clear hb
                    go_wp2_with fail
                    refine (U1.out _).mono ?_
                    rintro e p7 ⟨rfl, hb⟩
                    have BLd := Lib.hid (BLc.out.trans (hb.mono BLc.out.size))
                    clear hb
                    go_wp2_with fail
                    go_ret
                    exact ⟨rfl, BLd.out⟩
                  · clear IF
                    go_wp2_with fail
                    refine (UA.out _).mono ?_
                    rintro e p4 ⟨rfl, hb⟩
                    have BLa := Lib.hid (BL.out.trans (hb.mono BL.out.size))
                    clear hb
                    go_wp2_with fail
                    refine (LU.out _).mono ?_
                    rintro e p5 ⟨rfl, hb⟩
                    have BLb := Lib.hid (BLa.out.trans (hb.mono BLa.out.size))
                    clear hb
                    go_wp2_with fail
                    refine (L1.out _).mono ?_
                    rintro e p6 ⟨rfl, hb⟩
                    have BLc := Lib.hid (BLb.out.trans (hb.mono BLb.out.size))
                    clear hb
                    go_wp2_with fail
                    refine (U1.out _).mono ?_
                    rintro e p7 ⟨rfl, hb⟩
                    have BLd := Lib.hid (BLc.out.trans (hb.mono BLc.out.size))
                    clear hb
                    go_wp2_with fail
                    go_ret
                    exact ⟨rfl, BLd.out⟩
                · have hq2 : (q == 0) = false := by simpa using hq
                  have CQ := Lib.hid CQ
                  clear UN hq
                  go_wp2_with fail
                  refine (CQ.out _ (shaped_on HS.out BL.out)).mono ?_
                  rintro e p1 ⟨rfl, rfl⟩
                  by_cases hnp : 0 < nn
                  · obtain ⟨i, rfl, hle, hex, hi0⟩ := IF.out nn rfl hnp
                    clear hnp
                    have HX := Lib.hid hex
                    have sl1 : ∀ (W : World), (Instr.slice 9 (.string x) (some (.int .i64 (i : Int))) (some (.int .i64 ((i : Int) + y.size))) none).run Try.prog W = .ok (.string y) W := by
                      intro W
                      rw [run_slice_string W _ x .i64 .i64 _ _ Try.underlying9 (by omega) (by omega) (by omega)]
                      rw [show ((i : Int) + y.size).toNat = i + y.size by omega, show ((i : Int)).toNat = i by omega, hex]
                    have sl2 : ∀ (W : World), (Instr.slice 9 (.string x) none (some (.int .i64 (i : Int))) none).run Try.prog W = .ok (.string (x.extract 0 i)) W := by
                      intro W
                      rw [run_slice_string_to_if W _ x .i64 _ Try.underlying9, if_pos ⟨by omega, by omega⟩]; rfl
                    have CJ := Lib.hid (fun W (h : W.ShapedOpen Try.prog) => implIdx_any (x.extract 0 i) y W h (by rw [ByteArray.size_extract]; omega))
                    rw [hi0] at CJ
                    have CK := Lib.hid (fun W => implSub_any x ((i : Int) + 1) (y.size : Int) W (by omega) (wf64 (by unfold I64; omega)) (wf64 (by unfold I64; omega)) i (i + y.size) (Lib.hid (by omega)) (Lib.hid (by omega)))
                    have hsy : (⟨((x.data.toList.take (i + y.size)).drop i).toArray⟩ : ByteArray) = y := by rw [← extract_drop]; exact hex
                    rw [hsy] at CK
                    clear hsy hex hi0 IF HX
                    generalize x.extract 0 i = xp at *
                    go_wp2_with fail
                    refine (CJ.out _ (shaped_on HS.out BL.out)).mono ?_
                    rintro e p2 ⟨rfl, rfl⟩
                    go_wp2_with fail
                    refine (CK.out _).mono ?_
                    rintro e p3 ⟨rfl, rfl⟩
                    go_wp2_with fail
                    refine (UA.out _).mono ?_
                    rintro e p4 ⟨rfl, hb⟩
                    have BLa := Lib.hid (BL.out.trans (hb.mono BL.out.size))
                    clear hb
                    go_wp2_with fail
                    refine (LU.out _).mono ?_
                    rintro e p5 ⟨rfl, hb⟩
                    have BLb := Lib.hid (BLa.out.trans (hb.mono BLa.out.size))
                    clear hb
                    go_wp2_with fail
                    refine (L1.out _).mono ?_
                    rintro e p6 ⟨rfl, hb⟩
                    have BLc := Lib.hid (BLb.out.trans (hb.mono BLb.out.size))
                    clear hb
                    go_wp2_with fail
                    refine (U1.out _).mono ?_
                    rintro e p7 ⟨rfl, hb⟩
                    have BLd := Lib.hid (BLc.out.trans (hb.mono BLc.out.size))
                    clear hb
                    go_wp2_with fail
                    go_ret
                    exact ⟨rfl, BLd.out⟩
                  · clear IF
                    go_wp2_with fail
                    refine (UA.out _).mono ?_
                    rintro e p4 ⟨rfl, hb⟩
                    have BLa := Lib.hid (BL.out.trans (hb.mono BL.out.size))
                    clear hb
                    go_wp2_with fail
                    refine (LU.out _).mono ?_
                    rintro e p5 ⟨rfl, hb⟩
                    have BLb := Lib.hid (BLa.out.trans (hb.mono BLa.out.size))
                    clear hb
                    go_wp2_with fail
                    refine (L1.out _).mono ?_
                    rintro e p6 ⟨rfl, hb⟩
                    have BLc := Lib.hid (BLb.out.trans (hb.mono BLb.out.size))
                    clear hb
                    go_wp2_with fail
                    refine (U1.out _).mono ?_
                    rintro e p7 ⟨rfl, hb⟩
                    have BLd := Lib.hid (BLc.out.trans (hb.mono BLc.out.size))
                    clear hb
                    go_wp2_with fail
                    go_ret
                    exact ⟨rfl, BLd.out⟩
set_option maxRecDepth 100000 in
theorem walk (a : Option Addr) (n cap : Nat) (w : World) (hsh : w.ShapedOpen Try.prog) (hm : n ≤ maxLen) (hc : Code8 w a n) :
    Calls Try.prog 3 #[.slice a n cap] w fun e w' => e = .returned (.bool true) ∧ Below w.heap.size w w' := by
  by_cases hn : n ≤ 1048576
  · exact walk1 a n cap w hn hc hsh
  · go_enter Try.func3, Try.ntmps3
    go_wp2_with fail
    refine (big_yes a n cap _ (by omega)).mono ?_
    rintro e w1 ⟨rfl, rfl⟩
    go_wp2
    go_ret
    exact ⟨rfl, Below.refl _ _⟩

theorem own : ownKnob Try.prog.godebug = none := by kernel_rfl

set_option maxRecDepth 100000 in
theorem lifted (os : Os) (started : os.Started) (H : Type) (enc : TypeId × Value → H) :
    ReturnsInHanded {} Try.checked os 3 .any (Rows.fnTextsSpec.pre6 enc Try.prog Try.f3 Rows.fnTextsRow.domain false) (Rows.fnTextsSpec.post enc Try.prog Try.f3 false true false false) := by
  refine returnsInHanded_of_change_shaped (C := Try.checked) own started (by kernel_rfl) Try.func3
    (ChangeSpec.witness6 (enc := enc) (C := Try.checked) false ⟨#[], #[.slice none 0 0], []⟩ 8 (by kernel_rfl) (by kernel_rfl) (by kernel_rfl) (by kernel_rfl)) ?_
  intro W base args ds gs before hval0 hW hcnd _ hsh _
  have hval : ∀ (j : Nat) t v, Try.f3.params[j]? = some t → args[j]? = some v → Value.okWide Try.prog W .any base t v := hval0
  have hW' := hW
  obtain ⟨p, q, hA0, hV, rfl, hfz, hnd⟩ := hW
  have hA : DataW.TrodAll enc Try.prog W 0 (fun _ => true) true Try.f3.params.toList args.toList ds p := hA0
  rw [Try.params3] at hA hval
  obtain ⟨v0, vs0, d0, ds0, p0, q0, hargs, rfl, rfl, h0, r0⟩ := trodAll_cons hA
  obtain ⟨rfl, rfl, rfl⟩ := trodAll_nil r0
  obtain rfl : args = #[v0] := by cases args; simp_all
  obtain ⟨rfl, rfl⟩ := trodVars_none hV
  obtain ⟨a0, n0, c0, rfl, hn0, hc0⟩ := open_code (hval 0 22 v0 rfl rfl) h0
  have hlt0 : ∀ x ∈ p0, x.block < W.heap.size := fun x hx => by simpa using hW'.lt x (by simp [hx])
  clear hA0 hval0
  refine (walk a0 n0 c0 W hsh hn0 hc0).mono fun e W' ⟨he, bel⟩ => ?_
  subst he
  exact ⟨_, rfl, _, _, _, [], _, [], hW', trodAll_mk1 (shut_bool Try.underlying4 _), (trodAll_cons_mk (Below.trod laidOut (by kernel_rfl) (of_decide_eq_true (by kernel_rfl)) h0 bel hlt0) trodAll_mk0), rfl, bel.frame _, fun h => by cases h⟩

theorem over : Rows.fnTextsRow.holds Try.pinned (OpenSpec.ofChange Rows.fnTextsSpec) :=
  OpenClaim.holds_of_wide 3 Try.f3 rfl rfl rfl rfl rfl rfl rfl ⟨rfl, rfl, rfl, rfl, rfl⟩ rfl rfl rfl rfl rfl (by kernel_rfl) Try.func3 (by kernel_rfl)
    (of_decide_eq_true (by kernel_rfl)) (by unfold Func.isWrapper; first | (rw [if_pos (by decide +kernel)]; kernel_rfl) | (rw [if_neg (by decide +kernel)]; exact ⟨rfl, rfl⟩))
    (fun os started H enc _ => lifted os started H enc)

theorem proved : Rows.FnTextsSaid := over
#print axioms proved
end Go.Proofs.Ytalobgebdpaecaa.fnTexts
