/-
  Contract of impl.readPlace over this seat's translation. Conditions: a text of at most 1048576 bytes.
-/
import Derived.Test.YthffjcclcladoaaGreatDoorMFp1
import Derived.Test.YthffjcclcladoaaGreatDoorMFp4
import Derived.Test.YthffjcclcladoaaGreatDoorMRd
namespace Go.Proofs.YthffjcclcladoaaGreatDoor.kit
open Go.ChangeShapes Go.WideShapes Go.ChangeAt Go.RowKit
set_option linter.unusedVariables false

/-- A place as impl tells it. -/
def fpV (l : List UInt8) (p : Plc) : Value := .agg #[.string ⟨(l.take (flN l)).toArray⟩, .int .i64 (p.width : Int), .bool (decide (0 ≤ p.prec)), .int .i64 (if p.prec < 0 then 0 else p.prec), .int .u8 (p.kind.toNat : Int)]
def RpPost (w : World) (N : Nat) (l : List UInt8) (e : Ending) (w' : World) : Prop :=
  Below w.heap.size w w' ∧ ((l.head? = some 37 ∧ e = .returned (.tuple #[.agg #[.string ⟨#[]⟩, .int .i64 0, .bool false, .int .i64 0, .int .u8 37], .int .i64 1])) ∨ (l.head? ≠ some 37 ∧ rdP l = none ∧ e = .returned (.tuple #[.agg #[.string ⟨#[]⟩, .int .i64 0, .bool false, .int .i64 0, .int .u8 0], .int .i64 0])) ∨ ∃ p r, l.head? ≠ some 37 ∧ rdP l = some (p, r) ∧ e = .returned (.tuple #[fpV l p, .int .i64 ((N - r.length : Nat) : Int)]))
theorem rp_eq {l : List UInt8} {fl : ByteArray} {p : Plc} {z : Int} {b : Bool} {pc : Int} (h : fl = ⟨(l.take (flN l)).toArray⟩) (hp : (if p.prec < 0 then 0 else p.prec) = pc ∧ decide (0 ≤ p.prec) = b) :
    Ending.returned (.tuple #[.agg #[.string fl, .int .i64 (p.width : Int), .bool b, .int .i64 pc, .int .u8 (p.kind.toNat : Int)], .int .i64 z]) = .returned (.tuple #[fpV l p, .int .i64 z]) := by
  rw [fpV, h, hp.1, hp.2]
theorem same_list' (s : ByteArray) : s = ⟨s.data.toList.toArray⟩ := by
  apply ByteArray.ext
  simp
theorem ext_drop (s : ByteArray) (i : Nat) : (s.extract i s.size).data.toList = s.data.toList.drop i := by
  rw [ByteArray.data_extract, Array.toList_extract, List.extract_eq_take_drop, List.take_of_length_le (by simp)]
theorem head_of0 (s : ByteArray) (h : 0 < s.size) : s.data.toList.head? = some s[0] := by
  have := drop_atL s 0 h
  rw [List.drop_zero] at this
  rw [this]; rfl
theorem ext_take (s : ByteArray) (k : Nat) : s.extract 0 k = ⟨(s.data.toList.take k).toArray⟩ := by
  apply ByteArray.ext
  rw [ByteArray.data_extract]
  apply Array.ext'
  rw [Array.toList_extract, List.extract_eq_take_drop]; simp
theorem atB_is {s : ByteArray} {e : Nat} {c : UInt8} (h : atB s e c = true) : s[e]'(atB_lt h) = c := by
  have hl := atB_lt h
  rw [atB, dif_pos hl] at h
  simpa using h
theorem atB_nt {s : ByteArray} {e : Nat} {c : UInt8} (h : atB s e c = false) (hl : e < s.size) : s[e] ≠ c := by
  rw [atB, dif_pos hl] at h
  simpa using h
theorem prT_pos {l : List UInt8} (h : 0 ≤ prT l) : l ≠ [] := by
  intro e; rw [e] at h; simp [prT] at h
theorem prT_at (s : ByteArray) (p : Nat) (h : 0 ≤ prT (s.data.toList.drop p)) : ∃ hp : p < s.size, (48 ≤ s[p].toNat ∧ s[p].toNat ≤ 54) ∧ prT (s.data.toList.drop p) = (s[p].toNat : Int) - 48 := by
  by_cases hp : p < s.size
  · refine ⟨hp, ?_⟩
    rw [drop_atL s p hp, prT] at h ⊢
    split at h
    · rename_i hc; exact ⟨hc, if_pos hc⟩
    · omega
  · rw [drop_endL s p (by omega)] at h; simp [prT] at h
theorem rdP2_prec {n : Nat} {a b : Bool} (s : ByteArray) (e : Nat) (hx : True) (hes : e < s.size) (h46 : s[e] = 46) (h : prT (s.data.toList.drop (e + 1)) < 0) : rdP2 (s.data.toList.drop e) n a b = none := by
  rw [drop_atL s e hes, h46]
  by_cases hp : e + 1 < s.size
  · rw [drop_atL s (e + 1) hp] at h ⊢
    have hd : ¬ (48 ≤ s[e + 1].toNat ∧ s[e + 1].toNat ≤ 54) := by
      intro hc; rw [prT, if_pos hc] at h; omega
    rw [rdP2_other (rdQ_bad hd)]
    exact rdP3_not (by decide)
  · rw [drop_endL s (e + 1) (by omega), rdP2_other (rdQ_one _)]
    exact rdP3_not (by decide)
theorem dgN_all : ∀ (l : List UInt8) (j : Nat) (h : j < l.length), j < dgN l → isDg l[j] = true
  | c :: l, j, h, hj => by
    rw [dgN] at hj
    split at hj
    · rename_i hc
      cases j with
      | zero => exact hc
      | succ j => exact dgN_all l j (by simpa using h) (by omega)
    · omega
theorem ext_list (s : ByteArray) (k d : Nat) (h : k + d ≤ s.size) : (s.extract k (k + d)).data.toList = (s.data.toList.drop k).take d := by
  rw [ByteArray.data_extract, Array.toList_extract, List.extract_eq_take_drop, show k + d - k = d by omega]
/-- What ReadDec tells of the width's digits. -/
theorem width_rd (s : ByteArray) (k d : Nat) (hk : k + d ≤ s.size) (hd : d = dgN (s.data.toList.drop k)) (h1 : 0 < d) (h2 : d ≤ 2) (h48 : ∀ c r, s.data.toList.drop k = c :: r → c ≠ 48) :
    rdv (s.extract k (k + d)) = (((s.data.toList.drop k).take d).foldl (fun n c => 10 * n + (c.toNat - 48)) 0 : Nat) := by
  have hsz : (s.extract k (k + d)).size = d := by rw [ByteArray.size_extract]; omega
  have hel := ext_list s k d hk
  have hat : ∀ (j : Nat) (h : j < (s.extract k (k + d)).size), isDg (s.extract k (k + d))[j] = true := by
    intro j hj
    have hj2 : j < (s.data.toList.drop k).length := by rw [List.length_drop, show s.data.toList.length = s.size by simp]; omega
    have := dgN_all (s.data.toList.drop k) j hj2 (by omega)
    rw [ByteArray.getElem_extract]
    rw [List.getElem_drop] at this
    exact this
  rw [rdv_val (k := d) (by omega) (fun j hj _ => by
    have := hat j hj
    rw [← isDg_digB] at this; exact this) (by omega) (by omega) ?_, hel]
  · rfl
  · left
    have hks : k < s.size := by omega
    have h3 := h48 s[k] (s.data.toList.drop (k + 1)) (drop_atL s k hks)
    rw [ByteArray.getElem_extract]
    intro h4
    exact h3 (UInt8.toNat_inj.1 h4)
theorem width_lt : ∀ (l : List UInt8) (d m : Nat), (∀ c ∈ l.take d, isDg c = true) → (l.take d).foldl (fun n c => 10 * n + (c.toNat - 48)) m + 1 ≤ (m + 1) * 10 ^ d
  | [], d, m, _ => by simp; exact Nat.le_mul_of_pos_right _ (Nat.pow_pos (by omega))
  | c :: l, 0, m, _ => by simp
  | c :: l, d + 1, m, h => by
    have hc := isDg_bd (h c (by simp))
    have ih := width_lt l d (10 * m + (c.toNat - 48)) (fun x hx => h x (by simp [hx]))
    simp only [List.take_succ_cons, List.foldl_cons]
    refine Nat.le_trans ih ?_
    rw [Nat.pow_succ, Nat.mul_comm (10 ^ d) 10, ← Nat.mul_assoc]
    exact Nat.mul_le_mul_right _ (by omega)
theorem width_99 (l : List UInt8) (d : Nat) (h : ∀ c ∈ l.take d, isDg c = true) (h2 : d ≤ 2) : (l.take d).foldl (fun n c => 10 * n + (c.toNat - 48)) 0 ≤ 99 := by
  have := width_lt l d 0 h
  have h3 : 10 ^ d ≤ 10 ^ 2 := Nat.pow_le_pow_right (by omega) h2
  omega
theorem dgN_mem (l : List UInt8) : ∀ c ∈ l.take (dgN l), isDg c = true := by
  intro c hc
  obtain ⟨j, hj, rfl⟩ := List.getElem_of_mem hc
  rw [List.getElem_take]
  rw [List.length_take] at hj
  exact dgN_all l j (by omega) (by omega)
set_option maxRecDepth 100000 in
set_option maxHeartbeats 20000000 in
theorem place_any (s : ByteArray) (w : World) (hs : s.size ≤ 1048576) :
    Calls Tryz.prog 45 #[.string s] w (RpPost w s.size s.data.toList) := by
  have HS := Lib.hid hs
  have P0 := Lib.hid (fp5_zero w 71 ⟨#[]⟩ 0 false 0 0)
  have HB1 := Lib.hid (show ∀ o, Below w.heap.size w (w.alloc o) from fun o => (Below.refl _ w).alloc (Nat.le_refl _) o)
  have HB0 := Lib.hid (show ∀ o o', Below w.heap.size w ((w.alloc o).alloc o') from fun o o' => ((Below.refl _ w).alloc (Nat.le_refl _) o).alloc (by simp) o')
  have P1 := Lib.hid (P0.out.kept (w' := (w.alloc (.cells #[.string ⟨#[]⟩, .int .i64 0, .bool false, .int .i64 0, .int .u8 0] 71)).alloc (.cells #[.string ⟨#[]⟩, .int .i64 0, .bool false, .int .i64 0, .int .u8 0] 71)) ((Below.refl _ _).alloc (Nat.le_refl _) _))
  have P2 := Lib.hid (show Fp5 ((w.alloc (.cells #[.string ⟨#[]⟩, .int .i64 0, .bool false, .int .i64 0, .int .u8 0] 71)).alloc (.cells #[.string ⟨#[]⟩, .int .i64 0, .bool false, .int .i64 0, .int .u8 0] 71)) (w.heap.size + 1) ⟨#[]⟩ 0 false 0 0 from by
    have := fp5_zero (w.alloc (.cells #[.string ⟨#[]⟩, .int .i64 0, .bool false, .int .i64 0, .int .u8 0] 71)) 71 ⟨#[]⟩ 0 false 0 0
    rwa [World.size_alloc] at this)
  obtain ⟨B, hB⟩ : ∃ B, B = w.heap.size := ⟨_, rfl⟩
  have HBE := Lib.hid hB
  rw [← hB] at P1 P2
  have CF := Lib.hid (fun W => flEnd_any s W hs)
  have C37 := Lib.hid (fun W => pre_any s 0 37 W (Nat.zero_le _))
  rw [show s.extract 0 s.size = s from by rw [ext_take, List.take_of_length_le (by simp)]] at C37
  by_cases h37 : atB s 0 37 = true
  · rw [h37] at C37
    have HH := Lib.hid (show s.data.toList.head? = some 37 from by
      have hl := atB_lt h37
      rw [head_of0 s hl, atB_is h37])
    clear h37
    go_enter Tryz.func45, Tryz.ntmps45
    go_wp2_with (go_at_call 62; refine (C37.out _).mono ?_; rintro e w' ⟨rfl, rfl⟩)
    exact bodyPost_ret (v := .tuple #[.agg #[.string ⟨#[]⟩, .int .i64 0, .bool false, .int .i64 0, .int .u8 37], .int .i64 1]) (by simp [results, Tryz.results45, go_sem]) rfl ⟨HB1.out _, .inl ⟨HH.out, rfl⟩⟩
  · have h37f : atB s 0 37 = false := by simpa using h37
    rw [h37f] at C37
    have HH := Lib.hid (show s.data.toList.head? ≠ some 37 from by
      by_cases hl : 0 < s.size
      · rw [head_of0 s hl]; intro e; exact atB_nt h37f hl (by simpa using e)
      · have := drop_endL s 0 (by omega); rw [List.drop_zero] at this; rw [this]; simp)
    clear h37 h37f
    obtain ⟨k, hk⟩ : ∃ k : Nat, k = flN s.data.toList := ⟨_, rfl⟩
    rw [← hk] at CF
    have hks : k ≤ s.size := by have := flN_le s.data.toList; rw [show s.data.toList.length = s.size by simp] at this; omega
    obtain ⟨fl, hfl⟩ : ∃ fl : ByteArray, fl = s.extract 0 k := ⟨_, rfl⟩
    have HFL := Lib.hid (show fl = ⟨(s.data.toList.take (flN s.data.toList)).toArray⟩ by rw [hfl, ← hk, ext_take])
    have hsk : ∀ W, (Instr.slice 9 (.string s) none (some (.int .i64 (k : Int))) none).run Tryz.prog W = .ok (.string fl) W := fun W => by
      rw [run_slice_string_h _ _ s Tryz.underlying9 .i64 (k : Int) (by omega) (by omega), Int.toNat_natCast, hfl]
    obtain ⟨d, hd⟩ : ∃ d : Nat, d = dgN (s.data.toList.drop k) := ⟨_, rfl⟩
    have hds : k + d ≤ s.size := by have := dgN_le (s.data.toList.drop k); rw [List.length_drop, show s.data.toList.length = s.size by simp] at this; omega
    obtain ⟨e, hee⟩ : ∃ e : Nat, e = k + d := ⟨_, rfl⟩
    have he : e ≤ s.size := by omega
    have CE := Lib.hid (fun W => digits_any s k W hs hks)
    rw [run_dg s k hks, ← hd, ← hee] at CE
    have S0 := Lib.hid (P1.out.off (g' := B + 1) (j := 0) (by omega) (.string fl))
    have S1 := Lib.hid (P2.out.set0 fl)
    have SB := Lib.hid ((HB0.out (.cells #[.string ⟨#[]⟩, .int .i64 0, .bool false, .int .i64 0, .int .u8 0] 71) (.cells #[.string ⟨#[]⟩, .int .i64 0, .bool false, .int .i64 0, .int .u8 0] 71)).setCell (p := ⟨w.heap.size + 1, 0, none⟩) (by simp) (.string fl))
    rw [← hB] at SB
    have HRF := Lib.hid (rdF_eq s.data.toList false false)
    rw [← hk] at HRF
    have a0 := P2.out.c0
    have c0 := P2.out.f0
    have HL2 := Lib.hid (show ∀ c r, s.data.toList.drop k = c :: r → c ≠ 48 from fun c r h => by rw [hk] at h; exact flN_head _ c r h)
    have hed : (e : Int) - (k : Int) = (d : Int) := by omega
    have HAB := Lib.hid (show rdP s.data.toList = rdP1 (s.data.toList.drop k) (false || (s.data.toList.take k).contains 45) (false || (s.data.toList.take k).contains 48) from rdP_flags HRF.out)
    generalize (false || (s.data.toList.take k).contains 45) = fa at *
    generalize (false || (s.data.toList.take k).contains 48) = fb at *
    have HK := Lib.hid hk
    have HD := Lib.hid hd
    have HEE := Lib.hid hee
    clear hk hd hee HRF hfl
    go_enter Tryz.func45, Tryz.ntmps45
    go_wp2_with (go_at_call 62; refine (C37.out _).mono ?_; rintro e w' ⟨rfl, rfl⟩)
    rw [← hB]
    have P1 := Lib.hid P1.out
    have P2 := Lib.hid P2.out
    generalize (w.alloc (.cells #[.string ⟨#[]⟩, .int .i64 0, .bool false, .int .i64 0, .int .u8 0] 71)).alloc (.cells #[.string ⟨#[]⟩, .int .i64 0, .bool false, .int .i64 0, .int .u8 0] 71) = W0 at *
    clear hB
    have hdb : d ≤ 1048576 := by omega
    refine (CF.out _).mono ?_
    rintro en w1 ⟨rfl, rfl⟩
    go_wp2_with fail
    refine (CE.out _).mono ?_
    rintro en w1 ⟨rfl, rfl⟩
    by_cases hd2 : 2 < d
    · have HX := Lib.hid (show rdP s.data.toList = none from rdP_far (by rw [← HK.out, ← HD.out]; exact hd2))
      have hd2i : (2 : Int) < (d : Int) := by omega
      clear hd2
      have CH := 0
      obtain ⟨_, i5, i6, i7, i8, i9, n0, n1, n2, n3, n4⟩ := S0.out
      go_wp2_with (first | (go_at_call 62; refine (CH.out _).mono ?_; rintro e w' ⟨rfl, rfl⟩))
      all_goals
        have QF := Lib.hid (Fp5.fin (fl' := ⟨#[]⟩) (n' := 0) (b' := false) (p' := 0) (kd' := 0) S0.out)
        have QB := Lib.hid (fpfin_below (fl' := ⟨#[]⟩) (n' := 0) (b' := false) (p' := 0) (kd' := 0) SB.out)
        obtain ⟨_, y0, y1, y2, y3, y4, _, _, _, _, _⟩ := QF.out
        generalize ((((((W0.setCell ⟨B + 1, 0, none⟩ (.string fl)).setCell ⟨B, 0, none⟩ (.string ⟨#[]⟩)).setCell ⟨B, 1, none⟩ (.int .i64 0)).setCell ⟨B, 2, none⟩ (.bool false)).setCell ⟨B, 3, none⟩ (.int .i64 0)).setCell ⟨B, 4, none⟩ (.int .u8 0)) = WF at *
        have QB := Lib.hid (QB.out.mono (Nat.le_of_eq HBE.out.symm))
        clear QF
        exact bodyPost_ret (v := .tuple #[.agg #[.string ⟨#[]⟩, .int .i64 0, .bool false, .int .i64 0, .int .u8 0], .int .i64 0]) (by simp [results, Tryz.results45, go_sem, y0, y1, y2, y3, y4]) rfl ⟨QB.out, .inr (.inl ⟨HH.out, HX.out, rfl⟩)⟩
    · have hd2i : ¬ (2 : Int) < (d : Int) := by omega
      have HP1 := Lib.hid (show rdP s.data.toList = rdP2 (s.data.toList.drop e) (((s.data.toList.drop k).take d).foldl (fun n c => 10 * n + (c.toNat - 48)) 0) fa fb by
        rw [HAB.out, rdP1_eq (rdD_eq 3 _ 0 (by rw [← HD.out]; omega)), ← HD.out, List.drop_drop, ← HEE.out])
      have hw99 := width_99 (s.data.toList.drop k) d (by rw [HD.out]; exact dgN_mem _) (by omega)
      by_cases hd0 : d = 0
      · have hgt : ¬ (k : Int) < (e : Int) := by have := HEE.out; omega
        have HP := Lib.hid (show rdP s.data.toList = rdP2 (s.data.toList.drop e) 0 fa fb by
          rw [HP1.out, hd0]; rfl)
        clear hd0 hd2 hw99
        have CH := Lib.hid (fun W => pre_any s e 46 W he)
        have hse : ∀ W, (Instr.slice 9 (.string s) (some (.int .i64 (e : Int))) none none).run Tryz.prog W = .ok (.string (s.extract e s.size)) W := fun W => by
          rw [run_slice_string_l _ _ s Tryz.underlying9 .i64 (e : Int) (by omega) (by omega), Int.toNat_natCast]
        obtain ⟨_, i0, i1, i2, i3, i4, m0, m1, m2, m3, m4⟩ := S1.out
        obtain ⟨_, i5, i6, i7, i8, i9, n0, n1, n2, n3, n4⟩ := S0.out
        by_cases h46 : atB s e 46 = true
        · rw [h46] at CH
          have hes := atB_lt h46
          have hat46 := atB_is h46
          obtain ⟨ep, hep⟩ : ∃ ep : Nat, ep = e + 1 := ⟨_, rfl⟩
          obtain ⟨q, hq⟩ : ∃ q : Nat, q = e + 2 := ⟨_, rfl⟩
          have hepi : (e : Int) + 1 = (ep : Int) := by omega
          have hqi : (e : Int) + 2 = (q : Int) := by omega
          have hsp : ∀ W, (Instr.slice 9 (.string s) (some (.int .i64 (ep : Int))) none none).run Tryz.prog W = .ok (.string (s.extract ep s.size)) W := fun W => by
            rw [run_slice_string_l _ _ s Tryz.underlying9 .i64 (ep : Int) (by omega) (by omega), Int.toNat_natCast]
          have CP := Lib.hid (fun W => prec_any (s.extract ep s.size) W (by rw [ByteArray.size_extract]; omega))
          have hext : (s.extract ep s.size).data.toList = s.data.toList.drop ep := ext_drop s ep
          rw [hext] at CP
          obtain ⟨pv, hpv⟩ : ∃ pv : Int, pv = prT (s.data.toList.drop ep) := ⟨_, rfl⟩
          rw [← hpv] at CP
          have S0 := Lib.hid ((S0.out.off (g' := B + 1) (j := 2) (by omega) (.bool true)).off (g' := B + 1) (j := 3) (by omega) (.int .i64 pv))
          have S1 := Lib.hid ((S1.out.set2 true).set3 pv)
          have SB := Lib.hid ((SB.out.setCell (p := ⟨B + 1, 2, none⟩) (by simp) (.bool true)).setCell (p := ⟨B + 1, 3, none⟩) (by simp) (.int .i64 pv))
          by_cases hpn : pv < 0
          · have HX := Lib.hid (show rdP s.data.toList = none by rw [HP.out]; exact rdP2_prec s e trivial hes hat46 (by rw [← hep, ← hpv]; exact hpn))
            clear h46 hat46 hep hq hpv hext
            go_wp2_with (first | (go_at_call 90; refine (CP.out _).mono ?_; rintro e w' ⟨rfl, rfl⟩) | (go_at_call 62; refine (CH.out _).mono ?_; rintro e w' ⟨rfl, rfl⟩))
            all_goals
              have QF := Lib.hid (Fp5.fin (fl' := ⟨#[]⟩) (n' := 0) (b' := false) (p' := 0) (kd' := 0) S0.out)
              have QB := Lib.hid (fpfin_below (fl' := ⟨#[]⟩) (n' := 0) (b' := false) (p' := 0) (kd' := 0) SB.out)
              obtain ⟨_, y0, y1, y2, y3, y4, _, _, _, _, _⟩ := QF.out
              generalize ((((((((W0.setCell ⟨B + 1, 0, none⟩ (.string fl)).setCell ⟨B + 1, 2, none⟩ (.bool true)).setCell ⟨B + 1, 3, none⟩ (.int .i64 pv)).setCell ⟨B, 0, none⟩ (.string ⟨#[]⟩)).setCell ⟨B, 1, none⟩ (.int .i64 0)).setCell ⟨B, 2, none⟩ (.bool false)).setCell ⟨B, 3, none⟩ (.int .i64 0)).setCell ⟨B, 4, none⟩ (.int .u8 0)) = WF at *
              have QB := Lib.hid (QB.out.mono (Nat.le_of_eq HBE.out.symm))
              clear QF
              exact bodyPost_ret (v := .tuple #[.agg #[.string ⟨#[]⟩, .int .i64 0, .bool false, .int .i64 0, .int .u8 0], .int .i64 0]) (by simp [results, Tryz.results45, go_sem, y0, y1, y2, y3, y4]) rfl ⟨QB.out, .inr (.inl ⟨HH.out, HX.out, rfl⟩)⟩
          · have hd := prT_pos (l := s.data.toList.drop ep) (by rw [← hpv]; omega)
            obtain ⟨hps, hdr, hpe⟩ := prT_at s ep (by rw [← hpv]; omega)
            have HP3 := Lib.hid (show rdP s.data.toList = rdP3 (s.data.toList.drop q) 0 _ _ pv by
              rw [HP.out, drop_atL s e hes, hat46, ← hep, drop_atL s ep hps, rdP2_dot hdr, hpv, hpe, hq, show e + 2 = ep + 1 by omega])
            have hpv0 := Lib.hid (show (if pv < 0 then 0 else pv) = pv ∧ decide (0 ≤ pv) = true from ⟨if_neg hpn, by simp; omega⟩)
            by_cases hqs : q < s.size
            · have HP3 := Lib.hid (show rdP s.data.toList = rdP3 (s[q] :: s.data.toList.drop (q + 1)) 0 _ _ pv by rw [HP3.out, drop_atL s q hqs])
              obtain ⟨q1, HNXe2⟩ : ∃ q1 : Nat, q1 = q + 1 := ⟨_, rfl⟩
              have hq1 : (q : Int) + 1 = (q1 : Int) := by omega
              have HNX := Lib.hid HNXe2
              have hat := hqs
              have hqn : ¬ (s.size : Int) ≤ (q : Int) := by omega
              clear h46 hat46 hep hq hpv hext hpe hdr HNXe2 hd
              have CX := Lib.hid (fun W => kind_any s[q] W)
              have z0 : (0 : Int) ≤ (q : Int) := by omega
              have z1 : (q : Int) < (s.size : Int) := by omega
              cases hk : kindB s[q]
              · have HX := Lib.hid (show rdP s.data.toList = none by rw [HP3.out]; exact rdP3_not hk)
                go_wp2_with (first | (go_at_call 90; refine (CP.out _).mono ?_; rintro e w' ⟨rfl, rfl⟩) | (go_at_call 62; refine (CH.out _).mono ?_; rintro e w' ⟨rfl, rfl⟩) | (go_at_call 91; refine (CX.out _).mono ?_; rintro e w' ⟨⟨z, rfl, hz⟩, rfl⟩; rw [hk] at hz))
                all_goals
                  have QF := Lib.hid (Fp5.fin (fl' := ⟨#[]⟩) (n' := 0) (b' := false) (p' := 0) (kd' := 0) S0.out)
                  have QB := Lib.hid (fpfin_below (fl' := ⟨#[]⟩) (n' := 0) (b' := false) (p' := 0) (kd' := 0) SB.out)
                  obtain ⟨_, y0, y1, y2, y3, y4, _, _, _, _, _⟩ := QF.out
                  generalize ((((((((W0.setCell ⟨B + 1, 0, none⟩ (.string fl)).setCell ⟨B + 1, 2, none⟩ (.bool true)).setCell ⟨B + 1, 3, none⟩ (.int .i64 pv)).setCell ⟨B, 0, none⟩ (.string ⟨#[]⟩)).setCell ⟨B, 1, none⟩ (.int .i64 0)).setCell ⟨B, 2, none⟩ (.bool false)).setCell ⟨B, 3, none⟩ (.int .i64 0)).setCell ⟨B, 4, none⟩ (.int .u8 0)) = WF at *
                  have QB := Lib.hid (QB.out.mono (Nat.le_of_eq HBE.out.symm))
                  clear QF
                  exact bodyPost_ret (v := .tuple #[.agg #[.string ⟨#[]⟩, .int .i64 0, .bool false, .int .i64 0, .int .u8 0], .int .i64 0]) (by simp [results, Tryz.results45, go_sem, y0, y1, y2, y3, y4]) rfl ⟨QB.out, .inr (.inl ⟨HH.out, HX.out, rfl⟩)⟩
              · have HX := Lib.hid (show rdP s.data.toList = some (⟨_, _, 0, pv, s[q]⟩, s.data.toList.drop (q + 1)) by rw [HP3.out]; exact rdP3_kind (by omega) hk)
                have RF := Lib.hid (S0.out.off (g' := B + 1) (j := 4) (by omega) (.int .u8 (s[q].toNat : Int)))
                have RG := Lib.hid (S1.out.set4 (s[q].toNat : Int))
                have HF2 := Lib.hid (SB.out.setCell (p := ⟨B + 1, 4, none⟩) (by simp) (.int .u8 (s[q].toNat : Int)))
                have HNN := Lib.hid (show ((s.size - (s.data.toList.drop (q + 1)).length : Nat) : Int) = (q1 : Int) by
                  have := HNX.out
                  rw [List.length_drop, show s.data.toList.length = s.size by simp]; omega)
                go_wp2_with (first | (go_at_call 90; refine (CP.out _).mono ?_; rintro e w' ⟨rfl, rfl⟩) | (go_at_call 62; refine (CH.out _).mono ?_; rintro e w' ⟨rfl, rfl⟩) | (go_at_call 91; refine (CX.out _).mono ?_; rintro e w' ⟨⟨z, rfl, hz⟩, rfl⟩; rw [hk] at hz))
                all_goals
                  have QF := Lib.hid (Fp5.fin (fl' := fl) (n' := (0 : Int)) (b' := true) (p' := pv) (kd' := (s[q].toNat : Int)) RF.out)
                  have QB := Lib.hid (fpfin_below (fl' := fl) (n' := (0 : Int)) (b' := true) (p' := pv) (kd' := (s[q].toNat : Int)) HF2.out)
                  obtain ⟨_, y0, y1, y2, y3, y4, _, _, _, _, _⟩ := QF.out
                  generalize (((((((((W0.setCell ⟨B + 1, 0, none⟩ (.string fl)).setCell ⟨B + 1, 2, none⟩ (.bool true)).setCell ⟨B + 1, 3, none⟩ (.int .i64 pv)).setCell ⟨B + 1, 4, none⟩ (.int .u8 (s[q].toNat : Int))).setCell ⟨B, 0, none⟩ (.string fl)).setCell ⟨B, 1, none⟩ (.int .i64 (0 : Int))).setCell ⟨B, 2, none⟩ (.bool true)).setCell ⟨B, 3, none⟩ (.int .i64 pv)).setCell ⟨B, 4, none⟩ (.int .u8 (s[q].toNat : Int))) = WF at *
                  have QB := Lib.hid (QB.out.mono (Nat.le_of_eq HBE.out.symm))
                  clear QF
                  exact bodyPost_ret (v := .tuple #[.agg #[.string fl, .int .i64 (0 : Int), .bool true, .int .i64 pv, .int .u8 (s[q].toNat : Int)], .int .i64 (q1 : Int)]) (by simp [results, Tryz.results45, go_sem, y0, y1, y2, y3, y4]) rfl ⟨QB.out, .inr (.inr ⟨_, _, HH.out, HX.out, by rw [HNN.out]; exact rp_eq (p := ⟨fa, fb, 0, pv, s[q]⟩) HFL.out hpv0.out⟩)⟩
            · have HX := Lib.hid (show rdP s.data.toList = none by rw [HP3.out, drop_endL s q (by omega)]; rfl)
              have hqe2 : (s.size : Int) ≤ (q : Int) := by omega
              clear h46 hat46 hep hq hpv hext hpe hdr hqs hd
              go_wp2_with (first | (go_at_call 90; refine (CP.out _).mono ?_; rintro e w' ⟨rfl, rfl⟩) | (go_at_call 62; refine (CH.out _).mono ?_; rintro e w' ⟨rfl, rfl⟩))
              all_goals
                have QF := Lib.hid (Fp5.fin (fl' := ⟨#[]⟩) (n' := 0) (b' := false) (p' := 0) (kd' := 0) S0.out)
                have QB := Lib.hid (fpfin_below (fl' := ⟨#[]⟩) (n' := 0) (b' := false) (p' := 0) (kd' := 0) SB.out)
                obtain ⟨_, y0, y1, y2, y3, y4, _, _, _, _, _⟩ := QF.out
                generalize ((((((((W0.setCell ⟨B + 1, 0, none⟩ (.string fl)).setCell ⟨B + 1, 2, none⟩ (.bool true)).setCell ⟨B + 1, 3, none⟩ (.int .i64 pv)).setCell ⟨B, 0, none⟩ (.string ⟨#[]⟩)).setCell ⟨B, 1, none⟩ (.int .i64 0)).setCell ⟨B, 2, none⟩ (.bool false)).setCell ⟨B, 3, none⟩ (.int .i64 0)).setCell ⟨B, 4, none⟩ (.int .u8 0)) = WF at *
                have QB := Lib.hid (QB.out.mono (Nat.le_of_eq HBE.out.symm))
                clear QF
                exact bodyPost_ret (v := .tuple #[.agg #[.string ⟨#[]⟩, .int .i64 0, .bool false, .int .i64 0, .int .u8 0], .int .i64 0]) (by simp [results, Tryz.results45, go_sem, y0, y1, y2, y3, y4]) rfl ⟨QB.out, .inr (.inl ⟨HH.out, HX.out, rfl⟩)⟩
        · have h46f : atB s e 46 = false := by simpa using h46
          rw [h46f] at CH
          by_cases hes : e < s.size
          · have HP3 := Lib.hid (show rdP s.data.toList = rdP3 (s[e] :: s.data.toList.drop (e + 1)) 0 _ _ (-1) by
              rw [HP.out, drop_atL s e hes]; exact rdP2_other (rdQ_no (atB_nt h46f hes)))
            obtain ⟨e1, HNXe⟩ : ∃ e1 : Nat, e1 = e + 1 := ⟨_, rfl⟩
            have he1 : (e : Int) + 1 = (e1 : Int) := by omega
            have HNX := Lib.hid HNXe
            have hat := hes
            have hqn : ¬ (s.size : Int) ≤ (e : Int) := by omega
            clear h46 h46f HNXe
            have CX := Lib.hid (fun W => kind_any s[e] W)
            have z0 : (0 : Int) ≤ (e : Int) := by omega
            have z1 : (e : Int) < (s.size : Int) := by omega
            cases hk : kindB s[e]
            · have HX := Lib.hid (show rdP s.data.toList = none by rw [HP3.out]; exact rdP3_not hk)
              go_wp2_with (first | (go_at_call 62; refine (CH.out _).mono ?_; rintro e w' ⟨rfl, rfl⟩) | (go_at_call 91; refine (CX.out _).mono ?_; rintro e w' ⟨⟨z, rfl, hz⟩, rfl⟩; rw [hk] at hz))
              all_goals
                have QF := Lib.hid (Fp5.fin (fl' := ⟨#[]⟩) (n' := 0) (b' := false) (p' := 0) (kd' := 0) S0.out)
                have QB := Lib.hid (fpfin_below (fl' := ⟨#[]⟩) (n' := 0) (b' := false) (p' := 0) (kd' := 0) SB.out)
                obtain ⟨_, y0, y1, y2, y3, y4, _, _, _, _, _⟩ := QF.out
                generalize ((((((W0.setCell ⟨B + 1, 0, none⟩ (.string fl)).setCell ⟨B, 0, none⟩ (.string ⟨#[]⟩)).setCell ⟨B, 1, none⟩ (.int .i64 0)).setCell ⟨B, 2, none⟩ (.bool false)).setCell ⟨B, 3, none⟩ (.int .i64 0)).setCell ⟨B, 4, none⟩ (.int .u8 0)) = WF at *
                have QB := Lib.hid (QB.out.mono (Nat.le_of_eq HBE.out.symm))
                clear QF
                exact bodyPost_ret (v := .tuple #[.agg #[.string ⟨#[]⟩, .int .i64 0, .bool false, .int .i64 0, .int .u8 0], .int .i64 0]) (by simp [results, Tryz.results45, go_sem, y0, y1, y2, y3, y4]) rfl ⟨QB.out, .inr (.inl ⟨HH.out, HX.out, rfl⟩)⟩
            · have HX := Lib.hid (show rdP s.data.toList = some (⟨_, _, 0, (-1), s[e]⟩, s.data.toList.drop (e + 1)) by rw [HP3.out]; exact rdP3_kind (by omega) hk)
              have RF := Lib.hid (S0.out.off (g' := B + 1) (j := 4) (by omega) (.int .u8 (s[e].toNat : Int)))
              have RG := Lib.hid (S1.out.set4 (s[e].toNat : Int))
              have HF2 := Lib.hid (SB.out.setCell (p := ⟨B + 1, 4, none⟩) (by simp) (.int .u8 (s[e].toNat : Int)))
              have HNN := Lib.hid (show ((s.size - (s.data.toList.drop (e + 1)).length : Nat) : Int) = (e1 : Int) by
                have := HNX.out
                rw [List.length_drop, show s.data.toList.length = s.size by simp]; omega)
              go_wp2_with (first | (go_at_call 62; refine (CH.out _).mono ?_; rintro e w' ⟨rfl, rfl⟩) | (go_at_call 91; refine (CX.out _).mono ?_; rintro e w' ⟨⟨z, rfl, hz⟩, rfl⟩; rw [hk] at hz))
              all_goals
                have QF := Lib.hid (Fp5.fin (fl' := fl) (n' := (0 : Int)) (b' := false) (p' := 0) (kd' := (s[e].toNat : Int)) RF.out)
                have QB := Lib.hid (fpfin_below (fl' := fl) (n' := (0 : Int)) (b' := false) (p' := 0) (kd' := (s[e].toNat : Int)) HF2.out)
                obtain ⟨_, y0, y1, y2, y3, y4, _, _, _, _, _⟩ := QF.out
                generalize (((((((W0.setCell ⟨B + 1, 0, none⟩ (.string fl)).setCell ⟨B + 1, 4, none⟩ (.int .u8 (s[e].toNat : Int))).setCell ⟨B, 0, none⟩ (.string fl)).setCell ⟨B, 1, none⟩ (.int .i64 (0 : Int))).setCell ⟨B, 2, none⟩ (.bool false)).setCell ⟨B, 3, none⟩ (.int .i64 0)).setCell ⟨B, 4, none⟩ (.int .u8 (s[e].toNat : Int))) = WF at *
                have QB := Lib.hid (QB.out.mono (Nat.le_of_eq HBE.out.symm))
                clear QF
                exact bodyPost_ret (v := .tuple #[.agg #[.string fl, .int .i64 (0 : Int), .bool false, .int .i64 0, .int .u8 (s[e].toNat : Int)], .int .i64 (e1 : Int)]) (by simp [results, Tryz.results45, go_sem, y0, y1, y2, y3, y4]) rfl ⟨QB.out, .inr (.inr ⟨_, _, HH.out, HX.out, by rw [HNN.out]; exact rp_eq (p := ⟨fa, fb, 0, (-1), s[e]⟩) HFL.out ⟨if_pos (show (-1 : Int) < 0 by decide), show decide ((0 : Int) ≤ -1) = false by decide⟩⟩)⟩
          · have HX := Lib.hid (show rdP s.data.toList = none by rw [HP.out, drop_endL s e (by omega)]; rfl)
            have hqe2 : (s.size : Int) ≤ (e : Int) := by omega
            clear h46 h46f hes
            go_wp2_with (first | (go_at_call 62; refine (CH.out _).mono ?_; rintro e w' ⟨rfl, rfl⟩))
            all_goals
              have QF := Lib.hid (Fp5.fin (fl' := ⟨#[]⟩) (n' := 0) (b' := false) (p' := 0) (kd' := 0) S0.out)
              have QB := Lib.hid (fpfin_below (fl' := ⟨#[]⟩) (n' := 0) (b' := false) (p' := 0) (kd' := 0) SB.out)
              obtain ⟨_, y0, y1, y2, y3, y4, _, _, _, _, _⟩ := QF.out
              generalize ((((((W0.setCell ⟨B + 1, 0, none⟩ (.string fl)).setCell ⟨B, 0, none⟩ (.string ⟨#[]⟩)).setCell ⟨B, 1, none⟩ (.int .i64 0)).setCell ⟨B, 2, none⟩ (.bool false)).setCell ⟨B, 3, none⟩ (.int .i64 0)).setCell ⟨B, 4, none⟩ (.int .u8 0)) = WF at *
              have QB := Lib.hid (QB.out.mono (Nat.le_of_eq HBE.out.symm))
              clear QF
              exact bodyPost_ret (v := .tuple #[.agg #[.string ⟨#[]⟩, .int .i64 0, .bool false, .int .i64 0, .int .u8 0], .int .i64 0]) (by simp [results, Tryz.results45, go_sem, y0, y1, y2, y3, y4]) rfl ⟨QB.out, .inr (.inl ⟨HH.out, HX.out, rfl⟩)⟩
      · have hgt : (k : Int) < (e : Int) := by have := HEE.out; omega
        have hrv := width_rd s k d hds HD.out (by omega) (by omega) HL2.out
        rw [← HEE.out] at hrv
        have hsk2 : ∀ W, (Instr.slice 9 (.string s) (some (.int .i64 (k : Int))) (some (.int .i64 (e : Int))) none).run Tryz.prog W = .ok (.string (s.extract k e)) W := fun W => by
          rw [run_slice_string W _ s .i64 .i64 _ _ Tryz.underlying9 (by omega) (by omega) (by omega), Int.toNat_natCast, Int.toNat_natCast]
        have CR := Lib.hid (fun W => implRd_any (s.extract k e) W (by rw [ByteArray.size_extract]; simp only [maxLen]; have := HS.out; omega))
        rw [hrv] at CR
        generalize hwd : ((s.data.toList.drop k).take d).foldl (fun n c => 10 * n + (c.toNat - 48)) 0 = wd at *
        have HP := HP1
        clear hd0 hd2 hrv hwd
        go_wp2_with fail
        refine (CR.out _).mono ?_
        rintro en w2 ⟨rfl, hb2⟩
        have G0 := Lib.hid ((S0.out.kept hb2).off (g' := B + 1) (j := 1) (by omega) (.int .i64 (wd : Int)))
        have G1 := Lib.hid ((S1.out.kept hb2).set1 (wd : Int))
        have GB := Lib.hid (show Below B w (w2.setCell ⟨B + 1, 1, none⟩ (.int .i64 (wd : Int))) from (SB.out.trans (hb2.mono (Nat.le_of_lt S0.out.lt))).setCell (p := ⟨B + 1, 1, none⟩) (by simp) _)
        have b1 := (S1.out.kept hb2).c1
        have d1 := (S1.out.kept hb2).f1
        clear hb2
        have CH := Lib.hid (fun W => pre_any s e 46 W he)
        have hse : ∀ W, (Instr.slice 9 (.string s) (some (.int .i64 (e : Int))) none none).run Tryz.prog W = .ok (.string (s.extract e s.size)) W := fun W => by
          rw [run_slice_string_l _ _ s Tryz.underlying9 .i64 (e : Int) (by omega) (by omega), Int.toNat_natCast]
        obtain ⟨_, i0, i1, i2, i3, i4, m0, m1, m2, m3, m4⟩ := G1.out
        obtain ⟨_, i5, i6, i7, i8, i9, n0, n1, n2, n3, n4⟩ := G0.out
        by_cases h46 : atB s e 46 = true
        · rw [h46] at CH
          have hes := atB_lt h46
          have hat46 := atB_is h46
          obtain ⟨ep, hep⟩ : ∃ ep : Nat, ep = e + 1 := ⟨_, rfl⟩
          obtain ⟨q, hq⟩ : ∃ q : Nat, q = e + 2 := ⟨_, rfl⟩
          have hepi : (e : Int) + 1 = (ep : Int) := by omega
          have hqi : (e : Int) + 2 = (q : Int) := by omega
          have hsp : ∀ W, (Instr.slice 9 (.string s) (some (.int .i64 (ep : Int))) none none).run Tryz.prog W = .ok (.string (s.extract ep s.size)) W := fun W => by
            rw [run_slice_string_l _ _ s Tryz.underlying9 .i64 (ep : Int) (by omega) (by omega), Int.toNat_natCast]
          have CP := Lib.hid (fun W => prec_any (s.extract ep s.size) W (by rw [ByteArray.size_extract]; omega))
          have hext : (s.extract ep s.size).data.toList = s.data.toList.drop ep := ext_drop s ep
          rw [hext] at CP
          obtain ⟨pv, hpv⟩ : ∃ pv : Int, pv = prT (s.data.toList.drop ep) := ⟨_, rfl⟩
          rw [← hpv] at CP
          have S0 := Lib.hid ((G0.out.off (g' := B + 1) (j := 2) (by omega) (.bool true)).off (g' := B + 1) (j := 3) (by omega) (.int .i64 pv))
          have S1 := Lib.hid ((G1.out.set2 true).set3 pv)
          have SB := Lib.hid ((GB.out.setCell (p := ⟨B + 1, 2, none⟩) (by simp) (.bool true)).setCell (p := ⟨B + 1, 3, none⟩) (by simp) (.int .i64 pv))
          by_cases hpn : pv < 0
          · have HX := Lib.hid (show rdP s.data.toList = none by rw [HP.out]; exact rdP2_prec s e trivial hes hat46 (by rw [← hep, ← hpv]; exact hpn))
            clear h46 hat46 hep hq hpv hext
            go_wp2_with (first | (go_at_call 90; refine (CP.out _).mono ?_; rintro e w' ⟨rfl, rfl⟩) | (go_at_call 62; refine (CH.out _).mono ?_; rintro e w' ⟨rfl, rfl⟩))
            all_goals
              have QF := Lib.hid (Fp5.fin (fl' := ⟨#[]⟩) (n' := 0) (b' := false) (p' := 0) (kd' := 0) S0.out)
              have QB := Lib.hid (fpfin_below (fl' := ⟨#[]⟩) (n' := 0) (b' := false) (p' := 0) (kd' := 0) SB.out)
              obtain ⟨_, y0, y1, y2, y3, y4, _, _, _, _, _⟩ := QF.out
              generalize ((((((((w2.setCell ⟨B + 1, 1, none⟩ (.int .i64 (wd : Int))).setCell ⟨B + 1, 2, none⟩ (.bool true)).setCell ⟨B + 1, 3, none⟩ (.int .i64 pv)).setCell ⟨B, 0, none⟩ (.string ⟨#[]⟩)).setCell ⟨B, 1, none⟩ (.int .i64 0)).setCell ⟨B, 2, none⟩ (.bool false)).setCell ⟨B, 3, none⟩ (.int .i64 0)).setCell ⟨B, 4, none⟩ (.int .u8 0)) = WF at *
              have QB := Lib.hid (QB.out.mono (Nat.le_of_eq HBE.out.symm))
              clear QF
              exact bodyPost_ret (v := .tuple #[.agg #[.string ⟨#[]⟩, .int .i64 0, .bool false, .int .i64 0, .int .u8 0], .int .i64 0]) (by simp [results, Tryz.results45, go_sem, y0, y1, y2, y3, y4]) rfl ⟨QB.out, .inr (.inl ⟨HH.out, HX.out, rfl⟩)⟩
          · have hd := prT_pos (l := s.data.toList.drop ep) (by rw [← hpv]; omega)
            obtain ⟨hps, hdr, hpe⟩ := prT_at s ep (by rw [← hpv]; omega)
            have HP3 := Lib.hid (show rdP s.data.toList = rdP3 (s.data.toList.drop q) wd _ _ pv by
              rw [HP.out, drop_atL s e hes, hat46, ← hep, drop_atL s ep hps, rdP2_dot hdr, hpv, hpe, hq, show e + 2 = ep + 1 by omega])
            have hpv0 := Lib.hid (show (if pv < 0 then 0 else pv) = pv ∧ decide (0 ≤ pv) = true from ⟨if_neg hpn, by simp; omega⟩)
            by_cases hqs : q < s.size
            · have HP3 := Lib.hid (show rdP s.data.toList = rdP3 (s[q] :: s.data.toList.drop (q + 1)) wd _ _ pv by rw [HP3.out, drop_atL s q hqs])
              obtain ⟨q1, HNXe2⟩ : ∃ q1 : Nat, q1 = q + 1 := ⟨_, rfl⟩
              have hq1 : (q : Int) + 1 = (q1 : Int) := by omega
              have HNX := Lib.hid HNXe2
              have hat := hqs
              have hqn : ¬ (s.size : Int) ≤ (q : Int) := by omega
              clear h46 hat46 hep hq hpv hext hpe hdr HNXe2 hd
              have CX := Lib.hid (fun W => kind_any s[q] W)
              have z0 : (0 : Int) ≤ (q : Int) := by omega
              have z1 : (q : Int) < (s.size : Int) := by omega
              cases hk : kindB s[q]
              · have HX := Lib.hid (show rdP s.data.toList = none by rw [HP3.out]; exact rdP3_not hk)
                go_wp2_with (first | (go_at_call 90; refine (CP.out _).mono ?_; rintro e w' ⟨rfl, rfl⟩) | (go_at_call 62; refine (CH.out _).mono ?_; rintro e w' ⟨rfl, rfl⟩) | (go_at_call 91; refine (CX.out _).mono ?_; rintro e w' ⟨⟨z, rfl, hz⟩, rfl⟩; rw [hk] at hz))
                all_goals
                  have QF := Lib.hid (Fp5.fin (fl' := ⟨#[]⟩) (n' := 0) (b' := false) (p' := 0) (kd' := 0) S0.out)
                  have QB := Lib.hid (fpfin_below (fl' := ⟨#[]⟩) (n' := 0) (b' := false) (p' := 0) (kd' := 0) SB.out)
                  obtain ⟨_, y0, y1, y2, y3, y4, _, _, _, _, _⟩ := QF.out
                  generalize ((((((((w2.setCell ⟨B + 1, 1, none⟩ (.int .i64 (wd : Int))).setCell ⟨B + 1, 2, none⟩ (.bool true)).setCell ⟨B + 1, 3, none⟩ (.int .i64 pv)).setCell ⟨B, 0, none⟩ (.string ⟨#[]⟩)).setCell ⟨B, 1, none⟩ (.int .i64 0)).setCell ⟨B, 2, none⟩ (.bool false)).setCell ⟨B, 3, none⟩ (.int .i64 0)).setCell ⟨B, 4, none⟩ (.int .u8 0)) = WF at *
                  have QB := Lib.hid (QB.out.mono (Nat.le_of_eq HBE.out.symm))
                  clear QF
                  exact bodyPost_ret (v := .tuple #[.agg #[.string ⟨#[]⟩, .int .i64 0, .bool false, .int .i64 0, .int .u8 0], .int .i64 0]) (by simp [results, Tryz.results45, go_sem, y0, y1, y2, y3, y4]) rfl ⟨QB.out, .inr (.inl ⟨HH.out, HX.out, rfl⟩)⟩
              · have HX := Lib.hid (show rdP s.data.toList = some (⟨_, _, wd, pv, s[q]⟩, s.data.toList.drop (q + 1)) by rw [HP3.out]; exact rdP3_kind (by omega) hk)
                have RF := Lib.hid (S0.out.off (g' := B + 1) (j := 4) (by omega) (.int .u8 (s[q].toNat : Int)))
                have RG := Lib.hid (S1.out.set4 (s[q].toNat : Int))
                have HF2 := Lib.hid (SB.out.setCell (p := ⟨B + 1, 4, none⟩) (by simp) (.int .u8 (s[q].toNat : Int)))
                have HNN := Lib.hid (show ((s.size - (s.data.toList.drop (q + 1)).length : Nat) : Int) = (q1 : Int) by
                  have := HNX.out
                  rw [List.length_drop, show s.data.toList.length = s.size by simp]; omega)
                go_wp2_with (first | (go_at_call 90; refine (CP.out _).mono ?_; rintro e w' ⟨rfl, rfl⟩) | (go_at_call 62; refine (CH.out _).mono ?_; rintro e w' ⟨rfl, rfl⟩) | (go_at_call 91; refine (CX.out _).mono ?_; rintro e w' ⟨⟨z, rfl, hz⟩, rfl⟩; rw [hk] at hz))
                all_goals
                  have QF := Lib.hid (Fp5.fin (fl' := fl) (n' := (wd : Int)) (b' := true) (p' := pv) (kd' := (s[q].toNat : Int)) RF.out)
                  have QB := Lib.hid (fpfin_below (fl' := fl) (n' := (wd : Int)) (b' := true) (p' := pv) (kd' := (s[q].toNat : Int)) HF2.out)
                  obtain ⟨_, y0, y1, y2, y3, y4, _, _, _, _, _⟩ := QF.out
                  generalize (((((((((w2.setCell ⟨B + 1, 1, none⟩ (.int .i64 (wd : Int))).setCell ⟨B + 1, 2, none⟩ (.bool true)).setCell ⟨B + 1, 3, none⟩ (.int .i64 pv)).setCell ⟨B + 1, 4, none⟩ (.int .u8 (s[q].toNat : Int))).setCell ⟨B, 0, none⟩ (.string fl)).setCell ⟨B, 1, none⟩ (.int .i64 (wd : Int))).setCell ⟨B, 2, none⟩ (.bool true)).setCell ⟨B, 3, none⟩ (.int .i64 pv)).setCell ⟨B, 4, none⟩ (.int .u8 (s[q].toNat : Int))) = WF at *
                  have QB := Lib.hid (QB.out.mono (Nat.le_of_eq HBE.out.symm))
                  clear QF
                  exact bodyPost_ret (v := .tuple #[.agg #[.string fl, .int .i64 (wd : Int), .bool true, .int .i64 pv, .int .u8 (s[q].toNat : Int)], .int .i64 (q1 : Int)]) (by simp [results, Tryz.results45, go_sem, y0, y1, y2, y3, y4]) rfl ⟨QB.out, .inr (.inr ⟨_, _, HH.out, HX.out, by rw [HNN.out]; exact rp_eq (p := ⟨fa, fb, wd, pv, s[q]⟩) HFL.out hpv0.out⟩)⟩
            · have HX := Lib.hid (show rdP s.data.toList = none by rw [HP3.out, drop_endL s q (by omega)]; rfl)
              have hqe2 : (s.size : Int) ≤ (q : Int) := by omega
              clear h46 hat46 hep hq hpv hext hpe hdr hqs hd
              go_wp2_with (first | (go_at_call 90; refine (CP.out _).mono ?_; rintro e w' ⟨rfl, rfl⟩) | (go_at_call 62; refine (CH.out _).mono ?_; rintro e w' ⟨rfl, rfl⟩))
              all_goals
                have QF := Lib.hid (Fp5.fin (fl' := ⟨#[]⟩) (n' := 0) (b' := false) (p' := 0) (kd' := 0) S0.out)
                have QB := Lib.hid (fpfin_below (fl' := ⟨#[]⟩) (n' := 0) (b' := false) (p' := 0) (kd' := 0) SB.out)
                obtain ⟨_, y0, y1, y2, y3, y4, _, _, _, _, _⟩ := QF.out
                generalize ((((((((w2.setCell ⟨B + 1, 1, none⟩ (.int .i64 (wd : Int))).setCell ⟨B + 1, 2, none⟩ (.bool true)).setCell ⟨B + 1, 3, none⟩ (.int .i64 pv)).setCell ⟨B, 0, none⟩ (.string ⟨#[]⟩)).setCell ⟨B, 1, none⟩ (.int .i64 0)).setCell ⟨B, 2, none⟩ (.bool false)).setCell ⟨B, 3, none⟩ (.int .i64 0)).setCell ⟨B, 4, none⟩ (.int .u8 0)) = WF at *
                have QB := Lib.hid (QB.out.mono (Nat.le_of_eq HBE.out.symm))
                clear QF
                exact bodyPost_ret (v := .tuple #[.agg #[.string ⟨#[]⟩, .int .i64 0, .bool false, .int .i64 0, .int .u8 0], .int .i64 0]) (by simp [results, Tryz.results45, go_sem, y0, y1, y2, y3, y4]) rfl ⟨QB.out, .inr (.inl ⟨HH.out, HX.out, rfl⟩)⟩
        · have h46f : atB s e 46 = false := by simpa using h46
          rw [h46f] at CH
          by_cases hes : e < s.size
          · have HP3 := Lib.hid (show rdP s.data.toList = rdP3 (s[e] :: s.data.toList.drop (e + 1)) wd _ _ (-1) by
              rw [HP.out, drop_atL s e hes]; exact rdP2_other (rdQ_no (atB_nt h46f hes)))
            obtain ⟨e1, HNXe⟩ : ∃ e1 : Nat, e1 = e + 1 := ⟨_, rfl⟩
            have he1 : (e : Int) + 1 = (e1 : Int) := by omega
            have HNX := Lib.hid HNXe
            have hat := hes
            have hqn : ¬ (s.size : Int) ≤ (e : Int) := by omega
            clear h46 h46f HNXe
            have CX := Lib.hid (fun W => kind_any s[e] W)
            have z0 : (0 : Int) ≤ (e : Int) := by omega
            have z1 : (e : Int) < (s.size : Int) := by omega
            cases hk : kindB s[e]
            · have HX := Lib.hid (show rdP s.data.toList = none by rw [HP3.out]; exact rdP3_not hk)
              go_wp2_with (first | (go_at_call 62; refine (CH.out _).mono ?_; rintro e w' ⟨rfl, rfl⟩) | (go_at_call 91; refine (CX.out _).mono ?_; rintro e w' ⟨⟨z, rfl, hz⟩, rfl⟩; rw [hk] at hz))
              all_goals
                have QF := Lib.hid (Fp5.fin (fl' := ⟨#[]⟩) (n' := 0) (b' := false) (p' := 0) (kd' := 0) G0.out)
                have QB := Lib.hid (fpfin_below (fl' := ⟨#[]⟩) (n' := 0) (b' := false) (p' := 0) (kd' := 0) GB.out)
                obtain ⟨_, y0, y1, y2, y3, y4, _, _, _, _, _⟩ := QF.out
                generalize ((((((w2.setCell ⟨B + 1, 1, none⟩ (.int .i64 (wd : Int))).setCell ⟨B, 0, none⟩ (.string ⟨#[]⟩)).setCell ⟨B, 1, none⟩ (.int .i64 0)).setCell ⟨B, 2, none⟩ (.bool false)).setCell ⟨B, 3, none⟩ (.int .i64 0)).setCell ⟨B, 4, none⟩ (.int .u8 0)) = WF at *
                have QB := Lib.hid (QB.out.mono (Nat.le_of_eq HBE.out.symm))
                clear QF
                exact bodyPost_ret (v := .tuple #[.agg #[.string ⟨#[]⟩, .int .i64 0, .bool false, .int .i64 0, .int .u8 0], .int .i64 0]) (by simp [results, Tryz.results45, go_sem, y0, y1, y2, y3, y4]) rfl ⟨QB.out, .inr (.inl ⟨HH.out, HX.out, rfl⟩)⟩
            · have HX := Lib.hid (show rdP s.data.toList = some (⟨_, _, wd, (-1), s[e]⟩, s.data.toList.drop (e + 1)) by rw [HP3.out]; exact rdP3_kind (by omega) hk)
              have RF := Lib.hid (G0.out.off (g' := B + 1) (j := 4) (by omega) (.int .u8 (s[e].toNat : Int)))
              have RG := Lib.hid (G1.out.set4 (s[e].toNat : Int))
              have HF2 := Lib.hid (GB.out.setCell (p := ⟨B + 1, 4, none⟩) (by simp) (.int .u8 (s[e].toNat : Int)))
              have HNN := Lib.hid (show ((s.size - (s.data.toList.drop (e + 1)).length : Nat) : Int) = (e1 : Int) by
                have := HNX.out
                rw [List.length_drop, show s.data.toList.length = s.size by simp]; omega)
              go_wp2_with (first | (go_at_call 62; refine (CH.out _).mono ?_; rintro e w' ⟨rfl, rfl⟩) | (go_at_call 91; refine (CX.out _).mono ?_; rintro e w' ⟨⟨z, rfl, hz⟩, rfl⟩; rw [hk] at hz))
              all_goals
                have QF := Lib.hid (Fp5.fin (fl' := fl) (n' := (wd : Int)) (b' := false) (p' := 0) (kd' := (s[e].toNat : Int)) RF.out)
                have QB := Lib.hid (fpfin_below (fl' := fl) (n' := (wd : Int)) (b' := false) (p' := 0) (kd' := (s[e].toNat : Int)) HF2.out)
                obtain ⟨_, y0, y1, y2, y3, y4, _, _, _, _, _⟩ := QF.out
                generalize (((((((w2.setCell ⟨B + 1, 1, none⟩ (.int .i64 (wd : Int))).setCell ⟨B + 1, 4, none⟩ (.int .u8 (s[e].toNat : Int))).setCell ⟨B, 0, none⟩ (.string fl)).setCell ⟨B, 1, none⟩ (.int .i64 (wd : Int))).setCell ⟨B, 2, none⟩ (.bool false)).setCell ⟨B, 3, none⟩ (.int .i64 0)).setCell ⟨B, 4, none⟩ (.int .u8 (s[e].toNat : Int))) = WF at *
                have QB := Lib.hid (QB.out.mono (Nat.le_of_eq HBE.out.symm))
                clear QF
                exact bodyPost_ret (v := .tuple #[.agg #[.string fl, .int .i64 (wd : Int), .bool false, .int .i64 0, .int .u8 (s[e].toNat : Int)], .int .i64 (e1 : Int)]) (by simp [results, Tryz.results45, go_sem, y0, y1, y2, y3, y4]) rfl ⟨QB.out, .inr (.inr ⟨_, _, HH.out, HX.out, by rw [HNN.out]; exact rp_eq (p := ⟨fa, fb, wd, (-1), s[e]⟩) HFL.out ⟨if_pos (show (-1 : Int) < 0 by decide), show decide ((0 : Int) ≤ -1) = false by decide⟩⟩)⟩
          · have HX := Lib.hid (show rdP s.data.toList = none by rw [HP.out, drop_endL s e (by omega)]; rfl)
            have hqe2 : (s.size : Int) ≤ (e : Int) := by omega
            clear h46 h46f hes
            go_wp2_with (first | (go_at_call 62; refine (CH.out _).mono ?_; rintro e w' ⟨rfl, rfl⟩))
            all_goals
              have QF := Lib.hid (Fp5.fin (fl' := ⟨#[]⟩) (n' := 0) (b' := false) (p' := 0) (kd' := 0) G0.out)
              have QB := Lib.hid (fpfin_below (fl' := ⟨#[]⟩) (n' := 0) (b' := false) (p' := 0) (kd' := 0) GB.out)
              obtain ⟨_, y0, y1, y2, y3, y4, _, _, _, _, _⟩ := QF.out
              generalize ((((((w2.setCell ⟨B + 1, 1, none⟩ (.int .i64 (wd : Int))).setCell ⟨B, 0, none⟩ (.string ⟨#[]⟩)).setCell ⟨B, 1, none⟩ (.int .i64 0)).setCell ⟨B, 2, none⟩ (.bool false)).setCell ⟨B, 3, none⟩ (.int .i64 0)).setCell ⟨B, 4, none⟩ (.int .u8 0)) = WF at *
              have QB := Lib.hid (QB.out.mono (Nat.le_of_eq HBE.out.symm))
              clear QF
              exact bodyPost_ret (v := .tuple #[.agg #[.string ⟨#[]⟩, .int .i64 0, .bool false, .int .i64 0, .int .u8 0], .int .i64 0]) (by simp [results, Tryz.results45, go_sem, y0, y1, y2, y3, y4]) rfl ⟨QB.out, .inr (.inl ⟨HH.out, HX.out, rfl⟩)⟩
end Go.Proofs.YthffjcclcladoaaGreatDoor.kit
