/-
  Contracts of internal/strconv.formatBits at base 8 and 16 and of impl.Base over this seat's translation: a number's digits. Conditions: the table by which bits are told is as listed.
-/
import Derived.Test.YthffjcclcladoaaGreatDoorMBs0
import Derived.Test.YthffjcclcladoaaGreatDoorMBt0
namespace Go.Proofs.YthffjcclcladoaaGreatDoor.kit
open Go.ChangeShapes Go.WideShapes Go.ChangeAt Go.RowKit
set_option linter.unusedVariables false

theorem row_dropB {xs : List UInt8} {i : Nat} {c : UInt8} (h : i < xs.length) : (xs.set i c).drop i = c :: xs.drop (i + 1) := by
  rw [List.drop_eq_getElem_cons (by rw [List.length_set]; exact h), List.getElem_set_self, List.drop_set_of_lt (by omega)]
theorem zero65b (w : World) : Row (w.alloc (.cells Tryz.zeroCells221 221)) w.heap.size (List.replicate 65 0) := by
  intro j hj
  rw [List.length_replicate] at hj
  refine ⟨?_, World.frozen?_alloc_at _ _ _ _ rfl⟩
  rw [World.cell?_alloc_at _ _ _ _ rfl, List.getElem_replicate]
  have e : Tryz.zeroCells221 = (List.replicate 65 (Value.int .u8 0)).toArray := by kernel_rfl
  rw [e, List.getElem?_toArray, List.getElem?_replicate, if_pos hj]
  rfl
theorem add_atBb (b o k : Nat) : (⟨b, o, none⟩ : Addr).add k = ⟨b, o + k, none⟩ := by unfold Addr.add; split <;> simp_all
theorem slice65b (W : World) (g m : Nat) (h : m < 65) : (Instr.sliceAt 221 (.pointer (some ⟨g, 0, none⟩)) (some (.int .i64 (m : Int))) none none).run Tryz.prog W = .ok (.slice (some ⟨g, m, none⟩) (65 - m) (65 - m)) W := by
  have hlen : Tryz.prog.arrayLen 221 = 65 := by kernel_rfl
  have hsz : (sizeOf (Tryz.prog.elem 221)).run Tryz.prog W = .ok 1 W := by kernel_rfl
  have h1 := run_sliceAt_array_l (P := Tryz.prog) (w := W) (t := 221) (a := ⟨g, 0, none⟩) (by kernel_rfl) .i64 (m : Int) (by omega) (by rw [hlen]; omega)
  rw [h1, hlen, hsz]
  have hne : ¬ (65 : Nat) = m := by omega
  simp [slicedAt, hne, add_atBb]
theorem roomB {u u' i : Nat} (hm : u' * 2 ^ (65 - i) ≤ u) (hu : u < 2 ^ 64) (h : i = 65 ∨ 1 ≤ u') : 1 ≤ i ∧ u' < 2 ^ 64 := by
  constructor
  · rcases h with h | h
    · omega
    · by_cases c : i = 0
      · subst c
        have h2 : 1 * 2 ^ 65 ≤ u' * 2 ^ 65 := Nat.mul_le_mul_right _ h
        simp only [Nat.sub_zero] at hm
        have : (2 : Nat) ^ 64 < 2 ^ 65 := by decide
        omega
      · omega
  · have : u' * 1 ≤ u' * 2 ^ (65 - i) := Nat.mul_le_mul_left _ (Nat.two_pow_pos _)
    omega
theorem conv65 {w : World} {g m : Nat} {xs : List UInt8} (h : Row w g xs) (hl : xs.length = 65) (hm : m ≤ 65) :
    (convert 22 9 (.slice (some ⟨g, m, none⟩) (65 - m) (65 - m))).run Tryz.prog w = .ok (.string ⟨(xs.drop m).toArray⟩) w := by
  have hn : 65 - m = (xs.drop m).length := by rw [List.length_drop]; omega
  have key := run_convert_bytes_back (P := Tryz.prog) w 22 9 5 ⟨g, m, none⟩ (65 - m) (xs.drop m) Tryz.underlying22 Tryz.underlying5 Tryz.underlying9 (fun j hj => by
    rw [add_atBb]
    rw [List.length_drop] at hj
    have := (h (m + j) (by omega)).1
    rw [List.getElem_drop]; exact this)
  rwa [← hn] at key
theorem pow2_8 (w : World) : Calls Tryz.prog 170 #[.int .i64 8] w fun e w' => e = .returned (.bool true) ∧ w = w' := by
  have h : bits .and .i64 8 7 = 0 := by decide
  go_enter Tryz.func170, Tryz.ntmps170
  go_wp2_with fail
  go_ret
  exact ⟨rfl, rfl⟩
theorem tz_8 (w : World) (hT : BT w) : Calls Tryz.prog 171 #[.int .u64 8] w fun e w' => e = .returned (.int .i64 3) ∧ w = w' := by
  have := tzs_any 8 (by decide) (by decide) w hT
  rwa [show Lib.ctz 64 8 = 3 by decide +kernel] at this
theorem and_8 (u : Nat) (h : u < 2 ^ 64) : bits .and .u64 (u : Int) 7 = (u : Int) % 8 := by
  have := (bits_nat .u64 64 (by decide) (fun n h0 h => wrap_u64b n h0 (by simpa using h)) u 7 h (by decide)).1
  rw [show ((7 : Nat) : Int) = 7 from rfl] at this
  rw [this, show (7 : Nat) = 2 ^ 3 - 1 from rfl, Nat.and_two_pow_sub_one_eq_mod]
  omega
set_option maxRecDepth 100000 in
set_option maxHeartbeats 1000000 in
theorem bits8_any (u : Nat) (w : World) (hu : u < 2 ^ 64) (hT : BT w) :
    Calls Tryz.prog 141 #[.slice none 0 0, .int .u64 (u : Int), .int .i64 8, .bool false, .bool false] w fun e w' => e = .returned (.tuple #[.slice none 0 0, .string ⟨(bdg 8 u).toArray⟩]) ∧ Below w.heap.size w w' := by
  have HT := Lib.hid hT
  have HP := Lib.hid (pow2_8)
  have HTZ := Lib.hid (tz_8)
  clear hT
  have hb1 : IntKind.u64.wrap 7 = 7 := by decide
  have hb2 : IntKind.u64.wrap 15 = 15 := by decide
  have HR0 := Lib.hid (zero65b w)
  have HBA := Lib.hid (show ∀ o, Below w.heap.size w (w.alloc o) from fun o => (Below.refl _ w).alloc (Nat.le_refl _) o)
  have HTA := Lib.hid (show ∀ o, BT (w.alloc o) from fun o => HT.out.kept (HBA.out o))
  have HU := Lib.hid hu
  clear hu
  go_enter Tryz.func141, Tryz.ntmps141
  go_wp2_with fail
  refine (HP.out _).mono ?_
  rintro en w1 ⟨rfl, rfl⟩
  go_wp2_with fail
  refine (HTZ.out _ (HTA.out _)).mono ?_
  rintro en w1 ⟨rfl, rfl⟩
  go_wp2_with fail
  go_loopw [1, 13] (fun su si wr => ∃ (u' i : Nat) (zs : List UInt8), su = .int .u64 (u' : Int) ∧ si = .int .i64 (i : Int) ∧ i ≤ 65 ∧ zs.length = 65 ∧ Row wr w.heap.size zs ∧ Below w.heap.size w wr ∧ bdg 8 u = bdg 8 u' ++ zs.drop i ∧ u' * 2 ^ (65 - i) ≤ u ∧ (i = 65 ∨ 1 ≤ u')) (fun su _ _ => (intOf su).toNat)
  case atStart => exact ⟨u, 65, List.replicate 65 0, rfl, rfl, by omega, by simp, HR0.out, HBA.out _, by rw [List.drop_eq_nil_of_le (by simp), List.append_nil], by simp, .inl rfl⟩
  case round =>
    obtain ⟨u', i, zs, rfl, rfl, hi, hzl, hrow, hbl, hd, hm, h1⟩ := hrel
    obtain ⟨hi1, hu64⟩ := roomB hm HU.out h1
    have HBL := Lib.hid hbl
    have HROW := Lib.hid hrow
    obtain ⟨m, rfl⟩ : ∃ m, i = m + 1 := ⟨i - 1, by omega⟩
    have hml : m < zs.length := by omega
    have HZL := Lib.hid hzl
    have HM := Lib.hid hm
    have HD := Lib.hid hd
    have HH := Lib.hid h1
    have hc0 := (hrow m hml).1
    have hf0 := (hrow m hml).2
    generalize zs[m] = z0 at *
    have j0 : (0 : Int) ≤ (m : Int) := by omega
    have j1 : (m : Int) < 65 := by omega
    have hm1 : ((m + 1 : Nat) : Int) - 1 = (m : Int) := by omega
    have HMB := Lib.hid (show m + 1 ≤ 65 from hi)
    clear hi hzl hrow hbl hd hm h1 hi1 hml
    by_cases hlt : 8 ≤ u'
    · obtain ⟨q, hq⟩ : ∃ q, q = u' / 8 := ⟨_, rfl⟩
      obtain ⟨d, hd⟩ : ∃ d, d = u' % 8 := ⟨_, rfl⟩
      have hd16 : d < 16 := by omega
      have hdg := fun hs => digit36_at d hd16 hs
      have hand : bits .and .u64 (u' : Int) 7 = (d : Int) := by rw [and_8 u' hu64]; omega
      have hshr : (u' : Int) / 2 ^ 3 = (q : Int) := by omega
      have hshr2 : (u' : Int) / 8 = (q : Int) := by omega
      have hdi : (d : Int) < 36 := by omega
      have hdi0 : (0 : Int) ≤ (d : Int) := by omega
      have HDQ := Lib.hid (show bdg 8 u' = bdg 8 q ++ [hexD d] by rw [hq, hd]; exact bdg_big (by omega) hlt)
      have hge : (8 : Int) ≤ (u' : Int) := by omega
      have hwu : IntKind.u64.wrap (u' : Int) = (u' : Int) := wrap_u64b _ (by omega) (by simp only [Nat.reducePow] at hu64; omega)
      have HQ := Lib.hid (show q < u' ∧ 1 ≤ q ∧ q * 2 ≤ u' by omega)
      have HU64 := Lib.hid hu64
      clear hu64 hq hd hlt hm1
      have HSTR := Lib.hid (HROW.out.store m (by rw [HZL.out]; have := HMB.out; omega) (hexD d))
      go_wp2_with fail
      go_roundw
      case measure => simp [intOf]; have := HQ.out; omega
      case rel =>
        refine ⟨q, m, zs.set m (hexD d), rfl, rfl, by have := HMB.out; omega, by rw [List.length_set]; exact HZL.out, HSTR.out, HBL.out.setCell (Nat.le_refl _) _, ?_, ?_, .inr HQ.out.2.1⟩
        · rw [HD.out, HDQ.out, row_dropB (by rw [HZL.out]; have := HMB.out; omega)]; simp
        · have h2 := HM.out
          have h3 : 2 ^ (65 - m) = 2 * 2 ^ (65 - (m + 1)) := by
            rw [show 65 - m = (65 - (m + 1)) + 1 by have := HMB.out; omega, Nat.pow_succ]; omega
          rw [h3, ← Nat.mul_assoc]
          exact Nat.le_trans (Nat.mul_le_mul_right _ HQ.out.2.2) h2
    · have hd16 : u' < 16 := by omega
      have hdg := fun hs => digit36_at u' hd16 hs
      have hge : ¬ (8 : Int) ≤ (u' : Int) := by omega
      have hwu : IntKind.u64.wrap (u' : Int) = (u' : Int) := wrap_u64b _ (by omega) (by simp only [Nat.reducePow] at hu64; omega)
      have hdi : (u' : Int) < 36 := by omega
      have hdi0 : (0 : Int) ≤ (u' : Int) := by omega
      have HDQ := Lib.hid (show bdg 8 u' = [hexD u'] from bdg_small (by omega))
      have HSTR := Lib.hid (HROW.out.store m (by rw [HZL.out]; have := HMB.out; omega) (hexD u'))
      have HBS := Lib.hid (show Below w.heap.size w (wr.setCell ⟨w.heap.size, m, none⟩ (.int .u8 ((hexD u').toNat : Int))) from HBL.out.setCell (Nat.le_refl _) _)
      have HRES := Lib.hid (show (zs.set m (hexD u')).drop m = bdg 8 u by rw [HD.out, HDQ.out, row_dropB (by rw [HZL.out]; have := HMB.out; omega)]; simp)
      have HCV := Lib.hid (conv65 (m := m) HSTR.out (by rw [List.length_set]; exact HZL.out) (by have := HMB.out; omega))
      rw [HRES.out] at HCV
      have hnw : (65 : Int) - (m : Int) = ((65 - m : Nat) : Int) := by have := HMB.out; omega
      clear hu64 hlt hm1 HRES
      have hsl := fun W => slice65b W w.heap.size m (by omega)
      have hcv := HCV.out
      go_wp2_with fail
      go_ret2
      exact ⟨rfl, HBS.out⟩
theorem fmt8_any (u : Nat) (w : World) (hu : u < 2 ^ 64) (hT : BT w) :
    Calls Tryz.prog 105 #[.int .u64 (u : Int), .int .i64 8] w fun e w' => e = .returned (.string ⟨(bdg 8 u).toArray⟩) ∧ Below w.heap.size w w' := by
  have HC := Lib.hid (bits8_any u w hu hT)
  clear hu hT
  go_enter Tryz.func105, Tryz.ntmps105
  go_wp2_with fail
  refine HC.out.mono ?_
  rintro en w1 ⟨rfl, h2⟩
  go_wp2_with fail
  go_ret
  exact ⟨rfl, h2⟩
theorem pubfmt8_any (u : Nat) (w : World) (hu : u < 2 ^ 64) (hT : BT w) :
    Calls Tryz.prog 58 #[.int .u64 (u : Int), .int .i64 8] w fun e w' => e = .returned (.string ⟨(bdg 8 u).toArray⟩) ∧ Below w.heap.size w w' := by
  have HC := Lib.hid (fmt8_any u w hu hT)
  clear hu hT
  go_enter Tryz.func58, Tryz.ntmps58
  go_wp2_with fail
  refine HC.out.mono ?_
  rintro en w1 ⟨rfl, h2⟩
  go_wp2_with fail
  go_ret
  exact ⟨rfl, h2⟩
theorem implBase8 (N : Nat) (n : Int) (w : World) (hN : N < 18446744073709551616) (hw : IntKind.u64.wrap n = (N : Int)) (hT : BT w) :
    Calls Tryz.prog 19 #[.int .i64 n, .int .i64 8] w fun e w' => e = .returned (.string ⟨(bdg 8 N).toArray⟩) ∧ Below w.heap.size w w' := by
  have HC := Lib.hid (pubfmt8_any N w (by simpa using hN) hT)
  clear hN hT
  go_enter Tryz.func19, Tryz.ntmps19
  go_wp2_with fail
  refine HC.out.mono ?_
  rintro en w1 ⟨rfl, h2⟩
  go_wp2_with fail
  go_ret
  exact ⟨rfl, h2⟩
theorem pow2_16 (w : World) : Calls Tryz.prog 170 #[.int .i64 16] w fun e w' => e = .returned (.bool true) ∧ w = w' := by
  have h : bits .and .i64 16 15 = 0 := by decide
  go_enter Tryz.func170, Tryz.ntmps170
  go_wp2_with fail
  go_ret
  exact ⟨rfl, rfl⟩
theorem tz_16 (w : World) (hT : BT w) : Calls Tryz.prog 171 #[.int .u64 16] w fun e w' => e = .returned (.int .i64 4) ∧ w = w' := by
  have := tzs_any 16 (by decide) (by decide) w hT
  rwa [show Lib.ctz 64 16 = 4 by decide +kernel] at this
theorem and_16 (u : Nat) (h : u < 2 ^ 64) : bits .and .u64 (u : Int) 15 = (u : Int) % 16 := by
  have := (bits_nat .u64 64 (by decide) (fun n h0 h => wrap_u64b n h0 (by simpa using h)) u 15 h (by decide)).1
  rw [show ((15 : Nat) : Int) = 15 from rfl] at this
  rw [this, show (15 : Nat) = 2 ^ 4 - 1 from rfl, Nat.and_two_pow_sub_one_eq_mod]
  omega
set_option maxRecDepth 100000 in
set_option maxHeartbeats 1000000 in
theorem bits16_any (u : Nat) (w : World) (hu : u < 2 ^ 64) (hT : BT w) :
    Calls Tryz.prog 141 #[.slice none 0 0, .int .u64 (u : Int), .int .i64 16, .bool false, .bool false] w fun e w' => e = .returned (.tuple #[.slice none 0 0, .string ⟨(bdg 16 u).toArray⟩]) ∧ Below w.heap.size w w' := by
  have HT := Lib.hid hT
  have HP := Lib.hid (pow2_16)
  have HTZ := Lib.hid (tz_16)
  clear hT
  have hb1 : IntKind.u64.wrap 7 = 7 := by decide
  have hb2 : IntKind.u64.wrap 15 = 15 := by decide
  have HR0 := Lib.hid (zero65b w)
  have HBA := Lib.hid (show ∀ o, Below w.heap.size w (w.alloc o) from fun o => (Below.refl _ w).alloc (Nat.le_refl _) o)
  have HTA := Lib.hid (show ∀ o, BT (w.alloc o) from fun o => HT.out.kept (HBA.out o))
  have HU := Lib.hid hu
  clear hu
  go_enter Tryz.func141, Tryz.ntmps141
  go_wp2_with fail
  refine (HP.out _).mono ?_
  rintro en w1 ⟨rfl, rfl⟩
  go_wp2_with fail
  refine (HTZ.out _ (HTA.out _)).mono ?_
  rintro en w1 ⟨rfl, rfl⟩
  go_wp2_with fail
  go_loopw [1, 13] (fun su si wr => ∃ (u' i : Nat) (zs : List UInt8), su = .int .u64 (u' : Int) ∧ si = .int .i64 (i : Int) ∧ i ≤ 65 ∧ zs.length = 65 ∧ Row wr w.heap.size zs ∧ Below w.heap.size w wr ∧ bdg 16 u = bdg 16 u' ++ zs.drop i ∧ u' * 2 ^ (65 - i) ≤ u ∧ (i = 65 ∨ 1 ≤ u')) (fun su _ _ => (intOf su).toNat)
  case atStart => exact ⟨u, 65, List.replicate 65 0, rfl, rfl, by omega, by simp, HR0.out, HBA.out _, by rw [List.drop_eq_nil_of_le (by simp), List.append_nil], by simp, .inl rfl⟩
  case round =>
    obtain ⟨u', i, zs, rfl, rfl, hi, hzl, hrow, hbl, hd, hm, h1⟩ := hrel
    obtain ⟨hi1, hu64⟩ := roomB hm HU.out h1
    have HBL := Lib.hid hbl
    have HROW := Lib.hid hrow
    obtain ⟨m, rfl⟩ : ∃ m, i = m + 1 := ⟨i - 1, by omega⟩
    have hml : m < zs.length := by omega
    have HZL := Lib.hid hzl
    have HM := Lib.hid hm
    have HD := Lib.hid hd
    have HH := Lib.hid h1
    have hc0 := (hrow m hml).1
    have hf0 := (hrow m hml).2
    generalize zs[m] = z0 at *
    have j0 : (0 : Int) ≤ (m : Int) := by omega
    have j1 : (m : Int) < 65 := by omega
    have hm1 : ((m + 1 : Nat) : Int) - 1 = (m : Int) := by omega
    have HMB := Lib.hid (show m + 1 ≤ 65 from hi)
    clear hi hzl hrow hbl hd hm h1 hi1 hml
    by_cases hlt : 16 ≤ u'
    · obtain ⟨q, hq⟩ : ∃ q, q = u' / 16 := ⟨_, rfl⟩
      obtain ⟨d, hd⟩ : ∃ d, d = u' % 16 := ⟨_, rfl⟩
      have hd16 : d < 16 := by omega
      have hdg := fun hs => digit36_at d hd16 hs
      have hand : bits .and .u64 (u' : Int) 15 = (d : Int) := by rw [and_16 u' hu64]; omega
      have hshr : (u' : Int) / 2 ^ 4 = (q : Int) := by omega
      have hshr2 : (u' : Int) / 16 = (q : Int) := by omega
      have hdi : (d : Int) < 36 := by omega
      have hdi0 : (0 : Int) ≤ (d : Int) := by omega
      have HDQ := Lib.hid (show bdg 16 u' = bdg 16 q ++ [hexD d] by rw [hq, hd]; exact bdg_big (by omega) hlt)
      have hge : (16 : Int) ≤ (u' : Int) := by omega
      have hwu : IntKind.u64.wrap (u' : Int) = (u' : Int) := wrap_u64b _ (by omega) (by simp only [Nat.reducePow] at hu64; omega)
      have HQ := Lib.hid (show q < u' ∧ 1 ≤ q ∧ q * 2 ≤ u' by omega)
      have HU64 := Lib.hid hu64
      clear hu64 hq hd hlt hm1
      have HSTR := Lib.hid (HROW.out.store m (by rw [HZL.out]; have := HMB.out; omega) (hexD d))
      go_wp2_with fail
      go_roundw
      case measure => simp [intOf]; have := HQ.out; omega
      case rel =>
        refine ⟨q, m, zs.set m (hexD d), rfl, rfl, by have := HMB.out; omega, by rw [List.length_set]; exact HZL.out, HSTR.out, HBL.out.setCell (Nat.le_refl _) _, ?_, ?_, .inr HQ.out.2.1⟩
        · rw [HD.out, HDQ.out, row_dropB (by rw [HZL.out]; have := HMB.out; omega)]; simp
        · have h2 := HM.out
          have h3 : 2 ^ (65 - m) = 2 * 2 ^ (65 - (m + 1)) := by
            rw [show 65 - m = (65 - (m + 1)) + 1 by have := HMB.out; omega, Nat.pow_succ]; omega
          rw [h3, ← Nat.mul_assoc]
          exact Nat.le_trans (Nat.mul_le_mul_right _ HQ.out.2.2) h2
    · have hd16 : u' < 16 := by omega
      have hdg := fun hs => digit36_at u' hd16 hs
      have hge : ¬ (16 : Int) ≤ (u' : Int) := by omega
      have hwu : IntKind.u64.wrap (u' : Int) = (u' : Int) := wrap_u64b _ (by omega) (by simp only [Nat.reducePow] at hu64; omega)
      have hdi : (u' : Int) < 36 := by omega
      have hdi0 : (0 : Int) ≤ (u' : Int) := by omega
      have HDQ := Lib.hid (show bdg 16 u' = [hexD u'] from bdg_small (by omega))
      have HSTR := Lib.hid (HROW.out.store m (by rw [HZL.out]; have := HMB.out; omega) (hexD u'))
      have HBS := Lib.hid (show Below w.heap.size w (wr.setCell ⟨w.heap.size, m, none⟩ (.int .u8 ((hexD u').toNat : Int))) from HBL.out.setCell (Nat.le_refl _) _)
      have HRES := Lib.hid (show (zs.set m (hexD u')).drop m = bdg 16 u by rw [HD.out, HDQ.out, row_dropB (by rw [HZL.out]; have := HMB.out; omega)]; simp)
      have HCV := Lib.hid (conv65 (m := m) HSTR.out (by rw [List.length_set]; exact HZL.out) (by have := HMB.out; omega))
      rw [HRES.out] at HCV
      have hnw : (65 : Int) - (m : Int) = ((65 - m : Nat) : Int) := by have := HMB.out; omega
      clear hu64 hlt hm1 HRES
      have hsl := fun W => slice65b W w.heap.size m (by omega)
      have hcv := HCV.out
      go_wp2_with fail
      go_ret2
      exact ⟨rfl, HBS.out⟩
theorem fmt16_any (u : Nat) (w : World) (hu : u < 2 ^ 64) (hT : BT w) :
    Calls Tryz.prog 105 #[.int .u64 (u : Int), .int .i64 16] w fun e w' => e = .returned (.string ⟨(bdg 16 u).toArray⟩) ∧ Below w.heap.size w w' := by
  have HC := Lib.hid (bits16_any u w hu hT)
  clear hu hT
  go_enter Tryz.func105, Tryz.ntmps105
  go_wp2_with fail
  refine HC.out.mono ?_
  rintro en w1 ⟨rfl, h2⟩
  go_wp2_with fail
  go_ret
  exact ⟨rfl, h2⟩
theorem pubfmt16_any (u : Nat) (w : World) (hu : u < 2 ^ 64) (hT : BT w) :
    Calls Tryz.prog 58 #[.int .u64 (u : Int), .int .i64 16] w fun e w' => e = .returned (.string ⟨(bdg 16 u).toArray⟩) ∧ Below w.heap.size w w' := by
  have HC := Lib.hid (fmt16_any u w hu hT)
  clear hu hT
  go_enter Tryz.func58, Tryz.ntmps58
  go_wp2_with fail
  refine HC.out.mono ?_
  rintro en w1 ⟨rfl, h2⟩
  go_wp2_with fail
  go_ret
  exact ⟨rfl, h2⟩
theorem implBase16 (N : Nat) (n : Int) (w : World) (hN : N < 18446744073709551616) (hw : IntKind.u64.wrap n = (N : Int)) (hT : BT w) :
    Calls Tryz.prog 19 #[.int .i64 n, .int .i64 16] w fun e w' => e = .returned (.string ⟨(bdg 16 N).toArray⟩) ∧ Below w.heap.size w w' := by
  have HC := Lib.hid (pubfmt16_any N w (by simpa using hN) hT)
  clear hN hT
  go_enter Tryz.func19, Tryz.ntmps19
  go_wp2_with fail
  refine HC.out.mono ?_
  rintro en w1 ⟨rfl, h2⟩
  go_wp2_with fail
  go_ret
  exact ⟨rfl, h2⟩
theorem implBase_out (n b : Int) (w : World) (h : b ≠ 8 ∧ b ≠ 16) :
    Calls Tryz.prog 19 #[.int .i64 n, .int .i64 b] w fun e w' => e = .returned (.string ⟨#[]⟩) ∧ Below w.heap.size w w' := by
  have h1 : (b != 8) = true := by simpa using h.1
  have h2 : (b != 16) = true := by simpa using h.2
  clear h
  go_enter Tryz.func19, Tryz.ntmps19
  go_wp2
  go_ret
  exact ⟨rfl, Below.refl _ _⟩
theorem implBase_any (n b : Int) (w : World) (h1 : -9223372036854775808 ≤ n) (h2 : n ≤ 9223372036854775807) (hT : BT w) :
    Calls Tryz.prog 19 #[.int .i64 n, .int .i64 b] w fun e w' => e = .returned (.string ⟨(bsT n b).toArray⟩) ∧ Below w.heap.size w w' := by
  obtain ⟨N, hN, hw, he⟩ := u64_of n h1 h2
  by_cases c : b = 8 ∨ b = 16
  · rw [bsT, if_pos c, he]
    rcases c with rfl | rfl
    · exact implBase8 N n w hN hw hT
    · exact implBase16 N n w hN hw hT
  · rw [bsT, if_neg c]
    exact implBase_out n b w (by omega)
end Go.Proofs.YthffjcclcladoaaGreatDoor.kit
