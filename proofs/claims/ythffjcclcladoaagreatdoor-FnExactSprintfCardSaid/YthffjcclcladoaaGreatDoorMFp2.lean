/-
  Contract of spec.l08Read over this seat's translation. Conditions: a text of at most 1048576 bytes.
-/
import Derived.Test.YthffjcclcladoaaGreatDoorMFp1
import Derived.Deep.LoopGhost
import Derived.StillTailTactics
namespace Go.Proofs.YthffjcclcladoaaGreatDoor.kit
open Go.ChangeShapes Go.WideShapes Go.ChangeAt Go.RowKit
set_option linter.unusedVariables false

set_option maxRecDepth 100000 in
set_option maxHeartbeats 4000000 in
theorem read_any (s : ByteArray) (i : Nat) (w : World) (hs : s.size ≤ 1048576) (hi : i ≤ s.size) :
    Calls Tryz.prog 47 #[.string s, .int .i64 (i : Int)] w (RdPost w s.size (s.data.toList.drop i)) := by
  have HS := Lib.hid hs
  have P0 := Lib.hid (pl5_zero w 76 false false 0 0 0)
  have HB0 := Lib.hid (show ∀ o o', Below w.heap.size w ((w.alloc o).alloc o') from fun o o' => ((Below.refl _ w).alloc (Nat.le_refl _) o).alloc (by simp) o')
  have P1 := Lib.hid (fun o => P0.out.kept (w' := (w.alloc (.cells #[.bool false, .bool false, .int .i64 0, .int .i64 0, .int .u8 0] 76)).alloc o) ((Below.refl _ _).alloc (Nat.le_refl _) o))
  have P2 := Lib.hid (show Pl5 ((w.alloc (.cells #[.bool false, .bool false, .int .i64 0, .int .i64 0, .int .u8 0] 76)).alloc (.cells #[.bool false, .bool false, .int .i64 0, .int .i64 (-1), .int .u8 0] 76)) (w.heap.size + 1) false false 0 (-1) 0 from by
    have := pl5_zero (w.alloc (.cells #[.bool false, .bool false, .int .i64 0, .int .i64 0, .int .u8 0] 76)) 76 false false 0 (-1) 0
    rwa [World.size_alloc] at this)
  obtain ⟨B, hB⟩ : ∃ B, B = w.heap.size := ⟨_, rfl⟩
  rw [← hB] at P1 P2
  clear P0
  go_enter Tryz.func47, Tryz.ntmps47
  go_wp2_with fail
  rw [← hB]
  have P1 := Lib.hid (P1.out (.cells #[.bool false, .bool false, .int .i64 0, .int .i64 (-1), .int .u8 0] 76))
  have HB0 := Lib.hid (HB0.out (.cells #[.bool false, .bool false, .int .i64 0, .int .i64 0, .int .u8 0] 76) (.cells #[.bool false, .bool false, .int .i64 0, .int .i64 (-1), .int .u8 0] 76))
  generalize hW0 : (w.alloc (.cells #[.bool false, .bool false, .int .i64 0, .int .i64 0, .int .u8 0] 76)).alloc (.cells #[.bool false, .bool false, .int .i64 0, .int .i64 (-1), .int .u8 0] 76) = W0 at *
  have HBE := Lib.hid hB
  rw [← hB] at HB0
  have HI := Lib.hid hi
  clear hW0 hB hi
  go_loopg [1] (s.size - i) (fun gg si wr => ∃ (k : Nat) (a b : Bool), k + gg = s.size ∧ si = .int .i64 (k : Int) ∧ i ≤ k ∧ k ≤ s.size ∧ rdF (s.data.toList.drop i) false false = rdF (s.data.toList.drop k) a b ∧ Pl5 wr B false false 0 0 0 ∧ Pl5 wr (B + 1) a b 0 (-1) 0 ∧ Below B w wr)
  case atStart => exact ⟨i, false, false, by have := HI.out; omega, rfl, Nat.le_refl _, HI.out, rfl, P1.out, P2.out, HB0.out⟩
  case round =>
    obtain ⟨k, a, b, hkg, rfl, hik, hk, hrd, r0, r1, hb⟩ := hrel
    have HR := Lib.hid hrd
    have R0 := Lib.hid r0
    have R1 := Lib.hid r1
    have HB := Lib.hid hb
    have HK := Lib.hid (show k + gk = s.size ∧ i ≤ k from ⟨hkg, hik⟩)
    clear hrd r0 r1 hb
    by_cases hlt : k < s.size
    · by_cases h45 : s[k] = 45 ∨ s[k] = 48
      · rcases h45 with h45 | h45
        · have x45 : ((s[k].toNat : Int) == 45) = true := by rw [h45]; rfl
          have x48 : ((s[k].toNat : Int) == 48) = false := by rw [h45]; rfl
          have HR2 := Lib.hid (show rdF (s.data.toList.drop i) false false = rdF (s.data.toList.drop (k + 1)) true b by
            rw [HR.out, drop_atL s k hlt, rdF_step (isFl_45 _ h45), h45]; cases a <;> cases b <;> rfl)
          clear h45
          cases a
          · cases b
            · have Q0 := Lib.hid ((R0.out.off (g' := B + 1) (j := 0) (by omega) (.bool true)).off (g' := B + 1) (j := 1) (by omega) (.bool false))
              have Q1 := Lib.hid ((R1.out.set0 true).set1 false)
              have QB := Lib.hid ((HB.out.setCell (p := ⟨B + 1, 0, none⟩) (by simp) (.bool true)).setCell (p := ⟨B + 1, 1, none⟩) (by simp) (.bool false))
              obtain ⟨lt0, c00, c01, c02, c03, c04, f00, f01, f02, f03, f04⟩ := R0.out
              obtain ⟨lt1, c10, c11, c12, c13, c14, f10, f11, f12, f13, f14⟩ := R1.out
              have s01 := (R1.out.set0 true).c1
              have s02 := (R1.out.set0 true).f1
              go_wp2_with fail
              go_roundg (s.size - (k + 1))
              case measure => omega
              case rel => exact ⟨k + 1, _, _, by omega, by go_num, by omega, by omega, HR2.out, Q0.out, Q1.out, QB.out⟩
            · have Q0 := Lib.hid ((R0.out.off (g' := B + 1) (j := 0) (by omega) (.bool true)).off (g' := B + 1) (j := 1) (by omega) (.bool true))
              have Q1 := Lib.hid ((R1.out.set0 true).set1 true)
              have QB := Lib.hid ((HB.out.setCell (p := ⟨B + 1, 0, none⟩) (by simp) (.bool true)).setCell (p := ⟨B + 1, 1, none⟩) (by simp) (.bool true))
              obtain ⟨lt0, c00, c01, c02, c03, c04, f00, f01, f02, f03, f04⟩ := R0.out
              obtain ⟨lt1, c10, c11, c12, c13, c14, f10, f11, f12, f13, f14⟩ := R1.out
              have s01 := (R1.out.set0 true).c1
              have s02 := (R1.out.set0 true).f1
              go_wp2_with fail
              go_roundg (s.size - (k + 1))
              case measure => omega
              case rel => exact ⟨k + 1, _, _, by omega, by go_num, by omega, by omega, HR2.out, Q0.out, Q1.out, QB.out⟩
          · cases b
            · have Q0 := Lib.hid ((R0.out.off (g' := B + 1) (j := 0) (by omega) (.bool true)).off (g' := B + 1) (j := 1) (by omega) (.bool false))
              have Q1 := Lib.hid ((R1.out.set0 true).set1 false)
              have QB := Lib.hid ((HB.out.setCell (p := ⟨B + 1, 0, none⟩) (by simp) (.bool true)).setCell (p := ⟨B + 1, 1, none⟩) (by simp) (.bool false))
              obtain ⟨lt0, c00, c01, c02, c03, c04, f00, f01, f02, f03, f04⟩ := R0.out
              obtain ⟨lt1, c10, c11, c12, c13, c14, f10, f11, f12, f13, f14⟩ := R1.out
              have s01 := (R1.out.set0 true).c1
              have s02 := (R1.out.set0 true).f1
              go_wp2_with fail
              go_roundg (s.size - (k + 1))
              case measure => omega
              case rel => exact ⟨k + 1, _, _, by omega, by go_num, by omega, by omega, HR2.out, Q0.out, Q1.out, QB.out⟩
            · have Q0 := Lib.hid ((R0.out.off (g' := B + 1) (j := 0) (by omega) (.bool true)).off (g' := B + 1) (j := 1) (by omega) (.bool true))
              have Q1 := Lib.hid ((R1.out.set0 true).set1 true)
              have QB := Lib.hid ((HB.out.setCell (p := ⟨B + 1, 0, none⟩) (by simp) (.bool true)).setCell (p := ⟨B + 1, 1, none⟩) (by simp) (.bool true))
              obtain ⟨lt0, c00, c01, c02, c03, c04, f00, f01, f02, f03, f04⟩ := R0.out
              obtain ⟨lt1, c10, c11, c12, c13, c14, f10, f11, f12, f13, f14⟩ := R1.out
              have s01 := (R1.out.set0 true).c1
              have s02 := (R1.out.set0 true).f1
              go_wp2_with fail
              go_roundg (s.size - (k + 1))
              case measure => omega
              case rel => exact ⟨k + 1, _, _, by omega, by go_num, by omega, by omega, HR2.out, Q0.out, Q1.out, QB.out⟩
        · have x45 : ((s[k].toNat : Int) == 45) = false := by rw [h45]; rfl
          have x48 : ((s[k].toNat : Int) == 48) = true := by rw [h45]; rfl
          have HR2 := Lib.hid (show rdF (s.data.toList.drop i) false false = rdF (s.data.toList.drop (k + 1)) a true by
            rw [HR.out, drop_atL s k hlt, rdF_step (isFl_48 _ h45), h45]; cases a <;> cases b <;> rfl)
          clear h45
          cases a
          · cases b
            · have Q0 := Lib.hid ((R0.out.off (g' := B + 1) (j := 0) (by omega) (.bool false)).off (g' := B + 1) (j := 1) (by omega) (.bool true))
              have Q1 := Lib.hid ((R1.out.set0 false).set1 true)
              have QB := Lib.hid ((HB.out.setCell (p := ⟨B + 1, 0, none⟩) (by simp) (.bool false)).setCell (p := ⟨B + 1, 1, none⟩) (by simp) (.bool true))
              obtain ⟨lt0, c00, c01, c02, c03, c04, f00, f01, f02, f03, f04⟩ := R0.out
              obtain ⟨lt1, c10, c11, c12, c13, c14, f10, f11, f12, f13, f14⟩ := R1.out
              have s01 := (R1.out.set0 false).c1
              have s02 := (R1.out.set0 false).f1
              go_wp2_with fail
              go_roundg (s.size - (k + 1))
              case measure => omega
              case rel => exact ⟨k + 1, _, _, by omega, by go_num, by omega, by omega, HR2.out, Q0.out, Q1.out, QB.out⟩
            · have Q0 := Lib.hid ((R0.out.off (g' := B + 1) (j := 0) (by omega) (.bool false)).off (g' := B + 1) (j := 1) (by omega) (.bool true))
              have Q1 := Lib.hid ((R1.out.set0 false).set1 true)
              have QB := Lib.hid ((HB.out.setCell (p := ⟨B + 1, 0, none⟩) (by simp) (.bool false)).setCell (p := ⟨B + 1, 1, none⟩) (by simp) (.bool true))
              obtain ⟨lt0, c00, c01, c02, c03, c04, f00, f01, f02, f03, f04⟩ := R0.out
              obtain ⟨lt1, c10, c11, c12, c13, c14, f10, f11, f12, f13, f14⟩ := R1.out
              have s01 := (R1.out.set0 false).c1
              have s02 := (R1.out.set0 false).f1
              go_wp2_with fail
              go_roundg (s.size - (k + 1))
              case measure => omega
              case rel => exact ⟨k + 1, _, _, by omega, by go_num, by omega, by omega, HR2.out, Q0.out, Q1.out, QB.out⟩
          · cases b
            · have Q0 := Lib.hid ((R0.out.off (g' := B + 1) (j := 0) (by omega) (.bool true)).off (g' := B + 1) (j := 1) (by omega) (.bool true))
              have Q1 := Lib.hid ((R1.out.set0 true).set1 true)
              have QB := Lib.hid ((HB.out.setCell (p := ⟨B + 1, 0, none⟩) (by simp) (.bool true)).setCell (p := ⟨B + 1, 1, none⟩) (by simp) (.bool true))
              obtain ⟨lt0, c00, c01, c02, c03, c04, f00, f01, f02, f03, f04⟩ := R0.out
              obtain ⟨lt1, c10, c11, c12, c13, c14, f10, f11, f12, f13, f14⟩ := R1.out
              have s01 := (R1.out.set0 true).c1
              have s02 := (R1.out.set0 true).f1
              go_wp2_with fail
              go_roundg (s.size - (k + 1))
              case measure => omega
              case rel => exact ⟨k + 1, _, _, by omega, by go_num, by omega, by omega, HR2.out, Q0.out, Q1.out, QB.out⟩
            · have Q0 := Lib.hid ((R0.out.off (g' := B + 1) (j := 0) (by omega) (.bool true)).off (g' := B + 1) (j := 1) (by omega) (.bool true))
              have Q1 := Lib.hid ((R1.out.set0 true).set1 true)
              have QB := Lib.hid ((HB.out.setCell (p := ⟨B + 1, 0, none⟩) (by simp) (.bool true)).setCell (p := ⟨B + 1, 1, none⟩) (by simp) (.bool true))
              obtain ⟨lt0, c00, c01, c02, c03, c04, f00, f01, f02, f03, f04⟩ := R0.out
              obtain ⟨lt1, c10, c11, c12, c13, c14, f10, f11, f12, f13, f14⟩ := R1.out
              have s01 := (R1.out.set0 true).c1
              have s02 := (R1.out.set0 true).f1
              go_wp2_with fail
              go_roundg (s.size - (k + 1))
              case measure => omega
              case rel => exact ⟨k + 1, _, _, by omega, by go_num, by omega, by omega, HR2.out, Q0.out, Q1.out, QB.out⟩
      · have hfl := isFl_no s[k] (fun e => h45 (.inl e)) (fun e => h45 (.inr e))
        have HF := Lib.hid (show rdP (s.data.toList.drop i) = rdP1 (s.data.toList.drop k) a b from rdP_flags (by rw [HR.out, drop_atL s k hlt, rdF_stop hfl]))
        have x45 : ((s[k].toNat : Int) == 45) = false := ne_int s[k] 45 (by omega) (fun e => h45 (.inl e))
        have x48 : ((s[k].toNat : Int) == 48) = false := ne_int s[k] 48 (by omega) (fun e => h45 (.inr e))
        clear h45 hfl
        go_wp2_with fail
        go_loopg [1] (s.size - k) (fun gg si wr => ∃ m n : Nat, m + gg = s.size ∧ si = .int .i64 (m : Int) ∧ k ≤ m ∧ m ≤ s.size ∧ m ≤ k + 3 ∧ n < 10 ^ (m - k) ∧ rdD 3 (s.data.toList.drop k) 0 = rdD (k + 3 - m) (s.data.toList.drop m) n ∧ Pl5 wr B false false 0 0 0 ∧ Pl5 wr (B + 1) a b (n : Int) (-1) 0 ∧ Below B w wr)
        case atStart => exact ⟨k, 0, by omega, rfl, Nat.le_refl _, by omega, by omega, by simp, by rw [show k + 3 - k = 3 by omega], R0.out, R1.out, HB.out⟩
        case round =>
          obtain ⟨m, n, hmg, rfl, hkm, hm, hm3, hn, hrd, r0, r1, hb⟩ := hrel
          have HR := Lib.hid hrd
          have R0 := Lib.hid r0
          have R1 := Lib.hid r1
          have HB := Lib.hid hb
          have HM := Lib.hid (show m + gk = s.size ∧ k ≤ m ∧ n < 10 ^ (m - k) from ⟨hmg, hkm, hn⟩)
          have hn9 : n ≤ 999 := by have : 10 ^ (m - k) ≤ 10 ^ 3 := Nat.pow_le_pow_right (by omega) (by omega)
                                   omega
          clear hrd r0 r1 hb hn
          by_cases hlm : m < s.size
          · by_cases hdg : isDg s[m] = true
            · by_cases h3 : m < k + 3
              · have xd : digB s[m].toNat = true := digB_of hdg
                have hm3i : (m : Int) < (k : Int) + 3 := by omega
                obtain ⟨q, hq⟩ : ∃ q : Nat, q = 10 * n + (s[m].toNat - 48) := ⟨_, rfl⟩
                have hdd := isDg_bd hdg
                have hqi : 10 * (n : Int) + (s[m].toNat : Int) - 48 = (q : Int) := by omega
                have HQ := Lib.hid (show q < 10 ^ (m + 1 - k) by
                  have h1 := HM.out.2.2
                  rw [show m + 1 - k = (m - k) + 1 by omega, Nat.pow_succ]; omega)
                have HR2 := Lib.hid (show rdD 3 (s.data.toList.drop k) 0 = rdD (k + 3 - (m + 1)) (s.data.toList.drop (m + 1)) q by
                  rw [HR.out, drop_atL s m hlm, show k + 3 - m = (k + 3 - (m + 1)) + 1 by omega, rdD, if_pos hdg, ← hq])
                have QD := Lib.hid (fun W => dig_any s[m].toNat W (by omega) (by omega))
                rw [xd] at QD
                have hb8 : s[m].toNat < 256 := s[m].toNat_lt
                have j0 : (0 : Int) ≤ (m : Int) := by omega
                have j1 : (m : Int) < (s.size : Int) := by omega
                clear hdg xd hdd hq
                obtain ⟨lt0, c00, c01, c02, c03, c04, f00, f01, f02, f03, f04⟩ := R0.out
                obtain ⟨lt1, c10, c11, c12, c13, c14, f10, f11, f12, f13, f14⟩ := R1.out
                go_wp2_with fail
                refine (QD.out _).mono ?_
                rintro e w1 ⟨rfl, rfl⟩
                go_wp2_with fail
                go_still_tail 9, (by kernel_rfl)
                change wpList _ _ _ _ _ wr.drew
                have Q0 := Lib.hid (R0.out.drew.off (g' := B + 1) (j := 2) (by omega) (.int .i64 (q : Int)))
                have Q1 := Lib.hid (R1.out.drew.set2 (q : Int))
                have QB := Lib.hid (HB.out.drew.setCell (p := ⟨B + 1, 2, none⟩) (by simp) (.int .i64 (q : Int)))
                have e2 := R1.out.drew.c2
                have g2 := R1.out.drew.f2
                go_wp2_with fail
                go_roundg (s.size - (m + 1))
                case measure => omega
                case rel => exact ⟨m + 1, q, by omega, by go_num, by omega, by omega, by omega, HQ.out, HR2.out, Q0.out, Q1.out, QB.out⟩
              · have hm3e : m = k + 3 := by omega
                have HP := Lib.hid (show rdP (s.data.toList.drop i) = rdP2 (s[m] :: s.data.toList.drop (m + 1)) n a b by
                  rw [HF.out]; exact rdP1_eq (by rw [HR.out, show k + 3 - m = 0 by omega, drop_atL s m hlm]; rfl))
                have xd : digB s[m].toNat = true := digB_of hdg
                have QD := Lib.hid (fun W => dig_any s[m].toNat W (by omega) (by have := s[m].toNat_lt; omega))
                rw [xd] at QD
                have hm3i : ¬ (m : Int) < (k : Int) + 3 := by omega
                have j0 : (0 : Int) ≤ (m : Int) := by omega
                have j1 : (m : Int) < (s.size : Int) := by omega
                have hb8 : s[m].toNat < 256 := s[m].toNat_lt
                clear hdg xd h3 hm3e
                obtain ⟨lt0, c00, c01, c02, c03, c04, f00, f01, f02, f03, f04⟩ := R0.out
                obtain ⟨lt1, c10, c11, c12, c13, c14, f10, f11, f12, f13, f14⟩ := R1.out
                obtain ⟨mp, HNXe⟩ : ∃ mp : Nat, mp = m + 1 := ⟨_, rfl⟩
                have hmp : (m : Int) + 1 = (mp : Int) := by omega
                have HNX := Lib.hid HNXe
                by_cases h46 : s[m] = 46
                · have x46 : ((s[m].toNat : Int) == 46) = true := by rw [h46]; rfl
                  by_cases hmp2 : mp < s.size
                  · have HP2 := Lib.hid (show rdP (s.data.toList.drop i) = rdP2 (46 :: s[mp] :: s.data.toList.drop (mp + 1)) n a b by
                      rw [HP.out, h46, ← HNXe, drop_atL s mp hmp2])
                    have CI := Lib.hid (fun W => in_any (s[mp].toNat : Int) 48 54 W)
                    have hb8 : s[mp].toNat < 256 := s[mp].toNat_lt
                    have k0 : (0 : Int) ≤ (mp : Int) := by omega
                    have k1 : (mp : Int) < (s.size : Int) := by omega
                    by_cases hd : 48 ≤ s[mp].toNat ∧ s[mp].toNat ≤ 54
                    · rw [show inB (s[mp].toNat : Int) 48 54 = true by simp [inB]; omega] at CI
                      have HP3 := Lib.hid (show rdP (s.data.toList.drop i) = rdP3 (s.data.toList.drop (mp + 1)) n a b ((s[mp].toNat : Int) - 48) from HP2.out.trans (rdP2_dot hd))
                      have HP2 := 0
                      obtain ⟨pv, hpv⟩ : ∃ pv : Int, pv = (s[mp].toNat : Int) - 48 := ⟨_, rfl⟩
                      rw [← hpv] at HP3
                      have hpv2 := hpv.symm
                      have S0 := Lib.hid (R0.out.off (g' := B + 1) (j := 3) (by omega) (.int .i64 pv))
                      have S1 := Lib.hid (R1.out.set3 pv)
                      have SB := Lib.hid (HB.out.setCell (p := ⟨B + 1, 3, none⟩) (by simp) (.int .i64 pv))
                      obtain ⟨_, i0, i1, i2, i3, i4, m0, m1, m2, m3, m4⟩ := S1.out
                      obtain ⟨_, j0', j1', j2', j3', j4', n0, n1, n2, n3, n4⟩ := S0.out
                      obtain ⟨q, hq⟩ : ∃ q : Nat, q = m + 2 := ⟨_, rfl⟩
                      have hqi : (m : Int) + 2 = (q : Int) := by omega
                      have hqm : q = mp + 1 := by omega
                      clear hpv hd
                      by_cases hqs : q < s.size
                      · have HP3 := Lib.hid (show rdP (s.data.toList.drop i) = rdP3 (s[q] :: s.data.toList.drop (q + 1)) n a b pv by rw [HP3.out, ← hqm, drop_atL s q hqs])
                        obtain ⟨q1, HNXe2⟩ : ∃ q1 : Nat, q1 = q + 1 := ⟨_, rfl⟩
                        have hq1 : (q : Int) + 1 = (q1 : Int) := by omega
                        have HNX := Lib.hid HNXe2
                        have hat := hqs
                        have hb9 : s[q].toNat < 256 := s[q].toNat_lt
                        clear h46 HNXe hqm hq HNXe2
                        by_cases h99 : 99 < n
                        · have HX := Lib.hid (show rdP (s.data.toList.drop i) = none by rw [HP3.out]; exact rdP3_far h99)
                          have h99i : (99 : Int) < (n : Int) := by omega
                          clear h99
                          go_wp2_with (first | (go_at_call 96; refine (QD.out _).mono ?_; rintro e w' ⟨rfl, rfl⟩) | (go_at_call 56; refine (CI.out _).mono ?_; rintro e w' ⟨rfl, rfl⟩) | (go_at_call 97; refine (CX.out _).mono ?_; rintro e w' ⟨rfl, rfl⟩))
                          all_goals
                            have QF := Lib.hid (fin_cells (a' := a) (b' := b) (n' := (n : Int)) (p' := pv) (kd' := 0) S0.out)
                            have QB := Lib.hid (fin_below (a' := a) (b' := b) (n' := (n : Int)) (p' := pv) (kd' := 0) SB.out)
                            obtain ⟨_, y0, y1, y2, y3, y4, _, _, _, _, _⟩ := QF.out
                            generalize ((((((wr.setCell ⟨B + 1, 3, none⟩ (.int .i64 pv)).setCell ⟨B, 0, none⟩ (.bool a)).setCell ⟨B, 1, none⟩ (.bool b)).setCell ⟨B, 2, none⟩ (.int .i64 (n : Int))).setCell ⟨B, 3, none⟩ (.int .i64 pv)).setCell ⟨B, 4, none⟩ (.int .u8 0)) = WF at *
                            have QB := Lib.hid (QB.out.mono (Nat.le_of_eq HBE.out.symm))
                            clear QF
                            exact bodyPost_ret (v := .tuple #[.agg #[.bool a, .bool b, .int .i64 (n : Int), .int .i64 pv, .int .u8 0], .int .i64 (-1)]) (by simp [results, Tryz.results47, go_sem, y0, y1, y2, y3, y4]) rfl ⟨QB.out, .inl ⟨HX.out, _, _, _, _, _, rfl⟩⟩
                        · have h99i : ¬ (99 : Int) < (n : Int) := by omega
                          have hsl : ∀ W, (Instr.slice 9 (.string s) (some (.int .i64 (q : Int))) (some (.int .i64 (q1 : Int))) none).run Tryz.prog W = .ok (.string ⟨#[s[q]]⟩) W := fun W => by
                            rw [run_slice_string W _ s .i64 .i64 _ _ Tryz.underlying9 (by omega) (by omega) (by omega), Int.toNat_natCast, Int.toNat_natCast, show q1 = q + 1 from HNX.out, one_at s q hat]
                          have CX := Lib.hid (fun W => specIdx_any ⟨#[100, 105, 115, 102, 99, 120, 111]⟩ ⟨#[s[q]]⟩ W (by decide) (by show 1 ≤ 1048576; omega))
                          have hkz := kind_idx8 s[q]
                          generalize idxOf ⟨#[100, 105, 115, 102, 99, 120, 111]⟩ ⟨#[s[q]]⟩ = z at *
                          cases hk : kindB s[q]
                          · have HX := Lib.hid (show rdP (s.data.toList.drop i) = none by rw [HP3.out]; exact rdP3_not hk)
                            rw [hk] at hkz
                            clear hk h99
                            go_wp2_with (first | (go_at_call 96; refine (QD.out _).mono ?_; rintro e w' ⟨rfl, rfl⟩) | (go_at_call 56; refine (CI.out _).mono ?_; rintro e w' ⟨rfl, rfl⟩) | (go_at_call 97; refine (CX.out _).mono ?_; rintro e w' ⟨rfl, rfl⟩))
                            all_goals
                              have QF := Lib.hid (fin_cells (a' := a) (b' := b) (n' := (n : Int)) (p' := pv) (kd' := 0) S0.out)
                              have QB := Lib.hid (fin_below (a' := a) (b' := b) (n' := (n : Int)) (p' := pv) (kd' := 0) SB.out)
                              obtain ⟨_, y0, y1, y2, y3, y4, _, _, _, _, _⟩ := QF.out
                              generalize ((((((wr.setCell ⟨B + 1, 3, none⟩ (.int .i64 pv)).setCell ⟨B, 0, none⟩ (.bool a)).setCell ⟨B, 1, none⟩ (.bool b)).setCell ⟨B, 2, none⟩ (.int .i64 (n : Int))).setCell ⟨B, 3, none⟩ (.int .i64 pv)).setCell ⟨B, 4, none⟩ (.int .u8 0)) = WF at *
                              have QB := Lib.hid (QB.out.mono (Nat.le_of_eq HBE.out.symm))
                              clear QF
                              exact bodyPost_ret (v := .tuple #[.agg #[.bool a, .bool b, .int .i64 (n : Int), .int .i64 pv, .int .u8 0], .int .i64 (-1)]) (by simp [results, Tryz.results47, go_sem, y0, y1, y2, y3, y4]) rfl ⟨QB.out, .inl ⟨HX.out, _, _, _, _, _, rfl⟩⟩
                          · have HX := Lib.hid (show rdP (s.data.toList.drop i) = some (⟨a, b, n, pv, s[q]⟩, s.data.toList.drop (q + 1)) by rw [HP3.out]; exact rdP3_kind (by omega) hk)
                            rw [hk] at hkz
                            have RF := Lib.hid (S0.out.off (g' := B + 1) (j := 4) (by omega) (.int .u8 (s[q].toNat : Int)))
                            have RG := Lib.hid (S1.out.set4 (s[q].toNat : Int))
                            have HF2 := Lib.hid (SB.out.setCell (p := ⟨B + 1, 4, none⟩) (by simp) (.int .u8 (s[q].toNat : Int)))
                            obtain ⟨_, v0, v1, v2, v3, v4, _, _, _, _, _⟩ := RG.out
                            obtain ⟨_, u0, u1, u2, u3, u4, t0, t1, t2, t3, t4⟩ := RF.out
                            have HNN := Lib.hid (show ((s.size - (s.data.toList.drop (q + 1)).length : Nat) : Int) = (q1 : Int) by
                              have := HNX.out
                              rw [List.length_drop, show s.data.toList.length = s.size by simp]; omega)
                            clear hk h99
                            go_wp2_with (first | (go_at_call 96; refine (QD.out _).mono ?_; rintro e w' ⟨rfl, rfl⟩) | (go_at_call 56; refine (CI.out _).mono ?_; rintro e w' ⟨rfl, rfl⟩) | (go_at_call 97; refine (CX.out _).mono ?_; rintro e w' ⟨rfl, rfl⟩))
                            all_goals
                              have QF := Lib.hid (fin_cells (a' := a) (b' := b) (n' := (n : Int)) (p' := pv) (kd' := (s[q].toNat : Int)) RF.out)
                              have QB := Lib.hid (fin_below (a' := a) (b' := b) (n' := (n : Int)) (p' := pv) (kd' := (s[q].toNat : Int)) HF2.out)
                              obtain ⟨_, y0, y1, y2, y3, y4, _, _, _, _, _⟩ := QF.out
                              generalize (((((((wr.setCell ⟨B + 1, 3, none⟩ (.int .i64 pv)).setCell ⟨B + 1, 4, none⟩ (.int .u8 (s[q].toNat : Int))).setCell ⟨B, 0, none⟩ (.bool a)).setCell ⟨B, 1, none⟩ (.bool b)).setCell ⟨B, 2, none⟩ (.int .i64 (n : Int))).setCell ⟨B, 3, none⟩ (.int .i64 pv)).setCell ⟨B, 4, none⟩ (.int .u8 (s[q].toNat : Int))) = WF at *
                              have QB := Lib.hid (QB.out.mono (Nat.le_of_eq HBE.out.symm))
                              clear QF
                              exact bodyPost_ret (v := .tuple #[.agg #[.bool a, .bool b, .int .i64 (n : Int), .int .i64 pv, .int .u8 (s[q].toNat : Int)], .int .i64 (q1 : Int)]) (by simp [results, Tryz.results47, go_sem, y0, y1, y2, y3, y4]) rfl ⟨QB.out, .inr ⟨_, _, HX.out, by rw [HNN.out]; rfl⟩⟩
                      · have HX := Lib.hid (show rdP (s.data.toList.drop i) = none by rw [HP3.out, drop_endL s (mp + 1) (by omega)]; rfl)
                        have hqe : q = s.size := by omega
                        have hqe2 : ¬ (q : Int) < (s.size : Int) := by omega
                        clear h46 HNXe hqs hqm hq hqe
                        go_wp2_with (first | (go_at_call 96; refine (QD.out _).mono ?_; rintro e w' ⟨rfl, rfl⟩) | (go_at_call 56; refine (CI.out _).mono ?_; rintro e w' ⟨rfl, rfl⟩) | (go_at_call 97; refine (CI.out _).mono ?_; rintro e w' ⟨rfl, rfl⟩))
                        all_goals
                          have QF := Lib.hid (fin_cells (a' := a) (b' := b) (n' := (n : Int)) (p' := pv) (kd' := 0) S0.out)
                          have QB := Lib.hid (fin_below (a' := a) (b' := b) (n' := (n : Int)) (p' := pv) (kd' := 0) SB.out)
                          obtain ⟨_, y0, y1, y2, y3, y4, _, _, _, _, _⟩ := QF.out
                          generalize ((((((wr.setCell ⟨B + 1, 3, none⟩ (.int .i64 pv)).setCell ⟨B, 0, none⟩ (.bool a)).setCell ⟨B, 1, none⟩ (.bool b)).setCell ⟨B, 2, none⟩ (.int .i64 (n : Int))).setCell ⟨B, 3, none⟩ (.int .i64 pv)).setCell ⟨B, 4, none⟩ (.int .u8 0)) = WF at *
                          have QB := Lib.hid (QB.out.mono (Nat.le_of_eq HBE.out.symm))
                          clear QF
                          exact bodyPost_ret (v := .tuple #[.agg #[.bool a, .bool b, .int .i64 (n : Int), .int .i64 pv, .int .u8 0], .int .i64 (-1)]) (by simp [results, Tryz.results47, go_sem, y0, y1, y2, y3, y4]) rfl ⟨QB.out, .inl ⟨HX.out, _, _, _, _, _, rfl⟩⟩
                    · rw [show inB (s[mp].toNat : Int) 48 54 = false by simp [inB]; omega] at CI
                      have HP3 := Lib.hid (show rdP (s.data.toList.drop i) = rdP3 (s[m] :: s.data.toList.drop (m + 1)) n a b (-1) by
                        rw [HP2.out, rdP2_other (rdQ_bad hd), h46, ← HNXe, drop_atL s mp hmp2])
                      have HP2 := 0
                      have hat := hlm
                      clear h46 HNXe hd
                      by_cases h99 : 99 < n
                      · have HX := Lib.hid (show rdP (s.data.toList.drop i) = none by rw [HP3.out]; exact rdP3_far h99)
                        have h99i : (99 : Int) < (n : Int) := by omega
                        clear h99
                        go_wp2_with (first | (go_at_call 96; refine (QD.out _).mono ?_; rintro e w' ⟨rfl, rfl⟩) | (go_at_call 56; refine (CI.out _).mono ?_; rintro e w' ⟨rfl, rfl⟩) | (go_at_call 97; refine (CX.out _).mono ?_; rintro e w' ⟨rfl, rfl⟩))
                        all_goals
                          have QF := Lib.hid (fin_cells (a' := a) (b' := b) (n' := (n : Int)) (p' := (-1)) (kd' := 0) R0.out)
                          have QB := Lib.hid (fin_below (a' := a) (b' := b) (n' := (n : Int)) (p' := (-1)) (kd' := 0) HB.out)
                          obtain ⟨_, y0, y1, y2, y3, y4, _, _, _, _, _⟩ := QF.out
                          generalize (((((wr.setCell ⟨B, 0, none⟩ (.bool a)).setCell ⟨B, 1, none⟩ (.bool b)).setCell ⟨B, 2, none⟩ (.int .i64 (n : Int))).setCell ⟨B, 3, none⟩ (.int .i64 (-1))).setCell ⟨B, 4, none⟩ (.int .u8 0)) = WF at *
                          have QB := Lib.hid (QB.out.mono (Nat.le_of_eq HBE.out.symm))
                          clear QF
                          exact bodyPost_ret (v := .tuple #[.agg #[.bool a, .bool b, .int .i64 (n : Int), .int .i64 (-1), .int .u8 0], .int .i64 (-1)]) (by simp [results, Tryz.results47, go_sem, y0, y1, y2, y3, y4]) rfl ⟨QB.out, .inl ⟨HX.out, _, _, _, _, _, rfl⟩⟩
                      · have h99i : ¬ (99 : Int) < (n : Int) := by omega
                        have hsl : ∀ W, (Instr.slice 9 (.string s) (some (.int .i64 (m : Int))) (some (.int .i64 (mp : Int))) none).run Tryz.prog W = .ok (.string ⟨#[s[m]]⟩) W := fun W => by
                          rw [run_slice_string W _ s .i64 .i64 _ _ Tryz.underlying9 (by omega) (by omega) (by omega), Int.toNat_natCast, Int.toNat_natCast, show mp = m + 1 from HNX.out, one_at s m hat]
                        have CX := Lib.hid (fun W => specIdx_any ⟨#[100, 105, 115, 102, 99, 120, 111]⟩ ⟨#[s[m]]⟩ W (by decide) (by show 1 ≤ 1048576; omega))
                        have hkz := kind_idx8 s[m]
                        generalize idxOf ⟨#[100, 105, 115, 102, 99, 120, 111]⟩ ⟨#[s[m]]⟩ = z at *
                        cases hk : kindB s[m]
                        · have HX := Lib.hid (show rdP (s.data.toList.drop i) = none by rw [HP3.out]; exact rdP3_not hk)
                          rw [hk] at hkz
                          clear hk h99
                          go_wp2_with (first | (go_at_call 96; refine (QD.out _).mono ?_; rintro e w' ⟨rfl, rfl⟩) | (go_at_call 56; refine (CI.out _).mono ?_; rintro e w' ⟨rfl, rfl⟩) | (go_at_call 97; refine (CX.out _).mono ?_; rintro e w' ⟨rfl, rfl⟩))
                          all_goals
                            have QF := Lib.hid (fin_cells (a' := a) (b' := b) (n' := (n : Int)) (p' := (-1)) (kd' := 0) R0.out)
                            have QB := Lib.hid (fin_below (a' := a) (b' := b) (n' := (n : Int)) (p' := (-1)) (kd' := 0) HB.out)
                            obtain ⟨_, y0, y1, y2, y3, y4, _, _, _, _, _⟩ := QF.out
                            generalize (((((wr.setCell ⟨B, 0, none⟩ (.bool a)).setCell ⟨B, 1, none⟩ (.bool b)).setCell ⟨B, 2, none⟩ (.int .i64 (n : Int))).setCell ⟨B, 3, none⟩ (.int .i64 (-1))).setCell ⟨B, 4, none⟩ (.int .u8 0)) = WF at *
                            have QB := Lib.hid (QB.out.mono (Nat.le_of_eq HBE.out.symm))
                            clear QF
                            exact bodyPost_ret (v := .tuple #[.agg #[.bool a, .bool b, .int .i64 (n : Int), .int .i64 (-1), .int .u8 0], .int .i64 (-1)]) (by simp [results, Tryz.results47, go_sem, y0, y1, y2, y3, y4]) rfl ⟨QB.out, .inl ⟨HX.out, _, _, _, _, _, rfl⟩⟩
                        · have HX := Lib.hid (show rdP (s.data.toList.drop i) = some (⟨a, b, n, (-1), s[m]⟩, s.data.toList.drop (m + 1)) by rw [HP3.out]; exact rdP3_kind (by omega) hk)
                          rw [hk] at hkz
                          have RF := Lib.hid (R0.out.off (g' := B + 1) (j := 4) (by omega) (.int .u8 (s[m].toNat : Int)))
                          have RG := Lib.hid (R1.out.set4 (s[m].toNat : Int))
                          have HF2 := Lib.hid (HB.out.setCell (p := ⟨B + 1, 4, none⟩) (by simp) (.int .u8 (s[m].toNat : Int)))
                          obtain ⟨_, v0, v1, v2, v3, v4, _, _, _, _, _⟩ := RG.out
                          obtain ⟨_, u0, u1, u2, u3, u4, t0, t1, t2, t3, t4⟩ := RF.out
                          have HNN := Lib.hid (show ((s.size - (s.data.toList.drop (m + 1)).length : Nat) : Int) = (mp : Int) by
                            have := HNX.out
                            rw [List.length_drop, show s.data.toList.length = s.size by simp]; omega)
                          clear hk h99
                          go_wp2_with (first | (go_at_call 96; refine (QD.out _).mono ?_; rintro e w' ⟨rfl, rfl⟩) | (go_at_call 56; refine (CI.out _).mono ?_; rintro e w' ⟨rfl, rfl⟩) | (go_at_call 97; refine (CX.out _).mono ?_; rintro e w' ⟨rfl, rfl⟩))
                          all_goals
                            have QF := Lib.hid (fin_cells (a' := a) (b' := b) (n' := (n : Int)) (p' := (-1)) (kd' := (s[m].toNat : Int)) RF.out)
                            have QB := Lib.hid (fin_below (a' := a) (b' := b) (n' := (n : Int)) (p' := (-1)) (kd' := (s[m].toNat : Int)) HF2.out)
                            obtain ⟨_, y0, y1, y2, y3, y4, _, _, _, _, _⟩ := QF.out
                            generalize ((((((wr.setCell ⟨B + 1, 4, none⟩ (.int .u8 (s[m].toNat : Int))).setCell ⟨B, 0, none⟩ (.bool a)).setCell ⟨B, 1, none⟩ (.bool b)).setCell ⟨B, 2, none⟩ (.int .i64 (n : Int))).setCell ⟨B, 3, none⟩ (.int .i64 (-1))).setCell ⟨B, 4, none⟩ (.int .u8 (s[m].toNat : Int))) = WF at *
                            have QB := Lib.hid (QB.out.mono (Nat.le_of_eq HBE.out.symm))
                            clear QF
                            exact bodyPost_ret (v := .tuple #[.agg #[.bool a, .bool b, .int .i64 (n : Int), .int .i64 (-1), .int .u8 (s[m].toNat : Int)], .int .i64 (mp : Int)]) (by simp [results, Tryz.results47, go_sem, y0, y1, y2, y3, y4]) rfl ⟨QB.out, .inr ⟨_, _, HX.out, by rw [HNN.out]; rfl⟩⟩
                  · have HP3 := Lib.hid (show rdP (s.data.toList.drop i) = rdP3 (s[m] :: s.data.toList.drop (m + 1)) n a b (-1) by
                      rw [HP.out, ← HNXe, drop_endL s mp (by omega)]; exact rdP2_other (rdQ_one _))
                    have hat := hlm
                    have k2 : ¬ (mp : Int) < (s.size : Int) := by omega
                    have CI := 0
                    clear h46 HNXe hmp2
                    by_cases h99 : 99 < n
                    · have HX := Lib.hid (show rdP (s.data.toList.drop i) = none by rw [HP3.out]; exact rdP3_far h99)
                      have h99i : (99 : Int) < (n : Int) := by omega
                      clear h99
                      go_wp2_with (first | (go_at_call 96; refine (QD.out _).mono ?_; rintro e w' ⟨rfl, rfl⟩) | (go_at_call 56; refine (CI.out _).mono ?_; rintro e w' ⟨rfl, rfl⟩) | (go_at_call 97; refine (CX.out _).mono ?_; rintro e w' ⟨rfl, rfl⟩))
                      all_goals
                        have QF := Lib.hid (fin_cells (a' := a) (b' := b) (n' := (n : Int)) (p' := (-1)) (kd' := 0) R0.out)
                        have QB := Lib.hid (fin_below (a' := a) (b' := b) (n' := (n : Int)) (p' := (-1)) (kd' := 0) HB.out)
                        obtain ⟨_, y0, y1, y2, y3, y4, _, _, _, _, _⟩ := QF.out
                        generalize (((((wr.setCell ⟨B, 0, none⟩ (.bool a)).setCell ⟨B, 1, none⟩ (.bool b)).setCell ⟨B, 2, none⟩ (.int .i64 (n : Int))).setCell ⟨B, 3, none⟩ (.int .i64 (-1))).setCell ⟨B, 4, none⟩ (.int .u8 0)) = WF at *
                        have QB := Lib.hid (QB.out.mono (Nat.le_of_eq HBE.out.symm))
                        clear QF
                        exact bodyPost_ret (v := .tuple #[.agg #[.bool a, .bool b, .int .i64 (n : Int), .int .i64 (-1), .int .u8 0], .int .i64 (-1)]) (by simp [results, Tryz.results47, go_sem, y0, y1, y2, y3, y4]) rfl ⟨QB.out, .inl ⟨HX.out, _, _, _, _, _, rfl⟩⟩
                    · have h99i : ¬ (99 : Int) < (n : Int) := by omega
                      have hsl : ∀ W, (Instr.slice 9 (.string s) (some (.int .i64 (m : Int))) (some (.int .i64 (mp : Int))) none).run Tryz.prog W = .ok (.string ⟨#[s[m]]⟩) W := fun W => by
                        rw [run_slice_string W _ s .i64 .i64 _ _ Tryz.underlying9 (by omega) (by omega) (by omega), Int.toNat_natCast, Int.toNat_natCast, show mp = m + 1 from HNX.out, one_at s m hat]
                      have CX := Lib.hid (fun W => specIdx_any ⟨#[100, 105, 115, 102, 99, 120, 111]⟩ ⟨#[s[m]]⟩ W (by decide) (by show 1 ≤ 1048576; omega))
                      have hkz := kind_idx8 s[m]
                      generalize idxOf ⟨#[100, 105, 115, 102, 99, 120, 111]⟩ ⟨#[s[m]]⟩ = z at *
                      cases hk : kindB s[m]
                      · have HX := Lib.hid (show rdP (s.data.toList.drop i) = none by rw [HP3.out]; exact rdP3_not hk)
                        rw [hk] at hkz
                        clear hk h99
                        go_wp2_with (first | (go_at_call 96; refine (QD.out _).mono ?_; rintro e w' ⟨rfl, rfl⟩) | (go_at_call 56; refine (CI.out _).mono ?_; rintro e w' ⟨rfl, rfl⟩) | (go_at_call 97; refine (CX.out _).mono ?_; rintro e w' ⟨rfl, rfl⟩))
                        all_goals
                          have QF := Lib.hid (fin_cells (a' := a) (b' := b) (n' := (n : Int)) (p' := (-1)) (kd' := 0) R0.out)
                          have QB := Lib.hid (fin_below (a' := a) (b' := b) (n' := (n : Int)) (p' := (-1)) (kd' := 0) HB.out)
                          obtain ⟨_, y0, y1, y2, y3, y4, _, _, _, _, _⟩ := QF.out
                          generalize (((((wr.setCell ⟨B, 0, none⟩ (.bool a)).setCell ⟨B, 1, none⟩ (.bool b)).setCell ⟨B, 2, none⟩ (.int .i64 (n : Int))).setCell ⟨B, 3, none⟩ (.int .i64 (-1))).setCell ⟨B, 4, none⟩ (.int .u8 0)) = WF at *
                          have QB := Lib.hid (QB.out.mono (Nat.le_of_eq HBE.out.symm))
                          clear QF
                          exact bodyPost_ret (v := .tuple #[.agg #[.bool a, .bool b, .int .i64 (n : Int), .int .i64 (-1), .int .u8 0], .int .i64 (-1)]) (by simp [results, Tryz.results47, go_sem, y0, y1, y2, y3, y4]) rfl ⟨QB.out, .inl ⟨HX.out, _, _, _, _, _, rfl⟩⟩
                      · have HX := Lib.hid (show rdP (s.data.toList.drop i) = some (⟨a, b, n, (-1), s[m]⟩, s.data.toList.drop (m + 1)) by rw [HP3.out]; exact rdP3_kind (by omega) hk)
                        rw [hk] at hkz
                        have RF := Lib.hid (R0.out.off (g' := B + 1) (j := 4) (by omega) (.int .u8 (s[m].toNat : Int)))
                        have RG := Lib.hid (R1.out.set4 (s[m].toNat : Int))
                        have HF2 := Lib.hid (HB.out.setCell (p := ⟨B + 1, 4, none⟩) (by simp) (.int .u8 (s[m].toNat : Int)))
                        obtain ⟨_, v0, v1, v2, v3, v4, _, _, _, _, _⟩ := RG.out
                        obtain ⟨_, u0, u1, u2, u3, u4, t0, t1, t2, t3, t4⟩ := RF.out
                        have HNN := Lib.hid (show ((s.size - (s.data.toList.drop (m + 1)).length : Nat) : Int) = (mp : Int) by
                          have := HNX.out
                          rw [List.length_drop, show s.data.toList.length = s.size by simp]; omega)
                        clear hk h99
                        go_wp2_with (first | (go_at_call 96; refine (QD.out _).mono ?_; rintro e w' ⟨rfl, rfl⟩) | (go_at_call 56; refine (CI.out _).mono ?_; rintro e w' ⟨rfl, rfl⟩) | (go_at_call 97; refine (CX.out _).mono ?_; rintro e w' ⟨rfl, rfl⟩))
                        all_goals
                          have QF := Lib.hid (fin_cells (a' := a) (b' := b) (n' := (n : Int)) (p' := (-1)) (kd' := (s[m].toNat : Int)) RF.out)
                          have QB := Lib.hid (fin_below (a' := a) (b' := b) (n' := (n : Int)) (p' := (-1)) (kd' := (s[m].toNat : Int)) HF2.out)
                          obtain ⟨_, y0, y1, y2, y3, y4, _, _, _, _, _⟩ := QF.out
                          generalize ((((((wr.setCell ⟨B + 1, 4, none⟩ (.int .u8 (s[m].toNat : Int))).setCell ⟨B, 0, none⟩ (.bool a)).setCell ⟨B, 1, none⟩ (.bool b)).setCell ⟨B, 2, none⟩ (.int .i64 (n : Int))).setCell ⟨B, 3, none⟩ (.int .i64 (-1))).setCell ⟨B, 4, none⟩ (.int .u8 (s[m].toNat : Int))) = WF at *
                          have QB := Lib.hid (QB.out.mono (Nat.le_of_eq HBE.out.symm))
                          clear QF
                          exact bodyPost_ret (v := .tuple #[.agg #[.bool a, .bool b, .int .i64 (n : Int), .int .i64 (-1), .int .u8 (s[m].toNat : Int)], .int .i64 (mp : Int)]) (by simp [results, Tryz.results47, go_sem, y0, y1, y2, y3, y4]) rfl ⟨QB.out, .inr ⟨_, _, HX.out, by rw [HNN.out]; rfl⟩⟩
                · have x46 : ((s[m].toNat : Int) == 46) = false := ne_int s[m] 46 (by omega) h46
                  have HP3 := Lib.hid (show rdP (s.data.toList.drop i) = rdP3 (s[m] :: s.data.toList.drop (m + 1)) n a b (-1) by
                    rw [HP.out]; exact rdP2_other (rdQ_no h46))
                  have hat := hlm
                  have CI := 0
                  clear h46 HNXe
                  by_cases h99 : 99 < n
                  · have HX := Lib.hid (show rdP (s.data.toList.drop i) = none by rw [HP3.out]; exact rdP3_far h99)
                    have h99i : (99 : Int) < (n : Int) := by omega
                    clear h99
                    go_wp2_with (first | (go_at_call 96; refine (QD.out _).mono ?_; rintro e w' ⟨rfl, rfl⟩) | (go_at_call 56; refine (CI.out _).mono ?_; rintro e w' ⟨rfl, rfl⟩) | (go_at_call 97; refine (CX.out _).mono ?_; rintro e w' ⟨rfl, rfl⟩))
                    all_goals
                      have QF := Lib.hid (fin_cells (a' := a) (b' := b) (n' := (n : Int)) (p' := (-1)) (kd' := 0) R0.out)
                      have QB := Lib.hid (fin_below (a' := a) (b' := b) (n' := (n : Int)) (p' := (-1)) (kd' := 0) HB.out)
                      obtain ⟨_, y0, y1, y2, y3, y4, _, _, _, _, _⟩ := QF.out
                      generalize (((((wr.setCell ⟨B, 0, none⟩ (.bool a)).setCell ⟨B, 1, none⟩ (.bool b)).setCell ⟨B, 2, none⟩ (.int .i64 (n : Int))).setCell ⟨B, 3, none⟩ (.int .i64 (-1))).setCell ⟨B, 4, none⟩ (.int .u8 0)) = WF at *
                      have QB := Lib.hid (QB.out.mono (Nat.le_of_eq HBE.out.symm))
                      clear QF
                      exact bodyPost_ret (v := .tuple #[.agg #[.bool a, .bool b, .int .i64 (n : Int), .int .i64 (-1), .int .u8 0], .int .i64 (-1)]) (by simp [results, Tryz.results47, go_sem, y0, y1, y2, y3, y4]) rfl ⟨QB.out, .inl ⟨HX.out, _, _, _, _, _, rfl⟩⟩
                  · have h99i : ¬ (99 : Int) < (n : Int) := by omega
                    have hsl : ∀ W, (Instr.slice 9 (.string s) (some (.int .i64 (m : Int))) (some (.int .i64 (mp : Int))) none).run Tryz.prog W = .ok (.string ⟨#[s[m]]⟩) W := fun W => by
                      rw [run_slice_string W _ s .i64 .i64 _ _ Tryz.underlying9 (by omega) (by omega) (by omega), Int.toNat_natCast, Int.toNat_natCast, show mp = m + 1 from HNX.out, one_at s m hat]
                    have CX := Lib.hid (fun W => specIdx_any ⟨#[100, 105, 115, 102, 99, 120, 111]⟩ ⟨#[s[m]]⟩ W (by decide) (by show 1 ≤ 1048576; omega))
                    have hkz := kind_idx8 s[m]
                    generalize idxOf ⟨#[100, 105, 115, 102, 99, 120, 111]⟩ ⟨#[s[m]]⟩ = z at *
                    cases hk : kindB s[m]
                    · have HX := Lib.hid (show rdP (s.data.toList.drop i) = none by rw [HP3.out]; exact rdP3_not hk)
                      rw [hk] at hkz
                      clear hk h99
                      go_wp2_with (first | (go_at_call 96; refine (QD.out _).mono ?_; rintro e w' ⟨rfl, rfl⟩) | (go_at_call 56; refine (CI.out _).mono ?_; rintro e w' ⟨rfl, rfl⟩) | (go_at_call 97; refine (CX.out _).mono ?_; rintro e w' ⟨rfl, rfl⟩))
                      all_goals
                        have QF := Lib.hid (fin_cells (a' := a) (b' := b) (n' := (n : Int)) (p' := (-1)) (kd' := 0) R0.out)
                        have QB := Lib.hid (fin_below (a' := a) (b' := b) (n' := (n : Int)) (p' := (-1)) (kd' := 0) HB.out)
                        obtain ⟨_, y0, y1, y2, y3, y4, _, _, _, _, _⟩ := QF.out
                        generalize (((((wr.setCell ⟨B, 0, none⟩ (.bool a)).setCell ⟨B, 1, none⟩ (.bool b)).setCell ⟨B, 2, none⟩ (.int .i64 (n : Int))).setCell ⟨B, 3, none⟩ (.int .i64 (-1))).setCell ⟨B, 4, none⟩ (.int .u8 0)) = WF at *
                        have QB := Lib.hid (QB.out.mono (Nat.le_of_eq HBE.out.symm))
                        clear QF
                        exact bodyPost_ret (v := .tuple #[.agg #[.bool a, .bool b, .int .i64 (n : Int), .int .i64 (-1), .int .u8 0], .int .i64 (-1)]) (by simp [results, Tryz.results47, go_sem, y0, y1, y2, y3, y4]) rfl ⟨QB.out, .inl ⟨HX.out, _, _, _, _, _, rfl⟩⟩
                    · have HX := Lib.hid (show rdP (s.data.toList.drop i) = some (⟨a, b, n, (-1), s[m]⟩, s.data.toList.drop (m + 1)) by rw [HP3.out]; exact rdP3_kind (by omega) hk)
                      rw [hk] at hkz
                      have RF := Lib.hid (R0.out.off (g' := B + 1) (j := 4) (by omega) (.int .u8 (s[m].toNat : Int)))
                      have RG := Lib.hid (R1.out.set4 (s[m].toNat : Int))
                      have HF2 := Lib.hid (HB.out.setCell (p := ⟨B + 1, 4, none⟩) (by simp) (.int .u8 (s[m].toNat : Int)))
                      obtain ⟨_, v0, v1, v2, v3, v4, _, _, _, _, _⟩ := RG.out
                      obtain ⟨_, u0, u1, u2, u3, u4, t0, t1, t2, t3, t4⟩ := RF.out
                      have HNN := Lib.hid (show ((s.size - (s.data.toList.drop (m + 1)).length : Nat) : Int) = (mp : Int) by
                        have := HNX.out
                        rw [List.length_drop, show s.data.toList.length = s.size by simp]; omega)
                      clear hk h99
                      go_wp2_with (first | (go_at_call 96; refine (QD.out _).mono ?_; rintro e w' ⟨rfl, rfl⟩) | (go_at_call 56; refine (CI.out _).mono ?_; rintro e w' ⟨rfl, rfl⟩) | (go_at_call 97; refine (CX.out _).mono ?_; rintro e w' ⟨rfl, rfl⟩))
                      all_goals
                        have QF := Lib.hid (fin_cells (a' := a) (b' := b) (n' := (n : Int)) (p' := (-1)) (kd' := (s[m].toNat : Int)) RF.out)
                        have QB := Lib.hid (fin_below (a' := a) (b' := b) (n' := (n : Int)) (p' := (-1)) (kd' := (s[m].toNat : Int)) HF2.out)
                        obtain ⟨_, y0, y1, y2, y3, y4, _, _, _, _, _⟩ := QF.out
                        generalize ((((((wr.setCell ⟨B + 1, 4, none⟩ (.int .u8 (s[m].toNat : Int))).setCell ⟨B, 0, none⟩ (.bool a)).setCell ⟨B, 1, none⟩ (.bool b)).setCell ⟨B, 2, none⟩ (.int .i64 (n : Int))).setCell ⟨B, 3, none⟩ (.int .i64 (-1))).setCell ⟨B, 4, none⟩ (.int .u8 (s[m].toNat : Int))) = WF at *
                        have QB := Lib.hid (QB.out.mono (Nat.le_of_eq HBE.out.symm))
                        clear QF
                        exact bodyPost_ret (v := .tuple #[.agg #[.bool a, .bool b, .int .i64 (n : Int), .int .i64 (-1), .int .u8 (s[m].toNat : Int)], .int .i64 (mp : Int)]) (by simp [results, Tryz.results47, go_sem, y0, y1, y2, y3, y4]) rfl ⟨QB.out, .inr ⟨_, _, HX.out, by rw [HNN.out]; rfl⟩⟩
            · have hdn : isDg s[m] = false := by cases e : isDg s[m] <;> simp_all
              have HP := Lib.hid (show rdP (s.data.toList.drop i) = rdP2 (s[m] :: s.data.toList.drop (m + 1)) n a b by
                rw [HF.out]; exact rdP1_eq (by rw [HR.out, drop_atL s m hlm]; exact rdD_stop _ hdn))
              have xd : digB s[m].toNat = false := digB_not hdn
              have QD := Lib.hid (fun W => dig_any s[m].toNat W (by omega) (by have := s[m].toNat_lt; omega))
              rw [xd] at QD
              have j0 : (0 : Int) ≤ (m : Int) := by omega
              have j1 : (m : Int) < (s.size : Int) := by omega
              have hb8 : s[m].toNat < 256 := s[m].toNat_lt
              clear hdg hdn xd
              obtain ⟨lt0, c00, c01, c02, c03, c04, f00, f01, f02, f03, f04⟩ := R0.out
              obtain ⟨lt1, c10, c11, c12, c13, c14, f10, f11, f12, f13, f14⟩ := R1.out
              obtain ⟨mp, HNXe⟩ : ∃ mp : Nat, mp = m + 1 := ⟨_, rfl⟩
              have hmp : (m : Int) + 1 = (mp : Int) := by omega
              have HNX := Lib.hid HNXe
              by_cases h46 : s[m] = 46
              · have x46 : ((s[m].toNat : Int) == 46) = true := by rw [h46]; rfl
                by_cases hmp2 : mp < s.size
                · have HP2 := Lib.hid (show rdP (s.data.toList.drop i) = rdP2 (46 :: s[mp] :: s.data.toList.drop (mp + 1)) n a b by
                    rw [HP.out, h46, ← HNXe, drop_atL s mp hmp2])
                  have CI := Lib.hid (fun W => in_any (s[mp].toNat : Int) 48 54 W)
                  have hb8 : s[mp].toNat < 256 := s[mp].toNat_lt
                  have k0 : (0 : Int) ≤ (mp : Int) := by omega
                  have k1 : (mp : Int) < (s.size : Int) := by omega
                  by_cases hd : 48 ≤ s[mp].toNat ∧ s[mp].toNat ≤ 54
                  · rw [show inB (s[mp].toNat : Int) 48 54 = true by simp [inB]; omega] at CI
                    have HP3 := Lib.hid (show rdP (s.data.toList.drop i) = rdP3 (s.data.toList.drop (mp + 1)) n a b ((s[mp].toNat : Int) - 48) from HP2.out.trans (rdP2_dot hd))
                    have HP2 := 0
                    obtain ⟨pv, hpv⟩ : ∃ pv : Int, pv = (s[mp].toNat : Int) - 48 := ⟨_, rfl⟩
                    rw [← hpv] at HP3
                    have hpv2 := hpv.symm
                    have S0 := Lib.hid (R0.out.off (g' := B + 1) (j := 3) (by omega) (.int .i64 pv))
                    have S1 := Lib.hid (R1.out.set3 pv)
                    have SB := Lib.hid (HB.out.setCell (p := ⟨B + 1, 3, none⟩) (by simp) (.int .i64 pv))
                    obtain ⟨_, i0, i1, i2, i3, i4, m0, m1, m2, m3, m4⟩ := S1.out
                    obtain ⟨_, j0', j1', j2', j3', j4', n0, n1, n2, n3, n4⟩ := S0.out
                    obtain ⟨q, hq⟩ : ∃ q : Nat, q = m + 2 := ⟨_, rfl⟩
                    have hqi : (m : Int) + 2 = (q : Int) := by omega
                    have hqm : q = mp + 1 := by omega
                    clear hpv hd
                    by_cases hqs : q < s.size
                    · have HP3 := Lib.hid (show rdP (s.data.toList.drop i) = rdP3 (s[q] :: s.data.toList.drop (q + 1)) n a b pv by rw [HP3.out, ← hqm, drop_atL s q hqs])
                      obtain ⟨q1, HNXe2⟩ : ∃ q1 : Nat, q1 = q + 1 := ⟨_, rfl⟩
                      have hq1 : (q : Int) + 1 = (q1 : Int) := by omega
                      have HNX := Lib.hid HNXe2
                      have hat := hqs
                      have hb9 : s[q].toNat < 256 := s[q].toNat_lt
                      clear h46 HNXe hqm hq HNXe2
                      by_cases h99 : 99 < n
                      · have HX := Lib.hid (show rdP (s.data.toList.drop i) = none by rw [HP3.out]; exact rdP3_far h99)
                        have h99i : (99 : Int) < (n : Int) := by omega
                        clear h99
                        go_wp2_with (first | (go_at_call 96; refine (QD.out _).mono ?_; rintro e w' ⟨rfl, rfl⟩) | (go_at_call 56; refine (CI.out _).mono ?_; rintro e w' ⟨rfl, rfl⟩) | (go_at_call 97; refine (CX.out _).mono ?_; rintro e w' ⟨rfl, rfl⟩))
                        all_goals
                          have QF := Lib.hid (fin_cells (a' := a) (b' := b) (n' := (n : Int)) (p' := pv) (kd' := 0) S0.out)
                          have QB := Lib.hid (fin_below (a' := a) (b' := b) (n' := (n : Int)) (p' := pv) (kd' := 0) SB.out)
                          obtain ⟨_, y0, y1, y2, y3, y4, _, _, _, _, _⟩ := QF.out
                          generalize ((((((wr.setCell ⟨B + 1, 3, none⟩ (.int .i64 pv)).setCell ⟨B, 0, none⟩ (.bool a)).setCell ⟨B, 1, none⟩ (.bool b)).setCell ⟨B, 2, none⟩ (.int .i64 (n : Int))).setCell ⟨B, 3, none⟩ (.int .i64 pv)).setCell ⟨B, 4, none⟩ (.int .u8 0)) = WF at *
                          have QB := Lib.hid (QB.out.mono (Nat.le_of_eq HBE.out.symm))
                          clear QF
                          exact bodyPost_ret (v := .tuple #[.agg #[.bool a, .bool b, .int .i64 (n : Int), .int .i64 pv, .int .u8 0], .int .i64 (-1)]) (by simp [results, Tryz.results47, go_sem, y0, y1, y2, y3, y4]) rfl ⟨QB.out, .inl ⟨HX.out, _, _, _, _, _, rfl⟩⟩
                      · have h99i : ¬ (99 : Int) < (n : Int) := by omega
                        have hsl : ∀ W, (Instr.slice 9 (.string s) (some (.int .i64 (q : Int))) (some (.int .i64 (q1 : Int))) none).run Tryz.prog W = .ok (.string ⟨#[s[q]]⟩) W := fun W => by
                          rw [run_slice_string W _ s .i64 .i64 _ _ Tryz.underlying9 (by omega) (by omega) (by omega), Int.toNat_natCast, Int.toNat_natCast, show q1 = q + 1 from HNX.out, one_at s q hat]
                        have CX := Lib.hid (fun W => specIdx_any ⟨#[100, 105, 115, 102, 99, 120, 111]⟩ ⟨#[s[q]]⟩ W (by decide) (by show 1 ≤ 1048576; omega))
                        have hkz := kind_idx8 s[q]
                        generalize idxOf ⟨#[100, 105, 115, 102, 99, 120, 111]⟩ ⟨#[s[q]]⟩ = z at *
                        cases hk : kindB s[q]
                        · have HX := Lib.hid (show rdP (s.data.toList.drop i) = none by rw [HP3.out]; exact rdP3_not hk)
                          rw [hk] at hkz
                          clear hk h99
                          go_wp2_with (first | (go_at_call 96; refine (QD.out _).mono ?_; rintro e w' ⟨rfl, rfl⟩) | (go_at_call 56; refine (CI.out _).mono ?_; rintro e w' ⟨rfl, rfl⟩) | (go_at_call 97; refine (CX.out _).mono ?_; rintro e w' ⟨rfl, rfl⟩))
                          all_goals
                            have QF := Lib.hid (fin_cells (a' := a) (b' := b) (n' := (n : Int)) (p' := pv) (kd' := 0) S0.out)
                            have QB := Lib.hid (fin_below (a' := a) (b' := b) (n' := (n : Int)) (p' := pv) (kd' := 0) SB.out)
                            obtain ⟨_, y0, y1, y2, y3, y4, _, _, _, _, _⟩ := QF.out
                            generalize ((((((wr.setCell ⟨B + 1, 3, none⟩ (.int .i64 pv)).setCell ⟨B, 0, none⟩ (.bool a)).setCell ⟨B, 1, none⟩ (.bool b)).setCell ⟨B, 2, none⟩ (.int .i64 (n : Int))).setCell ⟨B, 3, none⟩ (.int .i64 pv)).setCell ⟨B, 4, none⟩ (.int .u8 0)) = WF at *
                            have QB := Lib.hid (QB.out.mono (Nat.le_of_eq HBE.out.symm))
                            clear QF
                            exact bodyPost_ret (v := .tuple #[.agg #[.bool a, .bool b, .int .i64 (n : Int), .int .i64 pv, .int .u8 0], .int .i64 (-1)]) (by simp [results, Tryz.results47, go_sem, y0, y1, y2, y3, y4]) rfl ⟨QB.out, .inl ⟨HX.out, _, _, _, _, _, rfl⟩⟩
                        · have HX := Lib.hid (show rdP (s.data.toList.drop i) = some (⟨a, b, n, pv, s[q]⟩, s.data.toList.drop (q + 1)) by rw [HP3.out]; exact rdP3_kind (by omega) hk)
                          rw [hk] at hkz
                          have RF := Lib.hid (S0.out.off (g' := B + 1) (j := 4) (by omega) (.int .u8 (s[q].toNat : Int)))
                          have RG := Lib.hid (S1.out.set4 (s[q].toNat : Int))
                          have HF2 := Lib.hid (SB.out.setCell (p := ⟨B + 1, 4, none⟩) (by simp) (.int .u8 (s[q].toNat : Int)))
                          obtain ⟨_, v0, v1, v2, v3, v4, _, _, _, _, _⟩ := RG.out
                          obtain ⟨_, u0, u1, u2, u3, u4, t0, t1, t2, t3, t4⟩ := RF.out
                          have HNN := Lib.hid (show ((s.size - (s.data.toList.drop (q + 1)).length : Nat) : Int) = (q1 : Int) by
                            have := HNX.out
                            rw [List.length_drop, show s.data.toList.length = s.size by simp]; omega)
                          clear hk h99
                          go_wp2_with (first | (go_at_call 96; refine (QD.out _).mono ?_; rintro e w' ⟨rfl, rfl⟩) | (go_at_call 56; refine (CI.out _).mono ?_; rintro e w' ⟨rfl, rfl⟩) | (go_at_call 97; refine (CX.out _).mono ?_; rintro e w' ⟨rfl, rfl⟩))
                          all_goals
                            have QF := Lib.hid (fin_cells (a' := a) (b' := b) (n' := (n : Int)) (p' := pv) (kd' := (s[q].toNat : Int)) RF.out)
                            have QB := Lib.hid (fin_below (a' := a) (b' := b) (n' := (n : Int)) (p' := pv) (kd' := (s[q].toNat : Int)) HF2.out)
                            obtain ⟨_, y0, y1, y2, y3, y4, _, _, _, _, _⟩ := QF.out
                            generalize (((((((wr.setCell ⟨B + 1, 3, none⟩ (.int .i64 pv)).setCell ⟨B + 1, 4, none⟩ (.int .u8 (s[q].toNat : Int))).setCell ⟨B, 0, none⟩ (.bool a)).setCell ⟨B, 1, none⟩ (.bool b)).setCell ⟨B, 2, none⟩ (.int .i64 (n : Int))).setCell ⟨B, 3, none⟩ (.int .i64 pv)).setCell ⟨B, 4, none⟩ (.int .u8 (s[q].toNat : Int))) = WF at *
                            have QB := Lib.hid (QB.out.mono (Nat.le_of_eq HBE.out.symm))
                            clear QF
                            exact bodyPost_ret (v := .tuple #[.agg #[.bool a, .bool b, .int .i64 (n : Int), .int .i64 pv, .int .u8 (s[q].toNat : Int)], .int .i64 (q1 : Int)]) (by simp [results, Tryz.results47, go_sem, y0, y1, y2, y3, y4]) rfl ⟨QB.out, .inr ⟨_, _, HX.out, by rw [HNN.out]; rfl⟩⟩
                    · have HX := Lib.hid (show rdP (s.data.toList.drop i) = none by rw [HP3.out, drop_endL s (mp + 1) (by omega)]; rfl)
                      have hqe : q = s.size := by omega
                      have hqe2 : ¬ (q : Int) < (s.size : Int) := by omega
                      clear h46 HNXe hqs hqm hq hqe
                      go_wp2_with (first | (go_at_call 96; refine (QD.out _).mono ?_; rintro e w' ⟨rfl, rfl⟩) | (go_at_call 56; refine (CI.out _).mono ?_; rintro e w' ⟨rfl, rfl⟩) | (go_at_call 97; refine (CI.out _).mono ?_; rintro e w' ⟨rfl, rfl⟩))
                      all_goals
                        have QF := Lib.hid (fin_cells (a' := a) (b' := b) (n' := (n : Int)) (p' := pv) (kd' := 0) S0.out)
                        have QB := Lib.hid (fin_below (a' := a) (b' := b) (n' := (n : Int)) (p' := pv) (kd' := 0) SB.out)
                        obtain ⟨_, y0, y1, y2, y3, y4, _, _, _, _, _⟩ := QF.out
                        generalize ((((((wr.setCell ⟨B + 1, 3, none⟩ (.int .i64 pv)).setCell ⟨B, 0, none⟩ (.bool a)).setCell ⟨B, 1, none⟩ (.bool b)).setCell ⟨B, 2, none⟩ (.int .i64 (n : Int))).setCell ⟨B, 3, none⟩ (.int .i64 pv)).setCell ⟨B, 4, none⟩ (.int .u8 0)) = WF at *
                        have QB := Lib.hid (QB.out.mono (Nat.le_of_eq HBE.out.symm))
                        clear QF
                        exact bodyPost_ret (v := .tuple #[.agg #[.bool a, .bool b, .int .i64 (n : Int), .int .i64 pv, .int .u8 0], .int .i64 (-1)]) (by simp [results, Tryz.results47, go_sem, y0, y1, y2, y3, y4]) rfl ⟨QB.out, .inl ⟨HX.out, _, _, _, _, _, rfl⟩⟩
                  · rw [show inB (s[mp].toNat : Int) 48 54 = false by simp [inB]; omega] at CI
                    have HP3 := Lib.hid (show rdP (s.data.toList.drop i) = rdP3 (s[m] :: s.data.toList.drop (m + 1)) n a b (-1) by
                      rw [HP2.out, rdP2_other (rdQ_bad hd), h46, ← HNXe, drop_atL s mp hmp2])
                    have HP2 := 0
                    have hat := hlm
                    clear h46 HNXe hd
                    by_cases h99 : 99 < n
                    · have HX := Lib.hid (show rdP (s.data.toList.drop i) = none by rw [HP3.out]; exact rdP3_far h99)
                      have h99i : (99 : Int) < (n : Int) := by omega
                      clear h99
                      go_wp2_with (first | (go_at_call 96; refine (QD.out _).mono ?_; rintro e w' ⟨rfl, rfl⟩) | (go_at_call 56; refine (CI.out _).mono ?_; rintro e w' ⟨rfl, rfl⟩) | (go_at_call 97; refine (CX.out _).mono ?_; rintro e w' ⟨rfl, rfl⟩))
                      all_goals
                        have QF := Lib.hid (fin_cells (a' := a) (b' := b) (n' := (n : Int)) (p' := (-1)) (kd' := 0) R0.out)
                        have QB := Lib.hid (fin_below (a' := a) (b' := b) (n' := (n : Int)) (p' := (-1)) (kd' := 0) HB.out)
                        obtain ⟨_, y0, y1, y2, y3, y4, _, _, _, _, _⟩ := QF.out
                        generalize (((((wr.setCell ⟨B, 0, none⟩ (.bool a)).setCell ⟨B, 1, none⟩ (.bool b)).setCell ⟨B, 2, none⟩ (.int .i64 (n : Int))).setCell ⟨B, 3, none⟩ (.int .i64 (-1))).setCell ⟨B, 4, none⟩ (.int .u8 0)) = WF at *
                        have QB := Lib.hid (QB.out.mono (Nat.le_of_eq HBE.out.symm))
                        clear QF
                        exact bodyPost_ret (v := .tuple #[.agg #[.bool a, .bool b, .int .i64 (n : Int), .int .i64 (-1), .int .u8 0], .int .i64 (-1)]) (by simp [results, Tryz.results47, go_sem, y0, y1, y2, y3, y4]) rfl ⟨QB.out, .inl ⟨HX.out, _, _, _, _, _, rfl⟩⟩
                    · have h99i : ¬ (99 : Int) < (n : Int) := by omega
                      have hsl : ∀ W, (Instr.slice 9 (.string s) (some (.int .i64 (m : Int))) (some (.int .i64 (mp : Int))) none).run Tryz.prog W = .ok (.string ⟨#[s[m]]⟩) W := fun W => by
                        rw [run_slice_string W _ s .i64 .i64 _ _ Tryz.underlying9 (by omega) (by omega) (by omega), Int.toNat_natCast, Int.toNat_natCast, show mp = m + 1 from HNX.out, one_at s m hat]
                      have CX := Lib.hid (fun W => specIdx_any ⟨#[100, 105, 115, 102, 99, 120, 111]⟩ ⟨#[s[m]]⟩ W (by decide) (by show 1 ≤ 1048576; omega))
                      have hkz := kind_idx8 s[m]
                      generalize idxOf ⟨#[100, 105, 115, 102, 99, 120, 111]⟩ ⟨#[s[m]]⟩ = z at *
                      cases hk : kindB s[m]
                      · have HX := Lib.hid (show rdP (s.data.toList.drop i) = none by rw [HP3.out]; exact rdP3_not hk)
                        rw [hk] at hkz
                        clear hk h99
                        go_wp2_with (first | (go_at_call 96; refine (QD.out _).mono ?_; rintro e w' ⟨rfl, rfl⟩) | (go_at_call 56; refine (CI.out _).mono ?_; rintro e w' ⟨rfl, rfl⟩) | (go_at_call 97; refine (CX.out _).mono ?_; rintro e w' ⟨rfl, rfl⟩))
                        all_goals
                          have QF := Lib.hid (fin_cells (a' := a) (b' := b) (n' := (n : Int)) (p' := (-1)) (kd' := 0) R0.out)
                          have QB := Lib.hid (fin_below (a' := a) (b' := b) (n' := (n : Int)) (p' := (-1)) (kd' := 0) HB.out)
                          obtain ⟨_, y0, y1, y2, y3, y4, _, _, _, _, _⟩ := QF.out
                          generalize (((((wr.setCell ⟨B, 0, none⟩ (.bool a)).setCell ⟨B, 1, none⟩ (.bool b)).setCell ⟨B, 2, none⟩ (.int .i64 (n : Int))).setCell ⟨B, 3, none⟩ (.int .i64 (-1))).setCell ⟨B, 4, none⟩ (.int .u8 0)) = WF at *
                          have QB := Lib.hid (QB.out.mono (Nat.le_of_eq HBE.out.symm))
                          clear QF
                          exact bodyPost_ret (v := .tuple #[.agg #[.bool a, .bool b, .int .i64 (n : Int), .int .i64 (-1), .int .u8 0], .int .i64 (-1)]) (by simp [results, Tryz.results47, go_sem, y0, y1, y2, y3, y4]) rfl ⟨QB.out, .inl ⟨HX.out, _, _, _, _, _, rfl⟩⟩
                      · have HX := Lib.hid (show rdP (s.data.toList.drop i) = some (⟨a, b, n, (-1), s[m]⟩, s.data.toList.drop (m + 1)) by rw [HP3.out]; exact rdP3_kind (by omega) hk)
                        rw [hk] at hkz
                        have RF := Lib.hid (R0.out.off (g' := B + 1) (j := 4) (by omega) (.int .u8 (s[m].toNat : Int)))
                        have RG := Lib.hid (R1.out.set4 (s[m].toNat : Int))
                        have HF2 := Lib.hid (HB.out.setCell (p := ⟨B + 1, 4, none⟩) (by simp) (.int .u8 (s[m].toNat : Int)))
                        obtain ⟨_, v0, v1, v2, v3, v4, _, _, _, _, _⟩ := RG.out
                        obtain ⟨_, u0, u1, u2, u3, u4, t0, t1, t2, t3, t4⟩ := RF.out
                        have HNN := Lib.hid (show ((s.size - (s.data.toList.drop (m + 1)).length : Nat) : Int) = (mp : Int) by
                          have := HNX.out
                          rw [List.length_drop, show s.data.toList.length = s.size by simp]; omega)
                        clear hk h99
                        go_wp2_with (first | (go_at_call 96; refine (QD.out _).mono ?_; rintro e w' ⟨rfl, rfl⟩) | (go_at_call 56; refine (CI.out _).mono ?_; rintro e w' ⟨rfl, rfl⟩) | (go_at_call 97; refine (CX.out _).mono ?_; rintro e w' ⟨rfl, rfl⟩))
                        all_goals
                          have QF := Lib.hid (fin_cells (a' := a) (b' := b) (n' := (n : Int)) (p' := (-1)) (kd' := (s[m].toNat : Int)) RF.out)
                          have QB := Lib.hid (fin_below (a' := a) (b' := b) (n' := (n : Int)) (p' := (-1)) (kd' := (s[m].toNat : Int)) HF2.out)
                          obtain ⟨_, y0, y1, y2, y3, y4, _, _, _, _, _⟩ := QF.out
                          generalize ((((((wr.setCell ⟨B + 1, 4, none⟩ (.int .u8 (s[m].toNat : Int))).setCell ⟨B, 0, none⟩ (.bool a)).setCell ⟨B, 1, none⟩ (.bool b)).setCell ⟨B, 2, none⟩ (.int .i64 (n : Int))).setCell ⟨B, 3, none⟩ (.int .i64 (-1))).setCell ⟨B, 4, none⟩ (.int .u8 (s[m].toNat : Int))) = WF at *
                          have QB := Lib.hid (QB.out.mono (Nat.le_of_eq HBE.out.symm))
                          clear QF
                          exact bodyPost_ret (v := .tuple #[.agg #[.bool a, .bool b, .int .i64 (n : Int), .int .i64 (-1), .int .u8 (s[m].toNat : Int)], .int .i64 (mp : Int)]) (by simp [results, Tryz.results47, go_sem, y0, y1, y2, y3, y4]) rfl ⟨QB.out, .inr ⟨_, _, HX.out, by rw [HNN.out]; rfl⟩⟩
                · have HP3 := Lib.hid (show rdP (s.data.toList.drop i) = rdP3 (s[m] :: s.data.toList.drop (m + 1)) n a b (-1) by
                    rw [HP.out, ← HNXe, drop_endL s mp (by omega)]; exact rdP2_other (rdQ_one _))
                  have hat := hlm
                  have k2 : ¬ (mp : Int) < (s.size : Int) := by omega
                  have CI := 0
                  clear h46 HNXe hmp2
                  by_cases h99 : 99 < n
                  · have HX := Lib.hid (show rdP (s.data.toList.drop i) = none by rw [HP3.out]; exact rdP3_far h99)
                    have h99i : (99 : Int) < (n : Int) := by omega
                    clear h99
                    go_wp2_with (first | (go_at_call 96; refine (QD.out _).mono ?_; rintro e w' ⟨rfl, rfl⟩) | (go_at_call 56; refine (CI.out _).mono ?_; rintro e w' ⟨rfl, rfl⟩) | (go_at_call 97; refine (CX.out _).mono ?_; rintro e w' ⟨rfl, rfl⟩))
                    all_goals
                      have QF := Lib.hid (fin_cells (a' := a) (b' := b) (n' := (n : Int)) (p' := (-1)) (kd' := 0) R0.out)
                      have QB := Lib.hid (fin_below (a' := a) (b' := b) (n' := (n : Int)) (p' := (-1)) (kd' := 0) HB.out)
                      obtain ⟨_, y0, y1, y2, y3, y4, _, _, _, _, _⟩ := QF.out
                      generalize (((((wr.setCell ⟨B, 0, none⟩ (.bool a)).setCell ⟨B, 1, none⟩ (.bool b)).setCell ⟨B, 2, none⟩ (.int .i64 (n : Int))).setCell ⟨B, 3, none⟩ (.int .i64 (-1))).setCell ⟨B, 4, none⟩ (.int .u8 0)) = WF at *
                      have QB := Lib.hid (QB.out.mono (Nat.le_of_eq HBE.out.symm))
                      clear QF
                      exact bodyPost_ret (v := .tuple #[.agg #[.bool a, .bool b, .int .i64 (n : Int), .int .i64 (-1), .int .u8 0], .int .i64 (-1)]) (by simp [results, Tryz.results47, go_sem, y0, y1, y2, y3, y4]) rfl ⟨QB.out, .inl ⟨HX.out, _, _, _, _, _, rfl⟩⟩
                  · have h99i : ¬ (99 : Int) < (n : Int) := by omega
                    have hsl : ∀ W, (Instr.slice 9 (.string s) (some (.int .i64 (m : Int))) (some (.int .i64 (mp : Int))) none).run Tryz.prog W = .ok (.string ⟨#[s[m]]⟩) W := fun W => by
                      rw [run_slice_string W _ s .i64 .i64 _ _ Tryz.underlying9 (by omega) (by omega) (by omega), Int.toNat_natCast, Int.toNat_natCast, show mp = m + 1 from HNX.out, one_at s m hat]
                    have CX := Lib.hid (fun W => specIdx_any ⟨#[100, 105, 115, 102, 99, 120, 111]⟩ ⟨#[s[m]]⟩ W (by decide) (by show 1 ≤ 1048576; omega))
                    have hkz := kind_idx8 s[m]
                    generalize idxOf ⟨#[100, 105, 115, 102, 99, 120, 111]⟩ ⟨#[s[m]]⟩ = z at *
                    cases hk : kindB s[m]
                    · have HX := Lib.hid (show rdP (s.data.toList.drop i) = none by rw [HP3.out]; exact rdP3_not hk)
                      rw [hk] at hkz
                      clear hk h99
                      go_wp2_with (first | (go_at_call 96; refine (QD.out _).mono ?_; rintro e w' ⟨rfl, rfl⟩) | (go_at_call 56; refine (CI.out _).mono ?_; rintro e w' ⟨rfl, rfl⟩) | (go_at_call 97; refine (CX.out _).mono ?_; rintro e w' ⟨rfl, rfl⟩))
                      all_goals
                        have QF := Lib.hid (fin_cells (a' := a) (b' := b) (n' := (n : Int)) (p' := (-1)) (kd' := 0) R0.out)
                        have QB := Lib.hid (fin_below (a' := a) (b' := b) (n' := (n : Int)) (p' := (-1)) (kd' := 0) HB.out)
                        obtain ⟨_, y0, y1, y2, y3, y4, _, _, _, _, _⟩ := QF.out
                        generalize (((((wr.setCell ⟨B, 0, none⟩ (.bool a)).setCell ⟨B, 1, none⟩ (.bool b)).setCell ⟨B, 2, none⟩ (.int .i64 (n : Int))).setCell ⟨B, 3, none⟩ (.int .i64 (-1))).setCell ⟨B, 4, none⟩ (.int .u8 0)) = WF at *
                        have QB := Lib.hid (QB.out.mono (Nat.le_of_eq HBE.out.symm))
                        clear QF
                        exact bodyPost_ret (v := .tuple #[.agg #[.bool a, .bool b, .int .i64 (n : Int), .int .i64 (-1), .int .u8 0], .int .i64 (-1)]) (by simp [results, Tryz.results47, go_sem, y0, y1, y2, y3, y4]) rfl ⟨QB.out, .inl ⟨HX.out, _, _, _, _, _, rfl⟩⟩
                    · have HX := Lib.hid (show rdP (s.data.toList.drop i) = some (⟨a, b, n, (-1), s[m]⟩, s.data.toList.drop (m + 1)) by rw [HP3.out]; exact rdP3_kind (by omega) hk)
                      rw [hk] at hkz
                      have RF := Lib.hid (R0.out.off (g' := B + 1) (j := 4) (by omega) (.int .u8 (s[m].toNat : Int)))
                      have RG := Lib.hid (R1.out.set4 (s[m].toNat : Int))
                      have HF2 := Lib.hid (HB.out.setCell (p := ⟨B + 1, 4, none⟩) (by simp) (.int .u8 (s[m].toNat : Int)))
                      obtain ⟨_, v0, v1, v2, v3, v4, _, _, _, _, _⟩ := RG.out
                      obtain ⟨_, u0, u1, u2, u3, u4, t0, t1, t2, t3, t4⟩ := RF.out
                      have HNN := Lib.hid (show ((s.size - (s.data.toList.drop (m + 1)).length : Nat) : Int) = (mp : Int) by
                        have := HNX.out
                        rw [List.length_drop, show s.data.toList.length = s.size by simp]; omega)
                      clear hk h99
                      go_wp2_with (first | (go_at_call 96; refine (QD.out _).mono ?_; rintro e w' ⟨rfl, rfl⟩) | (go_at_call 56; refine (CI.out _).mono ?_; rintro e w' ⟨rfl, rfl⟩) | (go_at_call 97; refine (CX.out _).mono ?_; rintro e w' ⟨rfl, rfl⟩))
                      all_goals
                        have QF := Lib.hid (fin_cells (a' := a) (b' := b) (n' := (n : Int)) (p' := (-1)) (kd' := (s[m].toNat : Int)) RF.out)
                        have QB := Lib.hid (fin_below (a' := a) (b' := b) (n' := (n : Int)) (p' := (-1)) (kd' := (s[m].toNat : Int)) HF2.out)
                        obtain ⟨_, y0, y1, y2, y3, y4, _, _, _, _, _⟩ := QF.out
                        generalize ((((((wr.setCell ⟨B + 1, 4, none⟩ (.int .u8 (s[m].toNat : Int))).setCell ⟨B, 0, none⟩ (.bool a)).setCell ⟨B, 1, none⟩ (.bool b)).setCell ⟨B, 2, none⟩ (.int .i64 (n : Int))).setCell ⟨B, 3, none⟩ (.int .i64 (-1))).setCell ⟨B, 4, none⟩ (.int .u8 (s[m].toNat : Int))) = WF at *
                        have QB := Lib.hid (QB.out.mono (Nat.le_of_eq HBE.out.symm))
                        clear QF
                        exact bodyPost_ret (v := .tuple #[.agg #[.bool a, .bool b, .int .i64 (n : Int), .int .i64 (-1), .int .u8 (s[m].toNat : Int)], .int .i64 (mp : Int)]) (by simp [results, Tryz.results47, go_sem, y0, y1, y2, y3, y4]) rfl ⟨QB.out, .inr ⟨_, _, HX.out, by rw [HNN.out]; rfl⟩⟩
              · have x46 : ((s[m].toNat : Int) == 46) = false := ne_int s[m] 46 (by omega) h46
                have HP3 := Lib.hid (show rdP (s.data.toList.drop i) = rdP3 (s[m] :: s.data.toList.drop (m + 1)) n a b (-1) by
                  rw [HP.out]; exact rdP2_other (rdQ_no h46))
                have hat := hlm
                have CI := 0
                clear h46 HNXe
                by_cases h99 : 99 < n
                · have HX := Lib.hid (show rdP (s.data.toList.drop i) = none by rw [HP3.out]; exact rdP3_far h99)
                  have h99i : (99 : Int) < (n : Int) := by omega
                  clear h99
                  go_wp2_with (first | (go_at_call 96; refine (QD.out _).mono ?_; rintro e w' ⟨rfl, rfl⟩) | (go_at_call 56; refine (CI.out _).mono ?_; rintro e w' ⟨rfl, rfl⟩) | (go_at_call 97; refine (CX.out _).mono ?_; rintro e w' ⟨rfl, rfl⟩))
                  all_goals
                    have QF := Lib.hid (fin_cells (a' := a) (b' := b) (n' := (n : Int)) (p' := (-1)) (kd' := 0) R0.out)
                    have QB := Lib.hid (fin_below (a' := a) (b' := b) (n' := (n : Int)) (p' := (-1)) (kd' := 0) HB.out)
                    obtain ⟨_, y0, y1, y2, y3, y4, _, _, _, _, _⟩ := QF.out
                    generalize (((((wr.setCell ⟨B, 0, none⟩ (.bool a)).setCell ⟨B, 1, none⟩ (.bool b)).setCell ⟨B, 2, none⟩ (.int .i64 (n : Int))).setCell ⟨B, 3, none⟩ (.int .i64 (-1))).setCell ⟨B, 4, none⟩ (.int .u8 0)) = WF at *
                    have QB := Lib.hid (QB.out.mono (Nat.le_of_eq HBE.out.symm))
                    clear QF
                    exact bodyPost_ret (v := .tuple #[.agg #[.bool a, .bool b, .int .i64 (n : Int), .int .i64 (-1), .int .u8 0], .int .i64 (-1)]) (by simp [results, Tryz.results47, go_sem, y0, y1, y2, y3, y4]) rfl ⟨QB.out, .inl ⟨HX.out, _, _, _, _, _, rfl⟩⟩
                · have h99i : ¬ (99 : Int) < (n : Int) := by omega
                  have hsl : ∀ W, (Instr.slice 9 (.string s) (some (.int .i64 (m : Int))) (some (.int .i64 (mp : Int))) none).run Tryz.prog W = .ok (.string ⟨#[s[m]]⟩) W := fun W => by
                    rw [run_slice_string W _ s .i64 .i64 _ _ Tryz.underlying9 (by omega) (by omega) (by omega), Int.toNat_natCast, Int.toNat_natCast, show mp = m + 1 from HNX.out, one_at s m hat]
                  have CX := Lib.hid (fun W => specIdx_any ⟨#[100, 105, 115, 102, 99, 120, 111]⟩ ⟨#[s[m]]⟩ W (by decide) (by show 1 ≤ 1048576; omega))
                  have hkz := kind_idx8 s[m]
                  generalize idxOf ⟨#[100, 105, 115, 102, 99, 120, 111]⟩ ⟨#[s[m]]⟩ = z at *
                  cases hk : kindB s[m]
                  · have HX := Lib.hid (show rdP (s.data.toList.drop i) = none by rw [HP3.out]; exact rdP3_not hk)
                    rw [hk] at hkz
                    clear hk h99
                    go_wp2_with (first | (go_at_call 96; refine (QD.out _).mono ?_; rintro e w' ⟨rfl, rfl⟩) | (go_at_call 56; refine (CI.out _).mono ?_; rintro e w' ⟨rfl, rfl⟩) | (go_at_call 97; refine (CX.out _).mono ?_; rintro e w' ⟨rfl, rfl⟩))
                    all_goals
                      have QF := Lib.hid (fin_cells (a' := a) (b' := b) (n' := (n : Int)) (p' := (-1)) (kd' := 0) R0.out)
                      have QB := Lib.hid (fin_below (a' := a) (b' := b) (n' := (n : Int)) (p' := (-1)) (kd' := 0) HB.out)
                      obtain ⟨_, y0, y1, y2, y3, y4, _, _, _, _, _⟩ := QF.out
                      generalize (((((wr.setCell ⟨B, 0, none⟩ (.bool a)).setCell ⟨B, 1, none⟩ (.bool b)).setCell ⟨B, 2, none⟩ (.int .i64 (n : Int))).setCell ⟨B, 3, none⟩ (.int .i64 (-1))).setCell ⟨B, 4, none⟩ (.int .u8 0)) = WF at *
                      have QB := Lib.hid (QB.out.mono (Nat.le_of_eq HBE.out.symm))
                      clear QF
                      exact bodyPost_ret (v := .tuple #[.agg #[.bool a, .bool b, .int .i64 (n : Int), .int .i64 (-1), .int .u8 0], .int .i64 (-1)]) (by simp [results, Tryz.results47, go_sem, y0, y1, y2, y3, y4]) rfl ⟨QB.out, .inl ⟨HX.out, _, _, _, _, _, rfl⟩⟩
                  · have HX := Lib.hid (show rdP (s.data.toList.drop i) = some (⟨a, b, n, (-1), s[m]⟩, s.data.toList.drop (m + 1)) by rw [HP3.out]; exact rdP3_kind (by omega) hk)
                    rw [hk] at hkz
                    have RF := Lib.hid (R0.out.off (g' := B + 1) (j := 4) (by omega) (.int .u8 (s[m].toNat : Int)))
                    have RG := Lib.hid (R1.out.set4 (s[m].toNat : Int))
                    have HF2 := Lib.hid (HB.out.setCell (p := ⟨B + 1, 4, none⟩) (by simp) (.int .u8 (s[m].toNat : Int)))
                    obtain ⟨_, v0, v1, v2, v3, v4, _, _, _, _, _⟩ := RG.out
                    obtain ⟨_, u0, u1, u2, u3, u4, t0, t1, t2, t3, t4⟩ := RF.out
                    have HNN := Lib.hid (show ((s.size - (s.data.toList.drop (m + 1)).length : Nat) : Int) = (mp : Int) by
                      have := HNX.out
                      rw [List.length_drop, show s.data.toList.length = s.size by simp]; omega)
                    clear hk h99
                    go_wp2_with (first | (go_at_call 96; refine (QD.out _).mono ?_; rintro e w' ⟨rfl, rfl⟩) | (go_at_call 56; refine (CI.out _).mono ?_; rintro e w' ⟨rfl, rfl⟩) | (go_at_call 97; refine (CX.out _).mono ?_; rintro e w' ⟨rfl, rfl⟩))
                    all_goals
                      have QF := Lib.hid (fin_cells (a' := a) (b' := b) (n' := (n : Int)) (p' := (-1)) (kd' := (s[m].toNat : Int)) RF.out)
                      have QB := Lib.hid (fin_below (a' := a) (b' := b) (n' := (n : Int)) (p' := (-1)) (kd' := (s[m].toNat : Int)) HF2.out)
                      obtain ⟨_, y0, y1, y2, y3, y4, _, _, _, _, _⟩ := QF.out
                      generalize ((((((wr.setCell ⟨B + 1, 4, none⟩ (.int .u8 (s[m].toNat : Int))).setCell ⟨B, 0, none⟩ (.bool a)).setCell ⟨B, 1, none⟩ (.bool b)).setCell ⟨B, 2, none⟩ (.int .i64 (n : Int))).setCell ⟨B, 3, none⟩ (.int .i64 (-1))).setCell ⟨B, 4, none⟩ (.int .u8 (s[m].toNat : Int))) = WF at *
                      have QB := Lib.hid (QB.out.mono (Nat.le_of_eq HBE.out.symm))
                      clear QF
                      exact bodyPost_ret (v := .tuple #[.agg #[.bool a, .bool b, .int .i64 (n : Int), .int .i64 (-1), .int .u8 (s[m].toNat : Int)], .int .i64 (mp : Int)]) (by simp [results, Tryz.results47, go_sem, y0, y1, y2, y3, y4]) rfl ⟨QB.out, .inr ⟨_, _, HX.out, by rw [HNN.out]; rfl⟩⟩
          · obtain rfl : m = s.size := by omega
            have HX := Lib.hid (show rdP (s.data.toList.drop i) = none by
              rw [HF.out, rdP1_eq (l2 := []) (n := n) (by rw [HR.out, drop_endL s s.size (Nat.le_refl _)]; exact rdD_nil _ _)]; rfl)
            have d0 : ¬ ((s.size : Int) + 1 < (s.size : Int)) := by omega
            obtain ⟨lt0, c00, c01, c02, c03, c04, f00, f01, f02, f03, f04⟩ := R0.out
            obtain ⟨lt1, c10, c11, c12, c13, c14, f10, f11, f12, f13, f14⟩ := R1.out
            go_wp2_with fail
            all_goals
              have QF := Lib.hid (fin_cells (a' := a) (b' := b) (n' := (n : Int)) (p' := (-1)) (kd' := 0) R0.out)
              have QB := Lib.hid (fin_below (a' := a) (b' := b) (n' := (n : Int)) (p' := (-1)) (kd' := 0) HB.out)
              obtain ⟨_, y0, y1, y2, y3, y4, _, _, _, _, _⟩ := QF.out
              generalize (((((wr.setCell ⟨B, 0, none⟩ (.bool a)).setCell ⟨B, 1, none⟩ (.bool b)).setCell ⟨B, 2, none⟩ (.int .i64 (n : Int))).setCell ⟨B, 3, none⟩ (.int .i64 (-1))).setCell ⟨B, 4, none⟩ (.int .u8 0)) = WF at *
              have QB := Lib.hid (QB.out.mono (Nat.le_of_eq HBE.out.symm))
              clear QF
              exact bodyPost_ret (v := .tuple #[.agg #[.bool a, .bool b, .int .i64 (n : Int), .int .i64 (-1), .int .u8 0], .int .i64 (-1)]) (by simp [results, Tryz.results47, go_sem, y0, y1, y2, y3, y4]) rfl ⟨QB.out, .inl ⟨HX.out, _, _, _, _, _, rfl⟩⟩
    · obtain rfl : k = s.size := by omega
      have HF := Lib.hid (show rdP (s.data.toList.drop i) = rdP1 (s.data.toList.drop s.size) a b from rdP_flags (by rw [HR.out, drop_endL s s.size (Nat.le_refl _)]; rfl))
      go_wp2_with fail
      go_loopg [1] (s.size - s.size) (fun gg si wr => ∃ m n : Nat, m + gg = s.size ∧ si = .int .i64 (m : Int) ∧ s.size ≤ m ∧ m ≤ s.size ∧ m ≤ s.size + 3 ∧ n < 10 ^ (m - s.size) ∧ rdD 3 (s.data.toList.drop s.size) 0 = rdD (s.size + 3 - m) (s.data.toList.drop m) n ∧ Pl5 wr B false false 0 0 0 ∧ Pl5 wr (B + 1) a b (n : Int) (-1) 0 ∧ Below B w wr)
      case atStart => exact ⟨s.size, 0, by omega, rfl, Nat.le_refl _, by omega, by omega, by simp, by rw [show s.size + 3 - s.size = 3 by omega], R0.out, R1.out, HB.out⟩
      case round =>
        obtain ⟨m, n, hmg, rfl, hkm, hm, hm3, hn, hrd, r0, r1, hb⟩ := hrel
        have HR := Lib.hid hrd
        have R0 := Lib.hid r0
        have R1 := Lib.hid r1
        have HB := Lib.hid hb
        have HM := Lib.hid (show m + gk = s.size ∧ s.size ≤ m ∧ n < 10 ^ (m - s.size) from ⟨hmg, hkm, hn⟩)
        have hn9 : n ≤ 999 := by have : 10 ^ (m - s.size) ≤ 10 ^ 3 := Nat.pow_le_pow_right (by omega) (by omega)
                                 omega
        clear hrd r0 r1 hb hn
        obtain rfl : m = s.size := by omega
        have HX := Lib.hid (show rdP (s.data.toList.drop i) = none by
          rw [HF.out, rdP1_eq (l2 := []) (n := n) (by rw [HR.out, drop_endL s s.size (Nat.le_refl _)]; exact rdD_nil _ _)]; rfl)
        have d0 : ¬ ((s.size : Int) + 1 < (s.size : Int)) := by omega
        obtain ⟨lt0, c00, c01, c02, c03, c04, f00, f01, f02, f03, f04⟩ := R0.out
        obtain ⟨lt1, c10, c11, c12, c13, c14, f10, f11, f12, f13, f14⟩ := R1.out
        go_wp2_with fail
        all_goals
          have QF := Lib.hid (fin_cells (a' := a) (b' := b) (n' := (n : Int)) (p' := (-1)) (kd' := 0) R0.out)
          have QB := Lib.hid (fin_below (a' := a) (b' := b) (n' := (n : Int)) (p' := (-1)) (kd' := 0) HB.out)
          obtain ⟨_, y0, y1, y2, y3, y4, _, _, _, _, _⟩ := QF.out
          generalize (((((wr.setCell ⟨B, 0, none⟩ (.bool a)).setCell ⟨B, 1, none⟩ (.bool b)).setCell ⟨B, 2, none⟩ (.int .i64 (n : Int))).setCell ⟨B, 3, none⟩ (.int .i64 (-1))).setCell ⟨B, 4, none⟩ (.int .u8 0)) = WF at *
          have QB := Lib.hid (QB.out.mono (Nat.le_of_eq HBE.out.symm))
          clear QF
          exact bodyPost_ret (v := .tuple #[.agg #[.bool a, .bool b, .int .i64 (n : Int), .int .i64 (-1), .int .u8 0], .int .i64 (-1)]) (by simp [results, Tryz.results47, go_sem, y0, y1, y2, y3, y4]) rfl ⟨QB.out, .inl ⟨HX.out, _, _, _, _, _, rfl⟩⟩
end Go.Proofs.YthffjcclcladoaaGreatDoor.kit
/-
  Contract of spec.Places over this seat's translation: how many places a form has. Conditions: a form of at most 1048576 bytes.
-/
namespace Go.Proofs.YthffjcclcladoaaGreatDoor.kit
open Go.ChangeShapes Go.WideShapes Go.ChangeAt Go.RowKit
set_option linter.unusedVariables false

theorem rdF_suf : ∀ (l : List UInt8) (a b : Bool), (rdF l a b).1 <:+ l := fun l a b => by rw [rdF_eq]; exact List.drop_suffix _ _
theorem rdD_suf : ∀ (n : Nat) (l : List UInt8) (a : Nat), (rdD n l a).1 <:+ l
  | 0, l, a => List.suffix_refl _
  | n + 1, [], a => List.suffix_refl _
  | n + 1, c :: l, a => by
    rw [rdD]; split
    · exact (rdD_suf n l _).trans (List.suffix_cons _ _)
    · exact List.suffix_refl _
theorem rdQ_suf (l : List UInt8) : (rdQ l).1 <:+ l := by
  unfold rdQ; split
  · split
    · exact (List.suffix_cons _ _).trans (List.suffix_cons _ _)
    · exact List.suffix_refl _
  · exact List.suffix_refl _
theorem rdP_suf {l r : List UInt8} {p : Plc} (h : rdP l = some (p, r)) : r <:+ l := by
  unfold rdP at h
  have h1 := rdF_suf l false false
  have h2 := rdD_suf 3 (rdF l false false).1 0
  have h3 := rdQ_suf (rdD 3 (rdF l false false).1 0).1
  split at h
  · cases h
  · rename_i c r' e
    split at h
    · rw [e] at h3
      obtain ⟨-, rfl⟩ := by simpa using h
      exact (((List.suffix_cons c _).trans h3).trans h2).trans h1
    · cases h
theorem rdP_drop (s : ByteArray) (k : Nat) (p : Plc) (r : List UInt8) (h : rdP (s.data.toList.drop k) = some (p, r)) : r = s.data.toList.drop (s.size - r.length) ∧ k < s.size - r.length := by
  have h1 := (rdP_suf h).trans (List.drop_suffix k s.data.toList)
  have h2 := rdP_len h
  have e : s.data.toList.length = s.size := by simp
  refine ⟨?_, ?_⟩
  · have := List.suffix_iff_eq_drop.1 h1
    rwa [e] at this
  · rw [List.length_drop, e] at h2; omega
set_option maxRecDepth 100000 in
set_option maxHeartbeats 2000000 in
theorem specPl_any (s : ByteArray) (w : World) (hs : s.size ≤ 1048576) :
    Calls Tryz.prog 17 #[.string s] w fun e w' => e = .returned (.int .i64 (plN s.data.toList 0)) ∧ Below w.heap.size w w' := by
  have HS := Lib.hid hs
  go_enter Tryz.func17, Tryz.ntmps17
  go_wp2_with fail
  go_loopg [3, 4] s.size (fun gg sn si wr => ∃ k m : Nat, k + gg = s.size ∧ si = .int .i64 (k : Int) ∧ sn = .int .i64 (m : Int) ∧ k ≤ s.size ∧ m ≤ k ∧ plN s.data.toList 0 = plN (s.data.toList.drop k) m ∧ Below w.heap.size w wr)
  case atStart => exact ⟨0, 0, by omega, rfl, rfl, by omega, by omega, by simp, Below.refl _ _⟩
  case round =>
    obtain ⟨k, m, hkg, rfl, rfl, hk, hmk, hp, hb⟩ := hrel
    have HP := Lib.hid hp
    have HB := Lib.hid hb
    clear hp hb
    by_cases hlt : k < s.size
    · have hb8 : s[k].toNat < 256 := s[k].toNat_lt
      by_cases h37 : s[k] = 37
      · have x37 : ((s[k].toNat : Int) != 37) = false := by rw [h37]; rfl
        obtain ⟨kp, hkp⟩ : ∃ kp : Nat, kp = k + 1 := ⟨_, rfl⟩
        have hkpi : (k : Int) + 1 = (kp : Int) := by omega
        by_cases hk1 : kp < s.size
        · have hb9 : s[kp].toNat < 256 := s[kp].toNat_lt
          by_cases h38 : s[kp] = 37
          · have x38 : ((s[kp].toNat : Int) == 37) = true := by rw [h38]; rfl
            have HN := Lib.hid (show plN s.data.toList 0 = plN (s.data.toList.drop (k + 2)) m by
              rw [HP.out, drop_atL s k hlt, ← hkp, drop_atL s kp hk1, h37, h38, plN_both, hkp])
            have hk2 : k + 2 ≤ s.size := by omega
            clear h37 h38 hkp
            go_wp2_with fail
            go_roundg (s.size - (k + 2))
            case measure => omega
            case rel => exact ⟨k + 2, m, by omega, by go_num, rfl, hk2, by omega, HN.out, HB.out⟩
          · have x38 : ((s[kp].toNat : Int) == 37) = false := ne_int _ 37 (by omega) h38
            have HL := Lib.hid (show plN s.data.toList 0 = plN (37 :: s.data.toList.drop kp) m by rw [HP.out, drop_atL s k hlt, h37, hkp])
            have HH := Lib.hid (show (s.data.toList.drop kp).head? ≠ some 37 by rw [drop_atL s kp hk1]; simpa using h38)
            have C := Lib.hid (fun W => read_any s kp W HS.out (by omega))
            have HKP := Lib.hid hkp
            clear h37 h38 hkp
            go_wp2_with fail
            refine (C.out _).mono ?_
            rintro en w1 ⟨hb1, ⟨hno, a, b, n, p, kd, rfl⟩ | ⟨p, r, hsome, rfl⟩⟩
            · have HN := Lib.hid (show plN s.data.toList 0 = -1 by rw [HL.out]; exact plN_none m HH.out hno)
              have HB1 := Lib.hid (HB.out.trans (hb1.mono HB.out.size))
              clear hb1 hno
              go_wp2_with fail
              go_ret
              exact ⟨ret_int HN.out.symm, by first | exact HB1.out | exact HB1.out.alloc HB1.out.size _⟩
            · obtain ⟨hr1, hr2⟩ := rdP_drop s kp p r hsome
              obtain ⟨nx, hnx⟩ : ∃ nx : Nat, nx = s.size - r.length := ⟨_, rfl⟩
              rw [← hnx] at hr1 hr2
              have HN := Lib.hid (show plN s.data.toList 0 = plN (s.data.toList.drop nx) (m + 1) by rw [HL.out, plN_some m HH.out hsome, hr1])
              have HB1 := Lib.hid (HB.out.trans (hb1.mono HB.out.size))
              have hk3 : k < nx := by have := HKP.out; omega
              have hnx2 : nx ≤ s.size := by omega
              rw [← hnx]
              have hnx0 : ¬ (nx : Int) < 0 := by omega
              unfold Plc.v
              clear hb1 hsome hr1 hnx
              go_wp2_with fail
              go_roundg (s.size - nx)
              case measure => omega
              case rel => exact ⟨nx, m + 1, by omega, rfl, by go_num, hnx2, by omega, HN.out, by first | exact HB1.out | exact HB1.out.alloc HB1.out.size _⟩
        · have k2 : ¬ (kp : Int) < (s.size : Int) := by omega
          have HL := Lib.hid (show plN s.data.toList 0 = plN (37 :: s.data.toList.drop kp) m by rw [HP.out, drop_atL s k hlt, h37, hkp])
          have HH := Lib.hid (show (s.data.toList.drop kp).head? ≠ some 37 by rw [drop_endL s kp (by omega)]; simp)
          have C := Lib.hid (fun W => read_any s kp W HS.out (by omega))
          have HKP := Lib.hid hkp
          clear h37 hkp hk1
          go_wp2_with fail
          refine (C.out _).mono ?_
          rintro en w1 ⟨hb1, ⟨hno, a, b, n, p, kd, rfl⟩ | ⟨p, r, hsome, rfl⟩⟩
          · have HN := Lib.hid (show plN s.data.toList 0 = -1 by rw [HL.out]; exact plN_none m HH.out hno)
            have HB1 := Lib.hid (HB.out.trans (hb1.mono HB.out.size))
            clear hb1 hno
            go_wp2_with fail
            go_ret
            exact ⟨ret_int HN.out.symm, by first | exact HB1.out | exact HB1.out.alloc HB1.out.size _⟩
          · exfalso
            rw [drop_endL s kp (by omega)] at hsome
            revert hsome
            simp [rdP, rdF, rdD, rdQ]
      · have x37 : ((s[k].toNat : Int) != 37) = true := by
          have this : ((s[k].toNat : Int) == 37) = false := ne_int s[k] 37 (by omega) h37
          rw [bne, this]; rfl
        have HN := Lib.hid (show plN s.data.toList 0 = plN (s.data.toList.drop (k + 1)) m by
          rw [HP.out, drop_atL s k hlt, plN_skip _ _ h37])
        clear h37
        go_wp2_with fail
        go_roundg (s.size - (k + 1))
        case measure => omega
        case rel => exact ⟨k + 1, m, by omega, by go_num, rfl, by omega, by omega, HN.out, HB.out⟩
    · have HN := Lib.hid (show plN s.data.toList 0 = m by rw [HP.out, drop_endL s k (by omega), plN_nil])
      go_wp2_with fail
      go_ret
      exact ⟨ret_int HN.out.symm, HB.out⟩
end Go.Proofs.YthffjcclcladoaaGreatDoor.kit
