/-
  Contract of spec.Places over this seat's translation: how many places a form has. Conditions: a form of at most 1048576 bytes.
-/
import Derived.Test.YtcnmcfalobekmaaFp2
import Derived.Deep.LoopGhost
namespace Go.Proofs.Ytcnmcfalobekmaa.kit
open Go.ChangeShapes Go.WideShapes Go.ChangeAt Go.RowKit
set_option linter.unusedVariables false

theorem rdF_suf : ∀ (l : List UInt8) (a b : Bool), (rdF l a b).1 <:+ l := fun l a b => by rw [rdF_eq]; exact List.drop_suffix _ _
theorem rdD_suf : ∀ (n : Nat) (l : List UInt8) (a : Nat), (rdD n l a).1 <:+ l
  | 0, l, a => List.suffix_refl _
  | n + 1, [], a => List.suffix_refl _
  | n + 1, c :: l, a => by
    rw [rdD]; split
    · exact (rdD_suf n l _).trans (List.suffix_cons _ _)
    · exact List.suffix_refl _
theorem rdQ_suf (l : List UInt8) : (rdQ l).1 <:+ l := by
  unfold rdQ; split
  · split
    · exact (List.suffix_cons _ _).trans (List.suffix_cons _ _)
    · exact List.suffix_refl _
  · exact List.suffix_refl _
theorem rdP_suf {l r : List UInt8} {p : Plc} (h : rdP l = some (p, r)) : r <:+ l := by
  unfold rdP at h
  have h1 := rdF_suf l false false
  have h2 := rdD_suf 3 (rdF l false false).1 0
  have h3 := rdQ_suf (rdD 3 (rdF l false false).1 0).1
  split at h
  · cases h
  · rename_i c r' e
    split at h
    · rw [e] at h3
      obtain ⟨-, rfl⟩ := by simpa using h
      exact (((List.suffix_cons c _).trans h3).trans h2).trans h1
    · cases h
theorem rdP_drop (s : ByteArray) (k : Nat) (p : Plc) (r : List UInt8) (h : rdP (s.data.toList.drop k) = some (p, r)) : r = s.data.toList.drop (s.size - r.length) ∧ k < s.size - r.length := by
  have h1 := (rdP_suf h).trans (List.drop_suffix k s.data.toList)
  have h2 := rdP_len h
  have e : s.data.toList.length = s.size := by simp
  refine ⟨?_, ?_⟩
  · have := List.suffix_iff_eq_drop.1 h1
    rwa [e] at this
  · rw [List.length_drop, e] at h2; omega
set_option maxRecDepth 100000 in
set_option maxHeartbeats 2000000 in
theorem specPl_any (s : ByteArray) (w : World) (hs : s.size ≤ 1048576) :
    Calls Try.prog 5 #[.string s] w fun e w' => e = .returned (.int .i64 (plN s.data.toList 0)) ∧ Below w.heap.size w w' := by
  have HS := Lib.hid hs
  go_enter Try.func5, Try.ntmps5
  go_wp2_with fail
  go_loopg [3, 4] s.size (fun gg sn si wr => ∃ k m : Nat, k + gg = s.size ∧ si = .int .i64 (k : Int) ∧ sn = .int .i64 (m : Int) ∧ k ≤ s.size ∧ m ≤ k ∧ plN s.data.toList 0 = plN (s.data.toList.drop k) m ∧ Below w.heap.size w wr)
  case atStart => exact ⟨0, 0, by omega, rfl, rfl, by omega, by omega, by simp, Below.refl _ _⟩
  case round =>
    obtain ⟨k, m, hkg, rfl, rfl, hk, hmk, hp, hb⟩ := hrel
    have HP := Lib.hid hp
    have HB := Lib.hid hb
    clear hp hb
    by_cases hlt : k < s.size
    · have hb8 : s[k].toNat < 256 := s[k].toNat_lt
      by_cases h37 : s[k] = 37
      · have x37 : ((s[k].toNat : Int) != 37) = false := by rw [h37]; rfl
        obtain ⟨kp, hkp⟩ : ∃ kp : Nat, kp = k + 1 := ⟨_, rfl⟩
        have hkpi : (k : Int) + 1 = (kp : Int) := by omega
        by_cases hk1 : kp < s.size
        · have hb9 : s[kp].toNat < 256 := s[kp].toNat_lt
          by_cases h38 : s[kp] = 37
          · have x38 : ((s[kp].toNat : Int) == 37) = true := by rw [h38]; rfl
            have HN := Lib.hid (show plN s.data.toList 0 = plN (s.data.toList.drop (k + 2)) m by
              rw [HP.out, drop_atL s k hlt, ← hkp, drop_atL s kp hk1, h37, h38, plN_both, hkp])
            have hk2 : k + 2 ≤ s.size := by omega
            clear h37 h38 hkp
            go_wp2_with fail
            go_roundg (s.size - (k + 2))
            case measure => omega
            case rel => exact ⟨k + 2, m, by omega, by go_num, rfl, hk2, by omega, HN.out, HB.out⟩
          · have x38 : ((s[kp].toNat : Int) == 37) = false := ne_int _ 37 (by omega) h38
            have HL := Lib.hid (show plN s.data.toList 0 = plN (37 :: s.data.toList.drop kp) m by rw [HP.out, drop_atL s k hlt, h37, hkp])
            have HH := Lib.hid (show (s.data.toList.drop kp).head? ≠ some 37 by rw [drop_atL s kp hk1]; simpa using h38)
            have C := Lib.hid (fun W => read_any s kp W HS.out (by omega))
            have HKP := Lib.hid hkp
            clear h37 h38 hkp
            go_wp2_with fail
            refine (C.out _).mono ?_
            rintro en w1 ⟨hb1, ⟨hno, a, b, n, p, kd, rfl⟩ | ⟨p, r, hsome, rfl⟩⟩
            · have HN := Lib.hid (show plN s.data.toList 0 = -1 by rw [HL.out]; exact plN_none m HH.out hno)
              have HB1 := Lib.hid (HB.out.trans (hb1.mono HB.out.size))
              clear hb1 hno
              go_wp2_with fail
              go_ret
              exact ⟨ret_int HN.out.symm, by first | exact HB1.out | exact HB1.out.alloc HB1.out.size _⟩
            · obtain ⟨hr1, hr2⟩ := rdP_drop s kp p r hsome
              obtain ⟨nx, hnx⟩ : ∃ nx : Nat, nx = s.size - r.length := ⟨_, rfl⟩
              rw [← hnx] at hr1 hr2
              have HN := Lib.hid (show plN s.data.toList 0 = plN (s.data.toList.drop nx) (m + 1) by rw [HL.out, plN_some m HH.out hsome, hr1])
              have HB1 := Lib.hid (HB.out.trans (hb1.mono HB.out.size))
              have hk3 : k < nx := by have := HKP.out; omega
              have hnx2 : nx ≤ s.size := by omega
              rw [← hnx]
              have hnx0 : ¬ (nx : Int) < 0 := by omega
              unfold Plc.v
              clear hb1 hsome hr1 hnx
              go_wp2_with fail
              go_roundg (s.size - nx)
              case measure => omega
              case rel => exact ⟨nx, m + 1, by omega, rfl, by go_num, hnx2, by omega, HN.out, by first | exact HB1.out | exact HB1.out.alloc HB1.out.size _⟩
        · have k2 : ¬ (kp : Int) < (s.size : Int) := by omega
          have HL := Lib.hid (show plN s.data.toList 0 = plN (37 :: s.data.toList.drop kp) m by rw [HP.out, drop_atL s k hlt, h37, hkp])
          have HH := Lib.hid (show (s.data.toList.drop kp).head? ≠ some 37 by rw [drop_endL s kp (by omega)]; simp)
          have C := Lib.hid (fun W => read_any s kp W HS.out (by omega))
          have HKP := Lib.hid hkp
          clear h37 hkp hk1
          go_wp2_with fail
          refine (C.out _).mono ?_
          rintro en w1 ⟨hb1, ⟨hno, a, b, n, p, kd, rfl⟩ | ⟨p, r, hsome, rfl⟩⟩
          · have HN := Lib.hid (show plN s.data.toList 0 = -1 by rw [HL.out]; exact plN_none m HH.out hno)
            have HB1 := Lib.hid (HB.out.trans (hb1.mono HB.out.size))
            clear hb1 hno
            go_wp2_with fail
            go_ret
            exact ⟨ret_int HN.out.symm, by first | exact HB1.out | exact HB1.out.alloc HB1.out.size _⟩
          · exfalso
            rw [drop_endL s kp (by omega)] at hsome
            revert hsome
            simp [rdP, rdF, rdD, rdQ]
      · have x37 : ((s[k].toNat : Int) != 37) = true := by
          have this : ((s[k].toNat : Int) == 37) = false := ne_int s[k] 37 (by omega) h37
          rw [bne, this]; rfl
        have HN := Lib.hid (show plN s.data.toList 0 = plN (s.data.toList.drop (k + 1)) m by
          rw [HP.out, drop_atL s k hlt, plN_skip _ _ h37])
        clear h37
        go_wp2_with fail
        go_roundg (s.size - (k + 1))
        case measure => omega
        case rel => exact ⟨k + 1, m, by omega, by go_num, rfl, by omega, by omega, HN.out, HB.out⟩
    · have HN := Lib.hid (show plN s.data.toList 0 = m by rw [HP.out, drop_endL s k (by omega), plN_nil])
      go_wp2_with fail
      go_ret
      exact ⟨ret_int HN.out.symm, HB.out⟩
end Go.Proofs.Ytcnmcfalobekmaa.kit
