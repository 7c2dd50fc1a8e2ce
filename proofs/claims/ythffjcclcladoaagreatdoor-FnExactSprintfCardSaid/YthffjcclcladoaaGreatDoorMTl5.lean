/-
  Contract of impl.told over this seat's translation: what it tells is what the place tells. Conditions: the tables are as listed; a text of at most 1048576 bytes.
-/
import Derived.Test.YthffjcclcladoaaGreatDoorMTl4
import Derived.Test.YthffjcclcladoaaGreatDoorMSx0
namespace Go.Proofs.YthffjcclcladoaaGreatDoor.kit
open Go.ChangeShapes Go.WideShapes Go.ChangeAt Go.RowKit
set_option linter.unusedVariables false

theorem szl (s : ByteArray) : s.data.toList.length = s.size := by simp
theorem filF_num (p : Plc) (fl : List UInt8) (b : List UInt8) (h1 : p.left = bhas fl 45) (h2 : p.nought = bhas fl 48) (hk : (p.kind == 115 || p.kind == 99) = false) :
    filF ⟨b.toArray⟩ (p.width : Int) fl = ⟨(fillL b p.width p.left (p.nought && !(p.kind == 115 || p.kind == 99))).toArray⟩ := by
  rw [filF, hk, h1, h2]; simp
theorem filF_sc (p : Plc) (fl : ByteArray) (b : List UInt8) (h1 : p.left = bhas fl.data.toList 45) (hk : (p.kind == 115 || p.kind == 99) = true) :
    filF ⟨b.toArray⟩ (p.width : Int) (noZ fl).data.toList = ⟨(fillL b p.width p.left (p.nought && !(p.kind == 115 || p.kind == 99))).toArray⟩ := by
  rw [filF, hk, h1, noZ_45, noZ_48]; simp
theorem told_any (p : Plc) (l r : List UInt8) (hp : rdP l = some (p, r)) (v : VD) (hg : GoodV v) (w : World) (hl : l.length ≤ 1048576) (ht : Tab w) (hbt : BT w) (hm : ML w) :
    Calls Tryz.prog 46 #[fpV l p, v.v] w fun e w' => e = .returned (.string ⟨(toldL p v).toArray⟩) ∧ Below w.heap.size w w' := by
  obtain ⟨hk, hwd⟩ := rdP_kind hp
  obtain ⟨hf1, hf2⟩ := rdP_fl hp
  have hpc := rdP_pc hp
  obtain ⟨k, s, n⟩ := v
  obtain ⟨hs, hn1, hn2⟩ := hg
  simp only at hs hn1 hn2
  have hnm := nmB_bd k s n hn1 hn2 (rnNum_bd s)
  obtain ⟨fl, hfl⟩ : ∃ fl : ByteArray, fl = ⟨(l.take (flN l)).toArray⟩ := ⟨_, rfl⟩
  have hfd : fl.data.toList = l.take (flN l) := by rw [hfl]
  have hfz : fl.size ≤ 1048576 := by rw [← szl, hfd, List.length_take]; omega
  have hbl := bodyL_le p.kind p.prec ⟨k, s, n⟩ hs hnm
  have hbz : (ByteArray.mk (bodyL p.kind p.prec ⟨k, s, n⟩).toArray).size ≤ 1048576 := by rw [bszS]; exact hbl
  rw [← hfd] at hf1 hf2
  have hpn : 0 ≤ (if p.prec < 0 then 0 else p.prec) ∧ (if p.prec < 0 then 0 else p.prec) ≤ 6 := by split <;> omega
  have num : ∀ (hk1 : ((p.kind.toNat : Int) == 115) = false) (hk2 : ((p.kind.toNat : Int) == 99) = false) (hkk : (p.kind == 115 || p.kind == 99) = false),
      (∀ W, Tab W → BT W → Calls Tryz.prog 94 #[.agg #[.string fl, .int .i64 (p.width : Int), .bool (decide (0 ≤ p.prec)), .int .i64 (if p.prec < 0 then 0 else p.prec), .int .u8 (p.kind.toNat : Int)], .int .i64 (nmB k s n)] W fun e w' => e = .returned (.string ⟨(bodyL p.kind p.prec ⟨k, s, n⟩).toArray⟩) ∧ Below W.heap.size W w') →
      Calls Tryz.prog 46 #[fpV l p, VD.v ⟨k, s, n⟩] w fun e w' => e = .returned (.string ⟨(toldL p ⟨k, s, n⟩).toArray⟩) ∧ Below w.heap.size w w' := fun hk1 hk2 hkk C => by
    have := told_num (p.kind.toNat : Int) hk1 hk2 fl (p.width : Int) (decide (0 ≤ p.prec)) (if p.prec < 0 then 0 else p.prec) k s n ⟨(bodyL p.kind p.prec ⟨k, s, n⟩).toArray⟩ w hfz hs hbz (by omega) ht hbt C
    rw [filF_num p fl.data.toList _ hf1 hf2 hkk] at this
    unfold fpV VD.v toldL
    rw [← hfl]
    exact this
  have sc : ∀ (hkd : (p.kind.toNat : Int) = 115 ∨ (p.kind.toNat : Int) = 99) (hkk : (p.kind == 115 || p.kind == 99) = true),
      (∀ W, Tab W → Calls Tryz.prog 93 #[.agg #[.string fl, .int .i64 (p.width : Int), .bool (decide (0 ≤ p.prec)), .int .i64 (if p.prec < 0 then 0 else p.prec), .int .u8 (p.kind.toNat : Int)], .agg #[.int .i64 k, .string s, .int .i64 n]] W fun e w' => e = .returned (.string ⟨(bodyL p.kind p.prec ⟨k, s, n⟩).toArray⟩) ∧ Below W.heap.size W w') →
      Calls Tryz.prog 46 #[fpV l p, VD.v ⟨k, s, n⟩] w fun e w' => e = .returned (.string ⟨(toldL p ⟨k, s, n⟩).toArray⟩) ∧ Below w.heap.size w w' := fun hkd hkk C => by
    have := told_sc (p.kind.toNat : Int) hkd fl (p.width : Int) (decide (0 ≤ p.prec)) (if p.prec < 0 then 0 else p.prec) k s n ⟨(bodyL p.kind p.prec ⟨k, s, n⟩).toArray⟩ w hfz (Nat.le_trans (noZ_le fl) hfz) hbz (by omega) ht hm C
    rw [filF_sc p fl _ hf1 hkk] at this
    unfold fpV VD.v toldL
    rw [← hfl]
    exact this
  obtain ⟨pl, pn, pw, pp, pk⟩ := p
  simp only at hk hwd hpc hpn num sc
  rcases kind_cases hk with rfl | rfl | rfl | rfl | rfl | rfl | rfl
  · exact num rfl rfl rfl fun W h1 h2 => tn_d fl _ _ _ _ W hnm.1 hnm.2 h1 h2
  · exact num rfl rfl rfl fun W h1 h2 => tn_i fl _ _ _ _ W hnm.1 hnm.2 h1 h2
  · refine sc (.inl rfl) rfl fun W h1 => ?_
    by_cases hq : pp < 0
    · rw [show decide (0 ≤ pp) = false by simpa using hq, show bodyL 115 pp ⟨k, s, n⟩ = (soB k s n).data.toList by
        unfold bodyL; rw [if_neg (by decide), if_neg (by decide), if_neg (by decide), if_neg (by decide), if_neg (by decide), if_pos hq], mk_list]
      exact tt_sn fl _ _ k s n W hs h1
    · rw [show decide (0 ≤ pp) = true by simp; omega, if_neg hq, show bodyL 115 pp ⟨k, s, n⟩ = (soB k s n).data.toList.take pp.toNat by
        unfold bodyL; rw [if_neg (by decide), if_neg (by decide), if_neg (by decide), if_neg (by decide), if_neg (by decide), if_neg hq]]
      exact tt_sp fl _ pp true k s n W hs h1 (by omega) trivial
  · refine num rfl rfl rfl fun W h1 h2 => ?_
    by_cases hq : pp < 0
    · rw [show decide (0 ≤ pp) = false by simpa using hq, show bodyL 102 pp ⟨k, s, n⟩ = (fxA (nmB k s n) 6).data.toList by
        unfold bodyL; rw [if_neg (by decide), if_neg (by decide), if_neg (by decide), if_neg (by decide), if_pos (by decide), if_pos hq], mk_list]
      exact tn_fn fl _ _ _ true W hnm.1 hnm.2 h1 h2
    · rw [show decide (0 ≤ pp) = true by simp; omega, if_neg hq, show bodyL 102 pp ⟨k, s, n⟩ = (fxA (nmB k s n) pp).data.toList by
        unfold bodyL; rw [if_neg (by decide), if_neg (by decide), if_neg (by decide), if_neg (by decide), if_pos (by decide), if_neg hq], mk_list]
      exact tn_fp fl _ pp _ true W hnm.1 hnm.2 h1 h2
  · refine sc (.inr rfl) rfl fun W h1 => ?_
    rw [show bodyL 99 pp ⟨k, s, n⟩ = chL ⟨k, s, n⟩ from rfl, chL_text]
    cases hk2 : k == 2
    · exact tt_cs fl _ _ _ k s n W hs h1 hpn hk2
    · obtain rfl : k = 2 := by simpa using hk2
      exact tt_cn fl _ _ _ s n W hn1 hn2
  · exact num rfl rfl rfl fun W h1 h2 => tn_x fl _ _ _ _ W hnm.1 hnm.2 h1 h2
  · exact num rfl rfl rfl fun W h1 h2 => tn_o fl _ _ _ _ W hnm.1 hnm.2 h1 h2
end Go.Proofs.YthffjcclcladoaaGreatDoor.kit
