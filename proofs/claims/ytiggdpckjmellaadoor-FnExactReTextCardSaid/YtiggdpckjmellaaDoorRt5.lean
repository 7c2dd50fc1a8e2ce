/-
  Contract of impl.setText over this seat's translation: the text of a set. Conditions: the set has at most 1048576 bytes.
-/
import Derived.Test.YtiggdpckjmellaaDoorRt4
import Derived.Deep.LoopGhost
namespace Go.Proofs.YtiggdpckjmellaaDoor.kit
open Go.ChangeShapes Go.WideShapes Go.ChangeAt Go.RowKit
set_option linter.unusedVariables false

theorem Own.bytesAt {B : Nat} {w : World} {v : Value} {xs : List UInt8} (h : Own 5 B w v xs) : ∃ (a : Option Addr) (cap : Nat), v = .slice a xs.length cap ∧ xs.length ≤ cap ∧ cap ≤ maxLen ∧ BytesAt w a xs := by
  have h0 := h
  rcases h.2 with ⟨rfl, hn0⟩ | ⟨g, cap, cur, rfl, hb, hg, hcap, hmax, _, _⟩
  · have : xs = [] := List.length_eq_zero_iff.1 hn0
    subst this
    exact ⟨none, 0, rfl, by simp, by simp, .inl rfl⟩
  · refine ⟨_, cap, rfl, hcap, hmax, .inr ⟨g, 0, rfl, (Array.getElem?_eq_some_iff.1 hg).1, fun j hj => ?_⟩⟩
    have h2 : w.ownsRow B 5 1 (.slice (some ⟨g, 0, none⟩) xs.length cap) xs.length (xs.map fun c => .int .u8 (c.toNat : Int)) := h0
    rw [Nat.zero_add, World.ownsRow.cellAt h2 j (by omega), List.getD_eq_getElem?_getD]
    simp [hj]
theorem byte_eq (c : UInt8) (m : Nat) (hm : m < 256) : ((c.toNat : Int) == (m : Int)) = (c == UInt8.ofNat m) := by
  rw [Bool.eq_iff_iff]
  simp only [beq_iff_eq]
  constructor
  · intro h; apply UInt8.toNat.inj; rw [UInt8.toNat_ofNat']; omega
  · rintro rfl; rw [UInt8.toNat_ofNat']; omega
theorem join6 (a b c d e f : List UInt8) : Value.string ((((((⟨a.toArray⟩ : ByteArray) ++ ⟨b.toArray⟩) ++ ⟨c.toArray⟩) ++ ⟨d.toArray⟩) ++ ⟨e.toArray⟩) ++ ⟨f.toArray⟩) = .string ⟨(a ++ (b ++ c ++ d ++ e) ++ f).toArray⟩ := by
  rw [app_lit, app_lit, app_lit, app_lit, app_lit]
  simp only [List.append_assoc]
set_option maxRecDepth 100000 in
set_option maxHeartbeats 8000000 in
theorem setText_main (s : ByteArray) (n z1 z2 : Bool) (w : World) (hs : s.size ≤ 1048576) (c1 : ((s.size : Int) == 1) = z1) (c2 : (s.toList == [45, 94]) = z2) (hz1 : (z1 && !n) = false) (hz2 : (z2 && !n) = false) :
    Calls Tryd.prog 98 #[.string s, .bool n] w fun e w' => e = .returned (.string ⟨((if n = true then [91, 94] else [91]) ++ setBody s.data.toList ++ [93]).toArray⟩) ∧ Below w.heap.size w w' := by
  have HL := Lib.hid (show s.data.toList.length = s.size by simp)
  have HO0 := Lib.hid (own_start (e := 5) (B := w.heap.size) (w := w) (Nat.le_refl _))
  have HTA := Lib.hid (take_all s s.size (Nat.le_refl _))
  cases n <;> cases z1 <;> cases z2 <;> first | exact absurd hz1 (by decide) | exact absurd hz2 (by decide) | clear hz1 hz2
  all_goals
    go_enter Tryd.func98, Tryd.ntmps98
    go_wp2_with fail
    go_loopg [6, 7, 8, 9, 31] s.size (fun g f h t o i wr => ∃ (v : Value) (k : Nat), k ≤ s.size ∧ g = s.size - k ∧ i = .int .i64 (k : Int) ∧ f = .string ⟨(optC 93 (s.data.toList.take k)).toArray⟩ ∧ h = .string ⟨(optC 94 (s.data.toList.take k)).toArray⟩ ∧ t = .string ⟨(optC 45 (s.data.toList.take k)).toArray⟩ ∧ o = v ∧ Own 5 w.heap.size wr v (others (s.data.toList.take k)) ∧ Below w.heap.size w wr)
    case atStart => exact ⟨_, 0, Nat.zero_le _, rfl, rfl, rfl, rfl, rfl, rfl, HO0.out, (Below.refl _ _).alloc (Nat.le_refl _) _⟩
    case round =>
      obtain ⟨v, k, hk, rfl, rfl, rfl, rfl, rfl, rfl, hown, hb⟩ := hrel
      have HO := Lib.hid hown
      have HB := Lib.hid hb
      have hz := hb.size
      clear hown hb
      by_cases hlt : k < s.size
      · have HT := Lib.hid (take_snoc s k hlt)
        have hl1 : (others (s.data.toList.take k)).length ≤ 1048576 := by
          have h1 := others_len (s.data.toList.take k)
          rw [List.length_take] at h1; omega
        generalize s.data.toList.take k = T at *
        have hk0 : (0 : Int) ≤ k := by omega
        have hk1 : (k : Int) < s.size := by omega
        have b93 := byte_eq s[k] 93 (by omega)
        have b94 := byte_eq s[k] 94 (by omega)
        have b45 := byte_eq s[k] 45 (by omega)
        have hkk : k < s.size := hlt
        by_cases e93 : s[k] = 93
        · have d93 : ((s[k].toNat : Int) == 93) = true := by rw [show (93 : Int) = ((93 : Nat) : Int) from rfl, b93, e93]; rfl
          have H1 := Lib.hid (show optC 93 (s.data.toList.take (k + 1)) = [93] by rw [HT.out, optC_next, if_pos e93])
          have H2 := Lib.hid (show optC 94 (s.data.toList.take (k + 1)) = optC 94 T by rw [HT.out, optC_next, if_neg (by rw [e93]; decide)])
          have H3 := Lib.hid (show optC 45 (s.data.toList.take (k + 1)) = optC 45 T by rw [HT.out, optC_next, if_neg (by rw [e93]; decide)])
          have H4 := Lib.hid (show others (s.data.toList.take (k + 1)) = others T by rw [HT.out, others_next, if_neg (by rw [e93]; decide)])
          clear b93 b94 b45 e93
          go_wp2_with fail
          go_roundg (s.size - (k + 1))
          case rel => exact ⟨_, k + 1, by omega, rfl, by go_num, by rw [H1.out], by rw [H2.out], by rw [H3.out], rfl, by rw [H4.out]; exact HO.out, HB.out⟩
          case measure => omega
        · have d93 : ((s[k].toNat : Int) == 93) = false := by rw [show (93 : Int) = ((93 : Nat) : Int) from rfl, b93]; simpa using e93
          by_cases e94 : s[k] = 94
          · have d94 : ((s[k].toNat : Int) == 94) = true := by rw [show (94 : Int) = ((94 : Nat) : Int) from rfl, b94, e94]; rfl
            have H1 := Lib.hid (show optC 93 (s.data.toList.take (k + 1)) = optC 93 T by rw [HT.out, optC_next, if_neg e93])
            have H2 := Lib.hid (show optC 94 (s.data.toList.take (k + 1)) = [94] by rw [HT.out, optC_next, if_pos e94])
            have H3 := Lib.hid (show optC 45 (s.data.toList.take (k + 1)) = optC 45 T by rw [HT.out, optC_next, if_neg (by rw [e94]; decide)])
            have H4 := Lib.hid (show others (s.data.toList.take (k + 1)) = others T by rw [HT.out, others_next, if_neg (by rw [e94]; decide)])
            clear b93 b94 b45 e93 e94
            go_wp2_with fail
            go_roundg (s.size - (k + 1))
            case rel => exact ⟨_, k + 1, by omega, rfl, by go_num, by rw [H1.out], by rw [H2.out], by rw [H3.out], rfl, by rw [H4.out]; exact HO.out, HB.out⟩
            case measure => omega
          · have d94 : ((s[k].toNat : Int) == 94) = false := by rw [show (94 : Int) = ((94 : Nat) : Int) from rfl, b94]; simpa using e94
            by_cases e45 : s[k] = 45
            · have d45 : ((s[k].toNat : Int) == 45) = true := by rw [show (45 : Int) = ((45 : Nat) : Int) from rfl, b45, e45]; rfl
              have H1 := Lib.hid (show optC 93 (s.data.toList.take (k + 1)) = optC 93 T by rw [HT.out, optC_next, if_neg e93])
              have H2 := Lib.hid (show optC 94 (s.data.toList.take (k + 1)) = optC 94 T by rw [HT.out, optC_next, if_neg e94])
              have H3 := Lib.hid (show optC 45 (s.data.toList.take (k + 1)) = [45] by rw [HT.out, optC_next, if_pos e45])
              have H4 := Lib.hid (show others (s.data.toList.take (k + 1)) = others T by rw [HT.out, others_next, if_neg (by rw [e45]; decide)])
              clear b93 b94 b45 e93 e94 e45
              go_wp2_with fail
              go_roundg (s.size - (k + 1))
              case rel => exact ⟨_, k + 1, by omega, rfl, by go_num, by rw [H1.out], by rw [H2.out], by rw [H3.out], rfl, by rw [H4.out]; exact HO.out, HB.out⟩
              case measure => omega
            · have d45 : ((s[k].toNat : Int) == 45) = false := by rw [show (45 : Int) = ((45 : Nat) : Int) from rfl, b45]; simpa using e45
              have H1 := Lib.hid (show optC 93 (s.data.toList.take (k + 1)) = optC 93 T by rw [HT.out, optC_next, if_neg e93])
              have H2 := Lib.hid (show optC 94 (s.data.toList.take (k + 1)) = optC 94 T by rw [HT.out, optC_next, if_neg e94])
              have H3 := Lib.hid (show optC 45 (s.data.toList.take (k + 1)) = optC 45 T by rw [HT.out, optC_next, if_neg e45])
              have H4 := Lib.hid (show others (s.data.toList.take (k + 1)) = others T ++ [s[k]] by rw [HT.out, others_next, if_pos (by simp [plainC, e93, e94, e45])])
              clear b93 b94 b45 e93 e94 e45
              go_wp2_with (at_builtin; refine wp_append_bytes Tryd.underlying22 Tryd.infoU8 rfl _ _ rfl w.heap.size _ _ rfl (HO.out.alloc _) ⟨wr.heap.size, 0, none⟩ 1 1 [s[k]] rfl rfl (news_one _ s[k] _) (by simp; omega) (by simp; omega) ?_; intro v' w3 hown3 hbel3)
              go_roundg (s.size - (k + 1))
              case rel => exact ⟨v', k + 1, by omega, rfl, by go_num, by rw [H1.out], by rw [H2.out], by rw [H3.out], rfl, by rw [H4.out]; exact hown3, (HB.out.alloc hz _).trans hbel3⟩
              case measure => omega
      · obtain rfl : k = s.size := by omega
        rw [HTA.out] at HO
        rw [HTA.out]
        obtain ⟨a, cap, rfl, hcap, hcm, hba⟩ := HO.out.bytesAt
        have hol : (others s.data.toList).length ≤ 1048576 := by
          have h1 := others_len s.data.toList
          have h2 := HL.out
          omega
        have hrl : (rTxt (others s.data.toList) 0).length ≤ 1048576 := by
          have h1 := rTxt_len (others s.data.toList) 0
          omega
        have HR := Lib.hid (runsText_any (others s.data.toList) a cap wr hol hcap hcm hba)
        have hA := optC_len 93 s.data.toList
        have hC := optC_len 94 s.data.toList
        have hD := optC_len 45 s.data.toList
        have HJ := Lib.hid (show setBody s.data.toList = optC 93 s.data.toList ++ rTxt (others s.data.toList) 0 ++ optC 94 s.data.toList ++ optC 45 s.data.toList from rfl)
        generalize optC 93 s.data.toList = LA at *
        generalize optC 94 s.data.toList = LC at *
        generalize optC 45 s.data.toList = LD at *
        generalize rTxt (others s.data.toList) 0 = LB at *
        go_wp2_with fail
        refine HR.out.mono ?_
        rintro e w1 ⟨rfl, hb1⟩
        have HB1 := Lib.hid (HB.out.trans (hb1.mono HB.out.size))
        clear hb1
        go_wp2_with fail
        go_ret
        exact ⟨by rw [HJ.out]; exact congrArg Ending.returned (join6 _ LA LB LC LD [93]), HB1.out⟩
set_option maxRecDepth 100000 in
set_option maxHeartbeats 4000000 in
theorem setText_any (s : ByteArray) (n : Bool) (w : World) (hs : s.size ≤ 1048576) :
    Calls Tryd.prog 98 #[.string s, .bool n] w fun e w' => e = .returned (.string ⟨(setTxt s.data.toList n).toArray⟩) ∧ Below w.heap.size w w' := by
  have hl : s.data.toList.length = s.size := by simp
  have HL := Lib.hid hl
  by_cases c1 : s.size = 1 ∧ n = false
  · obtain ⟨c1, rfl⟩ := c1
    have E := Lib.hid (show setTxt s.data.toList false = byTxt (s.data.toList.getD 0 0) by rw [setTxt, if_pos ⟨by omega, rfl⟩])
    have e0 := getD_at s 0 (by omega)
    have HB := Lib.hid (fun W => byteText_any (s.data.toList.getD 0 0) W)
    rw [e0] at HB E
    clear e0
    have h0 : 0 < s.size := by omega
    have c1' : ((s.size : Int) == 1) = true := by rw [c1]; rfl
    have hi : (0 : Int) < s.size := by omega
    go_enter Tryd.func98, Tryd.ntmps98
    go_wp2_with fail
    refine (HB.out _).mono ?_
    rintro e w1 ⟨rfl, hb1⟩
    go_wp2_with fail
    go_ret
    exact ⟨by rw [E.out]; rfl, hb1⟩
  · by_cases c2 : s = ⟨#[45, 94]⟩ ∧ n = false
    · obtain ⟨rfl, rfl⟩ := c2
      have E := Lib.hid (show setTxt (⟨#[45, 94]⟩ : ByteArray).data.toList false = [91, 45, 94, 93] by decide)
      clear hl HL c1
      go_enter Tryd.func98, Tryd.ntmps98
      go_wp2_with fail
      go_ret
      exact ⟨by rw [E.out]; rfl, Below.refl _ _⟩
    · have E := Lib.hid (show setTxt s.data.toList n = (if n = true then [91, 94] else [91]) ++ setBody s.data.toList ++ [93] by
        rw [setTxt, if_neg (by rintro ⟨h, e⟩; exact c1 ⟨by omega, e⟩), if_neg (by
          rintro ⟨h, e⟩
          refine c2 ⟨?_, e⟩
          apply ByteArray.ext
          apply Array.ext'
          rw [h])])
      have c2' : (s.toList == [45, 94]) = true → n = true := by
        intro h
        cases n
        · exfalso
          rw [ByteArray.toList_eq, beq_iff_eq] at h
          exact c2 ⟨by apply ByteArray.ext; apply Array.ext'; rw [h], rfl⟩
        · rfl
      have c1' : ((s.size : Int) == 1) = true → n = true := by
        intro h
        cases n
        · exact absurd ⟨by have : (s.size : Int) = 1 := (by simpa using h); omega, rfl⟩ c1
        · rfl
      rw [E.out]
      refine setText_main s n _ _ w hs rfl rfl ?_ ?_
      · cases h : ((s.size : Int) == 1)
        · rfl
        · rw [c1' h]; rfl
      · cases h : (s.toList == [45, 94])
        · rfl
        · rw [c2' h]; rfl
end Go.Proofs.YtiggdpckjmellaaDoor.kit
