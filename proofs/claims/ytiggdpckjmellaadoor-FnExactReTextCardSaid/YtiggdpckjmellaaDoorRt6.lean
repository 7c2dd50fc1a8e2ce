/-
  Contract of spec.l04Sets over this seat's translation: the text of a set. Conditions: the set has 1 to 1048576 bytes, ascending.
-/
import Derived.Test.YtiggdpckjmellaaDoorRt5
import Derived.Test.YtiggdpckjmellaaDoorRt2
namespace Go.Proofs.YtiggdpckjmellaaDoor.kit
open Go.ChangeShapes Go.WideShapes Go.ChangeAt Go.RowKit
set_option linter.unusedVariables false

theorem join3 (a b c d : List UInt8) : (((⟨a.toArray⟩ : ByteArray) ++ ⟨b.toArray⟩) ++ ⟨c.toArray⟩) ++ ⟨d.toArray⟩ = ⟨(a ++ b ++ c ++ d).toArray⟩ := by
  rw [app_lit, app_lit, app_lit]
theorem bytes_data (t : ByteArray) : t = ⟨t.data.toList.toArray⟩ := by
  apply ByteArray.ext; simp
theorem wrap3 (a : List UInt8) (t : ByteArray) (l : List UInt8) (h : t = ⟨l.toArray⟩) : ((⟨a.toArray⟩ : ByteArray) ++ t) ++ ⟨#[93]⟩ = ⟨(a ++ l ++ [93]).toArray⟩ := by
  subst h
  rw [show (⟨#[93]⟩ : ByteArray) = ⟨[93].toArray⟩ from rfl, app_lit a l]
  exact app_lit (a ++ l) [93]
theorem first_at (t : ByteArray) (c : UInt8) (r : List UInt8) (h : t = ⟨(c :: r).toArray⟩) : ∃ h0 : 0 < t.size, t[0] = c := by
  subst h
  exact ⟨by simp [ByteArray.size], rfl⟩
theorem setTxt_not (l : List UInt8) : setTxt l true = [91, 94] ++ setBody l ++ [93] := by
  rw [setTxt, if_neg (by rintro ⟨_, h⟩; cases h), if_neg (by rintro ⟨_, h⟩; cases h), if_pos rfl]
theorem setTxt_two {l : List UInt8} (h : l = [45, 94]) : setTxt l false = [91, 45, 94, 93] := by
  subst h; decide
theorem setTxt_more {l : List UInt8} (h : l.length ≠ 1) (h2 : l ≠ [45, 94]) : setTxt l false = [91] ++ setBody l ++ [93] := by
  rw [setTxt, if_neg (by rintro ⟨h3, _⟩; exact h h3), if_neg (by rintro ⟨h3, _⟩; exact h2 h3), if_neg (by simp)]
theorem take_ext (l : List UInt8) (s : ByteArray) (k j : Nat) (hk : k < s.size) (hj : k + 1 = j) : (⟨l.toArray⟩ : ByteArray) ++ s.extract k j = ⟨(l ++ [s[k]]).toArray⟩ := by
  rw [app_ext, ← getD_at s k hk, show j - k = 1 by omega, one_at s k hk]
set_option maxRecDepth 100000 in
set_option maxHeartbeats 8000000 in
theorem l04Sets_main (kk : Int) (s : ByteArray) (n z1 : Bool) (lo hi : Int) (a : Option Addr) (m cap : Nat) (w : World) (hs : s.size ≤ 1048576) (c1 : ((s.size : Int) == 1) = z1) (hz1 : (z1 && !n) = false) (hasc : RT.asc s.data.toList = true) (hne : s.data.toList ≠ []) :
    Calls Tryd.prog 103 #[.agg #[.int .i64 kk, .string s, .bool n, .int .i64 lo, .int .i64 hi, .slice a m cap]] w fun e w' => e = .returned (.string ⟨(setTxt s.data.toList n).toArray⟩) ∧ Below w.heap.size w w' := by
  have HL := Lib.hid (show s.data.toList.length = s.size by simp)
  have HTA := Lib.hid (take_all s s.size (Nat.le_refl _))
  have HAS := Lib.hid (show n = false → s.data.toList.length ≠ 1 from fun h1 h2 => by
    have h3 : s.data.toList.length = s.size := by simp
    subst h1
    rw [show ((s.size : Int) == 1) = true by simp; omega] at c1
    subst c1
    cases hz1)
  have HH := Lib.hid (fun h => body_head hasc hne h)
  have HB := Lib.hid (show ∀ o, Below w.heap.size w (w.alloc o) from fun o => (Below.refl w.heap.size w).alloc (Nat.le_refl _) _)
  clear hasc
  cases n
  · cases z1
    · clear hz1
      go_enter Tryd.func103, Tryd.ntmps103
      go_wp2_with fail
      go_loop [3, 4, 5, 6, 7] (fun r h q t i => ∃ k : Nat, k ≤ s.size ∧ i = .int .i64 (k : Int) ∧ r = .string ⟨(others (s.data.toList.take k)).toArray⟩ ∧ h = .string ⟨(optC 93 (s.data.toList.take k)).toArray⟩ ∧ q = .string ⟨(optC 94 (s.data.toList.take k)).toArray⟩ ∧ t = .string ⟨(optC 45 (s.data.toList.take k)).toArray⟩) (fun _ _ _ _ i => s.size - (intOf i).toNat)
      case atStart => exact ⟨0, Nat.zero_le _, rfl, rfl, rfl, rfl, rfl⟩
      case round =>
        obtain ⟨k, hk, rfl, rfl, rfl, rfl, rfl⟩ := hrel
        by_cases hlt : k < s.size
        · have HT := Lib.hid (take_snoc s k hlt)
          have hl1 : (others (s.data.toList.take k)).length ≤ 1048576 := by
            have h1 := others_len (s.data.toList.take k)
            rw [List.length_take] at h1; omega
          have HX := Lib.hid (fun l j (hj : k + 1 = j) => take_ext l s k j hlt hj)
          generalize s.data.toList.take k = T at *
          have hk0 : (0 : Int) ≤ k := by omega
          have hk1 : (k : Int) < s.size := by omega
          obtain ⟨j, hj⟩ : ∃ j, k + 1 = j := ⟨_, rfl⟩
          have hwj : IntKind.i64.wrap ((k : Int) + 1) = (j : Int) := by rw [IntKind.wrap_i64]; omega
          have hkj : (k : Int) ≤ j := by omega
          have hjs : (j : Int) ≤ s.size := by omega
          have hxs : (s.extract k j).size ≤ 1 := by rw [ByteArray.size_extract]; omega
          have b93 := byte_eq s[k] 93 (by omega)
          have b94 := byte_eq s[k] 94 (by omega)
          have b45 := byte_eq s[k] 45 (by omega)
          have hkk : k < s.size := hlt
          by_cases e93 : s[k] = 93
          · have d93 : ((s[k].toNat : Int) == 93) = true := by rw [show (93 : Int) = ((93 : Nat) : Int) from rfl, b93, e93]; rfl
            have H1 := Lib.hid (show optC 93 (s.data.toList.take (k + 1)) = [93] by rw [HT.out, optC_next, if_pos e93])
            have H2 := Lib.hid (show optC 94 (s.data.toList.take (k + 1)) = optC 94 T by rw [HT.out, optC_next, if_neg (by rw [e93]; decide)])
            have H3 := Lib.hid (show optC 45 (s.data.toList.take (k + 1)) = optC 45 T by rw [HT.out, optC_next, if_neg (by rw [e93]; decide)])
            have H4 := Lib.hid (show others (s.data.toList.take (k + 1)) = others T by rw [HT.out, others_next, if_neg (by rw [e93]; decide)])
            clear b93 b94 b45 e93
            go_wp2_with fail
            go_round
            case rel => exact ⟨k + 1, by omega, by go_num, by rw [H4.out], by rw [H1.out], by rw [H2.out], by rw [H3.out]⟩
            case measure => simp [intOf]; omega
          · have d93 : ((s[k].toNat : Int) == 93) = false := by rw [show (93 : Int) = ((93 : Nat) : Int) from rfl, b93]; simpa using e93
            by_cases e94 : s[k] = 94
            · have d94 : ((s[k].toNat : Int) == 94) = true := by rw [show (94 : Int) = ((94 : Nat) : Int) from rfl, b94, e94]; rfl
              have H1 := Lib.hid (show optC 93 (s.data.toList.take (k + 1)) = optC 93 T by rw [HT.out, optC_next, if_neg e93])
              have H2 := Lib.hid (show optC 94 (s.data.toList.take (k + 1)) = [94] by rw [HT.out, optC_next, if_pos e94])
              have H3 := Lib.hid (show optC 45 (s.data.toList.take (k + 1)) = optC 45 T by rw [HT.out, optC_next, if_neg (by rw [e94]; decide)])
              have H4 := Lib.hid (show others (s.data.toList.take (k + 1)) = others T by rw [HT.out, others_next, if_neg (by rw [e94]; decide)])
              clear b93 b94 b45 e93 e94
              go_wp2_with fail
              go_round
              case rel => exact ⟨k + 1, by omega, by go_num, by rw [H4.out], by rw [H1.out], by rw [H2.out], by rw [H3.out]⟩
              case measure => simp [intOf]; omega
            · have d94 : ((s[k].toNat : Int) == 94) = false := by rw [show (94 : Int) = ((94 : Nat) : Int) from rfl, b94]; simpa using e94
              by_cases e45 : s[k] = 45
              · have d45 : ((s[k].toNat : Int) == 45) = true := by rw [show (45 : Int) = ((45 : Nat) : Int) from rfl, b45, e45]; rfl
                have H1 := Lib.hid (show optC 93 (s.data.toList.take (k + 1)) = optC 93 T by rw [HT.out, optC_next, if_neg e93])
                have H2 := Lib.hid (show optC 94 (s.data.toList.take (k + 1)) = optC 94 T by rw [HT.out, optC_next, if_neg e94])
                have H3 := Lib.hid (show optC 45 (s.data.toList.take (k + 1)) = [45] by rw [HT.out, optC_next, if_pos e45])
                have H4 := Lib.hid (show others (s.data.toList.take (k + 1)) = others T by rw [HT.out, others_next, if_neg (by rw [e45]; decide)])
                clear b93 b94 b45 e93 e94 e45
                go_wp2_with fail
                go_round
                case rel => exact ⟨k + 1, by omega, by go_num, by rw [H4.out], by rw [H1.out], by rw [H2.out], by rw [H3.out]⟩
                case measure => simp [intOf]; omega
              · have d45 : ((s[k].toNat : Int) == 45) = false := by rw [show (45 : Int) = ((45 : Nat) : Int) from rfl, b45]; simpa using e45
                have H1 := Lib.hid (show optC 93 (s.data.toList.take (k + 1)) = optC 93 T by rw [HT.out, optC_next, if_neg e93])
                have H2 := Lib.hid (show optC 94 (s.data.toList.take (k + 1)) = optC 94 T by rw [HT.out, optC_next, if_neg e94])
                have H3 := Lib.hid (show optC 45 (s.data.toList.take (k + 1)) = optC 45 T by rw [HT.out, optC_next, if_neg e45])
                have H4 := Lib.hid (show others (s.data.toList.take (k + 1)) = others T ++ [s[k]] by rw [HT.out, others_next, if_pos (by simp [plainC, e93, e94, e45])])
                clear b93 b94 b45 e93 e94 e45
                go_wp2_with fail
                go_round
                case rel => exact ⟨k + 1, by omega, by go_num, by rw [H4.out, ← HX.out _ j hj], by rw [H1.out], by rw [H2.out], by rw [H3.out]⟩
                case measure => simp [intOf]; omega
        · obtain rfl : k = s.size := by omega
          rw [HTA.out]
          have hol : (others s.data.toList).length ≤ 1048576 := by
            have h1 := others_len s.data.toList
            have h2 := HL.out
            omega
          have hrl : (rTxt (others s.data.toList) 0).length ≤ 1048576 := by
            have h1 := rTxt_len (others s.data.toList) 0
            omega
          have HR := Lib.hid (show ∀ W, Calls Tryd.prog 128 #[.string ⟨(others s.data.toList).toArray⟩] W fun e w' => e = .returned (.string ⟨(rTxt (others s.data.toList) 0).toArray⟩) ∧ Below W.heap.size W w' from fun W => l04Runs_any ⟨(others s.data.toList).toArray⟩ W (by simp only [ByteArray.size, List.size_toArray]; exact hol))
          have hA := optC_len 93 s.data.toList
          have hC := optC_len 94 s.data.toList
          have hD := optC_len 45 s.data.toList
          have hcat := join3 (optC 93 s.data.toList) (rTxt (others s.data.toList) 0) (optC 94 s.data.toList) (optC 45 s.data.toList)
          have HSB := Lib.hid (show (⟨(optC 93 s.data.toList ++ rTxt (others s.data.toList) 0 ++ optC 94 s.data.toList ++ optC 45 s.data.toList).toArray⟩ : ByteArray) = ⟨(setBody s.data.toList).toArray⟩ from rfl)
          have htx : (⟨(optC 93 s.data.toList ++ rTxt (others s.data.toList) 0 ++ optC 94 s.data.toList ++ optC 45 s.data.toList).toArray⟩ : ByteArray).size ≤ 2000000 := by
            simp only [ByteArray.size, List.size_toArray, List.length_append]; omega
          have HS1 := Lib.hid (show s.data.toList = [45, 94] → optC 94 s.data.toList = [94] ∧ optC 45 s.data.toList = [45] from fun h => by rw [h]; decide)
          generalize (⟨(optC 93 s.data.toList ++ rTxt (others s.data.toList) 0 ++ optC 94 s.data.toList ++ optC 45 s.data.toList).toArray⟩ : ByteArray) = TX at *
          generalize optC 93 s.data.toList = LA at *
          generalize optC 94 s.data.toList = LC at *
          generalize optC 45 s.data.toList = LD at *
          generalize rTxt (others s.data.toList) 0 = LB at *
          go_wp2_with fail
          refine (HR.out _).mono ?_
          rintro e w1 ⟨rfl, hb1⟩
          obtain ⟨hcc, hff⟩ := bcellR hb1
          have HB1 := Lib.hid ((HB.out _).trans (hb1.mono (HB.out _).size))
          clear hb1
          obtain ⟨c, r, hbody, hc⟩ := HH.out (HAS.out (by trivial))
          obtain ⟨ht0, htc⟩ := first_at TX c r (by rw [HSB.out, hbody])
          have ht1 : (0 : Int) < TX.size := by omega
          have HC2 := Lib.hid hc
          have b94 := byte_eq c 94 (by omega)
          clear hc hbody
          by_cases e94 : c = 94
          · have d94 : ((c.toNat : Int) == 94) = true := by rw [show (94 : Int) = ((94 : Nat) : Int) from rfl, b94, e94]; rfl
            have he := HC2.out.1 e94
            have HLC := Lib.hid (HS1.out he).1
            have HLD := Lib.hid (HS1.out he).2
            have E := Lib.hid (setTxt_two he)
            clear b94 e94 he
            go_wp2_with fail
            go_ret
            exact ⟨by rw [E.out, HLC.out, HLD.out]; rfl, HB1.out⟩
          · have d94 : ((c.toNat : Int) == 94) = false := by rw [show (94 : Int) = ((94 : Nat) : Int) from rfl, b94]; simpa using e94
            have E := Lib.hid (setTxt_more (HAS.out (by trivial)) (fun h => e94 (HC2.out.2 h)))
            clear b94 e94
            go_wp2_with fail
            go_ret
            exact ⟨by rw [E.out, ← wrap3 [91] TX _ HSB.out]; rfl, HB1.out⟩
    · exact absurd hz1 (by decide)
  · cases z1
    · clear hz1
      go_enter Tryd.func103, Tryd.ntmps103
      go_wp2_with fail
      go_loop [3, 4, 5, 6, 7] (fun r h q t i => ∃ k : Nat, k ≤ s.size ∧ i = .int .i64 (k : Int) ∧ r = .string ⟨(others (s.data.toList.take k)).toArray⟩ ∧ h = .string ⟨(optC 93 (s.data.toList.take k)).toArray⟩ ∧ q = .string ⟨(optC 94 (s.data.toList.take k)).toArray⟩ ∧ t = .string ⟨(optC 45 (s.data.toList.take k)).toArray⟩) (fun _ _ _ _ i => s.size - (intOf i).toNat)
      case atStart => exact ⟨0, Nat.zero_le _, rfl, rfl, rfl, rfl, rfl⟩
      case round =>
        obtain ⟨k, hk, rfl, rfl, rfl, rfl, rfl⟩ := hrel
        by_cases hlt : k < s.size
        · have HT := Lib.hid (take_snoc s k hlt)
          have hl1 : (others (s.data.toList.take k)).length ≤ 1048576 := by
            have h1 := others_len (s.data.toList.take k)
            rw [List.length_take] at h1; omega
          have HX := Lib.hid (fun l j (hj : k + 1 = j) => take_ext l s k j hlt hj)
          generalize s.data.toList.take k = T at *
          have hk0 : (0 : Int) ≤ k := by omega
          have hk1 : (k : Int) < s.size := by omega
          obtain ⟨j, hj⟩ : ∃ j, k + 1 = j := ⟨_, rfl⟩
          have hwj : IntKind.i64.wrap ((k : Int) + 1) = (j : Int) := by rw [IntKind.wrap_i64]; omega
          have hkj : (k : Int) ≤ j := by omega
          have hjs : (j : Int) ≤ s.size := by omega
          have hxs : (s.extract k j).size ≤ 1 := by rw [ByteArray.size_extract]; omega
          have b93 := byte_eq s[k] 93 (by omega)
          have b94 := byte_eq s[k] 94 (by omega)
          have b45 := byte_eq s[k] 45 (by omega)
          have hkk : k < s.size := hlt
          by_cases e93 : s[k] = 93
          · have d93 : ((s[k].toNat : Int) == 93) = true := by rw [show (93 : Int) = ((93 : Nat) : Int) from rfl, b93, e93]; rfl
            have H1 := Lib.hid (show optC 93 (s.data.toList.take (k + 1)) = [93] by rw [HT.out, optC_next, if_pos e93])
            have H2 := Lib.hid (show optC 94 (s.data.toList.take (k + 1)) = optC 94 T by rw [HT.out, optC_next, if_neg (by rw [e93]; decide)])
            have H3 := Lib.hid (show optC 45 (s.data.toList.take (k + 1)) = optC 45 T by rw [HT.out, optC_next, if_neg (by rw [e93]; decide)])
            have H4 := Lib.hid (show others (s.data.toList.take (k + 1)) = others T by rw [HT.out, others_next, if_neg (by rw [e93]; decide)])
            clear b93 b94 b45 e93
            go_wp2_with fail
            go_round
            case rel => exact ⟨k + 1, by omega, by go_num, by rw [H4.out], by rw [H1.out], by rw [H2.out], by rw [H3.out]⟩
            case measure => simp [intOf]; omega
          · have d93 : ((s[k].toNat : Int) == 93) = false := by rw [show (93 : Int) = ((93 : Nat) : Int) from rfl, b93]; simpa using e93
            by_cases e94 : s[k] = 94
            · have d94 : ((s[k].toNat : Int) == 94) = true := by rw [show (94 : Int) = ((94 : Nat) : Int) from rfl, b94, e94]; rfl
              have H1 := Lib.hid (show optC 93 (s.data.toList.take (k + 1)) = optC 93 T by rw [HT.out, optC_next, if_neg e93])
              have H2 := Lib.hid (show optC 94 (s.data.toList.take (k + 1)) = [94] by rw [HT.out, optC_next, if_pos e94])
              have H3 := Lib.hid (show optC 45 (s.data.toList.take (k + 1)) = optC 45 T by rw [HT.out, optC_next, if_neg (by rw [e94]; decide)])
              have H4 := Lib.hid (show others (s.data.toList.take (k + 1)) = others T by rw [HT.out, others_next, if_neg (by rw [e94]; decide)])
              clear b93 b94 b45 e93 e94
              go_wp2_with fail
              go_round
              case rel => exact ⟨k + 1, by omega, by go_num, by rw [H4.out], by rw [H1.out], by rw [H2.out], by rw [H3.out]⟩
              case measure => simp [intOf]; omega
            · have d94 : ((s[k].toNat : Int) == 94) = false := by rw [show (94 : Int) = ((94 : Nat) : Int) from rfl, b94]; simpa using e94
              by_cases e45 : s[k] = 45
              · have d45 : ((s[k].toNat : Int) == 45) = true := by rw [show (45 : Int) = ((45 : Nat) : Int) from rfl, b45, e45]; rfl
                have H1 := Lib.hid (show optC 93 (s.data.toList.take (k + 1)) = optC 93 T by rw [HT.out, optC_next, if_neg e93])
                have H2 := Lib.hid (show optC 94 (s.data.toList.take (k + 1)) = optC 94 T by rw [HT.out, optC_next, if_neg e94])
                have H3 := Lib.hid (show optC 45 (s.data.toList.take (k + 1)) = [45] by rw [HT.out, optC_next, if_pos e45])
                have H4 := Lib.hid (show others (s.data.toList.take (k + 1)) = others T by rw [HT.out, others_next, if_neg (by rw [e45]; decide)])
                clear b93 b94 b45 e93 e94 e45
                go_wp2_with fail
                go_round
                case rel => exact ⟨k + 1, by omega, by go_num, by rw [H4.out], by rw [H1.out], by rw [H2.out], by rw [H3.out]⟩
                case measure => simp [intOf]; omega
              · have d45 : ((s[k].toNat : Int) == 45) = false := by rw [show (45 : Int) = ((45 : Nat) : Int) from rfl, b45]; simpa using e45
                have H1 := Lib.hid (show optC 93 (s.data.toList.take (k + 1)) = optC 93 T by rw [HT.out, optC_next, if_neg e93])
                have H2 := Lib.hid (show optC 94 (s.data.toList.take (k + 1)) = optC 94 T by rw [HT.out, optC_next, if_neg e94])
                have H3 := Lib.hid (show optC 45 (s.data.toList.take (k + 1)) = optC 45 T by rw [HT.out, optC_next, if_neg e45])
                have H4 := Lib.hid (show others (s.data.toList.take (k + 1)) = others T ++ [s[k]] by rw [HT.out, others_next, if_pos (by simp [plainC, e93, e94, e45])])
                clear b93 b94 b45 e93 e94 e45
                go_wp2_with fail
                go_round
                case rel => exact ⟨k + 1, by omega, by go_num, by rw [H4.out, ← HX.out _ j hj], by rw [H1.out], by rw [H2.out], by rw [H3.out]⟩
                case measure => simp [intOf]; omega
        · obtain rfl : k = s.size := by omega
          rw [HTA.out]
          have hol : (others s.data.toList).length ≤ 1048576 := by
            have h1 := others_len s.data.toList
            have h2 := HL.out
            omega
          have hrl : (rTxt (others s.data.toList) 0).length ≤ 1048576 := by
            have h1 := rTxt_len (others s.data.toList) 0
            omega
          have HR := Lib.hid (show ∀ W, Calls Tryd.prog 128 #[.string ⟨(others s.data.toList).toArray⟩] W fun e w' => e = .returned (.string ⟨(rTxt (others s.data.toList) 0).toArray⟩) ∧ Below W.heap.size W w' from fun W => l04Runs_any ⟨(others s.data.toList).toArray⟩ W (by simp only [ByteArray.size, List.size_toArray]; exact hol))
          have hA := optC_len 93 s.data.toList
          have hC := optC_len 94 s.data.toList
          have hD := optC_len 45 s.data.toList
          have hcat := join3 (optC 93 s.data.toList) (rTxt (others s.data.toList) 0) (optC 94 s.data.toList) (optC 45 s.data.toList)
          have HSB := Lib.hid (show (⟨(optC 93 s.data.toList ++ rTxt (others s.data.toList) 0 ++ optC 94 s.data.toList ++ optC 45 s.data.toList).toArray⟩ : ByteArray) = ⟨(setBody s.data.toList).toArray⟩ from rfl)
          have htx : (⟨(optC 93 s.data.toList ++ rTxt (others s.data.toList) 0 ++ optC 94 s.data.toList ++ optC 45 s.data.toList).toArray⟩ : ByteArray).size ≤ 2000000 := by
            simp only [ByteArray.size, List.size_toArray, List.length_append]; omega
          have HS1 := Lib.hid (show s.data.toList = [45, 94] → optC 94 s.data.toList = [94] ∧ optC 45 s.data.toList = [45] from fun h => by rw [h]; decide)
          generalize (⟨(optC 93 s.data.toList ++ rTxt (others s.data.toList) 0 ++ optC 94 s.data.toList ++ optC 45 s.data.toList).toArray⟩ : ByteArray) = TX at *
          generalize optC 93 s.data.toList = LA at *
          generalize optC 94 s.data.toList = LC at *
          generalize optC 45 s.data.toList = LD at *
          generalize rTxt (others s.data.toList) 0 = LB at *
          go_wp2_with fail
          refine (HR.out _).mono ?_
          rintro e w1 ⟨rfl, hb1⟩
          obtain ⟨hcc, hff⟩ := bcellR hb1
          have HB1 := Lib.hid ((HB.out _).trans (hb1.mono (HB.out _).size))
          clear hb1
          go_wp2_with fail
          go_ret
          exact ⟨by rw [setTxt_not, ← wrap3 [91, 94] TX _ HSB.out]; rfl, HB1.out⟩
    · clear hz1
      go_enter Tryd.func103, Tryd.ntmps103
      go_wp2_with fail
      go_loop [3, 4, 5, 6, 7] (fun r h q t i => ∃ k : Nat, k ≤ s.size ∧ i = .int .i64 (k : Int) ∧ r = .string ⟨(others (s.data.toList.take k)).toArray⟩ ∧ h = .string ⟨(optC 93 (s.data.toList.take k)).toArray⟩ ∧ q = .string ⟨(optC 94 (s.data.toList.take k)).toArray⟩ ∧ t = .string ⟨(optC 45 (s.data.toList.take k)).toArray⟩) (fun _ _ _ _ i => s.size - (intOf i).toNat)
      case atStart => exact ⟨0, Nat.zero_le _, rfl, rfl, rfl, rfl, rfl⟩
      case round =>
        obtain ⟨k, hk, rfl, rfl, rfl, rfl, rfl⟩ := hrel
        by_cases hlt : k < s.size
        · have HT := Lib.hid (take_snoc s k hlt)
          have hl1 : (others (s.data.toList.take k)).length ≤ 1048576 := by
            have h1 := others_len (s.data.toList.take k)
            rw [List.length_take] at h1; omega
          have HX := Lib.hid (fun l j (hj : k + 1 = j) => take_ext l s k j hlt hj)
          generalize s.data.toList.take k = T at *
          have hk0 : (0 : Int) ≤ k := by omega
          have hk1 : (k : Int) < s.size := by omega
          obtain ⟨j, hj⟩ : ∃ j, k + 1 = j := ⟨_, rfl⟩
          have hwj : IntKind.i64.wrap ((k : Int) + 1) = (j : Int) := by rw [IntKind.wrap_i64]; omega
          have hkj : (k : Int) ≤ j := by omega
          have hjs : (j : Int) ≤ s.size := by omega
          have hxs : (s.extract k j).size ≤ 1 := by rw [ByteArray.size_extract]; omega
          have b93 := byte_eq s[k] 93 (by omega)
          have b94 := byte_eq s[k] 94 (by omega)
          have b45 := byte_eq s[k] 45 (by omega)
          have hkk : k < s.size := hlt
          by_cases e93 : s[k] = 93
          · have d93 : ((s[k].toNat : Int) == 93) = true := by rw [show (93 : Int) = ((93 : Nat) : Int) from rfl, b93, e93]; rfl
            have H1 := Lib.hid (show optC 93 (s.data.toList.take (k + 1)) = [93] by rw [HT.out, optC_next, if_pos e93])
            have H2 := Lib.hid (show optC 94 (s.data.toList.take (k + 1)) = optC 94 T by rw [HT.out, optC_next, if_neg (by rw [e93]; decide)])
            have H3 := Lib.hid (show optC 45 (s.data.toList.take (k + 1)) = optC 45 T by rw [HT.out, optC_next, if_neg (by rw [e93]; decide)])
            have H4 := Lib.hid (show others (s.data.toList.take (k + 1)) = others T by rw [HT.out, others_next, if_neg (by rw [e93]; decide)])
            clear b93 b94 b45 e93
            go_wp2_with fail
            go_round
            case rel => exact ⟨k + 1, by omega, by go_num, by rw [H4.out], by rw [H1.out], by rw [H2.out], by rw [H3.out]⟩
            case measure => simp [intOf]; omega
          · have d93 : ((s[k].toNat : Int) == 93) = false := by rw [show (93 : Int) = ((93 : Nat) : Int) from rfl, b93]; simpa using e93
            by_cases e94 : s[k] = 94
            · have d94 : ((s[k].toNat : Int) == 94) = true := by rw [show (94 : Int) = ((94 : Nat) : Int) from rfl, b94, e94]; rfl
              have H1 := Lib.hid (show optC 93 (s.data.toList.take (k + 1)) = optC 93 T by rw [HT.out, optC_next, if_neg e93])
              have H2 := Lib.hid (show optC 94 (s.data.toList.take (k + 1)) = [94] by rw [HT.out, optC_next, if_pos e94])
              have H3 := Lib.hid (show optC 45 (s.data.toList.take (k + 1)) = optC 45 T by rw [HT.out, optC_next, if_neg (by rw [e94]; decide)])
              have H4 := Lib.hid (show others (s.data.toList.take (k + 1)) = others T by rw [HT.out, others_next, if_neg (by rw [e94]; decide)])
              clear b93 b94 b45 e93 e94
              go_wp2_with fail
              go_round
              case rel => exact ⟨k + 1, by omega, by go_num, by rw [H4.out], by rw [H1.out], by rw [H2.out], by rw [H3.out]⟩
              case measure => simp [intOf]; omega
            · have d94 : ((s[k].toNat : Int) == 94) = false := by rw [show (94 : Int) = ((94 : Nat) : Int) from rfl, b94]; simpa using e94
              by_cases e45 : s[k] = 45
              · have d45 : ((s[k].toNat : Int) == 45) = true := by rw [show (45 : Int) = ((45 : Nat) : Int) from rfl, b45, e45]; rfl
                have H1 := Lib.hid (show optC 93 (s.data.toList.take (k + 1)) = optC 93 T by rw [HT.out, optC_next, if_neg e93])
                have H2 := Lib.hid (show optC 94 (s.data.toList.take (k + 1)) = optC 94 T by rw [HT.out, optC_next, if_neg e94])
                have H3 := Lib.hid (show optC 45 (s.data.toList.take (k + 1)) = [45] by rw [HT.out, optC_next, if_pos e45])
                have H4 := Lib.hid (show others (s.data.toList.take (k + 1)) = others T by rw [HT.out, others_next, if_neg (by rw [e45]; decide)])
                clear b93 b94 b45 e93 e94 e45
                go_wp2_with fail
                go_round
                case rel => exact ⟨k + 1, by omega, by go_num, by rw [H4.out], by rw [H1.out], by rw [H2.out], by rw [H3.out]⟩
                case measure => simp [intOf]; omega
              · have d45 : ((s[k].toNat : Int) == 45) = false := by rw [show (45 : Int) = ((45 : Nat) : Int) from rfl, b45]; simpa using e45
                have H1 := Lib.hid (show optC 93 (s.data.toList.take (k + 1)) = optC 93 T by rw [HT.out, optC_next, if_neg e93])
                have H2 := Lib.hid (show optC 94 (s.data.toList.take (k + 1)) = optC 94 T by rw [HT.out, optC_next, if_neg e94])
                have H3 := Lib.hid (show optC 45 (s.data.toList.take (k + 1)) = optC 45 T by rw [HT.out, optC_next, if_neg e45])
                have H4 := Lib.hid (show others (s.data.toList.take (k + 1)) = others T ++ [s[k]] by rw [HT.out, others_next, if_pos (by simp [plainC, e93, e94, e45])])
                clear b93 b94 b45 e93 e94 e45
                go_wp2_with fail
                go_round
                case rel => exact ⟨k + 1, by omega, by go_num, by rw [H4.out, ← HX.out _ j hj], by rw [H1.out], by rw [H2.out], by rw [H3.out]⟩
                case measure => simp [intOf]; omega
        · obtain rfl : k = s.size := by omega
          rw [HTA.out]
          have hol : (others s.data.toList).length ≤ 1048576 := by
            have h1 := others_len s.data.toList
            have h2 := HL.out
            omega
          have hrl : (rTxt (others s.data.toList) 0).length ≤ 1048576 := by
            have h1 := rTxt_len (others s.data.toList) 0
            omega
          have HR := Lib.hid (show ∀ W, Calls Tryd.prog 128 #[.string ⟨(others s.data.toList).toArray⟩] W fun e w' => e = .returned (.string ⟨(rTxt (others s.data.toList) 0).toArray⟩) ∧ Below W.heap.size W w' from fun W => l04Runs_any ⟨(others s.data.toList).toArray⟩ W (by simp only [ByteArray.size, List.size_toArray]; exact hol))
          have hA := optC_len 93 s.data.toList
          have hC := optC_len 94 s.data.toList
          have hD := optC_len 45 s.data.toList
          have hcat := join3 (optC 93 s.data.toList) (rTxt (others s.data.toList) 0) (optC 94 s.data.toList) (optC 45 s.data.toList)
          have HSB := Lib.hid (show (⟨(optC 93 s.data.toList ++ rTxt (others s.data.toList) 0 ++ optC 94 s.data.toList ++ optC 45 s.data.toList).toArray⟩ : ByteArray) = ⟨(setBody s.data.toList).toArray⟩ from rfl)
          have htx : (⟨(optC 93 s.data.toList ++ rTxt (others s.data.toList) 0 ++ optC 94 s.data.toList ++ optC 45 s.data.toList).toArray⟩ : ByteArray).size ≤ 2000000 := by
            simp only [ByteArray.size, List.size_toArray, List.length_append]; omega
          have HS1 := Lib.hid (show s.data.toList = [45, 94] → optC 94 s.data.toList = [94] ∧ optC 45 s.data.toList = [45] from fun h => by rw [h]; decide)
          generalize (⟨(optC 93 s.data.toList ++ rTxt (others s.data.toList) 0 ++ optC 94 s.data.toList ++ optC 45 s.data.toList).toArray⟩ : ByteArray) = TX at *
          generalize optC 93 s.data.toList = LA at *
          generalize optC 94 s.data.toList = LC at *
          generalize optC 45 s.data.toList = LD at *
          generalize rTxt (others s.data.toList) 0 = LB at *
          go_wp2_with fail
          refine (HR.out _).mono ?_
          rintro e w1 ⟨rfl, hb1⟩
          obtain ⟨hcc, hff⟩ := bcellR hb1
          have HB1 := Lib.hid ((HB.out _).trans (hb1.mono (HB.out _).size))
          clear hb1
          go_wp2_with fail
          go_ret
          exact ⟨by rw [setTxt_not, ← wrap3 [91, 94] TX _ HSB.out]; rfl, HB1.out⟩
end Go.Proofs.YtiggdpckjmellaaDoor.kit
