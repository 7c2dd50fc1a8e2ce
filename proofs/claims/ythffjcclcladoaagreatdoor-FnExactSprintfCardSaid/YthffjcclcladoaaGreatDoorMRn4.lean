/-
  Contracts of ReadNum of both sides over this seat's translation: for every text both give the same number and place. Conditions: the text has at most a million bytes (1048576).
-/
import Derived.Test.YthffjcclcladoaaGreatDoorMRn2
import Derived.Test.YthffjcclcladoaaGreatDoorMRs1
import Derived.Test.YthffjcclcladoaaGreatDoorMRs2
namespace Go.Proofs.YthffjcclcladoaaGreatDoor.kit
open Go.ChangeShapes Go.WideShapes Go.ChangeAt Go.RowKit
set_option linter.unusedVariables false

theorem empty_join {x y : ByteArray} (h : x.size + y.size = 0) : (x ++ y).toList.isEmpty = true := empty_of_size (by rw [ByteArray.size_append]; exact h)
theorem not_empty_join {x y : ByteArray} (h : ¬ x.size + y.size = 0) : (x ++ y).toList.isEmpty = false := not_empty_of_size (by rw [ByteArray.size_append]; exact h)
theorem blankOut (s : ByteArray) (i : Nat) (h : i < s.size) (hr : runEnd blnB s 0 = i) : blnB (s[i].toNat : Int) = false := by
  cases hb : blnB (s[i].toNat : Int)
  · rfl
  · exfalso
    obtain ⟨n, hn⟩ : ∃ n, n = s.size := ⟨_, rfl⟩
    have key : ∀ (d j : Nat), d = i - j → j ≤ i → runEnd blnB s j = i → False := by
      intro d
      induction d with
      | zero =>
        intro j hd hj hr
        obtain rfl : j = i := by omega
        have := runEnd_in h hb
        have h2 := runEnd_le blnB s (j + 1) (by omega)
        omega
      | succ d ih =>
        intro j hd hj hr
        have hjs : j < s.size := by omega
        cases hp : blnB (s[j].toNat : Int)
        · rw [runEnd_out hjs hp] at hr; omega
        · rw [← runEnd_in hjs hp] at hr; exact ih (j + 1) (by omega) (by omega) hr
    exact key _ 0 rfl (by omega) hr
theorem sat_low {v : Nat} (h : capB v = true) : min v 1000000000001 = v := by simp [capB] at h; omega
theorem sat_high {v : Nat} (h : capB v = false) : min v 1000000000001 = 1000000000001 := by simp [capB] at h; omega
theorem cap_le {v : Nat} (h : capB v = true) : v ≤ 1000000000000 := by simpa [capB] using h
theorem cap_gt {v : Nat} (h : capB v = false) : 1000000000000 < v := by simpa [capB] using h

theorem asI_neg_p (s : ByteArray) (w : World) (hs : s.size ≤ 1048576) (n1 : atB s (rnI s) 45 = true) (n2 : atB s (rnI s) 43 = false) (n3 : atB s (rnM s) 46 = true) :
    Calls Tryz.prog 23 #[.string s] w fun e w' => e = .returned (.tuple #[.int .i64 (rnNum s), .int .i64 (rnPlace s)]) ∧ Below w.heap.size w w' := by
  have hF : rnF s = (rnI s + 1) := by simp [rnF, n1, n2]
  have hM : runEnd digB s (rnI s + 1) = rnM s := by rw [rnM, hF]
  have lF := rnF_le s; have lM := rnM_le s; have lE := rnE_le s; have lI := rnI_le s
  have hW : rnW s = s.extract (rnI s + 1) (rnM s) := by rw [rnW, hF]
  have zW := size_W s
  have hE : rnE s = runEnd digB s (rnM s + 1) := by rw [rnE, if_pos n3]
  have hMlt := atB_lt n3
  have lE2 := runEnd_le digB s (rnM s + 1) (by omega)
  have hB : rnB s = s.extract (rnM s + 1) (rnE s) := by rw [rnB, if_pos n3]
  have zB := size_B s n3
  rw [hF] at zW lF lM
  have C1 : Hid (∀ W, Calls Tryz.prog 63 #[.string s, .int .i64 ((rnI s : Int) + 1)] W fun e w' => e = .returned (.int .i64 (rnM s : Int)) ∧ W = w') := Lib.hid (fun W => by have := digits_any s (rnI s + 1) W hs (by omega); rw [hM] at this; exact this)
  have C2 : Hid (∀ W, Calls Tryz.prog 63 #[.string s, .int .i64 ((rnM s : Int) + 1)] W fun e w' => e = .returned (.int .i64 (rnE s : Int)) ∧ W = w') := Lib.hid (fun W => by have := digits_any s (rnM s + 1) W hs (by omega); rw [← hE] at this; exact this)
  have C0 : Hid (∀ W, Calls Tryz.prog 61 #[.string s, .int .i64 0] W fun e w' => e = .returned (.int .i64 (rnI s : Int)) ∧ W = w') := Lib.hid (fun W => blanks_any s 0 W hs (by omega))
  have CC := fun W => count_any (rnW s) (rnB s) W (by omega) (by omega) (dig_W s) (dig_B s)
  by_cases hfar : 60 < rnE s
  · exact (rnI_neg_p_far s (rnI s) (rnM s) (rnE s) w hs lI (by omega) (by omega) C0 C1 (by omega) (by omega) C2 n1 n2 n3 (by omega)).mono fun e w' ⟨he, hb⟩ => ⟨he.trans (ret_two2 (rn_no (rn_far hfar)).1.symm (rn_no (rn_far hfar)).2.symm), hb⟩
  · by_cases hem : (rnW s).size + (rnB s).size = 0
    · have he1 := empty_join hem; rw [hW, hB] at he1
      exact (rnI_neg_p_empty s (rnI s) (rnM s) (rnE s) w hs lI (by omega) (by omega) C0 C1 (by omega) (by omega) C2 n1 n2 n3 (by omega) he1).mono fun e w' ⟨he, hb⟩ => ⟨he.trans (ret_two2 (rn_no (rn_none hem)).1.symm (rn_no (rn_none hem)).2.symm), hb⟩
    · have he1 := not_empty_join hem; rw [hW, hB] at he1
      cases hc : capB (mill (rnW s) (rnB s))
      · have CC' : Hid (∀ W, Calls Tryz.prog 64 #[.string (s.extract (rnI s + 1) (rnM s)), .string (s.extract (rnM s + 1) (rnE s))] W fun e w' => e = .returned (.int .i64 ((1000000000001 : Nat) : Int)) ∧ Below W.heap.size W w') := Lib.hid (fun W => by have := CC W; rw [sat_high hc, hW, hB] at this; exact this)
        exact (rnI_neg_p_great s (rnI s) (rnM s) (rnE s) 1000000000001 w hs lI (by omega) (by omega) C0 C1 (by omega) (by omega) C2 n1 n2 n3 (by omega) he1 CC' (by omega)).mono fun e w' ⟨he, hb⟩ => ⟨he.trans (ret_two2 (rn_no (rn_great hc)).1.symm (rn_no (rn_great hc)).2.symm), hb⟩
      · have hyes := rn_yes (by omega) hem hc
        obtain ⟨v, hv⟩ : ∃ v : Nat, v = mill (rnW s) (rnB s) := ⟨_, rfl⟩
        have CC' : Hid (∀ W, Calls Tryz.prog 64 #[.string (s.extract (rnI s + 1) (rnM s)), .string (s.extract (rnM s + 1) (rnE s))] W fun e w' => e = .returned (.int .i64 (v : Int)) ∧ Below W.heap.size W w') := Lib.hid (fun W => by have := CC W; rw [sat_low hc, ← hv, hW, hB] at this; exact this)
        rw [← hv, n1] at hyes
        exact (rnI_neg_p_yes s (rnI s) (rnM s) (rnE s) v w hs lI (by omega) (by omega) C0 C1 (by omega) (by omega) C2 n1 n2 n3 (by omega) he1 CC' (by rw [hv]; exact cap_le hc)).mono fun e w' ⟨he, hb⟩ => ⟨he.trans (ret_two2 hyes.1.symm (by rw [hyes.2])), hb⟩

theorem asI_neg_q (s : ByteArray) (w : World) (hs : s.size ≤ 1048576) (n1 : atB s (rnI s) 45 = true) (n2 : atB s (rnI s) 43 = false) (n3 : atB s (rnM s) 46 = false) :
    Calls Tryz.prog 23 #[.string s] w fun e w' => e = .returned (.tuple #[.int .i64 (rnNum s), .int .i64 (rnPlace s)]) ∧ Below w.heap.size w w' := by
  have hF : rnF s = (rnI s + 1) := by simp [rnF, n1, n2]
  have hM : runEnd digB s (rnI s + 1) = rnM s := by rw [rnM, hF]
  have lF := rnF_le s; have lM := rnM_le s; have lE := rnE_le s; have lI := rnI_le s
  have hW : rnW s = s.extract (rnI s + 1) (rnM s) := by rw [rnW, hF]
  have zW := size_W s
  have hE : rnE s = rnM s := by rw [rnE, if_neg (by rw [n3]; decide)]
  have hB : rnB s = ⟨#[]⟩ := by rw [rnB, if_neg (by rw [n3]; decide)]
  have zB : (rnB s).size = 0 := by rw [hB]; rfl
  rw [hF] at zW lF lM
  have C1 : Hid (∀ W, Calls Tryz.prog 63 #[.string s, .int .i64 ((rnI s : Int) + 1)] W fun e w' => e = .returned (.int .i64 (rnM s : Int)) ∧ W = w') := Lib.hid (fun W => by have := digits_any s (rnI s + 1) W hs (by omega); rw [hM] at this; exact this)
  have C0 : Hid (∀ W, Calls Tryz.prog 61 #[.string s, .int .i64 0] W fun e w' => e = .returned (.int .i64 (rnI s : Int)) ∧ W = w') := Lib.hid (fun W => blanks_any s 0 W hs (by omega))
  have CC := fun W => count_any (rnW s) (rnB s) W (by omega) (by omega) (dig_W s) (dig_B s)
  by_cases hfar : 60 < rnE s
  · exact (rnI_neg_q_far s (rnI s) (rnM s) w hs lI (by omega) (by omega) C0 C1 n1 n2 n3 (by omega)).mono fun e w' ⟨he, hb⟩ => ⟨he.trans (ret_two2 (rn_no (rn_far hfar)).1.symm (rn_no (rn_far hfar)).2.symm), hb⟩
  · by_cases hem : (rnW s).size + (rnB s).size = 0
    · have he1 := empty_join hem; rw [hW, hB] at he1
      exact (rnI_neg_q_empty s (rnI s) (rnM s) w hs lI (by omega) (by omega) C0 C1 n1 n2 n3 (by omega) he1).mono fun e w' ⟨he, hb⟩ => ⟨he.trans (ret_two2 (rn_no (rn_none hem)).1.symm (rn_no (rn_none hem)).2.symm), hb⟩
    · have he1 := not_empty_join hem; rw [hW, hB] at he1
      cases hc : capB (mill (rnW s) (rnB s))
      · have CC' : Hid (∀ W, Calls Tryz.prog 64 #[.string (s.extract (rnI s + 1) (rnM s)), .string (ByteArray.mk #[])] W fun e w' => e = .returned (.int .i64 ((1000000000001 : Nat) : Int)) ∧ Below W.heap.size W w') := Lib.hid (fun W => by have := CC W; rw [sat_high hc, hW, hB] at this; exact this)
        exact (rnI_neg_q_great s (rnI s) (rnM s) 1000000000001 w hs lI (by omega) (by omega) C0 C1 n1 n2 n3 (by omega) he1 CC' (by omega)).mono fun e w' ⟨he, hb⟩ => ⟨he.trans (ret_two2 (rn_no (rn_great hc)).1.symm (rn_no (rn_great hc)).2.symm), hb⟩
      · have hyes := rn_yes (by omega) hem hc
        obtain ⟨v, hv⟩ : ∃ v : Nat, v = mill (rnW s) (rnB s) := ⟨_, rfl⟩
        have CC' : Hid (∀ W, Calls Tryz.prog 64 #[.string (s.extract (rnI s + 1) (rnM s)), .string (ByteArray.mk #[])] W fun e w' => e = .returned (.int .i64 (v : Int)) ∧ Below W.heap.size W w') := Lib.hid (fun W => by have := CC W; rw [sat_low hc, ← hv, hW, hB] at this; exact this)
        rw [← hv, n1] at hyes
        exact (rnI_neg_q_yes s (rnI s) (rnM s) v w hs lI (by omega) (by omega) C0 C1 n1 n2 n3 (by omega) he1 CC' (by rw [hv]; exact cap_le hc)).mono fun e w' ⟨he, hb⟩ => ⟨he.trans (ret_two2 hyes.1.symm (by rw [hyes.2, hE])), hb⟩

theorem asI_plus_p (s : ByteArray) (w : World) (hs : s.size ≤ 1048576) (n1 : atB s (rnI s) 45 = false) (n2 : atB s (rnI s) 43 = true) (n3 : atB s (rnM s) 46 = true) :
    Calls Tryz.prog 23 #[.string s] w fun e w' => e = .returned (.tuple #[.int .i64 (rnNum s), .int .i64 (rnPlace s)]) ∧ Below w.heap.size w w' := by
  have hF : rnF s = (rnI s + 1) := by simp [rnF, n1, n2]
  have hM : runEnd digB s (rnI s + 1) = rnM s := by rw [rnM, hF]
  have lF := rnF_le s; have lM := rnM_le s; have lE := rnE_le s; have lI := rnI_le s
  have hW : rnW s = s.extract (rnI s + 1) (rnM s) := by rw [rnW, hF]
  have zW := size_W s
  have hE : rnE s = runEnd digB s (rnM s + 1) := by rw [rnE, if_pos n3]
  have hMlt := atB_lt n3
  have lE2 := runEnd_le digB s (rnM s + 1) (by omega)
  have hB : rnB s = s.extract (rnM s + 1) (rnE s) := by rw [rnB, if_pos n3]
  have zB := size_B s n3
  rw [hF] at zW lF lM
  have C1 : Hid (∀ W, Calls Tryz.prog 63 #[.string s, .int .i64 ((rnI s : Int) + 1)] W fun e w' => e = .returned (.int .i64 (rnM s : Int)) ∧ W = w') := Lib.hid (fun W => by have := digits_any s (rnI s + 1) W hs (by omega); rw [hM] at this; exact this)
  have C2 : Hid (∀ W, Calls Tryz.prog 63 #[.string s, .int .i64 ((rnM s : Int) + 1)] W fun e w' => e = .returned (.int .i64 (rnE s : Int)) ∧ W = w') := Lib.hid (fun W => by have := digits_any s (rnM s + 1) W hs (by omega); rw [← hE] at this; exact this)
  have C0 : Hid (∀ W, Calls Tryz.prog 61 #[.string s, .int .i64 0] W fun e w' => e = .returned (.int .i64 (rnI s : Int)) ∧ W = w') := Lib.hid (fun W => blanks_any s 0 W hs (by omega))
  have CC := fun W => count_any (rnW s) (rnB s) W (by omega) (by omega) (dig_W s) (dig_B s)
  by_cases hfar : 60 < rnE s
  · exact (rnI_plus_p_far s (rnI s) (rnM s) (rnE s) w hs lI (by omega) (by omega) C0 C1 (by omega) (by omega) C2 n1 n2 n3 (by omega)).mono fun e w' ⟨he, hb⟩ => ⟨he.trans (ret_two2 (rn_no (rn_far hfar)).1.symm (rn_no (rn_far hfar)).2.symm), hb⟩
  · by_cases hem : (rnW s).size + (rnB s).size = 0
    · have he1 := empty_join hem; rw [hW, hB] at he1
      exact (rnI_plus_p_empty s (rnI s) (rnM s) (rnE s) w hs lI (by omega) (by omega) C0 C1 (by omega) (by omega) C2 n1 n2 n3 (by omega) he1).mono fun e w' ⟨he, hb⟩ => ⟨he.trans (ret_two2 (rn_no (rn_none hem)).1.symm (rn_no (rn_none hem)).2.symm), hb⟩
    · have he1 := not_empty_join hem; rw [hW, hB] at he1
      cases hc : capB (mill (rnW s) (rnB s))
      · have CC' : Hid (∀ W, Calls Tryz.prog 64 #[.string (s.extract (rnI s + 1) (rnM s)), .string (s.extract (rnM s + 1) (rnE s))] W fun e w' => e = .returned (.int .i64 ((1000000000001 : Nat) : Int)) ∧ Below W.heap.size W w') := Lib.hid (fun W => by have := CC W; rw [sat_high hc, hW, hB] at this; exact this)
        exact (rnI_plus_p_great s (rnI s) (rnM s) (rnE s) 1000000000001 w hs lI (by omega) (by omega) C0 C1 (by omega) (by omega) C2 n1 n2 n3 (by omega) he1 CC' (by omega)).mono fun e w' ⟨he, hb⟩ => ⟨he.trans (ret_two2 (rn_no (rn_great hc)).1.symm (rn_no (rn_great hc)).2.symm), hb⟩
      · have hyes := rn_yes (by omega) hem hc
        obtain ⟨v, hv⟩ : ∃ v : Nat, v = mill (rnW s) (rnB s) := ⟨_, rfl⟩
        have CC' : Hid (∀ W, Calls Tryz.prog 64 #[.string (s.extract (rnI s + 1) (rnM s)), .string (s.extract (rnM s + 1) (rnE s))] W fun e w' => e = .returned (.int .i64 (v : Int)) ∧ Below W.heap.size W w') := Lib.hid (fun W => by have := CC W; rw [sat_low hc, ← hv, hW, hB] at this; exact this)
        rw [← hv, n1] at hyes
        exact (rnI_plus_p_yes s (rnI s) (rnM s) (rnE s) v w hs lI (by omega) (by omega) C0 C1 (by omega) (by omega) C2 n1 n2 n3 (by omega) he1 CC' (by rw [hv]; exact cap_le hc)).mono fun e w' ⟨he, hb⟩ => ⟨he.trans (ret_two2 hyes.1.symm (by rw [hyes.2])), hb⟩

theorem asI_plus_q (s : ByteArray) (w : World) (hs : s.size ≤ 1048576) (n1 : atB s (rnI s) 45 = false) (n2 : atB s (rnI s) 43 = true) (n3 : atB s (rnM s) 46 = false) :
    Calls Tryz.prog 23 #[.string s] w fun e w' => e = .returned (.tuple #[.int .i64 (rnNum s), .int .i64 (rnPlace s)]) ∧ Below w.heap.size w w' := by
  have hF : rnF s = (rnI s + 1) := by simp [rnF, n1, n2]
  have hM : runEnd digB s (rnI s + 1) = rnM s := by rw [rnM, hF]
  have lF := rnF_le s; have lM := rnM_le s; have lE := rnE_le s; have lI := rnI_le s
  have hW : rnW s = s.extract (rnI s + 1) (rnM s) := by rw [rnW, hF]
  have zW := size_W s
  have hE : rnE s = rnM s := by rw [rnE, if_neg (by rw [n3]; decide)]
  have hB : rnB s = ⟨#[]⟩ := by rw [rnB, if_neg (by rw [n3]; decide)]
  have zB : (rnB s).size = 0 := by rw [hB]; rfl
  rw [hF] at zW lF lM
  have C1 : Hid (∀ W, Calls Tryz.prog 63 #[.string s, .int .i64 ((rnI s : Int) + 1)] W fun e w' => e = .returned (.int .i64 (rnM s : Int)) ∧ W = w') := Lib.hid (fun W => by have := digits_any s (rnI s + 1) W hs (by omega); rw [hM] at this; exact this)
  have C0 : Hid (∀ W, Calls Tryz.prog 61 #[.string s, .int .i64 0] W fun e w' => e = .returned (.int .i64 (rnI s : Int)) ∧ W = w') := Lib.hid (fun W => blanks_any s 0 W hs (by omega))
  have CC := fun W => count_any (rnW s) (rnB s) W (by omega) (by omega) (dig_W s) (dig_B s)
  by_cases hfar : 60 < rnE s
  · exact (rnI_plus_q_far s (rnI s) (rnM s) w hs lI (by omega) (by omega) C0 C1 n1 n2 n3 (by omega)).mono fun e w' ⟨he, hb⟩ => ⟨he.trans (ret_two2 (rn_no (rn_far hfar)).1.symm (rn_no (rn_far hfar)).2.symm), hb⟩
  · by_cases hem : (rnW s).size + (rnB s).size = 0
    · have he1 := empty_join hem; rw [hW, hB] at he1
      exact (rnI_plus_q_empty s (rnI s) (rnM s) w hs lI (by omega) (by omega) C0 C1 n1 n2 n3 (by omega) he1).mono fun e w' ⟨he, hb⟩ => ⟨he.trans (ret_two2 (rn_no (rn_none hem)).1.symm (rn_no (rn_none hem)).2.symm), hb⟩
    · have he1 := not_empty_join hem; rw [hW, hB] at he1
      cases hc : capB (mill (rnW s) (rnB s))
      · have CC' : Hid (∀ W, Calls Tryz.prog 64 #[.string (s.extract (rnI s + 1) (rnM s)), .string (ByteArray.mk #[])] W fun e w' => e = .returned (.int .i64 ((1000000000001 : Nat) : Int)) ∧ Below W.heap.size W w') := Lib.hid (fun W => by have := CC W; rw [sat_high hc, hW, hB] at this; exact this)
        exact (rnI_plus_q_great s (rnI s) (rnM s) 1000000000001 w hs lI (by omega) (by omega) C0 C1 n1 n2 n3 (by omega) he1 CC' (by omega)).mono fun e w' ⟨he, hb⟩ => ⟨he.trans (ret_two2 (rn_no (rn_great hc)).1.symm (rn_no (rn_great hc)).2.symm), hb⟩
      · have hyes := rn_yes (by omega) hem hc
        obtain ⟨v, hv⟩ : ∃ v : Nat, v = mill (rnW s) (rnB s) := ⟨_, rfl⟩
        have CC' : Hid (∀ W, Calls Tryz.prog 64 #[.string (s.extract (rnI s + 1) (rnM s)), .string (ByteArray.mk #[])] W fun e w' => e = .returned (.int .i64 (v : Int)) ∧ Below W.heap.size W w') := Lib.hid (fun W => by have := CC W; rw [sat_low hc, ← hv, hW, hB] at this; exact this)
        rw [← hv, n1] at hyes
        exact (rnI_plus_q_yes s (rnI s) (rnM s) v w hs lI (by omega) (by omega) C0 C1 n1 n2 n3 (by omega) he1 CC' (by rw [hv]; exact cap_le hc)).mono fun e w' ⟨he, hb⟩ => ⟨he.trans (ret_two2 hyes.1.symm (by rw [hyes.2, hE])), hb⟩

theorem asI_none_p (s : ByteArray) (w : World) (hs : s.size ≤ 1048576) (n1 : atB s (rnI s) 45 = false) (n2 : atB s (rnI s) 43 = false) (n3 : atB s (rnM s) 46 = true) :
    Calls Tryz.prog 23 #[.string s] w fun e w' => e = .returned (.tuple #[.int .i64 (rnNum s), .int .i64 (rnPlace s)]) ∧ Below w.heap.size w w' := by
  have hF : rnF s = (rnI s) := by simp [rnF, n1, n2]
  have hM : runEnd digB s (rnI s) = rnM s := by rw [rnM, hF]
  have lF := rnF_le s; have lM := rnM_le s; have lE := rnE_le s; have lI := rnI_le s
  have hW : rnW s = s.extract (rnI s) (rnM s) := by rw [rnW, hF]
  have zW := size_W s
  have hE : rnE s = runEnd digB s (rnM s + 1) := by rw [rnE, if_pos n3]
  have hMlt := atB_lt n3
  have lE2 := runEnd_le digB s (rnM s + 1) (by omega)
  have hB : rnB s = s.extract (rnM s + 1) (rnE s) := by rw [rnB, if_pos n3]
  have zB := size_B s n3
  rw [hF] at zW lF lM
  have C1 : Hid (∀ W, Calls Tryz.prog 63 #[.string s, .int .i64 (rnI s : Int)] W fun e w' => e = .returned (.int .i64 (rnM s : Int)) ∧ W = w') := Lib.hid (fun W => by have := digits_any s (rnI s) W hs (by omega); rw [hM] at this; exact this)
  have C2 : Hid (∀ W, Calls Tryz.prog 63 #[.string s, .int .i64 ((rnM s : Int) + 1)] W fun e w' => e = .returned (.int .i64 (rnE s : Int)) ∧ W = w') := Lib.hid (fun W => by have := digits_any s (rnM s + 1) W hs (by omega); rw [← hE] at this; exact this)
  have C0 : Hid (∀ W, Calls Tryz.prog 61 #[.string s, .int .i64 0] W fun e w' => e = .returned (.int .i64 (rnI s : Int)) ∧ W = w') := Lib.hid (fun W => blanks_any s 0 W hs (by omega))
  have CC := fun W => count_any (rnW s) (rnB s) W (by omega) (by omega) (dig_W s) (dig_B s)
  by_cases hfar : 60 < rnE s
  · exact (rnI_none_p_far s (rnI s) (rnM s) (rnE s) w hs lI (by omega) (by omega) C0 C1 (by omega) (by omega) C2 n1 n2 n3 (by omega)).mono fun e w' ⟨he, hb⟩ => ⟨he.trans (ret_two2 (rn_no (rn_far hfar)).1.symm (rn_no (rn_far hfar)).2.symm), hb⟩
  · by_cases hem : (rnW s).size + (rnB s).size = 0
    · have he1 := empty_join hem; rw [hW, hB] at he1
      exact (rnI_none_p_empty s (rnI s) (rnM s) (rnE s) w hs lI (by omega) (by omega) C0 C1 (by omega) (by omega) C2 n1 n2 n3 (by omega) he1).mono fun e w' ⟨he, hb⟩ => ⟨he.trans (ret_two2 (rn_no (rn_none hem)).1.symm (rn_no (rn_none hem)).2.symm), hb⟩
    · have he1 := not_empty_join hem; rw [hW, hB] at he1
      cases hc : capB (mill (rnW s) (rnB s))
      · have CC' : Hid (∀ W, Calls Tryz.prog 64 #[.string (s.extract (rnI s) (rnM s)), .string (s.extract (rnM s + 1) (rnE s))] W fun e w' => e = .returned (.int .i64 ((1000000000001 : Nat) : Int)) ∧ Below W.heap.size W w') := Lib.hid (fun W => by have := CC W; rw [sat_high hc, hW, hB] at this; exact this)
        exact (rnI_none_p_great s (rnI s) (rnM s) (rnE s) 1000000000001 w hs lI (by omega) (by omega) C0 C1 (by omega) (by omega) C2 n1 n2 n3 (by omega) he1 CC' (by omega)).mono fun e w' ⟨he, hb⟩ => ⟨he.trans (ret_two2 (rn_no (rn_great hc)).1.symm (rn_no (rn_great hc)).2.symm), hb⟩
      · have hyes := rn_yes (by omega) hem hc
        obtain ⟨v, hv⟩ : ∃ v : Nat, v = mill (rnW s) (rnB s) := ⟨_, rfl⟩
        have CC' : Hid (∀ W, Calls Tryz.prog 64 #[.string (s.extract (rnI s) (rnM s)), .string (s.extract (rnM s + 1) (rnE s))] W fun e w' => e = .returned (.int .i64 (v : Int)) ∧ Below W.heap.size W w') := Lib.hid (fun W => by have := CC W; rw [sat_low hc, ← hv, hW, hB] at this; exact this)
        rw [← hv, n1] at hyes
        exact (rnI_none_p_yes s (rnI s) (rnM s) (rnE s) v w hs lI (by omega) (by omega) C0 C1 (by omega) (by omega) C2 n1 n2 n3 (by omega) he1 CC' (by rw [hv]; exact cap_le hc)).mono fun e w' ⟨he, hb⟩ => ⟨he.trans (ret_two2 hyes.1.symm (by rw [hyes.2])), hb⟩

theorem asI_none_q (s : ByteArray) (w : World) (hs : s.size ≤ 1048576) (n1 : atB s (rnI s) 45 = false) (n2 : atB s (rnI s) 43 = false) (n3 : atB s (rnM s) 46 = false) :
    Calls Tryz.prog 23 #[.string s] w fun e w' => e = .returned (.tuple #[.int .i64 (rnNum s), .int .i64 (rnPlace s)]) ∧ Below w.heap.size w w' := by
  have hF : rnF s = (rnI s) := by simp [rnF, n1, n2]
  have hM : runEnd digB s (rnI s) = rnM s := by rw [rnM, hF]
  have lF := rnF_le s; have lM := rnM_le s; have lE := rnE_le s; have lI := rnI_le s
  have hW : rnW s = s.extract (rnI s) (rnM s) := by rw [rnW, hF]
  have zW := size_W s
  have hE : rnE s = rnM s := by rw [rnE, if_neg (by rw [n3]; decide)]
  have hB : rnB s = ⟨#[]⟩ := by rw [rnB, if_neg (by rw [n3]; decide)]
  have zB : (rnB s).size = 0 := by rw [hB]; rfl
  rw [hF] at zW lF lM
  have C1 : Hid (∀ W, Calls Tryz.prog 63 #[.string s, .int .i64 (rnI s : Int)] W fun e w' => e = .returned (.int .i64 (rnM s : Int)) ∧ W = w') := Lib.hid (fun W => by have := digits_any s (rnI s) W hs (by omega); rw [hM] at this; exact this)
  have C0 : Hid (∀ W, Calls Tryz.prog 61 #[.string s, .int .i64 0] W fun e w' => e = .returned (.int .i64 (rnI s : Int)) ∧ W = w') := Lib.hid (fun W => blanks_any s 0 W hs (by omega))
  have CC := fun W => count_any (rnW s) (rnB s) W (by omega) (by omega) (dig_W s) (dig_B s)
  by_cases hfar : 60 < rnE s
  · exact (rnI_none_q_far s (rnI s) (rnM s) w hs lI (by omega) (by omega) C0 C1 n1 n2 n3 (by omega)).mono fun e w' ⟨he, hb⟩ => ⟨he.trans (ret_two2 (rn_no (rn_far hfar)).1.symm (rn_no (rn_far hfar)).2.symm), hb⟩
  · by_cases hem : (rnW s).size + (rnB s).size = 0
    · have he1 := empty_join hem; rw [hW, hB] at he1
      exact (rnI_none_q_empty s (rnI s) (rnM s) w hs lI (by omega) (by omega) C0 C1 n1 n2 n3 (by omega) he1).mono fun e w' ⟨he, hb⟩ => ⟨he.trans (ret_two2 (rn_no (rn_none hem)).1.symm (rn_no (rn_none hem)).2.symm), hb⟩
    · have he1 := not_empty_join hem; rw [hW, hB] at he1
      cases hc : capB (mill (rnW s) (rnB s))
      · have CC' : Hid (∀ W, Calls Tryz.prog 64 #[.string (s.extract (rnI s) (rnM s)), .string (ByteArray.mk #[])] W fun e w' => e = .returned (.int .i64 ((1000000000001 : Nat) : Int)) ∧ Below W.heap.size W w') := Lib.hid (fun W => by have := CC W; rw [sat_high hc, hW, hB] at this; exact this)
        exact (rnI_none_q_great s (rnI s) (rnM s) 1000000000001 w hs lI (by omega) (by omega) C0 C1 n1 n2 n3 (by omega) he1 CC' (by omega)).mono fun e w' ⟨he, hb⟩ => ⟨he.trans (ret_two2 (rn_no (rn_great hc)).1.symm (rn_no (rn_great hc)).2.symm), hb⟩
      · have hyes := rn_yes (by omega) hem hc
        obtain ⟨v, hv⟩ : ∃ v : Nat, v = mill (rnW s) (rnB s) := ⟨_, rfl⟩
        have CC' : Hid (∀ W, Calls Tryz.prog 64 #[.string (s.extract (rnI s) (rnM s)), .string (ByteArray.mk #[])] W fun e w' => e = .returned (.int .i64 (v : Int)) ∧ Below W.heap.size W w') := Lib.hid (fun W => by have := CC W; rw [sat_low hc, ← hv, hW, hB] at this; exact this)
        rw [← hv, n1] at hyes
        exact (rnI_none_q_yes s (rnI s) (rnM s) v w hs lI (by omega) (by omega) C0 C1 n1 n2 n3 (by omega) he1 CC' (by rw [hv]; exact cap_le hc)).mono fun e w' ⟨he, hb⟩ => ⟨he.trans (ret_two2 hyes.1.symm (by rw [hyes.2, hE])), hb⟩

theorem asS_neg_p (s : ByteArray) (w : World) (hs : s.size ≤ 1048576) (n1 : atB s (rnI s) 45 = true) (n2 : atB s (rnI s) 43 = false) (n3 : atB s (rnM s) 46 = true) (hIlt : rnI s < s.size) :
    Calls Tryz.prog 121 #[.string s] w fun e w' => e = .returned (.tuple #[.int .i64 (rnNum s), .int .i64 (rnPlace s)]) ∧ w = w' := by
  have hF : rnF s = (rnI s + 1) := by simp [rnF, n1, n2]
  have hM : runEnd digB s (rnI s + 1) = rnM s := by rw [rnM, hF]
  have lF := rnF_le s; have lM := rnM_le s; have lE := rnE_le s; have lI := rnI_le s
  have hW : rnW s = s.extract (rnI s + 1) (rnM s) := by rw [rnW, hF]
  have zW := size_W s
  have hE : rnE s = runEnd digB s (rnM s + 1) := by rw [rnE, if_pos n3]
  have hMlt := atB_lt n3
  have lE2 := runEnd_le digB s (rnM s + 1) (by omega)
  have hB : rnB s = s.extract (rnM s + 1) (rnE s) := by rw [rnB, if_pos n3]
  have zB := size_B s n3
  rw [hF] at zW lF lM
  have C1 : Hid (∀ W, Calls Tryz.prog 152 #[.string s, .int .i64 ((rnI s : Int) + 1)] W fun e w' => e = .returned (.int .i64 (rnM s : Int)) ∧ W = w') := Lib.hid (fun W => by have := run_any s (rnI s + 1) W hs (by omega); rw [hM] at this; exact this)
  have C2 : Hid (∀ W, Calls Tryz.prog 152 #[.string s, .int .i64 ((rnM s : Int) + 1)] W fun e w' => e = .returned (.int .i64 (rnE s : Int)) ∧ W = w') := Lib.hid (fun W => by have := run_any s (rnM s + 1) W hs (by omega); rw [← hE] at this; exact this)
  have CC := fun W => value_any (rnW s) (rnB s) W (by omega) (by omega) (dig_W s) (dig_B s)
  have HB : Hid (∀ (j : Nat) (h : j < s.size), j < rnI s → blnB (s[j].toNat : Int) = true) := Lib.hid (fun j h hj => runEnd_all blnB s 0 (by omega) j h (by omega) hj)
  have hnb := blankOut s (rnI s) hIlt rfl
  have c45 := (atB_in (c := 45) hIlt).trans n1
  have c43 := (atB_in (c := 43) hIlt).trans n2
  have c46 := (atB_in (c := 46) hMlt).trans n3
  by_cases hem : (rnW s).size + (rnB s).size = 0
  · obtain ⟨gx, hgx⟩ : ∃ gx : Int, gx = gotN (capB (mill (rnW s) (rnB s))) (mill (rnW s) (rnB s) : Int) := ⟨_, rfl⟩
    obtain ⟨gb, hgb⟩ : ∃ gb : Bool, gb = capB (mill (rnW s) (rnB s)) := ⟨_, rfl⟩
    have CC' : Hid (∀ W, Calls Tryz.prog 153 #[.string (s.extract (rnI s + 1) (rnM s)), .string (s.extract (rnM s + 1) (rnE s))] W fun e w' => e = .returned (.tuple #[.int .i64 gx, .bool gb]) ∧ W = w') := Lib.hid (fun W => by have := CC W; rw [← hgx, ← hgb, hW, hB] at this; exact this)
    exact (rnS_neg_p_empty s (rnI s) (rnM s) (rnE s) gx gb w hs (by omega) (by omega) HB hIlt hnb c45 hMlt c46 C1 (by omega) (by omega) C2  CC' (by omega)).mono fun e w' ⟨he, hb⟩ => ⟨he.trans (ret_two2 (rn_no (rn_none hem)).1.symm (rn_no (rn_none hem)).2.symm), hb⟩
  · by_cases hfar : 60 < rnE s
    · obtain ⟨gx, hgx⟩ : ∃ gx : Int, gx = gotN (capB (mill (rnW s) (rnB s))) (mill (rnW s) (rnB s) : Int) := ⟨_, rfl⟩
      obtain ⟨gb, hgb⟩ : ∃ gb : Bool, gb = capB (mill (rnW s) (rnB s)) := ⟨_, rfl⟩
      have CC' : Hid (∀ W, Calls Tryz.prog 153 #[.string (s.extract (rnI s + 1) (rnM s)), .string (s.extract (rnM s + 1) (rnE s))] W fun e w' => e = .returned (.tuple #[.int .i64 gx, .bool gb]) ∧ W = w') := Lib.hid (fun W => by have := CC W; rw [← hgx, ← hgb, hW, hB] at this; exact this)
      exact (rnS_neg_p_far s (rnI s) (rnM s) (rnE s) gx gb w hs (by omega) (by omega) HB hIlt hnb c45 hMlt c46 C1 (by omega) (by omega) C2  CC' (by omega) (by omega)).mono fun e w' ⟨he, hb⟩ => ⟨he.trans (ret_two2 (rn_no (rn_far hfar)).1.symm (rn_no (rn_far hfar)).2.symm), hb⟩
    · cases hc : capB (mill (rnW s) (rnB s))
      · have CC' : Hid (∀ W, Calls Tryz.prog 153 #[.string (s.extract (rnI s + 1) (rnM s)), .string (s.extract (rnM s + 1) (rnE s))] W fun e w' => e = .returned (.tuple #[.int .i64 0, .bool false]) ∧ W = w') := Lib.hid (fun W => by have := CC W; rw [hc, gotN_no rfl, hW, hB] at this; exact this)
        exact (rnS_neg_p_great s (rnI s) (rnM s) (rnE s) w hs (by omega) (by omega) HB hIlt hnb c45 hMlt c46 C1 (by omega) (by omega) C2  CC' (by omega) (by omega)).mono fun e w' ⟨he, hb⟩ => ⟨he.trans (ret_two2 (rn_no (rn_great hc)).1.symm (rn_no (rn_great hc)).2.symm), hb⟩
      · have hyes := rn_yes (by omega) hem hc
        obtain ⟨v, hv⟩ : ∃ v : Nat, v = mill (rnW s) (rnB s) := ⟨_, rfl⟩
        have CC' : Hid (∀ W, Calls Tryz.prog 153 #[.string (s.extract (rnI s + 1) (rnM s)), .string (s.extract (rnM s + 1) (rnE s))] W fun e w' => e = .returned (.tuple #[.int .i64 (v : Int), .bool true]) ∧ W = w') := Lib.hid (fun W => by have := CC W; rw [hc, gotN_yes rfl, ← hv, hW, hB] at this; exact this)
        rw [← hv, n1] at hyes
        exact (rnS_neg_p_yes s (rnI s) (rnM s) (rnE s) v w hs (by omega) (by omega) HB hIlt hnb c45 hMlt c46 C1 (by omega) (by omega) C2  CC' (by rw [hv]; exact cap_le hc) (by omega) (by omega)).mono fun e w' ⟨he, hb⟩ => ⟨he.trans (ret_two2 hyes.1.symm (by rw [hyes.2])), hb⟩

theorem asS_neg_qin (s : ByteArray) (w : World) (hs : s.size ≤ 1048576) (n1 : atB s (rnI s) 45 = true) (n2 : atB s (rnI s) 43 = false) (n3 : atB s (rnM s) 46 = false) (hIlt : rnI s < s.size) (hMlt : rnM s < s.size) :
    Calls Tryz.prog 121 #[.string s] w fun e w' => e = .returned (.tuple #[.int .i64 (rnNum s), .int .i64 (rnPlace s)]) ∧ w = w' := by
  have hF : rnF s = (rnI s + 1) := by simp [rnF, n1, n2]
  have hM : runEnd digB s (rnI s + 1) = rnM s := by rw [rnM, hF]
  have lF := rnF_le s; have lM := rnM_le s; have lE := rnE_le s; have lI := rnI_le s
  have hW : rnW s = s.extract (rnI s + 1) (rnM s) := by rw [rnW, hF]
  have zW := size_W s
  have hE : rnE s = rnM s := by rw [rnE, if_neg (by rw [n3]; decide)]
  have hB : rnB s = ⟨#[]⟩ := by rw [rnB, if_neg (by rw [n3]; decide)]
  have zB : (rnB s).size = 0 := by rw [hB]; rfl
  rw [hF] at zW lF lM
  have C1 : Hid (∀ W, Calls Tryz.prog 152 #[.string s, .int .i64 ((rnI s : Int) + 1)] W fun e w' => e = .returned (.int .i64 (rnM s : Int)) ∧ W = w') := Lib.hid (fun W => by have := run_any s (rnI s + 1) W hs (by omega); rw [hM] at this; exact this)
  have CC := fun W => value_any (rnW s) (rnB s) W (by omega) (by omega) (dig_W s) (dig_B s)
  have HB : Hid (∀ (j : Nat) (h : j < s.size), j < rnI s → blnB (s[j].toNat : Int) = true) := Lib.hid (fun j h hj => runEnd_all blnB s 0 (by omega) j h (by omega) hj)
  have hnb := blankOut s (rnI s) hIlt rfl
  have c45 := (atB_in (c := 45) hIlt).trans n1
  have c43 := (atB_in (c := 43) hIlt).trans n2
  have c46 := (atB_in (c := 46) hMlt).trans n3
  by_cases hem : (rnW s).size + (rnB s).size = 0
  · obtain ⟨gx, hgx⟩ : ∃ gx : Int, gx = gotN (capB (mill (rnW s) (rnB s))) (mill (rnW s) (rnB s) : Int) := ⟨_, rfl⟩
    obtain ⟨gb, hgb⟩ : ∃ gb : Bool, gb = capB (mill (rnW s) (rnB s)) := ⟨_, rfl⟩
    have CC' : Hid (∀ W, Calls Tryz.prog 153 #[.string (s.extract (rnI s + 1) (rnM s)), .string (ByteArray.mk #[])] W fun e w' => e = .returned (.tuple #[.int .i64 gx, .bool gb]) ∧ W = w') := Lib.hid (fun W => by have := CC W; rw [← hgx, ← hgb, hW, hB] at this; exact this)
    exact (rnS_neg_qin_empty s (rnI s) (rnM s) gx gb w hs (by omega) (by omega) HB hIlt hnb c45 hMlt c46 C1  CC' (by omega)).mono fun e w' ⟨he, hb⟩ => ⟨he.trans (ret_two2 (rn_no (rn_none hem)).1.symm (rn_no (rn_none hem)).2.symm), hb⟩
  · by_cases hfar : 60 < rnE s
    · obtain ⟨gx, hgx⟩ : ∃ gx : Int, gx = gotN (capB (mill (rnW s) (rnB s))) (mill (rnW s) (rnB s) : Int) := ⟨_, rfl⟩
      obtain ⟨gb, hgb⟩ : ∃ gb : Bool, gb = capB (mill (rnW s) (rnB s)) := ⟨_, rfl⟩
      have CC' : Hid (∀ W, Calls Tryz.prog 153 #[.string (s.extract (rnI s + 1) (rnM s)), .string (ByteArray.mk #[])] W fun e w' => e = .returned (.tuple #[.int .i64 gx, .bool gb]) ∧ W = w') := Lib.hid (fun W => by have := CC W; rw [← hgx, ← hgb, hW, hB] at this; exact this)
      exact (rnS_neg_qin_far s (rnI s) (rnM s) gx gb w hs (by omega) (by omega) HB hIlt hnb c45 hMlt c46 C1  CC' (by omega) (by omega)).mono fun e w' ⟨he, hb⟩ => ⟨he.trans (ret_two2 (rn_no (rn_far hfar)).1.symm (rn_no (rn_far hfar)).2.symm), hb⟩
    · cases hc : capB (mill (rnW s) (rnB s))
      · have CC' : Hid (∀ W, Calls Tryz.prog 153 #[.string (s.extract (rnI s + 1) (rnM s)), .string (ByteArray.mk #[])] W fun e w' => e = .returned (.tuple #[.int .i64 0, .bool false]) ∧ W = w') := Lib.hid (fun W => by have := CC W; rw [hc, gotN_no rfl, hW, hB] at this; exact this)
        exact (rnS_neg_qin_great s (rnI s) (rnM s) w hs (by omega) (by omega) HB hIlt hnb c45 hMlt c46 C1  CC' (by omega) (by omega)).mono fun e w' ⟨he, hb⟩ => ⟨he.trans (ret_two2 (rn_no (rn_great hc)).1.symm (rn_no (rn_great hc)).2.symm), hb⟩
      · have hyes := rn_yes (by omega) hem hc
        obtain ⟨v, hv⟩ : ∃ v : Nat, v = mill (rnW s) (rnB s) := ⟨_, rfl⟩
        have CC' : Hid (∀ W, Calls Tryz.prog 153 #[.string (s.extract (rnI s + 1) (rnM s)), .string (ByteArray.mk #[])] W fun e w' => e = .returned (.tuple #[.int .i64 (v : Int), .bool true]) ∧ W = w') := Lib.hid (fun W => by have := CC W; rw [hc, gotN_yes rfl, ← hv, hW, hB] at this; exact this)
        rw [← hv, n1] at hyes
        exact (rnS_neg_qin_yes s (rnI s) (rnM s) v w hs (by omega) (by omega) HB hIlt hnb c45 hMlt c46 C1  CC' (by rw [hv]; exact cap_le hc) (by omega) (by omega)).mono fun e w' ⟨he, hb⟩ => ⟨he.trans (ret_two2 hyes.1.symm (by rw [hyes.2, hE])), hb⟩

theorem asS_neg_qend (s : ByteArray) (w : World) (hs : s.size ≤ 1048576) (n1 : atB s (rnI s) 45 = true) (n2 : atB s (rnI s) 43 = false) (n3 : atB s (rnM s) 46 = false) (hIlt : rnI s < s.size) (hMge : s.size ≤ rnM s) :
    Calls Tryz.prog 121 #[.string s] w fun e w' => e = .returned (.tuple #[.int .i64 (rnNum s), .int .i64 (rnPlace s)]) ∧ w = w' := by
  have hF : rnF s = (rnI s + 1) := by simp [rnF, n1, n2]
  have hM : runEnd digB s (rnI s + 1) = rnM s := by rw [rnM, hF]
  have lF := rnF_le s; have lM := rnM_le s; have lE := rnE_le s; have lI := rnI_le s
  have hW : rnW s = s.extract (rnI s + 1) (rnM s) := by rw [rnW, hF]
  have zW := size_W s
  have hE : rnE s = rnM s := by rw [rnE, if_neg (by rw [n3]; decide)]
  have hB : rnB s = ⟨#[]⟩ := by rw [rnB, if_neg (by rw [n3]; decide)]
  have zB : (rnB s).size = 0 := by rw [hB]; rfl
  rw [hF] at zW lF lM
  have C1 : Hid (∀ W, Calls Tryz.prog 152 #[.string s, .int .i64 ((rnI s : Int) + 1)] W fun e w' => e = .returned (.int .i64 (rnM s : Int)) ∧ W = w') := Lib.hid (fun W => by have := run_any s (rnI s + 1) W hs (by omega); rw [hM] at this; exact this)
  have CC := fun W => value_any (rnW s) (rnB s) W (by omega) (by omega) (dig_W s) (dig_B s)
  have HB : Hid (∀ (j : Nat) (h : j < s.size), j < rnI s → blnB (s[j].toNat : Int) = true) := Lib.hid (fun j h hj => runEnd_all blnB s 0 (by omega) j h (by omega) hj)
  have hnb := blankOut s (rnI s) hIlt rfl
  have c45 := (atB_in (c := 45) hIlt).trans n1
  have c43 := (atB_in (c := 43) hIlt).trans n2
  by_cases hem : (rnW s).size + (rnB s).size = 0
  · obtain ⟨gx, hgx⟩ : ∃ gx : Int, gx = gotN (capB (mill (rnW s) (rnB s))) (mill (rnW s) (rnB s) : Int) := ⟨_, rfl⟩
    obtain ⟨gb, hgb⟩ : ∃ gb : Bool, gb = capB (mill (rnW s) (rnB s)) := ⟨_, rfl⟩
    have CC' : Hid (∀ W, Calls Tryz.prog 153 #[.string (s.extract (rnI s + 1) (rnM s)), .string (ByteArray.mk #[])] W fun e w' => e = .returned (.tuple #[.int .i64 gx, .bool gb]) ∧ W = w') := Lib.hid (fun W => by have := CC W; rw [← hgx, ← hgb, hW, hB] at this; exact this)
    exact (rnS_neg_qend_empty s (rnI s) (rnM s) gx gb w hs (by omega) (by omega) HB hIlt hnb c45 hMge C1  CC' (by omega)).mono fun e w' ⟨he, hb⟩ => ⟨he.trans (ret_two2 (rn_no (rn_none hem)).1.symm (rn_no (rn_none hem)).2.symm), hb⟩
  · by_cases hfar : 60 < rnE s
    · obtain ⟨gx, hgx⟩ : ∃ gx : Int, gx = gotN (capB (mill (rnW s) (rnB s))) (mill (rnW s) (rnB s) : Int) := ⟨_, rfl⟩
      obtain ⟨gb, hgb⟩ : ∃ gb : Bool, gb = capB (mill (rnW s) (rnB s)) := ⟨_, rfl⟩
      have CC' : Hid (∀ W, Calls Tryz.prog 153 #[.string (s.extract (rnI s + 1) (rnM s)), .string (ByteArray.mk #[])] W fun e w' => e = .returned (.tuple #[.int .i64 gx, .bool gb]) ∧ W = w') := Lib.hid (fun W => by have := CC W; rw [← hgx, ← hgb, hW, hB] at this; exact this)
      exact (rnS_neg_qend_far s (rnI s) (rnM s) gx gb w hs (by omega) (by omega) HB hIlt hnb c45 hMge C1  CC' (by omega) (by omega)).mono fun e w' ⟨he, hb⟩ => ⟨he.trans (ret_two2 (rn_no (rn_far hfar)).1.symm (rn_no (rn_far hfar)).2.symm), hb⟩
    · cases hc : capB (mill (rnW s) (rnB s))
      · have CC' : Hid (∀ W, Calls Tryz.prog 153 #[.string (s.extract (rnI s + 1) (rnM s)), .string (ByteArray.mk #[])] W fun e w' => e = .returned (.tuple #[.int .i64 0, .bool false]) ∧ W = w') := Lib.hid (fun W => by have := CC W; rw [hc, gotN_no rfl, hW, hB] at this; exact this)
        exact (rnS_neg_qend_great s (rnI s) (rnM s) w hs (by omega) (by omega) HB hIlt hnb c45 hMge C1  CC' (by omega) (by omega)).mono fun e w' ⟨he, hb⟩ => ⟨he.trans (ret_two2 (rn_no (rn_great hc)).1.symm (rn_no (rn_great hc)).2.symm), hb⟩
      · have hyes := rn_yes (by omega) hem hc
        obtain ⟨v, hv⟩ : ∃ v : Nat, v = mill (rnW s) (rnB s) := ⟨_, rfl⟩
        have CC' : Hid (∀ W, Calls Tryz.prog 153 #[.string (s.extract (rnI s + 1) (rnM s)), .string (ByteArray.mk #[])] W fun e w' => e = .returned (.tuple #[.int .i64 (v : Int), .bool true]) ∧ W = w') := Lib.hid (fun W => by have := CC W; rw [hc, gotN_yes rfl, ← hv, hW, hB] at this; exact this)
        rw [← hv, n1] at hyes
        exact (rnS_neg_qend_yes s (rnI s) (rnM s) v w hs (by omega) (by omega) HB hIlt hnb c45 hMge C1  CC' (by rw [hv]; exact cap_le hc) (by omega) (by omega)).mono fun e w' ⟨he, hb⟩ => ⟨he.trans (ret_two2 hyes.1.symm (by rw [hyes.2, hE])), hb⟩

theorem asS_plus_p (s : ByteArray) (w : World) (hs : s.size ≤ 1048576) (n1 : atB s (rnI s) 45 = false) (n2 : atB s (rnI s) 43 = true) (n3 : atB s (rnM s) 46 = true) (hIlt : rnI s < s.size) :
    Calls Tryz.prog 121 #[.string s] w fun e w' => e = .returned (.tuple #[.int .i64 (rnNum s), .int .i64 (rnPlace s)]) ∧ w = w' := by
  have hF : rnF s = (rnI s + 1) := by simp [rnF, n1, n2]
  have hM : runEnd digB s (rnI s + 1) = rnM s := by rw [rnM, hF]
  have lF := rnF_le s; have lM := rnM_le s; have lE := rnE_le s; have lI := rnI_le s
  have hW : rnW s = s.extract (rnI s + 1) (rnM s) := by rw [rnW, hF]
  have zW := size_W s
  have hE : rnE s = runEnd digB s (rnM s + 1) := by rw [rnE, if_pos n3]
  have hMlt := atB_lt n3
  have lE2 := runEnd_le digB s (rnM s + 1) (by omega)
  have hB : rnB s = s.extract (rnM s + 1) (rnE s) := by rw [rnB, if_pos n3]
  have zB := size_B s n3
  rw [hF] at zW lF lM
  have C1 : Hid (∀ W, Calls Tryz.prog 152 #[.string s, .int .i64 ((rnI s : Int) + 1)] W fun e w' => e = .returned (.int .i64 (rnM s : Int)) ∧ W = w') := Lib.hid (fun W => by have := run_any s (rnI s + 1) W hs (by omega); rw [hM] at this; exact this)
  have C2 : Hid (∀ W, Calls Tryz.prog 152 #[.string s, .int .i64 ((rnM s : Int) + 1)] W fun e w' => e = .returned (.int .i64 (rnE s : Int)) ∧ W = w') := Lib.hid (fun W => by have := run_any s (rnM s + 1) W hs (by omega); rw [← hE] at this; exact this)
  have CC := fun W => value_any (rnW s) (rnB s) W (by omega) (by omega) (dig_W s) (dig_B s)
  have HB : Hid (∀ (j : Nat) (h : j < s.size), j < rnI s → blnB (s[j].toNat : Int) = true) := Lib.hid (fun j h hj => runEnd_all blnB s 0 (by omega) j h (by omega) hj)
  have hnb := blankOut s (rnI s) hIlt rfl
  have c45 := (atB_in (c := 45) hIlt).trans n1
  have c43 := (atB_in (c := 43) hIlt).trans n2
  have c46 := (atB_in (c := 46) hMlt).trans n3
  by_cases hem : (rnW s).size + (rnB s).size = 0
  · obtain ⟨gx, hgx⟩ : ∃ gx : Int, gx = gotN (capB (mill (rnW s) (rnB s))) (mill (rnW s) (rnB s) : Int) := ⟨_, rfl⟩
    obtain ⟨gb, hgb⟩ : ∃ gb : Bool, gb = capB (mill (rnW s) (rnB s)) := ⟨_, rfl⟩
    have CC' : Hid (∀ W, Calls Tryz.prog 153 #[.string (s.extract (rnI s + 1) (rnM s)), .string (s.extract (rnM s + 1) (rnE s))] W fun e w' => e = .returned (.tuple #[.int .i64 gx, .bool gb]) ∧ W = w') := Lib.hid (fun W => by have := CC W; rw [← hgx, ← hgb, hW, hB] at this; exact this)
    exact (rnS_plus_p_empty s (rnI s) (rnM s) (rnE s) gx gb w hs (by omega) (by omega) HB hIlt hnb c45 c43 hMlt c46 C1 (by omega) (by omega) C2  CC' (by omega)).mono fun e w' ⟨he, hb⟩ => ⟨he.trans (ret_two2 (rn_no (rn_none hem)).1.symm (rn_no (rn_none hem)).2.symm), hb⟩
  · by_cases hfar : 60 < rnE s
    · obtain ⟨gx, hgx⟩ : ∃ gx : Int, gx = gotN (capB (mill (rnW s) (rnB s))) (mill (rnW s) (rnB s) : Int) := ⟨_, rfl⟩
      obtain ⟨gb, hgb⟩ : ∃ gb : Bool, gb = capB (mill (rnW s) (rnB s)) := ⟨_, rfl⟩
      have CC' : Hid (∀ W, Calls Tryz.prog 153 #[.string (s.extract (rnI s + 1) (rnM s)), .string (s.extract (rnM s + 1) (rnE s))] W fun e w' => e = .returned (.tuple #[.int .i64 gx, .bool gb]) ∧ W = w') := Lib.hid (fun W => by have := CC W; rw [← hgx, ← hgb, hW, hB] at this; exact this)
      exact (rnS_plus_p_far s (rnI s) (rnM s) (rnE s) gx gb w hs (by omega) (by omega) HB hIlt hnb c45 c43 hMlt c46 C1 (by omega) (by omega) C2  CC' (by omega) (by omega)).mono fun e w' ⟨he, hb⟩ => ⟨he.trans (ret_two2 (rn_no (rn_far hfar)).1.symm (rn_no (rn_far hfar)).2.symm), hb⟩
    · cases hc : capB (mill (rnW s) (rnB s))
      · have CC' : Hid (∀ W, Calls Tryz.prog 153 #[.string (s.extract (rnI s + 1) (rnM s)), .string (s.extract (rnM s + 1) (rnE s))] W fun e w' => e = .returned (.tuple #[.int .i64 0, .bool false]) ∧ W = w') := Lib.hid (fun W => by have := CC W; rw [hc, gotN_no rfl, hW, hB] at this; exact this)
        exact (rnS_plus_p_great s (rnI s) (rnM s) (rnE s) w hs (by omega) (by omega) HB hIlt hnb c45 c43 hMlt c46 C1 (by omega) (by omega) C2  CC' (by omega) (by omega)).mono fun e w' ⟨he, hb⟩ => ⟨he.trans (ret_two2 (rn_no (rn_great hc)).1.symm (rn_no (rn_great hc)).2.symm), hb⟩
      · have hyes := rn_yes (by omega) hem hc
        obtain ⟨v, hv⟩ : ∃ v : Nat, v = mill (rnW s) (rnB s) := ⟨_, rfl⟩
        have CC' : Hid (∀ W, Calls Tryz.prog 153 #[.string (s.extract (rnI s + 1) (rnM s)), .string (s.extract (rnM s + 1) (rnE s))] W fun e w' => e = .returned (.tuple #[.int .i64 (v : Int), .bool true]) ∧ W = w') := Lib.hid (fun W => by have := CC W; rw [hc, gotN_yes rfl, ← hv, hW, hB] at this; exact this)
        rw [← hv, n1] at hyes
        exact (rnS_plus_p_yes s (rnI s) (rnM s) (rnE s) v w hs (by omega) (by omega) HB hIlt hnb c45 c43 hMlt c46 C1 (by omega) (by omega) C2  CC' (by rw [hv]; exact cap_le hc) (by omega) (by omega)).mono fun e w' ⟨he, hb⟩ => ⟨he.trans (ret_two2 hyes.1.symm (by rw [hyes.2])), hb⟩

theorem asS_plus_qin (s : ByteArray) (w : World) (hs : s.size ≤ 1048576) (n1 : atB s (rnI s) 45 = false) (n2 : atB s (rnI s) 43 = true) (n3 : atB s (rnM s) 46 = false) (hIlt : rnI s < s.size) (hMlt : rnM s < s.size) :
    Calls Tryz.prog 121 #[.string s] w fun e w' => e = .returned (.tuple #[.int .i64 (rnNum s), .int .i64 (rnPlace s)]) ∧ w = w' := by
  have hF : rnF s = (rnI s + 1) := by simp [rnF, n1, n2]
  have hM : runEnd digB s (rnI s + 1) = rnM s := by rw [rnM, hF]
  have lF := rnF_le s; have lM := rnM_le s; have lE := rnE_le s; have lI := rnI_le s
  have hW : rnW s = s.extract (rnI s + 1) (rnM s) := by rw [rnW, hF]
  have zW := size_W s
  have hE : rnE s = rnM s := by rw [rnE, if_neg (by rw [n3]; decide)]
  have hB : rnB s = ⟨#[]⟩ := by rw [rnB, if_neg (by rw [n3]; decide)]
  have zB : (rnB s).size = 0 := by rw [hB]; rfl
  rw [hF] at zW lF lM
  have C1 : Hid (∀ W, Calls Tryz.prog 152 #[.string s, .int .i64 ((rnI s : Int) + 1)] W fun e w' => e = .returned (.int .i64 (rnM s : Int)) ∧ W = w') := Lib.hid (fun W => by have := run_any s (rnI s + 1) W hs (by omega); rw [hM] at this; exact this)
  have CC := fun W => value_any (rnW s) (rnB s) W (by omega) (by omega) (dig_W s) (dig_B s)
  have HB : Hid (∀ (j : Nat) (h : j < s.size), j < rnI s → blnB (s[j].toNat : Int) = true) := Lib.hid (fun j h hj => runEnd_all blnB s 0 (by omega) j h (by omega) hj)
  have hnb := blankOut s (rnI s) hIlt rfl
  have c45 := (atB_in (c := 45) hIlt).trans n1
  have c43 := (atB_in (c := 43) hIlt).trans n2
  have c46 := (atB_in (c := 46) hMlt).trans n3
  by_cases hem : (rnW s).size + (rnB s).size = 0
  · obtain ⟨gx, hgx⟩ : ∃ gx : Int, gx = gotN (capB (mill (rnW s) (rnB s))) (mill (rnW s) (rnB s) : Int) := ⟨_, rfl⟩
    obtain ⟨gb, hgb⟩ : ∃ gb : Bool, gb = capB (mill (rnW s) (rnB s)) := ⟨_, rfl⟩
    have CC' : Hid (∀ W, Calls Tryz.prog 153 #[.string (s.extract (rnI s + 1) (rnM s)), .string (ByteArray.mk #[])] W fun e w' => e = .returned (.tuple #[.int .i64 gx, .bool gb]) ∧ W = w') := Lib.hid (fun W => by have := CC W; rw [← hgx, ← hgb, hW, hB] at this; exact this)
    exact (rnS_plus_qin_empty s (rnI s) (rnM s) gx gb w hs (by omega) (by omega) HB hIlt hnb c45 c43 hMlt c46 C1  CC' (by omega)).mono fun e w' ⟨he, hb⟩ => ⟨he.trans (ret_two2 (rn_no (rn_none hem)).1.symm (rn_no (rn_none hem)).2.symm), hb⟩
  · by_cases hfar : 60 < rnE s
    · obtain ⟨gx, hgx⟩ : ∃ gx : Int, gx = gotN (capB (mill (rnW s) (rnB s))) (mill (rnW s) (rnB s) : Int) := ⟨_, rfl⟩
      obtain ⟨gb, hgb⟩ : ∃ gb : Bool, gb = capB (mill (rnW s) (rnB s)) := ⟨_, rfl⟩
      have CC' : Hid (∀ W, Calls Tryz.prog 153 #[.string (s.extract (rnI s + 1) (rnM s)), .string (ByteArray.mk #[])] W fun e w' => e = .returned (.tuple #[.int .i64 gx, .bool gb]) ∧ W = w') := Lib.hid (fun W => by have := CC W; rw [← hgx, ← hgb, hW, hB] at this; exact this)
      exact (rnS_plus_qin_far s (rnI s) (rnM s) gx gb w hs (by omega) (by omega) HB hIlt hnb c45 c43 hMlt c46 C1  CC' (by omega) (by omega)).mono fun e w' ⟨he, hb⟩ => ⟨he.trans (ret_two2 (rn_no (rn_far hfar)).1.symm (rn_no (rn_far hfar)).2.symm), hb⟩
    · cases hc : capB (mill (rnW s) (rnB s))
      · have CC' : Hid (∀ W, Calls Tryz.prog 153 #[.string (s.extract (rnI s + 1) (rnM s)), .string (ByteArray.mk #[])] W fun e w' => e = .returned (.tuple #[.int .i64 0, .bool false]) ∧ W = w') := Lib.hid (fun W => by have := CC W; rw [hc, gotN_no rfl, hW, hB] at this; exact this)
        exact (rnS_plus_qin_great s (rnI s) (rnM s) w hs (by omega) (by omega) HB hIlt hnb c45 c43 hMlt c46 C1  CC' (by omega) (by omega)).mono fun e w' ⟨he, hb⟩ => ⟨he.trans (ret_two2 (rn_no (rn_great hc)).1.symm (rn_no (rn_great hc)).2.symm), hb⟩
      · have hyes := rn_yes (by omega) hem hc
        obtain ⟨v, hv⟩ : ∃ v : Nat, v = mill (rnW s) (rnB s) := ⟨_, rfl⟩
        have CC' : Hid (∀ W, Calls Tryz.prog 153 #[.string (s.extract (rnI s + 1) (rnM s)), .string (ByteArray.mk #[])] W fun e w' => e = .returned (.tuple #[.int .i64 (v : Int), .bool true]) ∧ W = w') := Lib.hid (fun W => by have := CC W; rw [hc, gotN_yes rfl, ← hv, hW, hB] at this; exact this)
        rw [← hv, n1] at hyes
        exact (rnS_plus_qin_yes s (rnI s) (rnM s) v w hs (by omega) (by omega) HB hIlt hnb c45 c43 hMlt c46 C1  CC' (by rw [hv]; exact cap_le hc) (by omega) (by omega)).mono fun e w' ⟨he, hb⟩ => ⟨he.trans (ret_two2 hyes.1.symm (by rw [hyes.2, hE])), hb⟩

theorem asS_plus_qend (s : ByteArray) (w : World) (hs : s.size ≤ 1048576) (n1 : atB s (rnI s) 45 = false) (n2 : atB s (rnI s) 43 = true) (n3 : atB s (rnM s) 46 = false) (hIlt : rnI s < s.size) (hMge : s.size ≤ rnM s) :
    Calls Tryz.prog 121 #[.string s] w fun e w' => e = .returned (.tuple #[.int .i64 (rnNum s), .int .i64 (rnPlace s)]) ∧ w = w' := by
  have hF : rnF s = (rnI s + 1) := by simp [rnF, n1, n2]
  have hM : runEnd digB s (rnI s + 1) = rnM s := by rw [rnM, hF]
  have lF := rnF_le s; have lM := rnM_le s; have lE := rnE_le s; have lI := rnI_le s
  have hW : rnW s = s.extract (rnI s + 1) (rnM s) := by rw [rnW, hF]
  have zW := size_W s
  have hE : rnE s = rnM s := by rw [rnE, if_neg (by rw [n3]; decide)]
  have hB : rnB s = ⟨#[]⟩ := by rw [rnB, if_neg (by rw [n3]; decide)]
  have zB : (rnB s).size = 0 := by rw [hB]; rfl
  rw [hF] at zW lF lM
  have C1 : Hid (∀ W, Calls Tryz.prog 152 #[.string s, .int .i64 ((rnI s : Int) + 1)] W fun e w' => e = .returned (.int .i64 (rnM s : Int)) ∧ W = w') := Lib.hid (fun W => by have := run_any s (rnI s + 1) W hs (by omega); rw [hM] at this; exact this)
  have CC := fun W => value_any (rnW s) (rnB s) W (by omega) (by omega) (dig_W s) (dig_B s)
  have HB : Hid (∀ (j : Nat) (h : j < s.size), j < rnI s → blnB (s[j].toNat : Int) = true) := Lib.hid (fun j h hj => runEnd_all blnB s 0 (by omega) j h (by omega) hj)
  have hnb := blankOut s (rnI s) hIlt rfl
  have c45 := (atB_in (c := 45) hIlt).trans n1
  have c43 := (atB_in (c := 43) hIlt).trans n2
  by_cases hem : (rnW s).size + (rnB s).size = 0
  · obtain ⟨gx, hgx⟩ : ∃ gx : Int, gx = gotN (capB (mill (rnW s) (rnB s))) (mill (rnW s) (rnB s) : Int) := ⟨_, rfl⟩
    obtain ⟨gb, hgb⟩ : ∃ gb : Bool, gb = capB (mill (rnW s) (rnB s)) := ⟨_, rfl⟩
    have CC' : Hid (∀ W, Calls Tryz.prog 153 #[.string (s.extract (rnI s + 1) (rnM s)), .string (ByteArray.mk #[])] W fun e w' => e = .returned (.tuple #[.int .i64 gx, .bool gb]) ∧ W = w') := Lib.hid (fun W => by have := CC W; rw [← hgx, ← hgb, hW, hB] at this; exact this)
    exact (rnS_plus_qend_empty s (rnI s) (rnM s) gx gb w hs (by omega) (by omega) HB hIlt hnb c45 c43 hMge C1  CC' (by omega)).mono fun e w' ⟨he, hb⟩ => ⟨he.trans (ret_two2 (rn_no (rn_none hem)).1.symm (rn_no (rn_none hem)).2.symm), hb⟩
  · by_cases hfar : 60 < rnE s
    · obtain ⟨gx, hgx⟩ : ∃ gx : Int, gx = gotN (capB (mill (rnW s) (rnB s))) (mill (rnW s) (rnB s) : Int) := ⟨_, rfl⟩
      obtain ⟨gb, hgb⟩ : ∃ gb : Bool, gb = capB (mill (rnW s) (rnB s)) := ⟨_, rfl⟩
      have CC' : Hid (∀ W, Calls Tryz.prog 153 #[.string (s.extract (rnI s + 1) (rnM s)), .string (ByteArray.mk #[])] W fun e w' => e = .returned (.tuple #[.int .i64 gx, .bool gb]) ∧ W = w') := Lib.hid (fun W => by have := CC W; rw [← hgx, ← hgb, hW, hB] at this; exact this)
      exact (rnS_plus_qend_far s (rnI s) (rnM s) gx gb w hs (by omega) (by omega) HB hIlt hnb c45 c43 hMge C1  CC' (by omega) (by omega)).mono fun e w' ⟨he, hb⟩ => ⟨he.trans (ret_two2 (rn_no (rn_far hfar)).1.symm (rn_no (rn_far hfar)).2.symm), hb⟩
    · cases hc : capB (mill (rnW s) (rnB s))
      · have CC' : Hid (∀ W, Calls Tryz.prog 153 #[.string (s.extract (rnI s + 1) (rnM s)), .string (ByteArray.mk #[])] W fun e w' => e = .returned (.tuple #[.int .i64 0, .bool false]) ∧ W = w') := Lib.hid (fun W => by have := CC W; rw [hc, gotN_no rfl, hW, hB] at this; exact this)
        exact (rnS_plus_qend_great s (rnI s) (rnM s) w hs (by omega) (by omega) HB hIlt hnb c45 c43 hMge C1  CC' (by omega) (by omega)).mono fun e w' ⟨he, hb⟩ => ⟨he.trans (ret_two2 (rn_no (rn_great hc)).1.symm (rn_no (rn_great hc)).2.symm), hb⟩
      · have hyes := rn_yes (by omega) hem hc
        obtain ⟨v, hv⟩ : ∃ v : Nat, v = mill (rnW s) (rnB s) := ⟨_, rfl⟩
        have CC' : Hid (∀ W, Calls Tryz.prog 153 #[.string (s.extract (rnI s + 1) (rnM s)), .string (ByteArray.mk #[])] W fun e w' => e = .returned (.tuple #[.int .i64 (v : Int), .bool true]) ∧ W = w') := Lib.hid (fun W => by have := CC W; rw [hc, gotN_yes rfl, ← hv, hW, hB] at this; exact this)
        rw [← hv, n1] at hyes
        exact (rnS_plus_qend_yes s (rnI s) (rnM s) v w hs (by omega) (by omega) HB hIlt hnb c45 c43 hMge C1  CC' (by rw [hv]; exact cap_le hc) (by omega) (by omega)).mono fun e w' ⟨he, hb⟩ => ⟨he.trans (ret_two2 hyes.1.symm (by rw [hyes.2, hE])), hb⟩

theorem asS_nin_p (s : ByteArray) (w : World) (hs : s.size ≤ 1048576) (n1 : atB s (rnI s) 45 = false) (n2 : atB s (rnI s) 43 = false) (n3 : atB s (rnM s) 46 = true) (hIlt : rnI s < s.size) :
    Calls Tryz.prog 121 #[.string s] w fun e w' => e = .returned (.tuple #[.int .i64 (rnNum s), .int .i64 (rnPlace s)]) ∧ w = w' := by
  have hF : rnF s = (rnI s) := by simp [rnF, n1, n2]
  have hM : runEnd digB s (rnI s) = rnM s := by rw [rnM, hF]
  have lF := rnF_le s; have lM := rnM_le s; have lE := rnE_le s; have lI := rnI_le s
  have hW : rnW s = s.extract (rnI s) (rnM s) := by rw [rnW, hF]
  have zW := size_W s
  have hE : rnE s = runEnd digB s (rnM s + 1) := by rw [rnE, if_pos n3]
  have hMlt := atB_lt n3
  have lE2 := runEnd_le digB s (rnM s + 1) (by omega)
  have hB : rnB s = s.extract (rnM s + 1) (rnE s) := by rw [rnB, if_pos n3]
  have zB := size_B s n3
  rw [hF] at zW lF lM
  have C1 : Hid (∀ W, Calls Tryz.prog 152 #[.string s, .int .i64 (rnI s : Int)] W fun e w' => e = .returned (.int .i64 (rnM s : Int)) ∧ W = w') := Lib.hid (fun W => by have := run_any s (rnI s) W hs (by omega); rw [hM] at this; exact this)
  have C2 : Hid (∀ W, Calls Tryz.prog 152 #[.string s, .int .i64 ((rnM s : Int) + 1)] W fun e w' => e = .returned (.int .i64 (rnE s : Int)) ∧ W = w') := Lib.hid (fun W => by have := run_any s (rnM s + 1) W hs (by omega); rw [← hE] at this; exact this)
  have CC := fun W => value_any (rnW s) (rnB s) W (by omega) (by omega) (dig_W s) (dig_B s)
  have HB : Hid (∀ (j : Nat) (h : j < s.size), j < rnI s → blnB (s[j].toNat : Int) = true) := Lib.hid (fun j h hj => runEnd_all blnB s 0 (by omega) j h (by omega) hj)
  have hnb := blankOut s (rnI s) hIlt rfl
  have c45 := (atB_in (c := 45) hIlt).trans n1
  have c43 := (atB_in (c := 43) hIlt).trans n2
  have c46 := (atB_in (c := 46) hMlt).trans n3
  by_cases hem : (rnW s).size + (rnB s).size = 0
  · obtain ⟨gx, hgx⟩ : ∃ gx : Int, gx = gotN (capB (mill (rnW s) (rnB s))) (mill (rnW s) (rnB s) : Int) := ⟨_, rfl⟩
    obtain ⟨gb, hgb⟩ : ∃ gb : Bool, gb = capB (mill (rnW s) (rnB s)) := ⟨_, rfl⟩
    have CC' : Hid (∀ W, Calls Tryz.prog 153 #[.string (s.extract (rnI s) (rnM s)), .string (s.extract (rnM s + 1) (rnE s))] W fun e w' => e = .returned (.tuple #[.int .i64 gx, .bool gb]) ∧ W = w') := Lib.hid (fun W => by have := CC W; rw [← hgx, ← hgb, hW, hB] at this; exact this)
    exact (rnS_nin_p_empty s (rnI s) (rnM s) (rnE s) gx gb w hs (by omega) (by omega) HB hIlt hnb c45 c43 hMlt c46 C1 (by omega) (by omega) C2  CC' (by omega)).mono fun e w' ⟨he, hb⟩ => ⟨he.trans (ret_two2 (rn_no (rn_none hem)).1.symm (rn_no (rn_none hem)).2.symm), hb⟩
  · by_cases hfar : 60 < rnE s
    · obtain ⟨gx, hgx⟩ : ∃ gx : Int, gx = gotN (capB (mill (rnW s) (rnB s))) (mill (rnW s) (rnB s) : Int) := ⟨_, rfl⟩
      obtain ⟨gb, hgb⟩ : ∃ gb : Bool, gb = capB (mill (rnW s) (rnB s)) := ⟨_, rfl⟩
      have CC' : Hid (∀ W, Calls Tryz.prog 153 #[.string (s.extract (rnI s) (rnM s)), .string (s.extract (rnM s + 1) (rnE s))] W fun e w' => e = .returned (.tuple #[.int .i64 gx, .bool gb]) ∧ W = w') := Lib.hid (fun W => by have := CC W; rw [← hgx, ← hgb, hW, hB] at this; exact this)
      exact (rnS_nin_p_far s (rnI s) (rnM s) (rnE s) gx gb w hs (by omega) (by omega) HB hIlt hnb c45 c43 hMlt c46 C1 (by omega) (by omega) C2  CC' (by omega) (by omega)).mono fun e w' ⟨he, hb⟩ => ⟨he.trans (ret_two2 (rn_no (rn_far hfar)).1.symm (rn_no (rn_far hfar)).2.symm), hb⟩
    · cases hc : capB (mill (rnW s) (rnB s))
      · have CC' : Hid (∀ W, Calls Tryz.prog 153 #[.string (s.extract (rnI s) (rnM s)), .string (s.extract (rnM s + 1) (rnE s))] W fun e w' => e = .returned (.tuple #[.int .i64 0, .bool false]) ∧ W = w') := Lib.hid (fun W => by have := CC W; rw [hc, gotN_no rfl, hW, hB] at this; exact this)
        exact (rnS_nin_p_great s (rnI s) (rnM s) (rnE s) w hs (by omega) (by omega) HB hIlt hnb c45 c43 hMlt c46 C1 (by omega) (by omega) C2  CC' (by omega) (by omega)).mono fun e w' ⟨he, hb⟩ => ⟨he.trans (ret_two2 (rn_no (rn_great hc)).1.symm (rn_no (rn_great hc)).2.symm), hb⟩
      · have hyes := rn_yes (by omega) hem hc
        obtain ⟨v, hv⟩ : ∃ v : Nat, v = mill (rnW s) (rnB s) := ⟨_, rfl⟩
        have CC' : Hid (∀ W, Calls Tryz.prog 153 #[.string (s.extract (rnI s) (rnM s)), .string (s.extract (rnM s + 1) (rnE s))] W fun e w' => e = .returned (.tuple #[.int .i64 (v : Int), .bool true]) ∧ W = w') := Lib.hid (fun W => by have := CC W; rw [hc, gotN_yes rfl, ← hv, hW, hB] at this; exact this)
        rw [← hv, n1] at hyes
        exact (rnS_nin_p_yes s (rnI s) (rnM s) (rnE s) v w hs (by omega) (by omega) HB hIlt hnb c45 c43 hMlt c46 C1 (by omega) (by omega) C2  CC' (by rw [hv]; exact cap_le hc) (by omega) (by omega)).mono fun e w' ⟨he, hb⟩ => ⟨he.trans (ret_two2 hyes.1.symm (by rw [hyes.2])), hb⟩

theorem asS_nin_qin (s : ByteArray) (w : World) (hs : s.size ≤ 1048576) (n1 : atB s (rnI s) 45 = false) (n2 : atB s (rnI s) 43 = false) (n3 : atB s (rnM s) 46 = false) (hIlt : rnI s < s.size) (hMlt : rnM s < s.size) :
    Calls Tryz.prog 121 #[.string s] w fun e w' => e = .returned (.tuple #[.int .i64 (rnNum s), .int .i64 (rnPlace s)]) ∧ w = w' := by
  have hF : rnF s = (rnI s) := by simp [rnF, n1, n2]
  have hM : runEnd digB s (rnI s) = rnM s := by rw [rnM, hF]
  have lF := rnF_le s; have lM := rnM_le s; have lE := rnE_le s; have lI := rnI_le s
  have hW : rnW s = s.extract (rnI s) (rnM s) := by rw [rnW, hF]
  have zW := size_W s
  have hE : rnE s = rnM s := by rw [rnE, if_neg (by rw [n3]; decide)]
  have hB : rnB s = ⟨#[]⟩ := by rw [rnB, if_neg (by rw [n3]; decide)]
  have zB : (rnB s).size = 0 := by rw [hB]; rfl
  rw [hF] at zW lF lM
  have C1 : Hid (∀ W, Calls Tryz.prog 152 #[.string s, .int .i64 (rnI s : Int)] W fun e w' => e = .returned (.int .i64 (rnM s : Int)) ∧ W = w') := Lib.hid (fun W => by have := run_any s (rnI s) W hs (by omega); rw [hM] at this; exact this)
  have CC := fun W => value_any (rnW s) (rnB s) W (by omega) (by omega) (dig_W s) (dig_B s)
  have HB : Hid (∀ (j : Nat) (h : j < s.size), j < rnI s → blnB (s[j].toNat : Int) = true) := Lib.hid (fun j h hj => runEnd_all blnB s 0 (by omega) j h (by omega) hj)
  have hnb := blankOut s (rnI s) hIlt rfl
  have c45 := (atB_in (c := 45) hIlt).trans n1
  have c43 := (atB_in (c := 43) hIlt).trans n2
  have c46 := (atB_in (c := 46) hMlt).trans n3
  by_cases hem : (rnW s).size + (rnB s).size = 0
  · obtain ⟨gx, hgx⟩ : ∃ gx : Int, gx = gotN (capB (mill (rnW s) (rnB s))) (mill (rnW s) (rnB s) : Int) := ⟨_, rfl⟩
    obtain ⟨gb, hgb⟩ : ∃ gb : Bool, gb = capB (mill (rnW s) (rnB s)) := ⟨_, rfl⟩
    have CC' : Hid (∀ W, Calls Tryz.prog 153 #[.string (s.extract (rnI s) (rnM s)), .string (ByteArray.mk #[])] W fun e w' => e = .returned (.tuple #[.int .i64 gx, .bool gb]) ∧ W = w') := Lib.hid (fun W => by have := CC W; rw [← hgx, ← hgb, hW, hB] at this; exact this)
    exact (rnS_nin_qin_empty s (rnI s) (rnM s) gx gb w hs (by omega) (by omega) HB hIlt hnb c45 c43 hMlt c46 C1  CC' (by omega)).mono fun e w' ⟨he, hb⟩ => ⟨he.trans (ret_two2 (rn_no (rn_none hem)).1.symm (rn_no (rn_none hem)).2.symm), hb⟩
  · by_cases hfar : 60 < rnE s
    · obtain ⟨gx, hgx⟩ : ∃ gx : Int, gx = gotN (capB (mill (rnW s) (rnB s))) (mill (rnW s) (rnB s) : Int) := ⟨_, rfl⟩
      obtain ⟨gb, hgb⟩ : ∃ gb : Bool, gb = capB (mill (rnW s) (rnB s)) := ⟨_, rfl⟩
      have CC' : Hid (∀ W, Calls Tryz.prog 153 #[.string (s.extract (rnI s) (rnM s)), .string (ByteArray.mk #[])] W fun e w' => e = .returned (.tuple #[.int .i64 gx, .bool gb]) ∧ W = w') := Lib.hid (fun W => by have := CC W; rw [← hgx, ← hgb, hW, hB] at this; exact this)
      exact (rnS_nin_qin_far s (rnI s) (rnM s) gx gb w hs (by omega) (by omega) HB hIlt hnb c45 c43 hMlt c46 C1  CC' (by omega) (by omega)).mono fun e w' ⟨he, hb⟩ => ⟨he.trans (ret_two2 (rn_no (rn_far hfar)).1.symm (rn_no (rn_far hfar)).2.symm), hb⟩
    · cases hc : capB (mill (rnW s) (rnB s))
      · have CC' : Hid (∀ W, Calls Tryz.prog 153 #[.string (s.extract (rnI s) (rnM s)), .string (ByteArray.mk #[])] W fun e w' => e = .returned (.tuple #[.int .i64 0, .bool false]) ∧ W = w') := Lib.hid (fun W => by have := CC W; rw [hc, gotN_no rfl, hW, hB] at this; exact this)
        exact (rnS_nin_qin_great s (rnI s) (rnM s) w hs (by omega) (by omega) HB hIlt hnb c45 c43 hMlt c46 C1  CC' (by omega) (by omega)).mono fun e w' ⟨he, hb⟩ => ⟨he.trans (ret_two2 (rn_no (rn_great hc)).1.symm (rn_no (rn_great hc)).2.symm), hb⟩
      · have hyes := rn_yes (by omega) hem hc
        obtain ⟨v, hv⟩ : ∃ v : Nat, v = mill (rnW s) (rnB s) := ⟨_, rfl⟩
        have CC' : Hid (∀ W, Calls Tryz.prog 153 #[.string (s.extract (rnI s) (rnM s)), .string (ByteArray.mk #[])] W fun e w' => e = .returned (.tuple #[.int .i64 (v : Int), .bool true]) ∧ W = w') := Lib.hid (fun W => by have := CC W; rw [hc, gotN_yes rfl, ← hv, hW, hB] at this; exact this)
        rw [← hv, n1] at hyes
        exact (rnS_nin_qin_yes s (rnI s) (rnM s) v w hs (by omega) (by omega) HB hIlt hnb c45 c43 hMlt c46 C1  CC' (by rw [hv]; exact cap_le hc) (by omega) (by omega)).mono fun e w' ⟨he, hb⟩ => ⟨he.trans (ret_two2 hyes.1.symm (by rw [hyes.2, hE])), hb⟩

theorem asS_nin_qend (s : ByteArray) (w : World) (hs : s.size ≤ 1048576) (n1 : atB s (rnI s) 45 = false) (n2 : atB s (rnI s) 43 = false) (n3 : atB s (rnM s) 46 = false) (hIlt : rnI s < s.size) (hMge : s.size ≤ rnM s) :
    Calls Tryz.prog 121 #[.string s] w fun e w' => e = .returned (.tuple #[.int .i64 (rnNum s), .int .i64 (rnPlace s)]) ∧ w = w' := by
  have hF : rnF s = (rnI s) := by simp [rnF, n1, n2]
  have hM : runEnd digB s (rnI s) = rnM s := by rw [rnM, hF]
  have lF := rnF_le s; have lM := rnM_le s; have lE := rnE_le s; have lI := rnI_le s
  have hW : rnW s = s.extract (rnI s) (rnM s) := by rw [rnW, hF]
  have zW := size_W s
  have hE : rnE s = rnM s := by rw [rnE, if_neg (by rw [n3]; decide)]
  have hB : rnB s = ⟨#[]⟩ := by rw [rnB, if_neg (by rw [n3]; decide)]
  have zB : (rnB s).size = 0 := by rw [hB]; rfl
  rw [hF] at zW lF lM
  have C1 : Hid (∀ W, Calls Tryz.prog 152 #[.string s, .int .i64 (rnI s : Int)] W fun e w' => e = .returned (.int .i64 (rnM s : Int)) ∧ W = w') := Lib.hid (fun W => by have := run_any s (rnI s) W hs (by omega); rw [hM] at this; exact this)
  have CC := fun W => value_any (rnW s) (rnB s) W (by omega) (by omega) (dig_W s) (dig_B s)
  have HB : Hid (∀ (j : Nat) (h : j < s.size), j < rnI s → blnB (s[j].toNat : Int) = true) := Lib.hid (fun j h hj => runEnd_all blnB s 0 (by omega) j h (by omega) hj)
  have hnb := blankOut s (rnI s) hIlt rfl
  have c45 := (atB_in (c := 45) hIlt).trans n1
  have c43 := (atB_in (c := 43) hIlt).trans n2
  by_cases hem : (rnW s).size + (rnB s).size = 0
  · obtain ⟨gx, hgx⟩ : ∃ gx : Int, gx = gotN (capB (mill (rnW s) (rnB s))) (mill (rnW s) (rnB s) : Int) := ⟨_, rfl⟩
    obtain ⟨gb, hgb⟩ : ∃ gb : Bool, gb = capB (mill (rnW s) (rnB s)) := ⟨_, rfl⟩
    have CC' : Hid (∀ W, Calls Tryz.prog 153 #[.string (s.extract (rnI s) (rnM s)), .string (ByteArray.mk #[])] W fun e w' => e = .returned (.tuple #[.int .i64 gx, .bool gb]) ∧ W = w') := Lib.hid (fun W => by have := CC W; rw [← hgx, ← hgb, hW, hB] at this; exact this)
    exact (rnS_nin_qend_empty s (rnI s) (rnM s) gx gb w hs (by omega) (by omega) HB hIlt hnb c45 c43 hMge C1  CC' (by omega)).mono fun e w' ⟨he, hb⟩ => ⟨he.trans (ret_two2 (rn_no (rn_none hem)).1.symm (rn_no (rn_none hem)).2.symm), hb⟩
  · by_cases hfar : 60 < rnE s
    · obtain ⟨gx, hgx⟩ : ∃ gx : Int, gx = gotN (capB (mill (rnW s) (rnB s))) (mill (rnW s) (rnB s) : Int) := ⟨_, rfl⟩
      obtain ⟨gb, hgb⟩ : ∃ gb : Bool, gb = capB (mill (rnW s) (rnB s)) := ⟨_, rfl⟩
      have CC' : Hid (∀ W, Calls Tryz.prog 153 #[.string (s.extract (rnI s) (rnM s)), .string (ByteArray.mk #[])] W fun e w' => e = .returned (.tuple #[.int .i64 gx, .bool gb]) ∧ W = w') := Lib.hid (fun W => by have := CC W; rw [← hgx, ← hgb, hW, hB] at this; exact this)
      exact (rnS_nin_qend_far s (rnI s) (rnM s) gx gb w hs (by omega) (by omega) HB hIlt hnb c45 c43 hMge C1  CC' (by omega) (by omega)).mono fun e w' ⟨he, hb⟩ => ⟨he.trans (ret_two2 (rn_no (rn_far hfar)).1.symm (rn_no (rn_far hfar)).2.symm), hb⟩
    · cases hc : capB (mill (rnW s) (rnB s))
      · have CC' : Hid (∀ W, Calls Tryz.prog 153 #[.string (s.extract (rnI s) (rnM s)), .string (ByteArray.mk #[])] W fun e w' => e = .returned (.tuple #[.int .i64 0, .bool false]) ∧ W = w') := Lib.hid (fun W => by have := CC W; rw [hc, gotN_no rfl, hW, hB] at this; exact this)
        exact (rnS_nin_qend_great s (rnI s) (rnM s) w hs (by omega) (by omega) HB hIlt hnb c45 c43 hMge C1  CC' (by omega) (by omega)).mono fun e w' ⟨he, hb⟩ => ⟨he.trans (ret_two2 (rn_no (rn_great hc)).1.symm (rn_no (rn_great hc)).2.symm), hb⟩
      · have hyes := rn_yes (by omega) hem hc
        obtain ⟨v, hv⟩ : ∃ v : Nat, v = mill (rnW s) (rnB s) := ⟨_, rfl⟩
        have CC' : Hid (∀ W, Calls Tryz.prog 153 #[.string (s.extract (rnI s) (rnM s)), .string (ByteArray.mk #[])] W fun e w' => e = .returned (.tuple #[.int .i64 (v : Int), .bool true]) ∧ W = w') := Lib.hid (fun W => by have := CC W; rw [hc, gotN_yes rfl, ← hv, hW, hB] at this; exact this)
        rw [← hv, n1] at hyes
        exact (rnS_nin_qend_yes s (rnI s) (rnM s) v w hs (by omega) (by omega) HB hIlt hnb c45 c43 hMge C1  CC' (by rw [hv]; exact cap_le hc) (by omega) (by omega)).mono fun e w' ⟨he, hb⟩ => ⟨he.trans (ret_two2 hyes.1.symm (by rw [hyes.2, hE])), hb⟩

theorem asS_nend_qend (s : ByteArray) (w : World) (hs : s.size ≤ 1048576) (n1 : atB s (rnI s) 45 = false) (n2 : atB s (rnI s) 43 = false) (n3 : atB s (rnM s) 46 = false) (hIlt : s.size ≤ rnI s) (hMge : s.size ≤ rnM s) :
    Calls Tryz.prog 121 #[.string s] w fun e w' => e = .returned (.tuple #[.int .i64 (rnNum s), .int .i64 (rnPlace s)]) ∧ w = w' := by
  have hF : rnF s = (rnI s) := by simp [rnF, n1, n2]
  have hM : runEnd digB s (rnI s) = rnM s := by rw [rnM, hF]
  have lF := rnF_le s; have lM := rnM_le s; have lE := rnE_le s; have lI := rnI_le s
  have hW : rnW s = s.extract (rnI s) (rnM s) := by rw [rnW, hF]
  have zW := size_W s
  have hE : rnE s = rnM s := by rw [rnE, if_neg (by rw [n3]; decide)]
  have hB : rnB s = ⟨#[]⟩ := by rw [rnB, if_neg (by rw [n3]; decide)]
  have zB : (rnB s).size = 0 := by rw [hB]; rfl
  rw [hF] at zW lF lM
  have C1 : Hid (∀ W, Calls Tryz.prog 152 #[.string s, .int .i64 (rnI s : Int)] W fun e w' => e = .returned (.int .i64 (rnM s : Int)) ∧ W = w') := Lib.hid (fun W => by have := run_any s (rnI s) W hs (by omega); rw [hM] at this; exact this)
  have CC := fun W => value_any (rnW s) (rnB s) W (by omega) (by omega) (dig_W s) (dig_B s)
  have HB : Hid (∀ (j : Nat) (h : j < s.size), j < rnI s → blnB (s[j].toNat : Int) = true) := Lib.hid (fun j h hj => runEnd_all blnB s 0 (by omega) j h (by omega) hj)
  by_cases hem : (rnW s).size + (rnB s).size = 0
  · obtain ⟨gx, hgx⟩ : ∃ gx : Int, gx = gotN (capB (mill (rnW s) (rnB s))) (mill (rnW s) (rnB s) : Int) := ⟨_, rfl⟩
    obtain ⟨gb, hgb⟩ : ∃ gb : Bool, gb = capB (mill (rnW s) (rnB s)) := ⟨_, rfl⟩
    have CC' : Hid (∀ W, Calls Tryz.prog 153 #[.string (s.extract (rnI s) (rnM s)), .string (ByteArray.mk #[])] W fun e w' => e = .returned (.tuple #[.int .i64 gx, .bool gb]) ∧ W = w') := Lib.hid (fun W => by have := CC W; rw [← hgx, ← hgb, hW, hB] at this; exact this)
    exact (rnS_nend_qend_empty s (rnI s) (rnM s) gx gb w hs (by omega) (by omega) HB lI hIlt hMge C1  CC' (by omega)).mono fun e w' ⟨he, hb⟩ => ⟨he.trans (ret_two2 (rn_no (rn_none hem)).1.symm (rn_no (rn_none hem)).2.symm), hb⟩
  · by_cases hfar : 60 < rnE s
    · obtain ⟨gx, hgx⟩ : ∃ gx : Int, gx = gotN (capB (mill (rnW s) (rnB s))) (mill (rnW s) (rnB s) : Int) := ⟨_, rfl⟩
      obtain ⟨gb, hgb⟩ : ∃ gb : Bool, gb = capB (mill (rnW s) (rnB s)) := ⟨_, rfl⟩
      have CC' : Hid (∀ W, Calls Tryz.prog 153 #[.string (s.extract (rnI s) (rnM s)), .string (ByteArray.mk #[])] W fun e w' => e = .returned (.tuple #[.int .i64 gx, .bool gb]) ∧ W = w') := Lib.hid (fun W => by have := CC W; rw [← hgx, ← hgb, hW, hB] at this; exact this)
      exact (rnS_nend_qend_far s (rnI s) (rnM s) gx gb w hs (by omega) (by omega) HB lI hIlt hMge C1  CC' (by omega) (by omega)).mono fun e w' ⟨he, hb⟩ => ⟨he.trans (ret_two2 (rn_no (rn_far hfar)).1.symm (rn_no (rn_far hfar)).2.symm), hb⟩
    · cases hc : capB (mill (rnW s) (rnB s))
      · have CC' : Hid (∀ W, Calls Tryz.prog 153 #[.string (s.extract (rnI s) (rnM s)), .string (ByteArray.mk #[])] W fun e w' => e = .returned (.tuple #[.int .i64 0, .bool false]) ∧ W = w') := Lib.hid (fun W => by have := CC W; rw [hc, gotN_no rfl, hW, hB] at this; exact this)
        exact (rnS_nend_qend_great s (rnI s) (rnM s) w hs (by omega) (by omega) HB lI hIlt hMge C1  CC' (by omega) (by omega)).mono fun e w' ⟨he, hb⟩ => ⟨he.trans (ret_two2 (rn_no (rn_great hc)).1.symm (rn_no (rn_great hc)).2.symm), hb⟩
      · have hyes := rn_yes (by omega) hem hc
        obtain ⟨v, hv⟩ : ∃ v : Nat, v = mill (rnW s) (rnB s) := ⟨_, rfl⟩
        have CC' : Hid (∀ W, Calls Tryz.prog 153 #[.string (s.extract (rnI s) (rnM s)), .string (ByteArray.mk #[])] W fun e w' => e = .returned (.tuple #[.int .i64 (v : Int), .bool true]) ∧ W = w') := Lib.hid (fun W => by have := CC W; rw [hc, gotN_yes rfl, ← hv, hW, hB] at this; exact this)
        rw [← hv, n1] at hyes
        exact (rnS_nend_qend_yes s (rnI s) (rnM s) v w hs (by omega) (by omega) HB lI hIlt hMge C1  CC' (by rw [hv]; exact cap_le hc) (by omega) (by omega)).mono fun e w' ⟨he, hb⟩ => ⟨he.trans (ret_two2 hyes.1.symm (by rw [hyes.2, hE])), hb⟩

theorem implRn_any (s : ByteArray) (w : World) (hs : s.size ≤ 1048576) :
    Calls Tryz.prog 23 #[.string s] w fun e w' => e = .returned (.tuple #[.int .i64 (rnNum s), .int .i64 (rnPlace s)]) ∧ Below w.heap.size w w' := by
  cases n1 : atB s (rnI s) 45
  · cases n2 : atB s (rnI s) 43
    · cases n3 : atB s (rnM s) 46
      · exact asI_none_q s w hs n1 n2 n3
      · exact asI_none_p s w hs n1 n2 n3
    · cases n3 : atB s (rnM s) 46
      · exact asI_plus_q s w hs n1 n2 n3
      · exact asI_plus_p s w hs n1 n2 n3
  · have n2 := atB_not n1
    cases n3 : atB s (rnM s) 46
    · exact asI_neg_q s w hs n1 n2 n3
    · exact asI_neg_p s w hs n1 n2 n3
theorem specRn_any (s : ByteArray) (w : World) (hs : s.size ≤ 1048576) :
    Calls Tryz.prog 121 #[.string s] w fun e w' => e = .returned (.tuple #[.int .i64 (rnNum s), .int .i64 (rnPlace s)]) ∧ w = w' := by
  by_cases hI : rnI s < s.size
  · cases n1 : atB s (rnI s) 45
    · cases n2 : atB s (rnI s) 43
      · cases n3 : atB s (rnM s) 46
        · by_cases hM : rnM s < s.size
          · exact asS_nin_qin s w hs n1 n2 n3 hI hM
          · exact asS_nin_qend s w hs n1 n2 n3 hI (by omega)
        · exact asS_nin_p s w hs n1 n2 n3 hI
      · cases n3 : atB s (rnM s) 46
        · by_cases hM : rnM s < s.size
          · exact asS_plus_qin s w hs n1 n2 n3 hI hM
          · exact asS_plus_qend s w hs n1 n2 n3 hI (by omega)
        · exact asS_plus_p s w hs n1 n2 n3 hI
    · have n2 := atB_not n1
      cases n3 : atB s (rnM s) 46
      · by_cases hM : rnM s < s.size
        · exact asS_neg_qin s w hs n1 n2 n3 hI hM
        · exact asS_neg_qend s w hs n1 n2 n3 hI (by omega)
      · exact asS_neg_p s w hs n1 n2 n3 hI
  · have l1 := rnI_le s
    have l2 := rnF_le s
    have l3 := rnM_le s
    exact asS_nend_qend s w hs (atB_end (by omega)) (atB_end (by omega)) (atB_end (by omega)) (by omega) (by omega)
end Go.Proofs.YthffjcclcladoaaGreatDoor.kit
/-
  Contracts of LooksNum of both sides over this seat's translation: for every text both answer alike. Conditions: the text has at most a million bytes (1048576).
-/
namespace Go.Proofs.YthffjcclcladoaaGreatDoor.kit
open Go.ChangeShapes Go.WideShapes Go.ChangeAt Go.RowKit
set_option linter.unusedVariables false

def rnP (s : ByteArray) : Nat := if rnG s then rnE s else 0
theorem rnPlace_eq (s : ByteArray) : rnPlace s = (rnP s : Int) := by unfold rnPlace rnP; split <;> rfl
theorem rnP_le (s : ByteArray) : rnP s ≤ s.size := by
  have := rnE_le s
  unfold rnP; split <;> omega
def lkB (s : ByteArray) : Bool := decide (0 < rnP s) && decide (runEnd blnB s (rnP s) = s.size)
set_option maxHeartbeats 1000000 in
theorem specLn_any (s : ByteArray) (w : World) (hs : s.size ≤ 1048576) :
    Calls Tryz.prog 120 #[.string s] w fun e w' => e = .returned (.bool (lkB s)) ∧ w = w' := by
  have C := fun W => specRn_any s W hs
  rw [rnPlace_eq] at C
  have hP := rnP_le s
  have E0 : Hid (lkB s = (decide (0 < rnP s) && decide (runEnd blnB s (rnP s) = s.size))) := Lib.hid rfl
  obtain ⟨P, hPP⟩ : ∃ P : Nat, P = rnP s := ⟨_, rfl⟩
  rw [← hPP] at C hP E0
  obtain ⟨R, hR⟩ : ∃ R : Nat, R = runEnd blnB s P := ⟨_, rfl⟩
  have lR := runEnd_le blnB s P hP
  rw [← hR] at lR E0
  obtain ⟨lR1, lR2⟩ := lR
  have HC := Lib.hid C
  have HR := Lib.hid hR
  clear C hPP hR
  generalize rnNum s = x at HC
  by_cases h0 : P = 0
  · have E := Lib.hid (show lkB s = false by rw [E0.out]; simp [h0])
    have h0' : ((P : Int) == 0) = true := by simpa using h0
    clear h0
    go_enter Tryz.func120, Tryz.ntmps120
    go_wp2_with (go_at_call 121; refine (HC.out _).mono ?_; rintro e w' ⟨rfl, rfl⟩)
    go_ret
    exact ⟨ret_bool E.out.symm, rfl⟩
  · have h0' : ((P : Int) == 0) = false := by simpa using h0
    have hpos : 0 < P := by omega
    clear h0
    go_enter Tryz.func120, Tryz.ntmps120
    go_wp2_with (go_at_call 121; refine (HC.out _).mono ?_; rintro e w' ⟨rfl, rfl⟩)
    go_loop [4] (fun v => ∃ k : Nat, k ≤ s.size ∧ v = .int .i64 k ∧ runEnd blnB s k = R) (fun v => s.size - (intOf v).toNat)
    case atStart => exact ⟨P, hP, rfl, HR.out.symm⟩
    case round =>
      obtain ⟨k, hk, rfl, hr⟩ := hrel
      have HK := Lib.hid hr; clear hr
      by_cases hlt : k < s.size
      · have hb : s[k].toNat < 256 := s[k].toNat_lt
        cases a1 : blnB s[k].toNat
        · have E1 := runEnd_out hlt a1
          have E := Lib.hid (show lkB s = false by rw [E0.out]; have := HK.out; simp; omega)
          have hne : ((k : Int) == (s.size : Int)) = false := by simp; omega
          have hne2 : (k == s.size) = false := by simp; omega
          clear E1
          go_wp2_with (go_at_call 151; refine (space_any _ _).mono ?_; rintro e w' ⟨rfl, rfl⟩)
          go_ret
          exact ⟨ret_bool E.out.symm, rfl⟩
        · have E := Lib.hid (runEnd_in hlt a1)
          go_wp2_with (go_at_call 151; refine (space_any _ _).mono ?_; rintro e w' ⟨rfl, rfl⟩)
          go_round
          case rel => exact ⟨k + 1, by omega, by go_num, E.out.trans HK.out⟩
          case measure => simp [intOf]; omega
      · have E1 := runEnd_end (p := blnB) (s := s) (i := k) (by omega)
        have E := Lib.hid (show lkB s = true by rw [E0.out]; have := HK.out; simp; omega)
        have hne : ((k : Int) == (s.size : Int)) = true := by simp; omega
        have hne2 : (k == s.size) = true := by simp; omega
        clear E1
        go_wp2_with fail
        go_ret
        exact ⟨ret_bool E.out.symm, rfl⟩
end Go.Proofs.YthffjcclcladoaaGreatDoor.kit
