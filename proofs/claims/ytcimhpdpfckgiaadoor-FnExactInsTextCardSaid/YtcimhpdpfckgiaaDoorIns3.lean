/-
  Contract of spec.InsText over this seat's translation. Conditions: the step's texts have at most 1048576 bytes.
-/
import Derived.Test.YtcimhpdpfckgiaaDoorIns2
namespace Go.Proofs.YtcimhpdpfckgiaaDoor.kit
open Go.ChangeShapes Go.WideShapes Go.ChangeAt Go.RowKit
set_option linter.unusedVariables false
set_option linter.unusedSimpArgs false

theorem apS (a b c : ByteArray) : a ++ b ++ c = a ++ (b ++ c) := ByteArray.append_assoc
theorem apN (a : ByteArray) : a ++ (⟨#[]⟩ : ByteArray) = a := ByteArray.append_empty
/-- The words, as they lie in the model's row. -/
def wordsA : Array Value := #[.string ⟨#[110, 117, 109]⟩, .string ⟨#[115, 116, 114]⟩, .string ⟨#[114, 101]⟩, .string ⟨#[108, 111, 97, 100]⟩, .string ⟨#[115, 101, 116]⟩, .string ⟨#[115, 116, 101, 112]⟩, .string ⟨#[112, 111, 112]⟩, .string ⟨#[106, 117, 109, 112]⟩, .string ⟨#[122, 101, 114, 111]⟩, .string ⟨#[98, 111, 111, 108]⟩, .string ⟨#[105, 110]⟩, .string ⟨#[116, 119, 111]⟩, .string ⟨#[110, 111, 116]⟩, .string ⟨#[110, 101, 103]⟩, .string ⟨#[99, 97, 108, 108]⟩, .string ⟨#[115, 112, 108, 105, 116]⟩, .string ⟨#[115, 117, 98]⟩, .string ⟨#[112, 114, 105, 110, 116]⟩, .string ⟨#[102, 111, 114, 109]⟩, .string ⟨#[107, 101, 121, 115]⟩, .string ⟨#[107, 101, 121]⟩, .string ⟨#[100, 101, 108]⟩, .string ⟨#[110, 101, 120, 116]⟩, .string ⟨#[101, 120, 105, 116]⟩]
theorem wordsA_at (k : Nat) (h : k < 24) : wordsA[k]? = some (.string (opW k)) := by
  have e : wordsA = (opL.map cS).toArray := rfl
  rw [e, List.getElem?_toArray]
  exact opL_at k h
theorem ins_word (w : World) (A : Obj) (k : Nat) (h : k < 24) : ((w.alloc A).alloc (.cells wordsA 9)).cell? ⟨w.heap.size + 1, k, none⟩ = some (.string (opW k)) := by
  have q := World.cell?_alloc_new (w := w.alloc A) wordsA 9 k
  rw [show (w.alloc A).heap.size = w.heap.size + 1 by simp] at q
  rw [q, wordsA_at k h]
theorem ins_box (w : World) (C : Array Value) (t : TypeId) (B : Obj) (j : Nat) : ((w.alloc (.cells C t)).alloc B).cell? ⟨w.heap.size, j, none⟩ = C[j]? := by
  have h := World.cell?_alloc_old (w := w.alloc (.cells C t)) (o := B) (a := ⟨w.heap.size, j, none⟩) (by simp)
  rw [h]
  exact World.cell?_alloc_new (w := w) C t j
theorem ins_below (w : World) (A B : Obj) : Below w.heap.size w ((w.alloc A).alloc B) := ((Below.refl _ _).alloc (Nat.le_refl _) _).alloc (by simp) _
/-- What the model's walk knows behind its first question. -/
structure InsW (w : World) (k : Nat) (n kd : Int) (s nm : ByteArray) (W : World) : Prop where
  below : Below w.heap.size w W
  c0 : W.cell? ⟨w.heap.size, 0, none⟩ = some (.int .i64 (k : Int))
  c1 : W.cell? ⟨w.heap.size, 1, none⟩ = some (.int .i64 n)
  c3 : W.cell? ⟨w.heap.size, 3, none⟩ = some (.string s)
  c4 : W.cell? ⟨w.heap.size, 4, none⟩ = some (.string nm)
  cw : W.cell? ⟨w.heap.size + 1, k, none⟩ = some (.string (opW k))
theorem insW_new (w : World) (k : Nat) (n kd : Int) (s nm : ByteArray) (t : TypeId) (h : k < 24) : InsW w k n kd s nm ((w.alloc (.cells #[.int .i64 (k : Int), .int .i64 n, .int .i64 kd, .string s, .string nm] t)).alloc (.cells wordsA 9)) :=
  ⟨ins_below _ _ _, ins_box _ _ _ _ _, ins_box _ _ _ _ _, ins_box _ _ _ _ _, ins_box _ _ _ _ _, ins_word _ _ _ h⟩
theorem itoa_pos (n : Int) : (⟨(Lib.itoa n).toArray⟩ : ByteArray).size ≠ 0 := by
  show (Lib.itoa n).toArray.size ≠ 0
  rw [List.size_toArray]
  intro h
  have h2 := List.length_eq_zero_iff.1 h
  unfold Lib.itoa at h2
  split at h2
  · cases h2
  · rw [Lib.decDigits] at h2
    split at h2 <;> simp at h2
set_option maxRecDepth 100000 in
set_option maxHeartbeats 2000000 in
theorem specIns_any (t : InD) (w : World) (hs : insCost t ≤ 1048576) (h1 : -9223372036854775808 ≤ t.n) (h2 : t.n ≤ 9223372036854775807) :
    Calls Tryd.prog 5 #[t.v] w fun e w' => e = .returned (.string (insZ t)) ∧ Below w.heap.size w w' := by
  obtain ⟨op, n, kd, s, nm⟩ := t
  unfold insCost at hs
  simp only at hs h1 h2
  have hs1 : s.size ≤ 1048576 := by omega
  have hs2 : nm.size ≤ 1048576 := by omega
  have HI := Lib.hid (fun W => in_any op 0 23 W)
  by_cases c : 0 ≤ op ∧ op < 24
  · rw [show inB op 0 23 = true by simp [inB]; omega] at HI
    obtain ⟨k, rfl⟩ : ∃ k : Nat, op = (k : Int) := ⟨op.toNat, by omega⟩
    have hk : k < 24 := by omega
    have hsz := opW_short k
    by_cases c0 : k = 0
    · subst c0
      have E : Hid (insZ ⟨(0 : Nat), n, kd, s, nm⟩ = (opW 0 ++ ⟨#[32]⟩) ++ ntA n) := Lib.hid (by simp [insZ])
      have HC := Lib.hid (fun W => specNt_any n W)
      have hz := ntA_le30 n
      generalize insZ ⟨(0 : Nat), n, kd, s, nm⟩ = z at *
      unfold InD.v
      go_enter Tryd.func5, Tryd.ntmps5
      go_wp2_with fail
      refine (HI.out _).mono ?_
      rintro e w1 ⟨rfl, hw⟩
      have HW : Hid (InsW w 0 n kd s nm w1) := Lib.hid (by rw [← hw]; exact insW_new w 0 n kd s nm _ (by omega))
      clear hw
      obtain ⟨_, c0', c1', c3', c4', cw'⟩ := HW.out
      go_wp2_with fail
      refine (HC.out _).mono ?_
      rintro e w2 ⟨rfl, rfl⟩
      go_wp2_with fail
      go_ret
      exact ⟨by rw [E.out, apS]; rfl, HW.out.below⟩
    by_cases c1 : k = 1
    · subst c1
      have E : Hid (insZ ⟨(1 : Nat), n, kd, s, nm⟩ = (opW 1 ++ ⟨#[32]⟩) ++ ⟨(qbs s.data.toList ++ [34]).toArray⟩) := Lib.hid (by simp [insZ])
      have HC := Lib.hid (fun W => specQuote_any s W hs1)
      have hz : (⟨(qbs s.data.toList ++ [34]).toArray⟩ : ByteArray).size ≤ 4194307 := quZ_le s hs1
      generalize (⟨(qbs s.data.toList ++ [34]).toArray⟩ : ByteArray) = q at *
      generalize insZ ⟨(1 : Nat), n, kd, s, nm⟩ = z at *
      unfold InD.v
      go_enter Tryd.func5, Tryd.ntmps5
      go_wp2_with fail
      refine (HI.out _).mono ?_
      rintro e w1 ⟨rfl, hw⟩
      have HW : Hid (InsW w 1 n kd s nm w1) := Lib.hid (by rw [← hw]; exact insW_new w 1 n kd s nm _ (by omega))
      clear hw
      obtain ⟨_, c0', c1', c3', c4', cw'⟩ := HW.out
      go_wp2_with fail
      refine (HC.out _).mono ?_
      rintro e w2 ⟨rfl, hb2⟩
      go_wp2_with fail
      go_ret
      exact ⟨by rw [E.out, apS]; rfl, HW.out.below.trans (hb2.mono HW.out.below.size)⟩
    by_cases c2 : k = 2
    · subst c2
      have E : Hid (insZ ⟨(2 : Nat), n, kd, s, nm⟩ = (opW 2 ++ ⟨#[32]⟩) ++ ((⟨#[47]⟩ ++ s) ++ ⟨#[47]⟩)) := Lib.hid (by simp [insZ])
      generalize insZ ⟨(2 : Nat), n, kd, s, nm⟩ = z at *
      unfold InD.v
      go_enter Tryd.func5, Tryd.ntmps5
      go_wp2_with fail
      refine (HI.out _).mono ?_
      rintro e w1 ⟨rfl, hw⟩
      have HW : Hid (InsW w 2 n kd s nm w1) := Lib.hid (by rw [← hw]; exact insW_new w 2 n kd s nm _ (by omega))
      clear hw
      obtain ⟨_, c0', c1', c3', c4', cw'⟩ := HW.out
      go_wp2_with fail
      go_ret
      exact ⟨by rw [E.out]; simp only [apS]; rfl, HW.out.below⟩
    have E : Hid (insZ ⟨(k : Nat), n, kd, s, nm⟩ = ((opW k ++ baZ s) ++ baZ nm) ++ baZ (manyZ n)) := Lib.hid (by
      have g0 : ¬ ((k : Int) = 0) := by omega
      have g1 : ¬ ((k : Int) = 1) := by omega
      have g2 : ¬ ((k : Int) = 2) := by omega
      unfold insZ
      simp only [if_pos c, if_neg g0, if_neg g1, if_neg g2, Int.toNat_natCast])
    have b0 : ((k : Int) == 0) = false := by simpa using c0
    have b1 : ((k : Int) == 1) = false := by simp only [beq_eq_false_iff_ne, ne_eq]; omega
    have b2 : ((k : Int) == 2) = false := by simp only [beq_eq_false_iff_ne, ne_eq]; omega
    generalize insZ ⟨(k : Nat), n, kd, s, nm⟩ = z at *
    by_cases ha : s.size = 0
    · by_cases hb : nm.size = 0
      · by_cases hd : n = 0
        · have E1 : baZ s = ⟨#[]⟩ := if_pos ha
          have E2 : baZ nm = ⟨#[]⟩ := if_pos hb
          rw [E1, E2] at E
          clear E1 E2
          obtain rfl := nil_of ha
          obtain rfl := nil_of hb
          subst hd
          rw [show manyZ 0 = ⟨#[]⟩ from if_pos rfl, show baZ ⟨#[]⟩ = ⟨#[]⟩ from if_pos rfl] at E
          clear c0 c1 c2 c
          unfold InD.v
          go_enter Tryd.func5, Tryd.ntmps5
          go_wp2_with fail
          refine (HI.out _).mono ?_
          rintro e w1 ⟨rfl, hw⟩
          have HW : Hid (InsW w k 0 kd ⟨#[]⟩ ⟨#[]⟩ w1) := Lib.hid (by rw [← hw]; exact insW_new w k 0 kd ⟨#[]⟩ ⟨#[]⟩ _ (by omega))
          clear hw
          obtain ⟨_, c0', c1', c3', c4', cw'⟩ := HW.out
          generalize opW k = yk at *
          go_wp2_with fail
          go_ret
          exact ⟨by rw [E.out]; simp only [apS, apN]; rfl, HW.out.below⟩
        · have E1 : baZ s = ⟨#[]⟩ := if_pos ha
          have E2 : baZ nm = ⟨#[]⟩ := if_pos hb
          rw [E1, E2] at E
          clear E1 E2
          obtain rfl := nil_of ha
          obtain rfl := nil_of hb
          have bn : (n == 0) = false := by simpa using hd
          have HD := Lib.hid (fun W => specDec_any n W h1 h2)
          rw [show manyZ n = ⟨(Lib.itoa n).toArray⟩ from if_neg hd] at E
          have hit : (⟨(Lib.itoa n).toArray⟩ : ByteArray).size ≤ 21 := Lib.itoa_length_le _ (by omega) (by omega)
          have hi0 : (⟨(Lib.itoa n).toArray⟩ : ByteArray).size ≠ 0 := itoa_pos n
          generalize (⟨(Lib.itoa n).toArray⟩ : ByteArray) = it at *
          rw [show baZ it = ⟨#[32]⟩ ++ it from if_neg hi0] at E
          clear c0 c1 c2 c
          unfold InD.v
          go_enter Tryd.func5, Tryd.ntmps5
          go_wp2_with fail
          refine (HI.out _).mono ?_
          rintro e w1 ⟨rfl, hw⟩
          have HW : Hid (InsW w k n kd ⟨#[]⟩ ⟨#[]⟩ w1) := Lib.hid (by rw [← hw]; exact insW_new w k n kd ⟨#[]⟩ ⟨#[]⟩ _ (by omega))
          clear hw
          obtain ⟨_, c0', c1', c3', c4', cw'⟩ := HW.out
          generalize opW k = yk at *
          go_wp2_with fail
          refine (HD.out _).mono ?_
          rintro e w2 ⟨rfl, rfl⟩
          go_wp2_with fail
          go_ret
          exact ⟨by rw [E.out]; simp only [apS, apN]; rfl, HW.out.below⟩
      · by_cases hd : n = 0
        · have e2 := not_empty_of_size hb
          have E1 : baZ s = ⟨#[]⟩ := if_pos ha
          have E2 : baZ nm = ⟨#[32]⟩ ++ nm := if_neg hb
          rw [E1, E2] at E
          clear E1 E2
          obtain rfl := nil_of ha
          subst hd
          rw [show manyZ 0 = ⟨#[]⟩ from if_pos rfl, show baZ ⟨#[]⟩ = ⟨#[]⟩ from if_pos rfl] at E
          clear c0 c1 c2 c
          unfold InD.v
          go_enter Tryd.func5, Tryd.ntmps5
          go_wp2_with fail
          refine (HI.out _).mono ?_
          rintro e w1 ⟨rfl, hw⟩
          have HW : Hid (InsW w k 0 kd ⟨#[]⟩ nm w1) := Lib.hid (by rw [← hw]; exact insW_new w k 0 kd ⟨#[]⟩ nm _ (by omega))
          clear hw
          obtain ⟨_, c0', c1', c3', c4', cw'⟩ := HW.out
          generalize opW k = yk at *
          go_wp2_with fail
          go_ret
          exact ⟨by rw [E.out]; simp only [apS, apN]; rfl, HW.out.below⟩
        · have e2 := not_empty_of_size hb
          have E1 : baZ s = ⟨#[]⟩ := if_pos ha
          have E2 : baZ nm = ⟨#[32]⟩ ++ nm := if_neg hb
          rw [E1, E2] at E
          clear E1 E2
          obtain rfl := nil_of ha
          have bn : (n == 0) = false := by simpa using hd
          have HD := Lib.hid (fun W => specDec_any n W h1 h2)
          rw [show manyZ n = ⟨(Lib.itoa n).toArray⟩ from if_neg hd] at E
          have hit : (⟨(Lib.itoa n).toArray⟩ : ByteArray).size ≤ 21 := Lib.itoa_length_le _ (by omega) (by omega)
          have hi0 : (⟨(Lib.itoa n).toArray⟩ : ByteArray).size ≠ 0 := itoa_pos n
          generalize (⟨(Lib.itoa n).toArray⟩ : ByteArray) = it at *
          rw [show baZ it = ⟨#[32]⟩ ++ it from if_neg hi0] at E
          clear c0 c1 c2 c
          unfold InD.v
          go_enter Tryd.func5, Tryd.ntmps5
          go_wp2_with fail
          refine (HI.out _).mono ?_
          rintro e w1 ⟨rfl, hw⟩
          have HW : Hid (InsW w k n kd ⟨#[]⟩ nm w1) := Lib.hid (by rw [← hw]; exact insW_new w k n kd ⟨#[]⟩ nm _ (by omega))
          clear hw
          obtain ⟨_, c0', c1', c3', c4', cw'⟩ := HW.out
          generalize opW k = yk at *
          go_wp2_with fail
          refine (HD.out _).mono ?_
          rintro e w2 ⟨rfl, rfl⟩
          go_wp2_with fail
          go_ret
          exact ⟨by rw [E.out]; simp only [apS, apN]; rfl, HW.out.below⟩
    · by_cases hb : nm.size = 0
      · by_cases hd : n = 0
        · have e1 := not_empty_of_size ha
          have E1 : baZ s = ⟨#[32]⟩ ++ s := if_neg ha
          have E2 : baZ nm = ⟨#[]⟩ := if_pos hb
          rw [E1, E2] at E
          clear E1 E2
          obtain rfl := nil_of hb
          subst hd
          rw [show manyZ 0 = ⟨#[]⟩ from if_pos rfl, show baZ ⟨#[]⟩ = ⟨#[]⟩ from if_pos rfl] at E
          clear c0 c1 c2 c
          unfold InD.v
          go_enter Tryd.func5, Tryd.ntmps5
          go_wp2_with fail
          refine (HI.out _).mono ?_
          rintro e w1 ⟨rfl, hw⟩
          have HW : Hid (InsW w k 0 kd s ⟨#[]⟩ w1) := Lib.hid (by rw [← hw]; exact insW_new w k 0 kd s ⟨#[]⟩ _ (by omega))
          clear hw
          obtain ⟨_, c0', c1', c3', c4', cw'⟩ := HW.out
          generalize opW k = yk at *
          go_wp2_with fail
          go_ret
          exact ⟨by rw [E.out]; simp only [apS, apN]; rfl, HW.out.below⟩
        · have e1 := not_empty_of_size ha
          have E1 : baZ s = ⟨#[32]⟩ ++ s := if_neg ha
          have E2 : baZ nm = ⟨#[]⟩ := if_pos hb
          rw [E1, E2] at E
          clear E1 E2
          obtain rfl := nil_of hb
          have bn : (n == 0) = false := by simpa using hd
          have HD := Lib.hid (fun W => specDec_any n W h1 h2)
          rw [show manyZ n = ⟨(Lib.itoa n).toArray⟩ from if_neg hd] at E
          have hit : (⟨(Lib.itoa n).toArray⟩ : ByteArray).size ≤ 21 := Lib.itoa_length_le _ (by omega) (by omega)
          have hi0 : (⟨(Lib.itoa n).toArray⟩ : ByteArray).size ≠ 0 := itoa_pos n
          generalize (⟨(Lib.itoa n).toArray⟩ : ByteArray) = it at *
          rw [show baZ it = ⟨#[32]⟩ ++ it from if_neg hi0] at E
          clear c0 c1 c2 c
          unfold InD.v
          go_enter Tryd.func5, Tryd.ntmps5
          go_wp2_with fail
          refine (HI.out _).mono ?_
          rintro e w1 ⟨rfl, hw⟩
          have HW : Hid (InsW w k n kd s ⟨#[]⟩ w1) := Lib.hid (by rw [← hw]; exact insW_new w k n kd s ⟨#[]⟩ _ (by omega))
          clear hw
          obtain ⟨_, c0', c1', c3', c4', cw'⟩ := HW.out
          generalize opW k = yk at *
          go_wp2_with fail
          refine (HD.out _).mono ?_
          rintro e w2 ⟨rfl, rfl⟩
          go_wp2_with fail
          go_ret
          exact ⟨by rw [E.out]; simp only [apS, apN]; rfl, HW.out.below⟩
      · by_cases hd : n = 0
        · have e1 := not_empty_of_size ha
          have e2 := not_empty_of_size hb
          have E1 : baZ s = ⟨#[32]⟩ ++ s := if_neg ha
          have E2 : baZ nm = ⟨#[32]⟩ ++ nm := if_neg hb
          rw [E1, E2] at E
          clear E1 E2
          subst hd
          rw [show manyZ 0 = ⟨#[]⟩ from if_pos rfl, show baZ ⟨#[]⟩ = ⟨#[]⟩ from if_pos rfl] at E
          clear c0 c1 c2 c
          unfold InD.v
          go_enter Tryd.func5, Tryd.ntmps5
          go_wp2_with fail
          refine (HI.out _).mono ?_
          rintro e w1 ⟨rfl, hw⟩
          have HW : Hid (InsW w k 0 kd s nm w1) := Lib.hid (by rw [← hw]; exact insW_new w k 0 kd s nm _ (by omega))
          clear hw
          obtain ⟨_, c0', c1', c3', c4', cw'⟩ := HW.out
          generalize opW k = yk at *
          go_wp2_with fail
          go_ret
          exact ⟨by rw [E.out]; simp only [apS, apN]; rfl, HW.out.below⟩
        · have e1 := not_empty_of_size ha
          have e2 := not_empty_of_size hb
          have E1 : baZ s = ⟨#[32]⟩ ++ s := if_neg ha
          have E2 : baZ nm = ⟨#[32]⟩ ++ nm := if_neg hb
          rw [E1, E2] at E
          clear E1 E2
          have bn : (n == 0) = false := by simpa using hd
          have HD := Lib.hid (fun W => specDec_any n W h1 h2)
          rw [show manyZ n = ⟨(Lib.itoa n).toArray⟩ from if_neg hd] at E
          have hit : (⟨(Lib.itoa n).toArray⟩ : ByteArray).size ≤ 21 := Lib.itoa_length_le _ (by omega) (by omega)
          have hi0 : (⟨(Lib.itoa n).toArray⟩ : ByteArray).size ≠ 0 := itoa_pos n
          generalize (⟨(Lib.itoa n).toArray⟩ : ByteArray) = it at *
          rw [show baZ it = ⟨#[32]⟩ ++ it from if_neg hi0] at E
          clear c0 c1 c2 c
          unfold InD.v
          go_enter Tryd.func5, Tryd.ntmps5
          go_wp2_with fail
          refine (HI.out _).mono ?_
          rintro e w1 ⟨rfl, hw⟩
          have HW : Hid (InsW w k n kd s nm w1) := Lib.hid (by rw [← hw]; exact insW_new w k n kd s nm _ (by omega))
          clear hw
          obtain ⟨_, c0', c1', c3', c4', cw'⟩ := HW.out
          generalize opW k = yk at *
          go_wp2_with fail
          refine (HD.out _).mono ?_
          rintro e w2 ⟨rfl, rfl⟩
          go_wp2_with fail
          go_ret
          exact ⟨by rw [E.out]; simp only [apS, apN]; rfl, HW.out.below⟩
  · rw [show inB op 0 23 = false by simp [inB]; omega] at HI
    have E : Hid (insZ ⟨op, n, kd, s, nm⟩ = ⟨#[]⟩) := Lib.hid (if_neg c)
    generalize insZ ⟨op, n, kd, s, nm⟩ = z at *
    unfold InD.v
    go_enter Tryd.func5, Tryd.ntmps5
    go_wp2_with fail
    refine (HI.out _).mono ?_
    rintro e w1 ⟨rfl, hw⟩
    have hb1 : Below w.heap.size w w1 := by rw [← hw]; exact ins_below _ _ _
    clear hw
    go_wp2_with fail
    go_ret
    exact ⟨by rw [E.out]; rfl, hb1⟩
end Go.Proofs.YtcimhpdpfckgiaaDoor.kit
