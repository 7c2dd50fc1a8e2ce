/-
  Contracts of spec.l02Value and impl.countMillionths over this seat's translation: the number of digits ahead of and behind a point. Conditions: both texts are digits.
-/
import Derived.Test.YthffjcclcladoaaGreatDoorMRn0
import Derived.Test.YthffjcclcladoaaGreatDoorMInfo
import Derived.WalkLawsBesides
namespace Go.Proofs.YthffjcclcladoaaGreatDoor.kit
open Go.ChangeShapes Go.WideShapes Go.ChangeAt Go.RowKit
set_option linter.unusedVariables false

def DigAll (s : ByteArray) : Prop := ∀ (j : Nat) (h : j < s.size), digB (s[j].toNat : Int) = true
theorem digAll_mem {s : ByteArray} (h : DigAll s) : ∀ c ∈ s.data.toList, isDig c := by
  intro c hc
  obtain ⟨j, hj, rfl⟩ := List.getElem_of_mem hc
  have hj2 : j < s.size := by simpa using hj
  have := h j hj2
  simp only [digB, inB, decide_eq_true_eq] at this
  have e : s.data.toList[j] = s[j] := rfl
  rw [e]; unfold isDig; omega
theorem valN_append (a b : List UInt8) : valN (a ++ b) = valN a * 10 ^ b.length + valN b := by
  induction b using snoc_induction with
  | h0 => simp [valN]
  | hs b c ih =>
    rw [← List.append_assoc, valN_snoc, ih, valN_snoc, List.length_append, List.length_singleton, Nat.pow_succ, Nat.mul_add, ← Nat.mul_assoc, Nat.mul_comm 10 (valN a), Nat.mul_assoc (valN a), Nat.mul_comm 10 (10 ^ b.length), Nat.add_assoc]
/-- Six digits of a text, with noughts behind it. -/
def six (l : List UInt8) : List UInt8 := (l ++ [48, 48, 48, 48, 48, 48]).take 6
theorem six_length (l : List UInt8) : (six l).length = 6 := by simp [six]
theorem six_at (l : List UInt8) (k : Nat) (hk : k < 6) (h : k < (six l).length) : (six l)[k] = if h' : k < l.length then l[k] else 48 := by
  simp only [six, List.getElem_take, List.getElem_append]
  by_cases e : k < l.length
  · rw [dif_pos e, dif_pos e]
  · rw [dif_neg e, dif_neg e]
    have : ∀ j (hj : j < [48, 48, 48, 48, 48, (48 : UInt8)].length), [48, 48, 48, 48, 48, (48 : UInt8)][j] = 48 := by decide
    exact this _ _
theorem six_dig {l : List UInt8} (h : ∀ c ∈ l, isDig c) : ∀ c ∈ six l, isDig c := by
  intro c hc
  have hc' := List.mem_of_mem_take hc
  simp only [List.mem_append] at hc'
  rcases hc' with a | a
  · exact h c a
  · have : c = 48 := by simpa using a
    subst this; exact ⟨by decide, by decide⟩
/-- The number of both. -/
def mill (x y : ByteArray) : Nat := valN (x.data.toList ++ six y.data.toList)
theorem mill_big {x y : ByteArray} {k : Nat} (h : 1000000 < valN (x.data.toList.take k)) : 1000000000000 < mill x y := by
  unfold mill
  have e : x.data.toList = x.data.toList.take k ++ x.data.toList.drop k := (List.take_append_drop k _).symm
  rw [e, List.append_assoc, valN_append]
  have h1 : 10 ^ 6 ≤ 10 ^ (x.data.toList.drop k ++ six y.data.toList).length := Nat.pow_le_pow_right (by omega) (by rw [List.length_append, six_length]; omega)
  generalize 10 ^ (x.data.toList.drop k ++ six y.data.toList).length = P at *
  generalize valN (x.data.toList.take k) = v at *
  have : 1000001 * 1000000 ≤ v * P := Nat.mul_le_mul (by omega) (by omega)
  omega
theorem mill_part {x y : ByteArray} {k : Nat} (h : valN x.data.toList ≤ 1000000) (hy : ∀ c ∈ y.data.toList, isDig c) : valN (x.data.toList ++ (six y.data.toList).take k) ≤ 2000000000000 := by
  rw [valN_append]
  have hd := valN_lt ((six y.data.toList).take k) (fun c hc => six_dig hy c (List.mem_of_mem_take hc))
  have hl : ((six y.data.toList).take k).length ≤ 6 := by rw [List.length_take, six_length]; omega
  have h1 : 10 ^ ((six y.data.toList).take k).length ≤ 10 ^ 6 := Nat.pow_le_pow_right (by omega) hl
  generalize 10 ^ ((six y.data.toList).take k).length = P at *
  generalize valN ((six y.data.toList).take k) = u at *
  have : valN x.data.toList * P ≤ 1000000 * 1000000 := Nat.mul_le_mul h (by omega)
  omega
def capB (v : Nat) : Bool := decide (v ≤ 1000000000000)
theorem numB_nat (v : Nat) : numB (v : Int) = capB v := by unfold numB inB capB; congr 1; apply propext; omega

set_option maxHeartbeats 1000000 in
theorem value_any (x y : ByteArray) (w : World) (hx : x.size ≤ 1048576) (hy : y.size ≤ 1048576) (dx : DigAll x) (dy : DigAll y) :
    Calls Tryz.prog 153 #[.string x, .string y] w fun e w' => e = .returned (.tuple #[.int .i64 (gotN (capB (mill x y)) (mill x y : Int)), .bool (capB (mill x y))]) ∧ w = w' := by
  have DX := Lib.hid dx
  have DY := Lib.hid (digAll_mem dy)
  have DYb := Lib.hid dy
  clear dx dy
  go_enter Tryz.func153, Tryz.ntmps153
  go_wp2
  go_loop [6, 7] (fun n i => ∃ k : Nat, k ≤ x.size ∧ i = .int .i64 k ∧ n = .int .i64 (valN (x.data.toList.take k) : Int) ∧ valN (x.data.toList.take k) ≤ 1000000) (fun _ i => x.size - (intOf i).toNat)
  case atStart => exact ⟨0, Nat.zero_le _, rfl, by simp [valN], by simp [valN]⟩
  case round =>
    obtain ⟨k, hk, rfl, rfl, hv⟩ := hrel
    by_cases hlt : k < x.size
    · have hdg := DX.out k hlt
      have hb : 48 ≤ (x[k].toNat : Int) ∧ (x[k].toNat : Int) ≤ 57 := by simpa only [digB, inB, decide_eq_true_eq] using hdg
      obtain ⟨hb1, hb2⟩ := hb
      clear hdg
      have hst : (valN (x.data.toList.take (k + 1)) : Int) = 10 * (valN (x.data.toList.take k) : Int) + x[k].toNat - 48 := by rw [take_snoc x k hlt, valN_snoc]; omega
      by_cases hbig : 1000000 < 10 * (valN (x.data.toList.take k) : Int) + x[k].toNat - 48
      · have B := mill_big (y := y) (k := k + 1) (x := x) (by omega)
        have E := Lib.hid (show capB (mill x y) = false by simp [capB]; omega)
        clear B hst
        generalize valN (x.data.toList.take k) = v at hv hbig
        go_wp2
        go_ret2
        exact ⟨ret_two (gotN_no E.out _).symm E.out.symm, rfl⟩
      · have HS := Lib.hid hst
        have hv2 := Lib.hid (show valN (x.data.toList.take (k + 1)) ≤ 1000000 by omega)
        clear hst
        generalize valN (x.data.toList.take k) = v at hv hbig HS
        go_wp2
        go_round
        case rel => exact ⟨k + 1, by omega, by go_num, by rw [HS.out], hv2.out⟩
        case measure => simp [intOf]; omega
    · have T := Lib.hid (take_all x k (by omega))
      rw [T.out] at hv
      rw [T.out]
      have HV := Lib.hid hv
      have hz : Hid (valN x.data.toList = valN (x.data.toList ++ (six y.data.toList).take 0)) := Lib.hid (by simp)
      generalize hvx : valN x.data.toList = vx at hv
      have HX := Lib.hid hvx
      clear hvx
      go_wp2
      go_loop [6, 8] (fun n i => ∃ j : Nat, j ≤ 6 ∧ i = .int .i64 j ∧ n = .int .i64 (valN (x.data.toList ++ (six y.data.toList).take j) : Int)) (fun _ i => 6 - (intOf i).toNat)
      case atStart => exact ⟨0, by omega, rfl, by rw [← hz.out, HX.out]⟩
      case round =>
        obtain ⟨j, hj, rfl, rfl⟩ := hrel
        have hp := mill_part (k := j) HV.out DY.out
        by_cases hj6 : j < 6
        · have hs6 : j < (six y.data.toList).length := by rw [six_length]; omega
          have hst := valN_snoc (x.data.toList ++ (six y.data.toList).take j) (six y.data.toList)[j]
          rw [List.append_assoc, ← List.take_succ_eq_append_getElem hs6, six_at _ _ hj6] at hst
          by_cases hjy : j < y.size
          · have hdg := DYb.out j hjy
            have hb : 48 ≤ (y[j].toNat : Int) ∧ (y[j].toNat : Int) ≤ 57 := by simpa only [digB, inB, decide_eq_true_eq] using hdg
            obtain ⟨hb1, hb2⟩ := hb
            rw [dif_pos (by simpa using hjy)] at hst
            have hst' : (valN (x.data.toList ++ (six y.data.toList).take (j + 1)) : Int) = 10 * (valN (x.data.toList ++ (six y.data.toList).take j) : Int) + y[j].toNat - 48 := by
              rw [hst, show y.data.toList[j] = y[j] from rfl]; omega
            have HS := Lib.hid hst'
            clear hst hst' hdg hs6
            generalize valN (x.data.toList ++ (six y.data.toList).take j) = v at hp HS
            go_wp2
            go_round
            case rel => exact ⟨j + 1, by omega, by go_num, by rw [HS.out]⟩
            case measure => simp [intOf]; omega
          · rw [dif_neg (by simpa using hjy)] at hst
            have hst' : (valN (x.data.toList ++ (six y.data.toList).take (j + 1)) : Int) = 10 * (valN (x.data.toList ++ (six y.data.toList).take j) : Int) := by
              rw [hst, show (48 : UInt8).toNat = 48 from rfl]; omega
            have HS := Lib.hid hst'
            clear hst hst' hs6
            generalize valN (x.data.toList ++ (six y.data.toList).take j) = v at hp HS
            go_wp2
            go_round
            case rel => exact ⟨j + 1, by omega, by go_num, by rw [HS.out]⟩
            case measure => simp [intOf]; omega
        · have hm : Hid (valN (x.data.toList ++ (six y.data.toList).take j) = mill x y) := Lib.hid (by rw [mill, List.take_of_length_le (by rw [six_length]; omega)])
          rw [hm.out] at hp
          rw [hm.out]
          have N := Lib.hid (numB_nat (mill x y))
          generalize hmv : mill x y = v at hp N
          have HM := Lib.hid hmv
          clear hmv
          go_wp2_with (go_at_call 180; refine (made_any _ _).mono ?_; rintro e w' ⟨rfl, rfl⟩)
          go_ret2
          exact ⟨ret_two (by rw [HM.out, N.out]) (by rw [HM.out, N.out]), rfl⟩

theorem sat_step (v d : Nat) : min (min v 1000000000001 * 10 + d) 1000000000001 = min (10 * v + d) 1000000000001 := by omega
theorem join_six (x y : ByteArray) : (x ++ (y ++ ByteArray.mk #[48, 48, 48, 48, 48, 48]).extract 0 6).data.toList = x.data.toList ++ six y.data.toList := by
  simp [six, List.take_append]
def satV (l : List UInt8) : Int := ((min (valN l) 1000000000001 : Nat) : Int)
set_option maxHeartbeats 1000000 in
theorem count_any (x y : ByteArray) (w : World) (hx : x.size ≤ 1048576) (hy : y.size ≤ 1048576) (dx : DigAll x) (dy : DigAll y) :
    Calls Tryz.prog 64 #[.string x, .string y] w fun e w' => e = .returned (.int .i64 ((min (mill x y) 1000000000001 : Nat) : Int)) ∧ Below w.heap.size w w' := by
  obtain ⟨S, hS⟩ : ∃ S : ByteArray, S = x ++ (y ++ ByteArray.mk #[48, 48, 48, 48, 48, 48]).extract 0 6 := ⟨_, rfl⟩
  have hl : S.data.toList = x.data.toList ++ six y.data.toList := by rw [hS]; exact join_six x y
  have hsz : S.size = x.size + 6 := by
    have := congrArg List.length hl
    rw [List.length_append, six_length] at this
    simpa using this
  have hd : ∀ (j : Nat) (h : j < S.size), 48 ≤ (S[j].toNat : Int) ∧ (S[j].toNat : Int) ≤ 57 := by
    intro j h
    have hm : S[j] ∈ S.data.toList := List.getElem_mem (l := S.data.toList) (by simpa using h)
    rw [hl, List.mem_append] at hm
    have : isDig S[j] := by
      rcases hm with a | a
      · exact digAll_mem dx _ a
      · exact six_dig (digAll_mem dy) _ a
    unfold isDig at this; omega
  have HD := Lib.hid hd
  have hs : S.size ≤ 1048582 := by omega
  have HL := Lib.hid (show mill x y = valN S.data.toList by rw [mill, hl])
  have HS := Lib.hid hS
  clear hS hl hsz hd dx dy
  go_enter Tryz.func64, Tryz.ntmps64
  go_wp2
  rw [← HS.out]
  go_loopw [5] (fun v w' => ∃ pos : Nat, w' = w.iter S pos ∧ v = .int .i64 (satV (S.data.toList.take pos)) ∧ pos ≤ S.size) (fun _ w' => S.size - w'.iterPos w.heap.size)
  case atStart => exact ⟨0, rfl, by simp [satV, valN], by omega⟩
  case round =>
    obtain ⟨pos, rfl, rfl, hple⟩ := hrel
    by_cases hp : pos < S.size
    · obtain ⟨b1, b2⟩ := HD.out pos hp
      have hnx : ∀ ty, (Instr.next (.pointer (some ⟨w.heap.size, 0, none⟩)) true ty).run Tryz.prog (w.iter S pos) = _ := fun ty => run_next_ascii w S pos ty hp (by omega)
      have hst : satV (S.data.toList.take (pos + 1)) = min (satV (S.data.toList.take pos) * 10 + (S[pos].toNat - 48)) 1000000000001 := by
        unfold satV
        rw [take_snoc S pos hp, valN_snoc]
        have := sat_step (valN (S.data.toList.take pos)) (S[pos].toNat - 48)
        omega
      have hbd : 0 ≤ satV (S.data.toList.take pos) ∧ satV (S.data.toList.take pos) ≤ 1000000000001 := by unfold satV; omega
      obtain ⟨hbd1, hbd2⟩ := hbd
      have HST := Lib.hid hst
      clear hst
      generalize satV (S.data.toList.take pos) = v at hbd1 hbd2 HST
      go_wp2
      go_roundw
      case rel => exact ⟨pos + 1, rfl, by rw [HST.out]; go_num, by omega⟩
      case measure => simp; omega
    · have hnx : ∀ ty, (Instr.next (.pointer (some ⟨w.heap.size, 0, none⟩)) true ty).run Tryz.prog (w.iter S pos) = _ := fun ty => run_next_end w S pos ty hp
      have T := Lib.hid (take_all S pos (by omega))
      go_wp2
      go_ret
      exact ⟨ret_int (by rw [T.out, HL.out]; rfl), (Below.refl _ _).alloc (Nat.le_refl _) _⟩
end Go.Proofs.YthffjcclcladoaaGreatDoor.kit
