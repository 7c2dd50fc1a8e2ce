/-
  What Fill answers, and contracts of spec.l08Run and spec.Fill over this seat's translation. Conditions: a text of at most 1048576 bytes.
-/
import Derived.Test.YthffjcclcladoaaGreatDoorMInfo
import Derived.Deep.QuietTactic
namespace Go.Proofs.YthffjcclcladoaaGreatDoor.kit
open Go.ChangeShapes Go.WideShapes Go.ChangeAt Go.RowKit
set_option linter.unusedVariables false

/-- A text filled up to a width. -/
def fillL (s : List UInt8) (width : Int) (left nought : Bool) : List UInt8 :=
  if width ≤ 99 ∧ (s.length : Int) < width then
    (if left then s ++ List.replicate (width.toNat - s.length) 32
     else if nought then (if s.head? = some 45 then 45 :: (List.replicate (width.toNat - s.length) 48 ++ s.tail) else List.replicate (width.toNat - s.length) 48 ++ s)
     else List.replicate (width.toNat - s.length) 32 ++ s)
  else s
theorem app_list (s : ByteArray) (l : List UInt8) : s ++ (⟨l.toArray⟩ : ByteArray) = ⟨(s.data.toList ++ l).toArray⟩ := by
  apply ByteArray.ext
  rw [ByteArray.data_append]
  apply Array.ext'; simp
theorem list_app (s : ByteArray) (l : List UInt8) : (⟨l.toArray⟩ : ByteArray) ++ s = ⟨(l ++ s.data.toList).toArray⟩ := by
  apply ByteArray.ext
  rw [ByteArray.data_append]
  apply Array.ext'; simp
theorem same_list (s : ByteArray) : s = ⟨s.data.toList.toArray⟩ := by
  apply ByteArray.ext
  simp
theorem fill_out {s : ByteArray} {width : Int} {l n : Bool} (h : 99 < width ∨ width ≤ s.size) : s = ⟨(fillL s.data.toList width l n).toArray⟩ := by
  rw [fillL, if_neg (by rintro ⟨h1, h2⟩; have e : s.data.toList.length = s.size := by simp
                        rw [e] at h2; omega)]
theorem fill_in (s : ByteArray) (m : Nat) (l n : Bool) (hm : 0 < m) (h : s.size + m ≤ 99) : fillL s.data.toList ((s.size : Int) + m) l n = (if l then s.data.toList ++ List.replicate m 32
     else if n then (if s.data.toList.head? = some 45 then 45 :: (List.replicate m 48 ++ s.data.toList.tail) else List.replicate m 48 ++ s.data.toList)
     else List.replicate m 32 ++ s.data.toList) := by
  have e : s.data.toList.length = s.size := by simp
  rw [fillL, if_pos ⟨by omega, by rw [e]; omega⟩, e, show ((s.size : Int) + m).toNat - s.size = m by omega]
theorem head_of (s : ByteArray) (h : 0 < s.size) : s.data.toList.head? = some s[0] := by
  have e : s.data.toList.length = s.size := by simp
  rw [List.head?_eq_getElem?, List.getElem?_eq_getElem (by omega)]; rfl
theorem head_none (s : ByteArray) (h : s.size = 0) : s.data.toList = [] := by
  have e : s.data.toList.length = s.size := by simp
  exact List.eq_nil_of_length_eq_zero (by omega)
theorem tail_of (s : ByteArray) : s.extract 1 s.size = ⟨s.data.toList.tail.toArray⟩ := by
  apply ByteArray.ext
  rw [ByteArray.data_extract]
  apply Array.ext'
  have e : s.data.size = s.data.toList.length := by simp
  rw [Array.toList_extract, List.extract_eq_take_drop, show s.size = s.data.toList.length from e, List.drop_one, List.take_of_length_le (by simp)]
theorem below_drewN (w : World) (k : Nat) : Below w.heap.size w (w.drewN k) := ⟨rfl, rfl, rfl, Nat.le_refl _, fun _ _ => rfl⟩
theorem rep_snoc (n : Nat) (c : UInt8) : List.replicate n c ++ [c] = List.replicate (n + 1) c := by rw [← List.replicate_succ']
set_option maxHeartbeats 400000 in
theorem run08_any (c : UInt8) (n : Nat) (w : World) (hn : n ≤ 100) :
    Calls Tryz.prog 57 #[.string ⟨#[c]⟩, .int .i64 (n : Int)] w fun e w' => e = .returned (.string ⟨(List.replicate n c).toArray⟩) ∧ w = w' := by
  go_enter Tryz.func57, Tryz.ntmps57
  go_wp2
  go_loop [5, 6] (fun o i => ∃ k : Nat, k ≤ n ∧ i = .int .i64 (k : Int) ∧ o = .string ⟨(List.replicate k c).toArray⟩) (fun _ i => n - (intOf i).toNat)
  case atStart => exact ⟨0, Nat.zero_le _, rfl, rfl⟩
  case round =>
    obtain ⟨k, hk, rfl, rfl⟩ := hrel
    by_cases hlt : k < n
    · have HS := Lib.hid (show (⟨(List.replicate k c).toArray⟩ : ByteArray) ++ ⟨#[c]⟩ = ⟨(List.replicate (k + 1) c).toArray⟩ by
        rw [show (⟨#[c]⟩ : ByteArray) = ⟨[c].toArray⟩ from rfl, app_list, ← rep_snoc])
      have hl : (ByteArray.mk (List.replicate k c).toArray).size = k := by simp [ByteArray.size]
      generalize (ByteArray.mk (List.replicate k c).toArray) = x at *
      have h1 : x.size ≤ 100 := by omega
      go_wp2
      go_round
      case rel => exact ⟨k + 1, by omega, by go_num, by rw [← HS.out]⟩
      case measure => simp [intOf]; omega
    · obtain rfl : k = n := by omega
      go_wp2
      go_ret
      exact ⟨rfl, rfl⟩
set_option maxHeartbeats 1000000 in
theorem specFill_any (s : ByteArray) (width : Int) (l n : Bool) (w : World) (hs : s.size ≤ 1048576) (h1 : -9223372036854775808 ≤ width) (h2 : width ≤ 9223372036854775807) :
    Calls Tryz.prog 18 #[.string s, .int .i64 width, .bool l, .bool n] w fun e w' => e = .returned (.string ⟨(fillL s.data.toList width l n).toArray⟩) ∧ Below w.heap.size w w' := by
  have C := Lib.hid (fun W => in_any width 0 99 W)
  by_cases c1 : 0 ≤ width ∧ width ≤ 99
  · have hb : inB width 0 99 = true := by simp [inB]; exact c1
    rw [hb] at C
    by_cases c2 : width ≤ s.size
    · have E := Lib.hid (fill_out (l := l) (n := n) (.inr c2))
      clear hb
      go_enter Tryz.func18, Tryz.ntmps18
      go_wp2_with fail
      refine (C.out _).mono ?_
      rintro e w1 ⟨rfl, rfl⟩
      go_wp2
      go_ret
      exact ⟨ret_str E.out, Below.refl _ _⟩
    · obtain ⟨m, rfl⟩ : ∃ m : Nat, width = (s.size : Int) + m := ⟨(width - s.size).toNat, by omega⟩
      have hm : 0 < m := by omega
      have h99 : s.size + m ≤ 99 := by omega
      have HF := Lib.hid (fill_in s m l n hm h99)
      have hd : (s.size : Int) + m - s.size = m := by omega
      have R := Lib.hid (fun c W => run08_any c m W (by omega))
      have hz : ∀ c : UInt8, (ByteArray.mk (List.replicate m c).toArray).size ≤ 99 := fun c => by simp [ByteArray.size]; omega
      cases l
      · cases n
        · have E := Lib.hid (show (⟨(List.replicate m 32).toArray⟩ : ByteArray) ++ s = ⟨(fillL s.data.toList ((s.size : Int) + m) false false).toArray⟩ by rw [HF.out, list_app]; rfl)
          have hz1 := hz 32
          clear hb hz HF
          go_enter Tryz.func18, Tryz.ntmps18
          go_wp2_with fail
          refine (C.out _).mono ?_
          rintro e w1 ⟨rfl, rfl⟩
          go_wp2_with (go_at_call 57; refine (R.out 32 _).mono ?_; rintro e w' ⟨rfl, rfl⟩)
          go_ret
          exact ⟨ret_str E.out, Below.refl _ _⟩
        · by_cases h0 : s.size = 0
          · have E := Lib.hid (show (⟨(List.replicate m 48).toArray⟩ : ByteArray) ++ s = ⟨(fillL s.data.toList ((s.size : Int) + m) false true).toArray⟩ by rw [HF.out, list_app, head_none s h0]; rfl)
            have hz1 := hz 48
            have d0 : decide (0 < s.size) = false := by simpa using h0
            clear hb hz HF h0
            go_enter Tryz.func18, Tryz.ntmps18
            go_wp2_with fail
            refine (C.out _).mono ?_
            rintro e w1 ⟨rfl, rfl⟩
            go_wp2_with (go_at_call 57; refine (R.out 48 _).mono ?_; rintro e w' ⟨rfl, rfl⟩)
            go_ret
            exact ⟨ret_str E.out, Below.refl _ _⟩
          · have h1 : 0 < s.size := by omega
            by_cases h45 : s[0] = 45
            · have E := Lib.hid (show (⟨#[45]⟩ : ByteArray) ++ (⟨(List.replicate m 48).toArray⟩ : ByteArray) ++ s.extract 1 s.size = ⟨(fillL s.data.toList ((s.size : Int) + m) false true).toArray⟩ by
                rw [HF.out, tail_of, app_list, head_of s h1, h45, show (⟨#[45]⟩ : ByteArray) = ⟨[45].toArray⟩ from rfl, app_list]; simp)
              have hz1 := hz 48
              have R4 := R.out 48
              generalize (ByteArray.mk (List.replicate m 48).toArray) = x at *
              have R4 := Lib.hid R4
              have e1 : ((s[0].toNat : Int) == 45) = true := by rw [h45]; rfl
              clear hb hz HF h45 R
              go_enter Tryz.func18, Tryz.ntmps18
              go_wp2_with fail
              refine (C.out _).mono ?_
              rintro e w1 ⟨rfl, rfl⟩
              have hi1 : (1 : Int) ≤ (s.size : Int) := by omega
              have hq1 : ¬ 9223372036854775807 < 1 + x.size := by omega
              have hq2 : ¬ 9223372036854775807 < 1 + x.size + (s.size - 1) := by omega
              go_wp2_with fail
              go_quiet (first | (go_at_call 57; exact Calls.quiet_of_same ((R4.out _).mono fun _ _ ⟨he, hw⟩ => ⟨he, hw.symm⟩)))
              go_wp2
              go_ret
              exact ⟨ret_str E.out, below_drewN _ _⟩
            · have E := Lib.hid (show (⟨(List.replicate m 48).toArray⟩ : ByteArray) ++ s = ⟨(fillL s.data.toList ((s.size : Int) + m) false true).toArray⟩ by rw [HF.out, list_app, head_of s h1, if_neg (by simp), if_pos rfl, if_neg (by simpa using h45)])
              have hz1 := hz 48
              have e1 : ((s[0].toNat : Int) == 45) = false := by
                rw [beq_eq_false_iff_ne]; intro h; apply h45; apply UInt8.toNat_inj.1; simp at h ⊢; omega
              clear hb hz HF h45
              go_enter Tryz.func18, Tryz.ntmps18
              go_wp2_with fail
              refine (C.out _).mono ?_
              rintro e w1 ⟨rfl, rfl⟩
              go_wp2_with (go_at_call 57; refine (R.out 48 _).mono ?_; rintro e w' ⟨rfl, rfl⟩)
              go_ret
              exact ⟨ret_str E.out, Below.refl _ _⟩
      · have E := Lib.hid (show s ++ (⟨(List.replicate m 32).toArray⟩ : ByteArray) = ⟨(fillL s.data.toList ((s.size : Int) + m) true n).toArray⟩ by rw [HF.out, app_list]; rfl)
        have hz1 := hz 32
        clear hb hz HF
        go_enter Tryz.func18, Tryz.ntmps18
        go_wp2_with fail
        refine (C.out _).mono ?_
        rintro e w1 ⟨rfl, rfl⟩
        go_wp2_with (go_at_call 57; refine (R.out 32 _).mono ?_; rintro e w' ⟨rfl, rfl⟩)
        go_ret
        exact ⟨ret_str E.out, Below.refl _ _⟩
  · have hb : inB width 0 99 = false := by simp [inB]; omega
    rw [hb] at C
    have E := Lib.hid (fill_out (s := s) (width := width) (l := l) (n := n) (by omega))
    clear hb
    go_enter Tryz.func18, Tryz.ntmps18
    go_wp2_with fail
    refine (C.out _).mono ?_
    rintro e w1 ⟨rfl, rfl⟩
    go_wp2
    go_ret
    exact ⟨ret_str E.out, Below.refl _ _⟩
end Go.Proofs.YthffjcclcladoaaGreatDoor.kit
