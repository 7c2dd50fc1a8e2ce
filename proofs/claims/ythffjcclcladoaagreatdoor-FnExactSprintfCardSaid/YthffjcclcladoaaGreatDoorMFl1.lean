/-
  Contracts of slices.Contains at bytes, of strings.Repeat at a blank and at a nought, of impl.filled and impl.Fill over this seat's translation. Conditions: a text of at most 1048576 bytes; the flags lie in one block.
-/
import Derived.Test.YthffjcclcladoaaGreatDoorMFl0
import Derived.Test.YthffjcclcladoaaGreatDoorShelf
namespace Go.Proofs.YthffjcclcladoaaGreatDoor.kit
open Go.ChangeShapes Go.WideShapes Go.ChangeAt Go.RowKit
set_option linter.unusedVariables false

theorem wrap_u64n (n : Nat) (h : n < 18446744073709551616) : IntKind.u64.wrap (n : Int) = (n : Int) := by
  unfold IntKind.wrap
  simp [IntKind.signed, IntKind.bits]
  omega
/-- Bytes that lie in one block, from its beginning on. -/
def FlAt (w : World) (a : Option Addr) (xs : List UInt8) : Prop := ∀ (j : Nat) (h : j < xs.length), ∃ g, a = some ⟨g, 0, none⟩ ∧ w.cell? ⟨g, j, none⟩ = some (.int .u8 (xs[j].toNat : Int))
theorem bhas_take (xs : List UInt8) (c : UInt8) (j : Nat) (hj : j < xs.length) : (xs.take (j + 1)).contains c = ((xs.take j).contains c || c == xs[j]) := by
  rw [List.take_succ_eq_append_getElem hj, Bool.eq_iff_iff]
  simp only [List.contains_iff_mem, List.mem_append, List.mem_singleton, Bool.or_eq_true, beq_iff_eq]
theorem bhas_mono (xs : List UInt8) (c : UInt8) (j : Nat) (h : (xs.take j).contains c = true) : xs.contains c = true := by
  simp only [List.contains_iff_mem] at *
  exact List.mem_of_mem_take h
def bhas (xs : List UInt8) (c : UInt8) : Bool := xs.contains c
theorem u8_eq (c x : UInt8) : ((c.toNat : Int) == (x.toNat : Int)) = (c == x) := by
  rw [Bool.eq_iff_iff]; simp only [beq_iff_eq]
  constructor
  · intro h; exact UInt8.toNat_inj.1 (by omega)
  · intro h; rw [h]
set_option maxRecDepth 100000 in
set_option maxHeartbeats 1000000 in
theorem bidx_any (xs : List UInt8) (a : Option Addr) (cap : Nat) (c : UInt8) (w : World) (hn : xs.length ≤ 1048576) (h : FlAt w a xs) :
    Calls Tryz.prog 130 #[.slice a xs.length cap, .int .u8 (c.toNat : Int)] w fun e w' => ∃ z : Int, e = .returned (.int .i64 z) ∧ (0 ≤ z ↔ bhas xs c = true) ∧ w = w' := by
  have HI := Lib.hid h
  clear h
  go_enter Tryz.func130, Tryz.ntmps130
  go_wp2_with fail
  go_loop [8] (fun i => ∃ j : Nat, j ≤ xs.length ∧ i = .int .i64 (j : Int) ∧ (xs.take j).contains c = false) (fun i => xs.length - (intOf i).toNat)
  case atStart => exact ⟨0, Nat.zero_le _, rfl, rfl⟩
  case round =>
    obtain ⟨j, hj, rfl, hno⟩ := hrel
    have HN := Lib.hid hno
    clear hno
    by_cases hlt : j < xs.length
    · obtain ⟨g, rfl, hc⟩ := HI.out j hlt
      have HT := Lib.hid (bhas_take xs c j hlt)
      have HM := Lib.hid (show (xs.take (j + 1)).contains c = true → bhas xs c = true from bhas_mono xs c (j + 1))
      have hj0 : (0 : Int) ≤ j := by omega
      generalize xs[j] = x at *
      have he := u8_eq c x
      cases hx : (c == x)
      · rw [hx] at he
        go_wp2_with fail
        go_round
        case rel => exact ⟨j + 1, by omega, by go_num, by rw [HT.out, HN.out, hx]; rfl⟩
        case measure => simp [intOf]; omega
      · rw [hx] at he
        go_wp2_with fail
        go_ret
        exact ⟨_, rfl, ⟨fun _ => HM.out (by rw [HT.out, hx, Bool.or_true]), fun _ => hj0⟩, rfl⟩
    · obtain rfl : j = xs.length := by omega
      have HA := Lib.hid (show bhas xs c = false by unfold bhas; have := HN.out; rwa [List.take_length] at this)
      go_wp2_with fail
      go_ret
      exact ⟨_, rfl, ⟨fun h => by simp at h, fun h => by rw [HA.out] at h; cases h⟩, rfl⟩
theorem bhas_any (xs : List UInt8) (a : Option Addr) (cap : Nat) (c : UInt8) (w : World) (hn : xs.length ≤ 1048576) (h : FlAt w a xs) :
    Calls Tryz.prog 101 #[.slice a xs.length cap, .int .u8 (c.toNat : Int)] w fun e w' => e = .returned (.bool (bhas xs c)) ∧ w = w' := by
  have HI := Lib.hid (bidx_any xs a cap c w hn h)
  go_enter Tryz.func101, Tryz.ntmps101
  go_wp2_with fail
  refine HI.out.mono ?_
  rintro e w1 ⟨z, rfl, hz, rfl⟩
  have HZ := Lib.hid (show decide (0 ≤ z) = bhas xs c by rw [Bool.eq_iff_iff, decide_eq_true_eq]; exact hz)
  clear hz
  go_wp2_with fail
  go_ret
  exact ⟨ret_bool HZ.out, rfl⟩
theorem repL_one (c : UInt8) : ∀ n : Nat, Lib.repeatL [c] n = List.replicate n c
  | 0 => rfl
  | n + 1 => by rw [Lib.repeatL, repL_one c n]; rfl
theorem rep_any (c : UInt8) (n : Nat) (w : World) (hn : n ≤ 99) :
    Calls Tryz.prog 102 #[.string ⟨#[c]⟩, .int .i64 (n : Int)] w fun e w' => e = .returned (.string ⟨(List.replicate n c).toArray⟩) ∧ Below w.heap.size w w' := by
  refine (Tryz.strings_Repeat ⟨#[c]⟩ n w (by omega) (by show 1 * n ≤ _; omega)).mono ?_
  rintro e w' ⟨rfl, hb⟩
  refine ⟨?_, hb⟩
  rw [show (⟨#[c]⟩ : ByteArray).data.toList = [c] from rfl, repL_one]
theorem cutp_any (s : ByteArray) (w : World) :
    Calls Tryz.prog 103 #[.string s, .string ⟨#[45]⟩] w fun e w' => e = .returned (.tuple #[.string ⟨(if s.data.toList.head? = some 45 then s.data.toList.tail else s.data.toList).toArray⟩, .bool (decide (s.data.toList.head? = some 45))]) ∧ w = w' := by
  refine (Tryz.strings_CutPrefix s ⟨#[45]⟩ w).mono ?_
  rintro e w' ⟨rfl, rfl⟩
  refine ⟨?_, rfl⟩
  have e1 : Lib.hasPrefix s.data.toList (⟨#[45]⟩ : ByteArray).data.toList = decide (s.data.toList.head? = some 45) := by
    show [(45 : UInt8)].isPrefixOf s.data.toList = _
    cases h : s.data.toList with
    | nil => rfl
    | cons x l =>
      rw [Bool.eq_iff_iff]
      simp only [List.isPrefixOf, Bool.and_true, List.head?_cons, Option.some.injEq, beq_iff_eq, decide_eq_true_eq]
      exact eq_comm
  have e2 : Lib.trimPrefix s.data.toList (⟨#[45]⟩ : ByteArray).data.toList = if s.data.toList.head? = some 45 then s.data.toList.tail else s.data.toList := by
    unfold Lib.trimPrefix
    rw [e1]
    by_cases h : s.data.toList.head? = some 45
    · rw [if_pos h, if_pos (by simpa using h)]; exact List.drop_one
    · rw [if_neg h, if_neg (by simpa using h)]
  rw [e1, e2]
theorem add_atF (b o k : Nat) : (⟨b, o, none⟩ : Addr).add k = ⟨b, o + k, none⟩ := by unfold Addr.add; split <;> simp_all
/-- What a row of one's own tells. -/
theorem flAt_own {e : TypeId} {B : Nat} {w : World} {v : Value} {xs : List UInt8} (h : Own e B w v xs) : ∃ a cap, v = .slice a xs.length cap ∧ FlAt w a xs := by
  rcases h.is_slice with ⟨rfl, rfl⟩ | ⟨g, cap, rfl, _, _⟩
  · exact ⟨none, 0, rfl, fun j hj => absurd hj (by simp)⟩
  · exact ⟨_, cap, rfl, fun j hj => ⟨g, rfl, by have := World.ownsRow.cells h rfl j (.int .u8 (xs[j].toNat : Int)) (by simp [hj]); simpa [add_atF] using this⟩⟩
end Go.Proofs.YthffjcclcladoaaGreatDoor.kit
/-
  Contracts of impl.filled and impl.Fill over this seat's translation. Conditions: a text of at most 1048576 bytes; the flags lie in one block.
-/
namespace Go.Proofs.YthffjcclcladoaaGreatDoor.kit
open Go.ChangeShapes Go.WideShapes Go.ChangeAt Go.RowKit
set_option linter.unusedVariables false

/-- What a text filled by flags is. -/
def filF (s : ByteArray) (width : Int) (xs : List UInt8) : ByteArray := ⟨(fillL s.data.toList width (bhas xs 45) (bhas xs 48)).toArray⟩
set_option maxRecDepth 100000 in
set_option maxHeartbeats 1000000 in
theorem filled_any (s : ByteArray) (width : Int) (xs : List UInt8) (a : Option Addr) (cap : Nat) (w : World) (hs : s.size ≤ 1048576) (hx : xs.length ≤ 1048576) (h1 : -9223372036854775808 ≤ width) (h2 : width ≤ 9223372036854775807) (ha : FlAt w a xs) :
    Calls Tryz.prog 52 #[.string s, .int .i64 width, .slice a xs.length cap] w fun e w' => e = .returned (.string (filF s width xs)) ∧ Below w.heap.size w w' := by
  have HA := Lib.hid ha
  have C := Lib.hid (fun c W (h : FlAt W a xs) => bhas_any xs a cap c W hx h)
  by_cases c0 : 99 < width ∨ width ≤ s.size
  · have E := Lib.hid (show s = filF s width xs from fill_out c0)
    clear ha C
    by_cases c1 : 99 < width
    · clear c0
      go_enter Tryz.func52, Tryz.ntmps52
      go_wp2_with fail
      go_ret
      exact ⟨ret_str E.out, Below.refl _ _⟩
    · have c2 : width ≤ s.size := by omega
      clear c0
      go_enter Tryz.func52, Tryz.ntmps52
      go_wp2_with fail
      go_ret
      exact ⟨ret_str E.out, Below.refl _ _⟩
  · obtain ⟨m, rfl⟩ : ∃ m : Nat, width = (s.size : Int) + m := ⟨(width - s.size).toNat, by omega⟩
    have hm : 0 < m := by omega
    have h99 : s.size + m ≤ 99 := by omega
    have w1 : ¬ 99 < (s.size : Int) + m := by omega
    have w2 : ¬ (s.size : Int) + m ≤ s.size := by omega
    have HF := Lib.hid (fill_in s m (bhas xs 45) (bhas xs 48) hm h99)
    have hd : (s.size : Int) + m - s.size = m := by omega
    have R := Lib.hid (fun c W => rep_any c m W (by omega))
    have hz : ∀ c : UInt8, (ByteArray.mk (List.replicate m c).toArray).size ≤ 99 := fun c => by simp [ByteArray.size]; omega
    have C45 := Lib.hid (show ∀ W, FlAt W a xs → _ from C.out 45)
    have C48 := Lib.hid (show ∀ W, FlAt W a xs → _ from C.out 48)
    rw [show (((45 : UInt8).toNat : Nat) : Int) = 45 from rfl] at C45
    rw [show (((48 : UInt8).toNat : Nat) : Int) = 48 from rfl] at C48
    clear ha C c0
    generalize hl : bhas xs 45 = lf at *
    generalize hn : bhas xs 48 = nf at *
    cases lf
    · cases nf
      · have E := Lib.hid (show (⟨(List.replicate m 32).toArray⟩ : ByteArray) ++ s = filF s ((s.size : Int) + m) xs by rw [filF, hl, hn, HF.out, list_app]; rfl)
        have hz1 := hz 32
        have R1 := R.out 32
        generalize (ByteArray.mk (List.replicate m 32).toArray) = x at *
        have R1 := Lib.hid R1
        clear hz R HF
        go_enter Tryz.func52, Tryz.ntmps52
        go_wp2_with fail
        refine (C45.out _ HA.out).mono ?_
        rintro e w1 ⟨rfl, rfl⟩
        go_wp2_with fail
        refine (C48.out _ HA.out).mono ?_
        rintro e w1 ⟨rfl, rfl⟩
        go_wp2_with (go_at_call 102; refine (R1.out _).mono ?_; rintro e w' ⟨rfl, hb⟩)
        go_ret
        exact ⟨ret_str E.out, hb⟩
      · have P := Lib.hid (fun W => cutp_any s W)
        have hz1 := hz 48
        have R1 := R.out 48
        by_cases h45 : s.data.toList.head? = some 45
        · have E := Lib.hid (show (⟨#[45]⟩ : ByteArray) ++ (⟨(List.replicate m 48).toArray⟩ : ByteArray) ++ ⟨s.data.toList.tail.toArray⟩ = filF s ((s.size : Int) + m) xs by
            rw [filF, hl, hn, HF.out, if_neg (by simp), if_pos rfl, if_pos h45, app_list, show (⟨#[45]⟩ : ByteArray) = ⟨[45].toArray⟩ from rfl, app_list]; simp)
          have hzt : (ByteArray.mk s.data.toList.tail.toArray).size ≤ 99 := by
            have e : s.data.toList.length = s.size := by simp
            show s.data.toList.tail.toArray.size ≤ 99
            rw [List.size_toArray, List.length_tail]; omega
          rw [if_pos h45, show decide (s.data.toList.head? = some 45) = true by simpa using h45] at P
          generalize (ByteArray.mk (List.replicate m 48).toArray) = x at *
          generalize (ByteArray.mk s.data.toList.tail.toArray) = y at *
          have R1 := Lib.hid R1
          clear hz R HF h45
          go_enter Tryz.func52, Tryz.ntmps52
          go_wp2_with fail
          refine (C45.out _ HA.out).mono ?_
          rintro e w1 ⟨rfl, rfl⟩
          go_wp2_with fail
          refine (C48.out _ HA.out).mono ?_
          rintro e w1 ⟨rfl, rfl⟩
          go_wp2_with fail
          refine (P.out _).mono ?_
          rintro e w1 ⟨rfl, rfl⟩
          go_wp2_with (go_at_call 102; refine (R1.out _).mono ?_; rintro e w' ⟨rfl, hb⟩)
          go_ret
          exact ⟨ret_str E.out, hb⟩
        · have E := Lib.hid (show (⟨(List.replicate m 48).toArray⟩ : ByteArray) ++ ⟨s.data.toList.toArray⟩ = filF s ((s.size : Int) + m) xs by
            rw [filF, hl, hn, HF.out, if_neg (by simp), if_pos rfl, if_neg h45, app_list])
          have hzt : (ByteArray.mk s.data.toList.toArray).size ≤ 99 := by
            have e : s.data.toList.length = s.size := by simp
            show s.data.toList.toArray.size ≤ 99
            rw [List.size_toArray]; omega
          rw [if_neg h45, show decide (s.data.toList.head? = some 45) = false by simpa using h45] at P
          generalize (ByteArray.mk (List.replicate m 48).toArray) = x at *
          generalize (ByteArray.mk s.data.toList.toArray) = y at *
          have R1 := Lib.hid R1
          clear hz R HF h45
          go_enter Tryz.func52, Tryz.ntmps52
          go_wp2_with fail
          refine (C45.out _ HA.out).mono ?_
          rintro e w1 ⟨rfl, rfl⟩
          go_wp2_with fail
          refine (C48.out _ HA.out).mono ?_
          rintro e w1 ⟨rfl, rfl⟩
          go_wp2_with fail
          refine (P.out _).mono ?_
          rintro e w1 ⟨rfl, rfl⟩
          go_wp2_with (go_at_call 102; refine (R1.out _).mono ?_; rintro e w' ⟨rfl, hb⟩)
          go_ret
          exact ⟨ret_str E.out, hb⟩
    · have E := Lib.hid (show s ++ (⟨(List.replicate m 32).toArray⟩ : ByteArray) = filF s ((s.size : Int) + m) xs by rw [filF, hl, hn, HF.out, app_list]; rfl)
      have hz1 := hz 32
      have R1 := R.out 32
      generalize (ByteArray.mk (List.replicate m 32).toArray) = x at *
      have R1 := Lib.hid R1
      clear hz R HF
      go_enter Tryz.func52, Tryz.ntmps52
      go_wp2_with fail
      refine (C45.out _ HA.out).mono ?_
      rintro e w1 ⟨rfl, rfl⟩
      go_wp2_with (go_at_call 102; refine (R1.out _).mono ?_; rintro e w' ⟨rfl, hb⟩)
      go_ret
      exact ⟨ret_str E.out, hb⟩
set_option maxHeartbeats 400000 in
theorem implFill00 (s : ByteArray) (width : Int) (w : World) (hs : s.size ≤ 1048576) (h1 : -9223372036854775808 ≤ width) (h2 : width ≤ 9223372036854775807) :
    Calls Tryz.prog 12 #[.string s, .int .i64 width, .bool false, .bool false] w fun e w' => e = .returned (.string ⟨(fillL s.data.toList width false false).toArray⟩) ∧ Below w.heap.size w w' := by
  have C := Lib.hid (fun xs a cap W hx ha => filled_any s width xs a cap W hs hx h1 h2 ha)
  have E := Lib.hid (show filF s width [] = ⟨(fillL s.data.toList width false false).toArray⟩ by rw [filF, show bhas [] 45 = false by decide, show bhas [] 48 = false by decide])
  have HO := Lib.hid (own_start (e := 5) (w := w) (Nat.le_refl _))
  have HBA := Lib.hid (show ∀ o, Below w.heap.size w (w.alloc o) from fun o => (Below.refl _ w).alloc (Nat.le_refl _) o)
  clear h1 h2
  have HO0 := HO
  have HB0 := Lib.hid (HBA.out (.cells #[] 5))
  go_enter Tryz.func12, Tryz.ntmps12
  go_wp2_with fail
  refine (C.out [] (some ⟨w.heap.size, 0, none⟩) 0 _ (by simp) (fun j hj => absurd hj (by simp))).mono ?_
  rintro e wz ⟨rfl, hbz⟩
  go_wp2_with fail
  go_ret
  exact ⟨ret_str E.out, HB0.out.trans (hbz.mono HB0.out.size)⟩
set_option maxHeartbeats 400000 in
theorem implFill10 (s : ByteArray) (width : Int) (w : World) (hs : s.size ≤ 1048576) (h1 : -9223372036854775808 ≤ width) (h2 : width ≤ 9223372036854775807) :
    Calls Tryz.prog 12 #[.string s, .int .i64 width, .bool true, .bool false] w fun e w' => e = .returned (.string ⟨(fillL s.data.toList width true false).toArray⟩) ∧ Below w.heap.size w w' := by
  have C := Lib.hid (fun xs a cap W hx ha => filled_any s width xs a cap W hs hx h1 h2 ha)
  have E := Lib.hid (show filF s width [45] = ⟨(fillL s.data.toList width true false).toArray⟩ by rw [filF, show bhas [45] 45 = true by decide, show bhas [45] 48 = false by decide])
  have HO := Lib.hid (own_start (e := 5) (w := w) (Nat.le_refl _))
  have HBA := Lib.hid (show ∀ o, Below w.heap.size w (w.alloc o) from fun o => (Below.refl _ w).alloc (Nat.le_refl _) o)
  clear h1 h2
  have HO0 := HO
  have HB0 := Lib.hid (HBA.out (.cells #[] 5))
  go_enter Tryz.func12, Tryz.ntmps12
  go_wp2_with (first | (at_builtin; refine wp_append_bytes Tryz.underlying22 Tryz.infoU8 rfl _ _ rfl w.heap.size _ [] rfl (HO0.out.alloc _) ⟨w.heap.size + 1, 0, none⟩ 1 1 [45] rfl rfl (by simpa using news_lit (w.alloc (.cells #[] 5)) _ [45] [.int .u8 45] rfl) (by simp) (by simp; omega) ?_; intro v1 w1 ho1 hb1; have HO1 := Lib.hid ho1; have HB1 := Lib.hid ((HB0.out.alloc HB0.out.size _).trans hb1); clear ho1 hb1; obtain ⟨a, cap, rfl, e2⟩ := flAt_own HO1.out))
  refine (C.out [45] a cap _ (by simp) e2).mono ?_
  rintro e wz ⟨rfl, hbz⟩
  go_wp2_with fail
  go_ret
  exact ⟨ret_str E.out, HB1.out.trans (hbz.mono HB1.out.size)⟩
set_option maxHeartbeats 400000 in
theorem implFill01 (s : ByteArray) (width : Int) (w : World) (hs : s.size ≤ 1048576) (h1 : -9223372036854775808 ≤ width) (h2 : width ≤ 9223372036854775807) :
    Calls Tryz.prog 12 #[.string s, .int .i64 width, .bool false, .bool true] w fun e w' => e = .returned (.string ⟨(fillL s.data.toList width false true).toArray⟩) ∧ Below w.heap.size w w' := by
  have C := Lib.hid (fun xs a cap W hx ha => filled_any s width xs a cap W hs hx h1 h2 ha)
  have E := Lib.hid (show filF s width [48] = ⟨(fillL s.data.toList width false true).toArray⟩ by rw [filF, show bhas [48] 45 = false by decide, show bhas [48] 48 = true by decide])
  have HO := Lib.hid (own_start (e := 5) (w := w) (Nat.le_refl _))
  have HBA := Lib.hid (show ∀ o, Below w.heap.size w (w.alloc o) from fun o => (Below.refl _ w).alloc (Nat.le_refl _) o)
  clear h1 h2
  have HO0 := HO
  have HB0 := Lib.hid (HBA.out (.cells #[] 5))
  go_enter Tryz.func12, Tryz.ntmps12
  go_wp2_with (first | (at_builtin; refine wp_append_bytes Tryz.underlying22 Tryz.infoU8 rfl _ _ rfl w.heap.size _ [] rfl (HO0.out.alloc _) ⟨w.heap.size + 1, 0, none⟩ 1 1 [48] rfl rfl (by simpa using news_lit (w.alloc (.cells #[] 5)) _ [48] [.int .u8 48] rfl) (by simp) (by simp; omega) ?_; intro v1 w1 ho1 hb1; have HO1 := Lib.hid ho1; have HB1 := Lib.hid ((HB0.out.alloc HB0.out.size _).trans hb1); clear ho1 hb1; obtain ⟨a, cap, rfl, e2⟩ := flAt_own HO1.out))
  refine (C.out [48] a cap _ (by simp) e2).mono ?_
  rintro e wz ⟨rfl, hbz⟩
  go_wp2_with fail
  go_ret
  exact ⟨ret_str E.out, HB1.out.trans (hbz.mono HB1.out.size)⟩
set_option maxHeartbeats 400000 in
theorem implFill11 (s : ByteArray) (width : Int) (w : World) (hs : s.size ≤ 1048576) (h1 : -9223372036854775808 ≤ width) (h2 : width ≤ 9223372036854775807) :
    Calls Tryz.prog 12 #[.string s, .int .i64 width, .bool true, .bool true] w fun e w' => e = .returned (.string ⟨(fillL s.data.toList width true true).toArray⟩) ∧ Below w.heap.size w w' := by
  have C := Lib.hid (fun xs a cap W hx ha => filled_any s width xs a cap W hs hx h1 h2 ha)
  have E := Lib.hid (show filF s width [45, 48] = ⟨(fillL s.data.toList width true true).toArray⟩ by rw [filF, show bhas [45, 48] 45 = true by decide, show bhas [45, 48] 48 = true by decide])
  have HO := Lib.hid (own_start (e := 5) (w := w) (Nat.le_refl _))
  have HBA := Lib.hid (show ∀ o, Below w.heap.size w (w.alloc o) from fun o => (Below.refl _ w).alloc (Nat.le_refl _) o)
  clear h1 h2
  have HO0 := HO
  have HB0 := Lib.hid (HBA.out (.cells #[] 5))
  go_enter Tryz.func12, Tryz.ntmps12
  go_wp2_with (first | (at_builtin; refine wp_append_bytes Tryz.underlying22 Tryz.infoU8 rfl _ _ rfl w.heap.size _ [] rfl (HO0.out.alloc _) ⟨w.heap.size + 1, 0, none⟩ 1 1 [45] rfl rfl (by simpa using news_lit (w.alloc (.cells #[] 5)) _ [45] [.int .u8 45] rfl) (by simp) (by simp; omega) ?_; intro v1 w1 ho1 hb1; have HO1 := Lib.hid ho1; have HB1 := Lib.hid ((HB0.out.alloc HB0.out.size _).trans hb1); clear ho1 hb1) | (at_builtin; refine wp_append_bytes Tryz.underlying22 Tryz.infoU8 rfl _ _ rfl w.heap.size _ [45] rfl (HO1.out.alloc _) ⟨w1.heap.size, 0, none⟩ 1 1 [48] rfl rfl (news_lit w1 _ [48] [.int .u8 48] rfl) (by simp) (by rw [World.size_alloc]; exact Nat.le_succ_of_le HB1.out.size) ?_; intro v2 w2 ho2 hb2; have HO2 := Lib.hid ho2; have HB2 := Lib.hid ((HB1.out.alloc HB1.out.size _).trans hb2); clear ho2 hb2; obtain ⟨a, cap, rfl, e2⟩ := flAt_own HO2.out))
  refine (C.out [45, 48] a cap _ (by simp) e2).mono ?_
  rintro e wz ⟨rfl, hbz⟩
  go_wp2_with fail
  go_ret
  exact ⟨ret_str E.out, HB2.out.trans (hbz.mono HB2.out.size)⟩
theorem implFill_any (s : ByteArray) (width : Int) (l n : Bool) (w : World) (hs : s.size ≤ 1048576) (h1 : -9223372036854775808 ≤ width) (h2 : width ≤ 9223372036854775807) :
    Calls Tryz.prog 12 #[.string s, .int .i64 width, .bool l, .bool n] w fun e w' => e = .returned (.string ⟨(fillL s.data.toList width l n).toArray⟩) ∧ Below w.heap.size w w' := by
  cases l <;> cases n
  · exact implFill00 s width w hs h1 h2
  · exact implFill01 s width w hs h1 h2
  · exact implFill10 s width w hs h1 h2
  · exact implFill11 s width w hs h1 h2
end Go.Proofs.YthffjcclcladoaaGreatDoor.kit
