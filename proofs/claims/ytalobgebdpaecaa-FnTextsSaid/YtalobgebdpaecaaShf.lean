/-
  Contracts of spec.l01Shift, impl.shiftLetters, Lower and Upper of both sides over this seat's translation: for every text both give the text with each byte of a range moved by so many. Conditions: the range lies in 0 .. 127 and what is moved stays a byte.
-/
import Derived.Test.YtalobgebdpaecaaInfo
namespace Go.Proofs.Ytalobgebdpaecaa.kit
open Go.ChangeShapes Go.WideShapes Go.ChangeAt Go.RowKit
set_option linter.unusedVariables false

/-- A byte of a range, moved by so many. -/
def shiftB (lo hi by_ : Int) (c : UInt8) : UInt8 := if inB c.toNat lo hi then UInt8.ofNat ((c.toNat : Int) + by_).toNat else c
theorem shiftB_in {lo hi b : Int} {c : UInt8} (h : inB c.toNat lo hi = true) (h0 : 0 ≤ (c.toNat : Int) + b) (h1 : (c.toNat : Int) + b ≤ 255) : ((shiftB lo hi b c).toNat : Int) = c.toNat + b := by
  simp only [shiftB, h, if_true]
  rw [UInt8.toNat_ofNat']
  omega
theorem shiftB_out {lo hi b : Int} {c : UInt8} (h : inB c.toNat lo hi = false) : shiftB lo hi b c = c := by
  simp [shiftB, h]
theorem inB_true {x a b : Int} (h : inB x a b = true) : a ≤ x ∧ x ≤ b := by simpa [inB] using h

set_option maxRecDepth 100000 in
set_option maxRecDepth 100000 in
set_option maxHeartbeats 400000 in
theorem specShift_any (s : ByteArray) (lo hi b : Int) (w : World) (hs : s.size ≤ maxLen) (h0 : 0 ≤ lo + b) (h1 : hi + b ≤ 255) (hb : -300 ≤ b) (hb2 : b ≤ 300) :
    Calls Try.prog 54 #[.string s, .int .i64 lo, .int .i64 hi, .int .i64 b] w fun e w' => e = .returned (.string ⟨(s.data.toList.map (shiftB lo hi b)).toArray⟩) ∧ Below w.heap.size w w' := by
  unfold maxLen at hs
  have hcv := fun (W : World) => Lib.run_convert_string_bytes (P := Try.prog) W 9 22 5 s Try.underlying9 Try.underlying22 Try.underlying5
  have R0 := Lib.hid (row_bytesWorld w 5 s)
  have B0 := Lib.hid (below_bytesWorld w 5 s)
  go_enter Try.func54, Try.ntmps54
  go_wp2
  go_loopw [10] (fun i wr => ∃ k : Nat, k ≤ s.size ∧ i = .int .i64 k ∧ Row wr w.heap.size (mapTo (shiftB lo hi b) k s.data.toList) ∧ Below w.heap.size w wr) (fun i _ => s.size - (intOf i).toNat)
  case atStart => exact ⟨0, Nat.zero_le _, rfl, by rw [mapTo_zero]; exact R0.out, B0.out⟩
  case round =>
    obtain ⟨k, hk, rfl, hrow, hbel⟩ := hrel
    have HR := Lib.hid hrow
    have HB := Lib.hid hbel
    clear hrow hbel
    by_cases hlt : k < s.size
    · have hl : k < s.data.toList.length := by simpa using hlt
      have hl2 : k < (mapTo (shiftB lo hi b) k s.data.toList).length := by rw [mapTo_length]; exact hl
      have hat : (mapTo (shiftB lo hi b) k s.data.toList)[k] = s.data.toList[k] := by rw [mapTo_at _ _ _ _ hl, if_neg (by omega)]
      have hcell := (HR.out k hl2).1
      have hfr := (HR.out k hl2).2
      rw [hat] at hcell
      clear hat
      generalize hcc : s.data.toList[k] = c at hcell
      have hc256 : c.toNat < 256 := c.toNat_lt
      have HC := Lib.hid hcc; clear hcc
      cases a1 : inB c.toNat lo hi
      · have HN : Hid (Row wr w.heap.size (mapTo (shiftB lo hi b) (k + 1) s.data.toList)) := by
          refine Lib.hid ?_
          rw [mapTo_skip _ k (k + 1) _ (by omega) (fun j hj e1 e2 => by
            obtain rfl : j = k := by omega
            rw [HC.out]; exact shiftB_out a1)]
          exact HR.out
        go_wp2_with (go_at_call 71; refine (in_any _ _ _ _).mono ?_; rintro e w' ⟨rfl, rfl⟩)
        go_roundw
        case rel => exact ⟨k + 1, by omega, by go_num, HN.out, HB.out⟩
        case measure => simp [intOf]; omega
      · have hin := inB_true a1
        have q0 : 0 ≤ (c.toNat : Int) + b := by omega
        have q1 : (c.toNat : Int) + b ≤ 255 := by omega
        have HN : Hid (Row (wr.setCell ⟨w.heap.size, k, none⟩ (.int .u8 ((c.toNat : Int) + b))) w.heap.size (mapTo (shiftB lo hi b) (k + 1) s.data.toList)) := by
          refine Lib.hid ?_
          have r := HR.out.store k hl2 (shiftB lo hi b c)
          rw [shiftB_in a1 q0 q1] at r
          have m := mapTo_set (shiftB lo hi b) k s.data.toList hl
          rw [HC.out] at m
          rw [m] at r
          exact r
        go_wp2_with (go_at_call 71; refine (in_any _ _ _ _).mono ?_; rintro e w' ⟨rfl, rfl⟩)
        go_roundw
        case rel => exact ⟨k + 1, by omega, by go_num, HN.out, HB.out.setCell (Nat.le_refl _) _⟩
        case measure => simp [intOf]; omega
    · have hfin : mapTo (shiftB lo hi b) k s.data.toList = s.data.toList.map (shiftB lo hi b) := mapTo_all _ _ _ (by simp; omega)
      have hbk := Row.back (P := Try.prog) HR.out 22 9 5 (grownCap w s.size 0 5) s.size (by rw [mapTo_length]; simp) Try.underlying22 Try.underlying5 Try.underlying9
      rw [hfin] at hbk
      clear hfin
      go_wp2
      go_ret
      exact ⟨rfl, HB.out⟩

set_option maxRecDepth 100000 in
set_option maxRecDepth 100000 in
set_option maxHeartbeats 400000 in
theorem implShift_any (s : ByteArray) (lo hi b : Int) (w : World) (hs : s.size ≤ maxLen) (hlo : 0 ≤ lo) (hlo2 : lo ≤ 127) (hhi : hi ≤ 127) (h0 : 0 ≤ lo + b) (h1 : hi + b ≤ 255) (hb : -300 ≤ b) (hb2 : b ≤ 300) :
    Calls Try.prog 53 #[.string s, .int .i32 lo, .int .i32 hi, .int .i32 b] w fun e w' => e = .returned (.string ⟨(s.data.toList.map (shiftB lo hi b)).toArray⟩) ∧ Below w.heap.size w w' := by
  unfold maxLen at hs
  have hcv := Lib.run_convert_string_bytes (P := Try.prog) w 9 22 5 s Try.underlying9 Try.underlying22 Try.underlying5
  have r0 := row_bytesWorld w 5 s
  have b0 := below_bytesWorld w 5 s
  have z0 := Lib.bytesWorld_size w 5 s
  obtain ⟨W0, hW0⟩ : ∃ W0, W0 = Lib.bytesWorld w 5 s := ⟨_, rfl⟩
  rw [← hW0] at hcv r0 b0 z0
  clear hW0
  have R0 := Lib.hid r0
  have B0 := Lib.hid b0
  have Z0 := Lib.hid z0
  clear r0 b0 z0
  go_enter Try.func53, Try.ntmps53
  go_wp2
  go_loopw [] (fun wr => ∃ pos : Nat, wr.heap[W0.heap.size]? = some (.stringIter s pos) ∧ Row wr w.heap.size (mapTo (shiftB lo hi b) pos s.data.toList) ∧ Below w.heap.size w wr) (fun wr => s.size - wr.iterPos W0.heap.size)
  case atStart => exact ⟨0, World.iter_heap W0 s 0, by rw [mapTo_zero]; exact R0.out.of_block (Below.heap_alloc _ _ _ (by have := Z0.out; omega)), B0.out.alloc (by have := Z0.out; omega) _⟩
  case round =>
    obtain ⟨pos, hit, hrow, hbel⟩ := hrel
    have hpos0 := Lib.hid (iterPos_of hit)
    by_cases hp : pos < s.size
    · have hl : pos < s.data.toList.length := by simpa using hp
      have hnx : ∀ ty, (Instr.next (.pointer (some ⟨W0.heap.size, 0, none⟩)) true ty).run Try.prog wr = _ := fun ty => Lib.run_next_any_at wr W0.heap.size s pos ty hit hp
      have hit2 := Lib.iterAt_heap wr W0.heap.size s pos (pos + (Utf8.decode s pos).2) hit
      have hbel2 := Lib.below_iterAt hbel (k := W0.heap.size) (by have := Z0.out; omega) s (pos + (Utf8.decode s pos).2)
      have hrow2 : Row (wr.iterAt W0.heap.size s (pos + (Utf8.decode s pos).2)) w.heap.size (mapTo (shiftB lo hi b) pos s.data.toList) := hrow.of_block (Lib.iterAt_other _ _ _ _ _ (by have := Z0.out; omega))
      obtain ⟨W1, hW1⟩ : ∃ W1, W1 = wr.iterAt W0.heap.size s (pos + (Utf8.decode s pos).2) := ⟨_, rfl⟩
      rw [← hW1] at hnx hit2 hbel2 hrow2
      clear hW1 hit hrow hbel
      have hl2 : pos < (mapTo (shiftB lo hi b) pos s.data.toList).length := by rw [mapTo_length]; exact hl
      have hat : (mapTo (shiftB lo hi b) pos s.data.toList)[pos] = s.data.toList[pos] := by rw [mapTo_at _ _ _ _ hl, if_neg (by omega)]
      have hgl : s.data.toList[pos] = s[pos] := rfl
      have hcell := (hrow2 pos hl2).1
      have hfr := (hrow2 pos hl2).2
      rw [hat] at hcell
      have HR := Lib.hid hrow2
      have HB := Lib.hid hbel2
      have HI := Lib.hid hit2
      clear hat hrow2 hbel2 hit2
      have htl := decode_tail s pos
      by_cases ha : s[pos].toNat < 128
      · have hdec := decode_ascii s pos hp ha
        rw [hdec] at hnx HI htl
        simp only at hnx HI htl
        rw [hgl] at hcell
        clear hdec htl
        generalize hcc : s[pos] = c at hcell hnx ha
        have HC := Lib.hid (hgl.trans hcc); clear hcc hgl
        have hc256 : c.toNat < 256 := c.toNat_lt
        cases a1 : inB c.toNat lo hi
        · have HN : Hid (Row W1 w.heap.size (mapTo (shiftB lo hi b) (pos + 1) s.data.toList)) := by
            refine Lib.hid ?_
            rw [mapTo_skip _ pos (pos + 1) _ (by omega) (fun j hj e1 e2 => by
              obtain rfl : j = pos := by omega
              rw [HC.out]; exact shiftB_out a1)]
            exact HR.out
          have hno : ¬ (lo ≤ (c.toNat : Int) ∧ (c.toNat : Int) ≤ hi) := by simpa [inB] using a1
          by_cases hq : lo ≤ (c.toNat : Int)
          all_goals
            go_wp2
            go_roundw
            case rel => exact ⟨pos + 1, HI.out, HN.out, HB.out⟩
            case measure => rw [iterPos_of HI.out, hpos0.out]; omega
        · have hin := inB_true a1
          have q0 : 0 ≤ (c.toNat : Int) + b := by omega
          have q1 : (c.toNat : Int) + b ≤ 255 := by omega
          have HN : Hid (Row (W1.setCell ⟨w.heap.size, pos, none⟩ (.int .u8 ((c.toNat : Int) + b))) w.heap.size (mapTo (shiftB lo hi b) (pos + 1) s.data.toList)) := by
            refine Lib.hid ?_
            have r := HR.out.store pos hl2 (shiftB lo hi b c)
            rw [shiftB_in a1 q0 q1] at r
            have m := mapTo_set (shiftB lo hi b) pos s.data.toList hl
            rw [HC.out] at m
            rw [m] at r
            exact r
          obtain ⟨hin1, hin2⟩ := hin
          go_wp2
          go_roundw
          case rel => exact ⟨pos + 1, (by rw [Below.heap_setCell _ _ _ _ (by have := Z0.out; simp only; omega)]; exact HI.out), HN.out, HB.out.setCell (Nat.le_refl _) _⟩
          case measure => rw [iterPos_of (by rw [Below.heap_setCell _ _ _ _ (by have := Z0.out; simp only; omega)]; exact HI.out), hpos0.out]; omega
      · have hh := decode_high s pos hp (by omega)
        have HN : Hid (Row W1 w.heap.size (mapTo (shiftB lo hi b) (pos + (Utf8.decode s pos).2) s.data.toList)) := by
          refine Lib.hid ?_
          rw [mapTo_skip _ pos (pos + (Utf8.decode s pos).2) _ (by omega) (fun j hj e1 e2 => by
            refine shiftB_out ?_
            have hjs : j < s.size := by simpa using hj
            have g : s.data.toList[j] = s[j] := rfl
            have : 128 ≤ s[j].toNat := by
              by_cases e : j = pos
              · subst e; omega
              · exact htl j hjs (by omega) e2
            rw [g]; simp only [inB, decide_eq_false_iff_not]; omega)]
          exact HR.out
        clear htl hgl hcell hfr
        generalize hu : (Utf8.decode s pos).1 = u at hnx hh
        generalize hv : (Utf8.decode s pos).2 = v at hnx hh HI HN
        clear hu hv
        have hq : ¬ (u : Int) ≤ hi := by omega
        have hq2 : lo ≤ (u : Int) := by omega
        go_wp2
        go_roundw
        case rel => exact ⟨pos + v, HI.out, HN.out, HB.out⟩
        case measure => rw [iterPos_of HI.out, hpos0.out]; omega
    · have hnx : ∀ ty, (Instr.next (.pointer (some ⟨W0.heap.size, 0, none⟩)) true ty).run Try.prog wr = _ := fun ty => Lib.run_next_end_at wr W0.heap.size s pos ty hit hp
      have HB := Lib.hid hbel
      have hfin : mapTo (shiftB lo hi b) pos s.data.toList = s.data.toList.map (shiftB lo hi b) := mapTo_all _ _ _ (by simp; omega)
      have hbk := Row.back (P := Try.prog) hrow 22 9 5 (grownCap w s.size 0 5) s.size (by rw [mapTo_length]; simp) Try.underlying22 Try.underlying5 Try.underlying9
      rw [hfin] at hbk
      clear hfin hrow hbel hit
      go_wp2
      go_ret
      exact ⟨rfl, HB.out⟩

theorem specLower_any (s : ByteArray) (w : World) (hs : s.size ≤ maxLen) :
    Calls Try.prog 27 #[.string s] w fun e w' => e = .returned (.string ⟨(s.data.toList.map (shiftB 65 90 32)).toArray⟩) ∧ Below w.heap.size w w' := by
  have HS := Lib.hid hs; clear hs
  go_enter Try.func27, Try.ntmps27
  go_wp2_with (go_at_call 54; refine (specShift_any _ _ _ _ _ HS.out (by omega) (by omega) (by omega) (by omega)).mono ?_; rintro e w' ⟨rfl, hb⟩)
  go_ret
  exact ⟨rfl, hb⟩
theorem implLower_any (s : ByteArray) (w : World) (hs : s.size ≤ maxLen) :
    Calls Try.prog 26 #[.string s] w fun e w' => e = .returned (.string ⟨(s.data.toList.map (shiftB 65 90 32)).toArray⟩) ∧ Below w.heap.size w w' := by
  have HS := Lib.hid hs; clear hs
  go_enter Try.func26, Try.ntmps26
  go_wp2_with (go_at_call 53; refine (implShift_any _ _ _ _ _ HS.out (by omega) (by omega) (by omega) (by omega) (by omega) (by omega) (by omega)).mono ?_; rintro e w' ⟨rfl, hb⟩)
  go_ret
  exact ⟨rfl, hb⟩

theorem specUpper_any (s : ByteArray) (w : World) (hs : s.size ≤ maxLen) :
    Calls Try.prog 29 #[.string s] w fun e w' => e = .returned (.string ⟨(s.data.toList.map (shiftB 97 122 (-32))).toArray⟩) ∧ Below w.heap.size w w' := by
  have HS := Lib.hid hs; clear hs
  go_enter Try.func29, Try.ntmps29
  go_wp2_with (go_at_call 54; refine (specShift_any _ _ _ _ _ HS.out (by omega) (by omega) (by omega) (by omega)).mono ?_; rintro e w' ⟨rfl, hb⟩)
  go_ret
  exact ⟨rfl, hb⟩
theorem implUpper_any (s : ByteArray) (w : World) (hs : s.size ≤ maxLen) :
    Calls Try.prog 28 #[.string s] w fun e w' => e = .returned (.string ⟨(s.data.toList.map (shiftB 97 122 (-32))).toArray⟩) ∧ Below w.heap.size w w' := by
  have HS := Lib.hid hs; clear hs
  go_enter Try.func28, Try.ntmps28
  go_wp2_with (go_at_call 53; refine (implShift_any _ _ _ _ _ HS.out (by omega) (by omega) (by omega) (by omega) (by omega) (by omega) (by omega)).mono ?_; rintro e w' ⟨rfl, hb⟩)
  go_ret
  exact ⟨rfl, hb⟩
end Go.Proofs.Ytalobgebdpaecaa.kit
