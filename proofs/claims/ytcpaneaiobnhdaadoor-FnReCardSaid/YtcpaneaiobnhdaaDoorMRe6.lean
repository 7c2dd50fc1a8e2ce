/-
 Contracts of spec.l04Set and impl.ascends over this seat's translation: whether bytes ascend. Conditions: each theorem names its own.
-/
import Derived.Test.YtcpaneaiobnhdaaDoorMRe5
import Derived.Deep.QuietTactic
import Derived.BigQuiet
import Derived.Test.YtcpaneaiobnhdaaDoorMInfo
namespace Go.Proofs.YtcpaneaiobnhdaaDoor.kit
open Go.ChangeShapes Go.WideShapes Go.ChangeAt Go.RowKit
set_option linter.unusedVariables false

theorem belowK {B : Nat} {a w : World} (h : Below B a w) (n : Nat) : Below B a (w.drewN n) := ⟨h.os, h.tape, h.output, h.size, h.block⟩
theorem RT.asc_iff : ∀ (l : List UInt8), RT.asc l = true ↔ ∀ (j : Nat) (h : j + 1 < l.length), (l[j]'(by omega)).toNat < (l[j + 1]).toNat
 | [] => by simp [RT.asc]
 | [a] => by simp [RT.asc]
 | a :: b :: l => by
  rw [RT.asc, Bool.and_eq_true, decide_eq_true_eq, RT.asc_iff (b :: l)]
  constructor
  ·rintro ⟨h1, h2⟩ j hj
   cases j with
   | zero => simpa using h1
   | succ j => exact h2 j (by simp only [List.length_cons] at *; omega)
  ·intro h
   exact ⟨h 0 (by simp), fun j hj => h (j + 1) (by simp only [List.length_cons] at *; omega)⟩
theorem asc_start (l : List UInt8) : RT.asc (l.take 1) = true := by
 rw [RT.asc_iff]; intro j h; simp at h; omega
theorem asc_next {s : ByteArray} {j k : Nat} (hk : j + 1 = k) (hj : k < s.size) (hj' : j < s.size) (h : RT.asc (s.data.toList.take k) = true) (hc : ¬ s[k].toNat ≤ s[j].toNat) : RT.asc (s.data.toList.take (k + 1)) = true := by
 subst hk
 rw [RT.asc_iff] at *
 intro i hi
 have hl : s.data.toList.length = s.size := by simp
 simp only [List.length_take] at hi h
 by_cases c : i = j
 ·subst c
  simp only [List.getElem_take]
  have e1 : s.data.toList[i]'(by omega) = s[i]'(by omega) := rfl
  have e2 : s.data.toList[i + 1]'(by omega) = s[i + 1] := rfl
  rw [e1, e2]; omega
 ·have := h i (by omega)
  simpa only [List.getElem_take] using this
theorem asc_no {s : ByteArray} {j k : Nat} (hk : j + 1 = k) (hj : k < s.size) (hj' : j < s.size) (hc : s[k].toNat ≤ s[j].toNat) : RT.asc s.data.toList = false := by
 subst hk
 cases h : RT.asc s.data.toList
 ·rfl
 ·rw [RT.asc_iff] at h
  have hl : s.data.toList.length = s.size := by simp
  have := h j (by omega)
  have e1 : s.data.toList[j]'(by omega) = s[j]'(by omega) := rfl
  have e2 : s.data.toList[j + 1]'(by omega) = s[j + 1] := rfl
  rw [e1, e2] at this; omega
theorem asc_one {s : ByteArray} (h : ¬ 1 < s.size) : RT.asc s.data.toList = true := by
 rw [RT.asc_iff]; intro j hj; have hl : s.data.toList.length = s.size := by simp
 omega
theorem asc_in {s : ByteArray} (h : RT.asc s.data.toList = true) : inB (s.size : Int) 1 256 = !s.data.toList.isEmpty := by
 have h1 := RT.asc_len _ h
 have hl : s.data.toList.length = s.size := by simp
 by_cases c : s.size = 0
 ·have := empty_of_size c
  rw [ByteArray.toList_eq] at this
  simp [inB, this, c]
 ·have := not_empty_of_size c
  rw [ByteArray.toList_eq] at this
  simp [inB, this]; omega
theorem isE (s : ByteArray) : s.toList.isEmpty = s.data.toList.isEmpty := by rw [ByteArray.toList_eq]
set_option maxRecDepth 100000 in
set_option maxHeartbeats 1000000 in
theorem ascends_any (s : ByteArray) (w : World) (hs : s.size ≤ 1048576) :
  Calls Tryd.prog 58 #[.string s] w fun e w' => e = .returned (.bool (RT.asc s.data.toList && !s.data.toList.isEmpty)) ∧ Below w.heap.size w w' := by
 have H1 := Lib.hid (asc_start s.data.toList)
 go_enter Tryd.func58, Tryd.ntmps58
 go_wp2_with fail
 go_loopw [3] (fun i wr => ∃ k : Nat, 1 ≤ k ∧ (k ≤ s.size ∨ k = 1) ∧ i = .int .i64 (k : Int) ∧ RT.asc (s.data.toList.take k) = true ∧ Below w.heap.size w wr) (fun i _ => s.size - (intOf i).toNat)
 case atStart => exact ⟨1, by omega, by omega, rfl, H1.out, Below.refl _ _⟩
 case round =>
  obtain ⟨k, h1, h2, rfl, h3, hb⟩ := hrel
  have H3 := Lib.hid h3
  have HB := Lib.hid hb
  clear h3 hb
  by_cases hlt : k < s.size
  ·obtain ⟨j, hjk⟩ : ∃ j, j + 1 = k := ⟨k - 1, by omega⟩
   have hj : j < s.size := by omega
   have hw : IntKind.i64.wrap ((k : Int) - 1) = (j : Int) := by rw [IntKind.wrap_i64]; omega
   have hj0 : (0 : Int) ≤ j := by omega
   have hj1 : (j : Int) < s.size := by omega
   have hk0 : (0 : Int) ≤ (k : Int) := by omega
   have hk1 : (k : Int) < s.size := by omega
   have HN := Lib.hid (fun hc => asc_next hjk hlt hj H3.out hc)
   have HQ := Lib.hid (fun hc => asc_no hjk hlt hj hc)
   clear hjk
   by_cases hc : s[k].toNat ≤ s[j].toNat
   ·go_wp2_with fail
    go_quiet (fail)
    go_wp2_with fail
    go_ret
    exact ⟨ret_bool (by rw [HQ.out hc]; rfl), belowK HB.out _⟩
   ·go_wp2_with fail
    go_quiet (fail)
    go_wp2_with fail
    go_roundw
    case rel => exact ⟨k + 1, by omega, by omega, by go_num, HN.out hc, belowK HB.out _⟩
    case measure => simp [intOf]; omega
  ·have ha : RT.asc s.data.toList = true := by
    by_cases c : 1 < s.size
    ·have h4 := H3.out
     rwa [take_all s k (by omega)] at h4
    ·exact asc_one c
   have HA := Lib.hid ha
   clear ha
   have HE := Lib.hid (isE s)
   go_wp2_with fail
   go_ret
   exact ⟨ret_bool (by rw [HA.out, ← HE.out]; simp), HB.out⟩
set_option maxRecDepth 100000 in
set_option maxHeartbeats 1000000 in
theorem l04Set_any (s : ByteArray) (w : World) (hs : s.size ≤ 1048576) :
  Calls Tryd.prog 60 #[.string s] w fun e w' => e = .returned (.bool (RT.asc s.data.toList && !s.data.toList.isEmpty)) ∧ Below w.heap.size w w' := by
 have H1 := Lib.hid (asc_start s.data.toList)
 go_enter Tryd.func60, Tryd.ntmps60
 go_wp2_with fail
 go_loopw [3] (fun i wr => ∃ k : Nat, 1 ≤ k ∧ (k ≤ s.size ∨ k = 1) ∧ i = .int .i64 (k : Int) ∧ RT.asc (s.data.toList.take k) = true ∧ Below w.heap.size w wr) (fun i _ => s.size - (intOf i).toNat)
 case atStart => exact ⟨1, by omega, by omega, rfl, H1.out, Below.refl _ _⟩
 case round =>
  obtain ⟨k, h1, h2, rfl, h3, hb⟩ := hrel
  have H3 := Lib.hid h3
  have HB := Lib.hid hb
  clear h3 hb
  by_cases hlt : k < s.size
  ·obtain ⟨j, hjk⟩ : ∃ j, j + 1 = k := ⟨k - 1, by omega⟩
   have hj : j < s.size := by omega
   have hw : IntKind.i64.wrap ((k : Int) - 1) = (j : Int) := by rw [IntKind.wrap_i64]; omega
   have hj0 : (0 : Int) ≤ j := by omega
   have hj1 : (j : Int) < s.size := by omega
   have hk0 : (0 : Int) ≤ (k : Int) := by omega
   have hk1 : (k : Int) < s.size := by omega
   have HN := Lib.hid (fun hc => asc_next hjk hlt hj H3.out hc)
   have HQ := Lib.hid (fun hc => asc_no hjk hlt hj hc)
   clear hjk
   by_cases hc : s[k].toNat ≤ s[j].toNat
   ·go_wp2_with fail
    go_quiet (fail)
    go_wp2_with fail
    go_ret
    exact ⟨ret_bool (by rw [HQ.out hc]; rfl), belowK HB.out _⟩
   ·go_wp2_with fail
    go_quiet (fail)
    go_wp2_with fail
    go_roundw
    case rel => exact ⟨k + 1, by omega, by omega, by go_num, HN.out hc, belowK HB.out _⟩
    case measure => simp [intOf]; omega
  ·have ha : RT.asc s.data.toList = true := by
    by_cases c : 1 < s.size
    ·have h4 := H3.out
     rwa [take_all s k (by omega)] at h4
    ·exact asc_one c
   have HA := Lib.hid ha
   clear ha
   go_wp2_with fail
   refine (in_any _ _ _ _).mono ?_
   rintro e w1 ⟨rfl, rfl⟩
   go_wp2_with fail
   go_ret
   exact ⟨ret_bool (by rw [HA.out, asc_in HA.out]; rfl), HB.out⟩
end Go.Proofs.YtcpaneaiobnhdaaDoor.kit
/-
 Bytes told in runs, and the contract of spec.l04Runs over this seat's translation. Conditions: each theorem names its own.
-/
namespace Go.Proofs.YtcpaneaiobnhdaaDoor.kit
open Go.ChangeShapes Go.WideShapes Go.ChangeAt Go.RowKit
set_option linter.unusedVariables false

def foll (b c : UInt8) : Bool := c == b + 1
/-- Where a run ends that has come to e. -/
def rEnd (l : List UInt8) (e : Nat) : Nat := if 0 < e ∧ e < l.length ∧ foll (l.getD (e - 1) 0) (l.getD e 0) = true then rEnd l (e + 1) else e
termination_by l.length - e
def piece (l : List UInt8) (i e : Nat) : List UInt8 := if 3 ≤ e - i then [l.getD i 0, 45, l.getD (e - 1) 0] else (l.drop i).take (e - i)
theorem rEnd_ge (l : List UInt8) (e : Nat) : e ≤ rEnd l e := by
 rw [rEnd]
 split
 ·have := rEnd_ge l (e + 1); omega
 ·omega
termination_by l.length - e
theorem rEnd_le (l : List UInt8) (e : Nat) (h : e ≤ l.length) : rEnd l e ≤ l.length := by
 rw [rEnd]
 split
 ·exact rEnd_le l (e + 1) (by omega)
 ·exact h
termination_by l.length - e
theorem rEnd_go {l : List UInt8} {e : Nat} (h0 : 0 < e) (h1 : e < l.length) (h : foll (l.getD (e - 1) 0) (l.getD e 0) = true) : rEnd l e = rEnd l (e + 1) := by
 conv => lhs; rw [rEnd, if_pos ⟨h0, h1, h⟩]
theorem rEnd_stop {l : List UInt8} {e : Nat} (h : e < l.length → foll (l.getD (e - 1) 0) (l.getD e 0) = false) : rEnd l e = e := by
 rw [rEnd, if_neg (by rintro ⟨_, h1, h2⟩; rw [h h1] at h2; cases h2)]
def rTxt (l : List UInt8) (i : Nat) : List UInt8 := if i < l.length then piece l i (rEnd l (i + 1)) ++ rTxt l (rEnd l (i + 1)) else []
termination_by l.length - i
decreasing_by
 have := rEnd_ge l (i + 1); omega
theorem rTxt_go {l : List UInt8} {i : Nat} (h : i < l.length) : rTxt l i = piece l i (rEnd l (i + 1)) ++ rTxt l (rEnd l (i + 1)) := by
 conv => lhs; rw [rTxt, if_pos h]
theorem rTxt_end {l : List UInt8} {i : Nat} (h : ¬ i < l.length) : rTxt l i = [] := by rw [rTxt, if_neg h]
theorem wrap_next (b : UInt8) : IntKind.u8.wrap ((b.toNat : Int) + 1) = ((b + 1).toNat : Int) := by
 have := b.toNat_lt
 rw [UInt8.toNat_add]
 simp only [IntKind.wrap, IntKind.bits, IntKind.signed]
 simp
theorem getD_byte (s : ByteArray) (k : Nat) (h : k < s.size) : s.data.toList.getD k 0 = s[k] := by
 rw [List.getD_eq_getElem?_getD, List.getElem?_eq_getElem (by simpa using h)]; rfl
theorem foll_at (s : ByteArray) (k j : Nat) (hk : k < s.size) (hj : j < s.size) : ((s[j].toNat : Int) == ((s[k].toNat : Int) + 1) % 256) = foll s[k] s[j] := by
 have h1 := wrap_next s[k]
 have h2 : ((s[k].toNat : Int) + 1) % 256 = ((s[k] + 1).toNat : Int) := by
  have := s[k].toNat_lt
  rw [UInt8.toNat_add]; simp
 rw [h2, foll, Bool.eq_iff_iff]
 simp only [beq_iff_eq]
 constructor
 ·intro h; exact UInt8.toNat.inj (by omega)
 ·intro h; rw [h]
theorem app_ext (l : List UInt8) (s : ByteArray) (i j : Nat) : (⟨l.toArray⟩ : ByteArray) ++ s.extract i j = ⟨(l ++ (s.data.toList.drop i).take (j - i)).toArray⟩ := by
 apply ByteArray.ext
 simp only [ByteArray.data_append, ByteArray.data_extract]
 apply Array.ext'
 simp [Array.toList_extract, List.extract_eq_take_drop]
theorem app_lit (l m : List UInt8) : (⟨l.toArray⟩ : ByteArray) ++ ⟨m.toArray⟩ = ⟨(l ++ m).toArray⟩ := by
 apply ByteArray.ext
 simp only [ByteArray.data_append]
 simp
theorem one_at (s : ByteArray) (i : Nat) (h : i < s.size) : (s.data.toList.drop i).take 1 = [s.data.toList.getD i 0] := by
 rw [getD_byte s i h, List.drop_eq_getElem_cons (by simpa using h)]; rfl
theorem piece_long {l : List UInt8} {i e : Nat} (h : 3 ≤ e - i) : piece l i e = [l.getD i 0, 45, l.getD (e - 1) 0] := by rw [piece, if_pos h]
theorem piece_short {l : List UInt8} {i e : Nat} (h : ¬ 3 ≤ e - i) : piece l i e = (l.drop i).take (e - i) := by rw [piece, if_neg h]
end Go.Proofs.YtcpaneaiobnhdaaDoor.kit
