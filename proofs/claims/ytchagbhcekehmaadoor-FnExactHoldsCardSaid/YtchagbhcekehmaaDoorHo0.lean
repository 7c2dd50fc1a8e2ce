/-
  Contracts of spec.Holds and impl.Holds over this seat's translation. Conditions: the values' texts have at most 1048576 bytes; the table of the powers of ten is as listed.
-/
import Derived.Test.YtchagbhcekehmaaDoorCv0
namespace Go.Proofs.YtchagbhcekehmaaDoor.kit
open Go.ChangeShapes Go.WideShapes Go.ChangeAt Go.RowKit
set_option linter.unusedVariables false

def hoB (l : List UInt8) (n : Int) : Bool := if l == [60] then decide (n < 0) else if l == [60, 61] then decide (n ≤ 0) else if l == [61, 61] then n == 0 else if l == [33, 61] then n != 0 else if l == [62] then decide (0 < n) else if l == [62, 61] then decide (0 ≤ n) else false
set_option maxRecDepth 100000 in
theorem specHo0 (op : ByteArray) (ka : Int) (sa : ByteArray) (na : Int) (kb : Int) (sb : ByteArray) (nb : Int) (w : World) (hsa : sa.size ≤ 1048576) (hsb : sb.size ≤ 1048576) (e0 : (op.toList == [60]) = true) :
    Calls Tryd.prog 47 #[.string op, .agg #[.int .i64 ka, .string sa, .int .i64 na], .agg #[.int .i64 kb, .string sb, .int .i64 nb]] w fun e w' => e = .returned (.bool (hoB op.toList (cvB ka sa na kb sb nb))) ∧ Below w.heap.size w w' := by
  generalize hx : cvB ka sa na kb sb nb = x
  have E := Lib.hid (show hoB op.toList x = (decide (x < 0) : Bool) by simp only [hoB, e0, if_true])
  have C := Lib.hid (show ∀ W, Calls Tryd.prog 45 #[.agg #[.int .i64 ka, .string sa, .int .i64 na], .agg #[.int .i64 kb, .string sb, .int .i64 nb]] W fun e w' => e = .returned (.int .i64 x) ∧ Below W.heap.size W w' from hx ▸ fun W => specCv_any ka sa na kb sb nb W hsa hsb)
  clear hx hsa hsb
  go_enter Tryd.func47, Tryd.ntmps47
  go_wp2_with fail
  refine (C.out _).mono ?_
  rintro e w1 ⟨rfl, hb1⟩
  go_wp2
  go_ret
  exact ⟨ret_bool (by rw [E.out]), (((Below.refl _ _).alloc (Nat.le_refl _) _).alloc (by simp) _).trans (hb1.mono (by simp; omega))⟩
set_option maxRecDepth 100000 in
theorem specHo1 (op : ByteArray) (ka : Int) (sa : ByteArray) (na : Int) (kb : Int) (sb : ByteArray) (nb : Int) (w : World) (hsa : sa.size ≤ 1048576) (hsb : sb.size ≤ 1048576) (e0 : (op.toList == [60]) = false) (e1 : (op.toList == [60, 61]) = true) :
    Calls Tryd.prog 47 #[.string op, .agg #[.int .i64 ka, .string sa, .int .i64 na], .agg #[.int .i64 kb, .string sb, .int .i64 nb]] w fun e w' => e = .returned (.bool (hoB op.toList (cvB ka sa na kb sb nb))) ∧ Below w.heap.size w w' := by
  generalize hx : cvB ka sa na kb sb nb = x
  have E := Lib.hid (show hoB op.toList x = (decide (x ≤ 0) : Bool) by simp only [hoB, e0, e1, if_true, if_false, Bool.false_eq_true])
  have C := Lib.hid (show ∀ W, Calls Tryd.prog 45 #[.agg #[.int .i64 ka, .string sa, .int .i64 na], .agg #[.int .i64 kb, .string sb, .int .i64 nb]] W fun e w' => e = .returned (.int .i64 x) ∧ Below W.heap.size W w' from hx ▸ fun W => specCv_any ka sa na kb sb nb W hsa hsb)
  clear hx hsa hsb
  go_enter Tryd.func47, Tryd.ntmps47
  go_wp2_with fail
  refine (C.out _).mono ?_
  rintro e w1 ⟨rfl, hb1⟩
  go_wp2
  go_ret
  exact ⟨ret_bool (by rw [E.out]), (((Below.refl _ _).alloc (Nat.le_refl _) _).alloc (by simp) _).trans (hb1.mono (by simp; omega))⟩
set_option maxRecDepth 100000 in
theorem specHo2 (op : ByteArray) (ka : Int) (sa : ByteArray) (na : Int) (kb : Int) (sb : ByteArray) (nb : Int) (w : World) (hsa : sa.size ≤ 1048576) (hsb : sb.size ≤ 1048576) (e0 : (op.toList == [60]) = false) (e1 : (op.toList == [60, 61]) = false) (e2 : (op.toList == [61, 61]) = true) :
    Calls Tryd.prog 47 #[.string op, .agg #[.int .i64 ka, .string sa, .int .i64 na], .agg #[.int .i64 kb, .string sb, .int .i64 nb]] w fun e w' => e = .returned (.bool (hoB op.toList (cvB ka sa na kb sb nb))) ∧ Below w.heap.size w w' := by
  generalize hx : cvB ka sa na kb sb nb = x
  have E := Lib.hid (show hoB op.toList x = (x == 0 : Bool) by simp only [hoB, e0, e1, e2, if_true, if_false, Bool.false_eq_true])
  have C := Lib.hid (show ∀ W, Calls Tryd.prog 45 #[.agg #[.int .i64 ka, .string sa, .int .i64 na], .agg #[.int .i64 kb, .string sb, .int .i64 nb]] W fun e w' => e = .returned (.int .i64 x) ∧ Below W.heap.size W w' from hx ▸ fun W => specCv_any ka sa na kb sb nb W hsa hsb)
  clear hx hsa hsb
  go_enter Tryd.func47, Tryd.ntmps47
  go_wp2_with fail
  refine (C.out _).mono ?_
  rintro e w1 ⟨rfl, hb1⟩
  go_wp2
  go_ret
  exact ⟨ret_bool (by rw [E.out]), (((Below.refl _ _).alloc (Nat.le_refl _) _).alloc (by simp) _).trans (hb1.mono (by simp; omega))⟩
set_option maxRecDepth 100000 in
theorem specHo3 (op : ByteArray) (ka : Int) (sa : ByteArray) (na : Int) (kb : Int) (sb : ByteArray) (nb : Int) (w : World) (hsa : sa.size ≤ 1048576) (hsb : sb.size ≤ 1048576) (e0 : (op.toList == [60]) = false) (e1 : (op.toList == [60, 61]) = false) (e2 : (op.toList == [61, 61]) = false) (e3 : (op.toList == [33, 61]) = true) :
    Calls Tryd.prog 47 #[.string op, .agg #[.int .i64 ka, .string sa, .int .i64 na], .agg #[.int .i64 kb, .string sb, .int .i64 nb]] w fun e w' => e = .returned (.bool (hoB op.toList (cvB ka sa na kb sb nb))) ∧ Below w.heap.size w w' := by
  generalize hx : cvB ka sa na kb sb nb = x
  have E := Lib.hid (show hoB op.toList x = (x != 0 : Bool) by simp only [hoB, e0, e1, e2, e3, if_true, if_false, Bool.false_eq_true])
  have C := Lib.hid (show ∀ W, Calls Tryd.prog 45 #[.agg #[.int .i64 ka, .string sa, .int .i64 na], .agg #[.int .i64 kb, .string sb, .int .i64 nb]] W fun e w' => e = .returned (.int .i64 x) ∧ Below W.heap.size W w' from hx ▸ fun W => specCv_any ka sa na kb sb nb W hsa hsb)
  clear hx hsa hsb
  go_enter Tryd.func47, Tryd.ntmps47
  go_wp2_with fail
  refine (C.out _).mono ?_
  rintro e w1 ⟨rfl, hb1⟩
  go_wp2
  go_ret
  exact ⟨ret_bool (by rw [E.out]), (((Below.refl _ _).alloc (Nat.le_refl _) _).alloc (by simp) _).trans (hb1.mono (by simp; omega))⟩
set_option maxRecDepth 100000 in
theorem specHo4 (op : ByteArray) (ka : Int) (sa : ByteArray) (na : Int) (kb : Int) (sb : ByteArray) (nb : Int) (w : World) (hsa : sa.size ≤ 1048576) (hsb : sb.size ≤ 1048576) (e0 : (op.toList == [60]) = false) (e1 : (op.toList == [60, 61]) = false) (e2 : (op.toList == [61, 61]) = false) (e3 : (op.toList == [33, 61]) = false) (e4 : (op.toList == [62]) = true) :
    Calls Tryd.prog 47 #[.string op, .agg #[.int .i64 ka, .string sa, .int .i64 na], .agg #[.int .i64 kb, .string sb, .int .i64 nb]] w fun e w' => e = .returned (.bool (hoB op.toList (cvB ka sa na kb sb nb))) ∧ Below w.heap.size w w' := by
  generalize hx : cvB ka sa na kb sb nb = x
  have E := Lib.hid (show hoB op.toList x = (decide (0 < x) : Bool) by simp only [hoB, e0, e1, e2, e3, e4, if_true, if_false, Bool.false_eq_true])
  have C := Lib.hid (show ∀ W, Calls Tryd.prog 45 #[.agg #[.int .i64 ka, .string sa, .int .i64 na], .agg #[.int .i64 kb, .string sb, .int .i64 nb]] W fun e w' => e = .returned (.int .i64 x) ∧ Below W.heap.size W w' from hx ▸ fun W => specCv_any ka sa na kb sb nb W hsa hsb)
  clear hx hsa hsb
  go_enter Tryd.func47, Tryd.ntmps47
  go_wp2_with fail
  refine (C.out _).mono ?_
  rintro e w1 ⟨rfl, hb1⟩
  go_wp2
  go_ret
  exact ⟨ret_bool (by rw [E.out]), (((Below.refl _ _).alloc (Nat.le_refl _) _).alloc (by simp) _).trans (hb1.mono (by simp; omega))⟩
set_option maxRecDepth 100000 in
theorem specHo5 (op : ByteArray) (ka : Int) (sa : ByteArray) (na : Int) (kb : Int) (sb : ByteArray) (nb : Int) (w : World) (hsa : sa.size ≤ 1048576) (hsb : sb.size ≤ 1048576) (e0 : (op.toList == [60]) = false) (e1 : (op.toList == [60, 61]) = false) (e2 : (op.toList == [61, 61]) = false) (e3 : (op.toList == [33, 61]) = false) (e4 : (op.toList == [62]) = false) (e5 : (op.toList == [62, 61]) = true) :
    Calls Tryd.prog 47 #[.string op, .agg #[.int .i64 ka, .string sa, .int .i64 na], .agg #[.int .i64 kb, .string sb, .int .i64 nb]] w fun e w' => e = .returned (.bool (hoB op.toList (cvB ka sa na kb sb nb))) ∧ Below w.heap.size w w' := by
  generalize hx : cvB ka sa na kb sb nb = x
  have E := Lib.hid (show hoB op.toList x = (decide (0 ≤ x) : Bool) by simp only [hoB, e0, e1, e2, e3, e4, e5, if_true, if_false, Bool.false_eq_true])
  have C := Lib.hid (show ∀ W, Calls Tryd.prog 45 #[.agg #[.int .i64 ka, .string sa, .int .i64 na], .agg #[.int .i64 kb, .string sb, .int .i64 nb]] W fun e w' => e = .returned (.int .i64 x) ∧ Below W.heap.size W w' from hx ▸ fun W => specCv_any ka sa na kb sb nb W hsa hsb)
  clear hx hsa hsb
  go_enter Tryd.func47, Tryd.ntmps47
  go_wp2_with fail
  refine (C.out _).mono ?_
  rintro e w1 ⟨rfl, hb1⟩
  go_wp2
  go_ret
  exact ⟨ret_bool (by rw [E.out]), (((Below.refl _ _).alloc (Nat.le_refl _) _).alloc (by simp) _).trans (hb1.mono (by simp; omega))⟩
set_option maxRecDepth 100000 in
theorem specHo6 (op : ByteArray) (ka : Int) (sa : ByteArray) (na : Int) (kb : Int) (sb : ByteArray) (nb : Int) (w : World) (hsa : sa.size ≤ 1048576) (hsb : sb.size ≤ 1048576) (e0 : (op.toList == [60]) = false) (e1 : (op.toList == [60, 61]) = false) (e2 : (op.toList == [61, 61]) = false) (e3 : (op.toList == [33, 61]) = false) (e4 : (op.toList == [62]) = false) (e5 : (op.toList == [62, 61]) = false) :
    Calls Tryd.prog 47 #[.string op, .agg #[.int .i64 ka, .string sa, .int .i64 na], .agg #[.int .i64 kb, .string sb, .int .i64 nb]] w fun e w' => e = .returned (.bool (hoB op.toList (cvB ka sa na kb sb nb))) ∧ Below w.heap.size w w' := by
  generalize hx : cvB ka sa na kb sb nb = x
  have E := Lib.hid (show hoB op.toList x = (false : Bool) by simp only [hoB, e0, e1, e2, e3, e4, e5, if_false, Bool.false_eq_true])
  have C := Lib.hid (show ∀ W, Calls Tryd.prog 45 #[.agg #[.int .i64 ka, .string sa, .int .i64 na], .agg #[.int .i64 kb, .string sb, .int .i64 nb]] W fun e w' => e = .returned (.int .i64 x) ∧ Below W.heap.size W w' from hx ▸ fun W => specCv_any ka sa na kb sb nb W hsa hsb)
  clear hx hsa hsb
  go_enter Tryd.func47, Tryd.ntmps47
  go_wp2_with fail
  refine (C.out _).mono ?_
  rintro e w1 ⟨rfl, hb1⟩
  go_wp2
  go_ret
  exact ⟨ret_bool (by rw [E.out]), (((Below.refl _ _).alloc (Nat.le_refl _) _).alloc (by simp) _).trans (hb1.mono (by simp; omega))⟩
theorem specHo_any (op : ByteArray) (ka : Int) (sa : ByteArray) (na : Int) (kb : Int) (sb : ByteArray) (nb : Int) (w : World) (hsa : sa.size ≤ 1048576) (hsb : sb.size ≤ 1048576) :
    Calls Tryd.prog 47 #[.string op, .agg #[.int .i64 ka, .string sa, .int .i64 na], .agg #[.int .i64 kb, .string sb, .int .i64 nb]] w fun e w' => e = .returned (.bool (hoB op.toList (cvB ka sa na kb sb nb))) ∧ Below w.heap.size w w' := by
  cases e0 : op.toList == [60]
  rotate_left
  · exact specHo0 op ka sa na kb sb nb w hsa hsb e0
  cases e1 : op.toList == [60, 61]
  rotate_left
  · exact specHo1 op ka sa na kb sb nb w hsa hsb e0 e1
  cases e2 : op.toList == [61, 61]
  rotate_left
  · exact specHo2 op ka sa na kb sb nb w hsa hsb e0 e1 e2
  cases e3 : op.toList == [33, 61]
  rotate_left
  · exact specHo3 op ka sa na kb sb nb w hsa hsb e0 e1 e2 e3
  cases e4 : op.toList == [62]
  rotate_left
  · exact specHo4 op ka sa na kb sb nb w hsa hsb e0 e1 e2 e3 e4
  cases e5 : op.toList == [62, 61]
  rotate_left
  · exact specHo5 op ka sa na kb sb nb w hsa hsb e0 e1 e2 e3 e4 e5
  exact specHo6 op ka sa na kb sb nb w hsa hsb e0 e1 e2 e3 e4 e5
set_option maxRecDepth 100000 in
theorem implHo0 (op : ByteArray) (ka : Int) (sa : ByteArray) (na : Int) (kb : Int) (sb : ByteArray) (nb : Int) (w : World) (hsa : sa.size ≤ 1048576) (hsb : sb.size ≤ 1048576) (ht : Tab w) (e0 : (op.toList == [60]) = true) :
    Calls Tryd.prog 48 #[.string op, .agg #[.int .i64 ka, .string sa, .int .i64 na], .agg #[.int .i64 kb, .string sb, .int .i64 nb]] w fun e w' => e = .returned (.bool (hoB op.toList (cvB ka sa na kb sb nb))) ∧ Below w.heap.size w w' := by
  generalize hx : cvB ka sa na kb sb nb = x
  have E := Lib.hid (show hoB op.toList x = (decide (x < 0) : Bool) by simp only [hoB, e0, if_true])
  have C := Lib.hid (show ∀ W, Tab W → Calls Tryd.prog 46 #[.agg #[.int .i64 ka, .string sa, .int .i64 na], .agg #[.int .i64 kb, .string sb, .int .i64 nb]] W fun e w' => e = .returned (.int .i64 x) ∧ Below W.heap.size W w' from hx ▸ fun W hW => implCv_any ka sa na kb sb nb W hsa hsb hW)
  have HT := Lib.hid (show Tab _ from ht.on (((Below.refl _ _).alloc (Nat.le_refl _) (.cells #[.int .i64 ka, .string sa, .int .i64 na] 44)).alloc (by simp) (.cells #[.int .i64 kb, .string sb, .int .i64 nb] 44)))
  clear ht
  clear hx hsa hsb
  go_enter Tryd.func48, Tryd.ntmps48
  go_wp2_with fail
  refine (C.out _ HT.out).mono ?_
  rintro e w1 ⟨rfl, hb1⟩
  go_wp2
  go_ret
  exact ⟨ret_bool (by rw [E.out]), (((Below.refl _ _).alloc (Nat.le_refl _) _).alloc (by simp) _).trans (hb1.mono (by simp; omega))⟩
set_option maxRecDepth 100000 in
theorem implHo1 (op : ByteArray) (ka : Int) (sa : ByteArray) (na : Int) (kb : Int) (sb : ByteArray) (nb : Int) (w : World) (hsa : sa.size ≤ 1048576) (hsb : sb.size ≤ 1048576) (ht : Tab w) (e0 : (op.toList == [60]) = false) (e1 : (op.toList == [60, 61]) = true) :
    Calls Tryd.prog 48 #[.string op, .agg #[.int .i64 ka, .string sa, .int .i64 na], .agg #[.int .i64 kb, .string sb, .int .i64 nb]] w fun e w' => e = .returned (.bool (hoB op.toList (cvB ka sa na kb sb nb))) ∧ Below w.heap.size w w' := by
  generalize hx : cvB ka sa na kb sb nb = x
  have E := Lib.hid (show hoB op.toList x = (decide (x ≤ 0) : Bool) by simp only [hoB, e0, e1, if_true, if_false, Bool.false_eq_true])
  have C := Lib.hid (show ∀ W, Tab W → Calls Tryd.prog 46 #[.agg #[.int .i64 ka, .string sa, .int .i64 na], .agg #[.int .i64 kb, .string sb, .int .i64 nb]] W fun e w' => e = .returned (.int .i64 x) ∧ Below W.heap.size W w' from hx ▸ fun W hW => implCv_any ka sa na kb sb nb W hsa hsb hW)
  have HT := Lib.hid (show Tab _ from ht.on (((Below.refl _ _).alloc (Nat.le_refl _) (.cells #[.int .i64 ka, .string sa, .int .i64 na] 44)).alloc (by simp) (.cells #[.int .i64 kb, .string sb, .int .i64 nb] 44)))
  clear ht
  clear hx hsa hsb
  go_enter Tryd.func48, Tryd.ntmps48
  go_wp2_with fail
  refine (C.out _ HT.out).mono ?_
  rintro e w1 ⟨rfl, hb1⟩
  go_wp2
  go_ret
  exact ⟨ret_bool (by rw [E.out]), (((Below.refl _ _).alloc (Nat.le_refl _) _).alloc (by simp) _).trans (hb1.mono (by simp; omega))⟩
set_option maxRecDepth 100000 in
theorem implHo2 (op : ByteArray) (ka : Int) (sa : ByteArray) (na : Int) (kb : Int) (sb : ByteArray) (nb : Int) (w : World) (hsa : sa.size ≤ 1048576) (hsb : sb.size ≤ 1048576) (ht : Tab w) (e0 : (op.toList == [60]) = false) (e1 : (op.toList == [60, 61]) = false) (e2 : (op.toList == [61, 61]) = true) :
    Calls Tryd.prog 48 #[.string op, .agg #[.int .i64 ka, .string sa, .int .i64 na], .agg #[.int .i64 kb, .string sb, .int .i64 nb]] w fun e w' => e = .returned (.bool (hoB op.toList (cvB ka sa na kb sb nb))) ∧ Below w.heap.size w w' := by
  generalize hx : cvB ka sa na kb sb nb = x
  have E := Lib.hid (show hoB op.toList x = (x == 0 : Bool) by simp only [hoB, e0, e1, e2, if_true, if_false, Bool.false_eq_true])
  have C := Lib.hid (show ∀ W, Tab W → Calls Tryd.prog 46 #[.agg #[.int .i64 ka, .string sa, .int .i64 na], .agg #[.int .i64 kb, .string sb, .int .i64 nb]] W fun e w' => e = .returned (.int .i64 x) ∧ Below W.heap.size W w' from hx ▸ fun W hW => implCv_any ka sa na kb sb nb W hsa hsb hW)
  have HT := Lib.hid (show Tab _ from ht.on (((Below.refl _ _).alloc (Nat.le_refl _) (.cells #[.int .i64 ka, .string sa, .int .i64 na] 44)).alloc (by simp) (.cells #[.int .i64 kb, .string sb, .int .i64 nb] 44)))
  clear ht
  clear hx hsa hsb
  go_enter Tryd.func48, Tryd.ntmps48
  go_wp2_with fail
  refine (C.out _ HT.out).mono ?_
  rintro e w1 ⟨rfl, hb1⟩
  go_wp2
  go_ret
  exact ⟨ret_bool (by rw [E.out]), (((Below.refl _ _).alloc (Nat.le_refl _) _).alloc (by simp) _).trans (hb1.mono (by simp; omega))⟩
set_option maxRecDepth 100000 in
theorem implHo3 (op : ByteArray) (ka : Int) (sa : ByteArray) (na : Int) (kb : Int) (sb : ByteArray) (nb : Int) (w : World) (hsa : sa.size ≤ 1048576) (hsb : sb.size ≤ 1048576) (ht : Tab w) (e0 : (op.toList == [60]) = false) (e1 : (op.toList == [60, 61]) = false) (e2 : (op.toList == [61, 61]) = false) (e3 : (op.toList == [33, 61]) = true) :
    Calls Tryd.prog 48 #[.string op, .agg #[.int .i64 ka, .string sa, .int .i64 na], .agg #[.int .i64 kb, .string sb, .int .i64 nb]] w fun e w' => e = .returned (.bool (hoB op.toList (cvB ka sa na kb sb nb))) ∧ Below w.heap.size w w' := by
  generalize hx : cvB ka sa na kb sb nb = x
  have E := Lib.hid (show hoB op.toList x = (x != 0 : Bool) by simp only [hoB, e0, e1, e2, e3, if_true, if_false, Bool.false_eq_true])
  have C := Lib.hid (show ∀ W, Tab W → Calls Tryd.prog 46 #[.agg #[.int .i64 ka, .string sa, .int .i64 na], .agg #[.int .i64 kb, .string sb, .int .i64 nb]] W fun e w' => e = .returned (.int .i64 x) ∧ Below W.heap.size W w' from hx ▸ fun W hW => implCv_any ka sa na kb sb nb W hsa hsb hW)
  have HT := Lib.hid (show Tab _ from ht.on (((Below.refl _ _).alloc (Nat.le_refl _) (.cells #[.int .i64 ka, .string sa, .int .i64 na] 44)).alloc (by simp) (.cells #[.int .i64 kb, .string sb, .int .i64 nb] 44)))
  clear ht
  clear hx hsa hsb
  go_enter Tryd.func48, Tryd.ntmps48
  go_wp2_with fail
  refine (C.out _ HT.out).mono ?_
  rintro e w1 ⟨rfl, hb1⟩
  go_wp2
  go_ret
  exact ⟨ret_bool (by rw [E.out]), (((Below.refl _ _).alloc (Nat.le_refl _) _).alloc (by simp) _).trans (hb1.mono (by simp; omega))⟩
set_option maxRecDepth 100000 in
theorem implHo4 (op : ByteArray) (ka : Int) (sa : ByteArray) (na : Int) (kb : Int) (sb : ByteArray) (nb : Int) (w : World) (hsa : sa.size ≤ 1048576) (hsb : sb.size ≤ 1048576) (ht : Tab w) (e0 : (op.toList == [60]) = false) (e1 : (op.toList == [60, 61]) = false) (e2 : (op.toList == [61, 61]) = false) (e3 : (op.toList == [33, 61]) = false) (e4 : (op.toList == [62]) = true) :
    Calls Tryd.prog 48 #[.string op, .agg #[.int .i64 ka, .string sa, .int .i64 na], .agg #[.int .i64 kb, .string sb, .int .i64 nb]] w fun e w' => e = .returned (.bool (hoB op.toList (cvB ka sa na kb sb nb))) ∧ Below w.heap.size w w' := by
  generalize hx : cvB ka sa na kb sb nb = x
  have E := Lib.hid (show hoB op.toList x = (decide (0 < x) : Bool) by simp only [hoB, e0, e1, e2, e3, e4, if_true, if_false, Bool.false_eq_true])
  have C := Lib.hid (show ∀ W, Tab W → Calls Tryd.prog 46 #[.agg #[.int .i64 ka, .string sa, .int .i64 na], .agg #[.int .i64 kb, .string sb, .int .i64 nb]] W fun e w' => e = .returned (.int .i64 x) ∧ Below W.heap.size W w' from hx ▸ fun W hW => implCv_any ka sa na kb sb nb W hsa hsb hW)
  have HT := Lib.hid (show Tab _ from ht.on (((Below.refl _ _).alloc (Nat.le_refl _) (.cells #[.int .i64 ka, .string sa, .int .i64 na] 44)).alloc (by simp) (.cells #[.int .i64 kb, .string sb, .int .i64 nb] 44)))
  clear ht
  clear hx hsa hsb
  go_enter Tryd.func48, Tryd.ntmps48
  go_wp2_with fail
  refine (C.out _ HT.out).mono ?_
  rintro e w1 ⟨rfl, hb1⟩
  go_wp2
  go_ret
  exact ⟨ret_bool (by rw [E.out]), (((Below.refl _ _).alloc (Nat.le_refl _) _).alloc (by simp) _).trans (hb1.mono (by simp; omega))⟩
set_option maxRecDepth 100000 in
theorem implHo5 (op : ByteArray) (ka : Int) (sa : ByteArray) (na : Int) (kb : Int) (sb : ByteArray) (nb : Int) (w : World) (hsa : sa.size ≤ 1048576) (hsb : sb.size ≤ 1048576) (ht : Tab w) (e0 : (op.toList == [60]) = false) (e1 : (op.toList == [60, 61]) = false) (e2 : (op.toList == [61, 61]) = false) (e3 : (op.toList == [33, 61]) = false) (e4 : (op.toList == [62]) = false) (e5 : (op.toList == [62, 61]) = true) :
    Calls Tryd.prog 48 #[.string op, .agg #[.int .i64 ka, .string sa, .int .i64 na], .agg #[.int .i64 kb, .string sb, .int .i64 nb]] w fun e w' => e = .returned (.bool (hoB op.toList (cvB ka sa na kb sb nb))) ∧ Below w.heap.size w w' := by
  generalize hx : cvB ka sa na kb sb nb = x
  have E := Lib.hid (show hoB op.toList x = (decide (0 ≤ x) : Bool) by simp only [hoB, e0, e1, e2, e3, e4, e5, if_true, if_false, Bool.false_eq_true])
  have C := Lib.hid (show ∀ W, Tab W → Calls Tryd.prog 46 #[.agg #[.int .i64 ka, .string sa, .int .i64 na], .agg #[.int .i64 kb, .string sb, .int .i64 nb]] W fun e w' => e = .returned (.int .i64 x) ∧ Below W.heap.size W w' from hx ▸ fun W hW => implCv_any ka sa na kb sb nb W hsa hsb hW)
  have HT := Lib.hid (show Tab _ from ht.on (((Below.refl _ _).alloc (Nat.le_refl _) (.cells #[.int .i64 ka, .string sa, .int .i64 na] 44)).alloc (by simp) (.cells #[.int .i64 kb, .string sb, .int .i64 nb] 44)))
  clear ht
  clear hx hsa hsb
  go_enter Tryd.func48, Tryd.ntmps48
  go_wp2_with fail
  refine (C.out _ HT.out).mono ?_
  rintro e w1 ⟨rfl, hb1⟩
  go_wp2
  go_ret
  exact ⟨ret_bool (by rw [E.out]), (((Below.refl _ _).alloc (Nat.le_refl _) _).alloc (by simp) _).trans (hb1.mono (by simp; omega))⟩
set_option maxRecDepth 100000 in
theorem implHo6 (op : ByteArray) (ka : Int) (sa : ByteArray) (na : Int) (kb : Int) (sb : ByteArray) (nb : Int) (w : World) (hsa : sa.size ≤ 1048576) (hsb : sb.size ≤ 1048576) (ht : Tab w) (e0 : (op.toList == [60]) = false) (e1 : (op.toList == [60, 61]) = false) (e2 : (op.toList == [61, 61]) = false) (e3 : (op.toList == [33, 61]) = false) (e4 : (op.toList == [62]) = false) (e5 : (op.toList == [62, 61]) = false) :
    Calls Tryd.prog 48 #[.string op, .agg #[.int .i64 ka, .string sa, .int .i64 na], .agg #[.int .i64 kb, .string sb, .int .i64 nb]] w fun e w' => e = .returned (.bool (hoB op.toList (cvB ka sa na kb sb nb))) ∧ Below w.heap.size w w' := by
  generalize hx : cvB ka sa na kb sb nb = x
  have E := Lib.hid (show hoB op.toList x = (false : Bool) by simp only [hoB, e0, e1, e2, e3, e4, e5, if_false, Bool.false_eq_true])
  have C := Lib.hid (show ∀ W, Tab W → Calls Tryd.prog 46 #[.agg #[.int .i64 ka, .string sa, .int .i64 na], .agg #[.int .i64 kb, .string sb, .int .i64 nb]] W fun e w' => e = .returned (.int .i64 x) ∧ Below W.heap.size W w' from hx ▸ fun W hW => implCv_any ka sa na kb sb nb W hsa hsb hW)
  have HT := Lib.hid (show Tab _ from ht.on (((Below.refl _ _).alloc (Nat.le_refl _) (.cells #[.int .i64 ka, .string sa, .int .i64 na] 44)).alloc (by simp) (.cells #[.int .i64 kb, .string sb, .int .i64 nb] 44)))
  clear ht
  clear hx hsa hsb
  go_enter Tryd.func48, Tryd.ntmps48
  go_wp2_with fail
  refine (C.out _ HT.out).mono ?_
  rintro e w1 ⟨rfl, hb1⟩
  go_wp2
  go_ret
  exact ⟨ret_bool (by rw [E.out]), (((Below.refl _ _).alloc (Nat.le_refl _) _).alloc (by simp) _).trans (hb1.mono (by simp; omega))⟩
theorem implHo_any (op : ByteArray) (ka : Int) (sa : ByteArray) (na : Int) (kb : Int) (sb : ByteArray) (nb : Int) (w : World) (hsa : sa.size ≤ 1048576) (hsb : sb.size ≤ 1048576) (ht : Tab w) :
    Calls Tryd.prog 48 #[.string op, .agg #[.int .i64 ka, .string sa, .int .i64 na], .agg #[.int .i64 kb, .string sb, .int .i64 nb]] w fun e w' => e = .returned (.bool (hoB op.toList (cvB ka sa na kb sb nb))) ∧ Below w.heap.size w w' := by
  cases e0 : op.toList == [60]
  rotate_left
  · exact implHo0 op ka sa na kb sb nb w hsa hsb ht e0
  cases e1 : op.toList == [60, 61]
  rotate_left
  · exact implHo1 op ka sa na kb sb nb w hsa hsb ht e0 e1
  cases e2 : op.toList == [61, 61]
  rotate_left
  · exact implHo2 op ka sa na kb sb nb w hsa hsb ht e0 e1 e2
  cases e3 : op.toList == [33, 61]
  rotate_left
  · exact implHo3 op ka sa na kb sb nb w hsa hsb ht e0 e1 e2 e3
  cases e4 : op.toList == [62]
  rotate_left
  · exact implHo4 op ka sa na kb sb nb w hsa hsb ht e0 e1 e2 e3 e4
  cases e5 : op.toList == [62, 61]
  rotate_left
  · exact implHo5 op ka sa na kb sb nb w hsa hsb ht e0 e1 e2 e3 e4 e5
  exact implHo6 op ka sa na kb sb nb w hsa hsb ht e0 e1 e2 e3 e4 e5
end Go.Proofs.YtchagbhcekehmaaDoor.kit
