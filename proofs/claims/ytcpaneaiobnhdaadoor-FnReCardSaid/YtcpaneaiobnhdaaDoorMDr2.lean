/-
 Contracts of the draws for expressions of texts over this seat's translation: DrawReOk, DrawReText, DrawLeast, DrawParseRe. Conditions: the code has at most 1048576 bytes.
-/
import Derived.Test.YtcpaneaiobnhdaaDoorMDr0
import Derived.Test.YtcpaneaiobnhdaaDoorMRt14
namespace Go.Proofs.YtcpaneaiobnhdaaDoor.kit
open Go.ChangeShapes Go.WideShapes Go.ChangeAt Go.RowKit
set_option linter.unusedVariables false
set_option linter.unusedSimpArgs false
open PR

def DrawnT (w : World) (e : Ending) (w' : World) : Prop := ∃ (t : RT) (a : Option Addr) (c : Nat), e = .returned (reV t a c) ∧ Kids 0 w' t.kids a ∧ RT.cost t ≤ 1000 ∧ Below w.heap.size w w'
def DrawnS (w : World) (e : Ending) (w' : World) : Prop := ∃ s : ByteArray, s.size ≤ 20000 ∧ e = .returned (.string s) ∧ Below w.heap.size w w'
def prL : List ByteArray := [⟨#[]⟩, ⟨#[97, 124, 98]⟩, ⟨#[97, 42, 42]⟩, ⟨#[42, 97]⟩, ⟨#[40, 97]⟩, ⟨#[97, 41]⟩, ⟨#[91, 93, 97, 93]⟩, ⟨#[91, 94, 93, 97, 45, 93]⟩, ⟨#[91, 98, 45, 97, 93]⟩, ⟨#[91, 97]⟩, ⟨#[97, 123, 50, 44, 49, 125]⟩, ⟨#[97, 123, 51, 125]⟩, ⟨#[97, 123, 44, 50, 125]⟩, ⟨#[97, 123, 49, 44, 51]⟩, ⟨#[97, 92]⟩, ⟨#[40, 41]⟩, ⟨#[94, 36]⟩, ⟨#[97, 124, 124, 98]⟩, ⟨#[91, 97, 45, 99, 45, 101, 93]⟩, ⟨#[40, 40, 40, 40, 40, 40, 40, 40, 40, 40, 40, 40, 97, 41, 41, 41, 41, 41, 41, 41, 41, 41, 41, 41, 41]⟩, ⟨#[40, 40, 40, 40, 40, 40, 40, 40, 40, 40, 40, 40, 40, 97, 41, 41, 41, 41, 41, 41, 41, 41, 41, 41, 41, 41, 41]⟩, ⟨#[91, 94, 94, 93]⟩, ⟨#[91, 97, 45, 93]⟩, ⟨#[92, 46]⟩, ⟨#[97, 123, 49, 50, 125]⟩, ⟨#[120, 123, 50, 44, 125]⟩]
theorem prL_short : ∀ z ∈ prL, Short 30 z := by unfold prL Short; decide
set_option maxRecDepth 100000 in
set_option maxHeartbeats 1500000 in
theorem drawReOk_any (a : Option Addr) (n cap : Nat) (w : World) (hn : n ≤ 1048576) (hc : Code8 w a n) : Calls Tryd.prog 5 #[.slice a n cap] w (DrawnT w) := by
 have b1 : Below w.heap.size w (w.alloc (.cells #[.int .i64 0, .string ⟨#[]⟩, .bool false, .int .i64 0, .int .i64 0, .slice none 0 0] 26)) := (Below.refl w.heap.size w).alloc (Nat.le_refl _) _
 have HC : Hid (Code8 (w.alloc (.cells #[.int .i64 0, .string ⟨#[]⟩, .bool false, .int .i64 0, .int .i64 0, .slice none 0 0] 26)) a n) := Lib.hid (hc.kept b1)
 have S2 : Hid (Six (w.alloc (.cells #[.int .i64 0, .string ⟨#[]⟩, .bool false, .int .i64 0, .int .i64 0, .slice none 0 0] 26)) w.heap.size (PR.leaf 0) none 0) := Lib.hid (heap_alloc_new w (.cells #[.int .i64 0, .string ⟨#[]⟩, .bool false, .int .i64 0, .int .i64 0, .slice none 0 0] 26))
 have B1 := Lib.hid b1
 clear b1 hc
 go_enter Tryd.func5, Tryd.ntmps5
 go_wp2_with fail
 refine (new_any a n cap _ hn HC.out).mono ?_
 rintro e w1 ⟨rfl, c1, hb1⟩
 have e1 : (w.alloc (.cells #[.int .i64 0, .string ⟨#[]⟩, .bool false, .int .i64 0, .int .i64 0, .slice none 0 0] 26)).heap.size = w.heap.size + 1 := by simp
 have S2 := Lib.hid (S2.out.kept hb1)
 have B1 := Lib.hid (B1.out.trans (hb1.mono B1.out.size))
 rw [e1] at c1
 try rw [e1]
 clear hb1 e1
 have C1 := Lib.hid c1
 clear c1
 go_wp2_with fail
 refine (any_any (w.heap.size + 1) _ C1.out).mono ?_
 rintro e w2 ⟨T, ta, tc, tF, rfl, k1, l1, n1, c0, c1, o1⟩
 have hl1 := C1.out.lt
 have S2 := Lib.hid (S2.out.only o1 (by omega))
 have B1 := Lib.hid (B1.out.trans ((o1.below hl1).mono (by omega)))
 have K1 := Lib.hid k1
 have L1 := Lib.hid l1
 have HC0 := Lib.hid c0
 clear k1 l1 n1 c0 c1 o1 C1
 unfold reV
 obtain ⟨z0, z1, z2, z3, z4, z5, z6⟩ := S2.out.cells
 have z60 := z6 0
 have z61 := z6 1
 have z62 := z6 2
 have z63 := z6 3
 have z64 := z6 4
 have z65 := z6 5
 clear z6
 have h6 : Lk (Six (put6 w2 w.heap.size (.int .i64 T.kind) (.string T.set) (.bool T.neg) (.int .i64 T.low) (.int .i64 T.high) (.slice ta T.kids.length tc)) w.heap.size T ta tc) := Lk.mk (S2.out.put T ta tc)
 have PO := Lk.mk (put6_below B1.out w.heap.size (.int .i64 T.kind) (.string T.set) (.bool T.neg) (.int .i64 T.low) (.int .i64 T.high) (.slice ta T.kids.length tc) (Nat.le_refl _))
 have PK := Lk.mk ((K1.out.put w.heap.size (fun q => by have := L1.out _ q; omega) (.int .i64 T.kind) (.string T.set) (.bool T.neg) (.int .i64 T.low) (.int .i64 T.high) (.slice ta T.kids.length tc)).kids (fun _ _ => Nat.zero_le _))
 go_wp2_with fail
 change bodyPost _ _ _ _ _ (put6 w2 w.heap.size (.int .i64 T.kind) (.string T.set) (.bool T.neg) (.int .i64 T.low) (.int .i64 T.high) (.slice ta T.kids.length tc))
 generalize put6 w2 w.heap.size (.int .i64 T.kind) (.string T.set) (.bool T.neg) (.int .i64 T.low) (.int .i64 T.high) (.slice ta T.kids.length tc) = W at h6 PO PK ⊢
 obtain ⟨y0, y1, y2, y3, y4, y5, _⟩ := h6.out.cells
 replace y0 : _ = some (Value.int .i64 T.kind) := y0
 replace y1 : _ = some (Value.string T.set) := y1
 replace y2 : _ = some (Value.bool T.neg) := y2
 replace y3 : _ = some (Value.int .i64 T.low) := y3
 replace y4 : _ = some (Value.int .i64 T.high) := y4
 replace y5 : _ = some (Value.slice ta T.kids.length tc) := y5
 refine bodyPost_ret (v := .agg #[.int .i64 T.kind, .string T.set, .bool T.neg, .int .i64 T.low, .int .i64 T.high, .slice ta T.kids.length tc]) (by simp [results, Tryd.results5, go_sem, y0, y1, y2, y3, y4, y5]) rfl ?_
 exact ⟨T, ta, tc, rfl, PK.out, by have := HC0.out; omega, PO.out⟩
set_option maxRecDepth 100000 in
set_option maxHeartbeats 1500000 in
theorem drawReText_any (a : Option Addr) (n cap : Nat) (w : World) (hn : n ≤ 1048576) (hc : Code8 w a n) : Calls Tryd.prog 9 #[.slice a n cap] w (DrawnT w) := by
 have b1 : Below w.heap.size w (w.alloc (.cells #[.int .i64 0, .string ⟨#[]⟩, .bool false, .int .i64 0, .int .i64 0, .slice none 0 0] 26)) := (Below.refl w.heap.size w).alloc (Nat.le_refl _) _
 have HC : Hid (Code8 (w.alloc (.cells #[.int .i64 0, .string ⟨#[]⟩, .bool false, .int .i64 0, .int .i64 0, .slice none 0 0] 26)) a n) := Lib.hid (hc.kept b1)
 have S2 : Hid (Six (w.alloc (.cells #[.int .i64 0, .string ⟨#[]⟩, .bool false, .int .i64 0, .int .i64 0, .slice none 0 0] 26)) w.heap.size (PR.leaf 0) none 0) := Lib.hid (heap_alloc_new w (.cells #[.int .i64 0, .string ⟨#[]⟩, .bool false, .int .i64 0, .int .i64 0, .slice none 0 0] 26))
 have B1 := Lib.hid b1
 clear b1 hc
 go_enter Tryd.func9, Tryd.ntmps9
 go_wp2_with fail
 refine (new_any a n cap _ hn HC.out).mono ?_
 rintro e w1 ⟨rfl, c1, hb1⟩
 have e1 : (w.alloc (.cells #[.int .i64 0, .string ⟨#[]⟩, .bool false, .int .i64 0, .int .i64 0, .slice none 0 0] 26)).heap.size = w.heap.size + 1 := by simp
 have S2 := Lib.hid (S2.out.kept hb1)
 have B1 := Lib.hid (B1.out.trans (hb1.mono B1.out.size))
 rw [e1] at c1
 try rw [e1]
 clear hb1 e1
 have C1 := Lib.hid c1
 clear c1
 go_wp2_with fail
 refine (any_any (w.heap.size + 1) _ C1.out).mono ?_
 rintro e w2 ⟨T, ta, tc, tF, rfl, k1, l1, n1, c0, c1, o1⟩
 have hl1 := C1.out.lt
 have S2 := Lib.hid (S2.out.only o1 (by omega))
 have B1 := Lib.hid (B1.out.trans ((o1.below hl1).mono (by omega)))
 have K1 := Lib.hid k1
 have L1 := Lib.hid l1
 have HC0 := Lib.hid c0
 clear k1 l1 n1 c0 c1 o1 C1
 unfold reV
 obtain ⟨z0, z1, z2, z3, z4, z5, z6⟩ := S2.out.cells
 have z60 := z6 0
 have z61 := z6 1
 have z62 := z6 2
 have z63 := z6 3
 have z64 := z6 4
 have z65 := z6 5
 clear z6
 have h6 : Lk (Six (put6 w2 w.heap.size (.int .i64 T.kind) (.string T.set) (.bool T.neg) (.int .i64 T.low) (.int .i64 T.high) (.slice ta T.kids.length tc)) w.heap.size T ta tc) := Lk.mk (S2.out.put T ta tc)
 have PO := Lk.mk (put6_below B1.out w.heap.size (.int .i64 T.kind) (.string T.set) (.bool T.neg) (.int .i64 T.low) (.int .i64 T.high) (.slice ta T.kids.length tc) (Nat.le_refl _))
 have PK := Lk.mk ((K1.out.put w.heap.size (fun q => by have := L1.out _ q; omega) (.int .i64 T.kind) (.string T.set) (.bool T.neg) (.int .i64 T.low) (.int .i64 T.high) (.slice ta T.kids.length tc)).kids (fun _ _ => Nat.zero_le _))
 go_wp2_with fail
 change bodyPost _ _ _ _ _ (put6 w2 w.heap.size (.int .i64 T.kind) (.string T.set) (.bool T.neg) (.int .i64 T.low) (.int .i64 T.high) (.slice ta T.kids.length tc))
 generalize put6 w2 w.heap.size (.int .i64 T.kind) (.string T.set) (.bool T.neg) (.int .i64 T.low) (.int .i64 T.high) (.slice ta T.kids.length tc) = W at h6 PO PK ⊢
 obtain ⟨y0, y1, y2, y3, y4, y5, _⟩ := h6.out.cells
 replace y0 : _ = some (Value.int .i64 T.kind) := y0
 replace y1 : _ = some (Value.string T.set) := y1
 replace y2 : _ = some (Value.bool T.neg) := y2
 replace y3 : _ = some (Value.int .i64 T.low) := y3
 replace y4 : _ = some (Value.int .i64 T.high) := y4
 replace y5 : _ = some (Value.slice ta T.kids.length tc) := y5
 refine bodyPost_ret (v := .agg #[.int .i64 T.kind, .string T.set, .bool T.neg, .int .i64 T.low, .int .i64 T.high, .slice ta T.kids.length tc]) (by simp [results, Tryd.results9, go_sem, y0, y1, y2, y3, y4, y5]) rfl ?_
 exact ⟨T, ta, tc, rfl, PK.out, by have := HC0.out; omega, PO.out⟩
set_option maxRecDepth 100000 in
set_option maxHeartbeats 1500000 in
theorem drawLeast_any (a : Option Addr) (n cap : Nat) (w : World) (hn : n ≤ 1048576) (hc : Code8 w a n) : Calls Tryd.prog 11 #[.slice a n cap] w (DrawnT w) := by
 have b1 : Below w.heap.size w (w.alloc (.cells #[.int .i64 0, .string ⟨#[]⟩, .bool false, .int .i64 0, .int .i64 0, .slice none 0 0] 26)) := (Below.refl w.heap.size w).alloc (Nat.le_refl _) _
 have HC : Hid (Code8 (w.alloc (.cells #[.int .i64 0, .string ⟨#[]⟩, .bool false, .int .i64 0, .int .i64 0, .slice none 0 0] 26)) a n) := Lib.hid (hc.kept b1)
 have S2 : Hid (Six (w.alloc (.cells #[.int .i64 0, .string ⟨#[]⟩, .bool false, .int .i64 0, .int .i64 0, .slice none 0 0] 26)) w.heap.size (PR.leaf 0) none 0) := Lib.hid (heap_alloc_new w (.cells #[.int .i64 0, .string ⟨#[]⟩, .bool false, .int .i64 0, .int .i64 0, .slice none 0 0] 26))
 have B1 := Lib.hid b1
 clear b1 hc
 go_enter Tryd.func11, Tryd.ntmps11
 go_wp2_with fail
 refine (new_any a n cap _ hn HC.out).mono ?_
 rintro e w1 ⟨rfl, c1, hb1⟩
 have e1 : (w.alloc (.cells #[.int .i64 0, .string ⟨#[]⟩, .bool false, .int .i64 0, .int .i64 0, .slice none 0 0] 26)).heap.size = w.heap.size + 1 := by simp
 have S2 := Lib.hid (S2.out.kept hb1)
 have B1 := Lib.hid (B1.out.trans (hb1.mono B1.out.size))
 rw [e1] at c1
 try rw [e1]
 clear hb1 e1
 have C1 := Lib.hid c1
 clear c1
 go_wp2_with fail
 refine (any_any (w.heap.size + 1) _ C1.out).mono ?_
 rintro e w2 ⟨T, ta, tc, tF, rfl, k1, l1, n1, c0, c1, o1⟩
 have hl1 := C1.out.lt
 have S2 := Lib.hid (S2.out.only o1 (by omega))
 have B1 := Lib.hid (B1.out.trans ((o1.below hl1).mono (by omega)))
 have K1 := Lib.hid k1
 have L1 := Lib.hid l1
 have HC0 := Lib.hid c0
 clear k1 l1 n1 c0 c1 o1 C1
 unfold reV
 obtain ⟨z0, z1, z2, z3, z4, z5, z6⟩ := S2.out.cells
 have z60 := z6 0
 have z61 := z6 1
 have z62 := z6 2
 have z63 := z6 3
 have z64 := z6 4
 have z65 := z6 5
 clear z6
 have h6 : Lk (Six (put6 w2 w.heap.size (.int .i64 T.kind) (.string T.set) (.bool T.neg) (.int .i64 T.low) (.int .i64 T.high) (.slice ta T.kids.length tc)) w.heap.size T ta tc) := Lk.mk (S2.out.put T ta tc)
 have PO := Lk.mk (put6_below B1.out w.heap.size (.int .i64 T.kind) (.string T.set) (.bool T.neg) (.int .i64 T.low) (.int .i64 T.high) (.slice ta T.kids.length tc) (Nat.le_refl _))
 have PK := Lk.mk ((K1.out.put w.heap.size (fun q => by have := L1.out _ q; omega) (.int .i64 T.kind) (.string T.set) (.bool T.neg) (.int .i64 T.low) (.int .i64 T.high) (.slice ta T.kids.length tc)).kids (fun _ _ => Nat.zero_le _))
 go_wp2_with fail
 change bodyPost _ _ _ _ _ (put6 w2 w.heap.size (.int .i64 T.kind) (.string T.set) (.bool T.neg) (.int .i64 T.low) (.int .i64 T.high) (.slice ta T.kids.length tc))
 generalize put6 w2 w.heap.size (.int .i64 T.kind) (.string T.set) (.bool T.neg) (.int .i64 T.low) (.int .i64 T.high) (.slice ta T.kids.length tc) = W at h6 PO PK ⊢
 obtain ⟨y0, y1, y2, y3, y4, y5, _⟩ := h6.out.cells
 replace y0 : _ = some (Value.int .i64 T.kind) := y0
 replace y1 : _ = some (Value.string T.set) := y1
 replace y2 : _ = some (Value.bool T.neg) := y2
 replace y3 : _ = some (Value.int .i64 T.low) := y3
 replace y4 : _ = some (Value.int .i64 T.high) := y4
 replace y5 : _ = some (Value.slice ta T.kids.length tc) := y5
 refine bodyPost_ret (v := .agg #[.int .i64 T.kind, .string T.set, .bool T.neg, .int .i64 T.low, .int .i64 T.high, .slice ta T.kids.length tc]) (by simp [results, Tryd.results11, go_sem, y0, y1, y2, y3, y4, y5]) rfl ?_
 exact ⟨T, ta, tc, rfl, PK.out, by have := HC0.out; omega, PO.out⟩
theorem txt_short {t : RT} (h : RT.cost t ≤ 1000) : (if RT.ok t = true then RT.txt t else []).length ≤ 12012 := by
 by_cases c : RT.ok t = true
 ·rw [if_pos c]
  have := RT.txt_len _ t (Nat.le_refl _) (RT.ok_good c)
  omega
 ·rw [if_neg c]; simp
set_option maxRecDepth 100000 in
set_option maxHeartbeats 1500000 in
theorem drawParseRe_any (a : Option Addr) (n cap : Nat) (w : World) (hn : n ≤ 1048576) (hc : Code8 w a n) : Calls Tryd.prog 6 #[.slice a n cap] w (DrawnS w) := by
 go_enter Tryd.func6, Tryd.ntmps6
 go_wp2_with fail
 refine (new_any a n cap _ hn hc).mono ?_
 rintro e w1 ⟨rfl, c1, hb1⟩
 have HB1 := Lib.hid hb1
 clear hb1
 go_wp2_with fail
 refine (once_any w.heap.size 3 _ c1 (by omega) (by omega)).mono ?_
 rintro e w2 ⟨b, rfl, c2, o2⟩
 have O2 := Lib.hid o2
 clear o2
 cases b
 ·go_wp2_with fail
  refine (any_any w.heap.size _ c2).mono ?_
  rintro e w3 ⟨T, ta, tc, tF, rfl, k1, l1, n1, c0, c3, o3⟩
  have O3 := Lib.hid (O2.out.trans o3)
  clear o3
  have HT := Lib.hid (specReText_any T ta tc w3 (k1.kids (fun _ _ => Nat.zero_le _)) (by omega))
  have hts := txt_short (t := T) (by omega)
  generalize (if RT.ok T = true then RT.txt T else []) = L at *
  have hLs : (⟨L.toArray⟩ : ByteArray).size ≤ 12012 := by show L.toArray.size ≤ 12012; simpa using hts
  unfold reV at HT ⊢
  clear k1 l1 n1 c0 hts
  go_wp2_with fail
  refine HT.out.mono ?_
  rintro e w4 ⟨rfl, hb4⟩
  have hl3 := c3.lt
  have c4 := c3.kept hb4 c3.lt
  have O4 := Lib.hid (O3.out.trans (OnlyB.of_below hb4))
  clear hb4 HT
  generalize (⟨L.toArray⟩ : ByteArray) = z at *
  go_wp2_with fail
  refine (bent_any w.heap.size z _ c4 (by omega)).mono ?_
  rintro e w5 ⟨s, hs, rfl, c5, o5⟩
  have hs1 : s.size ≤ z.size + 1 := hs
  have O5 := Lib.hid (O4.out.trans o5)
  clear o5 hs
  go_wp2_with fail
  go_ret
  exact ⟨s, by omega, rfl, HB1.out.trans (O5.out.below c1.lt)⟩
 ·have n2 : w2.heap.size ≠ w.heap.size := by have := c2.lt; omega
  go_wp2_with fail
  refine (pick_any (Short 30) w.heap.size w2.heap.size 26 _ _ (c2.alloc _) (listS_alloc prL _ _ _ rfl prL_short) n2 (by omega) (by omega)).mono ?_
  rintro e w3 ⟨z, hz, rfl, c3, o3⟩
  have hz1 : z.size ≤ 30 := hz
  go_wp2_with fail
  go_ret
  exact ⟨z, by omega, rfl, HB1.out.trans (((O2.out.alloc _).trans o3).below c1.lt)⟩
end Go.Proofs.YtcpaneaiobnhdaaDoor.kit
