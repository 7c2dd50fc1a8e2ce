/-
 Proves FnReCardSaid: for every code the law returns true and leaves its argument as it was: an expression for texts comes back from its text. Conditions: none beyond the card's own; the library's tables that it lists are tied to the program's text by the given tie, over a pruned copy of them.
-/
import Derived.Test.YtcpaneaiobnhdaaDoorCards
import Derived.Test.YtcpaneaiobnhdaaDoorTie
import Derived.Test.YtcpaneaiobnhdaaDoorMTab0
import Derived.Test.YtcpaneaiobnhdaaDoorMDr2
import Derived.Test.YtcpaneaiobnhdaaDoorMRr2
import Derived.Test.YtcpaneaiobnhdaaDoorMPs8
import Derived.Test.YtcpaneaiobnhdaaDoorMPr11
import Derived.Test.YtcpaneaiobnhdaaDoorMRe12
import Derived.Test.YtcpaneaiobnhdaaDoorMSr0
import Derived.Test.YtcpaneaiobnhdaaDoorMCod
namespace Go.Proofs.YtcpaneaiobnhdaaDoor.fnRe
open Go.ChangeShapes Go.WideShapes Go.ChangeAt Go.RowKit
open Go.ChangeMaps (open_string shut_string)
open Go.Proofs.YtcpaneaiobnhdaaDoor.kit
set_option linter.unusedVariables false
set_option linter.unusedSimpArgs false

theorem own : ownKnob Tryd.prog.godebug = none := by kernel_rfl
/-- What the row's list gives: the table's cells hold the powers of ten. -/
theorem table {W : World} (h : laidMet Tryd.prog Rows.fnReRow.laid W) : Tab W := tab_of h (by kernel_rfl)
theorem big_no (a : Option Addr) (n cap : Nat) (w : World) (h : n ≤ 1048576) :
  Calls Tryd.prog 4 #[.slice a n cap] w fun e w' => e = .returned (.bool false) ∧ w = w' := by
 have d1 : decide (1048576 < n) = false := by simp; omega
 have d2 : decide ((1048576 : Int) < (n : Int)) = false := by simp; omega
 go_enter Tryd.func4, Tryd.ntmps4
 go_wp2
 go_ret
 exact ⟨rfl, rfl⟩
theorem big_yes (a : Option Addr) (n cap : Nat) (w : World) (h : 1048576 < n) :
  Calls Tryd.prog 4 #[.slice a n cap] w fun e w' => e = .returned (.bool true) ∧ w = w' := by
 have d1 : decide (1048576 < n) = true := by simp; omega
 have d2 : decide ((1048576 : Int) < (n : Int)) = true := by simp; omega
 go_enter Tryd.func4, Tryd.ntmps4
 go_wp2
 go_ret
 exact ⟨rfl, rfl⟩
/-- A box that holds a tree. -/
structure Bx (W : World) (g : Nat) (t : RT) (a : Option Addr) (c : Nat) : Prop where
 six : Six W g t a c
 kids : kit.Kids 0 W t.kids a
theorem Bx.kept {W W' : World} {g : Nat} {t : RT} {a : Option Addr} {c : Nat} (h : Bx W g t a c) (hb : Below W.heap.size W W') : Bx W' g t a c := ⟨h.six.kept hb, h.kids.kept (Nat.le_refl _) hb⟩
theorem bx_new {w : World} {t : RT} {a : Option Addr} {c : Nat} (h : kit.Kids 0 w t.kids a) : Bx (w.alloc (.cells #[.int .i64 t.kind, .string t.set, .bool t.neg, .int .i64 t.low, .int .i64 t.high, .slice a t.kids.length c] 26)) w.heap.size t a c := ⟨six_new rfl rfl, h.alloc _⟩
def UPost (T : RT) (fl : Bool) (w : World) (e : Ending) (w' : World) : Prop :=
 Below w.heap.size w w' ∧ ∃ a c, e = .returned (.tuple #[reV T a c, .bool fl]) ∧ kit.Kids 0 w' T.kids a
theorem uni {w w' : World} {r : Option RT} {e : Ending} (h : ParsePost w r e w') : UPost (r.getD (PR.leaf 0)) r.isSome w e w' := by
 obtain ⟨hb, h⟩ := h
 refine ⟨hb, ?_⟩
 cases r with
 | none => exact ⟨none, 0, h, kit.Kids.nil 0 w' none⟩
 | some t =>
  obtain ⟨a, c, F, h1, h2, h3, _⟩ := h
  exact ⟨a, c, h1, h2.kids (fun _ _ => Nat.zero_le _)⟩
theorem cost_getD (s : ByteArray) : RT.cost ((PR.parse s).getD (PR.leaf 0)) ≤ 1048576 := by
 cases h : PR.parse s with
 | none => show RT.cost (PR.leaf 0) ≤ _; rw [PR.cost_leaf]; omega
 | some t => exact (PR.parse_cost h).1
theorem ok_getD (s : ByteArray) : (PR.parse s).isSome = true → RT.ok ((PR.parse s).getD (PR.leaf 0)) = true := by
 cases h : PR.parse s with
 | none => intro q; cases q
 | some t => intro _; exact (PR.parse_cost h).2
theorem none_getD (s : ByteArray) : (PR.parse s).isSome = false → (PR.parse s).getD (PR.leaf 0) = PR.leaf 0 := by
 cases h : PR.parse s with
 | none => intro _; rfl
 | some t => intro q; cases q
/-- Five boxes, and nothing that was there has turned. -/
structure ReS (g3 g5 g7 g9 g11 : Nat) (o T t l : RT) (ao a1 a2 at' al : Option Addr) (co c1 c2 ct cl : Nat) (w W : World) : Prop where
 b3 : Bx W g3 o ao co
 b5 : Bx W g5 T a1 c1
 b7 : Bx W g7 T a2 c2
 b9 : Bx W g9 t at' ct
 b11 : Bx W g11 l al cl
 below : Below w.heap.size w W
theorem ReS.step {g3 g5 g7 g9 g11 : Nat} {o T t l : RT} {ao a1 a2 at' al : Option Addr} {co c1 c2 ct cl : Nat} {w W W' : World} (h : ReS g3 g5 g7 g9 g11 o T t l ao a1 a2 at' al co c1 c2 ct cl w W) (hb : Below W.heap.size W W') : ReS g3 g5 g7 g9 g11 o T t l ao a1 a2 at' al co c1 c2 ct cl w W' :=
 ⟨h.b3.kept hb, h.b5.kept hb, h.b7.kept hb, h.b9.kept hb, h.b11.kept hb, h.below.trans (hb.mono h.below.size)⟩
theorem ReS.drew {g3 g5 g7 g9 g11 : Nat} {o T t l : RT} {ao a1 a2 at' al : Option Addr} {co c1 c2 ct cl : Nat} {w W : World} (h : ReS g3 g5 g7 g9 g11 o T t l ao a1 a2 at' al co c1 c2 ct cl w W) : ReS g3 g5 g7 g9 g11 o T t l ao a1 a2 at' al co c1 c2 ct cl w W.drew := h.step ((Below.refl _ _).drew)

set_option maxRecDepth 100000 in
set_option maxHeartbeats 4000000 in
theorem walk1 (a : Option Addr) (n cap : Nat) (w : World) (hn : n ≤ 1048576) (hc : Code8 w a n) (ht : Tab w) :
  Calls Tryd.prog 3 #[.slice a n cap] w fun e w' => e = .returned (.bool true) ∧ Below w.heap.size w w' := by
 have HC := Lib.hid hc
 have HT := Lib.hid ht
 have BW := Lib.hid (Below.refl w.heap.size w)
 clear hc ht
 go_enter Tryd.func3, Tryd.ntmps3
 go_wp2_with fail
 refine (big_no a n cap _ hn).mono ?_
 rintro e wq ⟨rfl, rfl⟩
 go_wp2_with fail
 refine (drawReOk_any a n cap _ hn HC.out).mono ?_
 rintro e w1 ⟨o, ao, co, rfl, hk, hco, hb⟩
 have BW := Lib.hid (BW.out.trans (hb.mono BW.out.size))
 clear hb
 have hco : RT.cost o ≤ 1048576 := by omega
 unfold reV
 have X3 : Hid (Bx (w1.alloc (.cells #[.int .i64 o.kind, .string o.set, .bool o.neg, .int .i64 o.low, .int .i64 o.high, .slice ao o.kids.length co] 26)) w1.heap.size o ao co) := Lib.hid (bx_new hk)
 clear hk
 have bx : Below w1.heap.size w1 (w1.alloc (.cells #[.int .i64 o.kind, .string o.set, .bool o.neg, .int .i64 o.low, .int .i64 o.high, .slice ao o.kids.length co] 26)) := (Below.refl _ _).alloc (Nat.le_refl _) _
 have BW := Lib.hid (BW.out.trans (bx.mono BW.out.size))
 clear bx
 go_wp2_with fail
 obtain ⟨g3, hg3⟩ : ∃ g, g = w1.heap.size := ⟨_, rfl⟩
 rw [← hg3] at X3 ⊢
 generalize (w1.alloc (.cells #[.int .i64 o.kind, .string o.set, .bool o.neg, .int .i64 o.low, .int .i64 o.high, .slice ao o.kids.length co] 26)) = x3 at *
 clear hg3
 refine (drawParseRe_any a n cap _ hn (HC.out.kept BW.out)).mono ?_
 rintro e w2 ⟨p, hp, rfl, hb⟩
 have X3 := Lib.hid (X3.out.kept hb)
 have BW := Lib.hid (BW.out.trans (hb.mono BW.out.size))
 clear hb
 have HS := Lib.hid (fun W => (specParse_any p W (by omega)).mono (fun _ _ h => uni h))
 have HI := Lib.hid (fun W => (implParse_any p W (by omega)).mono (fun _ _ h => uni h))
 have hcT := cost_getD p
 have hokT := Lib.hid (ok_getD p)
 have hnoT := Lib.hid (none_getD p)
 generalize (PR.parse p).getD (PR.leaf 0) = T at *
 generalize (PR.parse p).isSome = fl at *
 go_wp2_with fail
 refine (HI.out _).mono ?_
 rintro e w3 ⟨hb, a1, c1, rfl, hk⟩
 have X3 := Lib.hid (X3.out.kept hb)
 have BW := Lib.hid (BW.out.trans (hb.mono BW.out.size))
 clear hb HI
 unfold reV
 have hl3 := X3.out.six.lt
 have X5 : Hid (Bx (w3.alloc (.cells #[.int .i64 T.kind, .string T.set, .bool T.neg, .int .i64 T.low, .int .i64 T.high, .slice a1 T.kids.length c1] 26)) w3.heap.size T a1 c1) := Lib.hid (bx_new hk)
 clear hk
 have bx : Below w3.heap.size w3 (w3.alloc (.cells #[.int .i64 T.kind, .string T.set, .bool T.neg, .int .i64 T.low, .int .i64 T.high, .slice a1 T.kids.length c1] 26)) := (Below.refl _ _).alloc (Nat.le_refl _) _
 have X3 := Lib.hid (X3.out.kept bx)
 have BW := Lib.hid (BW.out.trans (bx.mono BW.out.size))
 clear bx hl3
 go_wp2_with fail
 obtain ⟨g5, hg5⟩ : ∃ g, g = w3.heap.size := ⟨_, rfl⟩
 rw [← hg5] at X5 ⊢
 generalize (w3.alloc (.cells #[.int .i64 T.kind, .string T.set, .bool T.neg, .int .i64 T.low, .int .i64 T.high, .slice a1 T.kids.length c1] 26)) = x5 at *
 clear hg5
 refine (HS.out _).mono ?_
 rintro e w4 ⟨hb, a2, c2, rfl, hk⟩
 have X3 := Lib.hid (X3.out.kept hb)
 have X5 := Lib.hid (X5.out.kept hb)
 have BW := Lib.hid (BW.out.trans (hb.mono BW.out.size))
 clear hb HS
 unfold reV
 have hl3 := X3.out.six.lt
 have hl5 := X5.out.six.lt
 have X7 : Hid (Bx (w4.alloc (.cells #[.int .i64 T.kind, .string T.set, .bool T.neg, .int .i64 T.low, .int .i64 T.high, .slice a2 T.kids.length c2] 26)) w4.heap.size T a2 c2) := Lib.hid (bx_new hk)
 clear hk
 have bx : Below w4.heap.size w4 (w4.alloc (.cells #[.int .i64 T.kind, .string T.set, .bool T.neg, .int .i64 T.low, .int .i64 T.high, .slice a2 T.kids.length c2] 26)) := (Below.refl _ _).alloc (Nat.le_refl _) _
 have X3 := Lib.hid (X3.out.kept bx)
 have X5 := Lib.hid (X5.out.kept bx)
 have BW := Lib.hid (BW.out.trans (bx.mono BW.out.size))
 clear bx hl3 hl5
 go_wp2_with fail
 obtain ⟨g7, hg7⟩ : ∃ g, g = w4.heap.size := ⟨_, rfl⟩
 rw [← hg7] at X7 ⊢
 generalize (w4.alloc (.cells #[.int .i64 T.kind, .string T.set, .bool T.neg, .int .i64 T.low, .int .i64 T.high, .slice a2 T.kids.length c2] 26)) = x7 at *
 clear hg7
 refine (drawReText_any a n cap _ hn (HC.out.kept BW.out)).mono ?_
 rintro e w5 ⟨t, at', ct, rfl, hk, hct, hb⟩
 have X3 := Lib.hid (X3.out.kept hb)
 have X5 := Lib.hid (X5.out.kept hb)
 have X7 := Lib.hid (X7.out.kept hb)
 have BW := Lib.hid (BW.out.trans (hb.mono BW.out.size))
 clear hb
 have hct : RT.cost t ≤ 1048576 := by omega
 unfold reV
 have HSX := Lib.hid (fun a c W h => specReText_any t a c W h hct)
 have HIX := Lib.hid (fun a c W h => implReText_any t a c W h hct)
 obtain ⟨z, hz⟩ : ∃ z : ByteArray, z = ⟨(if RT.ok t = true then RT.txt t else []).toArray⟩ := ⟨_, rfl⟩
 rw [← hz] at HSX HIX
 have HZ := Lib.hid hz
 clear hz
 have hl3 := X3.out.six.lt
 have hl5 := X5.out.six.lt
 have hl7 := X7.out.six.lt
 have X9 : Hid (Bx (w5.alloc (.cells #[.int .i64 t.kind, .string t.set, .bool t.neg, .int .i64 t.low, .int .i64 t.high, .slice at' t.kids.length ct] 26)) w5.heap.size t at' ct) := Lib.hid (bx_new hk)
 clear hk
 have bx : Below w5.heap.size w5 (w5.alloc (.cells #[.int .i64 t.kind, .string t.set, .bool t.neg, .int .i64 t.low, .int .i64 t.high, .slice at' t.kids.length ct] 26)) := (Below.refl _ _).alloc (Nat.le_refl _) _
 have X3 := Lib.hid (X3.out.kept bx)
 have X5 := Lib.hid (X5.out.kept bx)
 have X7 := Lib.hid (X7.out.kept bx)
 have BW := Lib.hid (BW.out.trans (bx.mono BW.out.size))
 clear bx hl3 hl5 hl7
 go_wp2_with fail
 obtain ⟨g9, hg9⟩ : ∃ g, g = w5.heap.size := ⟨_, rfl⟩
 rw [← hg9] at X9 ⊢
 generalize (w5.alloc (.cells #[.int .i64 t.kind, .string t.set, .bool t.neg, .int .i64 t.low, .int .i64 t.high, .slice at' t.kids.length ct] 26)) = x9 at *
 clear hg9
 have X9c := Lib.hid X9.out
 refine (HIX.out at' ct _ X9.out.kids (HT.out.on BW.out)).mono ?_
 rintro e w6 ⟨rfl, hb⟩
 clear X9c
 have X3 := Lib.hid (X3.out.kept hb)
 have X5 := Lib.hid (X5.out.kept hb)
 have X7 := Lib.hid (X7.out.kept hb)
 have X9 := Lib.hid (X9.out.kept hb)
 have BW := Lib.hid (BW.out.trans (hb.mono BW.out.size))
 clear hb HIX
 go_wp2_with fail
 refine (drawLeast_any a n cap _ hn (HC.out.kept BW.out)).mono ?_
 rintro e w7 ⟨l, al, cl, rfl, hk, hcl, hb⟩
 have X3 := Lib.hid (X3.out.kept hb)
 have X5 := Lib.hid (X5.out.kept hb)
 have X7 := Lib.hid (X7.out.kept hb)
 have X9 := Lib.hid (X9.out.kept hb)
 have BW := Lib.hid (BW.out.trans (hb.mono BW.out.size))
 clear hb
 have hcl : RT.cost l ≤ 1048576 := by omega
 unfold reV
 have HLI := Lib.hid (fun a c W h => implLeast_any l a c W h hcl)
 have HLS := Lib.hid (fun a c W h => specLeast_any l a c W h hcl)
 generalize (if RT.ok l = true then RT.lst l else 0) = lst at *
 have hl3 := X3.out.six.lt
 have hl5 := X5.out.six.lt
 have hl7 := X7.out.six.lt
 have hl9 := X9.out.six.lt
 have X11 : Hid (Bx (w7.alloc (.cells #[.int .i64 l.kind, .string l.set, .bool l.neg, .int .i64 l.low, .int .i64 l.high, .slice al l.kids.length cl] 26)) w7.heap.size l al cl) := Lib.hid (bx_new hk)
 clear hk
 have bx : Below w7.heap.size w7 (w7.alloc (.cells #[.int .i64 l.kind, .string l.set, .bool l.neg, .int .i64 l.low, .int .i64 l.high, .slice al l.kids.length cl] 26)) := (Below.refl _ _).alloc (Nat.le_refl _) _
 have X3 := Lib.hid (X3.out.kept bx)
 have X5 := Lib.hid (X5.out.kept bx)
 have X7 := Lib.hid (X7.out.kept bx)
 have X9 := Lib.hid (X9.out.kept bx)
 have BW := Lib.hid (BW.out.trans (bx.mono BW.out.size))
 clear bx hl3 hl5 hl7 hl9
 go_wp2_with fail
 obtain ⟨g11, hg11⟩ : ∃ g, g = w7.heap.size := ⟨_, rfl⟩
 rw [← hg11] at X11 ⊢
 generalize (w7.alloc (.cells #[.int .i64 l.kind, .string l.set, .bool l.neg, .int .i64 l.low, .int .i64 l.high, .slice al l.kids.length cl] 26)) = x11 at *
 clear hg11
 have SS : ReS g3 g5 g7 g9 g11 o T t l ao a1 a2 at' al co c1 c2 ct cl w x11 := ⟨X3.out, X5.out, X7.out, X9.out, X11.out, BW.out⟩
 clear X3 X5 X7 X9 X11 BW
 have HOO := Lib.hid (show ReS g3 g5 g7 g9 g11 o T t l ao a1 a2 at' al co c1 c2 ct cl w x11.drew from SS.drew)
 clear SS
 cases fl
 rotate_left
 ·have hokT := hokT.out
  have HOT := Lib.hid (fun a c W h => (by have q := implReOk_any T a c W h hcT; rw [hokT rfl] at q; exact q : Calls Tryd.prog 12 #[reV T a c] W fun e w' => e = .returned (.bool true) ∧ Below W.heap.size W w'))
  clear hokT
  unfold reV at *
  refine wp_region_held_drew (S := fun w' => ReS g3 g5 g7 g9 g11 o T t l ao a1 a2 at' al co c1 c2 ct cl w w') (by kernel_rfl) HOO.out (fun hHeld => ?_)
  clear HOO
  refine wpAnyH_take (i := 0) (v := .agg #[.int .i64 o.kind, .string o.set, .bool o.neg, .int .i64 o.low, .int .i64 o.high, .slice ao o.kids.length co]) rfl (by kernel_rfl) (by kernel_rfl) (by kernel_rfl) (fun _ _ _ h => h) (Or.inl ⟨by kernel_rfl, fun w hSw => by obtain ⟨x0, x1, x2, x3, x4, x5, _⟩ := hSw.b3.six.cells; go_simp⟩) (by assumption) ?_
  try simp only [List.getElem_toArray, List.getElem_cons_zero, List.getElem_cons_succ, Act.put, List.setIfInBounds_toArray, List.set_cons_zero, List.set_cons_succ]
  refine wpAnyH_take (i := 2) (v := .agg #[.int .i64 o.kind, .string o.set, .bool o.neg, .int .i64 o.low, .int .i64 o.high, .slice ao o.kids.length co]) rfl (by kernel_rfl) (by kernel_rfl) (by kernel_rfl) (fun _ _ _ h => h) (Or.inl ⟨by kernel_rfl, fun w hSw => by obtain ⟨x0, x1, x2, x3, x4, x5, _⟩ := hSw.b3.six.cells; go_simp⟩) (by assumption) ?_
  try simp only [List.getElem_toArray, List.getElem_cons_zero, List.getElem_cons_succ, Act.put, List.setIfInBounds_toArray, List.set_cons_zero, List.set_cons_succ]
  refine wpAnyH_ready (rs := [1]) (by kernel_rfl) (by simp) ?_
  refine AllReadyH.cons rfl (fun K hK => ?_) AllReadyH.nil
  go_simp
  refine (implReOk_any o ao co _ (show ReS g3 g5 g7 g9 g11 o T t l ao a1 a2 at' al co c1 c2 ct cl w _ by assumption).b3.kids hco).mono ?_
  rintro e wz ⟨rfl, hbz⟩
  go_wp2_with fail
  refine hK.out _ _ (ReS.step (by assumption) hbz) (fun hHeld => ?_)
  clear hK K hbz
  try simp only [List.getElem_toArray, List.getElem_cons_zero, List.getElem_cons_succ, Act.put, List.setIfInBounds_toArray, List.set_cons_zero, List.set_cons_succ]
  refine wpAnyH_ready (rs := [3]) (by kernel_rfl) (by simp) ?_
  refine AllReadyH.cons rfl (fun K hK => ?_) AllReadyH.nil
  go_simp
  refine (specReOk_any o ao co _ (show ReS g3 g5 g7 g9 g11 o T t l ao a1 a2 at' al co c1 c2 ct cl w _ by assumption).b3.kids hco).mono ?_
  rintro e wz ⟨rfl, hbz⟩
  go_wp2_with fail
  refine hK.out _ _ (ReS.step (by assumption) hbz) (fun hHeld => ?_)
  clear hK K hbz
  try simp only [List.getElem_toArray, List.getElem_cons_zero, List.getElem_cons_succ, Act.put, List.setIfInBounds_toArray, List.set_cons_zero, List.set_cons_succ]
  refine wpAnyH_take (i := 4) (v := .bool false) rfl (by kernel_rfl) (by kernel_rfl) (by kernel_rfl) (fun _ _ _ h => h) (Or.inl ⟨by kernel_rfl, fun w hSw => by go_simp⟩) (by assumption) ?_
  try simp only [List.getElem_toArray, List.getElem_cons_zero, List.getElem_cons_succ, Act.put, List.setIfInBounds_toArray, List.set_cons_zero, List.set_cons_succ]
  refine wpAnyH_take (i := 5) (v := .bool false) rfl (by kernel_rfl) (by kernel_rfl) (by kernel_rfl) (fun _ _ _ h => h) (Or.inl ⟨by kernel_rfl, fun w hSw => by go_simp⟩) (by assumption) ?_
  try simp only [List.getElem_toArray, List.getElem_cons_zero, List.getElem_cons_succ, Act.put, List.setIfInBounds_toArray, List.set_cons_zero, List.set_cons_succ]
  refine wpAnyH_take (i := 6) (v := .agg #[.int .i64 T.kind, .string T.set, .bool T.neg, .int .i64 T.low, .int .i64 T.high, .slice a1 T.kids.length c1]) rfl (by kernel_rfl) (by kernel_rfl) (by kernel_rfl) (fun _ _ _ h => h) (Or.inl ⟨by kernel_rfl, fun w hSw => by obtain ⟨x0, x1, x2, x3, x4, x5, _⟩ := hSw.b5.six.cells; go_simp⟩) (by assumption) ?_
  try simp only [List.getElem_toArray, List.getElem_cons_zero, List.getElem_cons_succ, Act.put, List.setIfInBounds_toArray, List.set_cons_zero, List.set_cons_succ]
  refine wpAnyH_take (i := 7) (v := .agg #[.int .i64 T.kind, .string T.set, .bool T.neg, .int .i64 T.low, .int .i64 T.high, .slice a2 T.kids.length c2]) rfl (by kernel_rfl) (by kernel_rfl) (by kernel_rfl) (fun _ _ _ h => h) (Or.inl ⟨by kernel_rfl, fun w hSw => by obtain ⟨x0, x1, x2, x3, x4, x5, _⟩ := hSw.b7.six.cells; go_simp⟩) (by assumption) ?_
  try simp only [List.getElem_toArray, List.getElem_cons_zero, List.getElem_cons_succ, Act.put, List.setIfInBounds_toArray, List.set_cons_zero, List.set_cons_succ]
  refine wpAnyH_ready (rs := [8]) (by kernel_rfl) (by simp) ?_
  refine AllReadyH.cons rfl (fun K hK => ?_) AllReadyH.nil
  go_simp
  refine (sameRe_any T a1 c1 a2 c2 _ (show ReS g3 g5 g7 g9 g11 o T t l ao a1 a2 at' al co c1 c2 ct cl w _ by assumption).b5.kids (show ReS g3 g5 g7 g9 g11 o T t l ao a1 a2 at' al co c1 c2 ct cl w _ by assumption).b7.kids hcT).mono ?_
  rintro e wz ⟨rfl, hbz⟩
  go_wp2_with fail
  refine hK.out _ _ (ReS.step (by assumption) hbz) (fun hHeld => ?_)
  clear hK K hbz
  try simp only [List.getElem_toArray, List.getElem_cons_zero, List.getElem_cons_succ, Act.put, List.setIfInBounds_toArray, List.set_cons_zero, List.set_cons_succ]
  refine wpAnyH_take (i := 9) (v := .bool false) rfl (by kernel_rfl) (by kernel_rfl) (by kernel_rfl) (fun _ _ _ h => h) (Or.inl ⟨by kernel_rfl, fun w hSw => by go_simp⟩) (by assumption) ?_
  try simp only [List.getElem_toArray, List.getElem_cons_zero, List.getElem_cons_succ, Act.put, List.setIfInBounds_toArray, List.set_cons_zero, List.set_cons_succ]
  refine wpAnyH_take (i := 10) (v := .bool false) rfl (by kernel_rfl) (by kernel_rfl) (by kernel_rfl) (fun _ _ _ h => h) (Or.inl ⟨by kernel_rfl, fun w hSw => by go_simp⟩) (by assumption) ?_
  try simp only [List.getElem_toArray, List.getElem_cons_zero, List.getElem_cons_succ, Act.put, List.setIfInBounds_toArray, List.set_cons_zero, List.set_cons_succ]
  refine wpAnyH_take (i := 11) (v := .bool false) rfl (by kernel_rfl) (by kernel_rfl) (by kernel_rfl) (fun _ _ _ h => h) (Or.inl ⟨by kernel_rfl, fun w hSw => by go_simp⟩) (by assumption) ?_
  try simp only [List.getElem_toArray, List.getElem_cons_zero, List.getElem_cons_succ, Act.put, List.setIfInBounds_toArray, List.set_cons_zero, List.set_cons_succ]
  refine wpAnyH_take (i := 12) (v := .bool true) rfl (by kernel_rfl) (by kernel_rfl) (by kernel_rfl) (fun _ _ _ h => h) (Or.inl ⟨by kernel_rfl, fun w hSw => by go_simp⟩) (by assumption) ?_
  try simp only [List.getElem_toArray, List.getElem_cons_zero, List.getElem_cons_succ, Act.put, List.setIfInBounds_toArray, List.set_cons_zero, List.set_cons_succ]
  refine wpAnyH_take (i := 13) (v := .bool true) rfl (by kernel_rfl) (by kernel_rfl) (by kernel_rfl) (fun _ _ _ h => h) (Or.inl ⟨by kernel_rfl, fun w hSw => by go_simp⟩) (by assumption) ?_
  try simp only [List.getElem_toArray, List.getElem_cons_zero, List.getElem_cons_succ, Act.put, List.setIfInBounds_toArray, List.set_cons_zero, List.set_cons_succ]
  refine wpAnyH_take (i := 14) (v := .bool false) rfl (by kernel_rfl) (by kernel_rfl) (by kernel_rfl) (fun _ _ _ h => h) (Or.inl ⟨by kernel_rfl, fun w hSw => by go_simp⟩) (by assumption) ?_
  try simp only [List.getElem_toArray, List.getElem_cons_zero, List.getElem_cons_succ, Act.put, List.setIfInBounds_toArray, List.set_cons_zero, List.set_cons_succ]
  refine wpAnyH_take (i := 15) (v := .bool false) rfl (by kernel_rfl) (by kernel_rfl) (by kernel_rfl) (fun _ _ _ h => h) (Or.inl ⟨by kernel_rfl, fun w hSw => by go_simp⟩) (by assumption) ?_
  try simp only [List.getElem_toArray, List.getElem_cons_zero, List.getElem_cons_succ, Act.put, List.setIfInBounds_toArray, List.set_cons_zero, List.set_cons_succ]
  refine wpAnyH_take (i := 16) (v := .bool false) rfl (by kernel_rfl) (by kernel_rfl) (by kernel_rfl) (fun _ _ _ h => h) (Or.inl ⟨by kernel_rfl, fun w hSw => by go_simp⟩) (by assumption) ?_
  try simp only [List.getElem_toArray, List.getElem_cons_zero, List.getElem_cons_succ, Act.put, List.setIfInBounds_toArray, List.set_cons_zero, List.set_cons_succ]
  refine wpAnyH_take (i := 17) (v := .string z) rfl (by kernel_rfl) (by kernel_rfl) (by kernel_rfl) (fun _ _ _ h => h) (Or.inl ⟨by kernel_rfl, fun w hSw => by go_simp⟩) (by assumption) ?_
  try simp only [List.getElem_toArray, List.getElem_cons_zero, List.getElem_cons_succ, Act.put, List.setIfInBounds_toArray, List.set_cons_zero, List.set_cons_succ]
  refine wpAnyH_take (i := 18) (v := .agg #[.int .i64 t.kind, .string t.set, .bool t.neg, .int .i64 t.low, .int .i64 t.high, .slice at' t.kids.length ct]) rfl (by kernel_rfl) (by kernel_rfl) (by kernel_rfl) (fun _ _ _ h => h) (Or.inl ⟨by kernel_rfl, fun w hSw => by obtain ⟨x0, x1, x2, x3, x4, x5, _⟩ := hSw.b9.six.cells; go_simp⟩) (by assumption) ?_
  try simp only [List.getElem_toArray, List.getElem_cons_zero, List.getElem_cons_succ, Act.put, List.setIfInBounds_toArray, List.set_cons_zero, List.set_cons_succ]
  refine wpAnyH_ready (rs := [19]) (by kernel_rfl) (by simp) ?_
  refine AllReadyH.cons rfl (fun K hK => ?_) AllReadyH.nil
  go_simp
  refine (HSX.out at' ct _ (show ReS g3 g5 g7 g9 g11 o T t l ao a1 a2 at' al co c1 c2 ct cl w _ by assumption).b9.kids).mono ?_
  rintro e wz ⟨rfl, hbz⟩
  go_wp2_with fail
  refine hK.out _ _ (ReS.step (by assumption) hbz) (fun hHeld => ?_)
  clear hK K hbz
  try simp only [List.getElem_toArray, List.getElem_cons_zero, List.getElem_cons_succ, Act.put, List.setIfInBounds_toArray, List.set_cons_zero, List.set_cons_succ]
  refine wpAnyH_take (i := 20) (v := .bool false) rfl (by kernel_rfl) (by kernel_rfl) (by kernel_rfl) (fun _ _ _ h => h) (Or.inl ⟨by kernel_rfl, fun w hSw => by go_simp⟩) (by assumption) ?_
  try simp only [List.getElem_toArray, List.getElem_cons_zero, List.getElem_cons_succ, Act.put, List.setIfInBounds_toArray, List.set_cons_zero, List.set_cons_succ]
  refine wpAnyH_take (i := 21) (v := .bool false) rfl (by kernel_rfl) (by kernel_rfl) (by kernel_rfl) (fun _ _ _ h => h) (Or.inl ⟨by kernel_rfl, fun w hSw => by go_simp⟩) (by assumption) ?_
  try simp only [List.getElem_toArray, List.getElem_cons_zero, List.getElem_cons_succ, Act.put, List.setIfInBounds_toArray, List.set_cons_zero, List.set_cons_succ]
  refine wpAnyH_take (i := 22) (v := .bool false) rfl (by kernel_rfl) (by kernel_rfl) (by kernel_rfl) (fun _ _ _ h => h) (Or.inl ⟨by kernel_rfl, fun w hSw => by go_simp⟩) (by assumption) ?_
  try simp only [List.getElem_toArray, List.getElem_cons_zero, List.getElem_cons_succ, Act.put, List.setIfInBounds_toArray, List.set_cons_zero, List.set_cons_succ]
  refine wpAnyH_take (i := 23) (v := .agg #[.int .i64 l.kind, .string l.set, .bool l.neg, .int .i64 l.low, .int .i64 l.high, .slice al l.kids.length cl]) rfl (by kernel_rfl) (by kernel_rfl) (by kernel_rfl) (fun _ _ _ h => h) (Or.inl ⟨by kernel_rfl, fun w hSw => by obtain ⟨x0, x1, x2, x3, x4, x5, _⟩ := hSw.b11.six.cells; go_simp⟩) (by assumption) ?_
  try simp only [List.getElem_toArray, List.getElem_cons_zero, List.getElem_cons_succ, Act.put, List.setIfInBounds_toArray, List.set_cons_zero, List.set_cons_succ]
  refine wpAnyH_take (i := 25) (v := .agg #[.int .i64 l.kind, .string l.set, .bool l.neg, .int .i64 l.low, .int .i64 l.high, .slice al l.kids.length cl]) rfl (by kernel_rfl) (by kernel_rfl) (by kernel_rfl) (fun _ _ _ h => h) (Or.inl ⟨by kernel_rfl, fun w hSw => by obtain ⟨x0, x1, x2, x3, x4, x5, _⟩ := hSw.b11.six.cells; go_simp⟩) (by assumption) ?_
  try simp only [List.getElem_toArray, List.getElem_cons_zero, List.getElem_cons_succ, Act.put, List.setIfInBounds_toArray, List.set_cons_zero, List.set_cons_succ]
  refine wpAnyH_ready (rs := [24]) (by kernel_rfl) (by simp) ?_
  refine AllReadyH.cons rfl (fun K hK => ?_) AllReadyH.nil
  go_simp
  refine (HLI.out al cl _ (show ReS g3 g5 g7 g9 g11 o T t l ao a1 a2 at' al co c1 c2 ct cl w _ by assumption).b11.kids).mono ?_
  rintro e wz ⟨rfl, hbz⟩
  go_wp2_with fail
  refine hK.out _ _ (ReS.step (by assumption) hbz) (fun hHeld => ?_)
  clear hK K hbz
  try simp only [List.getElem_toArray, List.getElem_cons_zero, List.getElem_cons_succ, Act.put, List.setIfInBounds_toArray, List.set_cons_zero, List.set_cons_succ]
  refine wpAnyH_ready (rs := [26]) (by kernel_rfl) (by simp) ?_
  refine AllReadyH.cons rfl (fun K hK => ?_) AllReadyH.nil
  go_simp
  refine (HLS.out al cl _ (show ReS g3 g5 g7 g9 g11 o T t l ao a1 a2 at' al co c1 c2 ct cl w _ by assumption).b11.kids).mono ?_
  rintro e wz ⟨rfl, hbz⟩
  go_wp2_with fail
  refine hK.out _ _ (ReS.step (by assumption) hbz) (fun hHeld => ?_)
  clear hK K hbz
  try simp only [List.getElem_toArray, List.getElem_cons_zero, List.getElem_cons_succ, Act.put, List.setIfInBounds_toArray, List.set_cons_zero, List.set_cons_succ]
  refine wpAnyH_take (i := 27) (v := .bool false) rfl (by kernel_rfl) (by kernel_rfl) (by kernel_rfl) (fun _ _ _ h => h) (Or.inl ⟨by kernel_rfl, fun w hSw => by go_simp⟩) (by assumption) ?_
  try simp only [List.getElem_toArray, List.getElem_cons_zero, List.getElem_cons_succ, Act.put, List.setIfInBounds_toArray, List.set_cons_zero, List.set_cons_succ]
  refine wpAnyH_take (i := 28) (v := .bool false) rfl (by kernel_rfl) (by kernel_rfl) (by kernel_rfl) (fun _ _ _ h => h) (Or.inl ⟨by kernel_rfl, fun w hSw => by go_simp⟩) (by assumption) ?_
  try simp only [List.getElem_toArray, List.getElem_cons_zero, List.getElem_cons_succ, Act.put, List.setIfInBounds_toArray, List.set_cons_zero, List.set_cons_succ]
  refine wpAnyH_take (i := 29) (v := .bool false) rfl (by kernel_rfl) (by kernel_rfl) (by kernel_rfl) (fun _ _ _ h => h) (Or.inl ⟨by kernel_rfl, fun w hSw => by go_simp⟩) (by assumption) ?_
  try simp only [List.getElem_toArray, List.getElem_cons_zero, List.getElem_cons_succ, Act.put, List.setIfInBounds_toArray, List.set_cons_zero, List.set_cons_succ]
  refine wpAnyH_take (i := 30) (v := .bool true) rfl (by kernel_rfl) (by kernel_rfl) (by kernel_rfl) (fun _ _ _ h => h) (Or.inl ⟨by kernel_rfl, fun w hSw => by go_simp⟩) (by assumption) ?_
  try simp only [List.getElem_toArray, List.getElem_cons_zero, List.getElem_cons_succ, Act.put, List.setIfInBounds_toArray, List.set_cons_zero, List.set_cons_succ]
  refine wpAnyH_take (i := 31) (v := .bool true) rfl (by kernel_rfl) (by kernel_rfl) (by kernel_rfl) (fun _ _ _ h => h) (Or.inl ⟨by kernel_rfl, fun w hSw => by go_simp⟩) (by assumption) ?_
  try simp only [List.getElem_toArray, List.getElem_cons_zero, List.getElem_cons_succ, Act.put, List.setIfInBounds_toArray, List.set_cons_zero, List.set_cons_succ]
  refine wpAnyH_take (i := 32) (v := .agg #[.int .i64 T.kind, .string T.set, .bool T.neg, .int .i64 T.low, .int .i64 T.high, .slice a1 T.kids.length c1]) rfl (by kernel_rfl) (by kernel_rfl) (by kernel_rfl) (fun _ _ _ h => h) (Or.inl ⟨by kernel_rfl, fun w hSw => by obtain ⟨x0, x1, x2, x3, x4, x5, _⟩ := hSw.b5.six.cells; go_simp⟩) (by assumption) ?_
  try simp only [List.getElem_toArray, List.getElem_cons_zero, List.getElem_cons_succ, Act.put, List.setIfInBounds_toArray, List.set_cons_zero, List.set_cons_succ]
  refine wpAnyH_ready (rs := [33]) (by kernel_rfl) (by simp) ?_
  refine AllReadyH.cons rfl (fun K hK => ?_) AllReadyH.nil
  go_simp
  refine (HOT.out a1 c1 _ (show ReS g3 g5 g7 g9 g11 o T t l ao a1 a2 at' al co c1 c2 ct cl w _ by assumption).b5.kids).mono ?_
  rintro e wz ⟨rfl, hbz⟩
  go_wp2_with fail
  refine hK.out _ _ (ReS.step (by assumption) hbz) (fun hHeld => ?_)
  clear hK K hbz
  try simp only [List.getElem_toArray, List.getElem_cons_zero, List.getElem_cons_succ, Act.put, List.setIfInBounds_toArray, List.set_cons_zero, List.set_cons_succ]
  refine wpAnyH_take (i := 34) (v := .bool false) rfl (by kernel_rfl) (by kernel_rfl) (by kernel_rfl) (fun _ _ _ h => h) (Or.inl ⟨by kernel_rfl, fun w hSw => by go_simp⟩) (by assumption) ?_
  try simp only [List.getElem_toArray, List.getElem_cons_zero, List.getElem_cons_succ, Act.put, List.setIfInBounds_toArray, List.set_cons_zero, List.set_cons_succ]
  refine wpAnyH_take (i := 35) (v := .bool false) rfl (by kernel_rfl) (by kernel_rfl) (by kernel_rfl) (fun _ _ _ h => h) (Or.inl ⟨by kernel_rfl, fun w hSw => by go_simp⟩) (by assumption) ?_
  try simp only [List.getElem_toArray, List.getElem_cons_zero, List.getElem_cons_succ, Act.put, List.setIfInBounds_toArray, List.set_cons_zero, List.set_cons_succ]
  refine wpAnyH_take (i := 36) (v := .bool false) rfl (by kernel_rfl) (by kernel_rfl) (by kernel_rfl) (fun _ _ _ h => h) (Or.inl ⟨by kernel_rfl, fun w hSw => by go_simp⟩) (by assumption) ?_
  try simp only [List.getElem_toArray, List.getElem_cons_zero, List.getElem_cons_succ, Act.put, List.setIfInBounds_toArray, List.set_cons_zero, List.set_cons_succ]
  refine wpAnyH_take (i := 37) (v := .bool false) rfl (by kernel_rfl) (by kernel_rfl) (by kernel_rfl) (fun _ _ _ h => h) (Or.inl ⟨by kernel_rfl, fun w hSw => by go_simp⟩) (by assumption) ?_
  try simp only [List.getElem_toArray, List.getElem_cons_zero, List.getElem_cons_succ, Act.put, List.setIfInBounds_toArray, List.set_cons_zero, List.set_cons_succ]
  refine wpAnyH_take (i := 38) (v := .bool true) rfl (by kernel_rfl) (by kernel_rfl) (by kernel_rfl) (fun _ _ _ h => h) (Or.inl ⟨by kernel_rfl, fun w hSw => by go_simp⟩) (by assumption) ?_
  try simp only [List.getElem_toArray, List.getElem_cons_zero, List.getElem_cons_succ, Act.put, List.setIfInBounds_toArray, List.set_cons_zero, List.set_cons_succ]
  refine wpAnyH_take (i := 39) (v := .bool false) rfl (by kernel_rfl) (by kernel_rfl) (by kernel_rfl) (fun _ _ _ h => h) (Or.inl ⟨by kernel_rfl, fun w hSw => by go_simp⟩) (by assumption) ?_
  try simp only [List.getElem_toArray, List.getElem_cons_zero, List.getElem_cons_succ, Act.put, List.setIfInBounds_toArray, List.set_cons_zero, List.set_cons_succ]
  refine wpAnyH_take (i := 40) (v := .bool false) rfl (by kernel_rfl) (by kernel_rfl) (by kernel_rfl) (fun _ _ _ h => h) (Or.inl ⟨by kernel_rfl, fun w hSw => by go_simp⟩) (by assumption) ?_
  try simp only [List.getElem_toArray, List.getElem_cons_zero, List.getElem_cons_succ, Act.put, List.setIfInBounds_toArray, List.set_cons_zero, List.set_cons_succ]
  refine wpAnyH_take (i := 41) (v := undef) rfl (by kernel_rfl) (by kernel_rfl) (by kernel_rfl) (fun _ _ _ h => h) (Or.inr ⟨by kernel_rfl, rfl⟩) (by assumption) ?_
  try simp only [List.getElem_toArray, List.getElem_cons_zero, List.getElem_cons_succ, Act.put, List.setIfInBounds_toArray, List.set_cons_zero, List.set_cons_succ]
  refine wpAnyH_take (i := 42) (v := undef) rfl (by kernel_rfl) (by kernel_rfl) (by kernel_rfl) (fun _ _ _ h => h) (Or.inr ⟨by kernel_rfl, rfl⟩) (by assumption) ?_
  try simp only [List.getElem_toArray, List.getElem_cons_zero, List.getElem_cons_succ, Act.put, List.setIfInBounds_toArray, List.set_cons_zero, List.set_cons_succ]
  refine wpAnyH_take (i := 43) (v := undef) rfl (by kernel_rfl) (by kernel_rfl) (by kernel_rfl) (fun _ _ _ h => h) (Or.inr ⟨by kernel_rfl, rfl⟩) (by assumption) ?_
  try simp only [List.getElem_toArray, List.getElem_cons_zero, List.getElem_cons_succ, Act.put, List.setIfInBounds_toArray, List.set_cons_zero, List.set_cons_succ]
  refine wpAnyH_take (i := 44) (v := undef) rfl (by kernel_rfl) (by kernel_rfl) (by kernel_rfl) (fun _ _ _ h => h) (Or.inr ⟨by kernel_rfl, rfl⟩) (by assumption) ?_
  try simp only [List.getElem_toArray, List.getElem_cons_zero, List.getElem_cons_succ, Act.put, List.setIfInBounds_toArray, List.set_cons_zero, List.set_cons_succ]
  refine wpAnyH_take (i := 45) (v := .bool false) rfl (by kernel_rfl) (by kernel_rfl) (by kernel_rfl) (fun _ _ _ h => h) (Or.inl ⟨by kernel_rfl, fun w hSw => by go_simp⟩) (by assumption) ?_
  try simp only [List.getElem_toArray, List.getElem_cons_zero, List.getElem_cons_succ, Act.put, List.setIfInBounds_toArray, List.set_cons_zero, List.set_cons_succ]
  refine wpAnyH_take (i := 46) (v := .bool false) rfl (by kernel_rfl) (by kernel_rfl) (by kernel_rfl) (fun _ _ _ h => h) (Or.inl ⟨by kernel_rfl, fun w hSw => by go_simp⟩) (by assumption) ?_
  try simp only [List.getElem_toArray, List.getElem_cons_zero, List.getElem_cons_succ, Act.put, List.setIfInBounds_toArray, List.set_cons_zero, List.set_cons_succ]
  refine wpAnyH_done (by kernel_rfl) ?_ _
  skip
  have HF := Lib.hid (show ReS g3 g5 g7 g9 g11 o T t l ao a1 a2 at' al co c1 c2 ct cl w _ by assumption)
  cases hok : RT.ok t
  ·have hz : z = ⟨#[]⟩ := by rw [HZ.out, hok]; rfl
   subst hz
   obtain ⟨x0, x1, x2, x3, x4, x5, x6⟩ := HF.out.b9.six.cells
   clear x6
   have HOK := Lib.hid (specReOk_any t at' ct _ HF.out.b9.kids hct)
   rw [hok] at HOK
   unfold reV at HOK
   go_wp2_with fail
   refine HOK.out.mono ?_
   rintro e wz ⟨rfl, hbz⟩
   have BF := Lib.hid (HF.out.step hbz).below
   clear hbz
   go_wp2_with fail
   go_ret
   exact ⟨rfl, BF.out⟩
  ·have hz : z = ⟨(RT.txt t).toArray⟩ := by rw [HZ.out, hok]; rfl
   have hne : z.size ≠ 0 := by
     rw [hz]; intro q; exact PR.txt_ne hok (List.length_eq_zero_iff.1 (by have : (RT.txt t).toArray.size = 0 := q; simpa using this))
   have hzl : z.size ≤ 1048576 := by
     have h1 := RT.txt_len _ t (Nat.le_refl _) (RT.ok_good hok)
     rw [hz]; show (RT.txt t).toArray.size ≤ _; simp; omega
   have hne : z.size ≠ 0 := by
     rw [hz]; intro q; exact PR.txt_ne hok (List.length_eq_zero_iff.1 (by have : (RT.txt t).toArray.size = 0 := q; simpa using this))
   have hzl : z.size ≤ 1048576 := by
     have h1 := RT.txt_len _ t (Nat.le_refl _) (RT.ok_good hok)
     rw [hz]; show (RT.txt t).toArray.size ≤ _; simp; omega
   have hem : z.toList.isEmpty = false := not_empty_of_size hne
   have hzk := Lib.hid hz
   clear hz
   by_cases hbig : 4000 < z.size
   ·have d1 : decide (4000 < z.size) = true := by simpa using hbig
    have d2 : decide ((4000 : Int) < (z.size : Int)) = true := by simp; omega
    skip
    skip
    go_wp2_with fail
    refine ((implParse_any z _ hzl).mono (fun _ _ h => uni h)).mono ?_
    rintro e wz ⟨hbz, ab, cb, rfl, kb⟩
    have BF := Lib.hid (HF.out.step hbz).below
    have z9 := hbz.size
    clear hbz
    unfold reV
    go_wp2_with fail
    go_ret
    exact ⟨rfl, BF.out.alloc (Nat.le_trans (HF.out.below.size) (by omega)) _⟩
   ·have d1 : decide (4000 < z.size) = false := by simpa using hbig
    have d2 : decide ((4000 : Int) < (z.size : Int)) = false := by simp; omega
    have hz := hzk.out
    have hp : PR.parse z = some t := by
      rw [hz]; apply PR.parse_txt hok; have : z.size = (RT.txt t).length := by rw [hz]; show (RT.txt t).toArray.size = _; simp
      omega
    clear hz hzk
    go_wp2_with fail
    refine ((implParse_any z _ hzl).mono (fun _ _ h => uni h)).mono ?_
    rw [hp]
    rintro e wz ⟨hbz, ab, cb, rfl, kb⟩
    have kb : kit.Kids 0 wz t.kids ab := kb
    show _
    have HF := Lib.hid (HF.out.step hbz)
    clear hbz
    simp only [Option.getD_some, Option.isSome_some]
    unfold reV
    have bx : Below wz.heap.size wz (wz.alloc (.cells #[.int .i64 t.kind, .string t.set, .bool t.neg, .int .i64 t.low, .int .i64 t.high, .slice ab t.kids.length cb] 26)) := (Below.refl _ _).alloc (Nat.le_refl _) _
    obtain ⟨x0, x1, x2, x3, x4, x5, x6⟩ := HF.out.b9.six.cells
    have x9 := HF.out.b9.six.lt
    have HSM := Lib.hid (sameRe_any t ab cb at' ct (wz.alloc (.cells #[.int .i64 t.kind, .string t.set, .bool t.neg, .int .i64 t.low, .int .i64 t.high, .slice ab t.kids.length cb] 26)) (kb.alloc _) ((HF.out.step bx).b9.kids) hct)
    have BF := Lib.hid (HF.out.step bx).below
    clear x6 bx kb
    unfold reV at HSM
    go_wp2_with fail
    refine HSM.out.mono ?_
    rintro e wy ⟨rfl, hby⟩
    have BF := Lib.hid (BF.out.trans (hby.mono BF.out.size))
    clear hby
    go_wp2_with fail
    go_ret
    exact ⟨rfl, BF.out⟩
 ·have hnoT := hnoT.out
  have HNO := Lib.hid (fun a c W h => (by have e := hnoT rfl; have q := sameRe_any T a c none 0 W h (by rw [e]; exact kit.Kids.nil 0 W none) hcT; rw [show reV T none 0 = .agg #[.int .i64 0, .string ⟨#[]⟩, .bool false, .int .i64 0, .int .i64 0, .slice none 0 0] by rw [e]; rfl] at q; exact q : Calls Tryd.prog 14 #[reV T a c, .agg #[.int .i64 0, .string ⟨#[]⟩, .bool false, .int .i64 0, .int .i64 0, .slice none 0 0]] W fun e w' => e = .returned (.bool true) ∧ Below W.heap.size W w'))
  clear hnoT
  unfold reV at *
  refine wp_region_held_drew (S := fun w' => ReS g3 g5 g7 g9 g11 o T t l ao a1 a2 at' al co c1 c2 ct cl w w') (by kernel_rfl) HOO.out (fun hHeld => ?_)
  clear HOO
  refine wpAnyH_take (i := 0) (v := .agg #[.int .i64 o.kind, .string o.set, .bool o.neg, .int .i64 o.low, .int .i64 o.high, .slice ao o.kids.length co]) rfl (by kernel_rfl) (by kernel_rfl) (by kernel_rfl) (fun _ _ _ h => h) (Or.inl ⟨by kernel_rfl, fun w hSw => by obtain ⟨x0, x1, x2, x3, x4, x5, _⟩ := hSw.b3.six.cells; go_simp⟩) (by assumption) ?_
  try simp only [List.getElem_toArray, List.getElem_cons_zero, List.getElem_cons_succ, Act.put, List.setIfInBounds_toArray, List.set_cons_zero, List.set_cons_succ]
  refine wpAnyH_take (i := 2) (v := .agg #[.int .i64 o.kind, .string o.set, .bool o.neg, .int .i64 o.low, .int .i64 o.high, .slice ao o.kids.length co]) rfl (by kernel_rfl) (by kernel_rfl) (by kernel_rfl) (fun _ _ _ h => h) (Or.inl ⟨by kernel_rfl, fun w hSw => by obtain ⟨x0, x1, x2, x3, x4, x5, _⟩ := hSw.b3.six.cells; go_simp⟩) (by assumption) ?_
  try simp only [List.getElem_toArray, List.getElem_cons_zero, List.getElem_cons_succ, Act.put, List.setIfInBounds_toArray, List.set_cons_zero, List.set_cons_succ]
  refine wpAnyH_ready (rs := [1]) (by kernel_rfl) (by simp) ?_
  refine AllReadyH.cons rfl (fun K hK => ?_) AllReadyH.nil
  go_simp
  refine (implReOk_any o ao co _ (show ReS g3 g5 g7 g9 g11 o T t l ao a1 a2 at' al co c1 c2 ct cl w _ by assumption).b3.kids hco).mono ?_
  rintro e wz ⟨rfl, hbz⟩
  go_wp2_with fail
  refine hK.out _ _ (ReS.step (by assumption) hbz) (fun hHeld => ?_)
  clear hK K hbz
  try simp only [List.getElem_toArray, List.getElem_cons_zero, List.getElem_cons_succ, Act.put, List.setIfInBounds_toArray, List.set_cons_zero, List.set_cons_succ]
  refine wpAnyH_ready (rs := [3]) (by kernel_rfl) (by simp) ?_
  refine AllReadyH.cons rfl (fun K hK => ?_) AllReadyH.nil
  go_simp
  refine (specReOk_any o ao co _ (show ReS g3 g5 g7 g9 g11 o T t l ao a1 a2 at' al co c1 c2 ct cl w _ by assumption).b3.kids hco).mono ?_
  rintro e wz ⟨rfl, hbz⟩
  go_wp2_with fail
  refine hK.out _ _ (ReS.step (by assumption) hbz) (fun hHeld => ?_)
  clear hK K hbz
  try simp only [List.getElem_toArray, List.getElem_cons_zero, List.getElem_cons_succ, Act.put, List.setIfInBounds_toArray, List.set_cons_zero, List.set_cons_succ]
  refine wpAnyH_take (i := 4) (v := .bool false) rfl (by kernel_rfl) (by kernel_rfl) (by kernel_rfl) (fun _ _ _ h => h) (Or.inl ⟨by kernel_rfl, fun w hSw => by go_simp⟩) (by assumption) ?_
  try simp only [List.getElem_toArray, List.getElem_cons_zero, List.getElem_cons_succ, Act.put, List.setIfInBounds_toArray, List.set_cons_zero, List.set_cons_succ]
  refine wpAnyH_take (i := 5) (v := .bool false) rfl (by kernel_rfl) (by kernel_rfl) (by kernel_rfl) (fun _ _ _ h => h) (Or.inl ⟨by kernel_rfl, fun w hSw => by go_simp⟩) (by assumption) ?_
  try simp only [List.getElem_toArray, List.getElem_cons_zero, List.getElem_cons_succ, Act.put, List.setIfInBounds_toArray, List.set_cons_zero, List.set_cons_succ]
  refine wpAnyH_take (i := 6) (v := .agg #[.int .i64 T.kind, .string T.set, .bool T.neg, .int .i64 T.low, .int .i64 T.high, .slice a1 T.kids.length c1]) rfl (by kernel_rfl) (by kernel_rfl) (by kernel_rfl) (fun _ _ _ h => h) (Or.inl ⟨by kernel_rfl, fun w hSw => by obtain ⟨x0, x1, x2, x3, x4, x5, _⟩ := hSw.b5.six.cells; go_simp⟩) (by assumption) ?_
  try simp only [List.getElem_toArray, List.getElem_cons_zero, List.getElem_cons_succ, Act.put, List.setIfInBounds_toArray, List.set_cons_zero, List.set_cons_succ]
  refine wpAnyH_take (i := 7) (v := .agg #[.int .i64 T.kind, .string T.set, .bool T.neg, .int .i64 T.low, .int .i64 T.high, .slice a2 T.kids.length c2]) rfl (by kernel_rfl) (by kernel_rfl) (by kernel_rfl) (fun _ _ _ h => h) (Or.inl ⟨by kernel_rfl, fun w hSw => by obtain ⟨x0, x1, x2, x3, x4, x5, _⟩ := hSw.b7.six.cells; go_simp⟩) (by assumption) ?_
  try simp only [List.getElem_toArray, List.getElem_cons_zero, List.getElem_cons_succ, Act.put, List.setIfInBounds_toArray, List.set_cons_zero, List.set_cons_succ]
  refine wpAnyH_ready (rs := [8]) (by kernel_rfl) (by simp) ?_
  refine AllReadyH.cons rfl (fun K hK => ?_) AllReadyH.nil
  go_simp
  refine (sameRe_any T a1 c1 a2 c2 _ (show ReS g3 g5 g7 g9 g11 o T t l ao a1 a2 at' al co c1 c2 ct cl w _ by assumption).b5.kids (show ReS g3 g5 g7 g9 g11 o T t l ao a1 a2 at' al co c1 c2 ct cl w _ by assumption).b7.kids hcT).mono ?_
  rintro e wz ⟨rfl, hbz⟩
  go_wp2_with fail
  refine hK.out _ _ (ReS.step (by assumption) hbz) (fun hHeld => ?_)
  clear hK K hbz
  try simp only [List.getElem_toArray, List.getElem_cons_zero, List.getElem_cons_succ, Act.put, List.setIfInBounds_toArray, List.set_cons_zero, List.set_cons_succ]
  refine wpAnyH_take (i := 9) (v := .bool false) rfl (by kernel_rfl) (by kernel_rfl) (by kernel_rfl) (fun _ _ _ h => h) (Or.inl ⟨by kernel_rfl, fun w hSw => by go_simp⟩) (by assumption) ?_
  try simp only [List.getElem_toArray, List.getElem_cons_zero, List.getElem_cons_succ, Act.put, List.setIfInBounds_toArray, List.set_cons_zero, List.set_cons_succ]
  refine wpAnyH_take (i := 10) (v := .bool false) rfl (by kernel_rfl) (by kernel_rfl) (by kernel_rfl) (fun _ _ _ h => h) (Or.inl ⟨by kernel_rfl, fun w hSw => by go_simp⟩) (by assumption) ?_
  try simp only [List.getElem_toArray, List.getElem_cons_zero, List.getElem_cons_succ, Act.put, List.setIfInBounds_toArray, List.set_cons_zero, List.set_cons_succ]
  refine wpAnyH_take (i := 11) (v := .bool false) rfl (by kernel_rfl) (by kernel_rfl) (by kernel_rfl) (fun _ _ _ h => h) (Or.inl ⟨by kernel_rfl, fun w hSw => by go_simp⟩) (by assumption) ?_
  try simp only [List.getElem_toArray, List.getElem_cons_zero, List.getElem_cons_succ, Act.put, List.setIfInBounds_toArray, List.set_cons_zero, List.set_cons_succ]
  refine wpAnyH_take (i := 12) (v := .bool false) rfl (by kernel_rfl) (by kernel_rfl) (by kernel_rfl) (fun _ _ _ h => h) (Or.inl ⟨by kernel_rfl, fun w hSw => by go_simp⟩) (by assumption) ?_
  try simp only [List.getElem_toArray, List.getElem_cons_zero, List.getElem_cons_succ, Act.put, List.setIfInBounds_toArray, List.set_cons_zero, List.set_cons_succ]
  refine wpAnyH_take (i := 13) (v := .bool false) rfl (by kernel_rfl) (by kernel_rfl) (by kernel_rfl) (fun _ _ _ h => h) (Or.inl ⟨by kernel_rfl, fun w hSw => by go_simp⟩) (by assumption) ?_
  try simp only [List.getElem_toArray, List.getElem_cons_zero, List.getElem_cons_succ, Act.put, List.setIfInBounds_toArray, List.set_cons_zero, List.set_cons_succ]
  refine wpAnyH_take (i := 14) (v := .bool false) rfl (by kernel_rfl) (by kernel_rfl) (by kernel_rfl) (fun _ _ _ h => h) (Or.inl ⟨by kernel_rfl, fun w hSw => by go_simp⟩) (by assumption) ?_
  try simp only [List.getElem_toArray, List.getElem_cons_zero, List.getElem_cons_succ, Act.put, List.setIfInBounds_toArray, List.set_cons_zero, List.set_cons_succ]
  refine wpAnyH_take (i := 15) (v := .bool false) rfl (by kernel_rfl) (by kernel_rfl) (by kernel_rfl) (fun _ _ _ h => h) (Or.inl ⟨by kernel_rfl, fun w hSw => by go_simp⟩) (by assumption) ?_
  try simp only [List.getElem_toArray, List.getElem_cons_zero, List.getElem_cons_succ, Act.put, List.setIfInBounds_toArray, List.set_cons_zero, List.set_cons_succ]
  refine wpAnyH_take (i := 16) (v := .bool false) rfl (by kernel_rfl) (by kernel_rfl) (by kernel_rfl) (fun _ _ _ h => h) (Or.inl ⟨by kernel_rfl, fun w hSw => by go_simp⟩) (by assumption) ?_
  try simp only [List.getElem_toArray, List.getElem_cons_zero, List.getElem_cons_succ, Act.put, List.setIfInBounds_toArray, List.set_cons_zero, List.set_cons_succ]
  refine wpAnyH_take (i := 17) (v := .string z) rfl (by kernel_rfl) (by kernel_rfl) (by kernel_rfl) (fun _ _ _ h => h) (Or.inl ⟨by kernel_rfl, fun w hSw => by go_simp⟩) (by assumption) ?_
  try simp only [List.getElem_toArray, List.getElem_cons_zero, List.getElem_cons_succ, Act.put, List.setIfInBounds_toArray, List.set_cons_zero, List.set_cons_succ]
  refine wpAnyH_take (i := 18) (v := .agg #[.int .i64 t.kind, .string t.set, .bool t.neg, .int .i64 t.low, .int .i64 t.high, .slice at' t.kids.length ct]) rfl (by kernel_rfl) (by kernel_rfl) (by kernel_rfl) (fun _ _ _ h => h) (Or.inl ⟨by kernel_rfl, fun w hSw => by obtain ⟨x0, x1, x2, x3, x4, x5, _⟩ := hSw.b9.six.cells; go_simp⟩) (by assumption) ?_
  try simp only [List.getElem_toArray, List.getElem_cons_zero, List.getElem_cons_succ, Act.put, List.setIfInBounds_toArray, List.set_cons_zero, List.set_cons_succ]
  refine wpAnyH_ready (rs := [19]) (by kernel_rfl) (by simp) ?_
  refine AllReadyH.cons rfl (fun K hK => ?_) AllReadyH.nil
  go_simp
  refine (HSX.out at' ct _ (show ReS g3 g5 g7 g9 g11 o T t l ao a1 a2 at' al co c1 c2 ct cl w _ by assumption).b9.kids).mono ?_
  rintro e wz ⟨rfl, hbz⟩
  go_wp2_with fail
  refine hK.out _ _ (ReS.step (by assumption) hbz) (fun hHeld => ?_)
  clear hK K hbz
  try simp only [List.getElem_toArray, List.getElem_cons_zero, List.getElem_cons_succ, Act.put, List.setIfInBounds_toArray, List.set_cons_zero, List.set_cons_succ]
  refine wpAnyH_take (i := 20) (v := .bool false) rfl (by kernel_rfl) (by kernel_rfl) (by kernel_rfl) (fun _ _ _ h => h) (Or.inl ⟨by kernel_rfl, fun w hSw => by go_simp⟩) (by assumption) ?_
  try simp only [List.getElem_toArray, List.getElem_cons_zero, List.getElem_cons_succ, Act.put, List.setIfInBounds_toArray, List.set_cons_zero, List.set_cons_succ]
  refine wpAnyH_take (i := 21) (v := .bool false) rfl (by kernel_rfl) (by kernel_rfl) (by kernel_rfl) (fun _ _ _ h => h) (Or.inl ⟨by kernel_rfl, fun w hSw => by go_simp⟩) (by assumption) ?_
  try simp only [List.getElem_toArray, List.getElem_cons_zero, List.getElem_cons_succ, Act.put, List.setIfInBounds_toArray, List.set_cons_zero, List.set_cons_succ]
  refine wpAnyH_take (i := 22) (v := .bool false) rfl (by kernel_rfl) (by kernel_rfl) (by kernel_rfl) (fun _ _ _ h => h) (Or.inl ⟨by kernel_rfl, fun w hSw => by go_simp⟩) (by assumption) ?_
  try simp only [List.getElem_toArray, List.getElem_cons_zero, List.getElem_cons_succ, Act.put, List.setIfInBounds_toArray, List.set_cons_zero, List.set_cons_succ]
  refine wpAnyH_take (i := 23) (v := .agg #[.int .i64 l.kind, .string l.set, .bool l.neg, .int .i64 l.low, .int .i64 l.high, .slice al l.kids.length cl]) rfl (by kernel_rfl) (by kernel_rfl) (by kernel_rfl) (fun _ _ _ h => h) (Or.inl ⟨by kernel_rfl, fun w hSw => by obtain ⟨x0, x1, x2, x3, x4, x5, _⟩ := hSw.b11.six.cells; go_simp⟩) (by assumption) ?_
  try simp only [List.getElem_toArray, List.getElem_cons_zero, List.getElem_cons_succ, Act.put, List.setIfInBounds_toArray, List.set_cons_zero, List.set_cons_succ]
  refine wpAnyH_take (i := 25) (v := .agg #[.int .i64 l.kind, .string l.set, .bool l.neg, .int .i64 l.low, .int .i64 l.high, .slice al l.kids.length cl]) rfl (by kernel_rfl) (by kernel_rfl) (by kernel_rfl) (fun _ _ _ h => h) (Or.inl ⟨by kernel_rfl, fun w hSw => by obtain ⟨x0, x1, x2, x3, x4, x5, _⟩ := hSw.b11.six.cells; go_simp⟩) (by assumption) ?_
  try simp only [List.getElem_toArray, List.getElem_cons_zero, List.getElem_cons_succ, Act.put, List.setIfInBounds_toArray, List.set_cons_zero, List.set_cons_succ]
  refine wpAnyH_ready (rs := [24]) (by kernel_rfl) (by simp) ?_
  refine AllReadyH.cons rfl (fun K hK => ?_) AllReadyH.nil
  go_simp
  refine (HLI.out al cl _ (show ReS g3 g5 g7 g9 g11 o T t l ao a1 a2 at' al co c1 c2 ct cl w _ by assumption).b11.kids).mono ?_
  rintro e wz ⟨rfl, hbz⟩
  go_wp2_with fail
  refine hK.out _ _ (ReS.step (by assumption) hbz) (fun hHeld => ?_)
  clear hK K hbz
  try simp only [List.getElem_toArray, List.getElem_cons_zero, List.getElem_cons_succ, Act.put, List.setIfInBounds_toArray, List.set_cons_zero, List.set_cons_succ]
  refine wpAnyH_ready (rs := [26]) (by kernel_rfl) (by simp) ?_
  refine AllReadyH.cons rfl (fun K hK => ?_) AllReadyH.nil
  go_simp
  refine (HLS.out al cl _ (show ReS g3 g5 g7 g9 g11 o T t l ao a1 a2 at' al co c1 c2 ct cl w _ by assumption).b11.kids).mono ?_
  rintro e wz ⟨rfl, hbz⟩
  go_wp2_with fail
  refine hK.out _ _ (ReS.step (by assumption) hbz) (fun hHeld => ?_)
  clear hK K hbz
  try simp only [List.getElem_toArray, List.getElem_cons_zero, List.getElem_cons_succ, Act.put, List.setIfInBounds_toArray, List.set_cons_zero, List.set_cons_succ]
  refine wpAnyH_take (i := 27) (v := .bool false) rfl (by kernel_rfl) (by kernel_rfl) (by kernel_rfl) (fun _ _ _ h => h) (Or.inl ⟨by kernel_rfl, fun w hSw => by go_simp⟩) (by assumption) ?_
  try simp only [List.getElem_toArray, List.getElem_cons_zero, List.getElem_cons_succ, Act.put, List.setIfInBounds_toArray, List.set_cons_zero, List.set_cons_succ]
  refine wpAnyH_take (i := 28) (v := .bool false) rfl (by kernel_rfl) (by kernel_rfl) (by kernel_rfl) (fun _ _ _ h => h) (Or.inl ⟨by kernel_rfl, fun w hSw => by go_simp⟩) (by assumption) ?_
  try simp only [List.getElem_toArray, List.getElem_cons_zero, List.getElem_cons_succ, Act.put, List.setIfInBounds_toArray, List.set_cons_zero, List.set_cons_succ]
  refine wpAnyH_take (i := 29) (v := .bool false) rfl (by kernel_rfl) (by kernel_rfl) (by kernel_rfl) (fun _ _ _ h => h) (Or.inl ⟨by kernel_rfl, fun w hSw => by go_simp⟩) (by assumption) ?_
  try simp only [List.getElem_toArray, List.getElem_cons_zero, List.getElem_cons_succ, Act.put, List.setIfInBounds_toArray, List.set_cons_zero, List.set_cons_succ]
  refine wpAnyH_take (i := 30) (v := .bool false) rfl (by kernel_rfl) (by kernel_rfl) (by kernel_rfl) (fun _ _ _ h => h) (Or.inl ⟨by kernel_rfl, fun w hSw => by go_simp⟩) (by assumption) ?_
  try simp only [List.getElem_toArray, List.getElem_cons_zero, List.getElem_cons_succ, Act.put, List.setIfInBounds_toArray, List.set_cons_zero, List.set_cons_succ]
  refine wpAnyH_take (i := 31) (v := .bool false) rfl (by kernel_rfl) (by kernel_rfl) (by kernel_rfl) (fun _ _ _ h => h) (Or.inl ⟨by kernel_rfl, fun w hSw => by go_simp⟩) (by assumption) ?_
  try simp only [List.getElem_toArray, List.getElem_cons_zero, List.getElem_cons_succ, Act.put, List.setIfInBounds_toArray, List.set_cons_zero, List.set_cons_succ]
  refine wpAnyH_take (i := 32) (v := undef) rfl (by kernel_rfl) (by kernel_rfl) (by kernel_rfl) (fun _ _ _ h => h) (Or.inr ⟨by kernel_rfl, rfl⟩) (by assumption) ?_
  try simp only [List.getElem_toArray, List.getElem_cons_zero, List.getElem_cons_succ, Act.put, List.setIfInBounds_toArray, List.set_cons_zero, List.set_cons_succ]
  refine wpAnyH_take (i := 33) (v := undef) rfl (by kernel_rfl) (by kernel_rfl) (by kernel_rfl) (fun _ _ _ h => h) (Or.inr ⟨by kernel_rfl, rfl⟩) (by assumption) ?_
  try simp only [List.getElem_toArray, List.getElem_cons_zero, List.getElem_cons_succ, Act.put, List.setIfInBounds_toArray, List.set_cons_zero, List.set_cons_succ]
  refine wpAnyH_take (i := 34) (v := undef) rfl (by kernel_rfl) (by kernel_rfl) (by kernel_rfl) (fun _ _ _ h => h) (Or.inr ⟨by kernel_rfl, rfl⟩) (by assumption) ?_
  try simp only [List.getElem_toArray, List.getElem_cons_zero, List.getElem_cons_succ, Act.put, List.setIfInBounds_toArray, List.set_cons_zero, List.set_cons_succ]
  refine wpAnyH_take (i := 35) (v := .bool false) rfl (by kernel_rfl) (by kernel_rfl) (by kernel_rfl) (fun _ _ _ h => h) (Or.inl ⟨by kernel_rfl, fun w hSw => by go_simp⟩) (by assumption) ?_
  try simp only [List.getElem_toArray, List.getElem_cons_zero, List.getElem_cons_succ, Act.put, List.setIfInBounds_toArray, List.set_cons_zero, List.set_cons_succ]
  refine wpAnyH_take (i := 36) (v := .bool false) rfl (by kernel_rfl) (by kernel_rfl) (by kernel_rfl) (fun _ _ _ h => h) (Or.inl ⟨by kernel_rfl, fun w hSw => by go_simp⟩) (by assumption) ?_
  try simp only [List.getElem_toArray, List.getElem_cons_zero, List.getElem_cons_succ, Act.put, List.setIfInBounds_toArray, List.set_cons_zero, List.set_cons_succ]
  refine wpAnyH_take (i := 37) (v := .bool false) rfl (by kernel_rfl) (by kernel_rfl) (by kernel_rfl) (fun _ _ _ h => h) (Or.inl ⟨by kernel_rfl, fun w hSw => by go_simp⟩) (by assumption) ?_
  try simp only [List.getElem_toArray, List.getElem_cons_zero, List.getElem_cons_succ, Act.put, List.setIfInBounds_toArray, List.set_cons_zero, List.set_cons_succ]
  refine wpAnyH_take (i := 38) (v := .bool false) rfl (by kernel_rfl) (by kernel_rfl) (by kernel_rfl) (fun _ _ _ h => h) (Or.inl ⟨by kernel_rfl, fun w hSw => by go_simp⟩) (by assumption) ?_
  try simp only [List.getElem_toArray, List.getElem_cons_zero, List.getElem_cons_succ, Act.put, List.setIfInBounds_toArray, List.set_cons_zero, List.set_cons_succ]
  refine wpAnyH_take (i := 39) (v := .bool true) rfl (by kernel_rfl) (by kernel_rfl) (by kernel_rfl) (fun _ _ _ h => h) (Or.inl ⟨by kernel_rfl, fun w hSw => by go_simp⟩) (by assumption) ?_
  try simp only [List.getElem_toArray, List.getElem_cons_zero, List.getElem_cons_succ, Act.put, List.setIfInBounds_toArray, List.set_cons_zero, List.set_cons_succ]
  refine wpAnyH_take (i := 40) (v := .bool true) rfl (by kernel_rfl) (by kernel_rfl) (by kernel_rfl) (fun _ _ _ h => h) (Or.inl ⟨by kernel_rfl, fun w hSw => by go_simp⟩) (by assumption) ?_
  try simp only [List.getElem_toArray, List.getElem_cons_zero, List.getElem_cons_succ, Act.put, List.setIfInBounds_toArray, List.set_cons_zero, List.set_cons_succ]
  refine wpAnyH_take (i := 41) (v := .agg #[.int .i64 T.kind, .string T.set, .bool T.neg, .int .i64 T.low, .int .i64 T.high, .slice a1 T.kids.length c1]) rfl (by kernel_rfl) (by kernel_rfl) (by kernel_rfl) (fun _ _ _ h => h) (Or.inl ⟨by kernel_rfl, fun w hSw => by obtain ⟨x0, x1, x2, x3, x4, x5, _⟩ := hSw.b5.six.cells; go_simp⟩) (by assumption) ?_
  try simp only [List.getElem_toArray, List.getElem_cons_zero, List.getElem_cons_succ, Act.put, List.setIfInBounds_toArray, List.set_cons_zero, List.set_cons_succ]
  refine wpAnyH_take (i := 42) (v := .agg #[.int .i64 0, .string ⟨#[]⟩, .bool false, .int .i64 0, .int .i64 0, .slice none 0 0]) rfl (by kernel_rfl) (by kernel_rfl) (by kernel_rfl) (fun _ _ _ h => h) (Or.inl ⟨by kernel_rfl, fun w hSw => by go_simp⟩) (by assumption) ?_
  try simp only [List.getElem_toArray, List.getElem_cons_zero, List.getElem_cons_succ, Act.put, List.setIfInBounds_toArray, List.set_cons_zero, List.set_cons_succ]
  refine wpAnyH_ready (rs := [43]) (by kernel_rfl) (by simp) ?_
  refine AllReadyH.cons rfl (fun K hK => ?_) AllReadyH.nil
  go_simp
  refine (HNO.out a1 c1 _ (show ReS g3 g5 g7 g9 g11 o T t l ao a1 a2 at' al co c1 c2 ct cl w _ by assumption).b5.kids).mono ?_
  rintro e wz ⟨rfl, hbz⟩
  go_wp2_with fail
  refine hK.out _ _ (ReS.step (by assumption) hbz) (fun hHeld => ?_)
  clear hK K hbz
  try simp only [List.getElem_toArray, List.getElem_cons_zero, List.getElem_cons_succ, Act.put, List.setIfInBounds_toArray, List.set_cons_zero, List.set_cons_succ]
  refine wpAnyH_take (i := 44) (v := .bool false) rfl (by kernel_rfl) (by kernel_rfl) (by kernel_rfl) (fun _ _ _ h => h) (Or.inl ⟨by kernel_rfl, fun w hSw => by go_simp⟩) (by assumption) ?_
  try simp only [List.getElem_toArray, List.getElem_cons_zero, List.getElem_cons_succ, Act.put, List.setIfInBounds_toArray, List.set_cons_zero, List.set_cons_succ]
  refine wpAnyH_take (i := 45) (v := .bool false) rfl (by kernel_rfl) (by kernel_rfl) (by kernel_rfl) (fun _ _ _ h => h) (Or.inl ⟨by kernel_rfl, fun w hSw => by go_simp⟩) (by assumption) ?_
  try simp only [List.getElem_toArray, List.getElem_cons_zero, List.getElem_cons_succ, Act.put, List.setIfInBounds_toArray, List.set_cons_zero, List.set_cons_succ]
  refine wpAnyH_take (i := 46) (v := .bool false) rfl (by kernel_rfl) (by kernel_rfl) (by kernel_rfl) (fun _ _ _ h => h) (Or.inl ⟨by kernel_rfl, fun w hSw => by go_simp⟩) (by assumption) ?_
  try simp only [List.getElem_toArray, List.getElem_cons_zero, List.getElem_cons_succ, Act.put, List.setIfInBounds_toArray, List.set_cons_zero, List.set_cons_succ]
  refine wpAnyH_done (by kernel_rfl) ?_ _
  skip
  have HF := Lib.hid (show ReS g3 g5 g7 g9 g11 o T t l ao a1 a2 at' al co c1 c2 ct cl w _ by assumption)
  cases hok : RT.ok t
  ·have hz : z = ⟨#[]⟩ := by rw [HZ.out, hok]; rfl
   subst hz
   obtain ⟨x0, x1, x2, x3, x4, x5, x6⟩ := HF.out.b9.six.cells
   clear x6
   have HOK := Lib.hid (specReOk_any t at' ct _ HF.out.b9.kids hct)
   rw [hok] at HOK
   unfold reV at HOK
   go_wp2_with fail
   refine HOK.out.mono ?_
   rintro e wz ⟨rfl, hbz⟩
   have BF := Lib.hid (HF.out.step hbz).below
   clear hbz
   go_wp2_with fail
   go_ret
   exact ⟨rfl, BF.out⟩
  ·have hz : z = ⟨(RT.txt t).toArray⟩ := by rw [HZ.out, hok]; rfl
   have hne : z.size ≠ 0 := by
     rw [hz]; intro q; exact PR.txt_ne hok (List.length_eq_zero_iff.1 (by have : (RT.txt t).toArray.size = 0 := q; simpa using this))
   have hzl : z.size ≤ 1048576 := by
     have h1 := RT.txt_len _ t (Nat.le_refl _) (RT.ok_good hok)
     rw [hz]; show (RT.txt t).toArray.size ≤ _; simp; omega
   have hne : z.size ≠ 0 := by
     rw [hz]; intro q; exact PR.txt_ne hok (List.length_eq_zero_iff.1 (by have : (RT.txt t).toArray.size = 0 := q; simpa using this))
   have hzl : z.size ≤ 1048576 := by
     have h1 := RT.txt_len _ t (Nat.le_refl _) (RT.ok_good hok)
     rw [hz]; show (RT.txt t).toArray.size ≤ _; simp; omega
   have hem : z.toList.isEmpty = false := not_empty_of_size hne
   have hzk := Lib.hid hz
   clear hz
   by_cases hbig : 4000 < z.size
   ·have d1 : decide (4000 < z.size) = true := by simpa using hbig
    have d2 : decide ((4000 : Int) < (z.size : Int)) = true := by simp; omega
    skip
    skip
    go_wp2_with fail
    refine ((implParse_any z _ hzl).mono (fun _ _ h => uni h)).mono ?_
    rintro e wz ⟨hbz, ab, cb, rfl, kb⟩
    have BF := Lib.hid (HF.out.step hbz).below
    have z9 := hbz.size
    clear hbz
    unfold reV
    go_wp2_with fail
    go_ret
    exact ⟨rfl, BF.out.alloc (Nat.le_trans (HF.out.below.size) (by omega)) _⟩
   ·have d1 : decide (4000 < z.size) = false := by simpa using hbig
    have d2 : decide ((4000 : Int) < (z.size : Int)) = false := by simp; omega
    have hz := hzk.out
    have hp : PR.parse z = some t := by
      rw [hz]; apply PR.parse_txt hok; have : z.size = (RT.txt t).length := by rw [hz]; show (RT.txt t).toArray.size = _; simp
      omega
    clear hz hzk
    go_wp2_with fail
    refine ((implParse_any z _ hzl).mono (fun _ _ h => uni h)).mono ?_
    rw [hp]
    rintro e wz ⟨hbz, ab, cb, rfl, kb⟩
    have kb : kit.Kids 0 wz t.kids ab := kb
    show _
    have HF := Lib.hid (HF.out.step hbz)
    clear hbz
    simp only [Option.getD_some, Option.isSome_some]
    unfold reV
    have bx : Below wz.heap.size wz (wz.alloc (.cells #[.int .i64 t.kind, .string t.set, .bool t.neg, .int .i64 t.low, .int .i64 t.high, .slice ab t.kids.length cb] 26)) := (Below.refl _ _).alloc (Nat.le_refl _) _
    obtain ⟨x0, x1, x2, x3, x4, x5, x6⟩ := HF.out.b9.six.cells
    have x9 := HF.out.b9.six.lt
    have HSM := Lib.hid (sameRe_any t ab cb at' ct (wz.alloc (.cells #[.int .i64 t.kind, .string t.set, .bool t.neg, .int .i64 t.low, .int .i64 t.high, .slice ab t.kids.length cb] 26)) (kb.alloc _) ((HF.out.step bx).b9.kids) hct)
    have BF := Lib.hid (HF.out.step bx).below
    clear x6 bx kb
    unfold reV at HSM
    go_wp2_with fail
    refine HSM.out.mono ?_
    rintro e wy ⟨rfl, hby⟩
    have BF := Lib.hid (BF.out.trans (hby.mono BF.out.size))
    clear hby
    go_wp2_with fail
    go_ret
    exact ⟨rfl, BF.out⟩
set_option maxRecDepth 100000 in
theorem walk (a : Option Addr) (n cap : Nat) (w : World) (hm : n ≤ maxLen) (hc : Code8 w a n) (ht : Tab w) :
  Calls Tryd.prog 3 #[.slice a n cap] w fun e w' => e = .returned (.bool true) ∧ Below w.heap.size w w' := by
 by_cases hn : n ≤ 1048576
 ·exact walk1 a n cap w hn hc ht
 ·go_enter Tryd.func3, Tryd.ntmps3
  go_wp2_with fail
  refine (big_yes a n cap _ (by omega)).mono ?_
  rintro e w1 ⟨rfl, rfl⟩
  go_wp2
  go_ret
  exact ⟨rfl, Below.refl _ _⟩

set_option maxRecDepth 100000 in
theorem contract (H : Type) (enc : TypeId × Value → H) (W : World) (base : Nat) (args : Array Value) (ds gs : List (DataW H)) (before : List MemPlace)
  (hval : ∀ (j : Nat) t v, Tryd.f3.params[j]? = some t → args[j]? = some v → Value.okWide Tryd.prog W .any base t v)
  (hW : DataW.Whole enc Tryd.prog Tryd.f3.params.toList Rows.fnReSpec.vars false W args.toList ds gs before) (hL : laidMet Tryd.prog Rows.fnReRow.laid W) :
  Calls Tryd.prog 3 args W fun e W' => ∃ v, e = .returned v ∧ Rows.fnReSpec.post enc Tryd.prog Tryd.f3 false true false false W args v W' := by
 have hW' := hW
 obtain ⟨p, q, hA0, hV, rfl, hfz, hnd⟩ := hW
 have hA : DataW.TrodAll enc Tryd.prog W 0 (fun _ => true) true Tryd.f3.params.toList args.toList ds p := hA0
 rw [Tryd.params3] at hA hval
 obtain ⟨v0, vs0, d0, ds0, p0, q0, hargs, rfl, rfl, h0, r0⟩ := trodAll_cons hA
 obtain ⟨rfl, rfl, rfl⟩ := trodAll_nil r0
 obtain rfl : args = #[v0] := by cases args; simp_all
 obtain ⟨rfl, rfl⟩ := trodVars_none hV
 obtain ⟨a0, n0, c0, rfl, hn0, hc0⟩ := open_code (hval 0 22 v0 rfl rfl) h0
 have hlt0 : ∀ x ∈ p0, x.block < W.heap.size := fun x hx => by simpa using hW'.lt x (by simp [hx])
 clear hA0
 refine (walk a0 n0 c0 W hn0 hc0 (table hL)).mono fun e W' ⟨he, bel⟩ => ?_
 subst he
 exact ⟨_, rfl, _, _, _, [], _, [], hW', trodAll_mk1 (shut_bool Tryd.underlying4 _), (trodAll_cons_mk (Below.trod laidOut (by kernel_rfl) (of_decide_eq_true (by kernel_rfl)) h0 bel hlt0) trodAll_mk0), rfl, bel.frame _, fun h => by cases h⟩

/-- A world for the witness: the listed variables hold what is listed. -/
noncomputable def laidWorld (os : Os) : World := World.laidAll Tryd.prog os Rows.fnReRow.laid
theorem laid_met (os : Os) : laidMet Tryd.prog Rows.fnReRow.laid ((laidWorld os).forCall (fun _ _ => 0) ⟨#[], #[.slice none 0 0], []⟩).memory :=
 laidMet_laidAll _ (by kernel_rfl) (by kernel_rfl)
theorem reads (os : Os) {H : Type} (enc : TypeId × Value → H) : ∃ places, DataW.whole enc Tryd.prog ((laidWorld os).forCall (fun _ _ => 0) ⟨#[], #[.slice none 0 0], []⟩).memory Tryd.f3.params.toList Rows.fnReSpec.vars false #[Value.slice none 0 0].toList 8 = some ([.nil], [], places) :=
 ⟨[], by kernel_rfl⟩

set_option maxRecDepth 100000 in
theorem lifted (os : Os) (started : os.Started) (H : Type) (enc : TypeId × Value → H) (F : Stop.Interp) :
  ReturnsInHanded {} Tryd.checked os 3 .any ((OpenSpec.ofChange Rows.fnReSpec).preRow enc Tryd.prog Tryd.f3 Rows.fnReRow.domain false Rows.fnReRow.laid) (((OpenSpec.ofChange Rows.fnReSpec).at F).post enc Tryd.prog Tryd.f3 false true false false) := by
 obtain ⟨places, hx⟩ := reads os enc
 refine returnsInHanded_of_row (C := Tryd.checked) (s := OpenSpec.ofChange Rows.fnReSpec) own started (by kernel_rfl) Tryd.func3
  (witness_row_at (enc := enc) (C := Tryd.checked) false (laidWorld os) #[.slice none 0 0] (World.laidAll_os _ _ _) (by kernel_rfl) (by kernel_rfl) (by kernel_rfl)
   (OpenSpec.preRow_of_cond 8 hx (by kernel_rfl) (fun k hk => by cases hk) (by kernel_rfl) (laid_met os))) ?_
 intro W base args ds gs before hval hW _ _ _ hL _ _
 exact contract H enc W base args ds gs before hval hW hL

theorem said : Rows.FnReSaid :=
 OpenClaim.holds_of_cond 3 Tryd.f3 rfl rfl rfl rfl rfl rfl rfl ⟨rfl, rfl, rfl, rfl, rfl⟩ rfl rfl rfl rfl rfl (by kernel_rfl) Tryd.func3 (by kernel_rfl)
  (of_decide_eq_true (by kernel_rfl)) (by unfold Func.isWrapper; first | (rw [if_pos (by decide +kernel)]; kernel_rfl) | (rw [if_neg (by decide +kernel)]; exact ⟨rfl, rfl⟩))
  (fun os started H enc _ F => by rw [OpenClaim.pre_eq_preRow]; exact lifted os started H enc F)

theorem plain (f : FuncId) (fn : Func) (hf : Tryd.pinned.checked.prog.funcNamed Rows.fnReRow.func = some f) (hfn : Tryd.pinned.checked.prog.funcs[f]? = some fn) :
  false = Tryd.pinned.checked.prog.looks [] ∧ ∀ (j : Nat) t, fn.params[j]? = some t → Tryd.pinned.checked.prog.wantsStandIn t = false := by
 obtain rfl : f = 3 := Option.some.inj ((show Tryd.prog.funcNamed Rows.fnReRow.func = some 3 by kernel_rfl).symm.trans hf) |>.symm
 obtain rfl : fn = Tryd.f3 := (Option.some.inj (Tryd.func3.symm.trans hfn)).symm
 refine ⟨by kernel_rfl, fun j t ht => ?_⟩
 rw [Tryd.params3] at ht
 obtain rfl : t = 22 := by simpa using Array.mem_of_getElem? ht
 exact (show Tryd.prog.wantsStandIn 22 = false by kernel_rfl)

theorem card : Rows.FnReCardSaid :=
 Claim7.holds_tied_plain_at .later [] _ _ _ _ said (fun _ h => by cases h) (by kernel_rfl) (fun _ h => by cases h) fnRe_row_tie rfl ⟨rfl, rfl⟩ (by kernel_rfl) rfl plain (by kernel_rfl)
#print axioms card
end Go.Proofs.YtcpaneaiobnhdaaDoor.fnRe
