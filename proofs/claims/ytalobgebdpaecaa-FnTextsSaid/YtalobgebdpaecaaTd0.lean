/-
  Contracts of the draws of the law on texts (spec.DrawLines, DrawWords, DrawCut, DrawIndexOf, DrawSubstr, DrawLower, DrawUpper) over this seat's translation: what they draw is short. Conditions: at most 1048576 bytes of code.
-/
import Derived.Test.YtalobgebdpaecaaTx1
import Derived.Test.YtalobgebdpaecaaCu3
import Derived.Test.YtalobgebdpaecaaCod
import Derived.Deep.RegionHeld3
namespace Go.Proofs.Ytalobgebdpaecaa.kit
open Go.ChangeShapes Go.WideShapes Go.ChangeAt Go.RowKit
set_option linter.unusedVariables false

def ShT (k : Nat) (z : ByteArray) : Prop := z.size ≤ k
/-- A text of at most k bytes is drawn. -/
def DrT (k : Nat) (w : World) (e : Ending) (w' : World) : Prop := ∃ s : ByteArray, s.size ≤ k ∧ e = .returned (.string s) ∧ Below w.heap.size w w'
def lnT : List ByteArray := [⟨#[97]⟩, ⟨#[10]⟩, ⟨#[98, 99]⟩, ⟨#[10]⟩, ⟨#[]⟩]
theorem lnT_short : ∀ z ∈ lnT, ShT 2 z := by unfold lnT ShT; decide
def wdT : List ByteArray := [⟨#[97]⟩, ⟨#[32]⟩, ⟨#[98, 99]⟩, ⟨#[9]⟩, ⟨#[]⟩, ⟨#[10]⟩]
theorem wdT_short : ∀ z ∈ wdT, ShT 2 z := by unfold wdT ShT; decide
def ctT : List ByteArray := [⟨#[97]⟩, ⟨#[44]⟩, ⟨#[98, 99]⟩, ⟨#[44]⟩, ⟨#[]⟩]
theorem ctT_short : ∀ z ∈ ctT, ShT 2 z := by unfold ctT ShT; decide
def ixT : List ByteArray := [⟨#[]⟩, ⟨#[97]⟩, ⟨#[97, 98]⟩, ⟨#[122, 122]⟩]
theorem ixT_short : ∀ z ∈ ixT, ShT 2 z := by unfold ixT ShT; decide
def rwT : List ByteArray := [⟨#[]⟩, ⟨#[34]⟩, ⟨#[92]⟩, ⟨#[10]⟩, ⟨#[32]⟩, ⟨#[9]⟩, ⟨#[127]⟩, ⟨#[65]⟩]
theorem rwT_short : ∀ z ∈ rwT, ShT 2 z := by unfold rwT ShT; decide
set_option maxRecDepth 100000 in
set_option maxHeartbeats 1000000 in
theorem drawLines_any (a : Option Addr) (n cap : Nat) (w : World) (hn : n ≤ 1048576) (hc : Code8 w a n) :
    Calls Try.prog 8 #[.slice a n cap] w (DrT 20 w) := by
  go_enter Try.func8, Try.ntmps8
  go_wp2_with fail
  refine (new_any a n cap _ hn hc).mono ?_
  rintro e w1 ⟨rfl, c1, hb1⟩
  go_wp2_with fail
  refine (below_any w.heap.size 6 _ c1 (by omega) (by omega)).mono ?_
  rintro e w2 ⟨x, ⟨x0, x1⟩, rfl, c2, o2⟩
  obtain ⟨m, rfl⟩ : ∃ m : Nat, x = (m : Int) := ⟨x.toNat, by omega⟩
  have C2 := Lib.hid c2
  have HB1 := Lib.hid hb1
  have O2 := Lib.hid o2
  have L1 := Lib.hid c1.lt
  clear c1 c2 hb1 o2
  go_wp2_with fail
  go_loopw [4, 6] (fun v i wr => ∃ (k : Nat) (s : ByteArray), k ≤ m ∧ i = .int .i64 (k : Int) ∧ v = .string s ∧ s.size ≤ 2 * k ∧ CurE wr w.heap.size ∧ OnlyB w.heap.size w1 wr) (fun _ i _ => m - (intOf i).toNat)
  case atStart => exact ⟨0, ⟨#[]⟩, Nat.zero_le _, rfl, rfl, by show 0 ≤ 0; omega, C2.out, O2.out⟩
  case round =>
    obtain ⟨k, s, hk, rfl, rfl, hs, hcu, hon⟩ := hrel
    have HC := Lib.hid hcu
    have HO := Lib.hid hon
    clear hcu hon
    by_cases hlt : k < m
    · have nw : wr.heap.size ≠ w.heap.size := by have := HC.out.lt; omega
      go_wp2_with fail
      refine (pick_any (ShT 2) w.heap.size wr.heap.size 5 _ _ (HC.out.alloc _) (listS_alloc lnT _ _ _ rfl lnT_short) nw (by omega) (by omega)).mono ?_
      rintro e w3 ⟨z, hz, rfl, c3, o3⟩
      have hz1 : z.size ≤ 2 := hz
      have C3 := Lib.hid c3
      have O3 := Lib.hid ((HO.out.alloc _).trans o3)
      clear c3 o3 hz
      go_wp2_with fail
      go_roundw
      case rel => exact ⟨k + 1, s ++ z, by omega, by go_num, rfl, by rw [ByteArray.size_append]; omega, C3.out, O3.out⟩
      case measure => simp [intOf]; omega
    · go_wp2_with fail
      go_ret
      exact ⟨s, by omega, rfl, HB1.out.trans (HO.out.below L1.out)⟩
set_option maxRecDepth 100000 in
set_option maxHeartbeats 1000000 in
theorem drawWords_any (a : Option Addr) (n cap : Nat) (w : World) (hn : n ≤ 1048576) (hc : Code8 w a n) :
    Calls Try.prog 10 #[.slice a n cap] w (DrT 20 w) := by
  go_enter Try.func10, Try.ntmps10
  go_wp2_with fail
  refine (new_any a n cap _ hn hc).mono ?_
  rintro e w1 ⟨rfl, c1, hb1⟩
  go_wp2_with fail
  refine (below_any w.heap.size 7 _ c1 (by omega) (by omega)).mono ?_
  rintro e w2 ⟨x, ⟨x0, x1⟩, rfl, c2, o2⟩
  obtain ⟨m, rfl⟩ : ∃ m : Nat, x = (m : Int) := ⟨x.toNat, by omega⟩
  have C2 := Lib.hid c2
  have HB1 := Lib.hid hb1
  have O2 := Lib.hid o2
  have L1 := Lib.hid c1.lt
  clear c1 c2 hb1 o2
  go_wp2_with fail
  go_loopw [4, 6] (fun v i wr => ∃ (k : Nat) (s : ByteArray), k ≤ m ∧ i = .int .i64 (k : Int) ∧ v = .string s ∧ s.size ≤ 2 * k ∧ CurE wr w.heap.size ∧ OnlyB w.heap.size w1 wr) (fun _ i _ => m - (intOf i).toNat)
  case atStart => exact ⟨0, ⟨#[]⟩, Nat.zero_le _, rfl, rfl, by show 0 ≤ 0; omega, C2.out, O2.out⟩
  case round =>
    obtain ⟨k, s, hk, rfl, rfl, hs, hcu, hon⟩ := hrel
    have HC := Lib.hid hcu
    have HO := Lib.hid hon
    clear hcu hon
    by_cases hlt : k < m
    · have nw : wr.heap.size ≠ w.heap.size := by have := HC.out.lt; omega
      go_wp2_with fail
      refine (pick_any (ShT 2) w.heap.size wr.heap.size 6 _ _ (HC.out.alloc _) (listS_alloc wdT _ _ _ rfl wdT_short) nw (by omega) (by omega)).mono ?_
      rintro e w3 ⟨z, hz, rfl, c3, o3⟩
      have hz1 : z.size ≤ 2 := hz
      have C3 := Lib.hid c3
      have O3 := Lib.hid ((HO.out.alloc _).trans o3)
      clear c3 o3 hz
      go_wp2_with fail
      go_roundw
      case rel => exact ⟨k + 1, s ++ z, by omega, by go_num, rfl, by rw [ByteArray.size_append]; omega, C3.out, O3.out⟩
      case measure => simp [intOf]; omega
    · go_wp2_with fail
      go_ret
      exact ⟨s, by omega, rfl, HB1.out.trans (HO.out.below L1.out)⟩
def DrTB (w : World) (e : Ending) (w' : World) : Prop := ∃ (s : ByteArray) (b : UInt8), s.size ≤ 20 ∧ e = .returned (.tuple #[.string s, .int .u8 (b.toNat : Int)]) ∧ Below w.heap.size w w'
set_option maxRecDepth 100000 in
set_option maxHeartbeats 1000000 in
theorem drawCut_any (a : Option Addr) (n cap : Nat) (w : World) (hn : n ≤ 1048576) (hc : Code8 w a n) :
    Calls Try.prog 12 #[.slice a n cap] w (DrTB w) := by
  go_enter Try.func12, Try.ntmps12
  go_wp2_with fail
  refine (new_any a n cap _ hn hc).mono ?_
  rintro e w1 ⟨rfl, c1, hb1⟩
  go_wp2_with fail
  refine (below_any w.heap.size 7 _ c1 (by omega) (by omega)).mono ?_
  rintro e w2 ⟨x, ⟨x0, x1⟩, rfl, c2, o2⟩
  obtain ⟨m, rfl⟩ : ∃ m : Nat, x = (m : Int) := ⟨x.toNat, by omega⟩
  have C2 := Lib.hid c2
  have HB1 := Lib.hid hb1
  have O2 := Lib.hid o2
  have L1 := Lib.hid c1.lt
  clear c1 c2 hb1 o2
  go_wp2_with fail
  go_loopw [5, 7] (fun v i wr => ∃ (k : Nat) (s : ByteArray), k ≤ m ∧ i = .int .i64 (k : Int) ∧ v = .string s ∧ s.size ≤ 2 * k ∧ CurE wr w.heap.size ∧ OnlyB w.heap.size w1 wr) (fun _ i _ => m - (intOf i).toNat)
  case atStart => exact ⟨0, ⟨#[]⟩, Nat.zero_le _, rfl, rfl, by show 0 ≤ 0; omega, C2.out, O2.out⟩
  case round =>
    obtain ⟨k, s, hk, rfl, rfl, hs, hcu, hon⟩ := hrel
    have HC := Lib.hid hcu
    have HO := Lib.hid hon
    clear hcu hon
    by_cases hlt : k < m
    · have nw : wr.heap.size ≠ w.heap.size := by have := HC.out.lt; omega
      go_wp2_with fail
      refine (pick_any (ShT 2) w.heap.size wr.heap.size 5 _ _ (HC.out.alloc _) (listS_alloc ctT _ _ _ rfl ctT_short) nw (by omega) (by omega)).mono ?_
      rintro e w3 ⟨z, hz, rfl, c3, o3⟩
      have hz1 : z.size ≤ 2 := hz
      have C3 := Lib.hid c3
      have O3 := Lib.hid ((HO.out.alloc _).trans o3)
      clear c3 o3 hz
      go_wp2_with fail
      go_roundw
      case rel => exact ⟨k + 1, s ++ z, by omega, by go_num, rfl, by rw [ByteArray.size_append]; omega, C3.out, O3.out⟩
      case measure => simp [intOf]; omega
    · go_wp2_with fail
      have nw : wr.heap.size ≠ w.heap.size := by have := HC.out.lt; omega
      refine (pickInt_any (fun z => 0 ≤ z ∧ z ≤ 255) w.heap.size wr.heap.size 4 _ _ (HC.out.alloc _) (listI_alloc [44, 44, 97, 0] _ _ _ rfl (by intro z hz; simp at hz; omega)) nw (by omega) (by omega)).mono ?_
      rintro e w5 ⟨z, ⟨z0, z1⟩, rfl, c5, o5⟩
      obtain ⟨b, rfl⟩ : ∃ b : UInt8, z = (b.toNat : Int) := ⟨UInt8.ofNat z.toNat, by rw [UInt8.toNat_ofNat']; omega⟩
      have hbl := b.toNat_lt
      have cv : (b.toNat : Int) % 256 = (b.toNat : Int) := by omega
      go_wp2_with fail
      go_ret2
      exact ⟨s, b, by omega, rfl, HB1.out.trans (((HO.out.alloc _).trans o5).below L1.out)⟩
def DrTII (w : World) (e : Ending) (w' : World) : Prop := ∃ (s : ByteArray) (x y : Int), s.size ≤ 20 ∧ I64 x ∧ I64 y ∧ e = .returned (.tuple #[.string s, .int .i64 x, .int .i64 y]) ∧ Below w.heap.size w w'
def siT : List Int := [1, 2, 0, -1, 5, 20, 9223372036854775807, -9223372036854775808]
theorem siT_ok : ∀ z ∈ siT, I64 z := by intro z hz; unfold I64; simp [siT] at hz; omega
set_option maxRecDepth 100000 in
set_option maxHeartbeats 1000000 in
theorem drawSubstr_any (a : Option Addr) (n cap : Nat) (w : World) (hn : n ≤ 1048576) (hc : Code8 w a n) :
    Calls Try.prog 16 #[.slice a n cap] w (DrTII w) := by
  go_enter Try.func16, Try.ntmps16
  go_wp2_with fail
  refine (new_any a n cap _ hn hc).mono ?_
  rintro e w1 ⟨rfl, c1, hb1⟩
  have HB1 := Lib.hid hb1
  have L1 := Lib.hid c1.lt
  clear hb1
  go_wp2_with fail
  refine (below_any w.heap.size 12 _ c1 (by omega) (by omega)).mono ?_
  rintro e w2 ⟨x, ⟨x0, x1⟩, rfl, c2, o2⟩
  obtain ⟨m, rfl⟩ : ∃ m : Nat, x = (m : Int) := ⟨x.toNat, by omega⟩
  go_wp2_with fail
  refine (text_any w.heap.size m _ c2 (by omega)).mono ?_
  rintro e w3 ⟨s, hs, rfl, c3, o3⟩
  have hs1 : s.size ≤ 12 := by have := hs; omega
  have O3 := Lib.hid (o2.trans o3)
  clear o2 o3 hs
  have n3 : w3.heap.size ≠ w.heap.size := by have := c3.lt; omega
  go_wp2_with fail
  refine (pickInt_any I64 w.heap.size w3.heap.size 8 _ _ (c3.alloc _) (listI_alloc siT _ _ _ rfl siT_ok) n3 (by omega) (by omega)).mono ?_
  rintro e w4 ⟨z, hz, rfl, c4, o4⟩
  have O4 := Lib.hid ((O3.out.alloc _).trans o4)
  have HZ := Lib.hid hz
  clear o4 hz
  have n4 : w4.heap.size ≠ w.heap.size := by have := c4.lt; omega
  go_wp2_with fail
  refine (pickInt_any I64 w.heap.size w4.heap.size 8 _ _ (c4.alloc _) (listI_alloc siT _ _ _ rfl siT_ok) n4 (by omega) (by omega)).mono ?_
  rintro e w5 ⟨y, hy, rfl, c5, o5⟩
  have HY := Lib.hid hy
  clear hy
  go_wp2_with fail
  refine bodyPost_ret (v := .tuple #[.string s, .int .i64 z, .int .i64 y]) (by simp [results, Try.results16, go_sem]) rfl ?_
  exact ⟨s, z, y, by omega, HZ.out, HY.out, rfl, HB1.out.trans (((O4.out.alloc _).trans o5).below L1.out)⟩
set_option maxHeartbeats 1000000 in
theorem rawT_any (B : Nat) (w : World) (hc : CurE w B) :
    Calls Try.prog 51 #[.pointer (some ⟨B, 0, none⟩)] w (GotS (ShT 40) B w) := by
  go_enter Try.func51, Try.ntmps51
  go_wp2_with fail
  refine (below_any B 10 _ hc (by omega) (by omega)).mono ?_
  rintro e w1 ⟨x, ⟨x0, x1⟩, rfl, c1, o1⟩
  obtain ⟨n, rfl⟩ : ∃ n : Nat, x = (n : Int) := ⟨x.toNat, by omega⟩
  go_wp2_with fail
  refine (text_any B n _ c1 (by omega)).mono ?_
  rintro e w2 ⟨s, hs, rfl, c2, o2⟩
  have hs1 : s.size ≤ 10 := by have := hs; omega
  have HS := Lib.hid hs
  clear hs
  have O2 := Lib.hid (o1.trans o2)
  clear o1 o2
  have n2 : w2.heap.size ≠ B := by have := c2.lt; omega
  go_wp2_with fail
  refine (pick_any (ShT 2) B w2.heap.size 8 _ _ (c2.alloc _) (listS_alloc rwT _ _ _ rfl rwT_short) n2 (by omega) (by omega)).mono ?_
  rintro e w3 ⟨z, hz, rfl, c3, o3⟩
  have hz1 : z.size ≤ 2 := hz
  go_wp2
  go_ret
  exact ⟨_, by simp only [ShT, ByteArray.size_append]; omega, rfl, c3, (O2.out.alloc _).trans o3⟩
theorem drawLower_any (a : Option Addr) (n cap : Nat) (w : World) (hn : n ≤ 1048576) (hc : Code8 w a n) :
    Calls Try.prog 18 #[.slice a n cap] w (DrT 100 w) := by
  go_enter Try.func18, Try.ntmps18
  go_wp2_with fail
  refine (new_any a n cap _ hn hc).mono ?_
  rintro e w1 ⟨rfl, c1, hb1⟩
  go_wp2_with fail
  refine (rawT_any w.heap.size _ c1).mono ?_
  rintro e w2 ⟨s, hs, rfl, c2, o2⟩
  have hs1 : s.size ≤ 40 := hs
  go_wp2
  go_ret
  exact ⟨_, by rw [ByteArray.size_append]; show s.size + _ ≤ 100; exact Nat.le_trans (Nat.add_le_add_right hs1 _) (by decide), rfl, hb1.trans (o2.below c1.lt)⟩
theorem drawUpper_any (a : Option Addr) (n cap : Nat) (w : World) (hn : n ≤ 1048576) (hc : Code8 w a n) :
    Calls Try.prog 19 #[.slice a n cap] w (DrT 100 w) := by
  go_enter Try.func19, Try.ntmps19
  go_wp2_with fail
  refine (new_any a n cap _ hn hc).mono ?_
  rintro e w1 ⟨rfl, c1, hb1⟩
  go_wp2_with fail
  refine (rawT_any w.heap.size _ c1).mono ?_
  rintro e w2 ⟨s, hs, rfl, c2, o2⟩
  have hs1 : s.size ≤ 40 := hs
  go_wp2
  go_ret
  exact ⟨_, by rw [ByteArray.size_append]; show s.size + _ ≤ 100; exact Nat.le_trans (Nat.add_le_add_right hs1 _) (by decide), rfl, hb1.trans (o2.below c1.lt)⟩
/-- What stays while a number is drawn. -/
structure CurK (B : Nat) (w W : World) : Prop where
  cur : CurE W B
  only : OnlyB B w W
theorem CurE.drew {w : World} {B : Nat} (h : CurE w B) : CurE w.drew B := h.kept (C := w.heap.size) ((Below.refl _ _).drew) h.lt
theorem CurK.start {B : Nat} {w W : World} (h : CurK B w W) : CurK B w W.drew := ⟨h.cur.drew, ⟨h.only.os, h.only.tape, h.only.output, h.only.size, h.only.block⟩⟩
def DrTT (w : World) (e : Ending) (w' : World) : Prop := ∃ (s t : ByteArray), s.size ≤ 20 ∧ t.size ≤ 20 ∧ e = .returned (.tuple #[.string s, .string t]) ∧ Below w.heap.size w w'
set_option maxRecDepth 100000 in
set_option maxHeartbeats 1000000 in
theorem drawIndexOf_any (a : Option Addr) (n cap : Nat) (w : World) (hn : n ≤ 1048576) (hc : Code8 w a n) :
    Calls Try.prog 14 #[.slice a n cap] w (DrTT w) := by
  go_enter Try.func14, Try.ntmps14
  go_wp2_with fail
  refine (new_any a n cap _ hn hc).mono ?_
  rintro e w1 ⟨rfl, c1, hb1⟩
  have HB1 := Lib.hid hb1
  have L1 := Lib.hid c1.lt
  clear hb1
  go_wp2_with fail
  refine (below_any w.heap.size 12 _ c1 (by omega) (by omega)).mono ?_
  rintro e w2 ⟨x, ⟨x0, x1⟩, rfl, c2, o2⟩
  obtain ⟨m, rfl⟩ : ∃ m : Nat, x = (m : Int) := ⟨x.toNat, by omega⟩
  go_wp2_with fail
  refine (text_any w.heap.size m _ c2 (by omega)).mono ?_
  rintro e w3 ⟨s, hs, rfl, c3, o3⟩
  have hs1 : s.size ≤ 12 := by have := hs; omega
  have O3 := Lib.hid (o2.trans o3)
  clear o2 o3 hs
  go_wp2_with fail
  refine (once_any w.heap.size 3 _ c3 (by omega) (by omega)).mono ?_
  rintro e w4 ⟨b, rfl, c4, o4⟩
  have O4 := Lib.hid (O3.out.trans o4)
  clear o4 O3
  cases b
  · go_wp2_with fail
    refine (below_any w.heap.size ((s.size : Int) + 1) _ c4 (by omega) (by omega)).mono ?_
    rintro e w5 ⟨y, ⟨y0, y1⟩, rfl, c5, o5⟩
    obtain ⟨i, rfl⟩ : ∃ i : Nat, y = (i : Int) := ⟨y.toNat, by omega⟩
    have HK : Hid (CurK w.heap.size w1 w5) := Lib.hid ⟨c5, O4.out.trans o5⟩
    have CB := Lib.hid (fun W (h : CurK w.heap.size w1 W) => below_any w.heap.size ((s.size : Int) - i + 1) W h.cur (by omega) (by omega))
    clear c5 o5 c4 O4
    have hwr0 : IntKind.i64.wrap ((s.size : Int) - i) = (s.size : Int) - i := by rw [IntKind.wrap_i64]; omega
    have hwr1 : IntKind.i64.wrap ((s.size : Int) - i + 1) = (s.size : Int) - i + 1 := by rw [IntKind.wrap_i64]; omega
    have HWJ : Hid (∀ j : Nat, i + j ≤ s.size → IntKind.i64.wrap ((i : Int) + j) = (i : Int) + j) := Lib.hid (fun j hj => by rw [IntKind.wrap_i64]; omega)
    have HSL : Hid (∀ j : Nat, i + j ≤ s.size → ∀ (W : World), (Instr.slice 9 (.string s) (some (.int .i64 (i : Int))) (some (.int .i64 ((i : Int) + j))) none).run Try.prog W = .ok (.string (s.extract i (i + j))) W) := Lib.hid (fun j hj W => by
      rw [run_slice_string W _ s .i64 .i64 _ _ Try.underlying9 (by omega) (by omega) (by omega)]; congr 2 <;> omega)
    go_wp2_with fail
    go_region_held3 (fun w' => CurK w.heap.size w1 w') (first | exact HK.out.start | exact ⟨by assumption, OnlyB.trans HK.out.start.only (by assumption)⟩ | assumption) (first | (go_at_call 43; refine (CB.out _ (by assumption)).mono ?_; rintro e w6 ⟨z, ⟨z0, z1⟩, rfl, c6, o6⟩; obtain ⟨j, rfl⟩ : ∃ j : Nat, z = (j : Int) := ⟨z.toNat, by omega⟩; have hsl := HSL.out j (by omega); have hwj := HWJ.out j (by omega)))
    go_wp2_with fail
    go_ret2
    exact ⟨s, _, by omega, by rw [ByteArray.size_extract]; omega, rfl, HB1.out.trans ((CurK.only (by assumption)).below L1.out)⟩
  · have n4 : w4.heap.size ≠ w.heap.size := by have := c4.lt; omega
    go_wp2_with fail
    refine (pick_any (ShT 2) w.heap.size w4.heap.size 4 _ _ (c4.alloc _) (listS_alloc ixT _ _ _ rfl ixT_short) n4 (by omega) (by omega)).mono ?_
    rintro e w5 ⟨z, hz, rfl, c5, o5⟩
    have hz1 : z.size ≤ 2 := hz
    go_wp2_with fail
    go_ret2
    exact ⟨s, z, by omega, by omega, rfl, HB1.out.trans (((O4.out.alloc _).trans o5).below L1.out)⟩
end Go.Proofs.Ytalobgebdpaecaa.kit
