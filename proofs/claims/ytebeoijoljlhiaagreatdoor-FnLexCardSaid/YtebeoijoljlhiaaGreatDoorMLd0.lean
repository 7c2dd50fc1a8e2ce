/-
  Contracts of the draws of the law on words (spec.l05Source, DrawLex, DrawIsKey, DrawTokenText, DrawCount) over this seat's translation: what they draw is short. Conditions: at most 1048576 bytes of code.
-/
import Derived.Test.YtebeoijoljlhiaaGreatDoorMQd0
import Derived.Test.YtebeoijoljlhiaaGreatDoorMLx9
namespace Go.Proofs.YtebeoijoljlhiaaGreatDoor.kit
open Go.ChangeShapes Go.WideShapes Go.ChangeAt Go.RowKit
set_option linter.unusedVariables false

def srcL : List ByteArray := [⟨#[97]⟩, ⟨#[32]⟩, ⟨#[36, 49]⟩, ⟨#[49, 46, 53]⟩, ⟨#[34, 120, 92, 110, 34]⟩, ⟨#[47, 97, 92, 47, 98, 47]⟩, ⟨#[32, 47, 32]⟩, ⟨#[10]⟩, ⟨#[59]⟩, ⟨#[66, 69, 71, 73, 78]⟩, ⟨#[123]⟩, ⟨#[125]⟩, ⟨#[43, 43]⟩, ⟨#[43, 61]⟩, ⟨#[33, 126]⟩, ⟨#[35, 32, 99, 10]⟩, ⟨#[40]⟩, ⟨#[41]⟩, ⟨#[49, 47, 50]⟩, ⟨#[120, 57]⟩, ⟨#[48, 46, 48]⟩, ⟨#[38, 38]⟩, ⟨#[61, 61]⟩]
theorem srcL_short : ∀ z ∈ srcL, Short 30 z := by unfold srcL Short; decide
def lxL : List ByteArray := [⟨#[49, 48, 48, 48, 48, 48, 49]⟩, ⟨#[49, 46]⟩, ⟨#[46, 53]⟩, ⟨#[38]⟩, ⟨#[124]⟩, ⟨#[34, 97]⟩, ⟨#[47, 97]⟩, ⟨#[47, 97, 10, 47]⟩, ⟨#[64]⟩, ⟨#[97, 98, 99, 100, 101, 102, 103, 104, 105, 106, 107, 108, 109, 110, 111, 112, 113, 114, 115, 116, 117]⟩, ⟨#[49, 46, 50, 46, 51]⟩, ⟨#[47, 47]⟩, ⟨#[97, 32, 47, 98, 47, 32, 99]⟩, ⟨#[36, 47, 97, 47]⟩]
theorem lxL_short : ∀ z ∈ lxL, Short 30 z := by unfold lxL Short; decide
def kyL : List ByteArray := [⟨#[66, 69, 71, 73, 78]⟩, ⟨#[98, 101, 103, 105, 110]⟩, ⟨#[105, 110]⟩, ⟨#[112, 114, 105, 110, 116]⟩, ⟨#[112, 114, 105, 110, 116, 102]⟩, ⟨#[]⟩, ⟨#[120]⟩, ⟨#[119, 104, 105, 108, 101]⟩]
theorem kyL_short : ∀ z ∈ kyL, Short 30 z := by unfold kyL Short; decide
set_option maxRecDepth 100000 in
set_option maxHeartbeats 1000000 in
theorem source_any (B : Nat) (w : World) (hc : CurE w B) :
    Calls Tryz.prog 44 #[.pointer (some ⟨B, 0, none⟩)] w (GotS (Short 300) B w) := by
  go_enter Tryz.func44, Tryz.ntmps44
  go_wp2_with fail
  refine (below_any B 10 _ hc (by omega) (by omega)).mono ?_
  rintro e w2 ⟨x, ⟨x0, x1⟩, rfl, c2, o2⟩
  obtain ⟨m, rfl⟩ : ∃ m : Nat, x = (m : Int) := ⟨x.toNat, by omega⟩
  have C2 := Lib.hid c2
  have O2 := Lib.hid o2
  clear c2 o2
  go_wp2_with fail
  go_loopw [3, 5] (fun v i wr => ∃ (k : Nat) (s : ByteArray), k ≤ m ∧ i = .int .i64 (k : Int) ∧ v = .string s ∧ s.size ≤ 30 * k ∧ CurE wr B ∧ OnlyB B w wr) (fun _ i _ => m - (intOf i).toNat)
  case atStart => exact ⟨0, ⟨#[]⟩, Nat.zero_le _, rfl, rfl, by show 0 ≤ 0; omega, C2.out, O2.out⟩
  case round =>
    obtain ⟨k, s, hk, rfl, rfl, hs, hcu, hon⟩ := hrel
    have HC := Lib.hid hcu
    have HO := Lib.hid hon
    clear hcu hon
    by_cases hlt : k < m
    · have nw : wr.heap.size ≠ B := by have := HC.out.lt; omega
      go_wp2_with fail
      refine (pick_any (Short 30) B wr.heap.size 23 _ _ (HC.out.alloc _) (listS_alloc srcL _ _ _ rfl srcL_short) nw (by omega) (by omega)).mono ?_
      rintro e w3 ⟨z, hz, rfl, c3, o3⟩
      have hz1 : z.size ≤ 30 := hz
      have C3 := Lib.hid c3
      have O3 := Lib.hid ((HO.out.alloc _).trans o3)
      clear c3 o3 hz
      go_wp2_with fail
      go_roundw
      case rel => exact ⟨k + 1, s ++ z, by omega, by go_num, rfl, by rw [ByteArray.size_append]; omega, C3.out, O3.out⟩
      case measure => simp [intOf]; omega
    · go_wp2_with fail
      go_ret
      exact ⟨s, by show s.size ≤ 300; omega, rfl, HC.out, HO.out⟩
set_option maxRecDepth 100000 in
theorem drawIsKey_any (a : Option Addr) (n cap : Nat) (w : World) (hn : n ≤ 1048576) (hc : Code8 w a n) :
    Calls Tryz.prog 27 #[.slice a n cap] w (GotT 30 w) := by
  go_enter Tryz.func27, Tryz.ntmps27
  go_wp2_with fail
  refine (new_any a n cap _ hn hc).mono ?_
  rintro e w1 ⟨rfl, c1, hb1⟩
  have n2 : w1.heap.size ≠ w.heap.size := by have := c1.lt; omega
  go_wp2_with fail
  refine (pick_any (Short 30) w.heap.size w1.heap.size 8 _ _ (c1.alloc _) (listS_alloc kyL _ _ _ rfl kyL_short) n2 (by omega) (by omega)).mono ?_
  rintro e w2 ⟨z, hz, rfl, c2, o2⟩
  have hz1 : z.size ≤ 30 := hz
  go_wp2
  go_ret
  exact ⟨z, hz1, rfl, hb1.trans ((((OnlyB.refl _ _).alloc _).trans o2).below c1.lt)⟩
def DrTok (w : World) (e : Ending) (w' : World) : Prop := ∃ t : Tok, t.s.size ≤ 100 ∧ I64 t.k ∧ I64 t.n ∧ e = .returned t.v ∧ Below w.heap.size w w'
set_option maxRecDepth 100000 in
set_option maxHeartbeats 1000000 in
theorem drawLex_any (a : Option Addr) (n cap : Nat) (w : World) (hn : n ≤ 1048576) (hc : Code8 w a n) :
    Calls Tryz.prog 24 #[.slice a n cap] w (GotT 5000 w) := by
  go_enter Tryz.func24, Tryz.ntmps24
  go_wp2_with fail
  refine (new_any a n cap _ hn hc).mono ?_
  rintro e w1 ⟨rfl, c1, hb1⟩
  have HB1 := Lib.hid hb1
  have L1 := Lib.hid c1.lt
  clear hb1
  go_wp2_with fail
  refine (below_any w.heap.size 12 _ c1 (by omega) (by omega)).mono ?_
  rintro e w2 ⟨x, ⟨x0, x1⟩, rfl, c2, o2⟩
  have O2 := Lib.hid o2
  have C2 := Lib.hid c2
  clear o2 c2
  by_cases h0 : x = 0
  · subst h0
    go_wp2_with fail
    refine (below_any w.heap.size 2 _ C2.out (by omega) (by omega)).mono ?_
    rintro e w3 ⟨y, ⟨y0, y1⟩, rfl, c3, o3⟩
    have O3 := Lib.hid (O2.out.trans o3)
    clear o3 c3
    go_wp2_with fail
    go_loop [4] (fun v => ∃ s : ByteArray, s.size ≤ 4001 ∧ v = .string s) (fun v => match v with | .string s => 5000 - s.size | _ => 0)
    case atStart => exact ⟨⟨#[]⟩, by show 0 ≤ 4001; omega, rfl⟩
    case round =>
      obtain ⟨s, hs, rfl⟩ := hrel
      by_cases hlt : (s.size : Int) < 4000 + y
      · go_wp2_with fail
        go_round
        case rel => exact ⟨_, by rw [ByteArray.size_append]; show s.size + 1 ≤ 4001; omega, rfl⟩
        case measure => simp only [ByteArray.size_append]; show 5000 - (s.size + 1) < 5000 - s.size; omega
      · go_wp2_with fail
        go_ret
        exact ⟨s, by omega, rfl, HB1.out.trans (O3.out.below L1.out)⟩
  · have b0 : (x == 0) = false := by simpa using h0
    by_cases h1 : x = 1
    · subst h1
      have n2 : w2.heap.size ≠ w.heap.size := by have := C2.out.lt; omega
      go_wp2_with fail
      refine (pick_any (Short 30) w.heap.size w2.heap.size 14 _ _ (C2.out.alloc _) (listS_alloc lxL _ _ _ rfl lxL_short) n2 (by omega) (by omega)).mono ?_
      rintro e w3 ⟨z, hz, rfl, c3, o3⟩
      have hz1 : z.size ≤ 30 := hz
      go_wp2_with fail
      go_ret
      exact ⟨z, by omega, rfl, HB1.out.trans (((O2.out.alloc _).trans o3).below L1.out)⟩
    · have b1 : (x == 1) = false := by simpa using h1
      go_wp2_with fail
      refine (source_any w.heap.size _ C2.out).mono ?_
      rintro e w3 ⟨s, hs, rfl, c3, o3⟩
      have hs1 : s.size ≤ 300 := hs
      have O3 := Lib.hid (O2.out.trans o3)
      clear o3
      go_wp2_with fail
      refine (bent_any w.heap.size s _ c3 (by omega)).mono ?_
      rintro e w4 ⟨t, ht, rfl, c4, o4⟩
      have ht1 : t.size ≤ s.size + 1 := ht
      go_wp2_with fail
      go_ret
      exact ⟨t, by omega, rfl, HB1.out.trans ((O3.out.trans o4).below L1.out)⟩
end Go.Proofs.YtebeoijoljlhiaaGreatDoor.kit
