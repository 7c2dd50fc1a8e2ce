/-
  Contracts of the draws of FnNum over this seat's translation. Conditions: the code's bytes are known.
-/
import Derived.Test.YtchagbhcekehmaaDoorCod
import Derived.Test.YtchagbhcekehmaaDoorBn0
import Derived.Test.YtchagbhcekehmaaDoorNt2
namespace Go.Proofs.YtchagbhcekehmaaDoor.kit
open Go.ChangeShapes Go.WideShapes Go.ChangeAt Go.RowKit
set_option linter.unusedVariables false

def GotN (w : World) (e : Ending) (w' : World) : Prop := ∃ x : Int, I64 x ∧ e = .returned (.int .i64 x) ∧ Below w.heap.size w w'
def GotT (k : Nat) (w : World) (e : Ending) (w' : World) : Prop := ∃ s : ByteArray, s.size ≤ k ∧ e = .returned (.string s) ∧ Below w.heap.size w w'
def GotNN (w : World) (e : Ending) (w' : World) : Prop := ∃ x y : Int, I64 x ∧ I64 y ∧ e = .returned (.tuple #[.int .i64 x, .int .i64 y]) ∧ Below w.heap.size w w'
theorem i64_lit {z : Int} (h1 : -9223372036854775808 ≤ z) (h2 : z ≤ 9223372036854775807) : I64 z := ⟨h1, h2⟩
set_option maxRecDepth 100000 in
set_option maxHeartbeats 1000000 in
theorem drawPow_any (a : Option Addr) (n cap : Nat) (w : World) (hn : n ≤ 1048576) (hc : Code8 w a n) :
    Calls Tryd.prog 25 #[.slice a n cap] w (GotNN w) := by
  go_enter Tryd.func25, Tryd.ntmps25
  go_wp2_with fail
  refine (new_any a n cap _ hn hc).mono ?_
  rintro e w1 ⟨rfl, c1, hb1⟩
  go_wp2_with fail
  refine (num_any w.heap.size _ c1).mono ?_
  rintro e w2 ⟨x, hx, rfl, c2, o2⟩
  go_wp2_with fail
  refine (num_any w.heap.size _ c2).mono ?_
  rintro e w3 ⟨y, hy, rfl, c3, o3⟩
  have n3 : w3.heap.size ≠ w.heap.size := by have := c3.lt; omega
  have O3 := Lib.hid (o2.trans o3)
  clear o2 o3
  go_wp2_with fail
  refine (pickInt_any I64 w.heap.size w3.heap.size 9 _ _ (c3.alloc _) (listI_alloc [0, 1000000, 2000000, 3000000, 40000000, 41000000, -1000000, 500000, y] _ _ _ rfl (by intro z hz; unfold I64 at *; simp at hz; omega)) n3 (by omega) (by omega)).mono ?_
  rintro e w4 ⟨z, hz, rfl, c4, o4⟩
  go_wp2
  go_ret2
  exact ⟨x, z, hx, hz, rfl, hb1.trans (((O3.out.alloc _).trans o4).below c1.lt)⟩
theorem drawWhole_any (a : Option Addr) (n cap : Nat) (w : World) (hn : n ≤ 1048576) (hc : Code8 w a n) :
    Calls Tryd.prog 28 #[.slice a n cap] w (GotN w) := by
  go_enter Tryd.func28, Tryd.ntmps28
  go_wp2_with fail
  refine (new_any a n cap _ hn hc).mono ?_
  rintro e w1 ⟨rfl, c1, hb1⟩
  go_wp2_with fail
  refine (num_any w.heap.size _ c1).mono ?_
  rintro e w2 ⟨x, hx, rfl, c2, o2⟩
  go_wp2
  go_ret
  exact ⟨x, hx, rfl, hb1.trans (o2.below c1.lt)⟩
theorem drawNumText_any (a : Option Addr) (n cap : Nat) (w : World) (hn : n ≤ 1048576) (hc : Code8 w a n) :
    Calls Tryd.prog 29 #[.slice a n cap] w (GotN w) := by
  go_enter Tryd.func29, Tryd.ntmps29
  go_wp2_with fail
  refine (new_any a n cap _ hn hc).mono ?_
  rintro e w1 ⟨rfl, c1, hb1⟩
  go_wp2_with fail
  refine (num_any w.heap.size _ c1).mono ?_
  rintro e w2 ⟨x, hx, rfl, c2, o2⟩
  go_wp2
  go_ret
  exact ⟨x, hx, rfl, hb1.trans (o2.below c1.lt)⟩
theorem ntA_le (a : Int) : (ntA a).size ≤ 30 := by
  have hp : ∀ N : Nat, N ≤ 1000000000000 → (ntP N).size ≤ 28 := fun N hN => by
    have l0 : (Lib.itoa ((N : Int) / 1000000)).length ≤ 21 := Lib.itoa_length_le _ (by omega) (by omega)
    have l1 : (ptT (N % 1000000)).size ≤ 7 := ptT_le _ (Nat.mod_lt _ (by omega))
    unfold ntP
    rw [ByteArray.size_append]
    show (Lib.itoa ((N : Int) / 1000000)).toArray.size + _ ≤ 28
    rw [List.size_toArray]; omega
  unfold ntA
  split
  · rename_i hb
    have h2 : -1000000000000 ≤ a ∧ a ≤ 1000000000000 := by simpa [numB, inB] using hb
    split
    · rw [ByteArray.size_append]
      have := hp a.natAbs (by omega)
      show 1 + _ ≤ 30
      omega
    · have := hp a.toNat (by omega)
      omega
  · show 0 ≤ 30; omega
def rl0 : List ByteArray := [⟨#[]⟩, ⟨#[43, 53]⟩, ⟨#[45, 46, 53]⟩, ⟨#[53, 46]⟩, ⟨#[46]⟩, ⟨#[45]⟩, ⟨#[49, 46, 50, 51, 52, 53, 54, 55, 56, 57]⟩, ⟨#[49, 48, 48, 48, 48, 48, 48]⟩, ⟨#[49, 48, 48, 48, 48, 48, 48, 46, 48, 48, 48, 48, 48, 48, 49]⟩, ⟨#[49, 48, 48, 48, 48, 48, 49]⟩, ⟨#[48, 48, 55]⟩, ⟨#[49, 101, 53]⟩, ⟨#[48, 120, 49]⟩, ⟨#[48, 48, 48, 48, 48, 48, 48, 48, 48, 48, 48, 48, 48, 48, 48, 48, 48, 48, 48, 48, 48, 48, 48, 48, 48, 48, 48, 48, 48, 48, 48, 48, 48, 48, 48, 48, 48, 48, 48, 48, 48, 48, 48, 48, 48, 48, 48, 48, 48, 48, 48, 48, 48, 48, 48, 48, 48, 48, 49]⟩, ⟨#[48, 48, 48, 48, 48, 48, 48, 48, 48, 48, 48, 48, 48, 48, 48, 48, 48, 48, 48, 48, 48, 48, 48, 48, 48, 48, 48, 48, 48, 48, 48, 48, 48, 48, 48, 48, 48, 48, 48, 48, 48, 48, 48, 48, 48, 48, 48, 48, 48, 48, 48, 48, 48, 48, 48, 48, 48, 48, 48, 49]⟩]
theorem rl0_short : ∀ z ∈ rl0, Short 60 z := by unfold rl0 Short; decide
def rl1 : List ByteArray := [⟨#[]⟩, ⟨#[32]⟩, ⟨#[9, 10]⟩]
theorem rl1_short : ∀ z ∈ rl1, Short 60 z := by unfold rl1 Short; decide
def rl2 : List ByteArray := [⟨#[]⟩, ⟨#[]⟩, ⟨#[32]⟩, ⟨#[120]⟩, ⟨#[32, 49]⟩]
theorem rl2_short : ∀ z ∈ rl2, Short 60 z := by unfold rl2 Short; decide
set_option maxRecDepth 100000 in
set_option maxHeartbeats 2000000 in
theorem drawReadNum_any (a : Option Addr) (n cap : Nat) (w : World) (hn : n ≤ 1048576) (hc : Code8 w a n) :
    Calls Tryd.prog 31 #[.slice a n cap] w (GotT 200 w) := by
  go_enter Tryd.func31, Tryd.ntmps31
  go_wp2_with fail
  refine (new_any a n cap _ hn hc).mono ?_
  rintro e w1 ⟨rfl, c1, hb1⟩
  go_wp2_with fail
  refine (num_any w.heap.size _ c1).mono ?_
  rintro e w2 ⟨x, hx, rfl, c2, o2⟩
  go_wp2_with fail
  refine (specNt_any _ _).mono ?_
  rintro e w3 ⟨rfl, rfl⟩
  have hle := ntA_le x
  generalize ntA x = s at hle
  go_wp2_with fail
  refine (once_any w.heap.size 2 _ c2 (by omega) (by omega)).mono ?_
  rintro e w4 ⟨b, rfl, c4, o4⟩
  have O4 := Lib.hid (o2.trans o4)
  clear o2 o4
  cases b
  · skip
    have n5 : w4.heap.size ≠ w.heap.size := by have := c4.lt; omega
    go_wp2_with fail
    refine (pick_any (Short 60) w.heap.size w4.heap.size 3 _ _ (c4.alloc _) (listS_alloc rl1 _ _ _ rfl rl1_short) n5 (by omega) (by omega)).mono ?_
    rintro e w6 ⟨p, hp, rfl, c6, o6⟩
    have O6 := Lib.hid ((O4.out.alloc _).trans o6)
    clear o6 O4
    go_wp2_with fail
    refine (bent_any w.heap.size s _ c6 (by omega)).mono ?_
    rintro e w7 ⟨q, hq, rfl, c7, o7⟩
    have O7 := Lib.hid (O6.out.trans o7)
    clear o7 O6
    have n7 : w7.heap.size ≠ w.heap.size := by have := c7.lt; omega
    have hp1 : p.size ≤ 60 := hp
    have hq1 : q.size ≤ s.size + 1 := hq
    go_wp2_with fail
    refine (pick_any (Short 60) w.heap.size w7.heap.size 5 _ _ (c7.alloc _) (listS_alloc rl2 _ _ _ rfl rl2_short) n7 (by omega) (by omega)).mono ?_
    rintro e w8 ⟨r, hr, rfl, c8, o8⟩
    have hr1 : r.size ≤ 60 := hr
    go_wp2
    go_ret
    exact ⟨_, by simp only [ByteArray.size_append]; omega, rfl, hb1.trans (((O7.out.alloc _).trans o8).below c1.lt)⟩
  · skip
    have n4 : w4.heap.size ≠ w.heap.size := by have := c4.lt; omega
    go_wp2_with fail
    refine (pick_any (Short 60) w.heap.size w4.heap.size 15 _ _ (c4.alloc _) (listS_alloc rl0 _ _ _ rfl rl0_short) n4 (by omega) (by omega)).mono ?_
    rintro e w5 ⟨t, ht, rfl, c5, o5⟩
    have ht1 : t.size ≤ 60 := ht
    have O5 := Lib.hid ((O4.out.alloc _).trans o5)
    clear o5 O4
    have n5 : w5.heap.size ≠ w.heap.size := by have := c5.lt; omega
    go_wp2_with fail
    refine (pick_any (Short 60) w.heap.size w5.heap.size 3 _ _ (c5.alloc _) (listS_alloc rl1 _ _ _ rfl rl1_short) n5 (by omega) (by omega)).mono ?_
    rintro e w6 ⟨p, hp, rfl, c6, o6⟩
    have O6 := Lib.hid ((O5.out.alloc _).trans o6)
    clear o6 O5
    go_wp2_with fail
    refine (bent_any w.heap.size t _ c6 (by omega)).mono ?_
    rintro e w7 ⟨q, hq, rfl, c7, o7⟩
    have O7 := Lib.hid (O6.out.trans o7)
    clear o7 O6
    have n7 : w7.heap.size ≠ w.heap.size := by have := c7.lt; omega
    have hp1 : p.size ≤ 60 := hp
    have hq1 : q.size ≤ t.size + 1 := hq
    go_wp2_with fail
    refine (pick_any (Short 60) w.heap.size w7.heap.size 5 _ _ (c7.alloc _) (listS_alloc rl2 _ _ _ rfl rl2_short) n7 (by omega) (by omega)).mono ?_
    rintro e w8 ⟨r, hr, rfl, c8, o8⟩
    have hr1 : r.size ≤ 60 := hr
    go_wp2
    go_ret
    exact ⟨_, by simp only [ByteArray.size_append]; omega, rfl, hb1.trans (((O7.out.alloc _).trans o8).below c1.lt)⟩
theorem drawLooksNum_any (a : Option Addr) (n cap : Nat) (w : World) (hn : n ≤ 1048576) (hc : Code8 w a n) :
    Calls Tryd.prog 34 #[.slice a n cap] w (GotT 200 w) := by
  go_enter Tryd.func34, Tryd.ntmps34
  go_wp2_with fail
  refine (drawReadNum_any a n cap _ hn hc).mono ?_
  rintro e w1 ⟨s, hs, rfl, hb⟩
  go_wp2
  go_ret
  exact ⟨s, hs, rfl, hb⟩
end Go.Proofs.YtchagbhcekehmaaDoor.kit
