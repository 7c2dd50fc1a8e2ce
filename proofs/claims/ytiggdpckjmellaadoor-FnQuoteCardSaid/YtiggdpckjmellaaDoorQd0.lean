/-
  Contracts of the draws of texts, quotes and digits over this seat's translation. Conditions: the code's bytes are known.
-/
import Derived.Test.YtiggdpckjmellaaDoorTx1
import Derived.Test.YtiggdpckjmellaaDoorBn0
import Derived.Test.YtiggdpckjmellaaDoorFm0
import Derived.Test.YtiggdpckjmellaaDoorQuoS
namespace Go.Proofs.YtiggdpckjmellaaDoor.kit
open Go.ChangeShapes Go.WideShapes Go.ChangeAt Go.RowKit
set_option linter.unusedVariables false

def rawL : List ByteArray := [⟨#[]⟩, ⟨#[34]⟩, ⟨#[92]⟩, ⟨#[10]⟩, ⟨#[32]⟩, ⟨#[9]⟩, ⟨#[127]⟩, ⟨#[65]⟩]
theorem rawL_short : ∀ z ∈ rawL, Short 30 z := by unfold rawL Short; decide
def rdL : List ByteArray := [⟨#[]⟩, ⟨#[45, 49]⟩, ⟨#[48, 48]⟩, ⟨#[48, 49]⟩, ⟨#[49, 120]⟩, ⟨#[57, 57, 57, 57, 57, 57, 57, 57, 57]⟩, ⟨#[49, 48, 48, 48, 48, 48, 48, 48, 48, 48]⟩, ⟨#[49, 56, 52, 52, 54, 55, 52, 52, 48, 55, 51, 55, 48, 57, 53, 53, 49, 54, 49, 55]⟩]
theorem rdL_short : ∀ z ∈ rdL, Short 30 z := by unfold rdL Short; decide
def nmL : List ByteArray := [⟨#[97]⟩, ⟨#[120, 95, 49]⟩, ⟨#[78, 82]⟩, ⟨#[95]⟩, ⟨#[97, 98, 99, 100, 101, 102, 103, 104, 105, 106, 107, 108, 109, 110, 111, 112, 113, 114, 115, 116]⟩, ⟨#[97, 98, 99, 100, 101, 102, 103, 104, 105, 106, 107, 108, 109, 110, 111, 112, 113, 114, 115, 116, 117]⟩, ⟨#[57, 97]⟩, ⟨#[]⟩]
theorem nmL_short : ∀ z ∈ nmL, Short 30 z := by unfold nmL Short; decide
/-- What a call of another kind leaves, that makes memory. -/
theorem OnlyB.then2 {B : Nat} {w x y : World} (h : OnlyB B w x) (hB : B < x.heap.size) (hb : Below x.heap.size x y) : OnlyB B w y :=
  ⟨hb.os.trans h.os, hb.tape.trans h.tape, hb.output.trans h.output, Nat.le_trans h.size hb.size, fun j hj hn => (hb.block j (Nat.lt_of_lt_of_le hj h.size)).trans (h.block j hj hn)⟩
set_option maxHeartbeats 1000000 in
theorem raw_any (B : Nat) (w : World) (hc : CurE w B) :
    Calls Tryd.prog 50 #[.pointer (some ⟨B, 0, none⟩)] w (GotS (Short 40) B w) := by
  go_enter Tryd.func50, Tryd.ntmps50
  go_wp2_with fail
  refine (below_any B 10 _ hc (by omega) (by omega)).mono ?_
  rintro e w1 ⟨x, ⟨x0, x1⟩, rfl, c1, o1⟩
  obtain ⟨n, rfl⟩ : ∃ n : Nat, x = (n : Int) := ⟨x.toNat, by omega⟩
  go_wp2_with fail
  refine (text_any B n _ c1 (by omega)).mono ?_
  rintro e w2 ⟨s, hs, rfl, c2, o2⟩
  have hs1 : s.size ≤ 10 := by have := hs; omega
  have HS := Lib.hid hs
  clear hs
  have O2 := Lib.hid (o1.trans o2)
  clear o1 o2
  have n2 : w2.heap.size ≠ B := by have := c2.lt; omega
  go_wp2_with fail
  refine (pick_any (Short 30) B w2.heap.size 8 _ _ (c2.alloc _) (listS_alloc rawL _ _ _ rfl rawL_short) n2 (by omega) (by omega)).mono ?_
  rintro e w3 ⟨z, hz, rfl, c3, o3⟩
  have hz1 : z.size ≤ 30 := hz
  go_wp2
  go_ret
  exact ⟨_, by simp only [Short, ByteArray.size_append]; omega, rfl, c3, (O2.out.alloc _).trans o3⟩
theorem drawQuote_any (a : Option Addr) (n cap : Nat) (w : World) (hn : n ≤ 1048576) (hc : Code8 w a n) :
    Calls Tryd.prog 10 #[.slice a n cap] w (GotT 200 w) := by
  go_enter Tryd.func10, Tryd.ntmps10
  go_wp2_with fail
  refine (new_any a n cap _ hn hc).mono ?_
  rintro e w1 ⟨rfl, c1, hb1⟩
  go_wp2_with fail
  refine (raw_any w.heap.size _ c1).mono ?_
  rintro e w2 ⟨s, hs, rfl, c2, o2⟩
  have hs1 : s.size ≤ 40 := hs
  go_wp2
  go_ret
  exact ⟨s, by omega, rfl, hb1.trans (o2.below c1.lt)⟩
def GotTN (k : Nat) (w : World) (e : Ending) (w' : World) : Prop := ∃ (s : ByteArray) (x : Int), s.size ≤ k ∧ I64 x ∧ e = .returned (.tuple #[.string s, .int .i64 x]) ∧ Below w.heap.size w w'
set_option maxRecDepth 100000 in
set_option maxHeartbeats 2000000 in
theorem drawUnquote_any (a : Option Addr) (n cap : Nat) (w : World) (hn : n ≤ 1048576) (hc : Code8 w a n) :
    Calls Tryd.prog 12 #[.slice a n cap] w (GotTN 1000 w) := by
  go_enter Tryd.func12, Tryd.ntmps12
  go_wp2_with fail
  refine (new_any a n cap _ hn hc).mono ?_
  rintro e w1 ⟨rfl, c1, hb1⟩
  go_wp2_with fail
  refine (raw_any w.heap.size _ c1).mono ?_
  rintro e w2 ⟨s, hs, rfl, c2, o2⟩
  have hs1 : s.size ≤ 40 := hs
  have HB1 := Lib.hid hb1
  have O2 := Lib.hid o2
  clear hb1 o2 hs
  obtain ⟨q, hq⟩ : ∃ q : ByteArray, q = ⟨(qbs s.data.toList ++ [34]).toArray⟩ := ⟨_, rfl⟩
  have hq1 : q.size ≤ 200 := by
    subst hq
    have h := qbs_len s.data.toList s.data.toList.length
    rw [List.take_length] at h
    have hl : s.data.toList.length = s.size := Array.length_toList
    show (qbs s.data.toList ++ [34]).toArray.size ≤ 200
    rw [List.size_toArray, List.length_append, List.length_singleton]
    omega
  have CQ := fun W => specQuote_any s W (by omega)
  rw [← hq] at CQ
  have CQ := Lib.hid CQ
  clear hq
  go_wp2_with fail
  refine (CQ.out _).mono ?_
  rintro e w3 ⟨rfl, hb3⟩
  have c3 := c2.kept hb3 c2.lt
  have O3 := Lib.hid (O2.out.then2 c2.lt hb3)
  clear hb3
  go_wp2_with fail
  refine (bent_any w.heap.size q _ c3 (by omega)).mono ?_
  rintro e w4 ⟨t, ht, rfl, c4, o4⟩
  have ht1 : t.size ≤ q.size + 1 := ht
  have O4 := Lib.hid (O3.out.trans o4)
  clear o4 ht
  have n4 : w4.heap.size ≠ w.heap.size := by have := c4.lt; omega
  go_wp2_with fail
  refine (pickInt_any I64 w.heap.size w4.heap.size 8 _ _ (c4.alloc _) (listI_alloc [1, 1, 1, 1, 0, 2, -1, 9223372036854775807] _ _ _ rfl (by intro z hz; unfold I64; simp at hz; omega)) n4 (by omega) (by omega)).mono ?_
  rintro e w5 ⟨z, hz, rfl, c5, o5⟩
  go_wp2
  go_ret2
  exact ⟨_, z, by simp only [ByteArray.size_append]; show 1 + t.size + 1 ≤ 1000; omega, hz, rfl, HB1.out.trans (((O4.out.alloc _).trans o5).below c1.lt)⟩
theorem drawDecText_any (a : Option Addr) (n cap : Nat) (w : World) (hn : n ≤ 1048576) (hc : Code8 w a n) :
    Calls Tryd.prog 15 #[.slice a n cap] w (GotN w) := by
  go_enter Tryd.func15, Tryd.ntmps15
  go_wp2_with fail
  refine (new_any a n cap _ hn hc).mono ?_
  rintro e w1 ⟨rfl, c1, hb1⟩
  go_wp2_with fail
  refine (below_any w.heap.size 100000 _ c1 (by omega) (by omega)).mono ?_
  rintro e w2 ⟨x, ⟨x0, x1⟩, rfl, c2, o2⟩
  have n2 : w2.heap.size ≠ w.heap.size := by have := c2.lt; omega
  go_wp2_with fail
  refine (pickInt_any I64 w.heap.size w2.heap.size 6 _ _ (c2.alloc _) (listI_alloc [0, -1, 10, 9223372036854775807, -9223372036854775808, x] _ _ _ rfl (by intro z hz; unfold I64; simp at hz; omega)) n2 (by omega) (by omega)).mono ?_
  rintro e w3 ⟨z, hz, rfl, c3, o3⟩
  go_wp2
  go_ret
  exact ⟨z, hz, rfl, hb1.trans (((o2.alloc _).trans o3).below c1.lt)⟩
theorem drawReadDec_any (a : Option Addr) (n cap : Nat) (w : World) (hn : n ≤ 1048576) (hc : Code8 w a n) :
    Calls Tryd.prog 16 #[.slice a n cap] w (GotT 200 w) := by
  go_enter Tryd.func16, Tryd.ntmps16
  go_wp2_with fail
  refine (new_any a n cap _ hn hc).mono ?_
  rintro e w1 ⟨rfl, c1, hb1⟩
  go_wp2_with fail
  refine (once_any w.heap.size 2 _ c1 (by omega) (by omega)).mono ?_
  rintro e w2 ⟨b, rfl, c2, o2⟩
  cases b
  · go_wp2_with fail
    refine (below_any w.heap.size 100000 _ c2 (by omega) (by omega)).mono ?_
    rintro e w3 ⟨x, ⟨x0, x1⟩, rfl, c3, o3⟩
    have hl := Lib.itoa_length_le x (by omega) (by omega)
    go_wp2_with fail
    refine (specDec_any x _ (by omega) (by omega)).mono ?_
    rintro e w4 ⟨rfl, rfl⟩
    go_wp2
    go_ret
    exact ⟨_, by show (Lib.itoa x).toArray.size ≤ 200; rw [List.size_toArray]; omega, rfl, hb1.trans ((o2.trans o3).below c1.lt)⟩
  · have n2 : w2.heap.size ≠ w.heap.size := by have := c2.lt; omega
    go_wp2_with fail
    refine (pick_any (Short 30) w.heap.size w2.heap.size 8 _ _ (c2.alloc _) (listS_alloc rdL _ _ _ rfl rdL_short) n2 (by omega) (by omega)).mono ?_
    rintro e w3 ⟨z, hz, rfl, c3, o3⟩
    have hz1 : z.size ≤ 30 := hz
    go_wp2
    go_ret
    exact ⟨z, by omega, rfl, hb1.trans (((o2.alloc _).trans o3).below c1.lt)⟩
theorem drawNameOk_any (a : Option Addr) (n cap : Nat) (w : World) (hn : n ≤ 1048576) (hc : Code8 w a n) :
    Calls Tryd.prog 17 #[.slice a n cap] w (GotT 200 w) := by
  go_enter Tryd.func17, Tryd.ntmps17
  go_wp2_with fail
  refine (new_any a n cap _ hn hc).mono ?_
  rintro e w1 ⟨rfl, c1, hb1⟩
  have n1 : w1.heap.size ≠ w.heap.size := by have := c1.lt; omega
  go_wp2_with fail
  refine (pick_any (Short 30) w.heap.size w1.heap.size 8 _ _ (c1.alloc _) (listS_alloc nmL _ _ _ rfl nmL_short) n1 (by omega) (by omega)).mono ?_
  rintro e w2 ⟨z, hz, rfl, c2, o2⟩
  have hz1 : z.size ≤ 30 := hz
  go_wp2_with fail
  refine (bent_any w.heap.size z _ c2 (by omega)).mono ?_
  rintro e w3 ⟨t, ht, rfl, c3, o3⟩
  have ht1 : t.size ≤ z.size + 1 := ht
  go_wp2
  go_ret
  exact ⟨t, by omega, rfl, (hb1.alloc (by have := hb1.size; omega) _).trans ((o2.trans o3).below (by simp; have := c1.lt; omega))⟩
end Go.Proofs.YtiggdpckjmellaaDoor.kit
