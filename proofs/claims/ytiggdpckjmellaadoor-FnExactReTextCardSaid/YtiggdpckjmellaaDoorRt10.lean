/-
  The text of an expression, and the contracts of impl.kidText and spec.l04Wrap over this seat's translation: a kid's text, in round brackets where it wants them. Conditions: each theorem names its own.
-/
import Derived.Test.YtiggdpckjmellaaDoorRt8
import Derived.Test.YtiggdpckjmellaaDoorRt9
import Derived.Test.YtiggdpckjmellaaDoorReG
namespace Go.Proofs.YtiggdpckjmellaaDoor.kit
open Go.ChangeShapes Go.WideShapes Go.ChangeAt Go.RowKit
set_option linter.unusedVariables false

def wrT (b : Bool) (l : List UInt8) : List UInt8 := if b = true then [40] ++ l ++ [41] else l
theorem wrT_len (b : Bool) (l : List UInt8) : (wrT b l).length ≤ l.length + 2 := by
  unfold wrT; split
  · simp
  · omega
mutual
/-- The text of a right expression. -/
def RT.txt : RT → List UInt8
  | .node k s n lo hi ts =>
    if k = 1 then [46] else if k = 2 then setTxt s.data.toList n
    else if k = 3 then (RT.wrs [3, 4] [4] ts).flatten
    else if k = 4 then ((RT.wrs [4] [] ts).intersperse [124]).flatten
    else if k = 5 then (RT.wrs [0, 3, 4, 5, 6, 7] [] ts).flatten ++ timT lo hi
    else if k = 6 then [94] else if k = 7 then [36] else [40, 41]
/-- The texts of kids: the first one in brackets where its kind is one of ks, the others where it is one of ls. -/
def RT.wrs (ks ls : List Int) : List RT → List (List UInt8)
  | [] => []
  | t :: ts => wrT (hasB ks t.kind) (RT.txt t) :: RT.wrs ls ls ts
end
def TxI (t : RT) : Prop := ∀ (a : Option Addr) (cap : Nat) (W : World), Kids 0 W t.kids a → Tab W →
  Calls Tryd.prog 69 #[reV t a cap] W fun e w' => e = .returned (.string ⟨(RT.txt t).toArray⟩) ∧ Below W.heap.size W w'
def TxS (t : RT) : Prop := ∀ (a : Option Addr) (cap : Nat) (W : World), Kids 0 W t.kids a →
  Calls Tryd.prog 72 #[reV t a cap] W fun e w' => e = .returned (.string ⟨(RT.txt t).toArray⟩) ∧ Below W.heap.size W w'
set_option maxRecDepth 100000 in
set_option maxHeartbeats 2000000 in
theorem kidText_any (t : RT) (h : TxI t) (a : Option Addr) (cap : Nat) (ks : List Int) (g c : Nat) (w : World) (hk : Kids 0 w t.kids a) (ht : Tab w) (hn : ks.length ≤ 100) (hks : IntsAt w g ks) (hlen : (RT.txt t).length ≤ 100000000) :
    Calls Tryd.prog 99 #[reV t a cap, .slice (some ⟨g, 0, none⟩) ks.length c] w fun e w' => e = .returned (.string ⟨(wrT (hasB ks t.kind) (RT.txt t)).toArray⟩) ∧ Below w.heap.size w w' := by
  have HB := Lib.hid (show ∀ o, Below w.heap.size w (w.alloc o) from fun o => (Below.refl w.heap.size w).alloc (Nat.le_refl _) _)
  have HC := Lib.hid (fun k o => contains_any ks g c k (w.alloc o) hn (fun j hj => by
    have h1 := hks j hj
    rw [(HB.out o).cell (p := ⟨g, j, none⟩) (World.block_lt_of_cell? w ⟨g, j, none⟩ h1)]; exact h1))
  have HX := Lib.hid (fun o => h a cap (w.alloc o) (hk.alloc o) (ht.on (HB.out o)))
  clear hks hk ht h
  obtain ⟨k, s, n, lo, hi, ts⟩ := t
  unfold reV at *
  simp only [RT.set, RT.kids, RT.kind, RT.neg, RT.low, RT.high] at *
  generalize RT.txt (.node k s n lo hi ts) = L at *
  have HK := Lib.hid (HC.out k)
  clear HC
  cases hb : hasB ks k
  · rw [hb] at HK
    clear hb
    go_enter Tryd.func99, Tryd.ntmps99
    go_wp2_with fail
    refine (HK.out _).mono ?_
    rintro e w1 ⟨rfl, rfl⟩
    go_wp2_with fail
    refine (HX.out _).mono ?_
    rintro e w2 ⟨rfl, hb2⟩
    go_wp2_with fail
    go_ret
    exact ⟨rfl, (HB.out _).trans (hb2.mono (HB.out _).size)⟩
  · rw [hb] at HK
    clear hb
    go_enter Tryd.func99, Tryd.ntmps99
    go_wp2_with fail
    refine (HK.out _).mono ?_
    rintro e w1 ⟨rfl, rfl⟩
    go_wp2_with fail
    refine (HX.out _).mono ?_
    rintro e w2 ⟨rfl, hb2⟩
    have HB2 := Lib.hid ((HB.out _).trans (hb2.mono (HB.out _).size))
    clear hb2
    go_wp2_with fail
    go_ret
    exact ⟨congrArg (fun t => Ending.returned (Value.string t)) (j3 [40] L [41]), HB2.out⟩
set_option maxRecDepth 100000 in
set_option maxHeartbeats 2000000 in
theorem l04Wrap_any (t : RT) (h : TxS t) (a : Option Addr) (cap : Nat) (b : Bool) (w : World) (hk : Kids 0 w t.kids a) (hlen : (RT.txt t).length ≤ 100000000) :
    Calls Tryd.prog 104 #[reV t a cap, .bool b] w fun e w' => e = .returned (.string ⟨(wrT b (RT.txt t)).toArray⟩) ∧ Below w.heap.size w w' := by
  have HB := Lib.hid (show ∀ o, Below w.heap.size w (w.alloc o) from fun o => (Below.refl w.heap.size w).alloc (Nat.le_refl _) _)
  have HX := Lib.hid (fun o => h a cap (w.alloc o) (hk.alloc o))
  clear hk h
  obtain ⟨k, s, n, lo, hi, ts⟩ := t
  unfold reV at *
  simp only [RT.set, RT.kids, RT.kind, RT.neg, RT.low, RT.high] at *
  generalize RT.txt (.node k s n lo hi ts) = L at *
  cases b
  · go_enter Tryd.func104, Tryd.ntmps104
    go_wp2_with fail
    refine (HX.out _).mono ?_
    rintro e w2 ⟨rfl, hb2⟩
    go_wp2_with fail
    go_ret
    exact ⟨rfl, (HB.out _).trans (hb2.mono (HB.out _).size)⟩
  · go_enter Tryd.func104, Tryd.ntmps104
    go_wp2_with fail
    refine (HX.out _).mono ?_
    rintro e w2 ⟨rfl, hb2⟩
    have HB2 := Lib.hid ((HB.out _).trans (hb2.mono (HB.out _).size))
    clear hb2
    go_wp2_with fail
    go_ret
    exact ⟨congrArg (fun t => Ending.returned (Value.string t)) (j3 [40] L [41]), HB2.out⟩
end Go.Proofs.YtiggdpckjmellaaDoor.kit
