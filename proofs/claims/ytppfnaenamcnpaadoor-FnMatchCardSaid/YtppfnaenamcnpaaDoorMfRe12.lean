/-
  Contracts of spec.Least and impl.Least over this seat's translation: how many bytes at least an expression means. Conditions: each theorem names its own.
-/
import Derived.Test.YtppfnaenamcnpaaDoorMfRe11
import Derived.Test.YtppfnaenamcnpaaDoorMfBox
set_option linter.unusedVariables false
namespace Go.Proofs.YtppfnaenamcnpaaDoor.kit
open Go.ChangeShapes Go.WideShapes Go.ChangeAt Go.RowKit
set_option maxRecDepth 100000 in
set_option maxHeartbeats 1000000 in
theorem implLeast_any (t : RT) (a : Option Addr) (cap : Nat) (w : World) (hk : Kids 0 w t.kids a) (hc : RT.cost t ≤ 1048576) :
 Calls Tryd.prog 16 #[reV t a cap] w fun e w' => e = .returned (.int .i64 (if RT.ok t = true then RT.lst t else 0)) ∧ Below w.heap.size w w' := by
 have HK := Lib.hid hk
 have HO := Lib.hid (fun W h => implReOk_any t a cap W h hc)
 have HL := Lib.hid (il_any t)
 have HG := Lib.hid (fun h => RT.ok_good (t := t) h)
 have HB := Lib.hid (show ∀ o, Below w.heap.size w (w.alloc o) from fun o => (Below.refl w.heap.size w).alloc (Nat.le_refl _) _)
 clear hk
 cases hok : RT.ok t
 · rw [hok] at HO
   rw [if_neg (by simp)]
   clear hok
   obtain ⟨k, s, n, lo, hi, ts⟩ := t
   unfold reV
   simp only [RT.set, RT.kids, RT.kind, RT.neg, RT.low, RT.high] at *
   go_enter Tryd.func16, Tryd.ntmps16
   go_wp2_with fail
   refine (HO.out _ (HK.out.alloc _)).mono ?_
   rintro e w1 ⟨rfl, hb1⟩
   have HB1 := Lib.hid hb1
   clear hb1
   go_wp2_with fail
   go_ret
   exact ⟨rfl, (HB.out _).trans (HB1.out.mono (HB.out _).size)⟩
 · rw [hok] at HO
   have HG := Lib.hid (HG.out hok)
   clear hok
   rw [if_pos rfl]
   have HL := Lib.hid (fun W h => HL.out HG.out a cap W h)
   generalize RT.lst t = R at *
   obtain ⟨k, s, n, lo, hi, ts⟩ := t
   unfold reV
   simp only [RT.set, RT.kids, RT.kind, RT.neg, RT.low, RT.high] at *
   go_enter Tryd.func16, Tryd.ntmps16
   go_wp2_with fail
   refine (HO.out _ (HK.out.alloc _)).mono ?_
   rintro e w1 ⟨rfl, hb1⟩
   have BX1 := Lib.hid ((Box.start (k := k) (s := s) (n := n) (lo := lo) (hi := hi) (ts := ts) (a := a) (cap := cap) w 26).step hb1)
   have HB1 := Lib.hid ((HB.out _).trans (hb1.mono (HB.out _).size))
   clear hb1
   obtain ⟨⟨x0, x1, x2, x3, x4, x5⟩, _⟩ := BX1.out
   go_wp2_with fail
   refine (HL.out _ (HK.out.kept (Nat.le_refl _) HB1.out)).mono ?_
   rintro e w2 ⟨rfl, hb2⟩
   have HB2 := Lib.hid (HB1.out.trans (hb2.mono HB1.out.size))
   clear hb2 x0 x1 x2 x3 x4 x5
   go_wp2_with fail
   go_ret
   exact ⟨rfl, HB2.out⟩
end Go.Proofs.YtppfnaenamcnpaaDoor.kit
