/-
  Contracts of the draws of the law on words (spec.DrawTokenText, DrawCount) over this seat's translation: what they draw is short. Conditions: at most 1048576 bytes of code.
-/
import Derived.Test.YtebeoijoljlhiaaGreatDoorMLd0
import Derived.Test.YtebeoijoljlhiaaGreatDoorMLx9
namespace Go.Proofs.YtebeoijoljlhiaaGreatDoor.kit
open Go.ChangeShapes Go.WideShapes Go.ChangeAt Go.RowKit
set_option linter.unusedVariables false

theorem lexB_len (s : ByteArray) : (lexB s).1.length ≤ 4001 := by
  by_cases hb : 4000 < s.size
  · rw [lexB, if_pos hb]; simp
  · rw [lexB, if_neg hb]
    have key : ∀ (f i : Nat) (line : Int) (acc : List Tok), i ≤ s.size → acc.length ≤ i → (lx s f i line acc).1.length ≤ s.size := by
      intro f
      induction f with
      | zero => intro i line acc hi ha; simp only [lx]; omega
      | succ f ih =>
        intro i line acc hi ha
        have hsk := skip_le s i hi
        by_cases h : skipB s i < s.size
        · cases hw : wd s (skipB s i) (divs acc) with
          | none => rw [lx_none h (by omega) hw]; simp
          | some x =>
            have hp := wd_pair h hw
            rw [lx_some h (by omega) hw]
            exact ih _ _ _ hp.2 (by simp; omega)
        · rw [lx_end (by omega) (by omega)]; simp only; omega
    have := key (s.size + 1) 0 1 [] (by omega) (by simp)
    omega
theorem OnlyB.box {B p : Nat} {w w' : World} (h : OnlyB B w w') (hp : p ≠ B) (hb : BoxT p w) : BoxT p w' := by
  obtain ⟨⟨c0, c1, c2, c3⟩, ⟨f0, f1, f2, f3⟩⟩ := hb
  have hlt : p < w.heap.size := World.block_lt_of_cell? w _ c0
  have e := h.block p hlt (by simpa using fun e => hp e)
  have ec : ∀ o, w'.cell? ⟨p, o, none⟩ = w.cell? ⟨p, o, none⟩ := fun o => World.cell?_of_block e
  have ef : ∀ o, w'.frozen? ⟨p, o, none⟩ = w.frozen? ⟨p, o, none⟩ := fun o => by simp only [World.frozen?, e]
  exact ⟨⟨(ec 0).trans c0, (ec 1).trans c1, (ec 2).trans c2, (ec 3).trans c3⟩, ⟨(ef 0).trans f0, (ef 1).trans f1, (ef 2).trans f2, (ef 3).trans f3⟩⟩
theorem below_low {B C : Nat} {w w' : World} (h : Below B w w') (hC : C ≤ B) : Below C w w' := h.mono hC
set_option maxRecDepth 100000 in
set_option maxHeartbeats 1000000 in
theorem drawTok_any (a : Option Addr) (n cap : Nat) (w : World) (hn : n ≤ 1048576) (hc : Code8 w a n) :
    Calls Tryz.prog 28 #[.slice a n cap] w (DrTok w) := by
  have HB := Lib.hid (show ∀ o, Below w.heap.size w (w.alloc o) from fun o => (Below.refl w.heap.size w).alloc (Nat.le_refl _) _)
  have X0 := Lib.hid (BoxT.new w 39)
  go_enter Tryz.func28, Tryz.ntmps28
  go_wp2_with fail
  refine (new_any a n cap _ hn (hc.kept (HB.out _))).mono ?_
  rintro e w1 ⟨rfl, c1, hb1⟩
  have X1 := Lib.hid (box_kept X0.out hb1)
  have B1 := Lib.hid ((HB.out _).trans (hb1.mono (HB.out _).size))
  have hz : (w.alloc (.cells #[.int .i64 0, .string ⟨#[]⟩, .int .i64 0, .int .i64 0] 39)).heap.size = w.heap.size + 1 := by simp
  rw [hz] at c1
  have hpB : w.heap.size ≠ w.heap.size + 1 := by omega
  have L1 := Lib.hid c1.lt
  clear hb1 X0
  go_wp2_with fail
  refine (below_any (w.heap.size + 1) 9 _ c1 (by omega) (by omega)).mono ?_
  rintro e w2 ⟨x, ⟨x0, x1⟩, rfl, c2, o2⟩
  go_wp2_with fail
  refine (raw_any (w.heap.size + 1) _ c2).mono ?_
  rintro e w3 ⟨s, hs, rfl, c3, o3⟩
  have hs1 : s.size ≤ 40 := hs
  have O3 := Lib.hid (o2.trans o3)
  clear o2 o3 hs
  go_wp2_with fail
  refine (num_any (w.heap.size + 1) _ c3).mono ?_
  rintro e w4 ⟨y, hy, rfl, c4, o4⟩
  have O4 := Lib.hid (O3.out.trans o4)
  have HY := Lib.hid hy
  clear o4 hy O3
  go_wp2_with fail
  refine (below_any (w.heap.size + 1) 9 _ c4 (by omega) (by omega)).mono ?_
  rintro e w5 ⟨z, ⟨z0, z1⟩, rfl, c5, o5⟩
  have O5 := Lib.hid (O4.out.trans o5)
  have X5 := Lib.hid (O5.out.box hpB X1.out)
  obtain ⟨⟨q0, q1, q2, q3⟩, ⟨p0, p1, p2, p3⟩⟩ := X5.out
  have hz5 : w.heap.size < w5.heap.size := World.block_lt_of_cell? w5 _ q0
  have BF := Lib.hid (B1.out.trans (below_low (O5.out.below L1.out) (by omega)))
  clear o5 O4
  go_wp2_with fail
  exact bodyPost_ret (v := .agg #[.int .i64 (x - 1), .string s, .int .i64 y, .int .i64 z]) (by simp [results, Tryz.results28, go_sem, *]) rfl ⟨⟨x - 1, s, y, z⟩, by show s.size ≤ 100; omega, by show I64 (x - 1); unfold I64; omega, HY.out, rfl, (((BF.out.setCell (p := ⟨w.heap.size, 0, none⟩) (Nat.le_refl _) _).setCell (p := ⟨w.heap.size, 1, none⟩) (Nat.le_refl _) _).setCell (p := ⟨w.heap.size, 2, none⟩) (Nat.le_refl _) _).setCell (p := ⟨w.heap.size, 3, none⟩) (Nat.le_refl _) _⟩
def DrList (w : World) (e : Ending) (w' : World) : Prop := ∃ (v : Value) (ts : List Tok) (x : Int), OwnT w.heap.size w' v ts ∧ ts.length ≤ 4001 ∧ I64 x ∧ e = .returned (.tuple #[v, .int .i64 x]) ∧ Below w.heap.size w w'
set_option maxRecDepth 100000 in
set_option maxHeartbeats 1000000 in
theorem drawCount_any (a : Option Addr) (n cap : Nat) (w : World) (hn : n ≤ 1048576) (hc : Code8 w a n) :
    Calls Tryz.prog 29 #[.slice a n cap] w (DrList w) := by
  go_enter Tryz.func29, Tryz.ntmps29
  go_wp2_with fail
  refine (new_any a n cap _ hn hc).mono ?_
  rintro e w1 ⟨rfl, c1, hb1⟩
  have HB1 := Lib.hid hb1
  have L1 := Lib.hid c1.lt
  clear hb1
  go_wp2_with fail
  refine (source_any w.heap.size _ c1).mono ?_
  rintro e w2 ⟨s, hs, rfl, c2, o2⟩
  have hs1 : s.size ≤ 300 := hs
  have hlen := lexB_len s
  go_wp2_with fail
  refine (specLex_any s _ (by omega)).mono ?_
  generalize lexB s = r at *
  obtain ⟨ts, q⟩ := r
  rintro e w3 ⟨v, rfl, ov, hb3⟩
  have hlen : ts.length ≤ 4001 := hlen
  have OV := Lib.hid ov
  have c3 := c2.kept hb3 c2.lt
  have lt2 := c2.lt
  have O3 : Hid (OnlyB w.heap.size w1 w3) := Lib.hid ⟨hb3.os.trans o2.os, hb3.tape.trans o2.tape, hb3.output.trans o2.output, Nat.le_trans o2.size hb3.size, fun j hj hn => (hb3.block j (Nat.lt_of_lt_of_le hj o2.size)).trans (o2.block j hj hn)⟩
  clear ov hb3 o2
  simp only
  go_wp2_with fail
  refine (below_any w.heap.size 9 _ c3 (by omega) (by omega)).mono ?_
  rintro e w4 ⟨x, ⟨x0, x1⟩, rfl, c4, o4⟩
  have O4 := Lib.hid (O3.out.trans o4)
  have OW : Hid (OwnT w.heap.size w4 v ts) := Lib.hid (by
    have h2 : OwnT w2.heap.size w4 v ts := World.ownsRow.kept OV.out o4 (by
      cases e : v.ownBlock with
      | none => exact .inl rfl
      | some g => right; intro e2; cases e2; have := (World.ownsRow.lt OV.out _ e).1; omega)
    refine ⟨h2.1, ?_⟩
    rcases h2.2 with h0 | ⟨g, cap, cur, a, b, c⟩
    · exact .inl h0
    · exact .inr ⟨g, cap, cur, a, by omega, c⟩)
  clear o4 OV
  go_wp2_with fail
  go_ret2
  exact ⟨v, ts, x - 1, OW.out, hlen, by unfold I64; omega, rfl, HB1.out.trans (O4.out.below L1.out)⟩
end Go.Proofs.YtebeoijoljlhiaaGreatDoor.kit
