/-
 Contract of the model's reader of sets of bytes over this seat's translation. Conditions: the reader's cells are known.
-/
import Derived.Test.YtcpaneaiobnhdaaDoorMPs2a
import Derived.Test.YtcpaneaiobnhdaaDoorMPs3
import Derived.Test.YtcpaneaiobnhdaaDoorMPr5
namespace Go.Proofs.YtcpaneaiobnhdaaDoor.kit
open Go.ChangeShapes Go.WideShapes Go.ChangeAt Go.RowKit
set_option linter.unusedVariables false
open PR

theorem Six.setText {w : World} {g : Nat} {k : Int} {st : ByteArray} {n : Bool} {tl th : Int} {ts : List RT} {a : Option Addr} {c : Nat} (h : Six w g (.node k st n tl th ts) a c) (st' : ByteArray) :
  Six (w.setCell ⟨g, 1, none⟩ (.string st')) g (.node k st' n tl th ts) a c := by
 unfold Six at h
 show ((w.setCell ⟨g, 1, none⟩ (.string st')).heap)[g]? = _
 simp [World.setCell, Array.getElem?_modify, h, RT.kind, RT.set, RT.neg, RT.low, RT.high, RT.kids]
theorem Six.setNot {w : World} {g : Nat} {k : Int} {st : ByteArray} {n : Bool} {tl th : Int} {ts : List RT} {a : Option Addr} {c : Nat} (h : Six w g (.node k st n tl th ts) a c) (b : Bool) :
  Six (w.setCell ⟨g, 2, none⟩ (.bool b)) g (.node k st b tl th ts) a c := by
 unfold Six at h
 show ((w.setCell ⟨g, 2, none⟩ (.bool b)).heap)[g]? = _
 simp [World.setCell, Array.getElem?_modify, h, RT.kind, RT.set, RT.neg, RT.low, RT.high, RT.kids]
theorem Par.cell {w : World} {B : Nat} {s : ByteArray} {i : Nat} {bad : Bool} (c : Par w B s i bad) (g j : Nat) (hg : g ≠ B) (v : Value) : Par (w.setCell ⟨g, j, none⟩ v) B s i bad := by
 have e := Below.heap_setCell w ⟨g, j, none⟩ v B (Ne.symm hg)
 exact ⟨by simpa using c.lt, (World.cell?_of_block (w := w) (a := ⟨B, 0, none⟩) e).trans c.c0, (World.cell?_of_block (w := w) (a := ⟨B, 1, none⟩) e).trans c.c1, (World.cell?_of_block (w := w) (a := ⟨B, 2, none⟩) e).trans c.c2,
  (World.frozen?_of_block (w := w) (a := ⟨B, 1, none⟩) e).trans c.f1, (World.frozen?_of_block (w := w) (a := ⟨B, 2, none⟩) e).trans c.f2⟩
theorem Par.setB {w : World} {B : Nat} {s : ByteArray} {i : Nat} {bad : Bool} (c : Par w B s i bad) (b : Bool) : Par (w.setCell ⟨B, 2, none⟩ (.bool b)) B s i b := by
 refine ⟨by simpa using c.lt, ?_, ?_, ?_, ?_, ?_⟩
 ·exact (World.cell?_setCell_other w _ _ _ (by intro x; cases x)).trans c.c0
 ·exact (World.cell?_setCell_other w _ _ _ (by intro x; cases x)).trans c.c1
 ·exact World.cell?_setCell_same w _ _ c.c2
 ·exact (World.frozen?_setCell ..).trans c.f1
 ·exact (World.frozen?_setCell ..).trans c.f2
theorem add_any (s : ByteArray) (b : UInt8) (n : Int) (hn : (b.toNat : Int) = n) (w : World) (hs : s.size ≤ 1000) :
  Calls Tryd.prog 79 #[.string s, .int .u8 n] w fun e w' => e = .returned (.string ⟨(PR.addB b s.data.toList).toArray⟩) ∧ Below w.heap.size w w' := by
 subst hn; exact add_spec s b w hs
theorem add_mem (m : Nat → Bool) (lo k : Nat) (hk : k < 256) (hlk : lo ≤ k) : PR.addB (UInt8.ofNat k) (mem fun n => m n || (decide (lo ≤ n) && decide (n < k))) = mem fun n => m n || (decide (lo ≤ n) && decide (n < k + 1)) := by
 rw [mem_add _ _ hk]; exact mem_congr fun n hn => (mark_more m lo k hlk n hn).symm
theorem rng_no {s : ByteArray} {p : Nat} (h : ¬ p + 1 < s.size) : rng s p = false := by unfold rng; rw [decide_eq_false h]; rfl
theorem rng_is {s : ByteArray} {p : Nat} (h : p + 1 < s.size) : rng s p = (atB s p 45 && !atB s (p + 1) 93) := by unfold rng; rw [decide_eq_true h]; rfl
end Go.Proofs.YtcpaneaiobnhdaaDoor.kit
/-
 Contract of the model's reader of sets of bytes over this seat's translation. Conditions: the reader's cells are known.
-/
namespace Go.Proofs.YtcpaneaiobnhdaaDoor.kit
open Go.ChangeShapes Go.WideShapes Go.ChangeAt Go.RowKit
set_option linter.unusedVariables false
open PR

set_option maxRecDepth 100000 in
set_option maxHeartbeats 6000000 in
theorem bracket_pos (B : Nat) (s : ByteArray) (i : Nat) (w : World) (hs : s.size ≤ 4000) (hr : Par w B s i false) (hi : i ≤ s.size) (hq : atB s i 94 = false) :
  Calls Tryd.prog 69 #[.pointer (some ⟨B, 0, none⟩)] w (PostS B s s.size w (PR.setT s i)) := by
 have hs2 : s.size ≤ 1048576 := by omega
 have hBl := hr.lt
 obtain ⟨t6, t7⟩ := six_two w (.cells #[.int .i64 0, .string ⟨#[]⟩, .bool false, .int .i64 0, .int .i64 0, .slice none 0 0] 26) (.cells #[.int .i64 2, .string ⟨#[]⟩, .bool false, .int .i64 0, .int .i64 0, .slice none 0 0] 26)
 have b2 : Below w.heap.size w ((w.alloc (.cells #[.int .i64 0, .string ⟨#[]⟩, .bool false, .int .i64 0, .int .i64 0, .slice none 0 0] 26)).alloc (.cells #[.int .i64 2, .string ⟨#[]⟩, .bool false, .int .i64 0, .int .i64 0, .slice none 0 0] 26)) := ((Below.refl w.heap.size w).alloc (Nat.le_refl _) _).alloc (by simp) _
 have O := Lib.hid (OnlyB.of_below (B := B) b2)
 have P := Lib.hid (hr.kept b2)
 have S2 : Hid (Six _ w.heap.size (PR.leaf 0) none 0) := Lib.hid t6
 have S3 : Hid (Six _ (w.heap.size + 1) (.node 2 ⟨#[]⟩ false 0 0 []) none 0) := Lib.hid t7
 clear b2 hr t6 t7
 have E0 : Hid (PR.setT s i = (setR s (s.size + 1) i true (fun _ => false)).map fun x => (RT.node 2 ⟨(mem x.1).toArray⟩ false 0 0 [], x.2)) := Lib.hid (by unfold PR.setT; rw [hq]; rfl)
 have HQ := Lib.hid hq
 clear hq
 go_enter Tryd.func69, Tryd.ntmps69
 go_wp2_with fail
 refine (pIs_any B s i false 94 94 rfl false _ hs2 P.out (by rw [HQ.out]; rfl)).mono ?_
 rintro e w1 ⟨rfl, hn⟩
 have o := OnlyB.drewAll (B := B) hn
 have p := P.out.drewAll hn
 clear hn
 have O := Lib.hid (O.out.trans o)
 have P := Lib.hid p
 have S2 := Lib.hid (S2.out.only o (by omega))
 have S3 := Lib.hid (S3.out.only o (by omega))
 clear o p
 go_wp2_with fail
 go_loopg [4] (s.size + 1 - i) (fun gh f wr => ∃ (j : Nat) (m : Nat → Bool) (b : Bool) (fu : Nat) (bad : Bool) (st : ByteArray), f = .bool b ∧ j ≤ s.size ∧ j + gh = s.size + 1 ∧ (bad = true ∧ setR s (s.size + 1) i true (fun _ => false) = none ∨ bad = false ∧ st = ⟨(mem m).toArray⟩ ∧ s.size + 1 ≤ j + fu ∧ setR s fu j b m = setR s (s.size + 1) i true (fun _ => false)) ∧ Par wr B s j bad ∧ Six wr (w.heap.size + 1) (.node 2 st false 0 0 []) none 0 ∧ Six wr w.heap.size (PR.leaf 0) none 0 ∧ OnlyB B w wr)
 case atStart => exact ⟨i, _, true, s.size + 1, false, ⟨#[]⟩, rfl, by omega, by omega, Or.inr ⟨rfl, by rw [mem_none], by omega, rfl⟩, P.out, S3.out, S2.out, O.out⟩
 case round =>
  clear P S3 S2 O
  obtain ⟨j, m, b, fu, bad, st, rfl, hjs, hjg, hcase, p, s3, s2, o⟩ := hrel
  have P := Lib.hid p
  have S3 := Lib.hid s3
  have S2 := Lib.hid s2
  have O := Lib.hid o
  clear p s3 s2 o
  have hzP := P.out.lt
  have hz3 := S3.out.lt
  cases bad with
  | true =>
   have HY : Hid (setR s (s.size + 1) i true (fun _ => false) = none) := Lib.hid (by rcases hcase with ⟨_, h⟩ | ⟨h, _⟩; exact h; cases h)
   clear hcase
   obtain ⟨h0, h1, h2, h3, h4, h5⟩ := P.out
   have h6 : Lk (Six (put6 wr w.heap.size (.int .i64 2) (.string st) (.bool false) (.int .i64 0) (.int .i64 0) (.slice none 0 0)) w.heap.size (.node 2 st false 0 0 []) none 0) := Lk.mk (S2.out.put (.node 2 st false 0 0 []) none 0)
   have PO := Lk.mk (put6_only O.out w.heap.size (.int .i64 2) (.string st) (.bool false) (.int .i64 0) (.int .i64 0) (.slice none 0 0) (by omega))
   have PP := Lk.mk (P.out.put w.heap.size (by omega) (.int .i64 2) (.string st) (.bool false) (.int .i64 0) (.int .i64 0) (.slice none 0 0))
   obtain ⟨z0, z1, z2, z3, z4, z5, z6⟩ := S3.out.cells
   replace z0 : _ = some (Value.int .i64 2) := z0
   replace z1 : _ = some (Value.string st) := z1
   replace z2 : _ = some (Value.bool false) := z2
   replace z3 : _ = some (Value.int .i64 0) := z3
   replace z4 : _ = some (Value.int .i64 0) := z4
   replace z5 : _ = some (Value.slice none 0 0) := z5
   have z60 := z6 0
   have z61 := z6 1
   have z62 := z6 2
   have z63 := z6 3
   have z64 := z6 4
   have z65 := z6 5
   clear z6
   obtain ⟨x0, x1, x2, x3, x4, x5, x6⟩ := S2.out.cells
   have x60 := x6 0
   have x61 := x6 1
   have x62 := x6 2
   have x63 := x6 3
   have x64 := x6 4
   have x65 := x6 5
   clear x6
   go_wp2_with fail
   change bodyPost _ _ _ _ _ (put6 wr w.heap.size (.int .i64 2) (.string st) (.bool false) (.int .i64 0) (.int .i64 0) (.slice none 0 0))
   generalize put6 wr w.heap.size (.int .i64 2) (.string st) (.bool false) (.int .i64 0) (.int .i64 0) (.slice none 0 0) = W at h6 PO PP ⊢
   obtain ⟨y0, y1, y2, y3, y4, y5, _⟩ := h6.out.cells
   replace y0 : _ = some (Value.int .i64 2) := y0
   replace y1 : _ = some (Value.string st) := y1
   replace y2 : _ = some (Value.bool false) := y2
   replace y3 : _ = some (Value.int .i64 0) := y3
   replace y4 : _ = some (Value.int .i64 0) := y4
   replace y5 : _ = some (Value.slice none 0 0) := y5
   refine bodyPost_ret (v := .agg #[.int .i64 2, .string st, .bool false, .int .i64 0, .int .i64 0, .slice none 0 0]) (by simp [results, Tryd.results69, go_sem, y0, y1, y2, y3, y4, y5]) rfl ⟨PO.out, ?_⟩
   rw [E0.out, HY.out]
   exact ⟨RT.node 2 st false 0 0 [], none, 0, j, rfl, hjs, PP.out⟩
  | false =>
   obtain ⟨hst, hfu, hX⟩ : st = ⟨(mem m).toArray⟩ ∧ s.size + 1 ≤ j + fu ∧ setR s fu j b m = setR s (s.size + 1) i true (fun _ => false) := by rcases hcase with ⟨h, _⟩ | ⟨_, h⟩; cases h; exact h
   have HST := Lib.hid hst
   have HX := Lib.hid hX
   clear hcase hst hX
   by_cases hj : j < s.size
   ·obtain ⟨fu, rfl⟩ : ∃ f, fu = f + 1 := ⟨fu - 1, by omega⟩
    have d1 : decide (s.size ≤ j) = false := by simpa using hj
    have d2 : decide ((s.size : Int) ≤ (j : Int)) = false := by simp; omega
    have i0 : (0 : Int) ≤ (j : Int) := by omega
    have i1 : (j : Int) < (s.size : Int) := by omega
    obtain ⟨h0, h1, h2, h3, h4, h5⟩ := P.out
    obtain ⟨lo, hlo⟩ : ∃ lo, lo = (at_ s j).toNat := ⟨_, rfl⟩
    have hlo1 : lo < 256 := by rw [hlo]; exact (at_ s j).toNat_lt
    have hlo2 : s[j].toNat = lo := by rw [hlo, at_eq s j hj]
    have HLO := Lib.hid hlo
    have A93 := Lib.hid (atB_in (s := s) (i := j) (c := 93) hj)
    rw [hlo2] at A93
    have HLO2 := Lib.hid hlo2
    clear hlo hlo2
    go_wp2_with fail
    go_quiet (fail)
    have O := Lib.hid (O.out.drewN nq)
    have P := Lib.hid (P.out.drewN nq)
    have S2 : Hid (Six (wr.drewN nq) _ _ _ _) := Lib.hid S2.out
    have S3 : Hid (Six (wr.drewN nq) _ _ _ _) := Lib.hid S3.out
    generalize wr.drewN nq = w2 at *
    clear h0 h1 h2 h3 h4 h5
    obtain ⟨h0, h1, h2, h3, h4, h5⟩ := P.out
    go_wp2_with fail
    go_quiet (fail)
    rw [HLO2.out]
    have O := Lib.hid (O.out.drewN nq)
    have P := Lib.hid (P.out.drewN nq)
    have S2 : Hid (Six (w2.drewN nq) _ _ _ _) := Lib.hid S2.out
    have S3 : Hid (Six (w2.drewN nq) _ _ _ _) := Lib.hid S3.out
    generalize w2.drewN nq = w3 at *
    clear h0 h1 h2 h3 h4 h5
    obtain ⟨h0, h1, h2, h3, h4, h5⟩ := P.out
    obtain ⟨p, hp⟩ : ∃ p, p = j + 1 := ⟨_, rfl⟩
    have hp1 : j + 1 ≤ p := by omega
    have hp2 : p ≤ j + 1 := by omega
    have hpj : (p : Int) = (j : Int) + 1 := by omega
    have P := Lib.hid (P.out.setI p)
    have O := Lib.hid (O.out.set 1 (.int .i64 (p : Int)))
    have S2 := Lib.hid (S2.out.cell B 1 (by omega) (.int .i64 (p : Int)))
    have S3 := Lib.hid (S3.out.cell B 1 (by omega) (.int .i64 (p : Int)))
    rw [hpj] at P O S2 S3
    clear hpj
    cases hex : (atB s j 93 && !b)
    case true =>
     have hb : b = false := by cases b; rfl; simp at hex
     have h93 : atB s j 93 = true := by rw [Bool.and_eq_true] at hex; exact hex.1
     subst hb
     have e93 : ((lo : Int) == 93) = true := A93.out.trans h93
     have HY : Hid (setR s (s.size + 1) i true (fun _ => false) = some (m, j + 1)) := Lib.hid (HX.out.symm.trans (setR_exit s fu j false m hj hex))
     clear hex h93
     have h6 : Lk (Six (put6 (w3.setCell ⟨B, 1, none⟩ (.int .i64 ((j : Int) + 1))) w.heap.size (.int .i64 2) (.string st) (.bool false) (.int .i64 0) (.int .i64 0) (.slice none 0 0)) w.heap.size (.node 2 st false 0 0 []) none 0) := Lk.mk (S2.out.put (.node 2 st false 0 0 []) none 0)
     have PO := Lk.mk (put6_only O.out w.heap.size (.int .i64 2) (.string st) (.bool false) (.int .i64 0) (.int .i64 0) (.slice none 0 0) (by omega))
     have PP := Lk.mk (P.out.put w.heap.size (by omega) (.int .i64 2) (.string st) (.bool false) (.int .i64 0) (.int .i64 0) (.slice none 0 0))
     obtain ⟨z0, z1, z2, z3, z4, z5, z6⟩ := S3.out.cells
     replace z0 : _ = some (Value.int .i64 2) := z0
     replace z1 : _ = some (Value.string st) := z1
     replace z2 : _ = some (Value.bool false) := z2
     replace z3 : _ = some (Value.int .i64 0) := z3
     replace z4 : _ = some (Value.int .i64 0) := z4
     replace z5 : _ = some (Value.slice none 0 0) := z5
     have z60 := z6 0
     have z61 := z6 1
     have z62 := z6 2
     have z63 := z6 3
     have z64 := z6 4
     have z65 := z6 5
     clear z6
     obtain ⟨x0, x1, x2, x3, x4, x5, x6⟩ := S2.out.cells
     have x60 := x6 0
     have x61 := x6 1
     have x62 := x6 2
     have x63 := x6 3
     have x64 := x6 4
     have x65 := x6 5
     clear x6
     go_wp2_with fail
     change bodyPost _ _ _ _ _ (put6 (w3.setCell ⟨B, 1, none⟩ (.int .i64 ((j : Int) + 1))) w.heap.size (.int .i64 2) (.string st) (.bool false) (.int .i64 0) (.int .i64 0) (.slice none 0 0))
     generalize put6 (w3.setCell ⟨B, 1, none⟩ (.int .i64 ((j : Int) + 1))) w.heap.size (.int .i64 2) (.string st) (.bool false) (.int .i64 0) (.int .i64 0) (.slice none 0 0) = W at h6 PO PP ⊢
     obtain ⟨y0, y1, y2, y3, y4, y5, _⟩ := h6.out.cells
     replace y0 : _ = some (Value.int .i64 2) := y0
     replace y1 : _ = some (Value.string st) := y1
     replace y2 : _ = some (Value.bool false) := y2
     replace y3 : _ = some (Value.int .i64 0) := y3
     replace y4 : _ = some (Value.int .i64 0) := y4
     replace y5 : _ = some (Value.slice none 0 0) := y5
     refine bodyPost_ret (v := .agg #[.int .i64 2, .string st, .bool false, .int .i64 0, .int .i64 0, .slice none 0 0]) (by simp [results, Tryd.results69, go_sem, y0, y1, y2, y3, y4, y5]) rfl ⟨PO.out, ?_⟩
     rw [E0.out, HY.out]
     simp only [Option.map_some]
     rw [← HST.out]
     rw [← hp]
     exact ⟨none, 0, [], rfl, KF.nil _, fun y hy => absurd hy (by simp), ⟨by rw [RT.set, HST.out]; simpa [ByteArray.size] using mem_len m, by simp [RT.kids]⟩, PP.out⟩
    case false =>
     have HSR := Lib.hid (setR_step s fu j b m hj hex)
     rw [← HLO.out, ← hp, show j + 2 = p + 1 by omega, show j + 3 = p + 2 by omega] at HSR
     have HEX := Lib.hid hex
     have HP := Lib.hid hp
     clear hex hp
     cases b
     case true =>
      cases hz3 : atB s j 93
      rotate_left
      ·have e93 : ((lo : Int) == 93) = true := A93.out.trans hz3
       clear hz3
       go_wp2_with fail
       generalize (w3.setCell ⟨B, 1, none⟩ (.int .i64 ((j : Int) + 1))) = w4 at *
       clear h0 h1 h2 h3 h4 h5
       obtain ⟨h0, h1, h2, h3, h4, h5⟩ := P.out
       have s1 : IntKind.i64.wrap ((p : Int) + 1) = (p : Int) + 1 := IntWalk.i64_in _ (by omega)
       have s2 : (0 : Int) ≤ (p : Int) + 1 := by omega
       have s4 : ((p : Int) + 1).toNat = p + 1 := by omega
       have p0 : (0 : Int) ≤ (p : Int) := by omega
       have hlt0 : ¬ (lo : Int) < (lo : Int) := by omega
       by_cases hp3 : p + 1 < s.size
       ·have p1 : (p : Int) + 1 < (s.size : Int) := by omega
        have g2 : decide ((p : Int) + 1 < (s.size : Int)) = true := by simp; omega
        have p2 : (p : Int) < (s.size : Int) := by omega
        have A45 := Lib.hid (atB_in (s := s) (i := p) (c := 45) (by omega))
        have B93 := Lib.hid (atB_in (s := s) (i := p + 1) (c := 93) hp3)
        have RG := Lib.hid (rng_is hp3)
        cases h45 : atB s p 45
        case false =>
         have e45 : ((s[p].toNat : Int) == 45) = false := A45.out.trans h45
         have HRG : Hid (rng s p = false) := Lib.hid (by rw [RG.out, h45]; rfl)
         clear h45 A45 B93 RG
         go_quiet (fail)
         have O := Lib.hid (O.out.drewN nq)
         have P := Lib.hid (P.out.drewN nq)
         have S2 : Hid (Six (w4.drewN nq) _ _ _ _) := Lib.hid S2.out
         have S3 : Hid (Six (w4.drewN nq) _ _ _ _) := Lib.hid S3.out
         generalize w4.drewN nq = w5 at *
         clear h0 h1 h2 h3 h4 h5
         obtain ⟨h0, h1, h2, h3, h4, h5⟩ := P.out
         have P := Lib.hid (P.out.setB false)
         have O := Lib.hid (O.out.set 2 (.bool false))
         have S2 := Lib.hid (S2.out.cell B 2 (by omega) (.bool false))
         have S3 := Lib.hid (S3.out.cell B 2 (by omega) (.bool false))
         obtain ⟨tp, ht1, ht2, ht3⟩ : ∃ tp, lo ≤ tp ∧ lo < tp ∧ (tp = lo + 1 ∨ tp = lo) := ⟨lo + 1, by omega, by omega, Or.inl rfl⟩
         go_wp2_with fail
         clear h0 h1 h2 h3 h4 h5
         go_loopg [7] (tp - lo) (fun gh x wx => ∃ (k : Nat) (st : ByteArray), lo ≤ k ∧ k + gh = tp ∧ x = .int .i64 (k : Int) ∧ st = ⟨(mem fun n => m n || (decide (lo ≤ n) && decide (n < k))).toArray⟩ ∧ Par wx B s (p) false ∧ Six wx (w.heap.size + 1) (.node 2 st false 0 0 []) none 0 ∧ Six wx w.heap.size (PR.leaf 0) none 0 ∧ OnlyB B w wx)
         case atStart => exact ⟨lo, st, Nat.le_refl _, by omega, rfl, by rw [HST.out, mem_congr (mark_start m lo)], P.out, S3.out, S2.out, O.out⟩
         case round =>
          clear P S3 S2 O HST
          obtain ⟨k, st, hlk, hkg, rfl, hst, p', s3, s2, o⟩ := hrel
          have HST := Lib.hid hst
          have P := Lib.hid p'
          have S3 := Lib.hid s3
          have S2 := Lib.hid s2
          have O := Lib.hid o
          clear hst p' s3 s2 o
          cases gk with
          | zero =>
           have hk : k = lo + 1 := by omega
           have hst2 : st = ⟨(mem (span m lo lo)).toArray⟩ := by rw [HST.out, mem_congr (mark_end m lo lo k hk)]
           have HST2 := Lib.hid hst2
           have hnk : ¬ (k : Int) ≤ (lo : Int) := by omega
           clear hk hst2
           go_wp2_with fail
           go_roundg (s.size + 1 - (p))
           case measure => omega
           case rel => exact ⟨p, span m lo lo, false, fu, false, st, rfl, by omega, by omega, Or.inr ⟨rfl, HST2.out, by omega, by rw [← HX.out, HSR.out, HRG.out]; rfl⟩, P.out, S3.out, S2.out, O.out⟩
          | succ gk =>
           have hkh : (k : Int) ≤ (lo : Int) := by omega
           have hk2 : k < 256 := by omega
           have k0 : (0 : Int) ≤ (k : Int) := by omega
           have k1 : (k : Int) < 256 := by omega
           have hst1 : st.size ≤ 1000 := by rw [HST.out]; have := mem_len (fun n => m n || (decide (lo ≤ n) && decide (n < k))); simp [ByteArray.size]; omega
           have HA := Lib.hid (fun W => add_any st (UInt8.ofNat k) (k : Int) (by simp; omega) W hst1)
           obtain ⟨st2, hst2⟩ : ∃ x : ByteArray, x = ⟨(PR.addB (UInt8.ofNat k) st.data.toList).toArray⟩ := ⟨_, rfl⟩
           rw [← hst2] at HA
           have HS2 : Hid (st2 = ⟨(mem fun n => m n || (decide (lo ≤ n) && decide (n < k + 1))).toArray⟩) := Lib.hid (by rw [hst2, HST.out, ← add_mem m lo k hk2 hlk])
           clear hst2 hst1
           obtain ⟨z0, z1, z2, z3, z4, z5, z6⟩ := S3.out.cells
           replace z0 : _ = some (Value.int .i64 2) := z0
           replace z1 : _ = some (Value.string st) := z1
           replace z2 : _ = some (Value.bool false) := z2
           replace z3 : _ = some (Value.int .i64 0) := z3
           replace z4 : _ = some (Value.int .i64 0) := z4
           replace z5 : _ = some (Value.slice none 0 0) := z5
           have z60 := z6 0
           have z61 := z6 1
           have z62 := z6 2
           have z63 := z6 3
           have z64 := z6 4
           have z65 := z6 5
           clear z6
           go_wp2_with fail
           refine (HA.out _).mono ?_
           rintro e w7 ⟨rfl, hb⟩
           clear z0 z60 z1 z61 z2 z62 z3 z63 z4 z64 z5 z65
           have hwO := O.out.size
           have P := Lib.hid (P.out.kept hb)
           have S2 := Lib.hid (S2.out.kept hb)
           have S3 := Lib.hid (S3.out.kept hb)
           have O := Lib.hid (O.out.trans (OnlyB.of_below hb))
           clear hb HA
           obtain ⟨z0, z1, z2, z3, z4, z5, z6⟩ := S3.out.cells
           replace z0 : _ = some (Value.int .i64 2) := z0
           replace z1 : _ = some (Value.string st) := z1
           replace z2 : _ = some (Value.bool false) := z2
           replace z3 : _ = some (Value.int .i64 0) := z3
           replace z4 : _ = some (Value.int .i64 0) := z4
           replace z5 : _ = some (Value.slice none 0 0) := z5
           have z60 := z6 0
           have z61 := z6 1
           have z62 := z6 2
           have z63 := z6 3
           have z64 := z6 4
           have z65 := z6 5
           clear z6
           have P := Lib.hid (P.out.cell (w.heap.size + 1) 1 (by omega) (.string st2))
           have S2 := Lib.hid (S2.out.cell (w.heap.size + 1) 1 (by omega) (.string st2))
           have S3 := Lib.hid (S3.out.setText st2)
           have O := Lib.hid (O.out.cell (w.heap.size + 1) 1 (by omega) (.string st2))
           go_wp2_with fail
           clear z0 z60 z1 z61 z2 z62 z3 z63 z4 z64 z5 z65
           go_roundg gk
           case measure => omega
           case rel => exact ⟨k + 1, st2, by omega, by omega, by go_num, HS2.out, P.out, S3.out, S2.out, O.out⟩
        case true =>
         have e45 : ((s[p].toNat : Int) == 45) = true := A45.out.trans h45
         have RG2 : Hid (rng s p = !atB s (p + 1) 93) := Lib.hid (by rw [RG.out, h45]; rfl)
         clear h45 A45 RG
         cases hz : atB s (p + 1) 93
         case true =>
          have f93 : ((s[p + 1].toNat : Int) == 93) = true := B93.out.trans hz
          have g93 : ((s[p + 1].toNat : Int) != 93) = false := by rw [bne, f93]; rfl
          have HRG : Hid (rng s p = false) := Lib.hid (by rw [RG2.out, hz]; rfl)
          clear hz B93 RG2
          go_quiet (fail)
          have O := Lib.hid (O.out.drewN nq)
          have P := Lib.hid (P.out.drewN nq)
          have S2 : Hid (Six (w4.drewN nq) _ _ _ _) := Lib.hid S2.out
          have S3 : Hid (Six (w4.drewN nq) _ _ _ _) := Lib.hid S3.out
          generalize w4.drewN nq = w5 at *
          clear h0 h1 h2 h3 h4 h5
          obtain ⟨h0, h1, h2, h3, h4, h5⟩ := P.out
          have P := Lib.hid (P.out.setB false)
          have O := Lib.hid (O.out.set 2 (.bool false))
          have S2 := Lib.hid (S2.out.cell B 2 (by omega) (.bool false))
          have S3 := Lib.hid (S3.out.cell B 2 (by omega) (.bool false))
          obtain ⟨tp, ht1, ht2, ht3⟩ : ∃ tp, lo ≤ tp ∧ lo < tp ∧ (tp = lo + 1 ∨ tp = lo) := ⟨lo + 1, by omega, by omega, Or.inl rfl⟩
          go_wp2_with fail
          clear h0 h1 h2 h3 h4 h5
          go_loopg [7] (tp - lo) (fun gh x wx => ∃ (k : Nat) (st : ByteArray), lo ≤ k ∧ k + gh = tp ∧ x = .int .i64 (k : Int) ∧ st = ⟨(mem fun n => m n || (decide (lo ≤ n) && decide (n < k))).toArray⟩ ∧ Par wx B s (p) false ∧ Six wx (w.heap.size + 1) (.node 2 st false 0 0 []) none 0 ∧ Six wx w.heap.size (PR.leaf 0) none 0 ∧ OnlyB B w wx)
          case atStart => exact ⟨lo, st, Nat.le_refl _, by omega, rfl, by rw [HST.out, mem_congr (mark_start m lo)], P.out, S3.out, S2.out, O.out⟩
          case round =>
           clear P S3 S2 O HST
           obtain ⟨k, st, hlk, hkg, rfl, hst, p', s3, s2, o⟩ := hrel
           have HST := Lib.hid hst
           have P := Lib.hid p'
           have S3 := Lib.hid s3
           have S2 := Lib.hid s2
           have O := Lib.hid o
           clear hst p' s3 s2 o
           cases gk with
           | zero =>
            have hk : k = lo + 1 := by omega
            have hst2 : st = ⟨(mem (span m lo lo)).toArray⟩ := by rw [HST.out, mem_congr (mark_end m lo lo k hk)]
            have HST2 := Lib.hid hst2
            have hnk : ¬ (k : Int) ≤ (lo : Int) := by omega
            clear hk hst2
            go_wp2_with fail
            go_roundg (s.size + 1 - (p))
            case measure => omega
            case rel => exact ⟨p, span m lo lo, false, fu, false, st, rfl, by omega, by omega, Or.inr ⟨rfl, HST2.out, by omega, by rw [← HX.out, HSR.out, HRG.out]; rfl⟩, P.out, S3.out, S2.out, O.out⟩
           | succ gk =>
            have hkh : (k : Int) ≤ (lo : Int) := by omega
            have hk2 : k < 256 := by omega
            have k0 : (0 : Int) ≤ (k : Int) := by omega
            have k1 : (k : Int) < 256 := by omega
            have hst1 : st.size ≤ 1000 := by rw [HST.out]; have := mem_len (fun n => m n || (decide (lo ≤ n) && decide (n < k))); simp [ByteArray.size]; omega
            have HA := Lib.hid (fun W => add_any st (UInt8.ofNat k) (k : Int) (by simp; omega) W hst1)
            obtain ⟨st2, hst2⟩ : ∃ x : ByteArray, x = ⟨(PR.addB (UInt8.ofNat k) st.data.toList).toArray⟩ := ⟨_, rfl⟩
            rw [← hst2] at HA
            have HS2 : Hid (st2 = ⟨(mem fun n => m n || (decide (lo ≤ n) && decide (n < k + 1))).toArray⟩) := Lib.hid (by rw [hst2, HST.out, ← add_mem m lo k hk2 hlk])
            clear hst2 hst1
            obtain ⟨z0, z1, z2, z3, z4, z5, z6⟩ := S3.out.cells
            replace z0 : _ = some (Value.int .i64 2) := z0
            replace z1 : _ = some (Value.string st) := z1
            replace z2 : _ = some (Value.bool false) := z2
            replace z3 : _ = some (Value.int .i64 0) := z3
            replace z4 : _ = some (Value.int .i64 0) := z4
            replace z5 : _ = some (Value.slice none 0 0) := z5
            have z60 := z6 0
            have z61 := z6 1
            have z62 := z6 2
            have z63 := z6 3
            have z64 := z6 4
            have z65 := z6 5
            clear z6
            go_wp2_with fail
            refine (HA.out _).mono ?_
            rintro e w7 ⟨rfl, hb⟩
            clear z0 z60 z1 z61 z2 z62 z3 z63 z4 z64 z5 z65
            have hwO := O.out.size
            have P := Lib.hid (P.out.kept hb)
            have S2 := Lib.hid (S2.out.kept hb)
            have S3 := Lib.hid (S3.out.kept hb)
            have O := Lib.hid (O.out.trans (OnlyB.of_below hb))
            clear hb HA
            obtain ⟨z0, z1, z2, z3, z4, z5, z6⟩ := S3.out.cells
            replace z0 : _ = some (Value.int .i64 2) := z0
            replace z1 : _ = some (Value.string st) := z1
            replace z2 : _ = some (Value.bool false) := z2
            replace z3 : _ = some (Value.int .i64 0) := z3
            replace z4 : _ = some (Value.int .i64 0) := z4
            replace z5 : _ = some (Value.slice none 0 0) := z5
            have z60 := z6 0
            have z61 := z6 1
            have z62 := z6 2
            have z63 := z6 3
            have z64 := z6 4
            have z65 := z6 5
            clear z6
            have P := Lib.hid (P.out.cell (w.heap.size + 1) 1 (by omega) (.string st2))
            have S2 := Lib.hid (S2.out.cell (w.heap.size + 1) 1 (by omega) (.string st2))
            have S3 := Lib.hid (S3.out.setText st2)
            have O := Lib.hid (O.out.cell (w.heap.size + 1) 1 (by omega) (.string st2))
            go_wp2_with fail
            clear z0 z60 z1 z61 z2 z62 z3 z63 z4 z64 z5 z65
            go_roundg gk
            case measure => omega
            case rel => exact ⟨k + 1, st2, by omega, by omega, by go_num, HS2.out, P.out, S3.out, S2.out, O.out⟩
         case false =>
          have f93 : ((s[p + 1].toNat : Int) == 93) = false := B93.out.trans hz
          have g93 : ((s[p + 1].toNat : Int) != 93) = true := by rw [bne, f93]; rfl
          have HRG : Hid (rng s p = true) := Lib.hid (by rw [RG2.out, hz]; rfl)
          clear hz B93 RG2
          obtain ⟨hi, hhi⟩ : ∃ hi, hi = (at_ s (p + 1)).toNat := ⟨_, rfl⟩
          have hhi1 : hi < 256 := by rw [hhi]; exact (at_ s (p + 1)).toNat_lt
          have HSR := HSR
          rw [← hhi] at HSR
          have HHI : Hid (s[p + 1].toNat = hi) := Lib.hid (by rw [hhi, at_eq s (p + 1) hp3])
          clear hhi
          go_quiet (fail)
          have O := Lib.hid (O.out.drewN nq)
          have P := Lib.hid (P.out.drewN nq)
          have S2 : Hid (Six (w4.drewN nq) _ _ _ _) := Lib.hid S2.out
          have S3 : Hid (Six (w4.drewN nq) _ _ _ _) := Lib.hid S3.out
          generalize w4.drewN nq = w5 at *
          clear h0 h1 h2 h3 h4 h5
          clear e45 f93 g93 g2
          obtain ⟨h0, h1, h2, h3, h4, h5⟩ := P.out
          go_wp2_with fail
          go_quiet (fail)
          rw [HHI.out]
          have O := Lib.hid (O.out.drewN nq)
          have P := Lib.hid (P.out.drewN nq)
          have S2 : Hid (Six (w5.drewN nq) _ _ _ _) := Lib.hid S2.out
          have S3 : Hid (Six (w5.drewN nq) _ _ _ _) := Lib.hid S3.out
          generalize w5.drewN nq = w6 at *
          clear h0 h1 h2 h3 h4 h5
          clear HHI
          obtain ⟨h0, h1, h2, h3, h4, h5⟩ := P.out
          have P := Lib.hid (P.out.setI (p + 2))
          rw [show ((p + 2 : Nat) : Int) = (p : Int) + 2 by omega] at P
          have O := Lib.hid (O.out.set 1 (.int .i64 ((p : Int) + 2)))
          have S2 := Lib.hid (S2.out.cell B 1 (by omega) (.int .i64 ((p : Int) + 2)))
          have S3 := Lib.hid (S3.out.cell B 1 (by omega) (.int .i64 ((p : Int) + 2)))
          by_cases hlt : hi < lo
          ·have hl1 : (hi : Int) < (lo : Int) := by omega
           have P := Lib.hid (P.out.setB true)
           have O := Lib.hid (O.out.set 2 (.bool true))
           have S2 := Lib.hid (S2.out.cell B 2 (by omega) (.bool true))
           have S3 := Lib.hid (S3.out.cell B 2 (by omega) (.bool true))
           obtain ⟨tp, ht1, ht2, ht3⟩ : ∃ tp, lo ≤ tp ∧ hi < tp ∧ (tp = hi + 1 ∨ tp = lo) := ⟨lo, Nat.le_refl _, hlt, Or.inr rfl⟩
           go_wp2_with fail
           clear h0 h1 h2 h3 h4 h5
           go_loopg [7] (tp - lo) (fun gh x wx => ∃ (k : Nat) (st : ByteArray), lo ≤ k ∧ k + gh = tp ∧ x = .int .i64 (k : Int) ∧ st = ⟨(mem fun n => m n || (decide (lo ≤ n) && decide (n < k))).toArray⟩ ∧ Par wx B s (p + 2) true ∧ Six wx (w.heap.size + 1) (.node 2 st false 0 0 []) none 0 ∧ Six wx w.heap.size (PR.leaf 0) none 0 ∧ OnlyB B w wx)
           case atStart => exact ⟨lo, st, Nat.le_refl _, by omega, rfl, by rw [HST.out, mem_congr (mark_start m lo)], P.out, S3.out, S2.out, O.out⟩
           case round =>
            clear P S3 S2 O HST
            obtain ⟨k, st, hlk, hkg, rfl, hst, p', s3, s2, o⟩ := hrel
            have HST := Lib.hid hst
            have P := Lib.hid p'
            have S3 := Lib.hid s3
            have S2 := Lib.hid s2
            have O := Lib.hid o
            clear hst p' s3 s2 o
            cases gk with
            | zero =>
             have hnk : ¬ (k : Int) ≤ (hi : Int) := by omega
             go_wp2_with fail
             go_roundg (s.size + 1 - (p + 2))
             case measure => omega
             case rel => exact ⟨p + 2, m, false, fu, true, st, rfl, by omega, by omega, Or.inl ⟨rfl, by rw [← HX.out, HSR.out, HRG.out]; simp only [if_true]; rw [if_pos hlt]⟩, P.out, S3.out, S2.out, O.out⟩
            | succ gk => exact absurd hkg (by omega)
          ·have hl1 : ¬ (hi : Int) < (lo : Int) := by omega
           have P := Lib.hid (P.out.setB false)
           have O := Lib.hid (O.out.set 2 (.bool false))
           have S2 := Lib.hid (S2.out.cell B 2 (by omega) (.bool false))
           have S3 := Lib.hid (S3.out.cell B 2 (by omega) (.bool false))
           obtain ⟨tp, ht1, ht2, ht3⟩ : ∃ tp, lo ≤ tp ∧ hi < tp ∧ (tp = hi + 1 ∨ tp = lo) := ⟨hi + 1, by omega, by omega, Or.inl rfl⟩
           go_wp2_with fail
           clear h0 h1 h2 h3 h4 h5
           go_loopg [7] (tp - lo) (fun gh x wx => ∃ (k : Nat) (st : ByteArray), lo ≤ k ∧ k + gh = tp ∧ x = .int .i64 (k : Int) ∧ st = ⟨(mem fun n => m n || (decide (lo ≤ n) && decide (n < k))).toArray⟩ ∧ Par wx B s (p + 2) false ∧ Six wx (w.heap.size + 1) (.node 2 st false 0 0 []) none 0 ∧ Six wx w.heap.size (PR.leaf 0) none 0 ∧ OnlyB B w wx)
           case atStart => exact ⟨lo, st, Nat.le_refl _, by omega, rfl, by rw [HST.out, mem_congr (mark_start m lo)], P.out, S3.out, S2.out, O.out⟩
           case round =>
            clear P S3 S2 O HST
            obtain ⟨k, st, hlk, hkg, rfl, hst, p', s3, s2, o⟩ := hrel
            have HST := Lib.hid hst
            have P := Lib.hid p'
            have S3 := Lib.hid s3
            have S2 := Lib.hid s2
            have O := Lib.hid o
            clear hst p' s3 s2 o
            cases gk with
            | zero =>
             have hk : k = hi + 1 := by omega
             have hst2 : st = ⟨(mem (span m lo hi)).toArray⟩ := by rw [HST.out, mem_congr (mark_end m lo hi k hk)]
             have HST2 := Lib.hid hst2
             have hnk : ¬ (k : Int) ≤ (hi : Int) := by omega
             clear hk hst2
             go_wp2_with fail
             go_roundg (s.size + 1 - (p + 2))
             case measure => omega
             case rel => exact ⟨p + 2, span m lo hi, false, fu, false, st, rfl, by omega, by omega, Or.inr ⟨rfl, HST2.out, by omega, by rw [← HX.out, HSR.out, HRG.out]; simp only [if_true]; rw [if_neg hlt]⟩, P.out, S3.out, S2.out, O.out⟩
            | succ gk =>
             have hkh : (k : Int) ≤ (hi : Int) := by omega
             have hk2 : k < 256 := by omega
             have k0 : (0 : Int) ≤ (k : Int) := by omega
             have k1 : (k : Int) < 256 := by omega
             have hst1 : st.size ≤ 1000 := by rw [HST.out]; have := mem_len (fun n => m n || (decide (lo ≤ n) && decide (n < k))); simp [ByteArray.size]; omega
             have HA := Lib.hid (fun W => add_any st (UInt8.ofNat k) (k : Int) (by simp; omega) W hst1)
             obtain ⟨st2, hst2⟩ : ∃ x : ByteArray, x = ⟨(PR.addB (UInt8.ofNat k) st.data.toList).toArray⟩ := ⟨_, rfl⟩
             rw [← hst2] at HA
             have HS2 : Hid (st2 = ⟨(mem fun n => m n || (decide (lo ≤ n) && decide (n < k + 1))).toArray⟩) := Lib.hid (by rw [hst2, HST.out, ← add_mem m lo k hk2 hlk])
             clear hst2 hst1
             obtain ⟨z0, z1, z2, z3, z4, z5, z6⟩ := S3.out.cells
             replace z0 : _ = some (Value.int .i64 2) := z0
             replace z1 : _ = some (Value.string st) := z1
             replace z2 : _ = some (Value.bool false) := z2
             replace z3 : _ = some (Value.int .i64 0) := z3
             replace z4 : _ = some (Value.int .i64 0) := z4
             replace z5 : _ = some (Value.slice none 0 0) := z5
             have z60 := z6 0
             have z61 := z6 1
             have z62 := z6 2
             have z63 := z6 3
             have z64 := z6 4
             have z65 := z6 5
             clear z6
             go_wp2_with fail
             refine (HA.out _).mono ?_
             rintro e w7 ⟨rfl, hb⟩
             clear z0 z60 z1 z61 z2 z62 z3 z63 z4 z64 z5 z65
             have hwO := O.out.size
             have P := Lib.hid (P.out.kept hb)
             have S2 := Lib.hid (S2.out.kept hb)
             have S3 := Lib.hid (S3.out.kept hb)
             have O := Lib.hid (O.out.trans (OnlyB.of_below hb))
             clear hb HA
             obtain ⟨z0, z1, z2, z3, z4, z5, z6⟩ := S3.out.cells
             replace z0 : _ = some (Value.int .i64 2) := z0
             replace z1 : _ = some (Value.string st) := z1
             replace z2 : _ = some (Value.bool false) := z2
             replace z3 : _ = some (Value.int .i64 0) := z3
             replace z4 : _ = some (Value.int .i64 0) := z4
             replace z5 : _ = some (Value.slice none 0 0) := z5
             have z60 := z6 0
             have z61 := z6 1
             have z62 := z6 2
             have z63 := z6 3
             have z64 := z6 4
             have z65 := z6 5
             clear z6
             have P := Lib.hid (P.out.cell (w.heap.size + 1) 1 (by omega) (.string st2))
             have S2 := Lib.hid (S2.out.cell (w.heap.size + 1) 1 (by omega) (.string st2))
             have S3 := Lib.hid (S3.out.setText st2)
             have O := Lib.hid (O.out.cell (w.heap.size + 1) 1 (by omega) (.string st2))
             go_wp2_with fail
             clear z0 z60 z1 z61 z2 z62 z3 z63 z4 z64 z5 z65
             go_roundg gk
             case measure => omega
             case rel => exact ⟨k + 1, st2, by omega, by omega, by go_num, HS2.out, P.out, S3.out, S2.out, O.out⟩
       ·have g2 : decide ((p : Int) + 1 < (s.size : Int)) = false := by simp; omega
        have HRG : Hid (rng s p = false) := Lib.hid (rng_no hp3)
        go_quiet (fail)
        have O := Lib.hid (O.out.drewN nq)
        have P := Lib.hid (P.out.drewN nq)
        have S2 : Hid (Six (w4.drewN nq) _ _ _ _) := Lib.hid S2.out
        have S3 : Hid (Six (w4.drewN nq) _ _ _ _) := Lib.hid S3.out
        generalize w4.drewN nq = w5 at *
        clear h0 h1 h2 h3 h4 h5
        obtain ⟨h0, h1, h2, h3, h4, h5⟩ := P.out
        have P := Lib.hid (P.out.setB false)
        have O := Lib.hid (O.out.set 2 (.bool false))
        have S2 := Lib.hid (S2.out.cell B 2 (by omega) (.bool false))
        have S3 := Lib.hid (S3.out.cell B 2 (by omega) (.bool false))
        obtain ⟨tp, ht1, ht2, ht3⟩ : ∃ tp, lo ≤ tp ∧ lo < tp ∧ (tp = lo + 1 ∨ tp = lo) := ⟨lo + 1, by omega, by omega, Or.inl rfl⟩
        go_wp2_with fail
        clear h0 h1 h2 h3 h4 h5
        go_loopg [7] (tp - lo) (fun gh x wx => ∃ (k : Nat) (st : ByteArray), lo ≤ k ∧ k + gh = tp ∧ x = .int .i64 (k : Int) ∧ st = ⟨(mem fun n => m n || (decide (lo ≤ n) && decide (n < k))).toArray⟩ ∧ Par wx B s (p) false ∧ Six wx (w.heap.size + 1) (.node 2 st false 0 0 []) none 0 ∧ Six wx w.heap.size (PR.leaf 0) none 0 ∧ OnlyB B w wx)
        case atStart => exact ⟨lo, st, Nat.le_refl _, by omega, rfl, by rw [HST.out, mem_congr (mark_start m lo)], P.out, S3.out, S2.out, O.out⟩
        case round =>
         clear P S3 S2 O HST
         obtain ⟨k, st, hlk, hkg, rfl, hst, p', s3, s2, o⟩ := hrel
         have HST := Lib.hid hst
         have P := Lib.hid p'
         have S3 := Lib.hid s3
         have S2 := Lib.hid s2
         have O := Lib.hid o
         clear hst p' s3 s2 o
         cases gk with
         | zero =>
          have hk : k = lo + 1 := by omega
          have hst2 : st = ⟨(mem (span m lo lo)).toArray⟩ := by rw [HST.out, mem_congr (mark_end m lo lo k hk)]
          have HST2 := Lib.hid hst2
          have hnk : ¬ (k : Int) ≤ (lo : Int) := by omega
          clear hk hst2
          go_wp2_with fail
          go_roundg (s.size + 1 - (p))
          case measure => omega
          case rel => exact ⟨p, span m lo lo, false, fu, false, st, rfl, by omega, by omega, Or.inr ⟨rfl, HST2.out, by omega, by rw [← HX.out, HSR.out, HRG.out]; rfl⟩, P.out, S3.out, S2.out, O.out⟩
         | succ gk =>
          have hkh : (k : Int) ≤ (lo : Int) := by omega
          have hk2 : k < 256 := by omega
          have k0 : (0 : Int) ≤ (k : Int) := by omega
          have k1 : (k : Int) < 256 := by omega
          have hst1 : st.size ≤ 1000 := by rw [HST.out]; have := mem_len (fun n => m n || (decide (lo ≤ n) && decide (n < k))); simp [ByteArray.size]; omega
          have HA := Lib.hid (fun W => add_any st (UInt8.ofNat k) (k : Int) (by simp; omega) W hst1)
          obtain ⟨st2, hst2⟩ : ∃ x : ByteArray, x = ⟨(PR.addB (UInt8.ofNat k) st.data.toList).toArray⟩ := ⟨_, rfl⟩
          rw [← hst2] at HA
          have HS2 : Hid (st2 = ⟨(mem fun n => m n || (decide (lo ≤ n) && decide (n < k + 1))).toArray⟩) := Lib.hid (by rw [hst2, HST.out, ← add_mem m lo k hk2 hlk])
          clear hst2 hst1
          obtain ⟨z0, z1, z2, z3, z4, z5, z6⟩ := S3.out.cells
          replace z0 : _ = some (Value.int .i64 2) := z0
          replace z1 : _ = some (Value.string st) := z1
          replace z2 : _ = some (Value.bool false) := z2
          replace z3 : _ = some (Value.int .i64 0) := z3
          replace z4 : _ = some (Value.int .i64 0) := z4
          replace z5 : _ = some (Value.slice none 0 0) := z5
          have z60 := z6 0
          have z61 := z6 1
          have z62 := z6 2
          have z63 := z6 3
          have z64 := z6 4
          have z65 := z6 5
          clear z6
          go_wp2_with fail
          refine (HA.out _).mono ?_
          rintro e w7 ⟨rfl, hb⟩
          clear z0 z60 z1 z61 z2 z62 z3 z63 z4 z64 z5 z65
          have hwO := O.out.size
          have P := Lib.hid (P.out.kept hb)
          have S2 := Lib.hid (S2.out.kept hb)
          have S3 := Lib.hid (S3.out.kept hb)
          have O := Lib.hid (O.out.trans (OnlyB.of_below hb))
          clear hb HA
          obtain ⟨z0, z1, z2, z3, z4, z5, z6⟩ := S3.out.cells
          replace z0 : _ = some (Value.int .i64 2) := z0
          replace z1 : _ = some (Value.string st) := z1
          replace z2 : _ = some (Value.bool false) := z2
          replace z3 : _ = some (Value.int .i64 0) := z3
          replace z4 : _ = some (Value.int .i64 0) := z4
          replace z5 : _ = some (Value.slice none 0 0) := z5
          have z60 := z6 0
          have z61 := z6 1
          have z62 := z6 2
          have z63 := z6 3
          have z64 := z6 4
          have z65 := z6 5
          clear z6
          have P := Lib.hid (P.out.cell (w.heap.size + 1) 1 (by omega) (.string st2))
          have S2 := Lib.hid (S2.out.cell (w.heap.size + 1) 1 (by omega) (.string st2))
          have S3 := Lib.hid (S3.out.setText st2)
          have O := Lib.hid (O.out.cell (w.heap.size + 1) 1 (by omega) (.string st2))
          go_wp2_with fail
          clear z0 z60 z1 z61 z2 z62 z3 z63 z4 z64 z5 z65
          go_roundg gk
          case measure => omega
          case rel => exact ⟨k + 1, st2, by omega, by omega, by go_num, HS2.out, P.out, S3.out, S2.out, O.out⟩
      ·have e93 : ((lo : Int) == 93) = false := A93.out.trans hz3
       clear hz3
       go_wp2_with fail
       generalize (w3.setCell ⟨B, 1, none⟩ (.int .i64 ((j : Int) + 1))) = w4 at *
       clear h0 h1 h2 h3 h4 h5
       obtain ⟨h0, h1, h2, h3, h4, h5⟩ := P.out
       have s1 : IntKind.i64.wrap ((p : Int) + 1) = (p : Int) + 1 := IntWalk.i64_in _ (by omega)
       have s2 : (0 : Int) ≤ (p : Int) + 1 := by omega
       have s4 : ((p : Int) + 1).toNat = p + 1 := by omega
       have p0 : (0 : Int) ≤ (p : Int) := by omega
       have hlt0 : ¬ (lo : Int) < (lo : Int) := by omega
       by_cases hp3 : p + 1 < s.size
       ·have p1 : (p : Int) + 1 < (s.size : Int) := by omega
        have g2 : decide ((p : Int) + 1 < (s.size : Int)) = true := by simp; omega
        have p2 : (p : Int) < (s.size : Int) := by omega
        have A45 := Lib.hid (atB_in (s := s) (i := p) (c := 45) (by omega))
        have B93 := Lib.hid (atB_in (s := s) (i := p + 1) (c := 93) hp3)
        have RG := Lib.hid (rng_is hp3)
        cases h45 : atB s p 45
        case false =>
         have e45 : ((s[p].toNat : Int) == 45) = false := A45.out.trans h45
         have HRG : Hid (rng s p = false) := Lib.hid (by rw [RG.out, h45]; rfl)
         clear h45 A45 B93 RG
         go_quiet (fail)
         have O := Lib.hid (O.out.drewN nq)
         have P := Lib.hid (P.out.drewN nq)
         have S2 : Hid (Six (w4.drewN nq) _ _ _ _) := Lib.hid S2.out
         have S3 : Hid (Six (w4.drewN nq) _ _ _ _) := Lib.hid S3.out
         generalize w4.drewN nq = w5 at *
         clear h0 h1 h2 h3 h4 h5
         obtain ⟨h0, h1, h2, h3, h4, h5⟩ := P.out
         have P := Lib.hid (P.out.setB false)
         have O := Lib.hid (O.out.set 2 (.bool false))
         have S2 := Lib.hid (S2.out.cell B 2 (by omega) (.bool false))
         have S3 := Lib.hid (S3.out.cell B 2 (by omega) (.bool false))
         obtain ⟨tp, ht1, ht2, ht3⟩ : ∃ tp, lo ≤ tp ∧ lo < tp ∧ (tp = lo + 1 ∨ tp = lo) := ⟨lo + 1, by omega, by omega, Or.inl rfl⟩
         go_wp2_with fail
         clear h0 h1 h2 h3 h4 h5
         go_loopg [7] (tp - lo) (fun gh x wx => ∃ (k : Nat) (st : ByteArray), lo ≤ k ∧ k + gh = tp ∧ x = .int .i64 (k : Int) ∧ st = ⟨(mem fun n => m n || (decide (lo ≤ n) && decide (n < k))).toArray⟩ ∧ Par wx B s (p) false ∧ Six wx (w.heap.size + 1) (.node 2 st false 0 0 []) none 0 ∧ Six wx w.heap.size (PR.leaf 0) none 0 ∧ OnlyB B w wx)
         case atStart => exact ⟨lo, st, Nat.le_refl _, by omega, rfl, by rw [HST.out, mem_congr (mark_start m lo)], P.out, S3.out, S2.out, O.out⟩
         case round =>
          clear P S3 S2 O HST
          obtain ⟨k, st, hlk, hkg, rfl, hst, p', s3, s2, o⟩ := hrel
          have HST := Lib.hid hst
          have P := Lib.hid p'
          have S3 := Lib.hid s3
          have S2 := Lib.hid s2
          have O := Lib.hid o
          clear hst p' s3 s2 o
          cases gk with
          | zero =>
           have hk : k = lo + 1 := by omega
           have hst2 : st = ⟨(mem (span m lo lo)).toArray⟩ := by rw [HST.out, mem_congr (mark_end m lo lo k hk)]
           have HST2 := Lib.hid hst2
           have hnk : ¬ (k : Int) ≤ (lo : Int) := by omega
           clear hk hst2
           go_wp2_with fail
           go_roundg (s.size + 1 - (p))
           case measure => omega
           case rel => exact ⟨p, span m lo lo, false, fu, false, st, rfl, by omega, by omega, Or.inr ⟨rfl, HST2.out, by omega, by rw [← HX.out, HSR.out, HRG.out]; rfl⟩, P.out, S3.out, S2.out, O.out⟩
          | succ gk =>
           have hkh : (k : Int) ≤ (lo : Int) := by omega
           have hk2 : k < 256 := by omega
           have k0 : (0 : Int) ≤ (k : Int) := by omega
           have k1 : (k : Int) < 256 := by omega
           have hst1 : st.size ≤ 1000 := by rw [HST.out]; have := mem_len (fun n => m n || (decide (lo ≤ n) && decide (n < k))); simp [ByteArray.size]; omega
           have HA := Lib.hid (fun W => add_any st (UInt8.ofNat k) (k : Int) (by simp; omega) W hst1)
           obtain ⟨st2, hst2⟩ : ∃ x : ByteArray, x = ⟨(PR.addB (UInt8.ofNat k) st.data.toList).toArray⟩ := ⟨_, rfl⟩
           rw [← hst2] at HA
           have HS2 : Hid (st2 = ⟨(mem fun n => m n || (decide (lo ≤ n) && decide (n < k + 1))).toArray⟩) := Lib.hid (by rw [hst2, HST.out, ← add_mem m lo k hk2 hlk])
           clear hst2 hst1
           obtain ⟨z0, z1, z2, z3, z4, z5, z6⟩ := S3.out.cells
           replace z0 : _ = some (Value.int .i64 2) := z0
           replace z1 : _ = some (Value.string st) := z1
           replace z2 : _ = some (Value.bool false) := z2
           replace z3 : _ = some (Value.int .i64 0) := z3
           replace z4 : _ = some (Value.int .i64 0) := z4
           replace z5 : _ = some (Value.slice none 0 0) := z5
           have z60 := z6 0
           have z61 := z6 1
           have z62 := z6 2
           have z63 := z6 3
           have z64 := z6 4
           have z65 := z6 5
           clear z6
           go_wp2_with fail
           refine (HA.out _).mono ?_
           rintro e w7 ⟨rfl, hb⟩
           clear z0 z60 z1 z61 z2 z62 z3 z63 z4 z64 z5 z65
           have hwO := O.out.size
           have P := Lib.hid (P.out.kept hb)
           have S2 := Lib.hid (S2.out.kept hb)
           have S3 := Lib.hid (S3.out.kept hb)
           have O := Lib.hid (O.out.trans (OnlyB.of_below hb))
           clear hb HA
           obtain ⟨z0, z1, z2, z3, z4, z5, z6⟩ := S3.out.cells
           replace z0 : _ = some (Value.int .i64 2) := z0
           replace z1 : _ = some (Value.string st) := z1
           replace z2 : _ = some (Value.bool false) := z2
           replace z3 : _ = some (Value.int .i64 0) := z3
           replace z4 : _ = some (Value.int .i64 0) := z4
           replace z5 : _ = some (Value.slice none 0 0) := z5
           have z60 := z6 0
           have z61 := z6 1
           have z62 := z6 2
           have z63 := z6 3
           have z64 := z6 4
           have z65 := z6 5
           clear z6
           have P := Lib.hid (P.out.cell (w.heap.size + 1) 1 (by omega) (.string st2))
           have S2 := Lib.hid (S2.out.cell (w.heap.size + 1) 1 (by omega) (.string st2))
           have S3 := Lib.hid (S3.out.setText st2)
           have O := Lib.hid (O.out.cell (w.heap.size + 1) 1 (by omega) (.string st2))
           go_wp2_with fail
           clear z0 z60 z1 z61 z2 z62 z3 z63 z4 z64 z5 z65
           go_roundg gk
           case measure => omega
           case rel => exact ⟨k + 1, st2, by omega, by omega, by go_num, HS2.out, P.out, S3.out, S2.out, O.out⟩
        case true =>
         have e45 : ((s[p].toNat : Int) == 45) = true := A45.out.trans h45
         have RG2 : Hid (rng s p = !atB s (p + 1) 93) := Lib.hid (by rw [RG.out, h45]; rfl)
         clear h45 A45 RG
         cases hz : atB s (p + 1) 93
         case true =>
          have f93 : ((s[p + 1].toNat : Int) == 93) = true := B93.out.trans hz
          have g93 : ((s[p + 1].toNat : Int) != 93) = false := by rw [bne, f93]; rfl
          have HRG : Hid (rng s p = false) := Lib.hid (by rw [RG2.out, hz]; rfl)
          clear hz B93 RG2
          go_quiet (fail)
          have O := Lib.hid (O.out.drewN nq)
          have P := Lib.hid (P.out.drewN nq)
          have S2 : Hid (Six (w4.drewN nq) _ _ _ _) := Lib.hid S2.out
          have S3 : Hid (Six (w4.drewN nq) _ _ _ _) := Lib.hid S3.out
          generalize w4.drewN nq = w5 at *
          clear h0 h1 h2 h3 h4 h5
          obtain ⟨h0, h1, h2, h3, h4, h5⟩ := P.out
          have P := Lib.hid (P.out.setB false)
          have O := Lib.hid (O.out.set 2 (.bool false))
          have S2 := Lib.hid (S2.out.cell B 2 (by omega) (.bool false))
          have S3 := Lib.hid (S3.out.cell B 2 (by omega) (.bool false))
          obtain ⟨tp, ht1, ht2, ht3⟩ : ∃ tp, lo ≤ tp ∧ lo < tp ∧ (tp = lo + 1 ∨ tp = lo) := ⟨lo + 1, by omega, by omega, Or.inl rfl⟩
          go_wp2_with fail
          clear h0 h1 h2 h3 h4 h5
          go_loopg [7] (tp - lo) (fun gh x wx => ∃ (k : Nat) (st : ByteArray), lo ≤ k ∧ k + gh = tp ∧ x = .int .i64 (k : Int) ∧ st = ⟨(mem fun n => m n || (decide (lo ≤ n) && decide (n < k))).toArray⟩ ∧ Par wx B s (p) false ∧ Six wx (w.heap.size + 1) (.node 2 st false 0 0 []) none 0 ∧ Six wx w.heap.size (PR.leaf 0) none 0 ∧ OnlyB B w wx)
          case atStart => exact ⟨lo, st, Nat.le_refl _, by omega, rfl, by rw [HST.out, mem_congr (mark_start m lo)], P.out, S3.out, S2.out, O.out⟩
          case round =>
           clear P S3 S2 O HST
           obtain ⟨k, st, hlk, hkg, rfl, hst, p', s3, s2, o⟩ := hrel
           have HST := Lib.hid hst
           have P := Lib.hid p'
           have S3 := Lib.hid s3
           have S2 := Lib.hid s2
           have O := Lib.hid o
           clear hst p' s3 s2 o
           cases gk with
           | zero =>
            have hk : k = lo + 1 := by omega
            have hst2 : st = ⟨(mem (span m lo lo)).toArray⟩ := by rw [HST.out, mem_congr (mark_end m lo lo k hk)]
            have HST2 := Lib.hid hst2
            have hnk : ¬ (k : Int) ≤ (lo : Int) := by omega
            clear hk hst2
            go_wp2_with fail
            go_roundg (s.size + 1 - (p))
            case measure => omega
            case rel => exact ⟨p, span m lo lo, false, fu, false, st, rfl, by omega, by omega, Or.inr ⟨rfl, HST2.out, by omega, by rw [← HX.out, HSR.out, HRG.out]; rfl⟩, P.out, S3.out, S2.out, O.out⟩
           | succ gk =>
            have hkh : (k : Int) ≤ (lo : Int) := by omega
            have hk2 : k < 256 := by omega
            have k0 : (0 : Int) ≤ (k : Int) := by omega
            have k1 : (k : Int) < 256 := by omega
            have hst1 : st.size ≤ 1000 := by rw [HST.out]; have := mem_len (fun n => m n || (decide (lo ≤ n) && decide (n < k))); simp [ByteArray.size]; omega
            have HA := Lib.hid (fun W => add_any st (UInt8.ofNat k) (k : Int) (by simp; omega) W hst1)
            obtain ⟨st2, hst2⟩ : ∃ x : ByteArray, x = ⟨(PR.addB (UInt8.ofNat k) st.data.toList).toArray⟩ := ⟨_, rfl⟩
            rw [← hst2] at HA
            have HS2 : Hid (st2 = ⟨(mem fun n => m n || (decide (lo ≤ n) && decide (n < k + 1))).toArray⟩) := Lib.hid (by rw [hst2, HST.out, ← add_mem m lo k hk2 hlk])
            clear hst2 hst1
            obtain ⟨z0, z1, z2, z3, z4, z5, z6⟩ := S3.out.cells
            replace z0 : _ = some (Value.int .i64 2) := z0
            replace z1 : _ = some (Value.string st) := z1
            replace z2 : _ = some (Value.bool false) := z2
            replace z3 : _ = some (Value.int .i64 0) := z3
            replace z4 : _ = some (Value.int .i64 0) := z4
            replace z5 : _ = some (Value.slice none 0 0) := z5
            have z60 := z6 0
            have z61 := z6 1
            have z62 := z6 2
            have z63 := z6 3
            have z64 := z6 4
            have z65 := z6 5
            clear z6
            go_wp2_with fail
            refine (HA.out _).mono ?_
            rintro e w7 ⟨rfl, hb⟩
            clear z0 z60 z1 z61 z2 z62 z3 z63 z4 z64 z5 z65
            have hwO := O.out.size
            have P := Lib.hid (P.out.kept hb)
            have S2 := Lib.hid (S2.out.kept hb)
            have S3 := Lib.hid (S3.out.kept hb)
            have O := Lib.hid (O.out.trans (OnlyB.of_below hb))
            clear hb HA
            obtain ⟨z0, z1, z2, z3, z4, z5, z6⟩ := S3.out.cells
            replace z0 : _ = some (Value.int .i64 2) := z0
            replace z1 : _ = some (Value.string st) := z1
            replace z2 : _ = some (Value.bool false) := z2
            replace z3 : _ = some (Value.int .i64 0) := z3
            replace z4 : _ = some (Value.int .i64 0) := z4
            replace z5 : _ = some (Value.slice none 0 0) := z5
            have z60 := z6 0
            have z61 := z6 1
            have z62 := z6 2
            have z63 := z6 3
            have z64 := z6 4
            have z65 := z6 5
            clear z6
            have P := Lib.hid (P.out.cell (w.heap.size + 1) 1 (by omega) (.string st2))
            have S2 := Lib.hid (S2.out.cell (w.heap.size + 1) 1 (by omega) (.string st2))
            have S3 := Lib.hid (S3.out.setText st2)
            have O := Lib.hid (O.out.cell (w.heap.size + 1) 1 (by omega) (.string st2))
            go_wp2_with fail
            clear z0 z60 z1 z61 z2 z62 z3 z63 z4 z64 z5 z65
            go_roundg gk
            case measure => omega
            case rel => exact ⟨k + 1, st2, by omega, by omega, by go_num, HS2.out, P.out, S3.out, S2.out, O.out⟩
         case false =>
          have f93 : ((s[p + 1].toNat : Int) == 93) = false := B93.out.trans hz
          have g93 : ((s[p + 1].toNat : Int) != 93) = true := by rw [bne, f93]; rfl
          have HRG : Hid (rng s p = true) := Lib.hid (by rw [RG2.out, hz]; rfl)
          clear hz B93 RG2
          obtain ⟨hi, hhi⟩ : ∃ hi, hi = (at_ s (p + 1)).toNat := ⟨_, rfl⟩
          have hhi1 : hi < 256 := by rw [hhi]; exact (at_ s (p + 1)).toNat_lt
          have HSR := HSR
          rw [← hhi] at HSR
          have HHI : Hid (s[p + 1].toNat = hi) := Lib.hid (by rw [hhi, at_eq s (p + 1) hp3])
          clear hhi
          go_quiet (fail)
          have O := Lib.hid (O.out.drewN nq)
          have P := Lib.hid (P.out.drewN nq)
          have S2 : Hid (Six (w4.drewN nq) _ _ _ _) := Lib.hid S2.out
          have S3 : Hid (Six (w4.drewN nq) _ _ _ _) := Lib.hid S3.out
          generalize w4.drewN nq = w5 at *
          clear h0 h1 h2 h3 h4 h5
          clear e45 f93 g93 g2
          obtain ⟨h0, h1, h2, h3, h4, h5⟩ := P.out
          go_wp2_with fail
          go_quiet (fail)
          rw [HHI.out]
          have O := Lib.hid (O.out.drewN nq)
          have P := Lib.hid (P.out.drewN nq)
          have S2 : Hid (Six (w5.drewN nq) _ _ _ _) := Lib.hid S2.out
          have S3 : Hid (Six (w5.drewN nq) _ _ _ _) := Lib.hid S3.out
          generalize w5.drewN nq = w6 at *
          clear h0 h1 h2 h3 h4 h5
          clear HHI
          obtain ⟨h0, h1, h2, h3, h4, h5⟩ := P.out
          have P := Lib.hid (P.out.setI (p + 2))
          rw [show ((p + 2 : Nat) : Int) = (p : Int) + 2 by omega] at P
          have O := Lib.hid (O.out.set 1 (.int .i64 ((p : Int) + 2)))
          have S2 := Lib.hid (S2.out.cell B 1 (by omega) (.int .i64 ((p : Int) + 2)))
          have S3 := Lib.hid (S3.out.cell B 1 (by omega) (.int .i64 ((p : Int) + 2)))
          by_cases hlt : hi < lo
          ·have hl1 : (hi : Int) < (lo : Int) := by omega
           have P := Lib.hid (P.out.setB true)
           have O := Lib.hid (O.out.set 2 (.bool true))
           have S2 := Lib.hid (S2.out.cell B 2 (by omega) (.bool true))
           have S3 := Lib.hid (S3.out.cell B 2 (by omega) (.bool true))
           obtain ⟨tp, ht1, ht2, ht3⟩ : ∃ tp, lo ≤ tp ∧ hi < tp ∧ (tp = hi + 1 ∨ tp = lo) := ⟨lo, Nat.le_refl _, hlt, Or.inr rfl⟩
           go_wp2_with fail
           clear h0 h1 h2 h3 h4 h5
           go_loopg [7] (tp - lo) (fun gh x wx => ∃ (k : Nat) (st : ByteArray), lo ≤ k ∧ k + gh = tp ∧ x = .int .i64 (k : Int) ∧ st = ⟨(mem fun n => m n || (decide (lo ≤ n) && decide (n < k))).toArray⟩ ∧ Par wx B s (p + 2) true ∧ Six wx (w.heap.size + 1) (.node 2 st false 0 0 []) none 0 ∧ Six wx w.heap.size (PR.leaf 0) none 0 ∧ OnlyB B w wx)
           case atStart => exact ⟨lo, st, Nat.le_refl _, by omega, rfl, by rw [HST.out, mem_congr (mark_start m lo)], P.out, S3.out, S2.out, O.out⟩
           case round =>
            clear P S3 S2 O HST
            obtain ⟨k, st, hlk, hkg, rfl, hst, p', s3, s2, o⟩ := hrel
            have HST := Lib.hid hst
            have P := Lib.hid p'
            have S3 := Lib.hid s3
            have S2 := Lib.hid s2
            have O := Lib.hid o
            clear hst p' s3 s2 o
            cases gk with
            | zero =>
             have hnk : ¬ (k : Int) ≤ (hi : Int) := by omega
             go_wp2_with fail
             go_roundg (s.size + 1 - (p + 2))
             case measure => omega
             case rel => exact ⟨p + 2, m, false, fu, true, st, rfl, by omega, by omega, Or.inl ⟨rfl, by rw [← HX.out, HSR.out, HRG.out]; simp only [if_true]; rw [if_pos hlt]⟩, P.out, S3.out, S2.out, O.out⟩
            | succ gk => exact absurd hkg (by omega)
          ·have hl1 : ¬ (hi : Int) < (lo : Int) := by omega
           have P := Lib.hid (P.out.setB false)
           have O := Lib.hid (O.out.set 2 (.bool false))
           have S2 := Lib.hid (S2.out.cell B 2 (by omega) (.bool false))
           have S3 := Lib.hid (S3.out.cell B 2 (by omega) (.bool false))
           obtain ⟨tp, ht1, ht2, ht3⟩ : ∃ tp, lo ≤ tp ∧ hi < tp ∧ (tp = hi + 1 ∨ tp = lo) := ⟨hi + 1, by omega, by omega, Or.inl rfl⟩
           go_wp2_with fail
           clear h0 h1 h2 h3 h4 h5
           go_loopg [7] (tp - lo) (fun gh x wx => ∃ (k : Nat) (st : ByteArray), lo ≤ k ∧ k + gh = tp ∧ x = .int .i64 (k : Int) ∧ st = ⟨(mem fun n => m n || (decide (lo ≤ n) && decide (n < k))).toArray⟩ ∧ Par wx B s (p + 2) false ∧ Six wx (w.heap.size + 1) (.node 2 st false 0 0 []) none 0 ∧ Six wx w.heap.size (PR.leaf 0) none 0 ∧ OnlyB B w wx)
           case atStart => exact ⟨lo, st, Nat.le_refl _, by omega, rfl, by rw [HST.out, mem_congr (mark_start m lo)], P.out, S3.out, S2.out, O.out⟩
           case round =>
            clear P S3 S2 O HST
            obtain ⟨k, st, hlk, hkg, rfl, hst, p', s3, s2, o⟩ := hrel
            have HST := Lib.hid hst
            have P := Lib.hid p'
            have S3 := Lib.hid s3
            have S2 := Lib.hid s2
            have O := Lib.hid o
            clear hst p' s3 s2 o
            cases gk with
            | zero =>
             have hk : k = hi + 1 := by omega
             have hst2 : st = ⟨(mem (span m lo hi)).toArray⟩ := by rw [HST.out, mem_congr (mark_end m lo hi k hk)]
             have HST2 := Lib.hid hst2
             have hnk : ¬ (k : Int) ≤ (hi : Int) := by omega
             clear hk hst2
             go_wp2_with fail
             go_roundg (s.size + 1 - (p + 2))
             case measure => omega
             case rel => exact ⟨p + 2, span m lo hi, false, fu, false, st, rfl, by omega, by omega, Or.inr ⟨rfl, HST2.out, by omega, by rw [← HX.out, HSR.out, HRG.out]; simp only [if_true]; rw [if_neg hlt]⟩, P.out, S3.out, S2.out, O.out⟩
            | succ gk =>
             have hkh : (k : Int) ≤ (hi : Int) := by omega
             have hk2 : k < 256 := by omega
             have k0 : (0 : Int) ≤ (k : Int) := by omega
             have k1 : (k : Int) < 256 := by omega
             have hst1 : st.size ≤ 1000 := by rw [HST.out]; have := mem_len (fun n => m n || (decide (lo ≤ n) && decide (n < k))); simp [ByteArray.size]; omega
             have HA := Lib.hid (fun W => add_any st (UInt8.ofNat k) (k : Int) (by simp; omega) W hst1)
             obtain ⟨st2, hst2⟩ : ∃ x : ByteArray, x = ⟨(PR.addB (UInt8.ofNat k) st.data.toList).toArray⟩ := ⟨_, rfl⟩
             rw [← hst2] at HA
             have HS2 : Hid (st2 = ⟨(mem fun n => m n || (decide (lo ≤ n) && decide (n < k + 1))).toArray⟩) := Lib.hid (by rw [hst2, HST.out, ← add_mem m lo k hk2 hlk])
             clear hst2 hst1
             obtain ⟨z0, z1, z2, z3, z4, z5, z6⟩ := S3.out.cells
             replace z0 : _ = some (Value.int .i64 2) := z0
             replace z1 : _ = some (Value.string st) := z1
             replace z2 : _ = some (Value.bool false) := z2
             replace z3 : _ = some (Value.int .i64 0) := z3
             replace z4 : _ = some (Value.int .i64 0) := z4
             replace z5 : _ = some (Value.slice none 0 0) := z5
             have z60 := z6 0
             have z61 := z6 1
             have z62 := z6 2
             have z63 := z6 3
             have z64 := z6 4
             have z65 := z6 5
             clear z6
             go_wp2_with fail
             refine (HA.out _).mono ?_
             rintro e w7 ⟨rfl, hb⟩
             clear z0 z60 z1 z61 z2 z62 z3 z63 z4 z64 z5 z65
             have hwO := O.out.size
             have P := Lib.hid (P.out.kept hb)
             have S2 := Lib.hid (S2.out.kept hb)
             have S3 := Lib.hid (S3.out.kept hb)
             have O := Lib.hid (O.out.trans (OnlyB.of_below hb))
             clear hb HA
             obtain ⟨z0, z1, z2, z3, z4, z5, z6⟩ := S3.out.cells
             replace z0 : _ = some (Value.int .i64 2) := z0
             replace z1 : _ = some (Value.string st) := z1
             replace z2 : _ = some (Value.bool false) := z2
             replace z3 : _ = some (Value.int .i64 0) := z3
             replace z4 : _ = some (Value.int .i64 0) := z4
             replace z5 : _ = some (Value.slice none 0 0) := z5
             have z60 := z6 0
             have z61 := z6 1
             have z62 := z6 2
             have z63 := z6 3
             have z64 := z6 4
             have z65 := z6 5
             clear z6
             have P := Lib.hid (P.out.cell (w.heap.size + 1) 1 (by omega) (.string st2))
             have S2 := Lib.hid (S2.out.cell (w.heap.size + 1) 1 (by omega) (.string st2))
             have S3 := Lib.hid (S3.out.setText st2)
             have O := Lib.hid (O.out.cell (w.heap.size + 1) 1 (by omega) (.string st2))
             go_wp2_with fail
             clear z0 z60 z1 z61 z2 z62 z3 z63 z4 z64 z5 z65
             go_roundg gk
             case measure => omega
             case rel => exact ⟨k + 1, st2, by omega, by omega, by go_num, HS2.out, P.out, S3.out, S2.out, O.out⟩
       ·have g2 : decide ((p : Int) + 1 < (s.size : Int)) = false := by simp; omega
        have HRG : Hid (rng s p = false) := Lib.hid (rng_no hp3)
        go_quiet (fail)
        have O := Lib.hid (O.out.drewN nq)
        have P := Lib.hid (P.out.drewN nq)
        have S2 : Hid (Six (w4.drewN nq) _ _ _ _) := Lib.hid S2.out
        have S3 : Hid (Six (w4.drewN nq) _ _ _ _) := Lib.hid S3.out
        generalize w4.drewN nq = w5 at *
        clear h0 h1 h2 h3 h4 h5
        obtain ⟨h0, h1, h2, h3, h4, h5⟩ := P.out
        have P := Lib.hid (P.out.setB false)
        have O := Lib.hid (O.out.set 2 (.bool false))
        have S2 := Lib.hid (S2.out.cell B 2 (by omega) (.bool false))
        have S3 := Lib.hid (S3.out.cell B 2 (by omega) (.bool false))
        obtain ⟨tp, ht1, ht2, ht3⟩ : ∃ tp, lo ≤ tp ∧ lo < tp ∧ (tp = lo + 1 ∨ tp = lo) := ⟨lo + 1, by omega, by omega, Or.inl rfl⟩
        go_wp2_with fail
        clear h0 h1 h2 h3 h4 h5
        go_loopg [7] (tp - lo) (fun gh x wx => ∃ (k : Nat) (st : ByteArray), lo ≤ k ∧ k + gh = tp ∧ x = .int .i64 (k : Int) ∧ st = ⟨(mem fun n => m n || (decide (lo ≤ n) && decide (n < k))).toArray⟩ ∧ Par wx B s (p) false ∧ Six wx (w.heap.size + 1) (.node 2 st false 0 0 []) none 0 ∧ Six wx w.heap.size (PR.leaf 0) none 0 ∧ OnlyB B w wx)
        case atStart => exact ⟨lo, st, Nat.le_refl _, by omega, rfl, by rw [HST.out, mem_congr (mark_start m lo)], P.out, S3.out, S2.out, O.out⟩
        case round =>
         clear P S3 S2 O HST
         obtain ⟨k, st, hlk, hkg, rfl, hst, p', s3, s2, o⟩ := hrel
         have HST := Lib.hid hst
         have P := Lib.hid p'
         have S3 := Lib.hid s3
         have S2 := Lib.hid s2
         have O := Lib.hid o
         clear hst p' s3 s2 o
         cases gk with
         | zero =>
          have hk : k = lo + 1 := by omega
          have hst2 : st = ⟨(mem (span m lo lo)).toArray⟩ := by rw [HST.out, mem_congr (mark_end m lo lo k hk)]
          have HST2 := Lib.hid hst2
          have hnk : ¬ (k : Int) ≤ (lo : Int) := by omega
          clear hk hst2
          go_wp2_with fail
          go_roundg (s.size + 1 - (p))
          case measure => omega
          case rel => exact ⟨p, span m lo lo, false, fu, false, st, rfl, by omega, by omega, Or.inr ⟨rfl, HST2.out, by omega, by rw [← HX.out, HSR.out, HRG.out]; rfl⟩, P.out, S3.out, S2.out, O.out⟩
         | succ gk =>
          have hkh : (k : Int) ≤ (lo : Int) := by omega
          have hk2 : k < 256 := by omega
          have k0 : (0 : Int) ≤ (k : Int) := by omega
          have k1 : (k : Int) < 256 := by omega
          have hst1 : st.size ≤ 1000 := by rw [HST.out]; have := mem_len (fun n => m n || (decide (lo ≤ n) && decide (n < k))); simp [ByteArray.size]; omega
          have HA := Lib.hid (fun W => add_any st (UInt8.ofNat k) (k : Int) (by simp; omega) W hst1)
          obtain ⟨st2, hst2⟩ : ∃ x : ByteArray, x = ⟨(PR.addB (UInt8.ofNat k) st.data.toList).toArray⟩ := ⟨_, rfl⟩
          rw [← hst2] at HA
          have HS2 : Hid (st2 = ⟨(mem fun n => m n || (decide (lo ≤ n) && decide (n < k + 1))).toArray⟩) := Lib.hid (by rw [hst2, HST.out, ← add_mem m lo k hk2 hlk])
          clear hst2 hst1
          obtain ⟨z0, z1, z2, z3, z4, z5, z6⟩ := S3.out.cells
          replace z0 : _ = some (Value.int .i64 2) := z0
          replace z1 : _ = some (Value.string st) := z1
          replace z2 : _ = some (Value.bool false) := z2
          replace z3 : _ = some (Value.int .i64 0) := z3
          replace z4 : _ = some (Value.int .i64 0) := z4
          replace z5 : _ = some (Value.slice none 0 0) := z5
          have z60 := z6 0
          have z61 := z6 1
          have z62 := z6 2
          have z63 := z6 3
          have z64 := z6 4
          have z65 := z6 5
          clear z6
          go_wp2_with fail
          refine (HA.out _).mono ?_
          rintro e w7 ⟨rfl, hb⟩
          clear z0 z60 z1 z61 z2 z62 z3 z63 z4 z64 z5 z65
          have hwO := O.out.size
          have P := Lib.hid (P.out.kept hb)
          have S2 := Lib.hid (S2.out.kept hb)
          have S3 := Lib.hid (S3.out.kept hb)
          have O := Lib.hid (O.out.trans (OnlyB.of_below hb))
          clear hb HA
          obtain ⟨z0, z1, z2, z3, z4, z5, z6⟩ := S3.out.cells
          replace z0 : _ = some (Value.int .i64 2) := z0
          replace z1 : _ = some (Value.string st) := z1
          replace z2 : _ = some (Value.bool false) := z2
          replace z3 : _ = some (Value.int .i64 0) := z3
          replace z4 : _ = some (Value.int .i64 0) := z4
          replace z5 : _ = some (Value.slice none 0 0) := z5
          have z60 := z6 0
          have z61 := z6 1
          have z62 := z6 2
          have z63 := z6 3
          have z64 := z6 4
          have z65 := z6 5
          clear z6
          have P := Lib.hid (P.out.cell (w.heap.size + 1) 1 (by omega) (.string st2))
          have S2 := Lib.hid (S2.out.cell (w.heap.size + 1) 1 (by omega) (.string st2))
          have S3 := Lib.hid (S3.out.setText st2)
          have O := Lib.hid (O.out.cell (w.heap.size + 1) 1 (by omega) (.string st2))
          go_wp2_with fail
          clear z0 z60 z1 z61 z2 z62 z3 z63 z4 z64 z5 z65
          go_roundg gk
          case measure => omega
          case rel => exact ⟨k + 1, st2, by omega, by omega, by go_num, HS2.out, P.out, S3.out, S2.out, O.out⟩
     case false =>
      have e93 : ((lo : Int) == 93) = false := A93.out.trans (by have h := HEX.out; simpa using h)
      go_wp2_with fail
      generalize (w3.setCell ⟨B, 1, none⟩ (.int .i64 ((j : Int) + 1))) = w4 at *
      clear h0 h1 h2 h3 h4 h5
      obtain ⟨h0, h1, h2, h3, h4, h5⟩ := P.out
      have s1 : IntKind.i64.wrap ((p : Int) + 1) = (p : Int) + 1 := IntWalk.i64_in _ (by omega)
      have s2 : (0 : Int) ≤ (p : Int) + 1 := by omega
      have s4 : ((p : Int) + 1).toNat = p + 1 := by omega
      have p0 : (0 : Int) ≤ (p : Int) := by omega
      have hlt0 : ¬ (lo : Int) < (lo : Int) := by omega
      by_cases hp3 : p + 1 < s.size
      ·have p1 : (p : Int) + 1 < (s.size : Int) := by omega
       have g2 : decide ((p : Int) + 1 < (s.size : Int)) = true := by simp; omega
       have p2 : (p : Int) < (s.size : Int) := by omega
       have A45 := Lib.hid (atB_in (s := s) (i := p) (c := 45) (by omega))
       have B93 := Lib.hid (atB_in (s := s) (i := p + 1) (c := 93) hp3)
       have RG := Lib.hid (rng_is hp3)
       cases h45 : atB s p 45
       case false =>
        have e45 : ((s[p].toNat : Int) == 45) = false := A45.out.trans h45
        have HRG : Hid (rng s p = false) := Lib.hid (by rw [RG.out, h45]; rfl)
        clear h45 A45 B93 RG
        go_quiet (fail)
        have O := Lib.hid (O.out.drewN nq)
        have P := Lib.hid (P.out.drewN nq)
        have S2 : Hid (Six (w4.drewN nq) _ _ _ _) := Lib.hid S2.out
        have S3 : Hid (Six (w4.drewN nq) _ _ _ _) := Lib.hid S3.out
        generalize w4.drewN nq = w5 at *
        clear h0 h1 h2 h3 h4 h5
        obtain ⟨h0, h1, h2, h3, h4, h5⟩ := P.out
        have P := Lib.hid (P.out.setB false)
        have O := Lib.hid (O.out.set 2 (.bool false))
        have S2 := Lib.hid (S2.out.cell B 2 (by omega) (.bool false))
        have S3 := Lib.hid (S3.out.cell B 2 (by omega) (.bool false))
        obtain ⟨tp, ht1, ht2, ht3⟩ : ∃ tp, lo ≤ tp ∧ lo < tp ∧ (tp = lo + 1 ∨ tp = lo) := ⟨lo + 1, by omega, by omega, Or.inl rfl⟩
        go_wp2_with fail
        clear h0 h1 h2 h3 h4 h5
        go_loopg [7] (tp - lo) (fun gh x wx => ∃ (k : Nat) (st : ByteArray), lo ≤ k ∧ k + gh = tp ∧ x = .int .i64 (k : Int) ∧ st = ⟨(mem fun n => m n || (decide (lo ≤ n) && decide (n < k))).toArray⟩ ∧ Par wx B s (p) false ∧ Six wx (w.heap.size + 1) (.node 2 st false 0 0 []) none 0 ∧ Six wx w.heap.size (PR.leaf 0) none 0 ∧ OnlyB B w wx)
        case atStart => exact ⟨lo, st, Nat.le_refl _, by omega, rfl, by rw [HST.out, mem_congr (mark_start m lo)], P.out, S3.out, S2.out, O.out⟩
        case round =>
         clear P S3 S2 O HST
         obtain ⟨k, st, hlk, hkg, rfl, hst, p', s3, s2, o⟩ := hrel
         have HST := Lib.hid hst
         have P := Lib.hid p'
         have S3 := Lib.hid s3
         have S2 := Lib.hid s2
         have O := Lib.hid o
         clear hst p' s3 s2 o
         cases gk with
         | zero =>
          have hk : k = lo + 1 := by omega
          have hst2 : st = ⟨(mem (span m lo lo)).toArray⟩ := by rw [HST.out, mem_congr (mark_end m lo lo k hk)]
          have HST2 := Lib.hid hst2
          have hnk : ¬ (k : Int) ≤ (lo : Int) := by omega
          clear hk hst2
          go_wp2_with fail
          go_roundg (s.size + 1 - (p))
          case measure => omega
          case rel => exact ⟨p, span m lo lo, false, fu, false, st, rfl, by omega, by omega, Or.inr ⟨rfl, HST2.out, by omega, by rw [← HX.out, HSR.out, HRG.out]; rfl⟩, P.out, S3.out, S2.out, O.out⟩
         | succ gk =>
          have hkh : (k : Int) ≤ (lo : Int) := by omega
          have hk2 : k < 256 := by omega
          have k0 : (0 : Int) ≤ (k : Int) := by omega
          have k1 : (k : Int) < 256 := by omega
          have hst1 : st.size ≤ 1000 := by rw [HST.out]; have := mem_len (fun n => m n || (decide (lo ≤ n) && decide (n < k))); simp [ByteArray.size]; omega
          have HA := Lib.hid (fun W => add_any st (UInt8.ofNat k) (k : Int) (by simp; omega) W hst1)
          obtain ⟨st2, hst2⟩ : ∃ x : ByteArray, x = ⟨(PR.addB (UInt8.ofNat k) st.data.toList).toArray⟩ := ⟨_, rfl⟩
          rw [← hst2] at HA
          have HS2 : Hid (st2 = ⟨(mem fun n => m n || (decide (lo ≤ n) && decide (n < k + 1))).toArray⟩) := Lib.hid (by rw [hst2, HST.out, ← add_mem m lo k hk2 hlk])
          clear hst2 hst1
          obtain ⟨z0, z1, z2, z3, z4, z5, z6⟩ := S3.out.cells
          replace z0 : _ = some (Value.int .i64 2) := z0
          replace z1 : _ = some (Value.string st) := z1
          replace z2 : _ = some (Value.bool false) := z2
          replace z3 : _ = some (Value.int .i64 0) := z3
          replace z4 : _ = some (Value.int .i64 0) := z4
          replace z5 : _ = some (Value.slice none 0 0) := z5
          have z60 := z6 0
          have z61 := z6 1
          have z62 := z6 2
          have z63 := z6 3
          have z64 := z6 4
          have z65 := z6 5
          clear z6
          go_wp2_with fail
          refine (HA.out _).mono ?_
          rintro e w7 ⟨rfl, hb⟩
          clear z0 z60 z1 z61 z2 z62 z3 z63 z4 z64 z5 z65
          have hwO := O.out.size
          have P := Lib.hid (P.out.kept hb)
          have S2 := Lib.hid (S2.out.kept hb)
          have S3 := Lib.hid (S3.out.kept hb)
          have O := Lib.hid (O.out.trans (OnlyB.of_below hb))
          clear hb HA
          obtain ⟨z0, z1, z2, z3, z4, z5, z6⟩ := S3.out.cells
          replace z0 : _ = some (Value.int .i64 2) := z0
          replace z1 : _ = some (Value.string st) := z1
          replace z2 : _ = some (Value.bool false) := z2
          replace z3 : _ = some (Value.int .i64 0) := z3
          replace z4 : _ = some (Value.int .i64 0) := z4
          replace z5 : _ = some (Value.slice none 0 0) := z5
          have z60 := z6 0
          have z61 := z6 1
          have z62 := z6 2
          have z63 := z6 3
          have z64 := z6 4
          have z65 := z6 5
          clear z6
          have P := Lib.hid (P.out.cell (w.heap.size + 1) 1 (by omega) (.string st2))
          have S2 := Lib.hid (S2.out.cell (w.heap.size + 1) 1 (by omega) (.string st2))
          have S3 := Lib.hid (S3.out.setText st2)
          have O := Lib.hid (O.out.cell (w.heap.size + 1) 1 (by omega) (.string st2))
          go_wp2_with fail
          clear z0 z60 z1 z61 z2 z62 z3 z63 z4 z64 z5 z65
          go_roundg gk
          case measure => omega
          case rel => exact ⟨k + 1, st2, by omega, by omega, by go_num, HS2.out, P.out, S3.out, S2.out, O.out⟩
       case true =>
        have e45 : ((s[p].toNat : Int) == 45) = true := A45.out.trans h45
        have RG2 : Hid (rng s p = !atB s (p + 1) 93) := Lib.hid (by rw [RG.out, h45]; rfl)
        clear h45 A45 RG
        cases hz : atB s (p + 1) 93
        case true =>
         have f93 : ((s[p + 1].toNat : Int) == 93) = true := B93.out.trans hz
         have g93 : ((s[p + 1].toNat : Int) != 93) = false := by rw [bne, f93]; rfl
         have HRG : Hid (rng s p = false) := Lib.hid (by rw [RG2.out, hz]; rfl)
         clear hz B93 RG2
         go_quiet (fail)
         have O := Lib.hid (O.out.drewN nq)
         have P := Lib.hid (P.out.drewN nq)
         have S2 : Hid (Six (w4.drewN nq) _ _ _ _) := Lib.hid S2.out
         have S3 : Hid (Six (w4.drewN nq) _ _ _ _) := Lib.hid S3.out
         generalize w4.drewN nq = w5 at *
         clear h0 h1 h2 h3 h4 h5
         obtain ⟨h0, h1, h2, h3, h4, h5⟩ := P.out
         have P := Lib.hid (P.out.setB false)
         have O := Lib.hid (O.out.set 2 (.bool false))
         have S2 := Lib.hid (S2.out.cell B 2 (by omega) (.bool false))
         have S3 := Lib.hid (S3.out.cell B 2 (by omega) (.bool false))
         obtain ⟨tp, ht1, ht2, ht3⟩ : ∃ tp, lo ≤ tp ∧ lo < tp ∧ (tp = lo + 1 ∨ tp = lo) := ⟨lo + 1, by omega, by omega, Or.inl rfl⟩
         go_wp2_with fail
         clear h0 h1 h2 h3 h4 h5
         go_loopg [7] (tp - lo) (fun gh x wx => ∃ (k : Nat) (st : ByteArray), lo ≤ k ∧ k + gh = tp ∧ x = .int .i64 (k : Int) ∧ st = ⟨(mem fun n => m n || (decide (lo ≤ n) && decide (n < k))).toArray⟩ ∧ Par wx B s (p) false ∧ Six wx (w.heap.size + 1) (.node 2 st false 0 0 []) none 0 ∧ Six wx w.heap.size (PR.leaf 0) none 0 ∧ OnlyB B w wx)
         case atStart => exact ⟨lo, st, Nat.le_refl _, by omega, rfl, by rw [HST.out, mem_congr (mark_start m lo)], P.out, S3.out, S2.out, O.out⟩
         case round =>
          clear P S3 S2 O HST
          obtain ⟨k, st, hlk, hkg, rfl, hst, p', s3, s2, o⟩ := hrel
          have HST := Lib.hid hst
          have P := Lib.hid p'
          have S3 := Lib.hid s3
          have S2 := Lib.hid s2
          have O := Lib.hid o
          clear hst p' s3 s2 o
          cases gk with
          | zero =>
           have hk : k = lo + 1 := by omega
           have hst2 : st = ⟨(mem (span m lo lo)).toArray⟩ := by rw [HST.out, mem_congr (mark_end m lo lo k hk)]
           have HST2 := Lib.hid hst2
           have hnk : ¬ (k : Int) ≤ (lo : Int) := by omega
           clear hk hst2
           go_wp2_with fail
           go_roundg (s.size + 1 - (p))
           case measure => omega
           case rel => exact ⟨p, span m lo lo, false, fu, false, st, rfl, by omega, by omega, Or.inr ⟨rfl, HST2.out, by omega, by rw [← HX.out, HSR.out, HRG.out]; rfl⟩, P.out, S3.out, S2.out, O.out⟩
          | succ gk =>
           have hkh : (k : Int) ≤ (lo : Int) := by omega
           have hk2 : k < 256 := by omega
           have k0 : (0 : Int) ≤ (k : Int) := by omega
           have k1 : (k : Int) < 256 := by omega
           have hst1 : st.size ≤ 1000 := by rw [HST.out]; have := mem_len (fun n => m n || (decide (lo ≤ n) && decide (n < k))); simp [ByteArray.size]; omega
           have HA := Lib.hid (fun W => add_any st (UInt8.ofNat k) (k : Int) (by simp; omega) W hst1)
           obtain ⟨st2, hst2⟩ : ∃ x : ByteArray, x = ⟨(PR.addB (UInt8.ofNat k) st.data.toList).toArray⟩ := ⟨_, rfl⟩
           rw [← hst2] at HA
           have HS2 : Hid (st2 = ⟨(mem fun n => m n || (decide (lo ≤ n) && decide (n < k + 1))).toArray⟩) := Lib.hid (by rw [hst2, HST.out, ← add_mem m lo k hk2 hlk])
           clear hst2 hst1
           obtain ⟨z0, z1, z2, z3, z4, z5, z6⟩ := S3.out.cells
           replace z0 : _ = some (Value.int .i64 2) := z0
           replace z1 : _ = some (Value.string st) := z1
           replace z2 : _ = some (Value.bool false) := z2
           replace z3 : _ = some (Value.int .i64 0) := z3
           replace z4 : _ = some (Value.int .i64 0) := z4
           replace z5 : _ = some (Value.slice none 0 0) := z5
           have z60 := z6 0
           have z61 := z6 1
           have z62 := z6 2
           have z63 := z6 3
           have z64 := z6 4
           have z65 := z6 5
           clear z6
           go_wp2_with fail
           refine (HA.out _).mono ?_
           rintro e w7 ⟨rfl, hb⟩
           clear z0 z60 z1 z61 z2 z62 z3 z63 z4 z64 z5 z65
           have hwO := O.out.size
           have P := Lib.hid (P.out.kept hb)
           have S2 := Lib.hid (S2.out.kept hb)
           have S3 := Lib.hid (S3.out.kept hb)
           have O := Lib.hid (O.out.trans (OnlyB.of_below hb))
           clear hb HA
           obtain ⟨z0, z1, z2, z3, z4, z5, z6⟩ := S3.out.cells
           replace z0 : _ = some (Value.int .i64 2) := z0
           replace z1 : _ = some (Value.string st) := z1
           replace z2 : _ = some (Value.bool false) := z2
           replace z3 : _ = some (Value.int .i64 0) := z3
           replace z4 : _ = some (Value.int .i64 0) := z4
           replace z5 : _ = some (Value.slice none 0 0) := z5
           have z60 := z6 0
           have z61 := z6 1
           have z62 := z6 2
           have z63 := z6 3
           have z64 := z6 4
           have z65 := z6 5
           clear z6
           have P := Lib.hid (P.out.cell (w.heap.size + 1) 1 (by omega) (.string st2))
           have S2 := Lib.hid (S2.out.cell (w.heap.size + 1) 1 (by omega) (.string st2))
           have S3 := Lib.hid (S3.out.setText st2)
           have O := Lib.hid (O.out.cell (w.heap.size + 1) 1 (by omega) (.string st2))
           go_wp2_with fail
           clear z0 z60 z1 z61 z2 z62 z3 z63 z4 z64 z5 z65
           go_roundg gk
           case measure => omega
           case rel => exact ⟨k + 1, st2, by omega, by omega, by go_num, HS2.out, P.out, S3.out, S2.out, O.out⟩
        case false =>
         have f93 : ((s[p + 1].toNat : Int) == 93) = false := B93.out.trans hz
         have g93 : ((s[p + 1].toNat : Int) != 93) = true := by rw [bne, f93]; rfl
         have HRG : Hid (rng s p = true) := Lib.hid (by rw [RG2.out, hz]; rfl)
         clear hz B93 RG2
         obtain ⟨hi, hhi⟩ : ∃ hi, hi = (at_ s (p + 1)).toNat := ⟨_, rfl⟩
         have hhi1 : hi < 256 := by rw [hhi]; exact (at_ s (p + 1)).toNat_lt
         have HSR := HSR
         rw [← hhi] at HSR
         have HHI : Hid (s[p + 1].toNat = hi) := Lib.hid (by rw [hhi, at_eq s (p + 1) hp3])
         clear hhi
         go_quiet (fail)
         have O := Lib.hid (O.out.drewN nq)
         have P := Lib.hid (P.out.drewN nq)
         have S2 : Hid (Six (w4.drewN nq) _ _ _ _) := Lib.hid S2.out
         have S3 : Hid (Six (w4.drewN nq) _ _ _ _) := Lib.hid S3.out
         generalize w4.drewN nq = w5 at *
         clear h0 h1 h2 h3 h4 h5
         clear e45 f93 g93 g2
         obtain ⟨h0, h1, h2, h3, h4, h5⟩ := P.out
         go_wp2_with fail
         go_quiet (fail)
         rw [HHI.out]
         have O := Lib.hid (O.out.drewN nq)
         have P := Lib.hid (P.out.drewN nq)
         have S2 : Hid (Six (w5.drewN nq) _ _ _ _) := Lib.hid S2.out
         have S3 : Hid (Six (w5.drewN nq) _ _ _ _) := Lib.hid S3.out
         generalize w5.drewN nq = w6 at *
         clear h0 h1 h2 h3 h4 h5
         clear HHI
         obtain ⟨h0, h1, h2, h3, h4, h5⟩ := P.out
         have P := Lib.hid (P.out.setI (p + 2))
         rw [show ((p + 2 : Nat) : Int) = (p : Int) + 2 by omega] at P
         have O := Lib.hid (O.out.set 1 (.int .i64 ((p : Int) + 2)))
         have S2 := Lib.hid (S2.out.cell B 1 (by omega) (.int .i64 ((p : Int) + 2)))
         have S3 := Lib.hid (S3.out.cell B 1 (by omega) (.int .i64 ((p : Int) + 2)))
         by_cases hlt : hi < lo
         ·have hl1 : (hi : Int) < (lo : Int) := by omega
          have P := Lib.hid (P.out.setB true)
          have O := Lib.hid (O.out.set 2 (.bool true))
          have S2 := Lib.hid (S2.out.cell B 2 (by omega) (.bool true))
          have S3 := Lib.hid (S3.out.cell B 2 (by omega) (.bool true))
          obtain ⟨tp, ht1, ht2, ht3⟩ : ∃ tp, lo ≤ tp ∧ hi < tp ∧ (tp = hi + 1 ∨ tp = lo) := ⟨lo, Nat.le_refl _, hlt, Or.inr rfl⟩
          go_wp2_with fail
          clear h0 h1 h2 h3 h4 h5
          go_loopg [7] (tp - lo) (fun gh x wx => ∃ (k : Nat) (st : ByteArray), lo ≤ k ∧ k + gh = tp ∧ x = .int .i64 (k : Int) ∧ st = ⟨(mem fun n => m n || (decide (lo ≤ n) && decide (n < k))).toArray⟩ ∧ Par wx B s (p + 2) true ∧ Six wx (w.heap.size + 1) (.node 2 st false 0 0 []) none 0 ∧ Six wx w.heap.size (PR.leaf 0) none 0 ∧ OnlyB B w wx)
          case atStart => exact ⟨lo, st, Nat.le_refl _, by omega, rfl, by rw [HST.out, mem_congr (mark_start m lo)], P.out, S3.out, S2.out, O.out⟩
          case round =>
           clear P S3 S2 O HST
           obtain ⟨k, st, hlk, hkg, rfl, hst, p', s3, s2, o⟩ := hrel
           have HST := Lib.hid hst
           have P := Lib.hid p'
           have S3 := Lib.hid s3
           have S2 := Lib.hid s2
           have O := Lib.hid o
           clear hst p' s3 s2 o
           cases gk with
           | zero =>
            have hnk : ¬ (k : Int) ≤ (hi : Int) := by omega
            go_wp2_with fail
            go_roundg (s.size + 1 - (p + 2))
            case measure => omega
            case rel => exact ⟨p + 2, m, false, fu, true, st, rfl, by omega, by omega, Or.inl ⟨rfl, by rw [← HX.out, HSR.out, HRG.out]; simp only [if_true]; rw [if_pos hlt]⟩, P.out, S3.out, S2.out, O.out⟩
           | succ gk => exact absurd hkg (by omega)
         ·have hl1 : ¬ (hi : Int) < (lo : Int) := by omega
          have P := Lib.hid (P.out.setB false)
          have O := Lib.hid (O.out.set 2 (.bool false))
          have S2 := Lib.hid (S2.out.cell B 2 (by omega) (.bool false))
          have S3 := Lib.hid (S3.out.cell B 2 (by omega) (.bool false))
          obtain ⟨tp, ht1, ht2, ht3⟩ : ∃ tp, lo ≤ tp ∧ hi < tp ∧ (tp = hi + 1 ∨ tp = lo) := ⟨hi + 1, by omega, by omega, Or.inl rfl⟩
          go_wp2_with fail
          clear h0 h1 h2 h3 h4 h5
          go_loopg [7] (tp - lo) (fun gh x wx => ∃ (k : Nat) (st : ByteArray), lo ≤ k ∧ k + gh = tp ∧ x = .int .i64 (k : Int) ∧ st = ⟨(mem fun n => m n || (decide (lo ≤ n) && decide (n < k))).toArray⟩ ∧ Par wx B s (p + 2) false ∧ Six wx (w.heap.size + 1) (.node 2 st false 0 0 []) none 0 ∧ Six wx w.heap.size (PR.leaf 0) none 0 ∧ OnlyB B w wx)
          case atStart => exact ⟨lo, st, Nat.le_refl _, by omega, rfl, by rw [HST.out, mem_congr (mark_start m lo)], P.out, S3.out, S2.out, O.out⟩
          case round =>
           clear P S3 S2 O HST
           obtain ⟨k, st, hlk, hkg, rfl, hst, p', s3, s2, o⟩ := hrel
           have HST := Lib.hid hst
           have P := Lib.hid p'
           have S3 := Lib.hid s3
           have S2 := Lib.hid s2
           have O := Lib.hid o
           clear hst p' s3 s2 o
           cases gk with
           | zero =>
            have hk : k = hi + 1 := by omega
            have hst2 : st = ⟨(mem (span m lo hi)).toArray⟩ := by rw [HST.out, mem_congr (mark_end m lo hi k hk)]
            have HST2 := Lib.hid hst2
            have hnk : ¬ (k : Int) ≤ (hi : Int) := by omega
            clear hk hst2
            go_wp2_with fail
            go_roundg (s.size + 1 - (p + 2))
            case measure => omega
            case rel => exact ⟨p + 2, span m lo hi, false, fu, false, st, rfl, by omega, by omega, Or.inr ⟨rfl, HST2.out, by omega, by rw [← HX.out, HSR.out, HRG.out]; simp only [if_true]; rw [if_neg hlt]⟩, P.out, S3.out, S2.out, O.out⟩
           | succ gk =>
            have hkh : (k : Int) ≤ (hi : Int) := by omega
            have hk2 : k < 256 := by omega
            have k0 : (0 : Int) ≤ (k : Int) := by omega
            have k1 : (k : Int) < 256 := by omega
            have hst1 : st.size ≤ 1000 := by rw [HST.out]; have := mem_len (fun n => m n || (decide (lo ≤ n) && decide (n < k))); simp [ByteArray.size]; omega
            have HA := Lib.hid (fun W => add_any st (UInt8.ofNat k) (k : Int) (by simp; omega) W hst1)
            obtain ⟨st2, hst2⟩ : ∃ x : ByteArray, x = ⟨(PR.addB (UInt8.ofNat k) st.data.toList).toArray⟩ := ⟨_, rfl⟩
            rw [← hst2] at HA
            have HS2 : Hid (st2 = ⟨(mem fun n => m n || (decide (lo ≤ n) && decide (n < k + 1))).toArray⟩) := Lib.hid (by rw [hst2, HST.out, ← add_mem m lo k hk2 hlk])
            clear hst2 hst1
            obtain ⟨z0, z1, z2, z3, z4, z5, z6⟩ := S3.out.cells
            replace z0 : _ = some (Value.int .i64 2) := z0
            replace z1 : _ = some (Value.string st) := z1
            replace z2 : _ = some (Value.bool false) := z2
            replace z3 : _ = some (Value.int .i64 0) := z3
            replace z4 : _ = some (Value.int .i64 0) := z4
            replace z5 : _ = some (Value.slice none 0 0) := z5
            have z60 := z6 0
            have z61 := z6 1
            have z62 := z6 2
            have z63 := z6 3
            have z64 := z6 4
            have z65 := z6 5
            clear z6
            go_wp2_with fail
            refine (HA.out _).mono ?_
            rintro e w7 ⟨rfl, hb⟩
            clear z0 z60 z1 z61 z2 z62 z3 z63 z4 z64 z5 z65
            have hwO := O.out.size
            have P := Lib.hid (P.out.kept hb)
            have S2 := Lib.hid (S2.out.kept hb)
            have S3 := Lib.hid (S3.out.kept hb)
            have O := Lib.hid (O.out.trans (OnlyB.of_below hb))
            clear hb HA
            obtain ⟨z0, z1, z2, z3, z4, z5, z6⟩ := S3.out.cells
            replace z0 : _ = some (Value.int .i64 2) := z0
            replace z1 : _ = some (Value.string st) := z1
            replace z2 : _ = some (Value.bool false) := z2
            replace z3 : _ = some (Value.int .i64 0) := z3
            replace z4 : _ = some (Value.int .i64 0) := z4
            replace z5 : _ = some (Value.slice none 0 0) := z5
            have z60 := z6 0
            have z61 := z6 1
            have z62 := z6 2
            have z63 := z6 3
            have z64 := z6 4
            have z65 := z6 5
            clear z6
            have P := Lib.hid (P.out.cell (w.heap.size + 1) 1 (by omega) (.string st2))
            have S2 := Lib.hid (S2.out.cell (w.heap.size + 1) 1 (by omega) (.string st2))
            have S3 := Lib.hid (S3.out.setText st2)
            have O := Lib.hid (O.out.cell (w.heap.size + 1) 1 (by omega) (.string st2))
            go_wp2_with fail
            clear z0 z60 z1 z61 z2 z62 z3 z63 z4 z64 z5 z65
            go_roundg gk
            case measure => omega
            case rel => exact ⟨k + 1, st2, by omega, by omega, by go_num, HS2.out, P.out, S3.out, S2.out, O.out⟩
      ·have g2 : decide ((p : Int) + 1 < (s.size : Int)) = false := by simp; omega
       have HRG : Hid (rng s p = false) := Lib.hid (rng_no hp3)
       go_quiet (fail)
       have O := Lib.hid (O.out.drewN nq)
       have P := Lib.hid (P.out.drewN nq)
       have S2 : Hid (Six (w4.drewN nq) _ _ _ _) := Lib.hid S2.out
       have S3 : Hid (Six (w4.drewN nq) _ _ _ _) := Lib.hid S3.out
       generalize w4.drewN nq = w5 at *
       clear h0 h1 h2 h3 h4 h5
       obtain ⟨h0, h1, h2, h3, h4, h5⟩ := P.out
       have P := Lib.hid (P.out.setB false)
       have O := Lib.hid (O.out.set 2 (.bool false))
       have S2 := Lib.hid (S2.out.cell B 2 (by omega) (.bool false))
       have S3 := Lib.hid (S3.out.cell B 2 (by omega) (.bool false))
       obtain ⟨tp, ht1, ht2, ht3⟩ : ∃ tp, lo ≤ tp ∧ lo < tp ∧ (tp = lo + 1 ∨ tp = lo) := ⟨lo + 1, by omega, by omega, Or.inl rfl⟩
       go_wp2_with fail
       clear h0 h1 h2 h3 h4 h5
       go_loopg [7] (tp - lo) (fun gh x wx => ∃ (k : Nat) (st : ByteArray), lo ≤ k ∧ k + gh = tp ∧ x = .int .i64 (k : Int) ∧ st = ⟨(mem fun n => m n || (decide (lo ≤ n) && decide (n < k))).toArray⟩ ∧ Par wx B s (p) false ∧ Six wx (w.heap.size + 1) (.node 2 st false 0 0 []) none 0 ∧ Six wx w.heap.size (PR.leaf 0) none 0 ∧ OnlyB B w wx)
       case atStart => exact ⟨lo, st, Nat.le_refl _, by omega, rfl, by rw [HST.out, mem_congr (mark_start m lo)], P.out, S3.out, S2.out, O.out⟩
       case round =>
        clear P S3 S2 O HST
        obtain ⟨k, st, hlk, hkg, rfl, hst, p', s3, s2, o⟩ := hrel
        have HST := Lib.hid hst
        have P := Lib.hid p'
        have S3 := Lib.hid s3
        have S2 := Lib.hid s2
        have O := Lib.hid o
        clear hst p' s3 s2 o
        cases gk with
        | zero =>
         have hk : k = lo + 1 := by omega
         have hst2 : st = ⟨(mem (span m lo lo)).toArray⟩ := by rw [HST.out, mem_congr (mark_end m lo lo k hk)]
         have HST2 := Lib.hid hst2
         have hnk : ¬ (k : Int) ≤ (lo : Int) := by omega
         clear hk hst2
         go_wp2_with fail
         go_roundg (s.size + 1 - (p))
         case measure => omega
         case rel => exact ⟨p, span m lo lo, false, fu, false, st, rfl, by omega, by omega, Or.inr ⟨rfl, HST2.out, by omega, by rw [← HX.out, HSR.out, HRG.out]; rfl⟩, P.out, S3.out, S2.out, O.out⟩
        | succ gk =>
         have hkh : (k : Int) ≤ (lo : Int) := by omega
         have hk2 : k < 256 := by omega
         have k0 : (0 : Int) ≤ (k : Int) := by omega
         have k1 : (k : Int) < 256 := by omega
         have hst1 : st.size ≤ 1000 := by rw [HST.out]; have := mem_len (fun n => m n || (decide (lo ≤ n) && decide (n < k))); simp [ByteArray.size]; omega
         have HA := Lib.hid (fun W => add_any st (UInt8.ofNat k) (k : Int) (by simp; omega) W hst1)
         obtain ⟨st2, hst2⟩ : ∃ x : ByteArray, x = ⟨(PR.addB (UInt8.ofNat k) st.data.toList).toArray⟩ := ⟨_, rfl⟩
         rw [← hst2] at HA
         have HS2 : Hid (st2 = ⟨(mem fun n => m n || (decide (lo ≤ n) && decide (n < k + 1))).toArray⟩) := Lib.hid (by rw [hst2, HST.out, ← add_mem m lo k hk2 hlk])
         clear hst2 hst1
         obtain ⟨z0, z1, z2, z3, z4, z5, z6⟩ := S3.out.cells
         replace z0 : _ = some (Value.int .i64 2) := z0
         replace z1 : _ = some (Value.string st) := z1
         replace z2 : _ = some (Value.bool false) := z2
         replace z3 : _ = some (Value.int .i64 0) := z3
         replace z4 : _ = some (Value.int .i64 0) := z4
         replace z5 : _ = some (Value.slice none 0 0) := z5
         have z60 := z6 0
         have z61 := z6 1
         have z62 := z6 2
         have z63 := z6 3
         have z64 := z6 4
         have z65 := z6 5
         clear z6
         go_wp2_with fail
         refine (HA.out _).mono ?_
         rintro e w7 ⟨rfl, hb⟩
         clear z0 z60 z1 z61 z2 z62 z3 z63 z4 z64 z5 z65
         have hwO := O.out.size
         have P := Lib.hid (P.out.kept hb)
         have S2 := Lib.hid (S2.out.kept hb)
         have S3 := Lib.hid (S3.out.kept hb)
         have O := Lib.hid (O.out.trans (OnlyB.of_below hb))
         clear hb HA
         obtain ⟨z0, z1, z2, z3, z4, z5, z6⟩ := S3.out.cells
         replace z0 : _ = some (Value.int .i64 2) := z0
         replace z1 : _ = some (Value.string st) := z1
         replace z2 : _ = some (Value.bool false) := z2
         replace z3 : _ = some (Value.int .i64 0) := z3
         replace z4 : _ = some (Value.int .i64 0) := z4
         replace z5 : _ = some (Value.slice none 0 0) := z5
         have z60 := z6 0
         have z61 := z6 1
         have z62 := z6 2
         have z63 := z6 3
         have z64 := z6 4
         have z65 := z6 5
         clear z6
         have P := Lib.hid (P.out.cell (w.heap.size + 1) 1 (by omega) (.string st2))
         have S2 := Lib.hid (S2.out.cell (w.heap.size + 1) 1 (by omega) (.string st2))
         have S3 := Lib.hid (S3.out.setText st2)
         have O := Lib.hid (O.out.cell (w.heap.size + 1) 1 (by omega) (.string st2))
         go_wp2_with fail
         clear z0 z60 z1 z61 z2 z62 z3 z63 z4 z64 z5 z65
         go_roundg gk
         case measure => omega
         case rel => exact ⟨k + 1, st2, by omega, by omega, by go_num, HS2.out, P.out, S3.out, S2.out, O.out⟩
   ·have d1 : decide (s.size ≤ j) = true := by simp; omega
    have d2 : decide ((s.size : Int) ≤ (j : Int)) = true := by simp; omega
    have i0 : (0 : Int) ≤ (j : Int) := by omega
    have HY : Hid (setR s (s.size + 1) i true (fun _ => false) = none) := Lib.hid (HX.out.symm.trans (setR_end s fu j b m (by omega)))
    obtain ⟨h0, h1, h2, h3, h4, h5⟩ := P.out
    go_wp2_with fail
    go_quiet (fail)
    have O := Lib.hid (O.out.drewN nq)
    have P := Lib.hid (P.out.drewN nq)
    have S2 : Hid (Six (wr.drewN nq) _ _ _ _) := Lib.hid S2.out
    have S3 : Hid (Six (wr.drewN nq) _ _ _ _) := Lib.hid S3.out
    generalize wr.drewN nq = w2 at *
    clear h0 h1 h2 h3 h4 h5
    obtain ⟨h0, h1, h2, h3, h4, h5⟩ := P.out
    have P := Lib.hid P.out.setBad
    have O := Lib.hid (O.out.set 2 (.bool true))
    have S2 := Lib.hid (S2.out.cell B 2 (by omega) (.bool true))
    have S3 := Lib.hid (S3.out.cell B 2 (by omega) (.bool true))
    have h6 : Lk (Six (put6 (w2.setCell ⟨B, 2, none⟩ (.bool true)) w.heap.size (.int .i64 2) (.string st) (.bool false) (.int .i64 0) (.int .i64 0) (.slice none 0 0)) w.heap.size (.node 2 st false 0 0 []) none 0) := Lk.mk (S2.out.put (.node 2 st false 0 0 []) none 0)
    have PO := Lk.mk (put6_only O.out w.heap.size (.int .i64 2) (.string st) (.bool false) (.int .i64 0) (.int .i64 0) (.slice none 0 0) (by omega))
    have PP := Lk.mk (P.out.put w.heap.size (by omega) (.int .i64 2) (.string st) (.bool false) (.int .i64 0) (.int .i64 0) (.slice none 0 0))
    obtain ⟨z0, z1, z2, z3, z4, z5, z6⟩ := S3.out.cells
    replace z0 : _ = some (Value.int .i64 2) := z0
    replace z1 : _ = some (Value.string st) := z1
    replace z2 : _ = some (Value.bool false) := z2
    replace z3 : _ = some (Value.int .i64 0) := z3
    replace z4 : _ = some (Value.int .i64 0) := z4
    replace z5 : _ = some (Value.slice none 0 0) := z5
    have z60 := z6 0
    have z61 := z6 1
    have z62 := z6 2
    have z63 := z6 3
    have z64 := z6 4
    have z65 := z6 5
    clear z6
    obtain ⟨x0, x1, x2, x3, x4, x5, x6⟩ := S2.out.cells
    have x60 := x6 0
    have x61 := x6 1
    have x62 := x6 2
    have x63 := x6 3
    have x64 := x6 4
    have x65 := x6 5
    clear x6
    go_wp2_with fail
    change bodyPost _ _ _ _ _ (put6 (w2.setCell ⟨B, 2, none⟩ (.bool true)) w.heap.size (.int .i64 2) (.string st) (.bool false) (.int .i64 0) (.int .i64 0) (.slice none 0 0))
    generalize put6 (w2.setCell ⟨B, 2, none⟩ (.bool true)) w.heap.size (.int .i64 2) (.string st) (.bool false) (.int .i64 0) (.int .i64 0) (.slice none 0 0) = W at h6 PO PP ⊢
    obtain ⟨y0, y1, y2, y3, y4, y5, _⟩ := h6.out.cells
    replace y0 : _ = some (Value.int .i64 2) := y0
    replace y1 : _ = some (Value.string st) := y1
    replace y2 : _ = some (Value.bool false) := y2
    replace y3 : _ = some (Value.int .i64 0) := y3
    replace y4 : _ = some (Value.int .i64 0) := y4
    replace y5 : _ = some (Value.slice none 0 0) := y5
    refine bodyPost_ret (v := .agg #[.int .i64 2, .string st, .bool false, .int .i64 0, .int .i64 0, .slice none 0 0]) (by simp [results, Tryd.results69, go_sem, y0, y1, y2, y3, y4, y5]) rfl ⟨PO.out, ?_⟩
    rw [E0.out, HY.out]
    exact ⟨RT.node 2 st false 0 0 [], none, 0, j, rfl, hjs, PP.out⟩
end Go.Proofs.YtcpaneaiobnhdaaDoor.kit
