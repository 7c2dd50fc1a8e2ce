/-
 Contract of spec.l04Item over this seat's translation: one item of an expression for texts. Conditions: the reader's cells are known; there is fuel enough; the reader of brackets' inside keeps its contract.
-/
import Derived.Test.YtcpaneaiobnhdaaDoorMPs2a
import Derived.Test.YtcpaneaiobnhdaaDoorMPs4p
import Derived.Test.YtcpaneaiobnhdaaDoorMPs4n
namespace Go.Proofs.YtcpaneaiobnhdaaDoor.kit
open Go.ChangeShapes Go.WideShapes Go.ChangeAt Go.RowKit
set_option linter.unusedVariables false
set_option linter.unusedSimpArgs false
open PR

theorem bracket_any (B : Nat) (s : ByteArray) (i : Nat) (w : World) (hs : s.size ≤ 4000) (hr : Par w B s i false) (hi : i ≤ s.size) :
  Calls Tryd.prog 69 #[.pointer (some ⟨B, 0, none⟩)] w (PostS B s s.size w (PR.setT s i)) := by
 cases h : atB s i 94
 ·exact bracket_pos B s i w hs hr hi h
 ·exact bracket_neg B s i w hs hr hi h
theorem one_any (c : UInt8) (n : Int) (hn : (c.toNat : Int) = n) (w : World) : Calls Tryd.prog 34 #[.int .u8 n] w fun e w' => e = .returned (reV (PR.oneT c) none 0) ∧ Below w.heap.size w w' := by
 subst hn; exact one_spec c w
theorem Six.after2 {w W w5 : World} {g : Nat} {t : RT} {a : Option Addr} {c : Nat} (h : Six w g t a c) (hb : Below W.heap.size W w5) (e : W.heap = w.heap) : Six w5 g t a c := by
 have hl := h.lt
 rw [← e] at hl
 exact (hb.block g hl).trans ((congrArg (fun x => x[g]?) e).trans h)
theorem Par.after2 {w W w5 : World} {B : Nat} {s : ByteArray} {i : Nat} {bad : Bool} (c : Par w B s i bad) (hb : Below W.heap.size W w5) (e : W.heap = w.heap) : Par w5 B s i bad := by
 have hl := c.lt
 rw [← e] at hl
 have q : w5.heap[B]? = w.heap[B]? := (hb.block B hl).trans (congrArg (fun x => x[B]?) e)
 exact ⟨Nat.lt_of_lt_of_le hl hb.size, (World.cell?_of_block (w := w) (a := ⟨B, 0, none⟩) q).trans c.c0, (World.cell?_of_block (w := w) (a := ⟨B, 1, none⟩) q).trans c.c1, (World.cell?_of_block (w := w) (a := ⟨B, 2, none⟩) q).trans c.c2,
  (World.frozen?_of_block (w := w) (a := ⟨B, 1, none⟩) q).trans c.f1, (World.frozen?_of_block (w := w) (a := ⟨B, 2, none⟩) q).trans c.f2⟩
def AltS (f : Nat) : Prop := ∀ (B : Nat) (s : ByteArray) (i : Nat) (w : World) (d : Nat), s.size ≤ 4000 → Par w B s i false → i ≤ s.size → d ≤ 200 → 3 * (s.size - i) + 3 ≤ f →
 Calls Tryd.prog 24 #[.pointer (some ⟨B, 0, none⟩), .int .i64 (d : Int)] w (PostS B s (4100 + d) w ((PR.alts s f d i).map fun x => (PR.alT x.1, x.2)))
def CatS (f : Nat) : Prop := ∀ (B : Nat) (s : ByteArray) (i : Nat) (w : World) (d : Nat), s.size ≤ 4000 → Par w B s i false → i ≤ s.size → d ≤ 200 → 3 * (s.size - i) + 2 ≤ f →
 Calls Tryd.prog 38 #[.pointer (some ⟨B, 0, none⟩), .int .i64 (d : Int)] w (PostS B s (4100 + d) w ((PR.cats s f d i).map fun x => (PR.caT x.1, x.2)))
def ItemS (f : Nat) : Prop := ∀ (B : Nat) (s : ByteArray) (i : Nat) (w : World) (d : Nat), s.size ≤ 4000 → Par w B s i false → i < s.size → d ≤ 200 → 3 * (s.size - i) + 1 ≤ f →
 Calls Tryd.prog 53 #[.pointer (some ⟨B, 0, none⟩), .int .i64 (d : Int)] w (PostS B s (4100 + d) w (PR.item s f d i))
set_option maxRecDepth 100000 in
set_option maxHeartbeats 4000000 in
theorem itemS_of (f : Nat) (hA : AltS f) : ItemS (f + 1) := by
 intro B s i w d hs hr hi hd hf
 have hs2 : s.size ≤ 1048576 := by omega
 have HA := Lib.hid hA
 clear hA
 have hBl := hr.lt
 have b1 : Below w.heap.size w (w.alloc (.cells #[.int .i64 0, .string ⟨#[]⟩, .bool false, .int .i64 0, .int .i64 0, .slice none 0 0] 26)) := (Below.refl w.heap.size w).alloc (Nat.le_refl _) _
 have O := Lib.hid (OnlyB.of_below (B := B) b1)
 have P := Lib.hid (hr.kept b1)
 have S2 : Hid (Six _ w.heap.size (PR.leaf 0) none 0) := Lib.hid (heap_alloc_new w (.cells #[.int .i64 0, .string ⟨#[]⟩, .bool false, .int .i64 0, .int .i64 0, .slice none 0 0] 26))
 clear b1 hr
 have i0 : (0 : Int) ≤ (i : Int) := by omega
 have i1 : (i : Int) < (s.size : Int) := by omega
 obtain ⟨cc, hcc⟩ : ∃ c, c = at_ s i := ⟨_, rfl⟩
 have HCC := Lib.hid hcc
 have HC : Hid (s[i] = cc) := Lib.hid (by rw [hcc, at_eq s i hi])
 clear hcc
 obtain ⟨h0, h1, h2, h3, h4, h5⟩ := P.out
 go_enter Tryd.func53, Tryd.ntmps53
 go_wp2_with fail
 go_quiet (fail)
 rename_i nq
 rw [HC.out]
 have O := Lib.hid (O.out.drewN nq)
 have P := Lib.hid (P.out.drewN nq)
 have S2 : Hid (Six ((w.alloc (.cells #[.int .i64 0, .string ⟨#[]⟩, .bool false, .int .i64 0, .int .i64 0, .slice none 0 0] 26)).drewN nq) _ _ _ _) := Lib.hid S2.out
 generalize (w.alloc (.cells #[.int .i64 0, .string ⟨#[]⟩, .bool false, .int .i64 0, .int .i64 0, .slice none 0 0] 26)).drewN nq = w1 at *
 clear h0 h1 h2 h3 h4 h5
 obtain ⟨h0, h1, h2, h3, h4, h5⟩ := P.out
 have P := Lib.hid (P.out.setI (i + 1))
 have O := Lib.hid (O.out.set 1 (.int .i64 ((i + 1 : Nat) : Int)))
 have S2 := Lib.hid (S2.out.cell B 1 (by omega) (.int .i64 ((i + 1 : Nat) : Int)))
 rw [show ((i + 1 : Nat) : Int) = (i : Int) + 1 by omega] at P O S2
 have hzO := O.out.size
 have hzS := S2.out.lt
 have hzP := P.out.lt
 cases h46 : atB s i 46
 case true =>
  have A46 := Lib.hid h46
  have e46 : ((cc.toNat : Int) == 46) = true := by rw [HCC.out]; exact (at_is (s := s) (i := i) 46 46 rfl hi).trans h46
  clear h46
  have HE : Hid (PR.item s (f + 1) d i = some ((PR.leaf 1), i + 1)) := Lib.hid (by
    rw [PR.item]
    simp only [A46.out, if_true, if_false, Bool.false_eq_true, Bool.or_false, Bool.or_true, Bool.true_or, Bool.false_or])
  obtain ⟨z0, z1, z2, z3, z4, z5, z6⟩ := S2.out.cells
  have z60 := z6 0
  have z61 := z6 1
  have z62 := z6 2
  have z63 := z6 3
  have z64 := z6 4
  have z65 := z6 5
  clear z6
  have h6 : Lk (Six (put6 (w1.setCell ⟨B, 1, none⟩ (.int .i64 ((i : Int) + 1))) w.heap.size (.int .i64 1) (.string ⟨#[]⟩) (.bool false) (.int .i64 0) (.int .i64 0) (.slice none 0 0)) w.heap.size (PR.leaf 1) none 0) := Lk.mk (S2.out.put (PR.leaf 1) none 0)
  have PO := Lk.mk (put6_only O.out w.heap.size (.int .i64 1) (.string ⟨#[]⟩) (.bool false) (.int .i64 0) (.int .i64 0) (.slice none 0 0) (by omega))
  have PP := Lk.mk (P.out.put w.heap.size (by omega) (.int .i64 1) (.string ⟨#[]⟩) (.bool false) (.int .i64 0) (.int .i64 0) (.slice none 0 0))
  go_wp2_with fail
  change bodyPost _ _ _ _ _ (put6 (w1.setCell ⟨B, 1, none⟩ (.int .i64 ((i : Int) + 1))) w.heap.size (.int .i64 1) (.string ⟨#[]⟩) (.bool false) (.int .i64 0) (.int .i64 0) (.slice none 0 0))
  generalize put6 (w1.setCell ⟨B, 1, none⟩ (.int .i64 ((i : Int) + 1))) w.heap.size (.int .i64 1) (.string ⟨#[]⟩) (.bool false) (.int .i64 0) (.int .i64 0) (.slice none 0 0) = W at h6 PO PP ⊢
  obtain ⟨y0, y1, y2, y3, y4, y5, _⟩ := h6.out.cells
  replace y0 : _ = some (Value.int .i64 1) := y0
  replace y1 : _ = some (Value.string ⟨#[]⟩) := y1
  replace y2 : _ = some (Value.bool false) := y2
  replace y3 : _ = some (Value.int .i64 0) := y3
  replace y4 : _ = some (Value.int .i64 0) := y4
  replace y5 : _ = some (Value.slice none 0 0) := y5
  refine bodyPost_ret (v := .agg #[.int .i64 1, .string ⟨#[]⟩, .bool false, .int .i64 0, .int .i64 0, .slice none 0 0]) (by simp [results, Tryd.results53, go_sem, y0, y1, y2, y3, y4, y5]) rfl ⟨PO.out, ?_⟩
  rw [HE.out]
  exact ⟨none, 0, [], rfl, KF.nil _, fun y hy => absurd hy (by simp), ⟨(by show 0 ≤ 256; omega), (by show 0 ≤ 2; omega)⟩, PP.out⟩
 case false =>
  have A46 := Lib.hid h46
  have e46 : ((cc.toNat : Int) == 46) = false := by rw [HCC.out]; exact (at_is (s := s) (i := i) 46 46 rfl hi).trans h46
  clear h46
  cases h94 : atB s i 94
  case true =>
   have A94 := Lib.hid h94
   have e94 : ((cc.toNat : Int) == 94) = true := by rw [HCC.out]; exact (at_is (s := s) (i := i) 94 94 rfl hi).trans h94
   clear h94
   have HE : Hid (PR.item s (f + 1) d i = some ((PR.leaf 6), i + 1)) := Lib.hid (by
     rw [PR.item]
     simp only [A46.out, A94.out, if_true, if_false, Bool.false_eq_true, Bool.or_false, Bool.or_true, Bool.true_or, Bool.false_or])
   obtain ⟨z0, z1, z2, z3, z4, z5, z6⟩ := S2.out.cells
   have z60 := z6 0
   have z61 := z6 1
   have z62 := z6 2
   have z63 := z6 3
   have z64 := z6 4
   have z65 := z6 5
   clear z6
   have h6 : Lk (Six (put6 (w1.setCell ⟨B, 1, none⟩ (.int .i64 ((i : Int) + 1))) w.heap.size (.int .i64 6) (.string ⟨#[]⟩) (.bool false) (.int .i64 0) (.int .i64 0) (.slice none 0 0)) w.heap.size (PR.leaf 6) none 0) := Lk.mk (S2.out.put (PR.leaf 6) none 0)
   have PO := Lk.mk (put6_only O.out w.heap.size (.int .i64 6) (.string ⟨#[]⟩) (.bool false) (.int .i64 0) (.int .i64 0) (.slice none 0 0) (by omega))
   have PP := Lk.mk (P.out.put w.heap.size (by omega) (.int .i64 6) (.string ⟨#[]⟩) (.bool false) (.int .i64 0) (.int .i64 0) (.slice none 0 0))
   go_wp2_with fail
   change bodyPost _ _ _ _ _ (put6 (w1.setCell ⟨B, 1, none⟩ (.int .i64 ((i : Int) + 1))) w.heap.size (.int .i64 6) (.string ⟨#[]⟩) (.bool false) (.int .i64 0) (.int .i64 0) (.slice none 0 0))
   generalize put6 (w1.setCell ⟨B, 1, none⟩ (.int .i64 ((i : Int) + 1))) w.heap.size (.int .i64 6) (.string ⟨#[]⟩) (.bool false) (.int .i64 0) (.int .i64 0) (.slice none 0 0) = W at h6 PO PP ⊢
   obtain ⟨y0, y1, y2, y3, y4, y5, _⟩ := h6.out.cells
   replace y0 : _ = some (Value.int .i64 6) := y0
   replace y1 : _ = some (Value.string ⟨#[]⟩) := y1
   replace y2 : _ = some (Value.bool false) := y2
   replace y3 : _ = some (Value.int .i64 0) := y3
   replace y4 : _ = some (Value.int .i64 0) := y4
   replace y5 : _ = some (Value.slice none 0 0) := y5
   refine bodyPost_ret (v := .agg #[.int .i64 6, .string ⟨#[]⟩, .bool false, .int .i64 0, .int .i64 0, .slice none 0 0]) (by simp [results, Tryd.results53, go_sem, y0, y1, y2, y3, y4, y5]) rfl ⟨PO.out, ?_⟩
   rw [HE.out]
   exact ⟨none, 0, [], rfl, KF.nil _, fun y hy => absurd hy (by simp), ⟨(by show 0 ≤ 256; omega), (by show 0 ≤ 2; omega)⟩, PP.out⟩
  case false =>
   have A94 := Lib.hid h94
   have e94 : ((cc.toNat : Int) == 94) = false := by rw [HCC.out]; exact (at_is (s := s) (i := i) 94 94 rfl hi).trans h94
   clear h94
   cases h36 : atB s i 36
   case true =>
    have A36 := Lib.hid h36
    have e36 : ((cc.toNat : Int) == 36) = true := by rw [HCC.out]; exact (at_is (s := s) (i := i) 36 36 rfl hi).trans h36
    clear h36
    have HE : Hid (PR.item s (f + 1) d i = some ((PR.leaf 7), i + 1)) := Lib.hid (by
      rw [PR.item]
      simp only [A46.out, A94.out, A36.out, if_true, if_false, Bool.false_eq_true, Bool.or_false, Bool.or_true, Bool.true_or, Bool.false_or])
    obtain ⟨z0, z1, z2, z3, z4, z5, z6⟩ := S2.out.cells
    have z60 := z6 0
    have z61 := z6 1
    have z62 := z6 2
    have z63 := z6 3
    have z64 := z6 4
    have z65 := z6 5
    clear z6
    have h6 : Lk (Six (put6 (w1.setCell ⟨B, 1, none⟩ (.int .i64 ((i : Int) + 1))) w.heap.size (.int .i64 7) (.string ⟨#[]⟩) (.bool false) (.int .i64 0) (.int .i64 0) (.slice none 0 0)) w.heap.size (PR.leaf 7) none 0) := Lk.mk (S2.out.put (PR.leaf 7) none 0)
    have PO := Lk.mk (put6_only O.out w.heap.size (.int .i64 7) (.string ⟨#[]⟩) (.bool false) (.int .i64 0) (.int .i64 0) (.slice none 0 0) (by omega))
    have PP := Lk.mk (P.out.put w.heap.size (by omega) (.int .i64 7) (.string ⟨#[]⟩) (.bool false) (.int .i64 0) (.int .i64 0) (.slice none 0 0))
    go_wp2_with fail
    change bodyPost _ _ _ _ _ (put6 (w1.setCell ⟨B, 1, none⟩ (.int .i64 ((i : Int) + 1))) w.heap.size (.int .i64 7) (.string ⟨#[]⟩) (.bool false) (.int .i64 0) (.int .i64 0) (.slice none 0 0))
    generalize put6 (w1.setCell ⟨B, 1, none⟩ (.int .i64 ((i : Int) + 1))) w.heap.size (.int .i64 7) (.string ⟨#[]⟩) (.bool false) (.int .i64 0) (.int .i64 0) (.slice none 0 0) = W at h6 PO PP ⊢
    obtain ⟨y0, y1, y2, y3, y4, y5, _⟩ := h6.out.cells
    replace y0 : _ = some (Value.int .i64 7) := y0
    replace y1 : _ = some (Value.string ⟨#[]⟩) := y1
    replace y2 : _ = some (Value.bool false) := y2
    replace y3 : _ = some (Value.int .i64 0) := y3
    replace y4 : _ = some (Value.int .i64 0) := y4
    replace y5 : _ = some (Value.slice none 0 0) := y5
    refine bodyPost_ret (v := .agg #[.int .i64 7, .string ⟨#[]⟩, .bool false, .int .i64 0, .int .i64 0, .slice none 0 0]) (by simp [results, Tryd.results53, go_sem, y0, y1, y2, y3, y4, y5]) rfl ⟨PO.out, ?_⟩
    rw [HE.out]
    exact ⟨none, 0, [], rfl, KF.nil _, fun y hy => absurd hy (by simp), ⟨(by show 0 ≤ 256; omega), (by show 0 ≤ 2; omega)⟩, PP.out⟩
   case false =>
    have A36 := Lib.hid h36
    have e36 : ((cc.toNat : Int) == 36) = false := by rw [HCC.out]; exact (at_is (s := s) (i := i) 36 36 rfl hi).trans h36
    clear h36
    cases h91 : atB s i 91
    case true =>
     have A91 := Lib.hid h91
     have e91 : ((cc.toNat : Int) == 91) = true := by rw [HCC.out]; exact (at_is (s := s) (i := i) 91 91 rfl hi).trans h91
     clear h91
     have HE : Hid (PR.item s (f + 1) d i = PR.setT s (i + 1)) := Lib.hid (by
       rw [PR.item]
       simp only [A46.out, A94.out, A36.out, A91.out, if_true, if_false, Bool.false_eq_true, Bool.or_false, Bool.or_true, Bool.true_or, Bool.false_or])
     go_wp2_with fail
     refine (bracket_any B s (i + 1) _ hs P.out (by omega)).mono ?_
     rintro e w3 ⟨o, hp⟩
     clear h0 h1 h2 h3 h4 h5
     have hw1 := o.size
     have O := Lib.hid (O.out.trans o)
     have S2 := Lib.hid (S2.out.only o (by omega))
     clear o
     cases hres : PR.setT s (i + 1) with
     | none =>
      rw [hres] at hp
      obtain ⟨T, ta, tc, j, rfl, hj, p⟩ := hp
      have HRES := Lib.hid hres
      have P := Lib.hid p
      clear hres p
      unfold reV
      obtain ⟨z0, z1, z2, z3, z4, z5, z6⟩ := S2.out.cells
      have z60 := z6 0
      have z61 := z6 1
      have z62 := z6 2
      have z63 := z6 3
      have z64 := z6 4
      have z65 := z6 5
      clear z6
      have h6 : Lk (Six (put6 w3 w.heap.size (.int .i64 T.kind) (.string T.set) (.bool T.neg) (.int .i64 T.low) (.int .i64 T.high) (.slice ta T.kids.length tc)) w.heap.size T ta tc) := Lk.mk (S2.out.put T ta tc)
      have PO := Lk.mk (put6_only O.out w.heap.size (.int .i64 T.kind) (.string T.set) (.bool T.neg) (.int .i64 T.low) (.int .i64 T.high) (.slice ta T.kids.length tc) (by omega))
      have PP := Lk.mk (P.out.put w.heap.size (by omega) (.int .i64 T.kind) (.string T.set) (.bool T.neg) (.int .i64 T.low) (.int .i64 T.high) (.slice ta T.kids.length tc))
      go_wp2_with fail
      change bodyPost _ _ _ _ _ (put6 w3 w.heap.size (.int .i64 T.kind) (.string T.set) (.bool T.neg) (.int .i64 T.low) (.int .i64 T.high) (.slice ta T.kids.length tc))
      generalize put6 w3 w.heap.size (.int .i64 T.kind) (.string T.set) (.bool T.neg) (.int .i64 T.low) (.int .i64 T.high) (.slice ta T.kids.length tc) = W at h6 PO PP ⊢
      obtain ⟨y0, y1, y2, y3, y4, y5, _⟩ := h6.out.cells
      replace y0 : _ = some (Value.int .i64 T.kind) := y0
      replace y1 : _ = some (Value.string T.set) := y1
      replace y2 : _ = some (Value.bool T.neg) := y2
      replace y3 : _ = some (Value.int .i64 T.low) := y3
      replace y4 : _ = some (Value.int .i64 T.high) := y4
      replace y5 : _ = some (Value.slice ta T.kids.length tc) := y5
      refine bodyPost_ret (v := .agg #[.int .i64 T.kind, .string T.set, .bool T.neg, .int .i64 T.low, .int .i64 T.high, .slice ta T.kids.length tc]) (by simp [results, Tryd.results53, go_sem, y0, y1, y2, y3, y4, y5]) rfl ⟨PO.out, ?_⟩
      rw [HE.out, HRES.out]
      exact ⟨T, ta, tc, j, rfl, by omega, PP.out⟩
     | some x =>
      rw [hres] at hp
      obtain ⟨T, j⟩ := x
      obtain ⟨ta, tc, tF, rfl, k, hkl, hni, p⟩ := hp
      simp only at k hkl hni p
      have HRES := Lib.hid hres
      have P := Lib.hid p
      have K := Lib.hid k
      have HNI := Lib.hid hni
      have HGF : Hid (w.heap.size ∉ tF) := Lib.hid (fun h => by have := hkl _ h; (first | omega | (simp at this; omega)))
      have HLF : Hid (∀ y ∈ tF, w.heap.size ≤ y) := Lib.hid (fun y hy => by have := hkl y hy; (first | omega | (simp at this; omega)))
      clear hres p k hkl hni
      unfold reV
      obtain ⟨z0, z1, z2, z3, z4, z5, z6⟩ := S2.out.cells
      have z60 := z6 0
      have z61 := z6 1
      have z62 := z6 2
      have z63 := z6 3
      have z64 := z6 4
      have z65 := z6 5
      clear z6
      have h6 : Lk (Six (put6 w3 w.heap.size (.int .i64 T.kind) (.string T.set) (.bool T.neg) (.int .i64 T.low) (.int .i64 T.high) (.slice ta T.kids.length tc)) w.heap.size T ta tc) := Lk.mk (S2.out.put T ta tc)
      have PO := Lk.mk (put6_only O.out w.heap.size (.int .i64 T.kind) (.string T.set) (.bool T.neg) (.int .i64 T.low) (.int .i64 T.high) (.slice ta T.kids.length tc) (by omega))
      have PP := Lk.mk (P.out.put w.heap.size (by omega) (.int .i64 T.kind) (.string T.set) (.bool T.neg) (.int .i64 T.low) (.int .i64 T.high) (.slice ta T.kids.length tc))
      have PK := Lk.mk (K.out.put w.heap.size HGF.out (.int .i64 T.kind) (.string T.set) (.bool T.neg) (.int .i64 T.low) (.int .i64 T.high) (.slice ta T.kids.length tc))
      go_wp2_with fail
      change bodyPost _ _ _ _ _ (put6 w3 w.heap.size (.int .i64 T.kind) (.string T.set) (.bool T.neg) (.int .i64 T.low) (.int .i64 T.high) (.slice ta T.kids.length tc))
      generalize put6 w3 w.heap.size (.int .i64 T.kind) (.string T.set) (.bool T.neg) (.int .i64 T.low) (.int .i64 T.high) (.slice ta T.kids.length tc) = W at h6 PO PP PK ⊢
      obtain ⟨y0, y1, y2, y3, y4, y5, _⟩ := h6.out.cells
      replace y0 : _ = some (Value.int .i64 T.kind) := y0
      replace y1 : _ = some (Value.string T.set) := y1
      replace y2 : _ = some (Value.bool T.neg) := y2
      replace y3 : _ = some (Value.int .i64 T.low) := y3
      replace y4 : _ = some (Value.int .i64 T.high) := y4
      replace y5 : _ = some (Value.slice ta T.kids.length tc) := y5
      refine bodyPost_ret (v := .agg #[.int .i64 T.kind, .string T.set, .bool T.neg, .int .i64 T.low, .int .i64 T.high, .slice ta T.kids.length tc]) (by simp [results, Tryd.results53, go_sem, y0, y1, y2, y3, y4, y5]) rfl ⟨PO.out, ?_⟩
      rw [HE.out, HRES.out]
      exact ⟨ta, tc, tF, rfl, PK.out, HLF.out, HNI.out, PP.out⟩
    case false =>
     have A91 := Lib.hid h91
     have e91 : ((cc.toNat : Int) == 91) = false := by rw [HCC.out]; exact (at_is (s := s) (i := i) 91 91 rfl hi).trans h91
     clear h91
     cases h42 : atB s i 42
     case true =>
      have A42 := Lib.hid h42
      have e42 : ((cc.toNat : Int) == 42) = true := by rw [HCC.out]; exact (at_is (s := s) (i := i) 42 42 rfl hi).trans h42
      clear h42
      have P := Lib.hid P.out.setBad
      have O := Lib.hid (O.out.set 2 (.bool true))
      have S2 := Lib.hid (S2.out.cell B 2 (by omega) (.bool true))
      have HE : Hid (PR.item s (f + 1) d i = none) := Lib.hid (by
        rw [PR.item]
        simp only [A46.out, A94.out, A36.out, A91.out, A42.out, if_true, if_false, Bool.false_eq_true, Bool.or_false, Bool.or_true, Bool.true_or, Bool.false_or])
      obtain ⟨z0, z1, z2, z3, z4, z5, z6⟩ := S2.out.cells
      have z60 := z6 0
      have z61 := z6 1
      have z62 := z6 2
      have z63 := z6 3
      have z64 := z6 4
      have z65 := z6 5
      clear z6
      have h6 : Lk (Six (put6 ((w1.setCell ⟨B, 1, none⟩ (.int .i64 ((i : Int) + 1))).setCell ⟨B, 2, none⟩ (.bool true)) w.heap.size (.int .i64 0) (.string ⟨#[]⟩) (.bool false) (.int .i64 0) (.int .i64 0) (.slice none 0 0)) w.heap.size (PR.leaf 0) none 0) := Lk.mk (S2.out.put (PR.leaf 0) none 0)
      have PO := Lk.mk (put6_only O.out w.heap.size (.int .i64 0) (.string ⟨#[]⟩) (.bool false) (.int .i64 0) (.int .i64 0) (.slice none 0 0) (by omega))
      have PP := Lk.mk (P.out.put w.heap.size (by omega) (.int .i64 0) (.string ⟨#[]⟩) (.bool false) (.int .i64 0) (.int .i64 0) (.slice none 0 0))
      go_wp2_with fail
      change bodyPost _ _ _ _ _ (put6 ((w1.setCell ⟨B, 1, none⟩ (.int .i64 ((i : Int) + 1))).setCell ⟨B, 2, none⟩ (.bool true)) w.heap.size (.int .i64 0) (.string ⟨#[]⟩) (.bool false) (.int .i64 0) (.int .i64 0) (.slice none 0 0))
      generalize put6 ((w1.setCell ⟨B, 1, none⟩ (.int .i64 ((i : Int) + 1))).setCell ⟨B, 2, none⟩ (.bool true)) w.heap.size (.int .i64 0) (.string ⟨#[]⟩) (.bool false) (.int .i64 0) (.int .i64 0) (.slice none 0 0) = W at h6 PO PP ⊢
      obtain ⟨y0, y1, y2, y3, y4, y5, _⟩ := h6.out.cells
      replace y0 : _ = some (Value.int .i64 0) := y0
      replace y1 : _ = some (Value.string ⟨#[]⟩) := y1
      replace y2 : _ = some (Value.bool false) := y2
      replace y3 : _ = some (Value.int .i64 0) := y3
      replace y4 : _ = some (Value.int .i64 0) := y4
      replace y5 : _ = some (Value.slice none 0 0) := y5
      refine bodyPost_ret (v := .agg #[.int .i64 0, .string ⟨#[]⟩, .bool false, .int .i64 0, .int .i64 0, .slice none 0 0]) (by simp [results, Tryd.results53, go_sem, y0, y1, y2, y3, y4, y5]) rfl ⟨PO.out, ?_⟩
      rw [HE.out]
      exact ⟨PR.leaf 0, none, 0, i + 1, rfl, by omega, PP.out⟩
     case false =>
      have A42 := Lib.hid h42
      have e42 : ((cc.toNat : Int) == 42) = false := by rw [HCC.out]; exact (at_is (s := s) (i := i) 42 42 rfl hi).trans h42
      clear h42
      cases h43 : atB s i 43
      case true =>
       have A43 := Lib.hid h43
       have e43 : ((cc.toNat : Int) == 43) = true := by rw [HCC.out]; exact (at_is (s := s) (i := i) 43 43 rfl hi).trans h43
       clear h43
       have P := Lib.hid P.out.setBad
       have O := Lib.hid (O.out.set 2 (.bool true))
       have S2 := Lib.hid (S2.out.cell B 2 (by omega) (.bool true))
       have HE : Hid (PR.item s (f + 1) d i = none) := Lib.hid (by
         rw [PR.item]
         simp only [A46.out, A94.out, A36.out, A91.out, A42.out, A43.out, if_true, if_false, Bool.false_eq_true, Bool.or_false, Bool.or_true, Bool.true_or, Bool.false_or])
       obtain ⟨z0, z1, z2, z3, z4, z5, z6⟩ := S2.out.cells
       have z60 := z6 0
       have z61 := z6 1
       have z62 := z6 2
       have z63 := z6 3
       have z64 := z6 4
       have z65 := z6 5
       clear z6
       have h6 : Lk (Six (put6 ((w1.setCell ⟨B, 1, none⟩ (.int .i64 ((i : Int) + 1))).setCell ⟨B, 2, none⟩ (.bool true)) w.heap.size (.int .i64 0) (.string ⟨#[]⟩) (.bool false) (.int .i64 0) (.int .i64 0) (.slice none 0 0)) w.heap.size (PR.leaf 0) none 0) := Lk.mk (S2.out.put (PR.leaf 0) none 0)
       have PO := Lk.mk (put6_only O.out w.heap.size (.int .i64 0) (.string ⟨#[]⟩) (.bool false) (.int .i64 0) (.int .i64 0) (.slice none 0 0) (by omega))
       have PP := Lk.mk (P.out.put w.heap.size (by omega) (.int .i64 0) (.string ⟨#[]⟩) (.bool false) (.int .i64 0) (.int .i64 0) (.slice none 0 0))
       go_wp2_with fail
       change bodyPost _ _ _ _ _ (put6 ((w1.setCell ⟨B, 1, none⟩ (.int .i64 ((i : Int) + 1))).setCell ⟨B, 2, none⟩ (.bool true)) w.heap.size (.int .i64 0) (.string ⟨#[]⟩) (.bool false) (.int .i64 0) (.int .i64 0) (.slice none 0 0))
       generalize put6 ((w1.setCell ⟨B, 1, none⟩ (.int .i64 ((i : Int) + 1))).setCell ⟨B, 2, none⟩ (.bool true)) w.heap.size (.int .i64 0) (.string ⟨#[]⟩) (.bool false) (.int .i64 0) (.int .i64 0) (.slice none 0 0) = W at h6 PO PP ⊢
       obtain ⟨y0, y1, y2, y3, y4, y5, _⟩ := h6.out.cells
       replace y0 : _ = some (Value.int .i64 0) := y0
       replace y1 : _ = some (Value.string ⟨#[]⟩) := y1
       replace y2 : _ = some (Value.bool false) := y2
       replace y3 : _ = some (Value.int .i64 0) := y3
       replace y4 : _ = some (Value.int .i64 0) := y4
       replace y5 : _ = some (Value.slice none 0 0) := y5
       refine bodyPost_ret (v := .agg #[.int .i64 0, .string ⟨#[]⟩, .bool false, .int .i64 0, .int .i64 0, .slice none 0 0]) (by simp [results, Tryd.results53, go_sem, y0, y1, y2, y3, y4, y5]) rfl ⟨PO.out, ?_⟩
       rw [HE.out]
       exact ⟨PR.leaf 0, none, 0, i + 1, rfl, by omega, PP.out⟩
      case false =>
       have A43 := Lib.hid h43
       have e43 : ((cc.toNat : Int) == 43) = false := by rw [HCC.out]; exact (at_is (s := s) (i := i) 43 43 rfl hi).trans h43
       clear h43
       cases h63 : atB s i 63
       case true =>
        have A63 := Lib.hid h63
        have e63 : ((cc.toNat : Int) == 63) = true := by rw [HCC.out]; exact (at_is (s := s) (i := i) 63 63 rfl hi).trans h63
        clear h63
        have P := Lib.hid P.out.setBad
        have O := Lib.hid (O.out.set 2 (.bool true))
        have S2 := Lib.hid (S2.out.cell B 2 (by omega) (.bool true))
        have HE : Hid (PR.item s (f + 1) d i = none) := Lib.hid (by
          rw [PR.item]
          simp only [A46.out, A94.out, A36.out, A91.out, A42.out, A43.out, A63.out, if_true, if_false, Bool.false_eq_true, Bool.or_false, Bool.or_true, Bool.true_or, Bool.false_or])
        obtain ⟨z0, z1, z2, z3, z4, z5, z6⟩ := S2.out.cells
        have z60 := z6 0
        have z61 := z6 1
        have z62 := z6 2
        have z63 := z6 3
        have z64 := z6 4
        have z65 := z6 5
        clear z6
        have h6 : Lk (Six (put6 ((w1.setCell ⟨B, 1, none⟩ (.int .i64 ((i : Int) + 1))).setCell ⟨B, 2, none⟩ (.bool true)) w.heap.size (.int .i64 0) (.string ⟨#[]⟩) (.bool false) (.int .i64 0) (.int .i64 0) (.slice none 0 0)) w.heap.size (PR.leaf 0) none 0) := Lk.mk (S2.out.put (PR.leaf 0) none 0)
        have PO := Lk.mk (put6_only O.out w.heap.size (.int .i64 0) (.string ⟨#[]⟩) (.bool false) (.int .i64 0) (.int .i64 0) (.slice none 0 0) (by omega))
        have PP := Lk.mk (P.out.put w.heap.size (by omega) (.int .i64 0) (.string ⟨#[]⟩) (.bool false) (.int .i64 0) (.int .i64 0) (.slice none 0 0))
        go_wp2_with fail
        change bodyPost _ _ _ _ _ (put6 ((w1.setCell ⟨B, 1, none⟩ (.int .i64 ((i : Int) + 1))).setCell ⟨B, 2, none⟩ (.bool true)) w.heap.size (.int .i64 0) (.string ⟨#[]⟩) (.bool false) (.int .i64 0) (.int .i64 0) (.slice none 0 0))
        generalize put6 ((w1.setCell ⟨B, 1, none⟩ (.int .i64 ((i : Int) + 1))).setCell ⟨B, 2, none⟩ (.bool true)) w.heap.size (.int .i64 0) (.string ⟨#[]⟩) (.bool false) (.int .i64 0) (.int .i64 0) (.slice none 0 0) = W at h6 PO PP ⊢
        obtain ⟨y0, y1, y2, y3, y4, y5, _⟩ := h6.out.cells
        replace y0 : _ = some (Value.int .i64 0) := y0
        replace y1 : _ = some (Value.string ⟨#[]⟩) := y1
        replace y2 : _ = some (Value.bool false) := y2
        replace y3 : _ = some (Value.int .i64 0) := y3
        replace y4 : _ = some (Value.int .i64 0) := y4
        replace y5 : _ = some (Value.slice none 0 0) := y5
        refine bodyPost_ret (v := .agg #[.int .i64 0, .string ⟨#[]⟩, .bool false, .int .i64 0, .int .i64 0, .slice none 0 0]) (by simp [results, Tryd.results53, go_sem, y0, y1, y2, y3, y4, y5]) rfl ⟨PO.out, ?_⟩
        rw [HE.out]
        exact ⟨PR.leaf 0, none, 0, i + 1, rfl, by omega, PP.out⟩
       case false =>
        have A63 := Lib.hid h63
        have e63 : ((cc.toNat : Int) == 63) = false := by rw [HCC.out]; exact (at_is (s := s) (i := i) 63 63 rfl hi).trans h63
        clear h63
        cases h123 : atB s i 123
        case true =>
         have A123 := Lib.hid h123
         have e123 : ((cc.toNat : Int) == 123) = true := by rw [HCC.out]; exact (at_is (s := s) (i := i) 123 123 rfl hi).trans h123
         clear h123
         have P := Lib.hid P.out.setBad
         have O := Lib.hid (O.out.set 2 (.bool true))
         have S2 := Lib.hid (S2.out.cell B 2 (by omega) (.bool true))
         have HE : Hid (PR.item s (f + 1) d i = none) := Lib.hid (by
           rw [PR.item]
           simp only [A46.out, A94.out, A36.out, A91.out, A42.out, A43.out, A63.out, A123.out, if_true, if_false, Bool.false_eq_true, Bool.or_false, Bool.or_true, Bool.true_or, Bool.false_or])
         obtain ⟨z0, z1, z2, z3, z4, z5, z6⟩ := S2.out.cells
         have z60 := z6 0
         have z61 := z6 1
         have z62 := z6 2
         have z63 := z6 3
         have z64 := z6 4
         have z65 := z6 5
         clear z6
         have h6 : Lk (Six (put6 ((w1.setCell ⟨B, 1, none⟩ (.int .i64 ((i : Int) + 1))).setCell ⟨B, 2, none⟩ (.bool true)) w.heap.size (.int .i64 0) (.string ⟨#[]⟩) (.bool false) (.int .i64 0) (.int .i64 0) (.slice none 0 0)) w.heap.size (PR.leaf 0) none 0) := Lk.mk (S2.out.put (PR.leaf 0) none 0)
         have PO := Lk.mk (put6_only O.out w.heap.size (.int .i64 0) (.string ⟨#[]⟩) (.bool false) (.int .i64 0) (.int .i64 0) (.slice none 0 0) (by omega))
         have PP := Lk.mk (P.out.put w.heap.size (by omega) (.int .i64 0) (.string ⟨#[]⟩) (.bool false) (.int .i64 0) (.int .i64 0) (.slice none 0 0))
         go_wp2_with fail
         change bodyPost _ _ _ _ _ (put6 ((w1.setCell ⟨B, 1, none⟩ (.int .i64 ((i : Int) + 1))).setCell ⟨B, 2, none⟩ (.bool true)) w.heap.size (.int .i64 0) (.string ⟨#[]⟩) (.bool false) (.int .i64 0) (.int .i64 0) (.slice none 0 0))
         generalize put6 ((w1.setCell ⟨B, 1, none⟩ (.int .i64 ((i : Int) + 1))).setCell ⟨B, 2, none⟩ (.bool true)) w.heap.size (.int .i64 0) (.string ⟨#[]⟩) (.bool false) (.int .i64 0) (.int .i64 0) (.slice none 0 0) = W at h6 PO PP ⊢
         obtain ⟨y0, y1, y2, y3, y4, y5, _⟩ := h6.out.cells
         replace y0 : _ = some (Value.int .i64 0) := y0
         replace y1 : _ = some (Value.string ⟨#[]⟩) := y1
         replace y2 : _ = some (Value.bool false) := y2
         replace y3 : _ = some (Value.int .i64 0) := y3
         replace y4 : _ = some (Value.int .i64 0) := y4
         replace y5 : _ = some (Value.slice none 0 0) := y5
         refine bodyPost_ret (v := .agg #[.int .i64 0, .string ⟨#[]⟩, .bool false, .int .i64 0, .int .i64 0, .slice none 0 0]) (by simp [results, Tryd.results53, go_sem, y0, y1, y2, y3, y4, y5]) rfl ⟨PO.out, ?_⟩
         rw [HE.out]
         exact ⟨PR.leaf 0, none, 0, i + 1, rfl, by omega, PP.out⟩
        case false =>
         have A123 := Lib.hid h123
         have e123 : ((cc.toNat : Int) == 123) = false := by rw [HCC.out]; exact (at_is (s := s) (i := i) 123 123 rfl hi).trans h123
         clear h123
         cases h40 : atB s i 40
         case true =>
          have A40 := Lib.hid h40
          have e40 : ((cc.toNat : Int) == 40) = true := by rw [HCC.out]; exact (at_is (s := s) (i := i) 40 40 rfl hi).trans h40
          clear h40
          by_cases hd0 : d = 0
          ·have hdi : (d : Int) ≤ 0 := by omega
           have P := Lib.hid P.out.setBad
           have O := Lib.hid (O.out.set 2 (.bool true))
           have S2 := Lib.hid (S2.out.cell B 2 (by omega) (.bool true))
           have HE : Hid (PR.item s (f + 1) d i = none) := Lib.hid (by
             rw [PR.item]
             simp only [A46.out, A94.out, A36.out, A91.out, A42.out, A43.out, A63.out, A123.out, A40.out, if_true, if_false, Bool.false_eq_true, Bool.or_false, Bool.or_true, Bool.true_or, Bool.false_or]
             rw [if_pos hd0])
           obtain ⟨z0, z1, z2, z3, z4, z5, z6⟩ := S2.out.cells
           have z60 := z6 0
           have z61 := z6 1
           have z62 := z6 2
           have z63 := z6 3
           have z64 := z6 4
           have z65 := z6 5
           clear z6
           have h6 : Lk (Six (put6 ((w1.setCell ⟨B, 1, none⟩ (.int .i64 ((i : Int) + 1))).setCell ⟨B, 2, none⟩ (.bool true)) w.heap.size (.int .i64 0) (.string ⟨#[]⟩) (.bool false) (.int .i64 0) (.int .i64 0) (.slice none 0 0)) w.heap.size (PR.leaf 0) none 0) := Lk.mk (S2.out.put (PR.leaf 0) none 0)
           have PO := Lk.mk (put6_only O.out w.heap.size (.int .i64 0) (.string ⟨#[]⟩) (.bool false) (.int .i64 0) (.int .i64 0) (.slice none 0 0) (by omega))
           have PP := Lk.mk (P.out.put w.heap.size (by omega) (.int .i64 0) (.string ⟨#[]⟩) (.bool false) (.int .i64 0) (.int .i64 0) (.slice none 0 0))
           go_wp2_with fail
           change bodyPost _ _ _ _ _ (put6 ((w1.setCell ⟨B, 1, none⟩ (.int .i64 ((i : Int) + 1))).setCell ⟨B, 2, none⟩ (.bool true)) w.heap.size (.int .i64 0) (.string ⟨#[]⟩) (.bool false) (.int .i64 0) (.int .i64 0) (.slice none 0 0))
           generalize put6 ((w1.setCell ⟨B, 1, none⟩ (.int .i64 ((i : Int) + 1))).setCell ⟨B, 2, none⟩ (.bool true)) w.heap.size (.int .i64 0) (.string ⟨#[]⟩) (.bool false) (.int .i64 0) (.int .i64 0) (.slice none 0 0) = W at h6 PO PP ⊢
           obtain ⟨y0, y1, y2, y3, y4, y5, _⟩ := h6.out.cells
           replace y0 : _ = some (Value.int .i64 0) := y0
           replace y1 : _ = some (Value.string ⟨#[]⟩) := y1
           replace y2 : _ = some (Value.bool false) := y2
           replace y3 : _ = some (Value.int .i64 0) := y3
           replace y4 : _ = some (Value.int .i64 0) := y4
           replace y5 : _ = some (Value.slice none 0 0) := y5
           refine bodyPost_ret (v := .agg #[.int .i64 0, .string ⟨#[]⟩, .bool false, .int .i64 0, .int .i64 0, .slice none 0 0]) (by simp [results, Tryd.results53, go_sem, y0, y1, y2, y3, y4, y5]) rfl ⟨PO.out, ?_⟩
           rw [HE.out]
           exact ⟨PR.leaf 0, none, 0, i + 1, rfl, by omega, PP.out⟩
          ·have hdi : ¬ (d : Int) ≤ 0 := by omega
           have hdw : IntKind.i64.wrap ((d : Int) - 1) = ((d - 1 : Nat) : Int) := by rw [IntWalk.i64_in _ (by omega)]; omega
           have HGI : Hid (PR.item s (f + 1) d i = match PR.alts s f (d - 1) (i + 1) with | none => none | some x => if atB s x.2 41 then some (alT x.1, x.2 + 1) else none) := Lib.hid (by
             rw [PR.item]
             simp only [A46.out, A94.out, A36.out, A91.out, A42.out, A43.out, A63.out, A123.out, A40.out, if_true, if_false, Bool.false_eq_true, Bool.or_false, Bool.or_true, Bool.true_or, Bool.false_or]
             rw [if_neg hd0]
             rfl)
           go_wp2_with fail
           (first | rw [hdw] | skip)
           refine (HA.out B s (i + 1) _ (d - 1) hs P.out (by omega) (by omega) (by omega)).mono ?_
           rintro e w3 ⟨o, hp⟩
           clear h0 h1 h2 h3 h4 h5
           clear hdw
           have hw1 := o.size
           have O := Lib.hid (O.out.trans o)
           have S2 := Lib.hid (S2.out.only o (by omega))
           clear o
           cases hres : PR.alts s f (d - 1) (i + 1) with
           | none =>
            rw [hres] at hp
            simp only [Option.map_none] at hp
            obtain ⟨T, ta, tc, j, rfl, hj, p⟩ := hp
            have HE : Hid (PR.item s (f + 1) d i = none) := Lib.hid (by rw [HGI.out, hres])
            have P := Lib.hid p
            clear hres p
            unfold reV
            have bx : Below w3.heap.size w3 (w3.alloc (.cells #[.int .i64 T.kind, .string T.set, .bool T.neg, .int .i64 T.low, .int .i64 T.high, .slice ta T.kids.length tc] 26)) := (Below.refl _ _).alloc (Nat.le_refl _) _
            have hw3 := O.out.size
            have hS3 := S2.out.lt
            have hR3 := P.out.lt
            have S4 : Hid (Six (w3.alloc (.cells #[.int .i64 T.kind, .string T.set, .bool T.neg, .int .i64 T.low, .int .i64 T.high, .slice ta T.kids.length tc] 26)) w3.heap.size T ta tc) := Lib.hid (six_new rfl rfl)
            have S2 := Lib.hid (S2.out.kept bx)
            have O := Lib.hid (O.out.trans (OnlyB.of_below bx))
            have P := Lib.hid (P.out.kept bx)
            clear bx
            go_wp2_with fail
            generalize (w3.alloc (.cells #[.int .i64 T.kind, .string T.set, .bool T.neg, .int .i64 T.low, .int .i64 T.high, .slice ta T.kids.length tc] 26)) = w4 at *
            obtain ⟨g4, hg4⟩ : ∃ g4, g4 = w3.heap.size := ⟨_, rfl⟩
            have hg4a : w.heap.size < g4 := by omega
            have hg4b : B < g4 := by omega
            rw [← hg4] at S4 ⊢
            have HG4 := Lib.hid hg4
            clear hg4
            refine (pIs_any B s j true 41 41 rfl false _ hs2 P.out (by rfl)).mono ?_
            rintro e w5 ⟨rfl, hn⟩
            have o := OnlyB.drewAll (B := B) hn
            have p := P.out.drewAll hn
            clear hn
            have O := Lib.hid (O.out.trans o)
            have P := Lib.hid p
            have S2 := Lib.hid (S2.out.only o (by omega))
            have S4 := Lib.hid (S4.out.only o (by omega))
            clear o p
            obtain ⟨h0, h1, h2, h3, h4, h5⟩ := P.out
            have P := Lib.hid P.out.setBad
            have O := Lib.hid (O.out.set 2 (.bool true))
            have S2 := Lib.hid (S2.out.cell B 2 (by omega) (.bool true))
            have S4 := Lib.hid (S4.out.cell B 2 (by omega) (.bool true))
            have P := Lib.hid (P.out.setI (j + 1))
            have O := Lib.hid (O.out.set 1 (.int .i64 ((j + 1 : Nat) : Int)))
            have S2 := Lib.hid (S2.out.cell B 1 (by omega) (.int .i64 ((j + 1 : Nat) : Int)))
            have S4 := Lib.hid (S4.out.cell B 1 (by omega) (.int .i64 ((j + 1 : Nat) : Int)))
            rw [show ((j + 1 : Nat) : Int) = (j : Int) + 1 by omega] at P O S2 S4
            obtain ⟨z0, z1, z2, z3, z4, z5, z6⟩ := S2.out.cells
            have z60 := z6 0
            have z61 := z6 1
            have z62 := z6 2
            have z63 := z6 3
            have z64 := z6 4
            have z65 := z6 5
            clear z6
            obtain ⟨k0, k1, k2, k3, k4, k5, k6⟩ := S4.out.cells
            have k60 := k6 0
            have k61 := k6 1
            have k62 := k6 2
            have k63 := k6 3
            have k64 := k6 4
            have k65 := k6 5
            clear k6
            have h6 : Lk (Six (put6 ((w5.setCell ⟨B, 2, none⟩ (.bool true)).setCell ⟨B, 1, none⟩ (.int .i64 ((j : Int) + 1))) w.heap.size (.int .i64 T.kind) (.string T.set) (.bool T.neg) (.int .i64 T.low) (.int .i64 T.high) (.slice ta T.kids.length tc)) w.heap.size T ta tc) := Lk.mk (S2.out.put T ta tc)
            have PO := Lk.mk (put6_only O.out w.heap.size (.int .i64 T.kind) (.string T.set) (.bool T.neg) (.int .i64 T.low) (.int .i64 T.high) (.slice ta T.kids.length tc) (by omega))
            have PP := Lk.mk (P.out.put w.heap.size (by omega) (.int .i64 T.kind) (.string T.set) (.bool T.neg) (.int .i64 T.low) (.int .i64 T.high) (.slice ta T.kids.length tc))
            go_wp2_with fail
            change bodyPost _ _ _ _ _ (put6 ((w5.setCell ⟨B, 2, none⟩ (.bool true)).setCell ⟨B, 1, none⟩ (.int .i64 ((j : Int) + 1))) w.heap.size (.int .i64 T.kind) (.string T.set) (.bool T.neg) (.int .i64 T.low) (.int .i64 T.high) (.slice ta T.kids.length tc))
            generalize put6 ((w5.setCell ⟨B, 2, none⟩ (.bool true)).setCell ⟨B, 1, none⟩ (.int .i64 ((j : Int) + 1))) w.heap.size (.int .i64 T.kind) (.string T.set) (.bool T.neg) (.int .i64 T.low) (.int .i64 T.high) (.slice ta T.kids.length tc) = W at h6 PO PP ⊢
            obtain ⟨y0, y1, y2, y3, y4, y5, _⟩ := h6.out.cells
            replace y0 : _ = some (Value.int .i64 T.kind) := y0
            replace y1 : _ = some (Value.string T.set) := y1
            replace y2 : _ = some (Value.bool T.neg) := y2
            replace y3 : _ = some (Value.int .i64 T.low) := y3
            replace y4 : _ = some (Value.int .i64 T.high) := y4
            replace y5 : _ = some (Value.slice ta T.kids.length tc) := y5
            refine bodyPost_ret (v := .agg #[.int .i64 T.kind, .string T.set, .bool T.neg, .int .i64 T.low, .int .i64 T.high, .slice ta T.kids.length tc]) (by simp [results, Tryd.results53, go_sem, y0, y1, y2, y3, y4, y5]) rfl ⟨PO.out, ?_⟩
            rw [HE.out]
            exact ⟨T, ta, tc, j + 1, rfl, by omega, PP.out⟩
           | some x =>
            obtain ⟨ts, j⟩ := x
            rw [hres] at hp
            simp only [Option.map_some] at hp
            obtain ⟨ta, tc, tF, rfl, k, hkl, hni, p⟩ := hp
            have hj := ((PR.adv s f).1 (d - 1) (i + 1) _ (by omega) hres)
            simp only at hj
            have HGJ : Hid (PR.item s (f + 1) d i = if atB s j 41 then some (alT ts, j + 1) else none) := Lib.hid (by rw [HGI.out, hres])
            generalize alT ts = T at *
            have P := Lib.hid p
            have K := Lib.hid k
            have HKL := Lib.hid hkl
            have HNI := Lib.hid hni
            clear hres p k hkl hni
            unfold reV
            have bx : Below w3.heap.size w3 (w3.alloc (.cells #[.int .i64 T.kind, .string T.set, .bool T.neg, .int .i64 T.low, .int .i64 T.high, .slice ta T.kids.length tc] 26)) := (Below.refl _ _).alloc (Nat.le_refl _) _
            have hw3 := O.out.size
            have hS3 := S2.out.lt
            have hR3 := P.out.lt
            have S4 : Hid (Six (w3.alloc (.cells #[.int .i64 T.kind, .string T.set, .bool T.neg, .int .i64 T.low, .int .i64 T.high, .slice ta T.kids.length tc] 26)) w3.heap.size T ta tc) := Lib.hid (six_new rfl rfl)
            have S2 := Lib.hid (S2.out.kept bx)
            have O := Lib.hid (O.out.trans (OnlyB.of_below bx))
            have P := Lib.hid (P.out.kept bx)
            have K := Lib.hid (K.out.kept bx)
            clear bx
            have HBF : Hid (B ∉ tF) := Lib.hid (fun h => by have := HKL.out _ h; (first | omega | (simp at this; omega)))
            have HGF : Hid (w.heap.size ∉ tF) := Lib.hid (fun h => by have := HKL.out _ h; (first | omega | (simp at this; omega)))
            have HLF : Hid (∀ y ∈ tF, w.heap.size ≤ y) := Lib.hid (fun y hy => by have := HKL.out y hy; (first | omega | (simp at this; omega)))
            clear HKL
            cases h41 : atB s j 41
            case true =>
             have H41 := Lib.hid h41
             have HE : Hid (PR.item s (f + 1) d i = some (T, j + 1)) := Lib.hid (by rw [HGJ.out, h41]; rfl)
             clear h41
             go_wp2_with fail
             generalize (w3.alloc (.cells #[.int .i64 T.kind, .string T.set, .bool T.neg, .int .i64 T.low, .int .i64 T.high, .slice ta T.kids.length tc] 26)) = w4 at *
             obtain ⟨g4, hg4⟩ : ∃ g4, g4 = w3.heap.size := ⟨_, rfl⟩
             have hg4a : w.heap.size < g4 := by omega
             have hg4b : B < g4 := by omega
             rw [← hg4] at S4 ⊢
             have HG4 := Lib.hid hg4
             clear hg4
             refine (pIs_any B s j false 41 41 rfl true _ hs2 P.out (by rw [H41.out]; rfl)).mono ?_
             rintro e w5 ⟨rfl, hn⟩
             have o := OnlyB.drewAll (B := B) hn
             have p := P.out.drewAll hn
             clear hn
             have O := Lib.hid (O.out.trans o)
             have P := Lib.hid p
             have S2 := Lib.hid (S2.out.only o (by omega))
             have S4 := Lib.hid (S4.out.only o (by omega))
             have K := Lib.hid (K.out.only o HBF.out)
             clear o p
             obtain ⟨h0, h1, h2, h3, h4, h5⟩ := P.out
             have P := Lib.hid (P.out.setI (j + 1))
             have O := Lib.hid (O.out.set 1 (.int .i64 ((j + 1 : Nat) : Int)))
             have S2 := Lib.hid (S2.out.cell B 1 (by omega) (.int .i64 ((j + 1 : Nat) : Int)))
             have S4 := Lib.hid (S4.out.cell B 1 (by omega) (.int .i64 ((j + 1 : Nat) : Int)))
             rw [show ((j + 1 : Nat) : Int) = (j : Int) + 1 by omega] at P O S2 S4
             have K := Lib.hid (K.out.of (w' := w5.setCell ⟨B, 1, none⟩ (.int .i64 ((j : Int) + 1))) (fun b hb => Below.heap_setCell _ ⟨B, 1, none⟩ _ b (fun e => HBF.out (by rw [← show b = B from e]; exact hb))))
             obtain ⟨z0, z1, z2, z3, z4, z5, z6⟩ := S2.out.cells
             have z60 := z6 0
             have z61 := z6 1
             have z62 := z6 2
             have z63 := z6 3
             have z64 := z6 4
             have z65 := z6 5
             clear z6
             obtain ⟨k0, k1, k2, k3, k4, k5, k6⟩ := S4.out.cells
             have k60 := k6 0
             have k61 := k6 1
             have k62 := k6 2
             have k63 := k6 3
             have k64 := k6 4
             have k65 := k6 5
             clear k6
             have h6 : Lk (Six (put6 (w5.setCell ⟨B, 1, none⟩ (.int .i64 ((j : Int) + 1))) w.heap.size (.int .i64 T.kind) (.string T.set) (.bool T.neg) (.int .i64 T.low) (.int .i64 T.high) (.slice ta T.kids.length tc)) w.heap.size T ta tc) := Lk.mk (S2.out.put T ta tc)
             have PO := Lk.mk (put6_only O.out w.heap.size (.int .i64 T.kind) (.string T.set) (.bool T.neg) (.int .i64 T.low) (.int .i64 T.high) (.slice ta T.kids.length tc) (by omega))
             have PP := Lk.mk (P.out.put w.heap.size (by omega) (.int .i64 T.kind) (.string T.set) (.bool T.neg) (.int .i64 T.low) (.int .i64 T.high) (.slice ta T.kids.length tc))
             have PK := Lk.mk (K.out.put w.heap.size HGF.out (.int .i64 T.kind) (.string T.set) (.bool T.neg) (.int .i64 T.low) (.int .i64 T.high) (.slice ta T.kids.length tc))
             go_wp2_with fail
             change bodyPost _ _ _ _ _ (put6 (w5.setCell ⟨B, 1, none⟩ (.int .i64 ((j : Int) + 1))) w.heap.size (.int .i64 T.kind) (.string T.set) (.bool T.neg) (.int .i64 T.low) (.int .i64 T.high) (.slice ta T.kids.length tc))
             generalize put6 (w5.setCell ⟨B, 1, none⟩ (.int .i64 ((j : Int) + 1))) w.heap.size (.int .i64 T.kind) (.string T.set) (.bool T.neg) (.int .i64 T.low) (.int .i64 T.high) (.slice ta T.kids.length tc) = W at h6 PO PP PK ⊢
             obtain ⟨y0, y1, y2, y3, y4, y5, _⟩ := h6.out.cells
             replace y0 : _ = some (Value.int .i64 T.kind) := y0
             replace y1 : _ = some (Value.string T.set) := y1
             replace y2 : _ = some (Value.bool T.neg) := y2
             replace y3 : _ = some (Value.int .i64 T.low) := y3
             replace y4 : _ = some (Value.int .i64 T.high) := y4
             replace y5 : _ = some (Value.slice ta T.kids.length tc) := y5
             refine bodyPost_ret (v := .agg #[.int .i64 T.kind, .string T.set, .bool T.neg, .int .i64 T.low, .int .i64 T.high, .slice ta T.kids.length tc]) (by simp [results, Tryd.results53, go_sem, y0, y1, y2, y3, y4, y5]) rfl ⟨PO.out, ?_⟩
             rw [HE.out]
             exact ⟨ta, tc, tF, rfl, PK.out, HLF.out, HNI.out, PP.out⟩
            case false =>
             have H41 := Lib.hid h41
             have HE : Hid (PR.item s (f + 1) d i = none) := Lib.hid (by rw [HGJ.out, h41]; rfl)
             clear h41
             go_wp2_with fail
             generalize (w3.alloc (.cells #[.int .i64 T.kind, .string T.set, .bool T.neg, .int .i64 T.low, .int .i64 T.high, .slice ta T.kids.length tc] 26)) = w4 at *
             obtain ⟨g4, hg4⟩ : ∃ g4, g4 = w3.heap.size := ⟨_, rfl⟩
             have hg4a : w.heap.size < g4 := by omega
             have hg4b : B < g4 := by omega
             rw [← hg4] at S4 ⊢
             have HG4 := Lib.hid hg4
             clear hg4
             refine (pIs_any B s j false 41 41 rfl false _ hs2 P.out (by rw [H41.out]; rfl)).mono ?_
             rintro e w5 ⟨rfl, hn⟩
             have o := OnlyB.drewAll (B := B) hn
             have p := P.out.drewAll hn
             clear hn
             have O := Lib.hid (O.out.trans o)
             have P := Lib.hid p
             have S2 := Lib.hid (S2.out.only o (by omega))
             have S4 := Lib.hid (S4.out.only o (by omega))
             clear o p K
             obtain ⟨h0, h1, h2, h3, h4, h5⟩ := P.out
             have P := Lib.hid P.out.setBad
             have O := Lib.hid (O.out.set 2 (.bool true))
             have S2 := Lib.hid (S2.out.cell B 2 (by omega) (.bool true))
             have S4 := Lib.hid (S4.out.cell B 2 (by omega) (.bool true))
             have P := Lib.hid (P.out.setI (j + 1))
             have O := Lib.hid (O.out.set 1 (.int .i64 ((j + 1 : Nat) : Int)))
             have S2 := Lib.hid (S2.out.cell B 1 (by omega) (.int .i64 ((j + 1 : Nat) : Int)))
             have S4 := Lib.hid (S4.out.cell B 1 (by omega) (.int .i64 ((j + 1 : Nat) : Int)))
             rw [show ((j + 1 : Nat) : Int) = (j : Int) + 1 by omega] at P O S2 S4
             obtain ⟨z0, z1, z2, z3, z4, z5, z6⟩ := S2.out.cells
             have z60 := z6 0
             have z61 := z6 1
             have z62 := z6 2
             have z63 := z6 3
             have z64 := z6 4
             have z65 := z6 5
             clear z6
             obtain ⟨k0, k1, k2, k3, k4, k5, k6⟩ := S4.out.cells
             have k60 := k6 0
             have k61 := k6 1
             have k62 := k6 2
             have k63 := k6 3
             have k64 := k6 4
             have k65 := k6 5
             clear k6
             have h6 : Lk (Six (put6 ((w5.setCell ⟨B, 2, none⟩ (.bool true)).setCell ⟨B, 1, none⟩ (.int .i64 ((j : Int) + 1))) w.heap.size (.int .i64 T.kind) (.string T.set) (.bool T.neg) (.int .i64 T.low) (.int .i64 T.high) (.slice ta T.kids.length tc)) w.heap.size T ta tc) := Lk.mk (S2.out.put T ta tc)
             have PO := Lk.mk (put6_only O.out w.heap.size (.int .i64 T.kind) (.string T.set) (.bool T.neg) (.int .i64 T.low) (.int .i64 T.high) (.slice ta T.kids.length tc) (by omega))
             have PP := Lk.mk (P.out.put w.heap.size (by omega) (.int .i64 T.kind) (.string T.set) (.bool T.neg) (.int .i64 T.low) (.int .i64 T.high) (.slice ta T.kids.length tc))
             go_wp2_with fail
             change bodyPost _ _ _ _ _ (put6 ((w5.setCell ⟨B, 2, none⟩ (.bool true)).setCell ⟨B, 1, none⟩ (.int .i64 ((j : Int) + 1))) w.heap.size (.int .i64 T.kind) (.string T.set) (.bool T.neg) (.int .i64 T.low) (.int .i64 T.high) (.slice ta T.kids.length tc))
             generalize put6 ((w5.setCell ⟨B, 2, none⟩ (.bool true)).setCell ⟨B, 1, none⟩ (.int .i64 ((j : Int) + 1))) w.heap.size (.int .i64 T.kind) (.string T.set) (.bool T.neg) (.int .i64 T.low) (.int .i64 T.high) (.slice ta T.kids.length tc) = W at h6 PO PP ⊢
             obtain ⟨y0, y1, y2, y3, y4, y5, _⟩ := h6.out.cells
             replace y0 : _ = some (Value.int .i64 T.kind) := y0
             replace y1 : _ = some (Value.string T.set) := y1
             replace y2 : _ = some (Value.bool T.neg) := y2
             replace y3 : _ = some (Value.int .i64 T.low) := y3
             replace y4 : _ = some (Value.int .i64 T.high) := y4
             replace y5 : _ = some (Value.slice ta T.kids.length tc) := y5
             refine bodyPost_ret (v := .agg #[.int .i64 T.kind, .string T.set, .bool T.neg, .int .i64 T.low, .int .i64 T.high, .slice ta T.kids.length tc]) (by simp [results, Tryd.results53, go_sem, y0, y1, y2, y3, y4, y5]) rfl ⟨PO.out, ?_⟩
             rw [HE.out]
             exact ⟨T, ta, tc, j + 1, rfl, by omega, PP.out⟩
         case false =>
          have A40 := Lib.hid h40
          have e40 : ((cc.toNat : Int) == 40) = false := by rw [HCC.out]; exact (at_is (s := s) (i := i) 40 40 rfl hi).trans h40
          clear h40
          cases h92 : atB s i 92
          case true =>
           have A92 := Lib.hid h92
           have e92 : ((cc.toNat : Int) == 92) = true := by rw [HCC.out]; exact (at_is (s := s) (i := i) 92 92 rfl hi).trans h92
           clear h92
           go_wp2_with fail
           generalize (w1.setCell ⟨B, 1, none⟩ (.int .i64 ((i : Int) + 1))) = w2 at *
           obtain ⟨p, hp⟩ : ∃ p, p = i + 1 := ⟨_, rfl⟩
           rw [← hp] at P
           have HP := Lib.hid hp
           have hp1 : p ≤ i + 1 := by omega
           clear hp
           clear h0 h1 h2 h3 h4 h5
           obtain ⟨h0, h1, h2, h3, h4, h5⟩ := P.out
           have p0 : (0 : Int) ≤ (p : Int) := by omega
           by_cases hj : p < s.size
           ·have d1 : decide (s.size ≤ p) = false := by simp; omega
            have d2 : decide ((s.size : Int) ≤ (p : Int)) = false := by simp; omega
            have p1 : (p : Int) < (s.size : Int) := by omega
            go_quiet (fail)
            have O := Lib.hid (O.out.drewN nq)
            have P := Lib.hid (P.out.drewN nq)
            have S2 : Hid (Six (w2.drewN nq) _ _ _ _) := Lib.hid S2.out
            generalize w2.drewN nq = w3 at *
            clear h0 h1 h2 h3 h4 h5
            obtain ⟨h0, h1, h2, h3, h4, h5⟩ := P.out
            have P := Lib.hid (P.out.setI (p + 1))
            have O := Lib.hid (O.out.set 1 (.int .i64 ((p + 1 : Nat) : Int)))
            have S2 := Lib.hid (S2.out.cell B 1 (by omega) (.int .i64 ((p + 1 : Nat) : Int)))
            rw [show ((p + 1 : Nat) : Int) = (p : Int) + 1 by omega] at P O S2
            go_wp2_with fail
            generalize (w3.setCell ⟨B, 1, none⟩ (.int .i64 ((p : Int) + 1))) = w4 at *
            clear h0 h1 h2 h3 h4 h5
            obtain ⟨h0, h1, h2, h3, h4, h5⟩ := P.out
            have s1 : IntKind.i64.wrap ((p : Int) + 1 - 1) = (p : Int) := by rw [IntWalk.i64_in _ (by omega)]; omega
            rw [show ((p + 1 : Nat) : Int) = (p : Int) + 1 by omega] at h2
            obtain ⟨c2, hc2⟩ : ∃ c, c = at_ s p := ⟨_, rfl⟩
            have HC2 : Hid (s[p] = c2) := Lib.hid (by rw [hc2, at_eq s p hj])
            have HE : Hid (PR.item s (f + 1) d i = some (PR.oneT c2, p + 1)) := Lib.hid (by
              rw [PR.item]
              simp only [A46.out, A94.out, A36.out, A91.out, A42.out, A43.out, A63.out, A123.out, A40.out, A92.out, if_true, if_false, Bool.false_eq_true, Bool.or_false, Bool.or_true, Bool.true_or, Bool.false_or]
              rw [← HP.out, PR.escT, if_pos hj, ← hc2])
            clear hc2
            obtain ⟨z0, z1, z2, z3, z4, z5, z6⟩ := S2.out.cells
            have z60 := z6 0
            have z61 := z6 1
            have z62 := z6 2
            have z63 := z6 3
            have z64 := z6 4
            have z65 := z6 5
            clear z6
            have s1b : IntKind.i64.wrap (p : Int) = (p : Int) := IntWalk.i64_in _ (by omega)
            have hpN : p < s.size := hj
            have hc3 : (c2.toNat : Int) = (s[p].toNat : Int) := by rw [HC2.out]
            go_region_with (go_at_call 34; refine (one_any c2 _ hc3 _).mono ?_; rintro e w5 ⟨rfl, hb5⟩; unfold reV; have q2 := Lib.hid (Six.after2 S2.out hb5 rfl); have p5 := Lib.hid (Par.after2 P.out hb5 rfl); have o5 : Hid (OnlyB B w w5) := Lib.hid (by first | exact O.out.trans (OnlyB.of_below hb5) | exact O.out.drew1.trans (OnlyB.of_below hb5) | exact (O.out.drewN _).trans (OnlyB.of_below hb5)); obtain ⟨x0, x1, x2, x3, x4, x5, x6⟩ := q2.out.cells; have x60 := x6 0; have x61 := x6 1; have x62 := x6 2; have x63 := x6 3; have x64 := x6 4; have x65 := x6 5; clear x6)
            all_goals
             have h6 : Lk (Six (put6 w5 w.heap.size (.int .i64 2) (.string ⟨#[c2]⟩) (.bool false) (.int .i64 0) (.int .i64 0) (.slice none 0 0)) w.heap.size (PR.oneT c2) none 0) := Lk.mk (q2.out.put (PR.oneT c2) none 0)
             have PO := Lk.mk (put6_only o5.out w.heap.size (.int .i64 2) (.string ⟨#[c2]⟩) (.bool false) (.int .i64 0) (.int .i64 0) (.slice none 0 0) (by omega))
             have PP := Lk.mk (p5.out.put w.heap.size (by omega) (.int .i64 2) (.string ⟨#[c2]⟩) (.bool false) (.int .i64 0) (.int .i64 0) (.slice none 0 0))
             go_wp2_with fail
             change bodyPost _ _ _ _ _ (put6 w5 w.heap.size (.int .i64 2) (.string ⟨#[c2]⟩) (.bool false) (.int .i64 0) (.int .i64 0) (.slice none 0 0))
             generalize put6 w5 w.heap.size (.int .i64 2) (.string ⟨#[c2]⟩) (.bool false) (.int .i64 0) (.int .i64 0) (.slice none 0 0) = W at h6 PO PP ⊢
             obtain ⟨y0, y1, y2, y3, y4, y5, _⟩ := h6.out.cells
             replace y0 : _ = some (Value.int .i64 2) := y0
             replace y1 : _ = some (Value.string ⟨#[c2]⟩) := y1
             replace y2 : _ = some (Value.bool false) := y2
             replace y3 : _ = some (Value.int .i64 0) := y3
             replace y4 : _ = some (Value.int .i64 0) := y4
             replace y5 : _ = some (Value.slice none 0 0) := y5
             refine bodyPost_ret (v := .agg #[.int .i64 2, .string ⟨#[c2]⟩, .bool false, .int .i64 0, .int .i64 0, .slice none 0 0]) (by simp [results, Tryd.results53, go_sem, y0, y1, y2, y3, y4, y5]) rfl ⟨PO.out, ?_⟩
             rw [HE.out]
             exact ⟨none, 0, [], rfl, KF.nil _, fun y hy => absurd hy (by simp), ⟨(by show 1 ≤ 256; omega), (by show 0 ≤ 2; omega)⟩, PP.out⟩
           ·have d1 : decide (s.size ≤ p) = true := by simp; omega
            have d2 : decide ((s.size : Int) ≤ (p : Int)) = true := by simp; omega
            go_quiet (fail)
            have O := Lib.hid (O.out.drewN nq)
            have P := Lib.hid (P.out.drewN nq)
            have S2 : Hid (Six (w2.drewN nq) _ _ _ _) := Lib.hid S2.out
            generalize w2.drewN nq = w3 at *
            clear h0 h1 h2 h3 h4 h5
            obtain ⟨h0, h1, h2, h3, h4, h5⟩ := P.out
            have P := Lib.hid P.out.setBad
            have O := Lib.hid (O.out.set 2 (.bool true))
            have S2 := Lib.hid (S2.out.cell B 2 (by omega) (.bool true))
            have HE : Hid (PR.item s (f + 1) d i = none) := Lib.hid (by
              rw [PR.item]
              simp only [A46.out, A94.out, A36.out, A91.out, A42.out, A43.out, A63.out, A123.out, A40.out, A92.out, if_true, if_false, Bool.false_eq_true, Bool.or_false, Bool.or_true, Bool.true_or, Bool.false_or]
              rw [← HP.out, PR.escT, if_neg hj])
            obtain ⟨z0, z1, z2, z3, z4, z5, z6⟩ := S2.out.cells
            have z60 := z6 0
            have z61 := z6 1
            have z62 := z6 2
            have z63 := z6 3
            have z64 := z6 4
            have z65 := z6 5
            clear z6
            have h6 : Lk (Six (put6 (w3.setCell ⟨B, 2, none⟩ (.bool true)) w.heap.size (.int .i64 0) (.string ⟨#[]⟩) (.bool false) (.int .i64 0) (.int .i64 0) (.slice none 0 0)) w.heap.size (PR.leaf 0) none 0) := Lk.mk (S2.out.put (PR.leaf 0) none 0)
            have PO := Lk.mk (put6_only O.out w.heap.size (.int .i64 0) (.string ⟨#[]⟩) (.bool false) (.int .i64 0) (.int .i64 0) (.slice none 0 0) (by omega))
            have PP := Lk.mk (P.out.put w.heap.size (by omega) (.int .i64 0) (.string ⟨#[]⟩) (.bool false) (.int .i64 0) (.int .i64 0) (.slice none 0 0))
            go_wp2_with fail
            change bodyPost _ _ _ _ _ (put6 (w3.setCell ⟨B, 2, none⟩ (.bool true)) w.heap.size (.int .i64 0) (.string ⟨#[]⟩) (.bool false) (.int .i64 0) (.int .i64 0) (.slice none 0 0))
            generalize put6 (w3.setCell ⟨B, 2, none⟩ (.bool true)) w.heap.size (.int .i64 0) (.string ⟨#[]⟩) (.bool false) (.int .i64 0) (.int .i64 0) (.slice none 0 0) = W at h6 PO PP ⊢
            obtain ⟨y0, y1, y2, y3, y4, y5, _⟩ := h6.out.cells
            replace y0 : _ = some (Value.int .i64 0) := y0
            replace y1 : _ = some (Value.string ⟨#[]⟩) := y1
            replace y2 : _ = some (Value.bool false) := y2
            replace y3 : _ = some (Value.int .i64 0) := y3
            replace y4 : _ = some (Value.int .i64 0) := y4
            replace y5 : _ = some (Value.slice none 0 0) := y5
            refine bodyPost_ret (v := .agg #[.int .i64 0, .string ⟨#[]⟩, .bool false, .int .i64 0, .int .i64 0, .slice none 0 0]) (by simp [results, Tryd.results53, go_sem, y0, y1, y2, y3, y4, y5]) rfl ⟨PO.out, ?_⟩
            rw [HE.out]
            exact ⟨PR.leaf 0, none, 0, p, rfl, by omega, PP.out⟩
          case false =>
           have A92 := Lib.hid h92
           have e92 : ((cc.toNat : Int) == 92) = false := by rw [HCC.out]; exact (at_is (s := s) (i := i) 92 92 rfl hi).trans h92
           clear h92
           go_wp2_with fail
           refine (one_spec cc _).mono ?_
           rintro e w3 ⟨rfl, hb⟩
           clear h0 h1 h2 h3 h4 h5
           unfold reV
           have P := Lib.hid (P.out.kept hb)
           have S2 := Lib.hid (S2.out.kept hb)
           have O := Lib.hid (O.out.trans (OnlyB.of_below hb))
           clear hb
           have HE : Hid (PR.item s (f + 1) d i = some ((PR.oneT cc), i + 1)) := Lib.hid (by
             rw [PR.item]
             simp only [A46.out, A94.out, A36.out, A91.out, A42.out, A43.out, A63.out, A123.out, A40.out, A92.out, if_false, Bool.false_eq_true, Bool.or_false, Bool.or_true, Bool.true_or, Bool.false_or]
             rw [← HCC.out])
           obtain ⟨z0, z1, z2, z3, z4, z5, z6⟩ := S2.out.cells
           have z60 := z6 0
           have z61 := z6 1
           have z62 := z6 2
           have z63 := z6 3
           have z64 := z6 4
           have z65 := z6 5
           clear z6
           have h6 : Lk (Six (put6 w3 w.heap.size (.int .i64 2) (.string ⟨#[cc]⟩) (.bool false) (.int .i64 0) (.int .i64 0) (.slice none 0 0)) w.heap.size (PR.oneT cc) none 0) := Lk.mk (S2.out.put (PR.oneT cc) none 0)
           have PO := Lk.mk (put6_only O.out w.heap.size (.int .i64 2) (.string ⟨#[cc]⟩) (.bool false) (.int .i64 0) (.int .i64 0) (.slice none 0 0) (by omega))
           have PP := Lk.mk (P.out.put w.heap.size (by omega) (.int .i64 2) (.string ⟨#[cc]⟩) (.bool false) (.int .i64 0) (.int .i64 0) (.slice none 0 0))
           go_wp2_with fail
           change bodyPost _ _ _ _ _ (put6 w3 w.heap.size (.int .i64 2) (.string ⟨#[cc]⟩) (.bool false) (.int .i64 0) (.int .i64 0) (.slice none 0 0))
           generalize put6 w3 w.heap.size (.int .i64 2) (.string ⟨#[cc]⟩) (.bool false) (.int .i64 0) (.int .i64 0) (.slice none 0 0) = W at h6 PO PP ⊢
           obtain ⟨y0, y1, y2, y3, y4, y5, _⟩ := h6.out.cells
           replace y0 : _ = some (Value.int .i64 2) := y0
           replace y1 : _ = some (Value.string ⟨#[cc]⟩) := y1
           replace y2 : _ = some (Value.bool false) := y2
           replace y3 : _ = some (Value.int .i64 0) := y3
           replace y4 : _ = some (Value.int .i64 0) := y4
           replace y5 : _ = some (Value.slice none 0 0) := y5
           refine bodyPost_ret (v := .agg #[.int .i64 2, .string ⟨#[cc]⟩, .bool false, .int .i64 0, .int .i64 0, .slice none 0 0]) (by simp [results, Tryd.results53, go_sem, y0, y1, y2, y3, y4, y5]) rfl ⟨PO.out, ?_⟩
           rw [HE.out]
           exact ⟨none, 0, [], rfl, KF.nil _, fun y hy => absurd hy (by simp), ⟨(by show 1 ≤ 256; omega), (by show 0 ≤ 2; omega)⟩, PP.out⟩
end Go.Proofs.YtcpaneaiobnhdaaDoor.kit
/-
 Contracts of spec.l04Cat and spec.l04Alt over this seat's translation: parts of an expression for texts one behind the other, parts between bars. Conditions: the reader's cells are known; there is fuel enough.
-/
namespace Go.Proofs.YtcpaneaiobnhdaaDoor.kit
open Go.ChangeShapes Go.WideShapes Go.ChangeAt Go.RowKit
set_option linter.unusedVariables false
set_option linter.unusedSimpArgs false
open PR

theorem Par.drew1 {w : World} {B : Nat} {s : ByteArray} {i : Nat} {bad : Bool} (c : Par w B s i bad) : Par w.drew B s i bad := ⟨c.lt, c.c0, c.c1, c.c2, c.f1, c.f2⟩
theorem ends_lt {s : ByteArray} {i : Nat} (h : PR.ends s i = false) : i < s.size := by
 unfold PR.ends at h; simp at h; omega
theorem cats_cons {s : ByteArray} {f d i : Nat} {x : List RT × Nat} (he : PR.ends s i = false) (h : PR.cats s f d i = some x) : ∃ t ts, x.1 = t :: ts := by
 cases f with
 | zero => simp [PR.cats] at h
 | succ f =>
  rw [PR.cats, he] at h
  simp only [Bool.false_eq_true, if_false] at h
  split at h
  ·cases h
  ·split at h
   ·cases h
   ·split at h
    ·cases h
    ·cases h; exact ⟨_, _, rfl⟩
theorem alts_cons {s : ByteArray} {f d i : Nat} {x : List RT × Nat} (h : PR.alts s f d i = some x) : ∃ t ts, x.1 = t :: ts := by
 cases f with
 | zero => simp [PR.alts] at h
 | succ f =>
  rw [PR.alts] at h
  split at h
  ·cases h
  ·split at h
   ·split at h
    ·cases h
    ·cases h; exact ⟨_, _, rfl⟩
   ·cases h; exact ⟨_, _, rfl⟩
/-- What a pair of trees makes. -/
def pairW (w : World) (g : Nat) (k : Int) (r s : RV) : World :=
 (put6 w g (.int .i64 k) (.string ⟨#[]⟩) (.bool false) (.int .i64 0) (.int .i64 0) (.slice (some ⟨w.heap.size, 0, none⟩) 2 2)).alloc (.cells #[.int .i64 r.t.kind, .string r.t.set, .bool r.t.neg, .int .i64 r.t.low, .int .i64 r.t.high, .slice r.a r.t.kids.length r.c,
  .int .i64 s.t.kind, .string s.t.set, .bool s.t.neg, .int .i64 s.t.low, .int .i64 s.t.high, .slice s.a s.t.kids.length s.c] 26)
theorem pair_heap {w : World} {g b : Nat} {k : Int} {r s : RV} (hb : b < w.heap.size) (hg : b ≠ g) : (pairW w g k r s).heap[b]? = w.heap[b]? := by
 unfold pairW
 rw [heap_alloc_old _ _ (by rw [put6_size]; exact hb), put6_off _ _ _ _ _ _ _ _ _ hg]
theorem pair_base {w w0 : World} {g B i : Nat} {k : Int} {r s : RV} {t : RT} {a : Option Addr} {c : Nat} {str : ByteArray} {bad : Bool} (h6 : Six w g t a c) (ho : OnlyB B w0 w) (hg : w0.heap.size ≤ g) (hp : Par w B str i bad) (hne : g ≠ B) :
  Six (pairW w g k r s) g (PR.pairT k r.t s.t) (some ⟨w.heap.size, 0, none⟩) 2 ∧ OnlyB B w0 (pairW w g k r s) ∧ Par (pairW w g k r s) B str i bad := by
 have hgl := h6.lt
 have ba : Below (put6 w g (.int .i64 k) (.string ⟨#[]⟩) (.bool false) (.int .i64 0) (.int .i64 0) (.slice (some ⟨w.heap.size, 0, none⟩) 2 2)).heap.size (put6 w g (.int .i64 k) (.string ⟨#[]⟩) (.bool false) (.int .i64 0) (.int .i64 0) (.slice (some ⟨w.heap.size, 0, none⟩) 2 2)) (pairW w g k r s) := (Below.refl _ _).alloc (Nat.le_refl _) _
 exact ⟨(h6.put (PR.pairT k r.t s.t) (some ⟨w.heap.size, 0, none⟩) 2).kept ba, (put6_only ho g _ _ _ _ _ _ hg).trans (OnlyB.of_below ba), (hp.put g hne _ _ _ _ _ _).kept ba⟩
theorem pair_kf {w : World} {g : Nat} {k : Int} {r s : RV} (hr : KF w r.t.kids r.a r.F) (hs : KF w s.t.kids s.a s.F) (hn : Nice r.t) (hn' : Nice s.t) (hg : g ∉ r.F) (hg' : g ∉ s.F) (ha : apartF r s) :
  KF (pairW w g k r s) (PR.pairT k r.t s.t).kids (some ⟨w.heap.size, 0, none⟩) (w.heap.size :: (r.F ++ s.F)) := by
 refine KF.two (r := r) (s := s) (cs := #[.int .i64 r.t.kind, .string r.t.set, .bool r.t.neg, .int .i64 r.t.low, .int .i64 r.t.high, .slice r.a r.t.kids.length r.c, .int .i64 s.t.kind, .string s.t.set, .bool s.t.neg, .int .i64 s.t.low, .int .i64 s.t.high, .slice s.a s.t.kids.length s.c]) (e := 26) ?_ rfl hn hn' (hr.of fun b hb => ?_) (hs.of fun b hb => ?_) (fun h => by have := hr.lt _ h; omega) (fun h => by have := hs.lt _ h; omega) ha
 ·have := heap_alloc_new (put6 w g (.int .i64 k) (.string ⟨#[]⟩) (.bool false) (.int .i64 0) (.int .i64 0) (.slice (some ⟨w.heap.size, 0, none⟩) 2 2)) (.cells #[.int .i64 r.t.kind, .string r.t.set, .bool r.t.neg, .int .i64 r.t.low, .int .i64 r.t.high, .slice r.a r.t.kids.length r.c, .int .i64 s.t.kind, .string s.t.set, .bool s.t.neg, .int .i64 s.t.low, .int .i64 s.t.high, .slice s.a s.t.kids.length s.c] 26)
  rw [put6_size] at this; exact this
 ·exact pair_heap (hr.lt b hb) (fun e => hg (e ▸ hb))
 ·exact pair_heap (hs.lt b hb) (fun e => hg' (e ▸ hb))
set_option maxRecDepth 100000 in
set_option maxHeartbeats 2000000 in
theorem times_bad (B : Nat) (s : ByteArray) (i : Nat) (t : RT) (a : Option Addr) (c : Nat) (w : World) (hs : s.size ≤ 4000) (hr : Par w B s i true) :
  Calls Tryd.prog 52 #[.pointer (some ⟨B, 0, none⟩), reV t a c] w fun e w' => e = .returned (reV t a c) ∧ Par w' B s i true ∧ OnlyB B w w' := by
 have hs2 : s.size ≤ 1048576 := by omega
 have hBl := hr.lt
 obtain ⟨t6, t7⟩ := six_two w (.cells #[.int .i64 t.kind, .string t.set, .bool t.neg, .int .i64 t.low, .int .i64 t.high, .slice a t.kids.length c] 26) (.cells #[.int .i64 0, .string ⟨#[]⟩, .bool false, .int .i64 0, .int .i64 0, .slice none 0 0] 26)
 have b2 : Below w.heap.size w ((w.alloc (.cells #[.int .i64 t.kind, .string t.set, .bool t.neg, .int .i64 t.low, .int .i64 t.high, .slice a t.kids.length c] 26)).alloc (.cells #[.int .i64 0, .string ⟨#[]⟩, .bool false, .int .i64 0, .int .i64 0, .slice none 0 0] 26)) := ((Below.refl w.heap.size w).alloc (Nat.le_refl _) _).alloc (by simp) _
 have O := Lib.hid (OnlyB.of_below (B := B) b2)
 have P := Lib.hid (hr.kept b2)
 have S1 : Hid (Six _ w.heap.size t a c) := Lib.hid t6
 have S2 : Hid (Six _ (w.heap.size + 1) (PR.leaf 0) none 0) := Lib.hid t7
 clear t6 t7 b2 hr
 unfold reV
 go_enter Tryd.func52, Tryd.ntmps52
 go_wp2_with fail
 refine (pIs_any B s i true 42 42 rfl false _ hs2 P.out rfl).mono ?_
 rintro e w1 ⟨rfl, hn⟩
 have o := OnlyB.drewAll (B := B) hn
 have p := P.out.drewAll hn
 clear hn
 have O := Lib.hid (O.out.trans o)
 have P := Lib.hid p
 have S1 := Lib.hid (S1.out.only o (by omega))
 have S2 := Lib.hid (S2.out.only o (by omega))
 clear o p
 go_wp2_with fail
 refine (pIs_any B s i true 43 43 rfl false _ hs2 P.out rfl).mono ?_
 rintro e w2 ⟨rfl, hn⟩
 have o := OnlyB.drewAll (B := B) hn
 have p := P.out.drewAll hn
 clear hn
 have O := Lib.hid (O.out.trans o)
 have P := Lib.hid p
 have S1 := Lib.hid (S1.out.only o (by omega))
 have S2 := Lib.hid (S2.out.only o (by omega))
 clear o p
 go_wp2_with fail
 refine (pIs_any B s i true 63 63 rfl false _ hs2 P.out rfl).mono ?_
 rintro e w3 ⟨rfl, hn⟩
 have o := OnlyB.drewAll (B := B) hn
 have p := P.out.drewAll hn
 clear hn
 have O := Lib.hid (O.out.trans o)
 have P := Lib.hid p
 have S1 := Lib.hid (S1.out.only o (by omega))
 have S2 := Lib.hid (S2.out.only o (by omega))
 clear o p
 go_wp2_with fail
 refine (pIs_any B s i true 123 123 rfl false _ hs2 P.out rfl).mono ?_
 rintro e w4 ⟨rfl, hn⟩
 have o := OnlyB.drewAll (B := B) hn
 have p := P.out.drewAll hn
 clear hn
 have O := Lib.hid (O.out.trans o)
 have P := Lib.hid p
 have S1 := Lib.hid (S1.out.only o (by omega))
 have S2 := Lib.hid (S2.out.only o (by omega))
 clear o p
 obtain ⟨k0, k1, k2, k3, k4, k5, k6⟩ := S1.out.cells
 have k60 := k6 0
 have k61 := k6 1
 have k62 := k6 2
 have k63 := k6 3
 have k64 := k6 4
 have k65 := k6 5
 clear k6
 obtain ⟨z0, z1, z2, z3, z4, z5, z6⟩ := S2.out.cells
 have z60 := z6 0
 have z61 := z6 1
 have z62 := z6 2
 have z63 := z6 3
 have z64 := z6 4
 have z65 := z6 5
 clear z6
 have hzO := O.out.size
 have h6 : Lk (Six (put6 w4 (w.heap.size + 1) (.int .i64 t.kind) (.string t.set) (.bool t.neg) (.int .i64 t.low) (.int .i64 t.high) (.slice a t.kids.length c)) (w.heap.size + 1) t a c) := Lk.mk (S2.out.put t a c)
 have PO := Lk.mk (put6_only O.out (w.heap.size + 1) (.int .i64 t.kind) (.string t.set) (.bool t.neg) (.int .i64 t.low) (.int .i64 t.high) (.slice a t.kids.length c) (by omega))
 have PP := Lk.mk (P.out.put (w.heap.size + 1) (by omega) (.int .i64 t.kind) (.string t.set) (.bool t.neg) (.int .i64 t.low) (.int .i64 t.high) (.slice a t.kids.length c))
 go_wp2_with fail
 change bodyPost _ _ _ _ _ (put6 w4 (w.heap.size + 1) (.int .i64 t.kind) (.string t.set) (.bool t.neg) (.int .i64 t.low) (.int .i64 t.high) (.slice a t.kids.length c))
 generalize put6 w4 (w.heap.size + 1) (.int .i64 t.kind) (.string t.set) (.bool t.neg) (.int .i64 t.low) (.int .i64 t.high) (.slice a t.kids.length c) = W at h6 PO PP ⊢
 obtain ⟨y0, y1, y2, y3, y4, y5, _⟩ := h6.out.cells
 refine bodyPost_ret (v := .agg #[.int .i64 t.kind, .string t.set, .bool t.neg, .int .i64 t.low, .int .i64 t.high, .slice a t.kids.length c]) (by simp [results, Tryd.results52, go_sem, y0, y1, y2, y3, y4, y5]) rfl ⟨rfl, PP.out, PO.out⟩
set_option maxRecDepth 100000 in
set_option maxHeartbeats 4000000 in
theorem catS_of (f : Nat) (hI : ItemS f) (hC : CatS f) : CatS (f + 1) := by
 intro B s i w d hs hr hi hd hf
 have hs2 : s.size ≤ 1048576 := by omega
 have HI := Lib.hid hI
 have HC := Lib.hid hC
 clear hI hC
 have hBl := hr.lt
 have b1 : Below w.heap.size w (w.alloc (.cells #[.int .i64 0, .string ⟨#[]⟩, .bool false, .int .i64 0, .int .i64 0, .slice none 0 0] 26)) := (Below.refl w.heap.size w).alloc (Nat.le_refl _) _
 have O := Lib.hid (OnlyB.of_below (B := B) b1)
 have P := Lib.hid (hr.kept b1)
 have S2 : Hid (Six _ w.heap.size (PR.leaf 0) none 0) := Lib.hid (heap_alloc_new w (.cells #[.int .i64 0, .string ⟨#[]⟩, .bool false, .int .i64 0, .int .i64 0, .slice none 0 0] 26))
 clear b1 hr
 go_enter Tryd.func38, Tryd.ntmps38
 cases he : PR.ends s i
 rotate_left
 ·have HE : Hid (PR.cats s (f + 1) d i = some ([], i)) := Lib.hid (by rw [PR.cats, he]; rfl)
  have HE0 := Lib.hid he
  clear he
  go_wp2_with fail
  refine (pEnds_any B s i false true _ hs2 P.out (by rw [HE0.out]; rfl)).mono ?_
  rintro e w1 ⟨rfl, hn⟩
  have o := OnlyB.drewAll (B := B) hn
  have p := P.out.drewAll hn
  clear hn
  have O := Lib.hid (O.out.trans o)
  have P := Lib.hid p
  have S2 := Lib.hid (S2.out.only o (by omega))
  clear o p
  obtain ⟨z0, z1, z2, z3, z4, z5, z6⟩ := S2.out.cells
  have z60 := z6 0
  have z61 := z6 1
  have z62 := z6 2
  have z63 := z6 3
  have z64 := z6 4
  have z65 := z6 5
  clear z6
  have hzO := O.out.size
  have h6 : Lk (Six (put6 w1 w.heap.size (.int .i64 0) (.string ⟨#[]⟩) (.bool false) (.int .i64 0) (.int .i64 0) (.slice none 0 0)) w.heap.size (PR.leaf 0) none 0) := Lk.mk (S2.out.put (PR.leaf 0) none 0)
  have PO := Lk.mk (put6_only O.out w.heap.size (.int .i64 0) (.string ⟨#[]⟩) (.bool false) (.int .i64 0) (.int .i64 0) (.slice none 0 0) (by omega))
  have PP := Lk.mk (P.out.put w.heap.size (by omega) (.int .i64 0) (.string ⟨#[]⟩) (.bool false) (.int .i64 0) (.int .i64 0) (.slice none 0 0))
  go_wp2_with fail
  change bodyPost _ _ _ _ _ (put6 w1 w.heap.size (.int .i64 0) (.string ⟨#[]⟩) (.bool false) (.int .i64 0) (.int .i64 0) (.slice none 0 0))
  generalize put6 w1 w.heap.size (.int .i64 0) (.string ⟨#[]⟩) (.bool false) (.int .i64 0) (.int .i64 0) (.slice none 0 0) = W at h6 PO PP ⊢
  obtain ⟨y0, y1, y2, y3, y4, y5, _⟩ := h6.out.cells
  replace y0 : _ = some (Value.int .i64 0) := y0
  replace y1 : _ = some (Value.string ⟨#[]⟩) := y1
  replace y2 : _ = some (Value.bool false) := y2
  replace y3 : _ = some (Value.int .i64 0) := y3
  replace y4 : _ = some (Value.int .i64 0) := y4
  replace y5 : _ = some (Value.slice none 0 0) := y5
  refine bodyPost_ret (v := .agg #[.int .i64 0, .string ⟨#[]⟩, .bool false, .int .i64 0, .int .i64 0, .slice none 0 0]) (by simp [results, Tryd.results38, go_sem, y0, y1, y2, y3, y4, y5]) rfl ⟨PO.out, ?_⟩
  rw [HE.out]
  exact ⟨none, 0, [], rfl, KF.nil _, fun y hy => absurd hy (by simp), ⟨(by show 0 ≤ 256; omega), (by show 0 ≤ 2; omega)⟩, PP.out⟩
 ·have hlt := ends_lt he
  have HE0 := Lib.hid he
  clear he
  go_wp2_with fail
  refine (pEnds_any B s i false false _ hs2 P.out (by rw [HE0.out]; rfl)).mono ?_
  rintro e w1 ⟨rfl, hn⟩
  have o := OnlyB.drewAll (B := B) hn
  have p := P.out.drewAll hn
  clear hn
  have O := Lib.hid (O.out.trans o)
  have P := Lib.hid p
  have S2 := Lib.hid (S2.out.only o (by omega))
  clear o p
  have O1 := O
  have S21 := S2
  have hw1 := O.out.size
  have hS1 := S2.out.lt
  have hP1 := P.out.lt
  go_wp2_with fail
  refine (HI.out B s i _ d hs P.out hlt hd (by omega)).mono ?_
  rintro e w2 ⟨o, hp⟩
  cases hit : PR.item s f d i with
  | none =>
   rw [hit] at hp
   obtain ⟨T, ta, tc, j, rfl, hj, p⟩ := hp
   have HE : Hid (PR.cats s (f + 1) d i = none) := Lib.hid (by rw [PR.cats, HE0.out, hit]; rfl)
   have P := Lib.hid p
   have O := Lib.hid (O.out.trans o)
   have S2 := Lib.hid (S2.out.only o (by omega))
   clear hit p o
   go_wp2_with fail
   refine (times_bad B s j T ta tc _ hs P.out).mono ?_
   rintro e w3 ⟨rfl, p, o⟩
   have P := Lib.hid p
   have O := Lib.hid (O.out.trans o)
   have S2 := Lib.hid (S2.out.only o (by omega))
   clear p o
   unfold reV
   have bx : Below w3.heap.size w3 (w3.alloc (.cells #[.int .i64 T.kind, .string T.set, .bool T.neg, .int .i64 T.low, .int .i64 T.high, .slice ta T.kids.length tc] 26)) := (Below.refl _ _).alloc (Nat.le_refl _) _
   have hw3 := O.out.size
   have hS3 := S2.out.lt
   have hR3 := P.out.lt
   have S4 : Hid (Six (w3.alloc (.cells #[.int .i64 T.kind, .string T.set, .bool T.neg, .int .i64 T.low, .int .i64 T.high, .slice ta T.kids.length tc] 26)) w3.heap.size T ta tc) := Lib.hid (six_new rfl rfl)
   have S2 := Lib.hid (S2.out.kept bx)
   have O := Lib.hid (O.out.trans (OnlyB.of_below bx))
   have P := Lib.hid (P.out.kept bx)
   clear bx
   go_wp2_with fail
   generalize (w3.alloc (.cells #[.int .i64 T.kind, .string T.set, .bool T.neg, .int .i64 T.low, .int .i64 T.high, .slice ta T.kids.length tc] 26)) = wb at *
   obtain ⟨g4, hg4⟩ : ∃ g4, g4 = w3.heap.size := ⟨_, rfl⟩
   have hg4a : w.heap.size < g4 := by omega
   have hg4b : B < g4 := by omega
   rw [← hg4] at S4 ⊢
   have HG4 := Lib.hid hg4
   clear hg4
   refine (pEnds_any B s j true true _ hs2 P.out rfl).mono ?_
   rintro e w5 ⟨rfl, hn⟩
   have o := OnlyB.drewAll (B := B) hn
   have p := P.out.drewAll hn
   clear hn
   have O := Lib.hid (O.out.trans o)
   have P := Lib.hid p
   have S2 := Lib.hid (S2.out.only o (by omega))
   have S4 := Lib.hid (S4.out.only o (by omega))
   clear o p
   obtain ⟨z0, z1, z2, z3, z4, z5, z6⟩ := S2.out.cells
   have z60 := z6 0
   have z61 := z6 1
   have z62 := z6 2
   have z63 := z6 3
   have z64 := z6 4
   have z65 := z6 5
   clear z6
   obtain ⟨k0, k1, k2, k3, k4, k5, k6⟩ := S4.out.cells
   have k60 := k6 0
   have k61 := k6 1
   have k62 := k6 2
   have k63 := k6 3
   have k64 := k6 4
   have k65 := k6 5
   clear k6
   have h6 : Lk (Six (put6 w5 w.heap.size (.int .i64 T.kind) (.string T.set) (.bool T.neg) (.int .i64 T.low) (.int .i64 T.high) (.slice ta T.kids.length tc)) w.heap.size T ta tc) := Lk.mk (S2.out.put T ta tc)
   have PO := Lk.mk (put6_only O.out w.heap.size (.int .i64 T.kind) (.string T.set) (.bool T.neg) (.int .i64 T.low) (.int .i64 T.high) (.slice ta T.kids.length tc) (by omega))
   have PP := Lk.mk (P.out.put w.heap.size (by omega) (.int .i64 T.kind) (.string T.set) (.bool T.neg) (.int .i64 T.low) (.int .i64 T.high) (.slice ta T.kids.length tc))
   go_wp2_with fail
   change bodyPost _ _ _ _ _ (put6 w5 w.heap.size (.int .i64 T.kind) (.string T.set) (.bool T.neg) (.int .i64 T.low) (.int .i64 T.high) (.slice ta T.kids.length tc))
   generalize put6 w5 w.heap.size (.int .i64 T.kind) (.string T.set) (.bool T.neg) (.int .i64 T.low) (.int .i64 T.high) (.slice ta T.kids.length tc) = W at h6 PO PP ⊢
   obtain ⟨y0, y1, y2, y3, y4, y5, _⟩ := h6.out.cells
   replace y0 : _ = some (Value.int .i64 T.kind) := y0
   replace y1 : _ = some (Value.string T.set) := y1
   replace y2 : _ = some (Value.bool T.neg) := y2
   replace y3 : _ = some (Value.int .i64 T.low) := y3
   replace y4 : _ = some (Value.int .i64 T.high) := y4
   replace y5 : _ = some (Value.slice ta T.kids.length tc) := y5
   refine bodyPost_ret (v := .agg #[.int .i64 T.kind, .string T.set, .bool T.neg, .int .i64 T.low, .int .i64 T.high, .slice ta T.kids.length tc]) (by simp [results, Tryd.results38, go_sem, y0, y1, y2, y3, y4, y5]) rfl ⟨PO.out, ?_⟩
   rw [HE.out]
   exact ⟨T, ta, tc, j, rfl, by omega, PP.out⟩
  | some x =>
   obtain ⟨T, j⟩ := x
   rw [hit] at hp
   obtain ⟨ta, tc, tF, rfl, k, hkl, hni, p⟩ := hp
   simp only at k hkl hni p
   have hj := ((PR.adv s f).2.2 d i _ hlt hit)
   simp only at hj
   have HIT := Lib.hid hit
   have P := Lib.hid p
   have K := Lib.hid k
   have KL := Lib.hid hkl
   have HNI := Lib.hid hni
   have O2 := Lib.hid o
   clear hit p k hkl hni o
   have HBF : Hid (B ∉ tF) := Lib.hid (fun h => by have := KL.out _ h; omega)
   go_wp2_with fail
   refine (times_spec B s j T ta tc tF _ hs (by omega) P.out K.out HBF.out HNI.out O2.out KL.out).mono ?_
   rintro e w3 ⟨o, hp⟩
   have O := Lib.hid (O1.out.trans o)
   have S2 := Lib.hid (S21.out.only o (by omega))
   clear o O2 K P HBF HNI KL S21 O1
   cases htm : PR.times s T j with
   | none =>
    rw [htm] at hp
    obtain ⟨U, ua, uc, m, rfl, hm, p⟩ := hp
    have HE : Hid (PR.cats s (f + 1) d i = none) := Lib.hid (by rw [PR.cats, HE0.out, HIT.out]; simp only [Bool.false_eq_true, if_false]; rw [htm])
    have P := Lib.hid p
    clear htm p
    unfold reV
    have bx : Below w3.heap.size w3 (w3.alloc (.cells #[.int .i64 U.kind, .string U.set, .bool U.neg, .int .i64 U.low, .int .i64 U.high, .slice ua U.kids.length uc] 26)) := (Below.refl _ _).alloc (Nat.le_refl _) _
    have hw3 := O.out.size
    have hS3 := S2.out.lt
    have hR3 := P.out.lt
    have S4 : Hid (Six (w3.alloc (.cells #[.int .i64 U.kind, .string U.set, .bool U.neg, .int .i64 U.low, .int .i64 U.high, .slice ua U.kids.length uc] 26)) w3.heap.size U ua uc) := Lib.hid (six_new rfl rfl)
    have S2 := Lib.hid (S2.out.kept bx)
    have O := Lib.hid (O.out.trans (OnlyB.of_below bx))
    have P := Lib.hid (P.out.kept bx)
    clear bx
    go_wp2_with fail
    generalize (w3.alloc (.cells #[.int .i64 U.kind, .string U.set, .bool U.neg, .int .i64 U.low, .int .i64 U.high, .slice ua U.kids.length uc] 26)) = wb at *
    obtain ⟨g4, hg4⟩ : ∃ g4, g4 = w3.heap.size := ⟨_, rfl⟩
    have hg4a : w.heap.size < g4 := by omega
    have hg4b : B < g4 := by omega
    rw [← hg4] at S4 ⊢
    have HG4 := Lib.hid hg4
    clear hg4
    refine (pEnds_any B s m true true _ hs2 P.out rfl).mono ?_
    rintro e w5 ⟨rfl, hn⟩
    have o := OnlyB.drewAll (B := B) hn
    have p := P.out.drewAll hn
    clear hn
    have O := Lib.hid (O.out.trans o)
    have P := Lib.hid p
    have S2 := Lib.hid (S2.out.only o (by omega))
    have S4 := Lib.hid (S4.out.only o (by omega))
    clear o p
    obtain ⟨z0, z1, z2, z3, z4, z5, z6⟩ := S2.out.cells
    have z60 := z6 0
    have z61 := z6 1
    have z62 := z6 2
    have z63 := z6 3
    have z64 := z6 4
    have z65 := z6 5
    clear z6
    obtain ⟨k0, k1, k2, k3, k4, k5, k6⟩ := S4.out.cells
    have k60 := k6 0
    have k61 := k6 1
    have k62 := k6 2
    have k63 := k6 3
    have k64 := k6 4
    have k65 := k6 5
    clear k6
    have h6 : Lk (Six (put6 w5 w.heap.size (.int .i64 U.kind) (.string U.set) (.bool U.neg) (.int .i64 U.low) (.int .i64 U.high) (.slice ua U.kids.length uc)) w.heap.size U ua uc) := Lk.mk (S2.out.put U ua uc)
    have PO := Lk.mk (put6_only O.out w.heap.size (.int .i64 U.kind) (.string U.set) (.bool U.neg) (.int .i64 U.low) (.int .i64 U.high) (.slice ua U.kids.length uc) (by omega))
    have PP := Lk.mk (P.out.put w.heap.size (by omega) (.int .i64 U.kind) (.string U.set) (.bool U.neg) (.int .i64 U.low) (.int .i64 U.high) (.slice ua U.kids.length uc))
    go_wp2_with fail
    change bodyPost _ _ _ _ _ (put6 w5 w.heap.size (.int .i64 U.kind) (.string U.set) (.bool U.neg) (.int .i64 U.low) (.int .i64 U.high) (.slice ua U.kids.length uc))
    generalize put6 w5 w.heap.size (.int .i64 U.kind) (.string U.set) (.bool U.neg) (.int .i64 U.low) (.int .i64 U.high) (.slice ua U.kids.length uc) = W at h6 PO PP ⊢
    obtain ⟨y0, y1, y2, y3, y4, y5, _⟩ := h6.out.cells
    replace y0 : _ = some (Value.int .i64 U.kind) := y0
    replace y1 : _ = some (Value.string U.set) := y1
    replace y2 : _ = some (Value.bool U.neg) := y2
    replace y3 : _ = some (Value.int .i64 U.low) := y3
    replace y4 : _ = some (Value.int .i64 U.high) := y4
    replace y5 : _ = some (Value.slice ua U.kids.length uc) := y5
    refine bodyPost_ret (v := .agg #[.int .i64 U.kind, .string U.set, .bool U.neg, .int .i64 U.low, .int .i64 U.high, .slice ua U.kids.length uc]) (by simp [results, Tryd.results38, go_sem, y0, y1, y2, y3, y4, y5]) rfl ⟨PO.out, ?_⟩
    rw [HE.out]
    exact ⟨U, ua, uc, m, rfl, by omega, PP.out⟩
   | some y =>
    obtain ⟨U, m⟩ := y
    rw [htm] at hp
    obtain ⟨ua, uc, uF, rfl, k, hkl, hni, p⟩ := hp
    simp only at k hkl hni p
    have hm := PR.times_adv hj.2 htm
    simp only at hm
    have HTM := Lib.hid htm
    have P := Lib.hid p
    have K := Lib.hid k
    have KL := Lib.hid (fun y hy => K.out.lt y hy)
    have HNI := Lib.hid hni
    have HBF : Hid (B ∉ uF) := Lib.hid (fun h => by have := hkl _ h; omega)
    have HGF : Hid (w.heap.size ∉ uF) := Lib.hid (fun h => by have := hkl _ h; omega)
    have HLF : Hid (∀ y ∈ uF, w.heap.size ≤ y) := Lib.hid (fun y hy => by have := hkl y hy; omega)
    clear htm p k hkl hni
    unfold reV
    have bx : Below w3.heap.size w3 (w3.alloc (.cells #[.int .i64 U.kind, .string U.set, .bool U.neg, .int .i64 U.low, .int .i64 U.high, .slice ua U.kids.length uc] 26)) := (Below.refl _ _).alloc (Nat.le_refl _) _
    have hw3 := O.out.size
    have hS3 := S2.out.lt
    have hR3 := P.out.lt
    have S4 : Hid (Six (w3.alloc (.cells #[.int .i64 U.kind, .string U.set, .bool U.neg, .int .i64 U.low, .int .i64 U.high, .slice ua U.kids.length uc] 26)) w3.heap.size U ua uc) := Lib.hid (six_new rfl rfl)
    have S2 := Lib.hid (S2.out.kept bx)
    have O := Lib.hid (O.out.trans (OnlyB.of_below bx))
    have P := Lib.hid (P.out.kept bx)
    have K := Lib.hid (K.out.kept bx)
    have HLT := Lib.hid (fun y hy => K.out.lt y hy)
    have HG4F : Hid (w3.heap.size ∉ uF) := Lib.hid (fun h => by have := KL.out _ h; omega)
    clear bx
    go_wp2_with fail
    generalize (w3.alloc (.cells #[.int .i64 U.kind, .string U.set, .bool U.neg, .int .i64 U.low, .int .i64 U.high, .slice ua U.kids.length uc] 26)) = wb at *
    obtain ⟨g4, hg4⟩ : ∃ g4, g4 = w3.heap.size := ⟨_, rfl⟩
    have hg4a : w.heap.size < g4 := by omega
    have hg4b : B < g4 := by omega
    rw [← hg4] at S4 HG4F ⊢
    have HG4 := Lib.hid hg4
    clear hg4
    cases he2 : PR.ends s m
    rotate_left
    ·have HE2 := Lib.hid he2
     have HE : Hid (PR.cats s (f + 1) d i = some ([U], m)) := Lib.hid (by
      obtain ⟨f, rfl⟩ : ∃ f', f = f' + 1 := ⟨f - 1, by omega⟩
      rw [PR.cats, HE0.out, HIT.out]
      simp only [Bool.false_eq_true, if_false]
      rw [HTM.out]
      simp only
      rw [PR.cats, he2]; rfl)
     clear he2
     refine (pEnds_any B s m false true _ hs2 P.out (by rw [HE2.out]; rfl)).mono ?_
     rintro e w5 ⟨rfl, hn⟩
     have o := OnlyB.drewAll (B := B) hn
     have p := P.out.drewAll hn
     clear hn
     have O := Lib.hid (O.out.trans o)
     have P := Lib.hid p
     have S2 := Lib.hid (S2.out.only o (by omega))
     have S4 := Lib.hid (S4.out.only o (by omega))
     have K := Lib.hid (K.out.only o HBF.out)
     clear o p
     skip
     obtain ⟨z0, z1, z2, z3, z4, z5, z6⟩ := S2.out.cells
     have z60 := z6 0
     have z61 := z6 1
     have z62 := z6 2
     have z63 := z6 3
     have z64 := z6 4
     have z65 := z6 5
     clear z6
     obtain ⟨k0, k1, k2, k3, k4, k5, k6⟩ := S4.out.cells
     have k60 := k6 0
     have k61 := k6 1
     have k62 := k6 2
     have k63 := k6 3
     have k64 := k6 4
     have k65 := k6 5
     clear k6
     have h6 : Lk (Six (put6 w5 w.heap.size (.int .i64 U.kind) (.string U.set) (.bool U.neg) (.int .i64 U.low) (.int .i64 U.high) (.slice ua U.kids.length uc)) w.heap.size U ua uc) := Lk.mk (S2.out.put U ua uc)
     have PO := Lk.mk (put6_only O.out w.heap.size (.int .i64 U.kind) (.string U.set) (.bool U.neg) (.int .i64 U.low) (.int .i64 U.high) (.slice ua U.kids.length uc) (by omega))
     have PP := Lk.mk (P.out.put w.heap.size (by omega) (.int .i64 U.kind) (.string U.set) (.bool U.neg) (.int .i64 U.low) (.int .i64 U.high) (.slice ua U.kids.length uc))
     have PK := Lk.mk (K.out.put w.heap.size HGF.out (.int .i64 U.kind) (.string U.set) (.bool U.neg) (.int .i64 U.low) (.int .i64 U.high) (.slice ua U.kids.length uc))
     go_wp2_with fail
     change bodyPost _ _ _ _ _ (put6 w5 w.heap.size (.int .i64 U.kind) (.string U.set) (.bool U.neg) (.int .i64 U.low) (.int .i64 U.high) (.slice ua U.kids.length uc))
     generalize put6 w5 w.heap.size (.int .i64 U.kind) (.string U.set) (.bool U.neg) (.int .i64 U.low) (.int .i64 U.high) (.slice ua U.kids.length uc) = W at h6 PO PP PK ⊢
     obtain ⟨y0, y1, y2, y3, y4, y5, _⟩ := h6.out.cells
     replace y0 : _ = some (Value.int .i64 U.kind) := y0
     replace y1 : _ = some (Value.string U.set) := y1
     replace y2 : _ = some (Value.bool U.neg) := y2
     replace y3 : _ = some (Value.int .i64 U.low) := y3
     replace y4 : _ = some (Value.int .i64 U.high) := y4
     replace y5 : _ = some (Value.slice ua U.kids.length uc) := y5
     refine bodyPost_ret (v := .agg #[.int .i64 U.kind, .string U.set, .bool U.neg, .int .i64 U.low, .int .i64 U.high, .slice ua U.kids.length uc]) (by simp [results, Tryd.results38, go_sem, y0, y1, y2, y3, y4, y5]) rfl ⟨PO.out, ?_⟩
     rw [HE.out]
     exact ⟨ua, uc, uF, rfl, PK.out, HLF.out, HNI.out, PP.out⟩
    ·have HE2 := Lib.hid he2
     clear he2
     refine (pEnds_any B s m false false _ hs2 P.out (by rw [HE2.out]; rfl)).mono ?_
     rintro e w5 ⟨rfl, hn⟩
     have o := OnlyB.drewAll (B := B) hn
     have p := P.out.drewAll hn
     clear hn
     have O := Lib.hid (O.out.trans o)
     have P := Lib.hid p
     have S2 := Lib.hid (S2.out.only o (by omega))
     have S4 := Lib.hid (S4.out.only o (by omega))
     have K := Lib.hid (K.out.only o HBF.out)
     clear o p
     go_wp2_with fail
     have HLT := Lib.hid (fun y hy => K.out.lt y hy)
     have hwO := O.out.size
     have hwS := S2.out.lt
     have hwP := P.out.lt
     have ne2 : w.heap.size ≠ B := by omega
     have ne4 : g4 ≠ B := by omega
     obtain ⟨n0, n1, n2, n3, n4, n5, n6⟩ := S4.out.cells
     have n60 := n6 0
     have n61 := n6 1
     have n62 := n6 2
     have n63 := n6 3
     have n64 := n6 4
     have n65 := n6 5
     clear n6
     cases hres : PR.cats s f d m with
     | none =>
      have HRES := Lib.hid hres
      clear hres
      go_region_with (go_at_call 38; refine (HC.out B s m _ d hs ?_ (by omega) hd (by omega)).mono ?_; (first | exact P.out | exact P.out.drew1 | exact P.out.drewN _); rintro e w7 ⟨o7, hp7⟩; rw [HRES.out] at hp7; simp only [Option.map_none] at hp7; obtain ⟨T2, ta2, tc2, m2, rfl, hm2, p7⟩ := hp7; have p8 := Lib.hid p7; clear p7; unfold reV; have q2 := Lib.hid (Six.after S2.out o7 rfl ne2); have q4 := Lib.hid (Six.after S4.out o7 rfl ne4); have o8 : Hid (OnlyB B w w7) := Lib.hid (by first | exact O.out.trans o7 | exact O.out.drew1.trans o7 | exact (O.out.drewN _).trans o7); have k8 : Hid (KF w7 U.kids ua uF) := Lib.hid (by first | exact K.out.only o7 HBF.out | exact K.out.drew1.only o7 HBF.out); obtain ⟨z0, z1, z2, z3, z4, z5, z6⟩ := q2.out.cells; have z60 := z6 0; have z61 := z6 1; have z62 := z6 2; have z63 := z6 3; have z64 := z6 4; have z65 := z6 5; clear z6; have hl7 := q2.out.lt; have hl8 := q4.out.lt; obtain ⟨k0, k1, k2, k3, k4, k5, k6⟩ := q4.out.cells; have k60 := k6 0; have k61 := k6 1; have k62 := k6 2; have k63 := k6 3; have k64 := k6 4; have k65 := k6 5; clear k6)
      all_goals
       have pb := pair_base (k := 3) (r := ⟨U, ua, uc, uF⟩) (s := ⟨T2, ta2, tc2, []⟩) q2.out o8.out (by omega) p8.out ne2
       have h6 : Lk (Six (pairW w7 w.heap.size 3 ⟨U, ua, uc, uF⟩ ⟨T2, ta2, tc2, []⟩) _ _ _ _) := Lk.mk pb.1
       have PO := Lk.mk pb.2.1
       have PP := Lk.mk pb.2.2
       clear pb
       go_wp2_with fail
       change bodyPost _ _ _ _ _ (pairW w7 w.heap.size 3 ⟨U, ua, uc, uF⟩ ⟨T2, ta2, tc2, []⟩)
       generalize pairW w7 w.heap.size 3 ⟨U, ua, uc, uF⟩ ⟨T2, ta2, tc2, []⟩ = W at h6 PO PP ⊢
       obtain ⟨y0, y1, y2, y3, y4, y5, _⟩ := h6.out.cells
       replace y0 : _ = some (Value.int .i64 3) := y0
       replace y1 : _ = some (Value.string ⟨#[]⟩) := y1
       replace y2 : _ = some (Value.bool false) := y2
       replace y3 : _ = some (Value.int .i64 0) := y3
       replace y4 : _ = some (Value.int .i64 0) := y4
       replace y5 : _ = some (Value.slice (some ⟨w7.heap.size, 0, none⟩) 2 2) := y5
       refine bodyPost_ret (v := .agg #[.int .i64 3, .string ⟨#[]⟩, .bool false, .int .i64 0, .int .i64 0, .slice (some ⟨w7.heap.size, 0, none⟩) 2 2]) (by simp [results, Tryd.results38, go_sem, y0, y1, y2, y3, y4, y5]) rfl ⟨PO.out, ?_⟩
       have HE : Hid (PR.cats s (f + 1) d i = none) := Lib.hid (by rw [PR.cats, HE0.out, HIT.out]; simp only [Bool.false_eq_true, if_false]; rw [HTM.out]; simp only; rw [HRES.out])
       rw [HE.out]
       exact ⟨PR.pairT 3 U T2, _, _, m2, rfl, by omega, PP.out⟩
     | some x =>
      obtain ⟨ts, m2⟩ := x
      have HM := Lib.hid (cats_cons HE2.out hres)
      have HRES := Lib.hid hres
      clear hres
      go_region_with (go_at_call 38; refine (HC.out B s m _ d hs ?_ (by omega) hd (by omega)).mono ?_; (first | exact P.out | exact P.out.drew1 | exact P.out.drewN _); rintro e w7 ⟨o7, hp7⟩; rw [HRES.out] at hp7; simp only [Option.map_some] at hp7; obtain ⟨ta2, tc2, tF2, rfl, kk7, hkl7, hni7, p7⟩ := hp7; have KK := Lib.hid kk7; have HK7 := Lib.hid hkl7; have HN7 := Lib.hid hni7; have p8 := Lib.hid p7; clear kk7 hkl7 hni7 p7; unfold reV; have q2 := Lib.hid (Six.after S2.out o7 rfl ne2); have q4 := Lib.hid (Six.after S4.out o7 rfl ne4); have o8 : Hid (OnlyB B w w7) := Lib.hid (by first | exact O.out.trans o7 | exact O.out.drew1.trans o7 | exact (O.out.drewN _).trans o7); have k8 : Hid (KF w7 U.kids ua uF) := Lib.hid (by first | exact K.out.only o7 HBF.out | exact K.out.drew1.only o7 HBF.out); obtain ⟨z0, z1, z2, z3, z4, z5, z6⟩ := q2.out.cells; have z60 := z6 0; have z61 := z6 1; have z62 := z6 2; have z63 := z6 3; have z64 := z6 4; have z65 := z6 5; clear z6; have hl7 := q2.out.lt; have hl8 := q4.out.lt; obtain ⟨k0, k1, k2, k3, k4, k5, k6⟩ := q4.out.cells; have k60 := k6 0; have k61 := k6 1; have k62 := k6 2; have k63 := k6 3; have k64 := k6 4; have k65 := k6 5; clear k6)
      all_goals
       have pb := pair_base (k := 3) (r := ⟨U, ua, uc, uF⟩) (s := ⟨(PR.caT ts), ta2, tc2, tF2⟩) q2.out o8.out (by omega) p8.out ne2
       have h6 : Lk (Six (pairW w7 w.heap.size 3 ⟨U, ua, uc, uF⟩ ⟨(PR.caT ts), ta2, tc2, tF2⟩) _ _ _ _) := Lk.mk pb.1
       have PO := Lk.mk pb.2.1
       have PP := Lk.mk pb.2.2
       clear pb
       have hz7 : Hid (∀ y ∈ tF2, w5.heap.size ≤ y) := Lib.hid (fun y hy => HK7.out y hy)
       have hAP : apartF ⟨U, ua, uc, uF⟩ ⟨(PR.caT ts), ta2, tc2, tF2⟩ := fun x hx hx2 => by have h1 := HLT.out x hx; have h2 := hz7.out x hx2; omega
       have hg2 : Hid (w.heap.size ∉ tF2) := Lib.hid (fun h => by have := hz7.out _ h; omega)
       have PK := Lk.mk (pair_kf (g := w.heap.size) (k := 3) (r := ⟨U, ua, uc, uF⟩) (s := ⟨(PR.caT ts), ta2, tc2, tF2⟩) k8.out KK.out HNI.out HN7.out HGF.out hg2.out hAP)
       have hw7 := o8.out.size
       have HL2 : Hid (∀ y ∈ w7.heap.size :: (uF ++ tF2), w.heap.size ≤ y) := Lib.hid (fun y hy => by rcases List.mem_cons.1 hy with rfl | hy; exact hw7; rcases List.mem_append.1 hy with h | h; exact HLF.out y h; have := hz7.out y h; omega)
       go_wp2_with fail
       change bodyPost _ _ _ _ _ (pairW w7 w.heap.size 3 ⟨U, ua, uc, uF⟩ ⟨(PR.caT ts), ta2, tc2, tF2⟩)
       generalize pairW w7 w.heap.size 3 ⟨U, ua, uc, uF⟩ ⟨(PR.caT ts), ta2, tc2, tF2⟩ = W at h6 PO PP PK ⊢
       obtain ⟨y0, y1, y2, y3, y4, y5, _⟩ := h6.out.cells
       replace y0 : _ = some (Value.int .i64 3) := y0
       replace y1 : _ = some (Value.string ⟨#[]⟩) := y1
       replace y2 : _ = some (Value.bool false) := y2
       replace y3 : _ = some (Value.int .i64 0) := y3
       replace y4 : _ = some (Value.int .i64 0) := y4
       replace y5 : _ = some (Value.slice (some ⟨w7.heap.size, 0, none⟩) 2 2) := y5
       refine bodyPost_ret (v := .agg #[.int .i64 3, .string ⟨#[]⟩, .bool false, .int .i64 0, .int .i64 0, .slice (some ⟨w7.heap.size, 0, none⟩) 2 2]) (by simp [results, Tryd.results38, go_sem, y0, y1, y2, y3, y4, y5]) rfl ⟨PO.out, ?_⟩
       have HE : Hid (PR.cats s (f + 1) d i = some (U :: ts, m2)) := Lib.hid (by rw [PR.cats, HE0.out, HIT.out]; simp only [Bool.false_eq_true, if_false]; rw [HTM.out]; simp only; rw [HRES.out])
       rw [HE.out]
       obtain ⟨t1, ts1, e1⟩ := HM.out
       try simp only at e1
       subst e1
       exact ⟨_, _, _, rfl, PK.out, HL2.out, ⟨Nat.zero_le _, Nat.le_refl 2⟩, PP.out⟩
end Go.Proofs.YtcpaneaiobnhdaaDoor.kit
/-
 Contract of spec.l04Alt over this seat's translation, and with it of all readers of the model: parts of an expression for texts between bars. Conditions: the reader's cells are known; there is fuel enough.
-/
namespace Go.Proofs.YtcpaneaiobnhdaaDoor.kit
open Go.ChangeShapes Go.WideShapes Go.ChangeAt Go.RowKit
set_option linter.unusedVariables false
set_option linter.unusedSimpArgs false
open PR

set_option maxRecDepth 100000 in
set_option maxHeartbeats 4000000 in
theorem altS_of (f : Nat) (hC : CatS f) (hA : AltS f) : AltS (f + 1) := by
 intro B s i w d hs hr hi hd hf
 have hs2 : s.size ≤ 1048576 := by omega
 have HC := Lib.hid hC
 have HA := Lib.hid hA
 clear hC hA
 have hBl := hr.lt
 have b1 : Below w.heap.size w (w.alloc (.cells #[.int .i64 0, .string ⟨#[]⟩, .bool false, .int .i64 0, .int .i64 0, .slice none 0 0] 26)) := (Below.refl w.heap.size w).alloc (Nat.le_refl _) _
 have O := Lib.hid (OnlyB.of_below (B := B) b1)
 have P := Lib.hid (hr.kept b1)
 have S2 : Hid (Six _ w.heap.size (PR.leaf 0) none 0) := Lib.hid (heap_alloc_new w (.cells #[.int .i64 0, .string ⟨#[]⟩, .bool false, .int .i64 0, .int .i64 0, .slice none 0 0] 26))
 clear b1 hr
 go_enter Tryd.func24, Tryd.ntmps24
 have O1 := O
 have S21 := S2
 have hw1 := O.out.size
 have hS1 := S2.out.lt
 have hP1 := P.out.lt
 go_wp2_with fail
 refine (HC.out B s i _ d hs P.out hi hd (by omega)).mono ?_
 rintro e w3 ⟨o, hp⟩
 have O := Lib.hid (O.out.trans o)
 have S2 := Lib.hid (S2.out.only o (by omega))
 clear O1 S21
 cases hct : PR.cats s f d i with
 | none =>
  rw [hct] at hp
  simp only [Option.map_none] at hp
  obtain ⟨T, ta, tc, j, rfl, hj, p⟩ := hp
  have HE : Hid (PR.alts s (f + 1) d i = none) := Lib.hid (by rw [PR.alts, hct])
  have P := Lib.hid p
  clear hct p o
  unfold reV
  have bx : Below w3.heap.size w3 (w3.alloc (.cells #[.int .i64 T.kind, .string T.set, .bool T.neg, .int .i64 T.low, .int .i64 T.high, .slice ta T.kids.length tc] 26)) := (Below.refl _ _).alloc (Nat.le_refl _) _
  have hw3 := O.out.size
  have hS3 := S2.out.lt
  have hR3 := P.out.lt
  have S4 : Hid (Six (w3.alloc (.cells #[.int .i64 T.kind, .string T.set, .bool T.neg, .int .i64 T.low, .int .i64 T.high, .slice ta T.kids.length tc] 26)) w3.heap.size T ta tc) := Lib.hid (six_new rfl rfl)
  have S2 := Lib.hid (S2.out.kept bx)
  have O := Lib.hid (O.out.trans (OnlyB.of_below bx))
  have P := Lib.hid (P.out.kept bx)
  clear bx
  go_wp2_with fail
  generalize (w3.alloc (.cells #[.int .i64 T.kind, .string T.set, .bool T.neg, .int .i64 T.low, .int .i64 T.high, .slice ta T.kids.length tc] 26)) = wb at *
  obtain ⟨g4, hg4⟩ : ∃ g4, g4 = w3.heap.size := ⟨_, rfl⟩
  have hg4a : w.heap.size < g4 := by omega
  have hg4b : B < g4 := by omega
  rw [← hg4] at S4 ⊢
  have HG4 := Lib.hid hg4
  clear hg4
  refine (pIs_any B s j true 124 124 rfl false _ hs2 P.out (by rfl)).mono ?_
  rintro e w5 ⟨rfl, hn⟩
  have o := OnlyB.drewAll (B := B) hn
  have p := P.out.drewAll hn
  clear hn
  have O := Lib.hid (O.out.trans o)
  have P := Lib.hid p
  have S2 := Lib.hid (S2.out.only o (by omega))
  have S4 := Lib.hid (S4.out.only o (by omega))
  clear o p
  obtain ⟨z0, z1, z2, z3, z4, z5, z6⟩ := S2.out.cells
  have z60 := z6 0
  have z61 := z6 1
  have z62 := z6 2
  have z63 := z6 3
  have z64 := z6 4
  have z65 := z6 5
  clear z6
  obtain ⟨k0, k1, k2, k3, k4, k5, k6⟩ := S4.out.cells
  have k60 := k6 0
  have k61 := k6 1
  have k62 := k6 2
  have k63 := k6 3
  have k64 := k6 4
  have k65 := k6 5
  clear k6
  have h6 : Lk (Six (put6 w5 w.heap.size (.int .i64 T.kind) (.string T.set) (.bool T.neg) (.int .i64 T.low) (.int .i64 T.high) (.slice ta T.kids.length tc)) w.heap.size T ta tc) := Lk.mk (S2.out.put T ta tc)
  have PO := Lk.mk (put6_only O.out w.heap.size (.int .i64 T.kind) (.string T.set) (.bool T.neg) (.int .i64 T.low) (.int .i64 T.high) (.slice ta T.kids.length tc) (by omega))
  have PP := Lk.mk (P.out.put w.heap.size (by omega) (.int .i64 T.kind) (.string T.set) (.bool T.neg) (.int .i64 T.low) (.int .i64 T.high) (.slice ta T.kids.length tc))
  go_wp2_with fail
  change bodyPost _ _ _ _ _ (put6 w5 w.heap.size (.int .i64 T.kind) (.string T.set) (.bool T.neg) (.int .i64 T.low) (.int .i64 T.high) (.slice ta T.kids.length tc))
  generalize put6 w5 w.heap.size (.int .i64 T.kind) (.string T.set) (.bool T.neg) (.int .i64 T.low) (.int .i64 T.high) (.slice ta T.kids.length tc) = W at h6 PO PP ⊢
  obtain ⟨y0, y1, y2, y3, y4, y5, _⟩ := h6.out.cells
  replace y0 : _ = some (Value.int .i64 T.kind) := y0
  replace y1 : _ = some (Value.string T.set) := y1
  replace y2 : _ = some (Value.bool T.neg) := y2
  replace y3 : _ = some (Value.int .i64 T.low) := y3
  replace y4 : _ = some (Value.int .i64 T.high) := y4
  replace y5 : _ = some (Value.slice ta T.kids.length tc) := y5
  refine bodyPost_ret (v := .agg #[.int .i64 T.kind, .string T.set, .bool T.neg, .int .i64 T.low, .int .i64 T.high, .slice ta T.kids.length tc]) (by simp [results, Tryd.results24, go_sem, y0, y1, y2, y3, y4, y5]) rfl ⟨PO.out, ?_⟩
  rw [HE.out]
  exact ⟨T, ta, tc, j, rfl, by omega, PP.out⟩
 | some x =>
  obtain ⟨xs, j⟩ := x
  rw [hct] at hp
  simp only [Option.map_some] at hp
  obtain ⟨ta, tc, tF, rfl, k, hkl, hni, p⟩ := hp
  have hj := ((PR.adv s f).2.1 d i _ hi hct)
  simp only at hj
  have HCT := Lib.hid hct
  have HGA : Hid (PR.alts s (f + 1) d i = if atB s j 124 then (match PR.alts s f d (j + 1) with | none => none | some y => some (caT xs :: y.1, y.2)) else some ([caT xs], j)) := Lib.hid (by rw [PR.alts, hct]; rfl)
  generalize PR.caT xs = U at *
  have P := Lib.hid p
  have K := Lib.hid k
  have KL := Lib.hid (fun y hy => K.out.lt y hy)
  have HNI := Lib.hid hni
  have HBF : Hid (B ∉ tF) := Lib.hid (fun h => by have := hkl _ h; omega)
  have HGF : Hid (w.heap.size ∉ tF) := Lib.hid (fun h => by have := hkl _ h; simp at this; omega)
  have HLF : Hid (∀ y ∈ tF, w.heap.size ≤ y) := Lib.hid (fun y hy => by have := hkl y hy; simp at this; omega)
  clear hct p k hkl hni o
  unfold reV
  have bx : Below w3.heap.size w3 (w3.alloc (.cells #[.int .i64 U.kind, .string U.set, .bool U.neg, .int .i64 U.low, .int .i64 U.high, .slice ta U.kids.length tc] 26)) := (Below.refl _ _).alloc (Nat.le_refl _) _
  have hw3 := O.out.size
  have hS3 := S2.out.lt
  have hR3 := P.out.lt
  have S4 : Hid (Six (w3.alloc (.cells #[.int .i64 U.kind, .string U.set, .bool U.neg, .int .i64 U.low, .int .i64 U.high, .slice ta U.kids.length tc] 26)) w3.heap.size U ta tc) := Lib.hid (six_new rfl rfl)
  have S2 := Lib.hid (S2.out.kept bx)
  have O := Lib.hid (O.out.trans (OnlyB.of_below bx))
  have P := Lib.hid (P.out.kept bx)
  have K := Lib.hid (K.out.kept bx)
  have HLT := Lib.hid (fun y hy => K.out.lt y hy)
  have HG4F : Hid (w3.heap.size ∉ tF) := Lib.hid (fun h => by have := KL.out _ h; omega)
  clear bx
  go_wp2_with fail
  generalize (w3.alloc (.cells #[.int .i64 U.kind, .string U.set, .bool U.neg, .int .i64 U.low, .int .i64 U.high, .slice ta U.kids.length tc] 26)) = wb at *
  obtain ⟨g4, hg4⟩ : ∃ g4, g4 = w3.heap.size := ⟨_, rfl⟩
  have hg4a : w.heap.size < g4 := by omega
  have hg4b : B < g4 := by omega
  rw [← hg4] at S4 HG4F ⊢
  have HG4 := Lib.hid hg4
  clear hg4
  cases he2 : atB s j 124
  ·have HE2 := Lib.hid he2
   have HE : Hid (PR.alts s (f + 1) d i = some ([U], j)) := Lib.hid (by rw [HGA.out, he2]; rfl)
   clear he2
   refine (pIs_any B s j false 124 124 rfl false _ hs2 P.out (by rw [HE2.out]; rfl)).mono ?_
   rintro e w5 ⟨rfl, hn⟩
   have o := OnlyB.drewAll (B := B) hn
   have p := P.out.drewAll hn
   clear hn
   have O := Lib.hid (O.out.trans o)
   have P := Lib.hid p
   have S2 := Lib.hid (S2.out.only o (by omega))
   have S4 := Lib.hid (S4.out.only o (by omega))
   have K := Lib.hid (K.out.only o HBF.out)
   clear o p
   obtain ⟨z0, z1, z2, z3, z4, z5, z6⟩ := S2.out.cells
   have z60 := z6 0
   have z61 := z6 1
   have z62 := z6 2
   have z63 := z6 3
   have z64 := z6 4
   have z65 := z6 5
   clear z6
   obtain ⟨k0, k1, k2, k3, k4, k5, k6⟩ := S4.out.cells
   have k60 := k6 0
   have k61 := k6 1
   have k62 := k6 2
   have k63 := k6 3
   have k64 := k6 4
   have k65 := k6 5
   clear k6
   have h6 : Lk (Six (put6 w5 w.heap.size (.int .i64 U.kind) (.string U.set) (.bool U.neg) (.int .i64 U.low) (.int .i64 U.high) (.slice ta U.kids.length tc)) w.heap.size U ta tc) := Lk.mk (S2.out.put U ta tc)
   have PO := Lk.mk (put6_only O.out w.heap.size (.int .i64 U.kind) (.string U.set) (.bool U.neg) (.int .i64 U.low) (.int .i64 U.high) (.slice ta U.kids.length tc) (by omega))
   have PP := Lk.mk (P.out.put w.heap.size (by omega) (.int .i64 U.kind) (.string U.set) (.bool U.neg) (.int .i64 U.low) (.int .i64 U.high) (.slice ta U.kids.length tc))
   have PK := Lk.mk (K.out.put w.heap.size HGF.out (.int .i64 U.kind) (.string U.set) (.bool U.neg) (.int .i64 U.low) (.int .i64 U.high) (.slice ta U.kids.length tc))
   go_wp2_with fail
   change bodyPost _ _ _ _ _ (put6 w5 w.heap.size (.int .i64 U.kind) (.string U.set) (.bool U.neg) (.int .i64 U.low) (.int .i64 U.high) (.slice ta U.kids.length tc))
   generalize put6 w5 w.heap.size (.int .i64 U.kind) (.string U.set) (.bool U.neg) (.int .i64 U.low) (.int .i64 U.high) (.slice ta U.kids.length tc) = W at h6 PO PP PK ⊢
   obtain ⟨y0, y1, y2, y3, y4, y5, _⟩ := h6.out.cells
   replace y0 : _ = some (Value.int .i64 U.kind) := y0
   replace y1 : _ = some (Value.string U.set) := y1
   replace y2 : _ = some (Value.bool U.neg) := y2
   replace y3 : _ = some (Value.int .i64 U.low) := y3
   replace y4 : _ = some (Value.int .i64 U.high) := y4
   replace y5 : _ = some (Value.slice ta U.kids.length tc) := y5
   refine bodyPost_ret (v := .agg #[.int .i64 U.kind, .string U.set, .bool U.neg, .int .i64 U.low, .int .i64 U.high, .slice ta U.kids.length tc]) (by simp [results, Tryd.results24, go_sem, y0, y1, y2, y3, y4, y5]) rfl ⟨PO.out, ?_⟩
   rw [HE.out]
   exact ⟨ta, tc, tF, rfl, PK.out, HLF.out, HNI.out, PP.out⟩
  ·have HE2 := Lib.hid he2
   have hj1 := PR.atB_lt he2
   clear he2
   refine (pIs_any B s j false 124 124 rfl true _ hs2 P.out (by rw [HE2.out]; rfl)).mono ?_
   rintro e w5 ⟨rfl, hn⟩
   have o := OnlyB.drewAll (B := B) hn
   have p := P.out.drewAll hn
   clear hn
   have O := Lib.hid (O.out.trans o)
   have P := Lib.hid p
   have S2 := Lib.hid (S2.out.only o (by omega))
   have S4 := Lib.hid (S4.out.only o (by omega))
   have K := Lib.hid (K.out.only o HBF.out)
   clear o p
   obtain ⟨h0, h1, h2, h3, h4, h5⟩ := P.out
   have P := Lib.hid (P.out.setI (j + 1))
   have O := Lib.hid (O.out.set 1 (.int .i64 ((j + 1 : Nat) : Int)))
   have S2 := Lib.hid (S2.out.cell B 1 (by omega) (.int .i64 ((j + 1 : Nat) : Int)))
   have S4 := Lib.hid (S4.out.cell B 1 (by omega) (.int .i64 ((j + 1 : Nat) : Int)))
   have K := Lib.hid (K.out.of (w' := w5.setCell ⟨B, 1, none⟩ (.int .i64 ((j + 1 : Nat) : Int))) (fun b hb => Below.heap_setCell _ ⟨B, 1, none⟩ _ b (fun e => HBF.out (by rw [← show b = B from e]; exact hb))))
   rw [show ((j + 1 : Nat) : Int) = (j : Int) + 1 by omega] at P O S2 S4 K
   go_wp2_with fail
   generalize w5.setCell ⟨B, 1, none⟩ (.int .i64 ((j : Int) + 1)) = w6 at *
   clear h0 h1 h2 h3 h4 h5
   have HLT := Lib.hid (fun y hy => K.out.lt y hy)
   have hwO := O.out.size
   have hwS := S2.out.lt
   have hwP := P.out.lt
   have ne2 : w.heap.size ≠ B := by omega
   have ne4 : g4 ≠ B := by omega
   obtain ⟨n0, n1, n2, n3, n4, n5, n6⟩ := S4.out.cells
   have n60 := n6 0
   have n61 := n6 1
   have n62 := n6 2
   have n63 := n6 3
   have n64 := n6 4
   have n65 := n6 5
   clear n6
   cases hres : PR.alts s f d (j + 1) with
   | none =>
    have HRES := Lib.hid hres
    clear hres
    go_region_with (go_at_call 24; refine (HA.out B s (j + 1) _ d hs ?_ (by omega) hd (by omega)).mono ?_; (first | exact P.out | exact P.out.drew1 | exact P.out.drewN _); rintro e w7 ⟨o7, hp7⟩; rw [HRES.out] at hp7; simp only [Option.map_none] at hp7; obtain ⟨T2, ta2, tc2, m2, rfl, hm2, p7⟩ := hp7; have p8 := Lib.hid p7; clear p7; unfold reV; have q2 := Lib.hid (Six.after S2.out o7 rfl ne2); have q4 := Lib.hid (Six.after S4.out o7 rfl ne4); have o8 : Hid (OnlyB B w w7) := Lib.hid (by first | exact O.out.trans o7 | exact O.out.drew1.trans o7 | exact (O.out.drewN _).trans o7); have k8 : Hid (KF w7 U.kids ta tF) := Lib.hid (by first | exact K.out.only o7 HBF.out | exact K.out.drew1.only o7 HBF.out); obtain ⟨z0, z1, z2, z3, z4, z5, z6⟩ := q2.out.cells; have z60 := z6 0; have z61 := z6 1; have z62 := z6 2; have z63 := z6 3; have z64 := z6 4; have z65 := z6 5; clear z6; have hl7 := q2.out.lt; have hl8 := q4.out.lt; obtain ⟨k0, k1, k2, k3, k4, k5, k6⟩ := q4.out.cells; have k60 := k6 0; have k61 := k6 1; have k62 := k6 2; have k63 := k6 3; have k64 := k6 4; have k65 := k6 5; clear k6)
    all_goals
     have pb := pair_base (k := 4) (r := ⟨U, ta, tc, tF⟩) (s := ⟨T2, ta2, tc2, []⟩) q2.out o8.out (by omega) p8.out ne2
     have h6 : Lk (Six (pairW w7 w.heap.size 4 ⟨U, ta, tc, tF⟩ ⟨T2, ta2, tc2, []⟩) _ _ _ _) := Lk.mk pb.1
     have PO := Lk.mk pb.2.1
     have PP := Lk.mk pb.2.2
     clear pb
     go_wp2_with fail
     change bodyPost _ _ _ _ _ (pairW w7 w.heap.size 4 ⟨U, ta, tc, tF⟩ ⟨T2, ta2, tc2, []⟩)
     generalize pairW w7 w.heap.size 4 ⟨U, ta, tc, tF⟩ ⟨T2, ta2, tc2, []⟩ = W at h6 PO PP ⊢
     obtain ⟨y0, y1, y2, y3, y4, y5, _⟩ := h6.out.cells
     replace y0 : _ = some (Value.int .i64 4) := y0
     replace y1 : _ = some (Value.string ⟨#[]⟩) := y1
     replace y2 : _ = some (Value.bool false) := y2
     replace y3 : _ = some (Value.int .i64 0) := y3
     replace y4 : _ = some (Value.int .i64 0) := y4
     replace y5 : _ = some (Value.slice (some ⟨w7.heap.size, 0, none⟩) 2 2) := y5
     refine bodyPost_ret (v := .agg #[.int .i64 4, .string ⟨#[]⟩, .bool false, .int .i64 0, .int .i64 0, .slice (some ⟨w7.heap.size, 0, none⟩) 2 2]) (by simp [results, Tryd.results24, go_sem, y0, y1, y2, y3, y4, y5]) rfl ⟨PO.out, ?_⟩
     have HE : Hid (PR.alts s (f + 1) d i = none) := Lib.hid (by rw [HGA.out, HE2.out, HRES.out]; rfl)
     rw [HE.out]
     exact ⟨PR.pairT 4 U T2, _, _, m2, rfl, by omega, PP.out⟩
   | some x =>
    obtain ⟨ts, m2⟩ := x
    have HM := Lib.hid (alts_cons hres)
    have HRES := Lib.hid hres
    clear hres
    go_region_with (go_at_call 24; refine (HA.out B s (j + 1) _ d hs ?_ (by omega) hd (by omega)).mono ?_; (first | exact P.out | exact P.out.drew1 | exact P.out.drewN _); rintro e w7 ⟨o7, hp7⟩; rw [HRES.out] at hp7; simp only [Option.map_some] at hp7; obtain ⟨ta2, tc2, tF2, rfl, kk7, hkl7, hni7, p7⟩ := hp7; have KK := Lib.hid kk7; have HK7 := Lib.hid hkl7; have HN7 := Lib.hid hni7; have p8 := Lib.hid p7; clear kk7 hkl7 hni7 p7; unfold reV; have q2 := Lib.hid (Six.after S2.out o7 rfl ne2); have q4 := Lib.hid (Six.after S4.out o7 rfl ne4); have o8 : Hid (OnlyB B w w7) := Lib.hid (by first | exact O.out.trans o7 | exact O.out.drew1.trans o7 | exact (O.out.drewN _).trans o7); have k8 : Hid (KF w7 U.kids ta tF) := Lib.hid (by first | exact K.out.only o7 HBF.out | exact K.out.drew1.only o7 HBF.out); obtain ⟨z0, z1, z2, z3, z4, z5, z6⟩ := q2.out.cells; have z60 := z6 0; have z61 := z6 1; have z62 := z6 2; have z63 := z6 3; have z64 := z6 4; have z65 := z6 5; clear z6; have hl7 := q2.out.lt; have hl8 := q4.out.lt; obtain ⟨k0, k1, k2, k3, k4, k5, k6⟩ := q4.out.cells; have k60 := k6 0; have k61 := k6 1; have k62 := k6 2; have k63 := k6 3; have k64 := k6 4; have k65 := k6 5; clear k6)
    all_goals
     have pb := pair_base (k := 4) (r := ⟨U, ta, tc, tF⟩) (s := ⟨(PR.alT ts), ta2, tc2, tF2⟩) q2.out o8.out (by omega) p8.out ne2
     have h6 : Lk (Six (pairW w7 w.heap.size 4 ⟨U, ta, tc, tF⟩ ⟨(PR.alT ts), ta2, tc2, tF2⟩) _ _ _ _) := Lk.mk pb.1
     have PO := Lk.mk pb.2.1
     have PP := Lk.mk pb.2.2
     clear pb
     have hz7 : Hid (∀ y ∈ tF2, w6.heap.size ≤ y) := Lib.hid (fun y hy => HK7.out y hy)
     have hAP : apartF ⟨U, ta, tc, tF⟩ ⟨(PR.alT ts), ta2, tc2, tF2⟩ := fun x hx hx2 => by have h1 := HLT.out x hx; have h2 := hz7.out x hx2; omega
     have hg2 : Hid (w.heap.size ∉ tF2) := Lib.hid (fun h => by have := hz7.out _ h; omega)
     have PK := Lk.mk (pair_kf (g := w.heap.size) (k := 4) (r := ⟨U, ta, tc, tF⟩) (s := ⟨(PR.alT ts), ta2, tc2, tF2⟩) k8.out KK.out HNI.out HN7.out HGF.out hg2.out hAP)
     have hw7 := o8.out.size
     have HL2 : Hid (∀ y ∈ w7.heap.size :: (tF ++ tF2), w.heap.size ≤ y) := Lib.hid (fun y hy => by rcases List.mem_cons.1 hy with rfl | hy; exact hw7; rcases List.mem_append.1 hy with h | h; exact HLF.out y h; have := hz7.out y h; omega)
     go_wp2_with fail
     change bodyPost _ _ _ _ _ (pairW w7 w.heap.size 4 ⟨U, ta, tc, tF⟩ ⟨(PR.alT ts), ta2, tc2, tF2⟩)
     generalize pairW w7 w.heap.size 4 ⟨U, ta, tc, tF⟩ ⟨(PR.alT ts), ta2, tc2, tF2⟩ = W at h6 PO PP PK ⊢
     obtain ⟨y0, y1, y2, y3, y4, y5, _⟩ := h6.out.cells
     replace y0 : _ = some (Value.int .i64 4) := y0
     replace y1 : _ = some (Value.string ⟨#[]⟩) := y1
     replace y2 : _ = some (Value.bool false) := y2
     replace y3 : _ = some (Value.int .i64 0) := y3
     replace y4 : _ = some (Value.int .i64 0) := y4
     replace y5 : _ = some (Value.slice (some ⟨w7.heap.size, 0, none⟩) 2 2) := y5
     refine bodyPost_ret (v := .agg #[.int .i64 4, .string ⟨#[]⟩, .bool false, .int .i64 0, .int .i64 0, .slice (some ⟨w7.heap.size, 0, none⟩) 2 2]) (by simp [results, Tryd.results24, go_sem, y0, y1, y2, y3, y4, y5]) rfl ⟨PO.out, ?_⟩
     have HE : Hid (PR.alts s (f + 1) d i = some (U :: ts, m2)) := Lib.hid (by rw [HGA.out, HE2.out, HRES.out]; rfl)
     rw [HE.out]
     obtain ⟨t1, ts1, e1⟩ := HM.out
     try simp only at e1
     subst e1
     exact ⟨_, _, _, rfl, PK.out, HL2.out, ⟨Nat.zero_le _, Nat.le_refl 2⟩, PP.out⟩

theorem readersS : ∀ (f : Nat), AltS f ∧ CatS f ∧ ItemS f := by
 intro f
 induction f with
 | zero => exact ⟨fun B s i w d _ _ _ _ h => by omega, fun B s i w d _ _ _ _ h => by omega, fun B s i w d _ _ _ _ h => by omega⟩
 | succ f ih => exact ⟨altS_of f ih.2.1 ih.1, catS_of f ih.2.2 ih.2.1, itemS_of f ih.1⟩
theorem alt_any (f : Nat) : AltS f := (readersS f).1
end Go.Proofs.YtcpaneaiobnhdaaDoor.kit
