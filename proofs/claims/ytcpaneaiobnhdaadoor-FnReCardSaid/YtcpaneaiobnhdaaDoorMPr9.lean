/-
 Contracts of impl's readers row and choice of expressions for texts over this seat's translation, and with them of all its readers. Conditions: the reader's cells are known; there is fuel enough.
-/
import Derived.Test.YtcpaneaiobnhdaaDoorMPr5
namespace Go.Proofs.YtcpaneaiobnhdaaDoor.kit
open Go.ChangeShapes Go.WideShapes Go.ChangeAt Go.RowKit
set_option linter.unusedVariables false

namespace PR
theorem cats_end {s : ByteArray} {f d j : Nat} (h : ends s j = true) (hf : 0 < f) : cats s f d j = some ([], j) := by
 obtain ⟨f, rfl⟩ : ∃ g, f = g + 1 := ⟨f - 1, by omega⟩
 rw [cats, if_pos h]
theorem cats_none {s : ByteArray} {f d j : Nat} (h : ends s j = false) (hn : ((item s f d j).bind fun x => times s x.1 x.2) = none) : cats s (f + 1) d j = none := by
 rw [cats, if_neg (by rw [h]; decide)]
 cases hi : item s f d j with
 | none => rfl
 | some x =>
  rw [hi] at hn
  have hn : times s x.1 x.2 = none := hn
  simp only [hn]
theorem cats_some {s : ByteArray} {f d j : Nat} {y : RT × Nat} (h : ends s j = false) (hn : ((item s f d j).bind fun x => times s x.1 x.2) = some y) : cats s (f + 1) d j = (cats s f d y.2).map fun z => (y.1 :: z.1, z.2) := by
 rw [cats, if_neg (by rw [h]; decide)]
 cases hi : item s f d j with
 | none => rw [hi] at hn; cases hn
 | some x =>
  rw [hi] at hn
  have hn : times s x.1 x.2 = some y := hn
  simp only [hn]
  cases cats s f d y.2 <;> rfl
theorem bind_adv {s : ByteArray} {f d j : Nat} {y : RT × Nat} (hj : j < s.size) (hn : ((item s f d j).bind fun x => times s x.1 x.2) = some y) : j < y.2 ∧ y.2 ≤ s.size := by
 cases hi : item s f d j with
 | none => rw [hi] at hn; cases hn
 | some x =>
  rw [hi] at hn
  have hn : times s x.1 x.2 = some y := hn
  have h1 := (adv s f).2.2 d j x hj hi
  have h2 := times_adv h1.2 hn
  omega
theorem alts_step (s : ByteArray) (f d j : Nat) : alts s (f + 1) d j = (cats s f d j).bind fun x => if atB s x.2 124 then (alts s f d (x.2 + 1)).map (fun y => (caT x.1 :: y.1, y.2)) else some ([caT x.1], x.2) := by
 rw [alts]
 cases cats s f d j with
 | none => rfl
 | some x =>
  simp only [Option.bind_some]
  split
  ·cases alts s f d (x.2 + 1) <;> rfl
  ·rfl
end PR
theorem chain_caT (rs : List RV) (h : 0 < rs.length) : chainAt 3 rs 0 = PR.caT (rs.map RV.t) := by
 cases rs with
 | nil => simp at h
 | cons r rs => rfl
theorem chain_alT (rs : List RV) (h : 0 < rs.length) : chainAt 4 rs 0 = PR.alT (rs.map RV.t) := by
 cases rs with
 | nil => simp at h
 | cons r rs => rfl
theorem Rdr.grown {w w' : World} {B : Nat} {s : ByteArray} {i : Nat} {op : Int} {row : Option Nat} (c : Rdr w B s i op) (h : w.grownBy w' row) (hne : some B ≠ row) : Rdr w' B s i op := by
 have e := h.block B c.lt hne
 exact ⟨Nat.lt_of_lt_of_le c.lt h.size, (World.cell?_of_block (w := w) (a := ⟨B, 0, none⟩) e).trans c.c0, (World.cell?_of_block (w := w) (a := ⟨B, 1, none⟩) e).trans c.c1, (World.cell?_of_block (w := w) (a := ⟨B, 2, none⟩) e).trans c.c2,
  (World.frozen?_of_block (w := w) (a := ⟨B, 1, none⟩) e).trans c.f1, (World.frozen?_of_block (w := w) (a := ⟨B, 2, none⟩) e).trans c.f2⟩
theorem Six.grown {w w' : World} {g : Nat} {t : RT} {a : Option Addr} {c : Nat} {row : Option Nat} (h : Six w g t a c) (hg : w.grownBy w' row) (hne : some g ≠ row) : Six w' g t a c := (hg.block g h.lt hne).trans h
theorem OnlyB.grown {B : Nat} {w0 w w' : World} {row : Option Nat} (h : OnlyB B w0 w) (hg : w.grownBy w' row) (hr : ∀ k, row = some k → w0.heap.size ≤ k) : OnlyB B w0 w' :=
 ⟨hg.os.trans h.os, hg.tape.trans h.tape, hg.output.trans h.output, Nat.le_trans h.size hg.size, fun k hk hn => (hg.block k (Nat.lt_of_lt_of_le hk h.size) (fun e => by have := hr k e.symm; omega)).trans (h.block k hk hn)⟩
theorem six_cells {w : World} {g : Nat} {t : RT} {a : Option Addr} {c : Nat} (F : List Nat) (h : Six w g t a c) : ∀ d, d < 6 → w.cell? ⟨g, d, none⟩ = (RV.cells ⟨t, a, c, F⟩)[d]? := by
 obtain ⟨h0, h1, h2, h3, h4, h5, _⟩ := h.cells
 intro d hd
 match d, hd with
 | 0, _ => exact h0
 | 1, _ => exact h1
 | 2, _ => exact h2
 | 3, _ => exact h3
 | 4, _ => exact h4
 | 5, _ => exact h5
theorem sees_b (B : Nat) (s : ByteArray) (i : Nat) (op : Int) (c : UInt8) (n : Int) (hn : (c.toNat : Int) = n) (b : Bool) (w : World) (hs : s.size ≤ 1048576) (hr : Rdr w B s i op) (hb : atB s i c = b) :
  Calls Tryd.prog 49 #[.pointer (some ⟨B, 0, none⟩), .int .u8 n] w fun e w' => e = .returned (.bool b) ∧ ∃ n, w' = w.drewN n := by
 rw [← hb, ← hn]; exact sees_any B s i op c w hs hr
theorem Lot.lt {B : Nat} {w : World} {v : Value} {rs : List RV} (h : Lot B w v rs) : ∀ k, v.ownBlock = some k → B ≤ k ∧ k < w.heap.size := World.ownsRow.lt h.own
theorem Lot.slice {B : Nat} {w : World} {v : Value} {rs : List RV} (h : Lot B w v rs) : ∃ a cap, v = .slice a rs.length cap := by
 rcases h.own.2 with ⟨rfl, h0⟩ | ⟨g, cap, cur, rfl, _⟩
 ·exact ⟨none, 0, by rw [h0]⟩
 ·exact ⟨_, _, rfl⟩
theorem Lot.drewN {B : Nat} {w : World} {v : Value} {rs : List RV} (h : Lot B w v rs) (n : Nat) : Lot B (w.drewN n) v rs := h.kept ⟨rfl, rfl, rfl, Nat.le_refl _, fun _ _ => rfl⟩
set_option maxRecDepth 100000 in
set_option maxHeartbeats 1500000 in
theorem row_of (f : Nat) (hI : ∀ f', f' < f → ItemOk f') : RowOk f := by
 intro B s i op w d hs hr hi hop hd hf
 have hs2 : s.size ≤ 1048576 := by omega
 have HI := Lib.hid hI
 have HOP := Lib.hid hop
 clear hI hop
 have hBl := hr.lt
 have b0 : Below w.heap.size w ((w.alloc (.cells #[.int .i64 0, .string ⟨#[]⟩, .bool false, .int .i64 0, .int .i64 0, .slice none 0 0] 26)).alloc (.cells #[] 26)) := ((Below.refl w.heap.size w).alloc (Nat.le_refl _) _).alloc (by simp) _
 have O := Lib.hid (OnlyB.of_below (B := B) b0)
 have R := Lib.hid (hr.kept b0)
 have S2 : Hid (Six ((w.alloc (.cells #[.int .i64 0, .string ⟨#[]⟩, .bool false, .int .i64 0, .int .i64 0, .slice none 0 0] 26)).alloc (.cells #[] 26)) w.heap.size (PR.leaf 0) none 0) := Lib.hid ((six_two w (.cells #[.int .i64 0, .string ⟨#[]⟩, .bool false, .int .i64 0, .int .i64 0, .slice none 0 0] 26) (.cells #[] 26)).1)
 have L := Lib.hid (lot_start (B := w.heap.size + 1) (w := w.alloc (.cells #[.int .i64 0, .string ⟨#[]⟩, .bool false, .int .i64 0, .int .i64 0, .slice none 0 0] 26)) (by simp))
 clear b0 hr
 go_enter Tryd.func36, Tryd.ntmps36
 go_wp2_with fail
 go_loopg [4] (s.size - i + 1) (fun gh sl wr => ∃ (rs : List RV) (j fu : Nat) (va : Option Addr) (vc n : Nat), sl = .slice va n vc ∧ n = rs.length ∧ j ≤ s.size ∧ s.size - j + 1 ≤ gh ∧ rs.length + i ≤ j ∧ fu ≤ f ∧ 3 * (s.size - j) + 2 ≤ fu ∧ PR.cats s f d i = (PR.cats s fu d j).map (fun x => (rs.map RV.t ++ x.1, x.2)) ∧ Lot (w.heap.size + 1) wr (.slice va n vc) rs ∧ Rdr wr B s j op ∧ Six wr w.heap.size (PR.leaf 0) none 0 ∧ OnlyB B w wr)
 case atStart => exact ⟨[], i, f, _, _, 0, rfl, rfl, hi, by omega, by simp, Nat.le_refl _, hf, by cases PR.cats s f d i <;> rfl, by simpa using L.out, R.out, S2.out, O.out⟩
 case round =>
  clear L R S2 O
  obtain ⟨rs, j, fu, va, vc, n, rfl, hnl, hj, hjg, hrj, hfu, hfj, hcat, l, r, s2, o⟩ := hrel
  have L := Lib.hid l
  have R := Lib.hid r
  have S2 := Lib.hid s2
  have O := Lib.hid o
  have HC := Lib.hid hcat
  clear l r s2 o hcat
  have HNL := Lib.hid hnl
  have hn1 : n ≤ rs.length := by omega
  have hn2 : rs.length ≤ n := by omega
  clear hnl
  obtain ⟨h0, h1, h2, h3, h4, h5⟩ := R.out
  have i0 : (0 : Int) ≤ (j : Int) := by omega
  by_cases hlt : j < s.size
  ·have d1 : decide (j < s.size) = true := by simpa using hlt
   have d2 : decide ((j : Int) < (s.size : Int)) = true := by simp; omega
   cases h124 : atB s j 124
   case true =>
    have H124 := Lib.hid h124
    have HEN : Hid (PR.ends s j = true) := Lib.hid (by unfold PR.ends; rw [h124]; simp)
    clear h124
    go_wp2_with fail
    go_quiet ((go_at_call 49; exact Calls.quiet_of (sees_b B s j op 124 124 rfl true _ hs2 (R.out.drewN _) H124.out)))
    rename_i nq
    have HY : Hid (PR.cats s f d i = some (rs.map RV.t, j)) := Lib.hid (by rw [HC.out, PR.cats_end HEN.out (by omega)]; simp)
    clear HC
    have L := Lib.hid (L.out.drewN nq)
    have R := Lib.hid (R.out.drewN nq)
    have S2 : Hid (Six (wr.drewN nq) w.heap.size (PR.leaf 0) none 0) := Lib.hid S2.out
    have O := Lib.hid (O.out.drewN nq)
    generalize wr.drewN nq = w5 at L R S2 O ⊢
    clear h0 h1 h2 h3 h4 h5
    have hrl : rs.length ≤ 4000 := by omega
    rcases Nat.eq_zero_or_pos rs.length with hz | hne
    ·have hrs : rs = [] := List.length_eq_zero_iff.1 hz
     have HRS := Lib.hid hrs
     have hn0 : ((n : Int) == 0) = true := by rw [beq_iff_eq]; omega
     clear hrs hz
     obtain ⟨z0, z1, z2, z3, z4, z5, z6⟩ := S2.out.cells
     have z60 := z6 0
     have z61 := z6 1
     have z62 := z6 2
     have z63 := z6 3
     have z64 := z6 4
     have z65 := z6 5
     clear z6
     have h6 : Lk (Six (put6 w5 w.heap.size (.int .i64 0) (.string ⟨#[]⟩) (.bool false) (.int .i64 0) (.int .i64 0) (.slice none 0 0)) w.heap.size (PR.leaf 0) none 0) := Lk.mk (S2.out.put (PR.leaf 0) none 0)
     have PO := Lk.mk (put6_only O.out w.heap.size (.int .i64 0) (.string ⟨#[]⟩) (.bool false) (.int .i64 0) (.int .i64 0) (.slice none 0 0) (by omega))
     have PRd := Lk.mk (R.out.put w.heap.size (by omega) (.int .i64 0) (.string ⟨#[]⟩) (.bool false) (.int .i64 0) (.int .i64 0) (.slice none 0 0))
     go_wp2_with fail
     change bodyPost _ _ _ _ _ (put6 w5 w.heap.size (.int .i64 0) (.string ⟨#[]⟩) (.bool false) (.int .i64 0) (.int .i64 0) (.slice none 0 0))
     generalize put6 w5 w.heap.size (.int .i64 0) (.string ⟨#[]⟩) (.bool false) (.int .i64 0) (.int .i64 0) (.slice none 0 0) = W at h6 PO PRd ⊢
     obtain ⟨y0, y1, y2, y3, y4, y5, _⟩ := h6.out.cells
     replace y0 : _ = some (Value.int .i64 0) := y0
     replace y1 : _ = some (Value.string ⟨#[]⟩) := y1
     replace y2 : _ = some (Value.bool false) := y2
     replace y3 : _ = some (Value.int .i64 0) := y3
     replace y4 : _ = some (Value.int .i64 0) := y4
     replace y5 : _ = some (Value.slice none 0 0) := y5
     refine bodyPost_ret (v := .tuple #[.agg #[.int .i64 0, .string ⟨#[]⟩, .bool false, .int .i64 0, .int .i64 0, .slice none 0 0], .bool true]) (by simp [results, Tryd.results36, go_sem, y0, y1, y2, y3, y4, y5]) rfl ?_
     refine ⟨PO.out, ?_⟩
     rw [HY.out, HRS.out]
     exact ⟨none, 0, [], rfl, KF.nil _, fun y hy => absurd hy (by simp), ⟨(by show 0 ≤ 256; omega), (by show 0 ≤ 2; omega)⟩, PRd.out⟩
    ·have hn0 : ((n : Int) == 0) = false := by rw [beq_eq_false_iff_ne]; omega
     have HNN := Lib.hid (chainAt_nice 3 rs 0 hne L.out.nice)
     have HEQ := Lib.hid (chain_caT rs hne)
     have hB5 : w.heap.size + 1 ≤ w5.heap.size := S2.out.lt
     have hmx : rs.length ≤ 1048576 := by omega
     have HCH := Lib.hid (chain_any (w.heap.size + 1) 3 (.slice va n vc) rs w5 L.out hne hmx hB5)
     generalize chainAt 3 rs 0 = T at HNN HEQ HCH
     go_wp2_with fail
     refine HCH.out.mono ?_
     rintro e w7 ⟨ta, tc, tF, rfl, kt, hkt, _, b7⟩
     unfold reV
     have hS3 := S2.out.lt
     have hw7 := O.out.size
     have O := Lib.hid (O.out.trans (OnlyB.of_below b7))
     have S2 := Lib.hid (S2.out.kept b7)
     have R := Lib.hid (R.out.kept b7)
     have K := Lib.hid kt
     have HGF : Hid (w.heap.size ∉ tF) := Lib.hid (fun h => by have := hkt _ h; omega)
     have HLF : Hid (∀ y ∈ tF, w.heap.size ≤ y) := Lib.hid (fun y hy => by have := hkt y hy; omega)
     clear kt b7 hkt HCH L
     obtain ⟨z0, z1, z2, z3, z4, z5, z6⟩ := S2.out.cells
     have z60 := z6 0
     have z61 := z6 1
     have z62 := z6 2
     have z63 := z6 3
     have z64 := z6 4
     have z65 := z6 5
     clear z6
     have h6 : Lk (Six (put6 w7 w.heap.size (.int .i64 T.kind) (.string T.set) (.bool T.neg) (.int .i64 T.low) (.int .i64 T.high) (.slice ta T.kids.length tc)) w.heap.size T ta tc) := Lk.mk (S2.out.put T ta tc)
     have PO := Lk.mk (put6_only O.out w.heap.size (.int .i64 T.kind) (.string T.set) (.bool T.neg) (.int .i64 T.low) (.int .i64 T.high) (.slice ta T.kids.length tc) (by omega))
     have PRd := Lk.mk (R.out.put w.heap.size (by omega) (.int .i64 T.kind) (.string T.set) (.bool T.neg) (.int .i64 T.low) (.int .i64 T.high) (.slice ta T.kids.length tc))
     have PK := Lk.mk (K.out.put w.heap.size HGF.out (.int .i64 T.kind) (.string T.set) (.bool T.neg) (.int .i64 T.low) (.int .i64 T.high) (.slice ta T.kids.length tc))
     go_wp2_with fail
     change bodyPost _ _ _ _ _ (put6 w7 w.heap.size (.int .i64 T.kind) (.string T.set) (.bool T.neg) (.int .i64 T.low) (.int .i64 T.high) (.slice ta T.kids.length tc))
     generalize put6 w7 w.heap.size (.int .i64 T.kind) (.string T.set) (.bool T.neg) (.int .i64 T.low) (.int .i64 T.high) (.slice ta T.kids.length tc) = W at h6 PO PRd PK ⊢
     obtain ⟨y0, y1, y2, y3, y4, y5, _⟩ := h6.out.cells
     replace y0 : _ = some (Value.int .i64 T.kind) := y0
     replace y1 : _ = some (Value.string T.set) := y1
     replace y2 : _ = some (Value.bool T.neg) := y2
     replace y3 : _ = some (Value.int .i64 T.low) := y3
     replace y4 : _ = some (Value.int .i64 T.high) := y4
     replace y5 : _ = some (Value.slice ta T.kids.length tc) := y5
     refine bodyPost_ret (v := .tuple #[.agg #[.int .i64 T.kind, .string T.set, .bool T.neg, .int .i64 T.low, .int .i64 T.high, .slice ta T.kids.length tc], .bool true]) (by simp [results, Tryd.results36, go_sem, y0, y1, y2, y3, y4, y5]) rfl ?_
     refine ⟨PO.out, ?_⟩
     rw [HY.out]
     simp only [Option.map_some]
     rw [← HEQ.out]
     exact ⟨ta, tc, tF, rfl, PK.out, HLF.out, HNN.out, PRd.out⟩
   case false =>
    cases h41 : atB s j 41
    case true =>
     have H124 := Lib.hid h124
     have H41 := Lib.hid h41
     have HEN : Hid (PR.ends s j = true) := Lib.hid (by unfold PR.ends; rw [h41]; simp)
     clear h124 h41
     go_wp2_with fail
     go_quiet ((first | (go_at_call_of 49 (Value.int IntKind.u8 124); exact Calls.quiet_of (sees_b B s j op 124 124 rfl false _ hs2 (R.out.drewN _) H124.out)) | (go_at_call_of 49 (Value.int IntKind.u8 41); exact Calls.quiet_of (sees_b B s j op 41 41 rfl true _ hs2 (R.out.drewN _) H41.out))))
     rename_i nq
     have HY : Hid (PR.cats s f d i = some (rs.map RV.t, j)) := Lib.hid (by rw [HC.out, PR.cats_end HEN.out (by omega)]; simp)
     clear HC
     have L := Lib.hid (L.out.drewN nq)
     have R := Lib.hid (R.out.drewN nq)
     have S2 : Hid (Six (wr.drewN nq) w.heap.size (PR.leaf 0) none 0) := Lib.hid S2.out
     have O := Lib.hid (O.out.drewN nq)
     generalize wr.drewN nq = w5 at L R S2 O ⊢
     clear h0 h1 h2 h3 h4 h5
     have hrl : rs.length ≤ 4000 := by omega
     rcases Nat.eq_zero_or_pos rs.length with hz | hne
     ·have hrs : rs = [] := List.length_eq_zero_iff.1 hz
      have HRS := Lib.hid hrs
      have hn0 : ((n : Int) == 0) = true := by rw [beq_iff_eq]; omega
      clear hrs hz
      obtain ⟨z0, z1, z2, z3, z4, z5, z6⟩ := S2.out.cells
      have z60 := z6 0
      have z61 := z6 1
      have z62 := z6 2
      have z63 := z6 3
      have z64 := z6 4
      have z65 := z6 5
      clear z6
      have h6 : Lk (Six (put6 w5 w.heap.size (.int .i64 0) (.string ⟨#[]⟩) (.bool false) (.int .i64 0) (.int .i64 0) (.slice none 0 0)) w.heap.size (PR.leaf 0) none 0) := Lk.mk (S2.out.put (PR.leaf 0) none 0)
      have PO := Lk.mk (put6_only O.out w.heap.size (.int .i64 0) (.string ⟨#[]⟩) (.bool false) (.int .i64 0) (.int .i64 0) (.slice none 0 0) (by omega))
      have PRd := Lk.mk (R.out.put w.heap.size (by omega) (.int .i64 0) (.string ⟨#[]⟩) (.bool false) (.int .i64 0) (.int .i64 0) (.slice none 0 0))
      go_wp2_with fail
      change bodyPost _ _ _ _ _ (put6 w5 w.heap.size (.int .i64 0) (.string ⟨#[]⟩) (.bool false) (.int .i64 0) (.int .i64 0) (.slice none 0 0))
      generalize put6 w5 w.heap.size (.int .i64 0) (.string ⟨#[]⟩) (.bool false) (.int .i64 0) (.int .i64 0) (.slice none 0 0) = W at h6 PO PRd ⊢
      obtain ⟨y0, y1, y2, y3, y4, y5, _⟩ := h6.out.cells
      replace y0 : _ = some (Value.int .i64 0) := y0
      replace y1 : _ = some (Value.string ⟨#[]⟩) := y1
      replace y2 : _ = some (Value.bool false) := y2
      replace y3 : _ = some (Value.int .i64 0) := y3
      replace y4 : _ = some (Value.int .i64 0) := y4
      replace y5 : _ = some (Value.slice none 0 0) := y5
      refine bodyPost_ret (v := .tuple #[.agg #[.int .i64 0, .string ⟨#[]⟩, .bool false, .int .i64 0, .int .i64 0, .slice none 0 0], .bool true]) (by simp [results, Tryd.results36, go_sem, y0, y1, y2, y3, y4, y5]) rfl ?_
      refine ⟨PO.out, ?_⟩
      rw [HY.out, HRS.out]
      exact ⟨none, 0, [], rfl, KF.nil _, fun y hy => absurd hy (by simp), ⟨(by show 0 ≤ 256; omega), (by show 0 ≤ 2; omega)⟩, PRd.out⟩
     ·have hn0 : ((n : Int) == 0) = false := by rw [beq_eq_false_iff_ne]; omega
      have HNN := Lib.hid (chainAt_nice 3 rs 0 hne L.out.nice)
      have HEQ := Lib.hid (chain_caT rs hne)
      have hB5 : w.heap.size + 1 ≤ w5.heap.size := S2.out.lt
      have hmx : rs.length ≤ 1048576 := by omega
      have HCH := Lib.hid (chain_any (w.heap.size + 1) 3 (.slice va n vc) rs w5 L.out hne hmx hB5)
      generalize chainAt 3 rs 0 = T at HNN HEQ HCH
      go_wp2_with fail
      refine HCH.out.mono ?_
      rintro e w7 ⟨ta, tc, tF, rfl, kt, hkt, _, b7⟩
      unfold reV
      have hS3 := S2.out.lt
      have hw7 := O.out.size
      have O := Lib.hid (O.out.trans (OnlyB.of_below b7))
      have S2 := Lib.hid (S2.out.kept b7)
      have R := Lib.hid (R.out.kept b7)
      have K := Lib.hid kt
      have HGF : Hid (w.heap.size ∉ tF) := Lib.hid (fun h => by have := hkt _ h; omega)
      have HLF : Hid (∀ y ∈ tF, w.heap.size ≤ y) := Lib.hid (fun y hy => by have := hkt y hy; omega)
      clear kt b7 hkt HCH L
      obtain ⟨z0, z1, z2, z3, z4, z5, z6⟩ := S2.out.cells
      have z60 := z6 0
      have z61 := z6 1
      have z62 := z6 2
      have z63 := z6 3
      have z64 := z6 4
      have z65 := z6 5
      clear z6
      have h6 : Lk (Six (put6 w7 w.heap.size (.int .i64 T.kind) (.string T.set) (.bool T.neg) (.int .i64 T.low) (.int .i64 T.high) (.slice ta T.kids.length tc)) w.heap.size T ta tc) := Lk.mk (S2.out.put T ta tc)
      have PO := Lk.mk (put6_only O.out w.heap.size (.int .i64 T.kind) (.string T.set) (.bool T.neg) (.int .i64 T.low) (.int .i64 T.high) (.slice ta T.kids.length tc) (by omega))
      have PRd := Lk.mk (R.out.put w.heap.size (by omega) (.int .i64 T.kind) (.string T.set) (.bool T.neg) (.int .i64 T.low) (.int .i64 T.high) (.slice ta T.kids.length tc))
      have PK := Lk.mk (K.out.put w.heap.size HGF.out (.int .i64 T.kind) (.string T.set) (.bool T.neg) (.int .i64 T.low) (.int .i64 T.high) (.slice ta T.kids.length tc))
      go_wp2_with fail
      change bodyPost _ _ _ _ _ (put6 w7 w.heap.size (.int .i64 T.kind) (.string T.set) (.bool T.neg) (.int .i64 T.low) (.int .i64 T.high) (.slice ta T.kids.length tc))
      generalize put6 w7 w.heap.size (.int .i64 T.kind) (.string T.set) (.bool T.neg) (.int .i64 T.low) (.int .i64 T.high) (.slice ta T.kids.length tc) = W at h6 PO PRd PK ⊢
      obtain ⟨y0, y1, y2, y3, y4, y5, _⟩ := h6.out.cells
      replace y0 : _ = some (Value.int .i64 T.kind) := y0
      replace y1 : _ = some (Value.string T.set) := y1
      replace y2 : _ = some (Value.bool T.neg) := y2
      replace y3 : _ = some (Value.int .i64 T.low) := y3
      replace y4 : _ = some (Value.int .i64 T.high) := y4
      replace y5 : _ = some (Value.slice ta T.kids.length tc) := y5
      refine bodyPost_ret (v := .tuple #[.agg #[.int .i64 T.kind, .string T.set, .bool T.neg, .int .i64 T.low, .int .i64 T.high, .slice ta T.kids.length tc], .bool true]) (by simp [results, Tryd.results36, go_sem, y0, y1, y2, y3, y4, y5]) rfl ?_
      refine ⟨PO.out, ?_⟩
      rw [HY.out]
      simp only [Option.map_some]
      rw [← HEQ.out]
      exact ⟨ta, tc, tF, rfl, PK.out, HLF.out, HNN.out, PRd.out⟩
    case false =>
     have H124 := Lib.hid h124
     have H41 := Lib.hid h41
     have HEN : Hid (PR.ends s j = false) := Lib.hid (by unfold PR.ends; rw [h124, h41]; simp; omega)
     clear h124 h41
     go_wp2_with fail
     go_quiet ((first | (go_at_call_of 49 (Value.int IntKind.u8 124); exact Calls.quiet_of (sees_b B s j op 124 124 rfl false _ hs2 (R.out.drewN _) H124.out)) | (go_at_call_of 49 (Value.int IntKind.u8 41); exact Calls.quiet_of (sees_b B s j op 41 41 rfl false _ hs2 (R.out.drewN _) H41.out))))
     rename_i nq
     have L := Lib.hid (L.out.drewN nq)
     have R := Lib.hid (R.out.drewN nq)
     have S2 : Hid (Six (wr.drewN nq) w.heap.size (PR.leaf 0) none 0) := Lib.hid S2.out
     have O := Lib.hid (O.out.drewN nq)
     generalize wr.drewN nq = w5 at L R S2 O ⊢
     clear h0 h1 h2 h3 h4 h5 d1 d2
     obtain ⟨fv, rfl⟩ : ∃ g, fu = g + 1 := ⟨fu - 1, by omega⟩
     go_wp2_with fail
     refine (HI.out fv (by omega) B s j op _ d hs R.out hlt HOP.out hd (by omega)).mono ?_
     rintro e w3 ⟨o, hp⟩
     have LOLD := L
     have hL5 := L.out.lt
     have L := Lib.hid (L.out.only o (by omega))
     have hW5 := R.out.lt
     cases hres : (PR.item s fv d j).bind fun x => PR.times s x.1 x.2 with
     | none =>
      rw [hres] at hp
      obtain ⟨T, ta, tc, jj, oo, rfl, r⟩ := hp
      have HY : Hid (PR.cats s f d i = none) := Lib.hid (by rw [HC.out, PR.cats_none HEN.out hres]; rfl)
      clear hres HC HEN
      have O := Lib.hid (O.out.trans o)
      have S2 := Lib.hid (S2.out.only o (by omega))
      have R := Lib.hid r
      clear o r
      unfold reV
      obtain ⟨z0, z1, z2, z3, z4, z5, z6⟩ := S2.out.cells
      have z60 := z6 0
      have z61 := z6 1
      have z62 := z6 2
      have z63 := z6 3
      have z64 := z6 4
      have z65 := z6 5
      clear z6
      have hw3 := O.out.size
      have hS3 := S2.out.lt
      have ba : Below (put6 w3 w.heap.size (.int .i64 0) (.string ⟨#[]⟩) (.bool false) (.int .i64 0) (.int .i64 0) (.slice none 0 0)).heap.size (put6 w3 w.heap.size (.int .i64 0) (.string ⟨#[]⟩) (.bool false) (.int .i64 0) (.int .i64 0) (.slice none 0 0)) ((put6 w3 w.heap.size (.int .i64 0) (.string ⟨#[]⟩) (.bool false) (.int .i64 0) (.int .i64 0) (.slice none 0 0)).alloc (.cells #[.int .i64 T.kind, .string T.set, .bool T.neg, .int .i64 T.low, .int .i64 T.high, .slice ta T.kids.length tc] 26)) := (Below.refl _ _).alloc (Nat.le_refl _) _
      have h6 : Lk (Six ((put6 w3 w.heap.size (.int .i64 0) (.string ⟨#[]⟩) (.bool false) (.int .i64 0) (.int .i64 0) (.slice none 0 0)).alloc (.cells #[.int .i64 T.kind, .string T.set, .bool T.neg, .int .i64 T.low, .int .i64 T.high, .slice ta T.kids.length tc] 26)) w.heap.size (PR.leaf 0) none 0) := Lk.mk ((S2.out.put (PR.leaf 0) none 0).kept ba)
      have PO := Lk.mk ((put6_only O.out w.heap.size (.int .i64 0) (.string ⟨#[]⟩) (.bool false) (.int .i64 0) (.int .i64 0) (.slice none 0 0) (by omega)).trans (OnlyB.of_below (B := B) ba))
      have PRd := Lk.mk ((R.out.put w.heap.size (by omega) (.int .i64 0) (.string ⟨#[]⟩) (.bool false) (.int .i64 0) (.int .i64 0) (.slice none 0 0)).kept ba)
      clear ba
      go_wp2_with fail
      change bodyPost _ _ _ _ _ ((put6 w3 w.heap.size (.int .i64 0) (.string ⟨#[]⟩) (.bool false) (.int .i64 0) (.int .i64 0) (.slice none 0 0)).alloc (.cells #[.int .i64 T.kind, .string T.set, .bool T.neg, .int .i64 T.low, .int .i64 T.high, .slice ta T.kids.length tc] 26))
      generalize (put6 w3 w.heap.size (.int .i64 0) (.string ⟨#[]⟩) (.bool false) (.int .i64 0) (.int .i64 0) (.slice none 0 0)).alloc (.cells #[.int .i64 T.kind, .string T.set, .bool T.neg, .int .i64 T.low, .int .i64 T.high, .slice ta T.kids.length tc] 26) = W at h6 PO PRd ⊢
      obtain ⟨y0, y1, y2, y3, y4, y5, _⟩ := h6.out.cells
      replace y0 : _ = some (Value.int .i64 0) := y0
      replace y1 : _ = some (Value.string ⟨#[]⟩) := y1
      replace y2 : _ = some (Value.bool false) := y2
      replace y3 : _ = some (Value.int .i64 0) := y3
      replace y4 : _ = some (Value.int .i64 0) := y4
      replace y5 : _ = some (Value.slice none 0 0) := y5
      refine bodyPost_ret (v := .tuple #[.agg #[.int .i64 0, .string ⟨#[]⟩, .bool false, .int .i64 0, .int .i64 0, .slice none 0 0], .bool false]) (by simp [results, Tryd.results36, go_sem, y0, y1, y2, y3, y4, y5]) rfl ?_
      refine ⟨PO.out, ?_⟩
      rw [HY.out]
      exact ⟨PR.leaf 0, none, 0, _, _, rfl, PRd.out⟩
     | some x =>
      rw [hres] at hp
      obtain ⟨T, jj⟩ := x
      obtain ⟨ta, tc, tF, rfl, k, hkl, hni, r⟩ := hp
      simp only at k hni r
      have hadv := PR.bind_adv hlt hres
      simp only at hadv
      obtain ⟨ha1, ha2⟩ := hadv
      have HY : Hid (PR.cats s f d i = (PR.cats s fv d jj).map fun x => ((rs ++ [(⟨T, ta, tc, tF⟩ : RV)]).map RV.t ++ x.1, x.2)) := Lib.hid (by rw [HC.out, PR.cats_some HEN.out hres]; cases PR.cats s fv d jj <;> simp)
      clear hres HC HEN
      have hS5 := S2.out.lt
      have hO5 := O.out.size
      have HLF : Hid (∀ y ∈ tF, w.heap.size + 1 ≤ y) := Lib.hid (fun y hy => by have := hkl y hy; omega)
      have HOFF : Hid (∀ y ∈ tF, Value.ownBlock (.slice va n vc) ≠ some y) := Lib.hid (fun y hy e => by have h1 := hkl y hy; have h2 := hL5 y e; omega)
      have HAP : Hid (∀ s ∈ rs, apartF s ⟨T, ta, tc, tF⟩) := Lib.hid (fun q hq x hx hx' => by have h1 := hkl x hx'; have h2 := (LOLD.out.kf q hq).lt x hx; omega)
      have O := Lib.hid (O.out.trans o)
      have S2 := Lib.hid (S2.out.only o (by omega))
      have R := Lib.hid r
      clear o r
      unfold reV
      have K := Lib.hid k
      have HKL := Lib.hid hkl
      have HNI := Lib.hid hni
      clear k hkl hni
      have hrl : rs.length + 1 ≤ 1048576 := by omega
      have hB2 : w.heap.size + 1 ≤ ((w3.alloc (.cells #[.int .i64 T.kind, .string T.set, .bool T.neg, .int .i64 T.low, .int .i64 T.high, .slice ta T.kids.length tc] 26)).alloc (.cells #[.int .i64 T.kind, .string T.set, .bool T.neg, .int .i64 T.low, .int .i64 T.high, .slice ta T.kids.length tc] 26)).heap.size := by have := S2.out.lt; simp; omega
      have hw3 := O.out.size
      have hS3 := S2.out.lt
      have hR3 := R.out.lt
      have bx : Below w3.heap.size w3 ((w3.alloc (.cells #[.int .i64 T.kind, .string T.set, .bool T.neg, .int .i64 T.low, .int .i64 T.high, .slice ta T.kids.length tc] 26)).alloc (.cells #[.int .i64 T.kind, .string T.set, .bool T.neg, .int .i64 T.low, .int .i64 T.high, .slice ta T.kids.length tc] 26)) := ((Below.refl w3.heap.size w3).alloc (Nat.le_refl _) _).alloc (by simp) _
      have HNW := Lib.hid (six_cells tF (show Six ((w3.alloc (.cells #[.int .i64 T.kind, .string T.set, .bool T.neg, .int .i64 T.low, .int .i64 T.high, .slice ta T.kids.length tc] 26)).alloc (.cells #[.int .i64 T.kind, .string T.set, .bool T.neg, .int .i64 T.low, .int .i64 T.high, .slice ta T.kids.length tc] 26)) (w3.heap.size + 1) T ta tc from (six_two w3 (.cells #[.int .i64 T.kind, .string T.set, .bool T.neg, .int .i64 T.low, .int .i64 T.high, .slice ta T.kids.length tc] 26) (.cells #[.int .i64 T.kind, .string T.set, .bool T.neg, .int .i64 T.low, .int .i64 T.high, .slice ta T.kids.length tc] 26)).2))
      have L2 := Lib.hid (L.out.kept bx)
      have K2 := Lib.hid (K.out.kept bx)
      have R2 := Lib.hid (R.out.kept bx)
      have S3 := Lib.hid (S2.out.kept bx)
      have O2 := Lib.hid (O.out.trans (OnlyB.of_below (B := B) bx))
      have hbz := bx.size
      clear bx
      go_wp2_with (at_builtin; refine wp_append_re rfl _ _ rfl (w.heap.size + 1) (.slice va n vc) rs rfl L2.out.own (w3.heap.size + 1) 1 ⟨T, ta, tc, tF⟩ rfl HNW.out hrl hB2 ?_; intro v' w6 hown6 hgr6 hv6)
      have HLOT := Lib.hid (L2.out.more hown6 hgr6 hv6 HNI.out K2.out HLF.out (fun x hx e => HOFF.out x hx e) HAP.out)
      have q1 := Lib.hid (R2.out.grown hgr6 (fun e => by have := L2.out.lt B e.symm; omega))
      have q2 := Lib.hid (S3.out.grown hgr6 (fun e => by have := L2.out.lt _ e.symm; omega))
      have q3 := Lib.hid (O2.out.grown hgr6 (fun k e => by have := L2.out.lt k e; omega))
      clear hown6 hgr6 hv6
      obtain ⟨va', vc', hv'⟩ := HLOT.out.slice
      obtain ⟨n', hn'⟩ : ∃ n', n' = (rs ++ [(⟨T, ta, tc, tF⟩ : RV)]).length := ⟨_, rfl⟩
      rw [← hn'] at hv'
      rw [hv'] at HLOT ⊢
      have HN' := Lib.hid hn'
      clear hv' hn'
      go_wp2_with fail
      go_roundg (s.size - jj + 1)
      case measure => omega
      case rel => exact ⟨_, jj, fv, va', vc', n', rfl, HN'.out, ha2, by omega, by simp; omega, by omega, by omega, HY.out, HLOT.out, q1.out, q2.out, q3.out⟩
  ·have d1 : decide (j < s.size) = false := by simpa using hlt
   have d2 : decide ((j : Int) < (s.size : Int)) = false := by simp; omega
   have HEN : Hid (PR.ends s j = true) := Lib.hid (by unfold PR.ends; simp; omega)
   go_wp2_with fail
   go_quiet (fail)
   rename_i nq
   have HY : Hid (PR.cats s f d i = some (rs.map RV.t, j)) := Lib.hid (by rw [HC.out, PR.cats_end HEN.out (by omega)]; simp)
   clear HC
   have L := Lib.hid (L.out.drewN nq)
   have R := Lib.hid (R.out.drewN nq)
   have S2 : Hid (Six (wr.drewN nq) w.heap.size (PR.leaf 0) none 0) := Lib.hid S2.out
   have O := Lib.hid (O.out.drewN nq)
   generalize wr.drewN nq = w5 at L R S2 O ⊢
   clear h0 h1 h2 h3 h4 h5
   have hrl : rs.length ≤ 4000 := by omega
   rcases Nat.eq_zero_or_pos rs.length with hz | hne
   ·have hrs : rs = [] := List.length_eq_zero_iff.1 hz
    have HRS := Lib.hid hrs
    have hn0 : ((n : Int) == 0) = true := by rw [beq_iff_eq]; omega
    clear hrs hz
    obtain ⟨z0, z1, z2, z3, z4, z5, z6⟩ := S2.out.cells
    have z60 := z6 0
    have z61 := z6 1
    have z62 := z6 2
    have z63 := z6 3
    have z64 := z6 4
    have z65 := z6 5
    clear z6
    have h6 : Lk (Six (put6 w5 w.heap.size (.int .i64 0) (.string ⟨#[]⟩) (.bool false) (.int .i64 0) (.int .i64 0) (.slice none 0 0)) w.heap.size (PR.leaf 0) none 0) := Lk.mk (S2.out.put (PR.leaf 0) none 0)
    have PO := Lk.mk (put6_only O.out w.heap.size (.int .i64 0) (.string ⟨#[]⟩) (.bool false) (.int .i64 0) (.int .i64 0) (.slice none 0 0) (by omega))
    have PRd := Lk.mk (R.out.put w.heap.size (by omega) (.int .i64 0) (.string ⟨#[]⟩) (.bool false) (.int .i64 0) (.int .i64 0) (.slice none 0 0))
    go_wp2_with fail
    change bodyPost _ _ _ _ _ (put6 w5 w.heap.size (.int .i64 0) (.string ⟨#[]⟩) (.bool false) (.int .i64 0) (.int .i64 0) (.slice none 0 0))
    generalize put6 w5 w.heap.size (.int .i64 0) (.string ⟨#[]⟩) (.bool false) (.int .i64 0) (.int .i64 0) (.slice none 0 0) = W at h6 PO PRd ⊢
    obtain ⟨y0, y1, y2, y3, y4, y5, _⟩ := h6.out.cells
    replace y0 : _ = some (Value.int .i64 0) := y0
    replace y1 : _ = some (Value.string ⟨#[]⟩) := y1
    replace y2 : _ = some (Value.bool false) := y2
    replace y3 : _ = some (Value.int .i64 0) := y3
    replace y4 : _ = some (Value.int .i64 0) := y4
    replace y5 : _ = some (Value.slice none 0 0) := y5
    refine bodyPost_ret (v := .tuple #[.agg #[.int .i64 0, .string ⟨#[]⟩, .bool false, .int .i64 0, .int .i64 0, .slice none 0 0], .bool true]) (by simp [results, Tryd.results36, go_sem, y0, y1, y2, y3, y4, y5]) rfl ?_
    refine ⟨PO.out, ?_⟩
    rw [HY.out, HRS.out]
    exact ⟨none, 0, [], rfl, KF.nil _, fun y hy => absurd hy (by simp), ⟨(by show 0 ≤ 256; omega), (by show 0 ≤ 2; omega)⟩, PRd.out⟩
   ·have hn0 : ((n : Int) == 0) = false := by rw [beq_eq_false_iff_ne]; omega
    have HNN := Lib.hid (chainAt_nice 3 rs 0 hne L.out.nice)
    have HEQ := Lib.hid (chain_caT rs hne)
    have hB5 : w.heap.size + 1 ≤ w5.heap.size := S2.out.lt
    have hmx : rs.length ≤ 1048576 := by omega
    have HCH := Lib.hid (chain_any (w.heap.size + 1) 3 (.slice va n vc) rs w5 L.out hne hmx hB5)
    generalize chainAt 3 rs 0 = T at HNN HEQ HCH
    go_wp2_with fail
    refine HCH.out.mono ?_
    rintro e w7 ⟨ta, tc, tF, rfl, kt, hkt, _, b7⟩
    unfold reV
    have hS3 := S2.out.lt
    have hw7 := O.out.size
    have O := Lib.hid (O.out.trans (OnlyB.of_below b7))
    have S2 := Lib.hid (S2.out.kept b7)
    have R := Lib.hid (R.out.kept b7)
    have K := Lib.hid kt
    have HGF : Hid (w.heap.size ∉ tF) := Lib.hid (fun h => by have := hkt _ h; omega)
    have HLF : Hid (∀ y ∈ tF, w.heap.size ≤ y) := Lib.hid (fun y hy => by have := hkt y hy; omega)
    clear kt b7 hkt HCH L
    obtain ⟨z0, z1, z2, z3, z4, z5, z6⟩ := S2.out.cells
    have z60 := z6 0
    have z61 := z6 1
    have z62 := z6 2
    have z63 := z6 3
    have z64 := z6 4
    have z65 := z6 5
    clear z6
    have h6 : Lk (Six (put6 w7 w.heap.size (.int .i64 T.kind) (.string T.set) (.bool T.neg) (.int .i64 T.low) (.int .i64 T.high) (.slice ta T.kids.length tc)) w.heap.size T ta tc) := Lk.mk (S2.out.put T ta tc)
    have PO := Lk.mk (put6_only O.out w.heap.size (.int .i64 T.kind) (.string T.set) (.bool T.neg) (.int .i64 T.low) (.int .i64 T.high) (.slice ta T.kids.length tc) (by omega))
    have PRd := Lk.mk (R.out.put w.heap.size (by omega) (.int .i64 T.kind) (.string T.set) (.bool T.neg) (.int .i64 T.low) (.int .i64 T.high) (.slice ta T.kids.length tc))
    have PK := Lk.mk (K.out.put w.heap.size HGF.out (.int .i64 T.kind) (.string T.set) (.bool T.neg) (.int .i64 T.low) (.int .i64 T.high) (.slice ta T.kids.length tc))
    go_wp2_with fail
    change bodyPost _ _ _ _ _ (put6 w7 w.heap.size (.int .i64 T.kind) (.string T.set) (.bool T.neg) (.int .i64 T.low) (.int .i64 T.high) (.slice ta T.kids.length tc))
    generalize put6 w7 w.heap.size (.int .i64 T.kind) (.string T.set) (.bool T.neg) (.int .i64 T.low) (.int .i64 T.high) (.slice ta T.kids.length tc) = W at h6 PO PRd PK ⊢
    obtain ⟨y0, y1, y2, y3, y4, y5, _⟩ := h6.out.cells
    replace y0 : _ = some (Value.int .i64 T.kind) := y0
    replace y1 : _ = some (Value.string T.set) := y1
    replace y2 : _ = some (Value.bool T.neg) := y2
    replace y3 : _ = some (Value.int .i64 T.low) := y3
    replace y4 : _ = some (Value.int .i64 T.high) := y4
    replace y5 : _ = some (Value.slice ta T.kids.length tc) := y5
    refine bodyPost_ret (v := .tuple #[.agg #[.int .i64 T.kind, .string T.set, .bool T.neg, .int .i64 T.low, .int .i64 T.high, .slice ta T.kids.length tc], .bool true]) (by simp [results, Tryd.results36, go_sem, y0, y1, y2, y3, y4, y5]) rfl ?_
    refine ⟨PO.out, ?_⟩
    rw [HY.out]
    simp only [Option.map_some]
    rw [← HEQ.out]
    exact ⟨ta, tc, tF, rfl, PK.out, HLF.out, HNN.out, PRd.out⟩
end Go.Proofs.YtcpaneaiobnhdaaDoor.kit
/-
 Contract of impl's reader choice of expressions for texts over this seat's translation, and with it of all its readers, of impl.ParseRe too. Conditions: the reader's cells are known; there is fuel enough.
-/
namespace Go.Proofs.YtcpaneaiobnhdaaDoor.kit
open Go.ChangeShapes Go.WideShapes Go.ChangeAt Go.RowKit
set_option linter.unusedVariables false

namespace PR
theorem alts_fail {s : ByteArray} {q d p : Nat} {L : List RT} {X : Option (List RT × Nat)} (h : X = (alts s (q + 1) d p).map fun y => (L ++ y.1, y.2)) (hc : (cats s q d p).map (fun x => (caT x.1, x.2)) = none) : X = none := by
 rw [h, alts_step]
 cases hq : cats s q d p with
 | none => rfl
 | some x => rw [hq] at hc; cases hc
theorem alts_more {s : ByteArray} {q d p : Nat} {L : List RT} {X : Option (List RT × Nat)} {T : RT} {jj : Nat} (h : X = (alts s (q + 1) d p).map fun y => (L ++ y.1, y.2)) (hc : (cats s q d p).map (fun x => (caT x.1, x.2)) = some (T, jj)) :
  X = if atB s jj 124 then (alts s q d (jj + 1)).map (fun y => ((L ++ [T]) ++ y.1, y.2)) else some (L ++ [T], jj) := by
 rw [h, alts_step]
 cases hq : cats s q d p with
 | none => rw [hq] at hc; cases hc
 | some x =>
  rw [hq] at hc
  injection hc with hc
  injection hc with h1 h2
  subst h1 h2
  simp only [Option.bind_some]
  split
  ·cases alts s q d (x.2 + 1) <;> simp
  ·simp
theorem cats_adv {s : ByteArray} {q d p : Nat} {T : RT} {jj : Nat} (hp : p ≤ s.size) (hc : (cats s q d p).map (fun x => (caT x.1, x.2)) = some (T, jj)) : p ≤ jj ∧ jj ≤ s.size := by
 cases hq : cats s q d p with
 | none => rw [hq] at hc; cases hc
 | some x =>
  rw [hq] at hc
  injection hc with hc
  injection hc with h1 h2
  subst h2
  exact (adv s q).2.1 d p x hp hq
end PR
set_option maxRecDepth 100000 in
set_option maxHeartbeats 1500000 in
theorem choice_of (f : Nat) (hI : ∀ f', f' < f → RowOk f') : ChoiceOk f := by
 intro B s i op w d hs hr hi hop hd hf
 have hs2 : s.size ≤ 1048576 := by omega
 have HI := Lib.hid hI
 have HOP := Lib.hid hop
 clear hI hop
 have hBl := hr.lt
 have b0 : Below w.heap.size w ((w.alloc (.cells #[.int .i64 0, .string ⟨#[]⟩, .bool false, .int .i64 0, .int .i64 0, .slice none 0 0] 26)).alloc (.cells #[] 26)) := ((Below.refl w.heap.size w).alloc (Nat.le_refl _) _).alloc (by simp) _
 have O := Lib.hid (OnlyB.of_below (B := B) b0)
 have R := Lib.hid (hr.kept b0)
 have S2 : Hid (Six ((w.alloc (.cells #[.int .i64 0, .string ⟨#[]⟩, .bool false, .int .i64 0, .int .i64 0, .slice none 0 0] 26)).alloc (.cells #[] 26)) w.heap.size (PR.leaf 0) none 0) := Lib.hid ((six_two w (.cells #[.int .i64 0, .string ⟨#[]⟩, .bool false, .int .i64 0, .int .i64 0, .slice none 0 0] 26) (.cells #[] 26)).1)
 have L := Lib.hid (lot_start (B := w.heap.size + 1) (w := w.alloc (.cells #[.int .i64 0, .string ⟨#[]⟩, .bool false, .int .i64 0, .int .i64 0, .slice none 0 0] 26)) (by simp))
 clear b0 hr
 go_enter Tryd.func23, Tryd.ntmps23
 go_wp2_with fail
 go_loopg [4] (s.size - i + 2) (fun gh sl wr => ∃ (rs : List RV) (j fu : Nat) (va : Option Addr) (vc n : Nat), sl = .slice va n vc ∧ n = rs.length ∧ i ≤ j ∧ j ≤ s.size ∧ rs.length + i ≤ j + 1 ∧ (rs = [] ∧ j = i ∧ s.size - j + 2 ≤ gh ∨ 0 < rs.length ∧ s.size - j + 1 ≤ gh ∧ 3 * (s.size - j) + 2 ≤ fu ∧ fu < f ∧ PR.alts s f d i = (if atB s j 124 then (PR.alts s fu d (j + 1)).map (fun y => (rs.map RV.t ++ y.1, y.2)) else some (rs.map RV.t, j))) ∧ Lot (w.heap.size + 1) wr (.slice va n vc) rs ∧ Rdr wr B s j op ∧ Six wr w.heap.size (PR.leaf 0) none 0 ∧ OnlyB B w wr)
 case atStart => exact ⟨[], i, f, _, _, 0, rfl, rfl, Nat.le_refl _, hi, by simp, .inl ⟨rfl, rfl, Nat.le_refl _⟩, by simpa using L.out, R.out, S2.out, O.out⟩
 case round =>
  clear L R S2 O
  obtain ⟨rs, j, fu, va, vc, n, rfl, hnl, hij, hj, hrj, hst, l, r, s2, o⟩ := hrel
  have L := Lib.hid l
  have R := Lib.hid r
  have S2 := Lib.hid s2
  have O := Lib.hid o
  clear l r s2 o
  have HNL := Lib.hid hnl
  have hn1 : n ≤ rs.length := by omega
  have hn2 : rs.length ≤ n := by omega
  clear hnl
  rcases hst with ⟨hrs, hji, hgh⟩ | ⟨hne, hgh, hfj, hfu, hal⟩
  ·have HP : Hid (PR.alts s f d i = (PR.alts s (f - 1 + 1) d j).map fun y => (rs.map RV.t ++ y.1, y.2)) := Lib.hid (by rw [hrs, hji, show f - 1 + 1 = f by omega]; cases PR.alts s f d i <;> simp)
   have hn0 : ((n : Int) == 0) = true := by rw [beq_iff_eq]; rw [hrs] at hn1; simp at hn1; omega
   have hji1 : j ≤ i := by omega
   have hr0 : rs.length ≤ 0 := by rw [hrs]; simp
   clear hrs hji
   go_wp2_with fail
   refine (HI.out (f - 1) (by omega) B s (j) op _ d hs R.out (by omega) HOP.out hd (by omega)).mono ?_
   rintro e w3 ⟨o, hp⟩
   have LOLD := L
   have hL5 := L.out.lt
   have L := Lib.hid (L.out.only o (by omega))
   have hW5 := R.out.lt
   cases hres : (PR.cats s (f - 1) d (j)).map fun x => (PR.caT x.1, x.2) with
   | none =>
    rw [hres] at hp
    obtain ⟨T, ta, tc, jj, oo, rfl, r⟩ := hp
    have HY : Hid (PR.alts s f d i = none) := Lib.hid (PR.alts_fail HP.out hres)
    clear hres HP
    have O := Lib.hid (O.out.trans o)
    have S2 := Lib.hid (S2.out.only o (by omega))
    have R := Lib.hid r
    clear o r
    unfold reV
    obtain ⟨z0, z1, z2, z3, z4, z5, z6⟩ := S2.out.cells
    have z60 := z6 0
    have z61 := z6 1
    have z62 := z6 2
    have z63 := z6 3
    have z64 := z6 4
    have z65 := z6 5
    clear z6
    have hw3 := O.out.size
    have hS3 := S2.out.lt
    have ba : Below (put6 w3 w.heap.size (.int .i64 0) (.string ⟨#[]⟩) (.bool false) (.int .i64 0) (.int .i64 0) (.slice none 0 0)).heap.size (put6 w3 w.heap.size (.int .i64 0) (.string ⟨#[]⟩) (.bool false) (.int .i64 0) (.int .i64 0) (.slice none 0 0)) ((put6 w3 w.heap.size (.int .i64 0) (.string ⟨#[]⟩) (.bool false) (.int .i64 0) (.int .i64 0) (.slice none 0 0)).alloc (.cells #[.int .i64 T.kind, .string T.set, .bool T.neg, .int .i64 T.low, .int .i64 T.high, .slice ta T.kids.length tc] 26)) := (Below.refl _ _).alloc (Nat.le_refl _) _
    have h6 : Lk (Six ((put6 w3 w.heap.size (.int .i64 0) (.string ⟨#[]⟩) (.bool false) (.int .i64 0) (.int .i64 0) (.slice none 0 0)).alloc (.cells #[.int .i64 T.kind, .string T.set, .bool T.neg, .int .i64 T.low, .int .i64 T.high, .slice ta T.kids.length tc] 26)) w.heap.size (PR.leaf 0) none 0) := Lk.mk ((S2.out.put (PR.leaf 0) none 0).kept ba)
    have PO := Lk.mk ((put6_only O.out w.heap.size (.int .i64 0) (.string ⟨#[]⟩) (.bool false) (.int .i64 0) (.int .i64 0) (.slice none 0 0) (by omega)).trans (OnlyB.of_below (B := B) ba))
    have PRd := Lk.mk ((R.out.put w.heap.size (by omega) (.int .i64 0) (.string ⟨#[]⟩) (.bool false) (.int .i64 0) (.int .i64 0) (.slice none 0 0)).kept ba)
    clear ba
    go_wp2_with fail
    change bodyPost _ _ _ _ _ ((put6 w3 w.heap.size (.int .i64 0) (.string ⟨#[]⟩) (.bool false) (.int .i64 0) (.int .i64 0) (.slice none 0 0)).alloc (.cells #[.int .i64 T.kind, .string T.set, .bool T.neg, .int .i64 T.low, .int .i64 T.high, .slice ta T.kids.length tc] 26))
    generalize (put6 w3 w.heap.size (.int .i64 0) (.string ⟨#[]⟩) (.bool false) (.int .i64 0) (.int .i64 0) (.slice none 0 0)).alloc (.cells #[.int .i64 T.kind, .string T.set, .bool T.neg, .int .i64 T.low, .int .i64 T.high, .slice ta T.kids.length tc] 26) = W at h6 PO PRd ⊢
    obtain ⟨y0, y1, y2, y3, y4, y5, _⟩ := h6.out.cells
    replace y0 : _ = some (Value.int .i64 0) := y0
    replace y1 : _ = some (Value.string ⟨#[]⟩) := y1
    replace y2 : _ = some (Value.bool false) := y2
    replace y3 : _ = some (Value.int .i64 0) := y3
    replace y4 : _ = some (Value.int .i64 0) := y4
    replace y5 : _ = some (Value.slice none 0 0) := y5
    refine bodyPost_ret (v := .tuple #[.agg #[.int .i64 0, .string ⟨#[]⟩, .bool false, .int .i64 0, .int .i64 0, .slice none 0 0], .bool false]) (by simp [results, Tryd.results23, go_sem, y0, y1, y2, y3, y4, y5]) rfl ?_
    refine ⟨PO.out, ?_⟩
    rw [HY.out]
    exact ⟨PR.leaf 0, none, 0, _, _, rfl, PRd.out⟩
   | some x =>
    rw [hres] at hp
    obtain ⟨T, jj⟩ := x
    obtain ⟨ta, tc, tF, rfl, k, hkl, hni, r⟩ := hp
    simp only at k hni r
    obtain ⟨ha1, ha2⟩ := PR.cats_adv (show j ≤ s.size by omega) hres
    have HY : Hid (PR.alts s f d i = if atB s jj 124 then (PR.alts s (f - 1) d (jj + 1)).map (fun y => ((rs ++ [(⟨T, ta, tc, tF⟩ : RV)]).map RV.t ++ y.1, y.2)) else some ((rs ++ [(⟨T, ta, tc, tF⟩ : RV)]).map RV.t, jj)) := Lib.hid (by rw [PR.alts_more HP.out hres]; simp only [List.map_append, List.map_cons, List.map_nil])
    clear hres HP
    have hS5 := S2.out.lt
    have hO5 := O.out.size
    have HLF : Hid (∀ y ∈ tF, w.heap.size + 1 ≤ y) := Lib.hid (fun y hy => by have := hkl y hy; omega)
    have HOFF : Hid (∀ y ∈ tF, Value.ownBlock (.slice va n vc) ≠ some y) := Lib.hid (fun y hy e => by have h1 := hkl y hy; have h2 := hL5 y e; omega)
    have HAP : Hid (∀ s ∈ rs, apartF s ⟨T, ta, tc, tF⟩) := Lib.hid (fun q hq x hx hx' => by have h1 := hkl x hx'; have h2 := (LOLD.out.kf q hq).lt x hx; omega)
    have O := Lib.hid (O.out.trans o)
    have S2 := Lib.hid (S2.out.only o (by omega))
    have R := Lib.hid r
    clear o r
    unfold reV
    have K := Lib.hid k
    have HKL := Lib.hid hkl
    have HNI := Lib.hid hni
    clear k hkl hni
    have hrl : rs.length + 1 ≤ 1048576 := by omega
    have hB2 : w.heap.size + 1 ≤ ((w3.alloc (.cells #[.int .i64 T.kind, .string T.set, .bool T.neg, .int .i64 T.low, .int .i64 T.high, .slice ta T.kids.length tc] 26)).alloc (.cells #[.int .i64 T.kind, .string T.set, .bool T.neg, .int .i64 T.low, .int .i64 T.high, .slice ta T.kids.length tc] 26)).heap.size := by have := S2.out.lt; simp; omega
    have hw3 := O.out.size
    have hS3 := S2.out.lt
    have hR3 := R.out.lt
    have bx : Below w3.heap.size w3 ((w3.alloc (.cells #[.int .i64 T.kind, .string T.set, .bool T.neg, .int .i64 T.low, .int .i64 T.high, .slice ta T.kids.length tc] 26)).alloc (.cells #[.int .i64 T.kind, .string T.set, .bool T.neg, .int .i64 T.low, .int .i64 T.high, .slice ta T.kids.length tc] 26)) := ((Below.refl w3.heap.size w3).alloc (Nat.le_refl _) _).alloc (by simp) _
    have HNW := Lib.hid (six_cells tF (show Six ((w3.alloc (.cells #[.int .i64 T.kind, .string T.set, .bool T.neg, .int .i64 T.low, .int .i64 T.high, .slice ta T.kids.length tc] 26)).alloc (.cells #[.int .i64 T.kind, .string T.set, .bool T.neg, .int .i64 T.low, .int .i64 T.high, .slice ta T.kids.length tc] 26)) (w3.heap.size + 1) T ta tc from (six_two w3 (.cells #[.int .i64 T.kind, .string T.set, .bool T.neg, .int .i64 T.low, .int .i64 T.high, .slice ta T.kids.length tc] 26) (.cells #[.int .i64 T.kind, .string T.set, .bool T.neg, .int .i64 T.low, .int .i64 T.high, .slice ta T.kids.length tc] 26)).2))
    have L2 := Lib.hid (L.out.kept bx)
    have K2 := Lib.hid (K.out.kept bx)
    have R2 := Lib.hid (R.out.kept bx)
    have S3 := Lib.hid (S2.out.kept bx)
    have O2 := Lib.hid (O.out.trans (OnlyB.of_below (B := B) bx))
    have hbz := bx.size
    clear bx
    go_wp2_with (at_builtin; refine wp_append_re rfl _ _ rfl (w.heap.size + 1) (.slice va n vc) rs rfl L2.out.own (w3.heap.size + 1) 1 ⟨T, ta, tc, tF⟩ rfl HNW.out hrl hB2 ?_; intro v' w6 hown6 hgr6 hv6)
    have HLOT := Lib.hid (L2.out.more hown6 hgr6 hv6 HNI.out K2.out HLF.out (fun x hx e => HOFF.out x hx e) HAP.out)
    have q1 := Lib.hid (R2.out.grown hgr6 (fun e => by have := L2.out.lt B e.symm; omega))
    have q2 := Lib.hid (S3.out.grown hgr6 (fun e => by have := L2.out.lt _ e.symm; omega))
    have q3 := Lib.hid (O2.out.grown hgr6 (fun k e => by have := L2.out.lt k e; omega))
    clear hown6 hgr6 hv6
    obtain ⟨va', vc', hv'⟩ := HLOT.out.slice
    obtain ⟨n', hn'⟩ : ∃ n', n' = (rs ++ [(⟨T, ta, tc, tF⟩ : RV)]).length := ⟨_, rfl⟩
    rw [← hn'] at hv'
    rw [hv'] at HLOT ⊢
    have HN' := Lib.hid hn'
    clear hv' hn'
    go_wp2_with fail
    go_roundg (s.size - jj + 1)
    case measure => omega
    case rel => exact ⟨_, jj, f - 1, va', vc', n', rfl, HN'.out, by omega, ha2, by simp; omega, .inr ⟨by simp, by omega, by omega, by omega, HY.out⟩, HLOT.out, q1.out, q2.out, q3.out⟩
  ·have hn0 : ((n : Int) == 0) = false := by rw [beq_eq_false_iff_ne]; omega
   cases h124 : atB s j 124
   case false =>
    have HY : Hid (PR.alts s f d i = some (rs.map RV.t, j)) := Lib.hid (by rw [hal, h124]; rfl)
    clear hal
    go_wp2_with fail
    refine (take_no B s j op 124 _ hs2 R.out h124).mono ?_
    rintro e w5 ⟨rfl, hn⟩
    have o := OnlyB.drewAll (B := B) hn
    have r := R.out.drewAll hn
    have L := Lib.hid (L.out.only o (by have := R.out.lt; omega))
    clear hn h124
    have O := Lib.hid (O.out.trans o)
    have S2 := Lib.hid (S2.out.only o (by omega))
    have R := Lib.hid r
    clear o r
    have HNN := Lib.hid (chainAt_nice 4 rs 0 hne L.out.nice)
    have HEQ := Lib.hid (chain_alT rs hne)
    have hB5 : w.heap.size + 1 ≤ w5.heap.size := S2.out.lt
    have hmx : rs.length ≤ 1048576 := by omega
    have HCH := Lib.hid (chain_any (w.heap.size + 1) 4 (.slice va n vc) rs w5 L.out hne hmx hB5)
    generalize chainAt 4 rs 0 = T at HNN HEQ HCH
    go_wp2_with fail
    refine HCH.out.mono ?_
    rintro e w7 ⟨ta, tc, tF, rfl, kt, hkt, _, b7⟩
    unfold reV
    have hS3 := S2.out.lt
    have hw7 := O.out.size
    have O := Lib.hid (O.out.trans (OnlyB.of_below b7))
    have S2 := Lib.hid (S2.out.kept b7)
    have R := Lib.hid (R.out.kept b7)
    have K := Lib.hid kt
    have HGF : Hid (w.heap.size ∉ tF) := Lib.hid (fun h => by have := hkt _ h; omega)
    have HLF : Hid (∀ y ∈ tF, w.heap.size ≤ y) := Lib.hid (fun y hy => by have := hkt y hy; omega)
    clear kt b7 hkt HCH L
    obtain ⟨z0, z1, z2, z3, z4, z5, z6⟩ := S2.out.cells
    have z60 := z6 0
    have z61 := z6 1
    have z62 := z6 2
    have z63 := z6 3
    have z64 := z6 4
    have z65 := z6 5
    clear z6
    have h6 : Lk (Six (put6 w7 w.heap.size (.int .i64 T.kind) (.string T.set) (.bool T.neg) (.int .i64 T.low) (.int .i64 T.high) (.slice ta T.kids.length tc)) w.heap.size T ta tc) := Lk.mk (S2.out.put T ta tc)
    have PO := Lk.mk (put6_only O.out w.heap.size (.int .i64 T.kind) (.string T.set) (.bool T.neg) (.int .i64 T.low) (.int .i64 T.high) (.slice ta T.kids.length tc) (by omega))
    have PRd := Lk.mk (R.out.put w.heap.size (by omega) (.int .i64 T.kind) (.string T.set) (.bool T.neg) (.int .i64 T.low) (.int .i64 T.high) (.slice ta T.kids.length tc))
    have PK := Lk.mk (K.out.put w.heap.size HGF.out (.int .i64 T.kind) (.string T.set) (.bool T.neg) (.int .i64 T.low) (.int .i64 T.high) (.slice ta T.kids.length tc))
    go_wp2_with fail
    change bodyPost _ _ _ _ _ (put6 w7 w.heap.size (.int .i64 T.kind) (.string T.set) (.bool T.neg) (.int .i64 T.low) (.int .i64 T.high) (.slice ta T.kids.length tc))
    generalize put6 w7 w.heap.size (.int .i64 T.kind) (.string T.set) (.bool T.neg) (.int .i64 T.low) (.int .i64 T.high) (.slice ta T.kids.length tc) = W at h6 PO PRd PK ⊢
    obtain ⟨y0, y1, y2, y3, y4, y5, _⟩ := h6.out.cells
    replace y0 : _ = some (Value.int .i64 T.kind) := y0
    replace y1 : _ = some (Value.string T.set) := y1
    replace y2 : _ = some (Value.bool T.neg) := y2
    replace y3 : _ = some (Value.int .i64 T.low) := y3
    replace y4 : _ = some (Value.int .i64 T.high) := y4
    replace y5 : _ = some (Value.slice ta T.kids.length tc) := y5
    refine bodyPost_ret (v := .tuple #[.agg #[.int .i64 T.kind, .string T.set, .bool T.neg, .int .i64 T.low, .int .i64 T.high, .slice ta T.kids.length tc], .bool true]) (by simp [results, Tryd.results23, go_sem, y0, y1, y2, y3, y4, y5]) rfl ?_
    refine ⟨PO.out, ?_⟩
    rw [HY.out]
    simp only [Option.map_some]
    rw [← HEQ.out]
    exact ⟨ta, tc, tF, rfl, PK.out, HLF.out, HNN.out, PRd.out⟩
   case true =>
    have hj1 : j < s.size := PR.atB_lt h124
    have HP : Hid (PR.alts s f d i = (PR.alts s (fu - 1 + 1) d (j + 1)).map fun y => (rs.map RV.t ++ y.1, y.2)) := Lib.hid (by rw [hal, h124, show fu - 1 + 1 = fu by omega]; rfl)
    clear hal
    go_wp2_with fail
    refine (take_yes B s j op 124 _ hs2 R.out h124).mono ?_
    rintro e w5 ⟨rfl, r, o⟩
    have L := Lib.hid (L.out.only o (by have := R.out.lt; omega))
    clear h124
    have O := Lib.hid (O.out.trans o)
    have S2 := Lib.hid (S2.out.only o (by omega))
    have R := Lib.hid r
    clear o r
    go_wp2_with fail
    refine (HI.out (fu - 1) (by omega) B s (j + 1) op _ d hs R.out (by omega) HOP.out hd (by omega)).mono ?_
    rintro e w3 ⟨o, hp⟩
    have LOLD := L
    have hL5 := L.out.lt
    have L := Lib.hid (L.out.only o (by omega))
    have hW5 := R.out.lt
    cases hres : (PR.cats s (fu - 1) d (j + 1)).map fun x => (PR.caT x.1, x.2) with
    | none =>
     rw [hres] at hp
     obtain ⟨T, ta, tc, jj, oo, rfl, r⟩ := hp
     have HY : Hid (PR.alts s f d i = none) := Lib.hid (PR.alts_fail HP.out hres)
     clear hres HP
     have O := Lib.hid (O.out.trans o)
     have S2 := Lib.hid (S2.out.only o (by omega))
     have R := Lib.hid r
     clear o r
     unfold reV
     obtain ⟨z0, z1, z2, z3, z4, z5, z6⟩ := S2.out.cells
     have z60 := z6 0
     have z61 := z6 1
     have z62 := z6 2
     have z63 := z6 3
     have z64 := z6 4
     have z65 := z6 5
     clear z6
     have hw3 := O.out.size
     have hS3 := S2.out.lt
     have ba : Below (put6 w3 w.heap.size (.int .i64 0) (.string ⟨#[]⟩) (.bool false) (.int .i64 0) (.int .i64 0) (.slice none 0 0)).heap.size (put6 w3 w.heap.size (.int .i64 0) (.string ⟨#[]⟩) (.bool false) (.int .i64 0) (.int .i64 0) (.slice none 0 0)) ((put6 w3 w.heap.size (.int .i64 0) (.string ⟨#[]⟩) (.bool false) (.int .i64 0) (.int .i64 0) (.slice none 0 0)).alloc (.cells #[.int .i64 T.kind, .string T.set, .bool T.neg, .int .i64 T.low, .int .i64 T.high, .slice ta T.kids.length tc] 26)) := (Below.refl _ _).alloc (Nat.le_refl _) _
     have h6 : Lk (Six ((put6 w3 w.heap.size (.int .i64 0) (.string ⟨#[]⟩) (.bool false) (.int .i64 0) (.int .i64 0) (.slice none 0 0)).alloc (.cells #[.int .i64 T.kind, .string T.set, .bool T.neg, .int .i64 T.low, .int .i64 T.high, .slice ta T.kids.length tc] 26)) w.heap.size (PR.leaf 0) none 0) := Lk.mk ((S2.out.put (PR.leaf 0) none 0).kept ba)
     have PO := Lk.mk ((put6_only O.out w.heap.size (.int .i64 0) (.string ⟨#[]⟩) (.bool false) (.int .i64 0) (.int .i64 0) (.slice none 0 0) (by omega)).trans (OnlyB.of_below (B := B) ba))
     have PRd := Lk.mk ((R.out.put w.heap.size (by omega) (.int .i64 0) (.string ⟨#[]⟩) (.bool false) (.int .i64 0) (.int .i64 0) (.slice none 0 0)).kept ba)
     clear ba
     go_wp2_with fail
     change bodyPost _ _ _ _ _ ((put6 w3 w.heap.size (.int .i64 0) (.string ⟨#[]⟩) (.bool false) (.int .i64 0) (.int .i64 0) (.slice none 0 0)).alloc (.cells #[.int .i64 T.kind, .string T.set, .bool T.neg, .int .i64 T.low, .int .i64 T.high, .slice ta T.kids.length tc] 26))
     generalize (put6 w3 w.heap.size (.int .i64 0) (.string ⟨#[]⟩) (.bool false) (.int .i64 0) (.int .i64 0) (.slice none 0 0)).alloc (.cells #[.int .i64 T.kind, .string T.set, .bool T.neg, .int .i64 T.low, .int .i64 T.high, .slice ta T.kids.length tc] 26) = W at h6 PO PRd ⊢
     obtain ⟨y0, y1, y2, y3, y4, y5, _⟩ := h6.out.cells
     replace y0 : _ = some (Value.int .i64 0) := y0
     replace y1 : _ = some (Value.string ⟨#[]⟩) := y1
     replace y2 : _ = some (Value.bool false) := y2
     replace y3 : _ = some (Value.int .i64 0) := y3
     replace y4 : _ = some (Value.int .i64 0) := y4
     replace y5 : _ = some (Value.slice none 0 0) := y5
     refine bodyPost_ret (v := .tuple #[.agg #[.int .i64 0, .string ⟨#[]⟩, .bool false, .int .i64 0, .int .i64 0, .slice none 0 0], .bool false]) (by simp [results, Tryd.results23, go_sem, y0, y1, y2, y3, y4, y5]) rfl ?_
     refine ⟨PO.out, ?_⟩
     rw [HY.out]
     exact ⟨PR.leaf 0, none, 0, _, _, rfl, PRd.out⟩
    | some x =>
     rw [hres] at hp
     obtain ⟨T, jj⟩ := x
     obtain ⟨ta, tc, tF, rfl, k, hkl, hni, r⟩ := hp
     simp only at k hni r
     obtain ⟨ha1, ha2⟩ := PR.cats_adv (show j + 1 ≤ s.size by omega) hres
     have HY : Hid (PR.alts s f d i = if atB s jj 124 then (PR.alts s (fu - 1) d (jj + 1)).map (fun y => ((rs ++ [(⟨T, ta, tc, tF⟩ : RV)]).map RV.t ++ y.1, y.2)) else some ((rs ++ [(⟨T, ta, tc, tF⟩ : RV)]).map RV.t, jj)) := Lib.hid (by rw [PR.alts_more HP.out hres]; simp only [List.map_append, List.map_cons, List.map_nil])
     clear hres HP
     have hS5 := S2.out.lt
     have hO5 := O.out.size
     have HLF : Hid (∀ y ∈ tF, w.heap.size + 1 ≤ y) := Lib.hid (fun y hy => by have := hkl y hy; omega)
     have HOFF : Hid (∀ y ∈ tF, Value.ownBlock (.slice va n vc) ≠ some y) := Lib.hid (fun y hy e => by have h1 := hkl y hy; have h2 := hL5 y e; omega)
     have HAP : Hid (∀ s ∈ rs, apartF s ⟨T, ta, tc, tF⟩) := Lib.hid (fun q hq x hx hx' => by have h1 := hkl x hx'; have h2 := (LOLD.out.kf q hq).lt x hx; omega)
     have O := Lib.hid (O.out.trans o)
     have S2 := Lib.hid (S2.out.only o (by omega))
     have R := Lib.hid r
     clear o r
     unfold reV
     have K := Lib.hid k
     have HKL := Lib.hid hkl
     have HNI := Lib.hid hni
     clear k hkl hni
     have hrl : rs.length + 1 ≤ 1048576 := by omega
     have hB2 : w.heap.size + 1 ≤ ((w3.alloc (.cells #[.int .i64 T.kind, .string T.set, .bool T.neg, .int .i64 T.low, .int .i64 T.high, .slice ta T.kids.length tc] 26)).alloc (.cells #[.int .i64 T.kind, .string T.set, .bool T.neg, .int .i64 T.low, .int .i64 T.high, .slice ta T.kids.length tc] 26)).heap.size := by have := S2.out.lt; simp; omega
     have hw3 := O.out.size
     have hS3 := S2.out.lt
     have hR3 := R.out.lt
     have bx : Below w3.heap.size w3 ((w3.alloc (.cells #[.int .i64 T.kind, .string T.set, .bool T.neg, .int .i64 T.low, .int .i64 T.high, .slice ta T.kids.length tc] 26)).alloc (.cells #[.int .i64 T.kind, .string T.set, .bool T.neg, .int .i64 T.low, .int .i64 T.high, .slice ta T.kids.length tc] 26)) := ((Below.refl w3.heap.size w3).alloc (Nat.le_refl _) _).alloc (by simp) _
     have HNW := Lib.hid (six_cells tF (show Six ((w3.alloc (.cells #[.int .i64 T.kind, .string T.set, .bool T.neg, .int .i64 T.low, .int .i64 T.high, .slice ta T.kids.length tc] 26)).alloc (.cells #[.int .i64 T.kind, .string T.set, .bool T.neg, .int .i64 T.low, .int .i64 T.high, .slice ta T.kids.length tc] 26)) (w3.heap.size + 1) T ta tc from (six_two w3 (.cells #[.int .i64 T.kind, .string T.set, .bool T.neg, .int .i64 T.low, .int .i64 T.high, .slice ta T.kids.length tc] 26) (.cells #[.int .i64 T.kind, .string T.set, .bool T.neg, .int .i64 T.low, .int .i64 T.high, .slice ta T.kids.length tc] 26)).2))
     have L2 := Lib.hid (L.out.kept bx)
     have K2 := Lib.hid (K.out.kept bx)
     have R2 := Lib.hid (R.out.kept bx)
     have S3 := Lib.hid (S2.out.kept bx)
     have O2 := Lib.hid (O.out.trans (OnlyB.of_below (B := B) bx))
     have hbz := bx.size
     clear bx
     go_wp2_with (at_builtin; refine wp_append_re rfl _ _ rfl (w.heap.size + 1) (.slice va n vc) rs rfl L2.out.own (w3.heap.size + 1) 1 ⟨T, ta, tc, tF⟩ rfl HNW.out hrl hB2 ?_; intro v' w6 hown6 hgr6 hv6)
     have HLOT := Lib.hid (L2.out.more hown6 hgr6 hv6 HNI.out K2.out HLF.out (fun x hx e => HOFF.out x hx e) HAP.out)
     have q1 := Lib.hid (R2.out.grown hgr6 (fun e => by have := L2.out.lt B e.symm; omega))
     have q2 := Lib.hid (S3.out.grown hgr6 (fun e => by have := L2.out.lt _ e.symm; omega))
     have q3 := Lib.hid (O2.out.grown hgr6 (fun k e => by have := L2.out.lt k e; omega))
     clear hown6 hgr6 hv6
     obtain ⟨va', vc', hv'⟩ := HLOT.out.slice
     obtain ⟨n', hn'⟩ : ∃ n', n' = (rs ++ [(⟨T, ta, tc, tF⟩ : RV)]).length := ⟨_, rfl⟩
     rw [← hn'] at hv'
     rw [hv'] at HLOT ⊢
     have HN' := Lib.hid hn'
     clear hv' hn'
     go_wp2_with fail
     go_roundg (s.size - jj + 1)
     case measure => omega
     case rel => exact ⟨_, jj, fu - 1, va', vc', n', rfl, HN'.out, by omega, ha2, by simp; omega, .inr ⟨by simp, by omega, by omega, by omega, HY.out⟩, HLOT.out, q1.out, q2.out, q3.out⟩
theorem readers (N : Nat) : ∀ f, f ≤ N → ChoiceOk f ∧ RowOk f ∧ ItemOk f ∧ OnceOk f := by
 induction N with
 | zero =>
  intro f hf
  obtain rfl : f = 0 := by omega
  have h0 : OnceOk 0 := fun B s i op w d hs hr hi hop hd hf => by omega
  have h1 : ItemOk 0 := item_of 0 h0
  exact ⟨choice_of 0 fun f' h => by omega, row_of 0 fun f' h => by omega, h1, h0⟩
 | succ N ih =>
  intro f hf
  by_cases e : f ≤ N
  ·exact ih f e
  ·obtain rfl : f = N + 1 := by omega
   have h0 : OnceOk (N + 1) := once_of N fun B s i op w d hs hr hi hop hd hf => group_of N (ih N (Nat.le_refl _)).1 B s i op w d hs hr hi hop hd hf
   exact ⟨choice_of _ fun f' h => (ih f' (by omega)).2.1, row_of _ fun f' h => (ih f' (by omega)).2.2.1, item_of _ h0, h0⟩
theorem choice_any (f : Nat) : ChoiceOk f := (readers f f (Nat.le_refl _)).1
end Go.Proofs.YtcpaneaiobnhdaaDoor.kit
