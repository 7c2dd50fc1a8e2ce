/-
 Contract of spec.ParseRe over this seat's translation: the expression that a text is, in memory of its own, or the zero value. Conditions: the text has at most 1048576 bytes.
-/
import Derived.Test.YtcpaneaiobnhdaaDoorMPs5
import Derived.Test.YtcpaneaiobnhdaaDoorMPr11
import Derived.Test.YtcpaneaiobnhdaaDoorMRe10
namespace Go.Proofs.YtcpaneaiobnhdaaDoor.kit
open Go.ChangeShapes Go.WideShapes Go.ChangeAt Go.RowKit
set_option linter.unusedVariables false

theorem par_new (w : World) (s : ByteArray) (e : TypeId) : Par (w.alloc (.cells #[.string s, .int .i64 0, .bool false] e)) w.heap.size s 0 false := by
 have h := heap_alloc_new w (.cells #[.string s, .int .i64 0, .bool false] e)
 refine ⟨by simp, ?_, ?_, ?_, ?_, ?_⟩
 ·rw [cell_of_row _ _ 0 _ _ (0, 0) h]; rfl
 ·rw [cell_of_row _ _ 1 _ _ (0, 0) h]; rfl
 ·rw [cell_of_row _ _ 2 _ _ (0, 0) h]; rfl
 ·simp only [World.frozen?, h]; rfl
 ·simp only [World.frozen?, h]; rfl
set_option maxRecDepth 100000 in
set_option maxHeartbeats 2000000 in
theorem specParse_any (s : ByteArray) (w : World) (hs : s.size ≤ 1048576) : Calls Tryd.prog 8 #[.string s] w (ParsePost w (PR.parse s)) := by
 by_cases hbig : 4000 < s.size
 ·have E : Hid (PR.parse s = none) := Lib.hid (if_pos hbig)
  have hd : decide (4000 < s.size) = true := by simpa using hbig
  go_enter Tryd.func8, Tryd.ntmps8
  go_wp2_with fail
  refine bodyPost_ret (v := .tuple #[.agg #[.int .i64 0, .string ⟨#[]⟩, .bool false, .int .i64 0, .int .i64 0, .slice none 0 0], .bool false]) (by simp [results, Tryd.results8, go_sem]) rfl ⟨((Below.refl w.heap.size w).alloc (Nat.le_refl _) _), ?_⟩
  rw [E.out]
  rfl
 ·have hd : decide (4000 < s.size) = false := by simpa using hbig
  have hs4 : s.size ≤ 4000 := by omega
  have b0 : Below w.heap.size w ((w.alloc (.cells #[.int .i64 0, .string ⟨#[]⟩, .bool false, .int .i64 0, .int .i64 0, .slice none 0 0] 26)).alloc (.cells #[.string s, .int .i64 0, .bool false] 47)) := ((Below.refl w.heap.size w).alloc (Nat.le_refl _) _).alloc (by simp) _
  have P : Hid (Par ((w.alloc (.cells #[.int .i64 0, .string ⟨#[]⟩, .bool false, .int .i64 0, .int .i64 0, .slice none 0 0] 26)).alloc (.cells #[.string s, .int .i64 0, .bool false] 47)) (w.heap.size + 1) s 0 false) := Lib.hid (by have := par_new (w.alloc (.cells #[.int .i64 0, .string ⟨#[]⟩, .bool false, .int .i64 0, .int .i64 0, .slice none 0 0] 26)) s 47; simpa using this)
  have S2 : Hid (Six ((w.alloc (.cells #[.int .i64 0, .string ⟨#[]⟩, .bool false, .int .i64 0, .int .i64 0, .slice none 0 0] 26)).alloc (.cells #[.string s, .int .i64 0, .bool false] 47)) w.heap.size (PR.leaf 0) none 0) := Lib.hid ((six_two w (.cells #[.int .i64 0, .string ⟨#[]⟩, .bool false, .int .i64 0, .int .i64 0, .slice none 0 0] 26) (.cells #[.string s, .int .i64 0, .bool false] 47)).1)
  have B0 := Lib.hid b0
  clear b0
  have HC := Lib.hid (alt_any (3 * s.size + 3) (w.heap.size + 1) s 0 ((w.alloc (.cells #[.int .i64 0, .string ⟨#[]⟩, .bool false, .int .i64 0, .int .i64 0, .slice none 0 0] 26)).alloc (.cells #[.string s, .int .i64 0, .bool false] 47)) 200 hs4 P.out (Nat.zero_le _) (by omega) (by omega))
  go_enter Tryd.func8, Tryd.ntmps8
  go_wp2_with fail
  refine HC.out.mono ?_
  rintro e w3 ⟨o, hp⟩
  clear HC
  have hgl : w.heap.size + 1 < ((w.alloc (.cells #[.int .i64 0, .string ⟨#[]⟩, .bool false, .int .i64 0, .int .i64 0, .slice none 0 0] 26)).alloc (.cells #[.string s, .int .i64 0, .bool false] 47)).heap.size := by simp
  have BW := Lib.hid (B0.out.trans ((o.below hgl).mono (by omega)))
  have S2 := Lib.hid (S2.out.only o (by omega))
  have OO := Lib.hid o
  clear o
  cases hres : PR.alts s (3 * s.size + 3) 200 0 with
  | none =>
   rw [hres] at hp
   simp only [Option.map_none] at hp
   obtain ⟨T, ta, tc, jj, rfl, hjj, p⟩ := hp
   have E : Hid (PR.parse s = none) := Lib.hid (by unfold PR.parse; rw [if_neg hbig, hres])
   have P := Lib.hid p
   clear hres p
   unfold reV
   obtain ⟨r0, r1, r2, _, _, _⟩ := P.out
   obtain ⟨z0, z1, z2, z3, z4, z5, z6⟩ := S2.out.cells
   have z60 := z6 0
   have z61 := z6 1
   have z62 := z6 2
   have z63 := z6 3
   have z64 := z6 4
   have z65 := z6 5
   clear z6
   have ba : Below (put6 w3 w.heap.size (.int .i64 0) (.string ⟨#[]⟩) (.bool false) (.int .i64 0) (.int .i64 0) (.slice none 0 0)).heap.size (put6 w3 w.heap.size (.int .i64 0) (.string ⟨#[]⟩) (.bool false) (.int .i64 0) (.int .i64 0) (.slice none 0 0)) ((put6 w3 w.heap.size (.int .i64 0) (.string ⟨#[]⟩) (.bool false) (.int .i64 0) (.int .i64 0) (.slice none 0 0)).alloc (.cells #[.int .i64 T.kind, .string T.set, .bool T.neg, .int .i64 T.low, .int .i64 T.high, .slice ta T.kids.length tc] 26)) := (Below.refl _ _).alloc (Nat.le_refl _) _
   have hS3 := S2.out.lt
   have h6 : Lk (Six ((put6 w3 w.heap.size (.int .i64 0) (.string ⟨#[]⟩) (.bool false) (.int .i64 0) (.int .i64 0) (.slice none 0 0)).alloc (.cells #[.int .i64 T.kind, .string T.set, .bool T.neg, .int .i64 T.low, .int .i64 T.high, .slice ta T.kids.length tc] 26)) w.heap.size (PR.leaf 0) none 0) := Lk.mk ((S2.out.put (PR.leaf 0) none 0).kept ba)
   have PO := Lk.mk ((put6_below BW.out w.heap.size (.int .i64 0) (.string ⟨#[]⟩) (.bool false) (.int .i64 0) (.int .i64 0) (.slice none 0 0) (Nat.le_refl _)).trans (ba.mono (by rw [put6_size]; exact BW.out.size)))
   clear ba
   go_wp2_with fail
   change bodyPost _ _ _ _ _ ((put6 w3 w.heap.size (.int .i64 0) (.string ⟨#[]⟩) (.bool false) (.int .i64 0) (.int .i64 0) (.slice none 0 0)).alloc (.cells #[.int .i64 T.kind, .string T.set, .bool T.neg, .int .i64 T.low, .int .i64 T.high, .slice ta T.kids.length tc] 26))
   generalize (put6 w3 w.heap.size (.int .i64 0) (.string ⟨#[]⟩) (.bool false) (.int .i64 0) (.int .i64 0) (.slice none 0 0)).alloc (.cells #[.int .i64 T.kind, .string T.set, .bool T.neg, .int .i64 T.low, .int .i64 T.high, .slice ta T.kids.length tc] 26) = W at h6 PO ⊢
   obtain ⟨y0, y1, y2, y3, y4, y5, _⟩ := h6.out.cells
   replace y0 : _ = some (Value.int .i64 0) := y0
   replace y1 : _ = some (Value.string ⟨#[]⟩) := y1
   replace y2 : _ = some (Value.bool false) := y2
   replace y3 : _ = some (Value.int .i64 0) := y3
   replace y4 : _ = some (Value.int .i64 0) := y4
   replace y5 : _ = some (Value.slice none 0 0) := y5
   refine bodyPost_ret (v := .tuple #[.agg #[.int .i64 0, .string ⟨#[]⟩, .bool false, .int .i64 0, .int .i64 0, .slice none 0 0], .bool false]) (by simp [results, Tryd.results8, go_sem, y0, y1, y2, y3, y4, y5]) rfl ⟨PO.out, ?_⟩
   rw [E.out]
   rfl
  | some x =>
   have HCO := PR.cost_alts hs4 hres
   rw [hres] at hp
   obtain ⟨xs, j⟩ := x
   simp only at HCO
   obtain ⟨T, hgT⟩ : ∃ T, T = PR.alT xs := ⟨_, rfl⟩
   rw [← hgT] at HCO
   have hp2 : ∃ a c F, e = .returned (reV T a c) ∧ KF w3 T.kids a F ∧ (∀ y ∈ F, ((w.alloc (.cells #[.int .i64 0, .string ⟨#[]⟩, .bool false, .int .i64 0, .int .i64 0, .slice none 0 0] 26)).alloc (.cells #[.string s, .int .i64 0, .bool false] 47)).heap.size ≤ y) ∧ Nice T ∧ Par w3 (w.heap.size + 1) s j false := by rw [hgT]; exact hp
   clear hp
   obtain ⟨ta, tc, tF, rfl, k, hkl, hni, p⟩ := hp2
   have EP : Hid (PR.parse s = if j < s.size then none else if RT.ok T then some T else none) := Lib.hid (by unfold PR.parse; rw [if_neg hbig, hres, hgT])
   clear hres hgT
   have P := Lib.hid p
   have K := Lib.hid k
   have HKL := Lib.hid hkl
   have HNI := Lib.hid hni
   clear p k hkl hni
   unfold reV
   obtain ⟨r0, r1, r2, _, _, _⟩ := P.out
   by_cases hj : j < s.size
   ·have d1 : decide (j < s.size) = true := by simpa using hj
    have d2 : decide ((j : Int) < (s.size : Int)) = true := by simp; omega
    have E : Hid (PR.parse s = none) := Lib.hid (by rw [EP.out, if_pos hj])
    clear EP
    obtain ⟨z0, z1, z2, z3, z4, z5, z6⟩ := S2.out.cells
    have z60 := z6 0
    have z61 := z6 1
    have z62 := z6 2
    have z63 := z6 3
    have z64 := z6 4
    have z65 := z6 5
    clear z6
    have ba : Below (put6 w3 w.heap.size (.int .i64 0) (.string ⟨#[]⟩) (.bool false) (.int .i64 0) (.int .i64 0) (.slice none 0 0)).heap.size (put6 w3 w.heap.size (.int .i64 0) (.string ⟨#[]⟩) (.bool false) (.int .i64 0) (.int .i64 0) (.slice none 0 0)) ((put6 w3 w.heap.size (.int .i64 0) (.string ⟨#[]⟩) (.bool false) (.int .i64 0) (.int .i64 0) (.slice none 0 0)).alloc (.cells #[.int .i64 T.kind, .string T.set, .bool T.neg, .int .i64 T.low, .int .i64 T.high, .slice ta T.kids.length tc] 26)) := (Below.refl _ _).alloc (Nat.le_refl _) _
    have hS3 := S2.out.lt
    have h6 : Lk (Six ((put6 w3 w.heap.size (.int .i64 0) (.string ⟨#[]⟩) (.bool false) (.int .i64 0) (.int .i64 0) (.slice none 0 0)).alloc (.cells #[.int .i64 T.kind, .string T.set, .bool T.neg, .int .i64 T.low, .int .i64 T.high, .slice ta T.kids.length tc] 26)) w.heap.size (PR.leaf 0) none 0) := Lk.mk ((S2.out.put (PR.leaf 0) none 0).kept ba)
    have PO := Lk.mk ((put6_below BW.out w.heap.size (.int .i64 0) (.string ⟨#[]⟩) (.bool false) (.int .i64 0) (.int .i64 0) (.slice none 0 0) (Nat.le_refl _)).trans (ba.mono (by rw [put6_size]; exact BW.out.size)))
    clear ba
    go_wp2_with fail
    change bodyPost _ _ _ _ _ ((put6 w3 w.heap.size (.int .i64 0) (.string ⟨#[]⟩) (.bool false) (.int .i64 0) (.int .i64 0) (.slice none 0 0)).alloc (.cells #[.int .i64 T.kind, .string T.set, .bool T.neg, .int .i64 T.low, .int .i64 T.high, .slice ta T.kids.length tc] 26))
    generalize (put6 w3 w.heap.size (.int .i64 0) (.string ⟨#[]⟩) (.bool false) (.int .i64 0) (.int .i64 0) (.slice none 0 0)).alloc (.cells #[.int .i64 T.kind, .string T.set, .bool T.neg, .int .i64 T.low, .int .i64 T.high, .slice ta T.kids.length tc] 26) = W at h6 PO ⊢
    obtain ⟨y0, y1, y2, y3, y4, y5, _⟩ := h6.out.cells
    replace y0 : _ = some (Value.int .i64 0) := y0
    replace y1 : _ = some (Value.string ⟨#[]⟩) := y1
    replace y2 : _ = some (Value.bool false) := y2
    replace y3 : _ = some (Value.int .i64 0) := y3
    replace y4 : _ = some (Value.int .i64 0) := y4
    replace y5 : _ = some (Value.slice none 0 0) := y5
    refine bodyPost_ret (v := .tuple #[.agg #[.int .i64 0, .string ⟨#[]⟩, .bool false, .int .i64 0, .int .i64 0, .slice none 0 0], .bool false]) (by simp [results, Tryd.results8, go_sem, y0, y1, y2, y3, y4, y5]) rfl ⟨PO.out, ?_⟩
    rw [E.out]
    rfl
   ·have d1 : decide (j < s.size) = false := by simpa using hj
    have d2 : decide ((j : Int) < (s.size : Int)) = false := by simp; omega
    have bx : Below w3.heap.size w3 (w3.alloc (.cells #[.int .i64 T.kind, .string T.set, .bool T.neg, .int .i64 T.low, .int .i64 T.high, .slice ta T.kids.length tc] 26)) := (Below.refl _ _).alloc (Nat.le_refl _) _
    have HOK := Lib.hid (specReOk_any T ta tc (w3.alloc (.cells #[.int .i64 T.kind, .string T.set, .bool T.neg, .int .i64 T.low, .int .i64 T.high, .slice ta T.kids.length tc] 26)) ((K.out.kept bx).kids (fun _ _ => Nat.zero_le _)) HCO)
    have hS3 := S2.out.lt
    have S4 : Hid (Six (w3.alloc (.cells #[.int .i64 T.kind, .string T.set, .bool T.neg, .int .i64 T.low, .int .i64 T.high, .slice ta T.kids.length tc] 26)) w3.heap.size T ta tc) := Lib.hid (six_new rfl rfl)
    have S2 := Lib.hid (S2.out.kept bx)
    have K := Lib.hid (K.out.kept bx)
    have BW := Lib.hid (BW.out.trans (bx.mono BW.out.size))
    clear bx
    unfold reV at HOK
    have HGF : Hid (w.heap.size ∉ tF) := Lib.hid (fun h => by have := HKL.out _ h; simp at this; omega)
    have HLF : Hid (∀ y ∈ tF, w.heap.size ≤ y) := Lib.hid (fun y hy => by have := HKL.out y hy; simp at this; omega)
    cases hok : RT.ok T
    case false =>
     have E : Hid (PR.parse s = none) := Lib.hid (by rw [EP.out, if_neg hj, hok]; rfl)
     clear EP
     rw [hok] at HOK
     go_wp2_with fail
     refine HOK.out.mono ?_
     rintro e w5 ⟨rfl, b5⟩
     have S2 := Lib.hid (S2.out.kept b5)
     have S4 := Lib.hid (S4.out.kept b5)
     have K := Lib.hid (K.out.kept b5)
     have BW := Lib.hid (BW.out.trans (b5.mono BW.out.size))
     clear b5 HOK hok
     obtain ⟨z0, z1, z2, z3, z4, z5, z6⟩ := S2.out.cells
     have z60 := z6 0
     have z61 := z6 1
     have z62 := z6 2
     have z63 := z6 3
     have z64 := z6 4
     have z65 := z6 5
     clear z6
     have h6 : Lk (Six (put6 w5 w.heap.size (.int .i64 0) (.string ⟨#[]⟩) (.bool false) (.int .i64 0) (.int .i64 0) (.slice none 0 0)) w.heap.size (PR.leaf 0) none 0) := Lk.mk (S2.out.put (PR.leaf 0) none 0)
     have PO := Lk.mk (put6_below BW.out w.heap.size (.int .i64 0) (.string ⟨#[]⟩) (.bool false) (.int .i64 0) (.int .i64 0) (.slice none 0 0) (Nat.le_refl _))
     go_wp2_with fail
     change bodyPost _ _ _ _ _ (put6 w5 w.heap.size (.int .i64 0) (.string ⟨#[]⟩) (.bool false) (.int .i64 0) (.int .i64 0) (.slice none 0 0))
     generalize (put6 w5 w.heap.size (.int .i64 0) (.string ⟨#[]⟩) (.bool false) (.int .i64 0) (.int .i64 0) (.slice none 0 0)) = W at h6 PO  ⊢
     obtain ⟨y0, y1, y2, y3, y4, y5, _⟩ := h6.out.cells
     replace y0 : _ = some (Value.int .i64 0) := y0
     replace y1 : _ = some (Value.string ⟨#[]⟩) := y1
     replace y2 : _ = some (Value.bool false) := y2
     replace y3 : _ = some (Value.int .i64 0) := y3
     replace y4 : _ = some (Value.int .i64 0) := y4
     replace y5 : _ = some (Value.slice none 0 0) := y5
     refine bodyPost_ret (v := .tuple #[.agg #[.int .i64 0, .string ⟨#[]⟩, .bool false, .int .i64 0, .int .i64 0, .slice none 0 0], .bool false]) (by simp [results, Tryd.results8, go_sem, y0, y1, y2, y3, y4, y5]) rfl ⟨PO.out, ?_⟩
     rw [E.out]
     rfl
    case true =>
     have E : Hid (PR.parse s = some T) := Lib.hid (by rw [EP.out, if_neg hj, hok]; rfl)
     clear EP
     rw [hok] at HOK
     go_wp2_with fail
     refine HOK.out.mono ?_
     rintro e w5 ⟨rfl, b5⟩
     have S2 := Lib.hid (S2.out.kept b5)
     have S4 := Lib.hid (S4.out.kept b5)
     have K := Lib.hid (K.out.kept b5)
     have BW := Lib.hid (BW.out.trans (b5.mono BW.out.size))
     clear b5 HOK hok
     obtain ⟨z0, z1, z2, z3, z4, z5, z6⟩ := S2.out.cells
     have z60 := z6 0
     have z61 := z6 1
     have z62 := z6 2
     have z63 := z6 3
     have z64 := z6 4
     have z65 := z6 5
     clear z6
     obtain ⟨k0, k1, k2, k3, k4, k5, k6⟩ := S4.out.cells
     have k60 := k6 0
     have k61 := k6 1
     have k62 := k6 2
     have k63 := k6 3
     have k64 := k6 4
     have k65 := k6 5
     clear k6
     have h6 : Lk (Six (put6 w5 w.heap.size (.int .i64 T.kind) (.string T.set) (.bool T.neg) (.int .i64 T.low) (.int .i64 T.high) (.slice ta T.kids.length tc)) w.heap.size T ta tc) := Lk.mk (S2.out.put T ta tc)
     have PO := Lk.mk (put6_below BW.out w.heap.size (.int .i64 T.kind) (.string T.set) (.bool T.neg) (.int .i64 T.low) (.int .i64 T.high) (.slice ta T.kids.length tc) (Nat.le_refl _))
     have PK := Lk.mk (K.out.put w.heap.size HGF.out (.int .i64 T.kind) (.string T.set) (.bool T.neg) (.int .i64 T.low) (.int .i64 T.high) (.slice ta T.kids.length tc))
     go_wp2_with fail
     change bodyPost _ _ _ _ _ (put6 w5 w.heap.size (.int .i64 T.kind) (.string T.set) (.bool T.neg) (.int .i64 T.low) (.int .i64 T.high) (.slice ta T.kids.length tc))
     generalize (put6 w5 w.heap.size (.int .i64 T.kind) (.string T.set) (.bool T.neg) (.int .i64 T.low) (.int .i64 T.high) (.slice ta T.kids.length tc)) = W at h6 PO PK ⊢
     obtain ⟨y0, y1, y2, y3, y4, y5, _⟩ := h6.out.cells
     replace y0 : _ = some (Value.int .i64 T.kind) := y0
     replace y1 : _ = some (Value.string T.set) := y1
     replace y2 : _ = some (Value.bool T.neg) := y2
     replace y3 : _ = some (Value.int .i64 T.low) := y3
     replace y4 : _ = some (Value.int .i64 T.high) := y4
     replace y5 : _ = some (Value.slice ta T.kids.length tc) := y5
     refine bodyPost_ret (v := .tuple #[.agg #[.int .i64 T.kind, .string T.set, .bool T.neg, .int .i64 T.low, .int .i64 T.high, .slice ta T.kids.length tc], .bool true]) (by simp [results, Tryd.results8, go_sem, y0, y1, y2, y3, y4, y5]) rfl ⟨PO.out, ?_⟩
     rw [E.out]
     exact ⟨ta, tc, tF, rfl, PK.out, HLF.out, HNI.out⟩
end Go.Proofs.YtcpaneaiobnhdaaDoor.kit
