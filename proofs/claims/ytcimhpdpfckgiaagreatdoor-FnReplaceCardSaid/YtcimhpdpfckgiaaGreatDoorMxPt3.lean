/-
  Contracts of the methods of a room over this seat's translation. Conditions: rows of at most 2199023255552 bytes.
-/
import Derived.Test.YtcimhpdpfckgiaaGreatDoorMxPt1
import Derived.Deep.RegionHeld3
import Derived.Deep.QuietTactic
import Derived.BigQuiet
import Derived.StillTailTactics
set_option linter.unusedVariables false
set_option linter.unusedSimpArgs false
open Go.ChangeShapes Go.WideShapes Go.ChangeAt Go.RowKit
namespace Go.Proofs.YtcimhpdpfckgiaaGreatDoor.kit
theorem Rm.c0 {w : World} {g b size cap : Nat} {out : List UInt8} {full : Bool} (h : Rm w g b size cap out full) : w.cell? ⟨b, 0, none⟩ = some (.slice (some ⟨g, 0, none⟩) size cap) := h.bx.cell (i := 0) (by omega)
theorem Rm.c1 {w : World} {g b size cap : Nat} {out : List UInt8} {full : Bool} (h : Rm w g b size cap out full) : w.cell? ⟨b, 1, none⟩ = some (.int .i64 (out.length : Int)) := h.bx.cell (i := 1) (by omega)
theorem Rm.c2 {w : World} {g b size cap : Nat} {out : List UInt8} {full : Bool} (h : Rm w g b size cap out full) : w.cell? ⟨b, 2, none⟩ = some (.bool full) := h.bx.cell (i := 2) (by omega)
theorem Rm.fz {w : World} {g b size cap : Nat} {out : List UInt8} {full : Bool} (h : Rm w g b size cap out full) (j : Nat) : w.frozen? ⟨b, j, none⟩ = false := h.bx.frozen j
theorem Rm.cg {w : World} {g b size cap : Nat} {out : List UInt8} {full : Bool} (h : Rm w g b size cap out full) (j : Nat) (hj : j < size) : (w.cell? ⟨g, j, none⟩).isSome = true := by
 obtain ⟨rest, h1, _⟩ := h.row
 rw [h1.cell hj]; rfl
theorem Rm.fg {w : World} {g b size cap : Nat} {out : List UInt8} {full : Bool} (h : Rm w g b size cap out full) (j : Nat) : w.frozen? ⟨g, j, none⟩ = false := by
 obtain ⟨rest, h1, _⟩ := h.row
 exact h1.frozen j
theorem Rm.heap {w w' : World} {g b size cap : Nat} {out : List UInt8} {full : Bool} (h : Rm w g b size cap out full) (e : w'.heap = w.heap) : Rm w' g b size cap out full := by
 obtain ⟨⟨rest, h1, h2⟩, h3, h4⟩ := h
 exact ⟨⟨rest, h1.of_block (by rw [e]), h2⟩, h3.of_block (by rw [e]), h4⟩
theorem below_drewP (w : World) (B n : Nat) : Below B w (w.drewN n) := ⟨rfl, rfl, rfl, Nat.le_refl _, fun _ _ => rfl⟩
structure Ch2 (g b : Nat) (w w' : World) : Prop where
 bel : Below (min g b) w w'
 oth : ∀ k, k < w.heap.size → k ≠ g → k ≠ b → w'.heap[k]? = w.heap[k]?
theorem Ch2.refl (g b : Nat) (w : World) : Ch2 g b w w := ⟨Below.refl _ _, fun _ _ _ _ => rfl⟩
theorem Ch2.drewN {g b : Nat} {w : World} (n : Nat) : Ch2 g b w (w.drewN n) := ⟨below_drewP w _ n, fun _ _ _ _ => rfl⟩
theorem Ch2.trans {g b : Nat} {w w' w'' : World} (h : Ch2 g b w w') (h' : Ch2 g b w' w'') : Ch2 g b w w'' :=
 ⟨h.bel.trans h'.bel, fun k hk h1 h2 => (h'.oth k (Nat.lt_of_lt_of_le hk h.bel.size) h1 h2).trans (h.oth k hk h1 h2)⟩
theorem Ch2.alloc {g b : Nat} {w w' : World} (h : Ch2 g b w w') (hg : g ≤ w'.heap.size) (o : Obj) : Ch2 g b w (w'.alloc o) :=
 ⟨h.bel.alloc (Nat.le_trans (Nat.min_le_left _ _) hg) o, fun k hk h1 h2 => (Below.heap_alloc _ _ _ (Nat.lt_of_lt_of_le hk h.bel.size)).trans (h.oth k hk h1 h2)⟩
theorem Ch2.setB {g b : Nat} {w w' : World} (h : Ch2 g b w w') (hgb : g ≠ b) (j : Nat) (v : Value) : Ch2 g b w (w'.setCell ⟨b, j, none⟩ v) :=
 ⟨h.bel.setCell (p := ⟨b, j, none⟩) (Nat.min_le_right _ _) v, fun k hk h1 h2 => (Below.heap_setCell _ _ _ _ h2).trans (h.oth k hk h1 h2)⟩
theorem heap_setCells (g k : Nat) (hk : k ≠ g) : ∀ (vs : List Value) (o : Nat) (w : World), (w.setCells g o vs).heap[k]? = w.heap[k]?
 | [], _, _ => rfl
 | v :: r, o, w => (heap_setCells g k hk r (o + 1) _).trans (Below.heap_setCell _ _ _ _ hk)
theorem Ch2.setG {g b : Nat} {w w' : World} (h : Ch2 g b w w') (o : Nat) (vs : List Value) : Ch2 g b w (w'.drew.setCells g o vs) :=
 ⟨below_setCells (Nat.min_le_left g b) _ _ _ h.bel.drew, fun k hk h1 h2 => (heap_setCells g k h1 vs o w'.drew).trans (h.oth k hk h1 h2)⟩
theorem Ch2.cell {g b : Nat} {w w' : World} (h : Ch2 g b w w') {k j : Nat} (hk : k < w.heap.size) (h1 : k ≠ g) (h2 : k ≠ b) : w'.cell? ⟨k, j, none⟩ = w.cell? ⟨k, j, none⟩ := cob (w := w) (a := ⟨k, j, none⟩) (h.oth k hk h1 h2)
def RmPost (g b size cap : Nat) (st : RmS) (w : World) (e : Ending) (w' : World) : Prop := (∃ v, e = .returned v) ∧ Rm w' g b size cap st.1 st.2 ∧ Ch2 g b w w'
theorem sizeU8 (W : World) : (Go.sizeOf 5).run Tryz.prog W = .ok 1 W := by kernel_rfl
set_option maxRecDepth 100000 in
set_option maxHeartbeats 4000000 in
theorem roomAdd_any (s : ByteArray) (times g b size cap : Nat) (st : RmS) (w : World) (hs : s.size ≤ 1048576) (ht : times ≤ 1048576) (hz : size ≤ 2199023255552) (hc : size ≤ cap) (hr : Rm w g b size cap st.1 st.2) :
 Calls Tryz.prog 27 #[.pointer (some ⟨b, 0, none⟩), .string s, .int .i64 (times : Int)] w (RmPost g b size cap (addR size st s.data.toList times) w) := by
 have HR := qd hr
 have hle := hr.le
 obtain ⟨out, full⟩ := st
 simp only at hle HR
 clear hr
 have hl : s.data.toList.length = s.size := by simp
 by_cases h0 : s.size = 0
 · have HA := qd (show addR size (out, full) s.data.toList times = (out, full) by
    rw [addR, if_pos (List.length_eq_zero_iff.1 (by omega))])
   have e1 := empty_of_size h0
   go_enter Tryz.func27, Tryz.ntmps27
   go_wp2
   go_end0
   exact ⟨⟨_, rfl⟩, by rw [HA.out]; exact HR.out, Ch2.refl _ _ _⟩
 · have e1 := not_empty_of_size h0
   have hsn : s.data.toList ≠ [] := fun e => h0 (by rw [← hl, e]; rfl)
   have c0 := HR.out.c0
   have c1 := HR.out.c1
   have c2 := HR.out.c2
   have f1 := HR.out.fz 1
   have f2 := HR.out.fz 2
   obtain ⟨d, hd⟩ : ∃ d, d = size - out.length := ⟨_, rfl⟩
   obtain ⟨q, hq⟩ : ∃ q, q = d / s.size := ⟨_, rfl⟩
   have hqd : q ≤ d := by rw [hq]; exact Nat.div_le_self _ _
   have hd9 : d ≤ 2199023255552 := by omega
   have hq1 : IntKind.i64.wrap ((size : Int) - (out.length : Int)) = (d : Int) := by rw [IntKind.wrap_i64]; omega
   have hq2 : (d : Int) / (s.size : Int) = (q : Int) := by rw [hq]; rfl
   have hs0 : ((s.size : Int) == 0) = false := by rw [beq_eq_false_iff_ne]; omega
   have HCMP := qd (show q < times ↔ size < out.length + times * s.data.toList.length by
    rw [hq, Nat.div_lt_iff_lt_mul (by omega), hl, hd]; omega)
   have HD := qd hd
   have HL := qd hl
   clear hd hq hl
   by_cases hf : q < times
   · have HA := qd (show addR size (out, full) s.data.toList times = (out, true) by
        rw [addR, if_neg hsn, if_pos (HCMP.out.1 hf)])
     have hdec : decide ((q : Int) < (times : Int)) = true := by simp; exact hf
     clear hsn
     go_enter Tryz.func27, Tryz.ntmps27
     go_wp2_with fail
     go_quiet (fail)
     go_wp2_with fail
     go_end0
     exact ⟨⟨_, rfl⟩, by rw [HA.out]; exact (HR.out.heap (w' := w.drewN _) rfl).full true, (Ch2.drewN _).setB HR.out.lt 2 _⟩
   · have hfit : out.length + times * s.data.toList.length ≤ size := by
        have := mt HCMP.out.2 hf; omega
     have HA := qd (show addR size (out, full) s.data.toList times = (out ++ pqRep times s.data.toList, full) from addR_fit hfit)
     have hdec : decide ((q : Int) < (times : Int)) = false := by simp; omega
     have HF := qd hfit
     clear hsn hfit
     go_enter Tryz.func27, Tryz.ntmps27
     go_wp2_with fail
     go_quiet (fail)
     go_wp2_with fail
     go_loopw [27] (fun i wr => ∃ k : Nat, k ≤ times ∧ i = .int .i64 k ∧ Rm wr g b size cap (out ++ pqRep k s.data.toList) full ∧ Ch2 g b w wr) (fun i _ => times - (intOf i).toNat)
     case atStart => exact ⟨0, Nat.zero_le _, rfl, by rw [pqRep_zero, List.append_nil]; exact HR.out.heap rfl, Ch2.drewN _⟩
     case round =>
        obtain ⟨k, hk, rfl, hrm, hb⟩ := hrel
        have HB := qd hb
        have HM := qd hrm
        clear hb hrm
        by_cases hlt : k < times
        · have hkk : (k + 1) * s.data.toList.length ≤ times * s.data.toList.length := Nat.mul_le_mul_right _ hlt
          have hroom : (out ++ pqRep k s.data.toList).length + s.data.toList.length ≤ size := by
           rw [List.length_append, pqRep_len]; rw [Nat.succ_mul] at hkk; have := HF.out; omega
          have HN := qd (show out ++ pqRep (k + 1) s.data.toList = (out ++ pqRep k s.data.toList) ++ s.data.toList by rw [pqRep_succ, List.append_assoc])
          generalize out ++ pqRep k s.data.toList = o2 at *
          rw [HL.out] at hroom
          have d0 := HM.out.c0
          have d1 := HM.out.c1
          have HC := qd (show ∀ j, j < s.size → (wr.drew.cell? ⟨g, o2.length + j, none⟩).isSome = true from fun j hj => HM.out.drew.cg _ (by omega))
          have HG := qd (show ∀ j, j < s.size → wr.drew.frozen? ⟨g, o2.length + j, none⟩ = false from fun j hj => HM.out.drew.fg _)
          have hbx := rowIs_setCells_other (b := g) (b' := b) (by have := HM.out.lt; omega) (s.data.toList.map fun x => Value.int .u8 (x.toNat : Int)) o2.length _ HM.out.drew.bx
          have k0 := hbx.cell (i := 0) (by omega)
          have k1 := hbx.cell (i := 1) (by omega)
          have fz1 := hbx.frozen 1
          simp only [if_true, Nat.one_ne_zero, if_false] at k0 k1
          have HP := qd (show Rm ((wr.drew.setCells g o2.length (s.data.toList.map fun x => Value.int .u8 (x.toNat : Int))).setCell ⟨b, 1, none⟩ (.int .i64 ((o2.length : Int) + (s.size : Int)))) g b size cap (o2 ++ s.data.toList) full from HM.out.drew.put s.data.toList (by rw [HL.out]; exact hroom) _ (by rw [List.length_append, HL.out]; simp))
          have HBN := qd (show Ch2 g b w ((wr.drew.setCells g o2.length (s.data.toList.map fun x => Value.int .u8 (x.toNat : Int))).setCell ⟨b, 1, none⟩ (.int .i64 ((o2.length : Int) + (s.size : Int)))) from (HB.out.setG _ _).setB HM.out.lt 1 _)
          clear hbx
          have hw1 : IntKind.i64.wrap ((o2.length : Int) + (s.size : Int)) = (o2.length : Int) + (s.size : Int) := by rw [IntKind.wrap_i64]; omega
          have hne : ¬ cap = o2.length := by omega
          have i0 : (0 : Int) ≤ (o2.length : Int) := by omega
          have i1 : (o2.length : Int) ≤ (size : Int) := by omega
          have i2 : (o2.length : Int) ≤ (cap : Int) := by omega
          go_wp2_with fail
          go_region_law (refine step_copy_string rfl (.tmp 41) (.tmp 42) 22 9 rfl 5 Tryz.underlying22 sizeU8 g o2.length (size - o2.length) (cap - o2.length) (by simp [Act.eval, Act.put]) s (by simp [Act.eval, Act.put]) (by omega) HC.out HG.out ?_)
          all_goals
           go_wp2_with fail
           go_roundw
           case rel => exact ⟨k + 1, by omega, by go_num, by rw [HN.out]; exact HP.out, HBN.out⟩
           case measure => simp [intOf]; omega
        · obtain rfl : k = times := by omega
          go_wp2_with fail
          go_end0
          exact ⟨⟨_, rfl⟩, by rw [HA.out]; exact HM.out, HB.out⟩
set_option maxRecDepth 100000 in
set_option maxHeartbeats 4000000 in
theorem roomPut_any (ps : List Pc) (a : Option Addr) (pcap : Nat) (f : ByteArray) (g b size cap : Nat) (st : RmS) (w : World) (hf : f.size ≤ 1048576) (hp : pqSum ps ≤ 1048576) (hn : ps.length ≤ 1048577) (hz : size ≤ 2199023255552) (hc : size ≤ cap) (hr : Rm w g b size cap st.1 st.2)
 (hps : ∀ W, Ch2 g b w W → PcR 0 W ps a) :
 Calls Tryz.prog 28 #[.pointer (some ⟨b, 0, none⟩), .slice a ps.length pcap, .string f] w (RmPost g b size cap (putR size f.data.toList st ps) w) := by
 have HR := qd hr
 have HPS := qd hps
 have HPP := qd hp
 have hgw : g < w.heap.size := hr.gl
 clear hr hps hp
 go_enter Tryz.func28, Tryz.ntmps28
 go_wp2_with fail
 go_loopw [10] (fun i wr => ∃ k : Nat, k ≤ ps.length ∧ i = .int .i64 k ∧ Rm wr g b size cap (putR size f.data.toList st (ps.take k)).1 (putR size f.data.toList st (ps.take k)).2 ∧ Ch2 g b w wr) (fun i _ => ps.length - (intOf i).toNat)
 case atStart => exact ⟨0, Nat.zero_le _, rfl, HR.out, Ch2.refl _ _ _⟩
 case round =>
  obtain ⟨k, hk, rfl, hrm, hb⟩ := hrel
  have HB := qd hb
  have HM := qd hrm
  clear hb hrm
  by_cases hlt : k < ps.length
  · obtain ⟨gp, rfl, _, hgp, p0, p1⟩ := (HPS.out wr HB.out) k hlt
    have HN := qd (putR_take size f.data.toList st ps k hlt)
    have hsum := pqSum_at ps k hlt
    have hpl : (ByteArray.mk ps[k].1.toArray).size ≤ 1048576 := by rw [bszP]; have := HPP.out; omega
    have hpt : ps[k].2 ≤ 1048576 := by have := HPP.out; omega
    generalize putR size f.data.toList st (ps.take k) = s1 at *
    generalize hpk : ps[k] = p at *
    obtain ⟨pl, pt⟩ := p
    simp only at p0 p1 hpl hpt HN
    have C1 := qd (fun W (h : Rm W g b size cap s1.1 s1.2) => roomAdd_any ⟨pl.toArray⟩ 1 g b size cap s1 W hpl (by omega) hz hc h)
    have C2 := qd (fun W (h : Rm W g b size cap (addR size s1 pl 1).1 (addR size s1 pl 1).2) => roomAdd_any f pt g b size cap (addR size s1 pl 1) W hf hpt hz hc h)
    have hz1 := HB.out.bel.size
    have HPT := qd (show ∀ o, Ch2 g b w (wr.alloc o) from fun o => HB.out.alloc (Nat.le_trans (Nat.le_of_lt hgw) hz1) o)
    have HMA := qd (show ∀ o, Rm (wr.alloc o) g b size cap s1.1 s1.2 from fun o => HM.out.alloc o)
    have hbw := HM.out.bx.lt
    have hgb := HM.out.lt
    have hgl := HM.out.gl
    have HBX := qd (show ∀ W, Ch2 g b (wr.alloc (.cells #[.string ⟨pl.toArray⟩, .int .i64 (pt : Int)] 61)) W → W.cell? ⟨wr.heap.size, 1, none⟩ = some (.int .i64 (pt : Int)) from fun W h => (h.cell (by simp) (by omega) (by omega)).trans (cellP1 _ _ _ _))
    clear hsum hpk
    rw [show ((1 : Nat) : Int) = 1 from rfl] at C1
    go_wp2_with fail
    refine (C1.out _ (HMA.out _)).mono ?_
    rintro e w2 ⟨⟨v2, rfl⟩, hr2, hb2⟩
    have q1 := HBX.out _ hb2
    have HR2 := qd hr2
    have HB2 := qd ((HPT.out _).trans hb2)
    clear hr2 hb2
    go_wp2_with fail
    refine (C2.out _ HR2.out).mono ?_
    rintro e w3 ⟨⟨v3, rfl⟩, hr3, hb3⟩
    have HR3 := qd hr3
    have HB3 := qd (HB2.out.trans hb3)
    clear hr3 hb3
    go_wp2_with fail
    go_roundw
    case rel => exact ⟨k + 1, by omega, by go_num, by rw [HN.out]; exact HR3.out, HB3.out⟩
    case measure => simp [intOf]; omega
  · obtain rfl : k = ps.length := by omega
    have HN := qd (show ps.take ps.length = ps from List.take_length)
    go_wp2_with fail
    go_end0
    exact ⟨⟨_, rfl⟩, by have := HM.out; rwa [HN.out] at this, HB.out⟩
theorem Rm.start (w : World) (n : Nat) : Rm ((w.alloc (.cells (madeCells #[.int .u8 0] n) 5)).alloc (.cells #[.slice (some ⟨w.heap.size, 0, none⟩) n n, .int .i64 0, .bool false] 55)) w.heap.size (w.heap.size + 1) n n [] false := by
 refine ⟨⟨List.replicate n 0, ?_, by simp⟩, ?_, Nat.ne_of_lt (Nat.lt_succ_self w.heap.size)⟩
 · refine ((World.rowIs_made w (.int .u8 0) n 5).alloc _).congr fun i hi => ?_
   simp [Lib.Lz.bytes, List.getElem?_replicate, hi]
 · have h := World.rowIs_alloc (w.alloc (.cells (madeCells #[.int .u8 0] n) 5)) #[.slice (some ⟨w.heap.size, 0, none⟩) n n, .int .i64 0, .bool false] 55 (fun j => if j = 0 then .slice (some ⟨w.heap.size, 0, none⟩) n n else if j = 1 then .int .i64 (([] : List UInt8).length : Int) else .bool false) (fun i hi => by
    match i, hi with
    | 0, _ => rfl
    | 1, _ => rfl
    | 2, _ => rfl)
   rw [World.size_alloc] at h
   exact h
theorem Rm.back {w : World} {g b cap : Nat} {out : List UInt8} {full : Bool} {size : Nat} (h : Rm w g b size cap out full) (hs : size = out.length) :
 (convert 22 9 (.slice (some ⟨g, 0, none⟩) size cap)).run Tryz.prog w = .ok (.string ⟨out.toArray⟩) w := by
 subst hs
 obtain ⟨rest, h1, h2⟩ := h.row
 obtain rfl : rest = [] := List.length_eq_zero_iff.1 (by omega)
 refine run_convert_bytes_back w 22 9 5 ⟨g, 0, none⟩ cap out Tryz.underlying22 Tryz.underlying5 Tryz.underlying9 fun j hj => ?_
 rw [add_atP, Nat.zero_add, h1.cell hj]
 simp [Lib.Lz.bytes, List.getElem?_append, hj]
theorem pqCat_take_len (f : List UInt8) (ps : List Pc) (k : Nat) (h : k < ps.length) : (pqCat f (ps.take (k + 1))).length = (pqCat f (ps.take k)).length + (ps[k].1.length + ps[k].2 * f.length) := by
 rw [List.take_succ_eq_append_getElem h, pqCat_app, pqCat_one]
 simp only [List.length_append, pqRep_len]
set_option maxRecDepth 100000 in
set_option maxHeartbeats 4000000 in
theorem implPut_any (s f : ByteArray) (w : World) (hs : s.size ≤ 1048576) (hf : f.size ≤ 1048576) :
 Calls Tryz.prog 13 #[.string s, .string f] w fun e w' => e = .returned (.string ⟨(putL f.data.toList s.data.toList).toArray⟩) ∧ Below w.heap.size w w' := by
 have HC := qd (readRepl_any s w hs)
 have hfl : f.data.toList.length = f.size := by simp
 have HFL := qd hfl
 have hsl : s.data.toList.length = s.size := by simp
 have HSL := qd hsl
 clear hfl hsl
 go_enter Tryz.func13, Tryz.ntmps13
 go_wp2_with fail
 refine HC.out.mono ?_
 rintro e w1 ⟨v1, ps, rfl, hown, ⟨hcat, hsum, hlen⟩, hb1⟩
 obtain ⟨a, pcap, rfl, hread⟩ := hown.read
 have HP := qd (show PcR 0 w1 ps a from fun j hj => by
  obtain ⟨g, e, _, h⟩ := hread j hj
  exact ⟨g, e, Nat.zero_le _, h⟩)
 have HB1 := qd hb1
 have HCAT := qd (hcat f.data.toList)
 rw [HSL.out] at hsum hlen
 have HSUM := qd hsum
 have hn9 : ps.length ≤ 1048577 := by omega
 have HT := qd (fun k => pqCat_bd f.data.toList (ps.take k) s.size (Nat.le_trans (pqSum_take ps k) HSUM.out) hs (by rw [HFL.out]; exact hf))
 clear hown hread hcat hsum hlen hb1
 go_wp2_with fail
 go_loopw [6, 14] (fun sz i wr => ∃ k : Nat, k ≤ ps.length ∧ i = .int .i64 k ∧ sz = .int .i64 ((pqCat f.data.toList (ps.take k)).length : Int) ∧ Below w1.heap.size w1 wr) (fun _ i _ => ps.length - (intOf i).toNat)
 case atStart => exact ⟨0, Nat.zero_le _, rfl, rfl, Below.refl _ _⟩
 case round =>
  obtain ⟨k, hk, rfl, rfl, hb⟩ := hrel
  have HB := qd hb
  have hbz := hb.size
  have hwz : w1.heap.size ≤ wr.heap.size := hb.size
  clear hb
  have hbd := HT.out k
  by_cases hlt : k < ps.length
  · obtain ⟨gp, rfl, _, hgp, p0, p1⟩ := (HP.out.kept HB.out) k hlt
    have hsum := pqSum_at ps k hlt
    have HN := qd (pqCat_take_len f.data.toList ps k hlt)
    have hbd2 := HT.out (k + 1)
    have HBD2 := qd hbd2
    clear hbd2
    obtain ⟨n2, hn2e⟩ : ∃ n2, n2 = (pqCat f.data.toList (ps.take (k + 1))).length := ⟨_, rfl⟩
    rw [← hn2e] at HN HBD2
    have HE2 := qd hn2e
    clear hn2e
    generalize (pqCat f.data.toList (ps.take k)).length = n1 at *
    generalize hpk : ps[k] = p at *
    obtain ⟨pl, pt⟩ := p
    simp only at p0 p1 HN hsum
    have hbzp := bszP pl
    obtain ⟨m, hm⟩ : ∃ m, m = pt * f.size := ⟨_, rfl⟩
    have hmul : (pt : Int) * (f.size : Int) = (m : Int) := by rw [hm]; rfl
    have hn2 : n2 = n1 + (pl.length + m) := by rw [HN.out, HFL.out, hm]
    have hb9 := HBD2.out
    have hm9 : m ≤ 1099512676352 := by omega
    have hpl9 : pl.length ≤ 1099512676352 := by omega
    have HN2 := qd hn2
    clear hm hn2 hpk hsum hb9
    go_wp2_with fail
    go_roundw
    case rel => exact ⟨k + 1, by omega, by go_num, by rw [← HE2.out, HN2.out]; go_num, HB.out.alloc hwz _⟩
    case measure => simp [intOf]; omega
  · obtain rfl : k = ps.length := by omega
    have HK := qd (show ps.take ps.length = ps from List.take_length)
    rw [HK.out] at hbd
    have HS := qd (show (pqCat f.data.toList (ps.take ps.length)).length = (pqCat f.data.toList ps).length by rw [HK.out])
    rw [HS.out]
    obtain ⟨n, hn⟩ : ∃ n, n = (pqCat f.data.toList ps).length := ⟨_, rfl⟩
    rw [← hn] at hbd ⊢
    have hmk : ∀ W, (Instr.makeSlice 22 (.int .i64 (n : Int)) (.int .i64 (n : Int))).run Tryz.prog W = .ok (.slice (some ⟨W.heap.size, 0, none⟩) n n) (W.alloc (.cells (madeCells #[.int .u8 0] n) 5)) := fun W =>
        run_make_row' (P := Tryz.prog) 22 5 (.int .u8 0) 1 Tryz.underlying22 Tryz.infoU8 rfl .i64 .i64 n (by omega) (by omega) W
    have HST := qd (Rm.start wr n)
    have HFIT := qd (show putR n f.data.toList ([], false) ps = (pqCat f.data.toList ps, false) from by rw [putR_fit (by simp; omega)]; rfl)
    have HNN := qd hn
    have HC2 := qd (fun W (h : Rm W wr.heap.size (wr.heap.size + 1) n n [] false) (hps : ∀ W', Ch2 wr.heap.size (wr.heap.size + 1) W W' → PcR 0 W' ps a) => roomPut_any ps a pcap f wr.heap.size (wr.heap.size + 1) n n ([], false) W hf (Nat.le_trans HSUM.out hs) hn9 (by omega) (Nat.le_refl _) h hps)
    rw [HFIT.out] at HC2
    have HPS := qd (show ∀ o o' W', Ch2 wr.heap.size (wr.heap.size + 1) ((wr.alloc o).alloc o') W' → PcR 0 W' ps a from fun o o' W' h => HP.out.kept (HB.out.trans ((((Below.refl wr.heap.size wr).alloc (Nat.le_refl _) o).alloc (by simp) o').trans (h.bel.mono (by omega)) |>.mono hbz)))
    have HBW := qd (show ∀ o o' W', Ch2 wr.heap.size (wr.heap.size + 1) ((wr.alloc o).alloc o') W' → Below w.heap.size w W' from fun o o' W' h => HB1.out.trans ((HB.out.trans ((((Below.refl wr.heap.size wr).alloc (Nat.le_refl _) o).alloc (by simp) o').trans (h.bel.mono (by omega)) |>.mono hbz)).mono HB1.out.size))
    clear hn
    go_wp2_with fail
    refine (HC2.out _ HST.out (HPS.out _ _)).mono ?_
    rintro e w4 ⟨⟨v4, rfl⟩, hr4, hb4⟩
    simp only at hr4
    have k0 := hr4.c0
    have hbk := hr4.back HNN.out
    have HB4 := qd (HBW.out _ _ _ hb4)
    rw [HCAT.out] at hbk
    clear hr4 hb4
    go_wp2_with fail
    go_ret
    exact ⟨rfl, HB4.out⟩
end Go.Proofs.YtcimhpdpfckgiaaGreatDoor.kit
