/-
  Contracts of set's all and of the iterator that it makes, over this seat's translation: the iterator hands the set's numbers, ascending, to whatever loop keeps what lay before. Conditions: the set ends by word 1048576.
-/
import Derived.Test.YtcimhpdpfckgiaaGreatDoorMxMx0
import Derived.RangeFuncNested
import Derived.RangeFuncBound
import Derived.RangeFuncCalls
import Derived.RangeFuncLeaves
import Derived.Shelf.Abstract
import Derived.Shelf.RegionOpen
import Derived.OwnWalkIn
import Derived.TacticsInMore
import Derived.LoopNIn
import Derived.LoopIn
import Derived.Sort.QuietIn
import Derived.Laws.AppendOwn
import Derived.Deep.RegionHeld
set_option linter.unusedVariables false
namespace Go.Proofs.YtcimhpdpfckgiaaGreatDoor.kit
open Go.ChangeShapes Go.WideShapes Go.ChangeAt Go.RowKit Go.Shelf
attribute [local go_sem] Oper.semAt_some
def KeepB (F : Nat → Prop) (A B : World) : Prop := ∀ k, F k → B.heap[k]? = A.heap[k]?
theorem KeepB.refl (F : Nat → Prop) (A : World) : KeepB F A A := fun _ _ => rfl
theorem KeepB.trans {F : Nat → Prop} {A B C : World} (h : KeepB F A B) (k : KeepB F B C) : KeepB F A C := fun j hj => (k j hj).trans (h j hj)
def SetF (Bs : Nat) (a : Option Addr) (k : Nat) : Prop := k = Bs ∨ k = 0 ∨ ∃ p, a = some p ∧ k = p.block
def pV (x : Nat) : Value := .int .i64 (x : Int)
theorem WordsAt.of {w w' : World} {ws : List Nat} {a : Option Addr} (h : WordsAt w ws a) (hb : ∀ p, a = some p → w'.heap[p.block]? = w.heap[p.block]?) (hs : ∀ p, a = some p → p.block < w'.heap.size) : WordsAt w' ws a := fun j hj => by
 obtain ⟨b, e, h1, h2⟩ := h j hj
 exact ⟨b, e, hs _ e, (cob (a := ⟨b, j, none⟩) (hb ⟨b, 0, none⟩ e)).trans h2⟩
theorem WordsAt.keep {w w' : World} {ws : List Nat} {a : Option Addr} (h : WordsAt w ws a) (hb : ∀ p, a = some p → w'.heap[p.block]? = w.heap[p.block]?) : WordsAt w' ws a := fun j hj => by
 obtain ⟨b, e, h1, h2⟩ := h j hj
 have h3 := (cob (a := ⟨b, j, none⟩) (hb ⟨b, 0, none⟩ e)).trans h2
 exact ⟨b, e, World.block_lt_of_cell? w' ⟨b, j, none⟩ h3, h3⟩
theorem word_sub {x : Nat} (hx : x < 2 ^ 64) (h0 : x ≠ 0) : IntKind.u64.wrap ((x : Int) - 1) = ((x - 1 : Nat) : Int) := by
 have hu' : (x : Int) < 2 ^ 64 := by exact_mod_cast hx
 rw [wrap_u64 _ (by omega) (by omega)]; omega
theorem two_way {e : Ending} {P Q : Prop} (h : (e = .returned (.bool true) ∧ P) ∨ (e = .returned (.bool false) ∧ Q)) : ∃ b, e = .returned (.bool b) ∧ (b = true → P) ∧ (b = false → Q) := by
 rcases h with ⟨h, p⟩ | ⟨h, q⟩
 · exact ⟨true, h, fun _ => p, fun e => Bool.noConfusion e⟩
 · exact ⟨false, h, fun e => Bool.noConfusion e, fun _ => q⟩
set_option maxRecDepth 100000 in
set_option maxHeartbeats 1000000 in
theorem all1_in (n : Nat) (hn : 2 ≤ n) (l Bs sk : Nat) (ws : List Nat) (a : Option Addr) (c : Nat) (hN : sk + ws.length ≤ 1048576) (hlt : ∀ x ∈ ws, x < 2 ^ 64) (Kp : World → World → Prop) (hKp : ∀ A B, Kp A B → KeepB (SetF Bs a) A B) (J Jx : List Nat → World → Prop)
 (hY : ∀ pre x W, x ∈ memL sk ws → J pre W → pre.length < (memL sk ws).length → YieldAt Fence.wide (n - 1) Tryz.prog l #[pV x] W fun e W' =>
   (e = .returned (.bool true) ∧ J (pre ++ [x]) W' ∧ Kp W W') ∨ (e = .returned (.bool false) ∧ Jx (pre ++ [x]) W'))
 (hJd : ∀ pre W, J pre W → J pre W.drew)
 (W : World) (hc0 : W.cell? ⟨Bs, 0, none⟩ = some (.int .i64 (sk : Int))) (hc1 : W.cell? ⟨Bs, 1, none⟩ = some (.slice a ws.length c)) (hw : WordsAt W ws a) (hT : BT W) (h0 : J [] W) :
 CallsIn Fence.wide n Tryz.prog 48 #[.func (.yield l) #[] #[], .pointer (some ⟨Bs, 0, none⟩)] W fun e W' => (∃ v, e = .returned v) ∧
  ((∃ ys, ys = memL sk ws ∧ J ys W') ∨ (∃ pre, True ∧ Jx pre W')) := by
 have HY := qd hY
 have HKP := qd hKp
 have HJ := qd hJd
 have HW := qd hw
 have HT := qd hT
 have HLT := qd hlt
 have HC0 := qd hc0
 obtain ⟨m, hm⟩ : ∃ m, m = ws.length := ⟨_, rfl⟩
 have HM := qd hm
 rw [← hm] at hc1 hN
 clear hY hJd hw hKp hT hlt hm
 refine callsIn_of_wp Tryz.func48 rfl trivial ?_ rfl
 simp only [Tryz.ntmps48, List.size_toArray, List.length_cons, List.length_nil, Nat.reduceAdd, Nat.reduceSub, Array.replicate_succ, Array.replicate_zero, List.push_toArray, List.append_toArray, List.nil_append, List.cons_append]
 gi_wp2
 gi_loopw [8] (fun iv wr => ∃ i : Nat, i ≤ m ∧ iv = .int .i64 (i : Int) ∧ J (memL sk (ws.take i)) wr ∧ KeepB (SetF Bs a) W wr)
  (fun iv _ => m - (intOf iv).toNat)
 case atStart => exact ⟨0, Nat.zero_le _, rfl, by simpa [memL] using h0, KeepB.refl _ _⟩
 case round =>
  obtain ⟨i, hi, rfl, hJs, hk⟩ := hrel
  have HJs := qd hJs
  have HK := qd hk
  clear hJs hk hc1
  by_cases hlt : i < m
  · have hil : i < ws.length := by have := HM.out; omega
    obtain ⟨bb, hbb, _, d0⟩ := (HW.out.keep (fun p hp => HK.out _ (.inr (.inr ⟨p, hp, rfl⟩)))) i hil
    have hbb' : a = some ⟨bb, 0, none⟩ := hbb
    subst hbb'
    have HXL := qd (HLT.out ws[i] (List.getElem_mem hil))
    have HSN := qd (memL_snoc sk ws i hil)
    obtain ⟨rest, hrest⟩ := memL_cut sk ws (i + 1)
    have HREST := qd hrest
    generalize ws[i] = y at *
    have j0 : (0 : Int) ≤ (i : Int) := by omega
    have j1 : (i : Int) < (m : Int) := by omega
    have HI := qd (show i + 1 ≤ m ∧ m ≤ 1048576 ∧ sk ≤ 1048576 ∧ sk + m ≤ 1048576 by omega)
    clear hil hi hbb hrest
    gi_wp2
    gi_loopw [4] (fun xv wq => ∃ (x : Nat) (done : List Nat), xv = .int .u64 (x : Int) ∧ x < 2 ^ 64 ∧ bitsN y = done ++ bitsN x ∧ J (memL sk (ws.take i) ++ done.map (fun b => (sk + i) * 64 + b)) wq ∧ KeepB (SetF Bs (some ⟨bb, 0, none⟩)) W wq)
        (fun xv _ => (intOf xv).toNat)
    case atStart => exact ⟨y, [], rfl, HXL.out, rfl, by simpa using HJs.out, HK.out⟩
    case round =>
        obtain ⟨x, done, rfl, hx, hd, hJ2, hk2⟩ := hrel
        have HK2 := qd hk2
        have HJ2 := qd hJ2
        have HD := qd hd
        have HX := qd hx
        clear hk2 hJ2 hd hx
        by_cases hx0 : x = 0
        · subst hx0
          have hz : (((0 : Nat) : Int) != 0) = false := rfl
          have HNX := qd (show J (memL sk (ws.take (i + 1))) wr from by
           rw [HSN.out, HD.out, bitsN_zero, List.append_nil]; exact HJ2.out)
          gi_wp2
          go_roundw
          case measure => simp [intOf]; have := HI.out; omega
          case rel => exact ⟨i + 1, HI.out.1, by go_num, HNX.out, HK2.out⟩
        · obtain ⟨t, ht⟩ : ∃ t, t = Lib.ctz 64 x := ⟨_, rfl⟩
          obtain ⟨e, he⟩ : ∃ e, e = (sk + i) * 64 + t := ⟨_, rfl⟩
          obtain ⟨z, hz⟩ : ∃ z, z = x &&& (x - 1) := ⟨_, rfl⟩
          have htb : t < 64 := by rw [ht]; obtain ⟨_, _, h⟩ := ctz_form x hx0 HX.out; exact h
          have hxz : ((x : Int) != 0) = true := by rw [bne_iff_ne]; omega
          have HTZ := qd (fun W h => tz_any x HX.out hx0 W h)
          rw [← ht] at HTZ
          have HNX := qd (show bitsN x = t :: bitsN z by rw [bitsN_next x hx0, ← ht, ← hz])
          have HZX := qd (show z < x by rw [hz]; exact and_pred_lt x hx0)
          have s0 := word_sub HX.out hx0
          obtain ⟨p, hp⟩ : ∃ p, p = x - 1 := ⟨_, rfl⟩
          rw [← hp] at s0
          have hand : bits .and .u64 (x : Int) (p : Int) = (z : Int) := by rw [hz, ← hp]; exact bits_and64 x p HX.out (by rw [hp]; have := HX.out; omega)
          obtain ⟨k, hk⟩ : ∃ k, k = sk + i := ⟨_, rfl⟩
          obtain ⟨k64, hk64⟩ : ∃ k64, k64 = k * 64 := ⟨_, rfl⟩
          have hkb := HI.out
          have s1 : IntKind.i64.wrap ((sk : Int) + (i : Int)) = (k : Int) := by rw [IntKind.wrap_i64]; omega
          have s2 : IntKind.i64.wrap ((k : Int) * 64) = (k64 : Int) := by rw [IntKind.wrap_i64]; omega
          have s3 : IntKind.i64.wrap ((k64 : Int) + (t : Int)) = (e : Int) := by rw [IntKind.wrap_i64]; omega
          have HE := qd (show (sk + i) * 64 + t = e from he.symm)
          have c0 := (cob (a := ⟨Bs, 0, none⟩) (HK2.out _ (.inl rfl))).trans HC0.out
          have HTW := qd (HT.out.of (HK2.out _ (.inr (.inl rfl))))
          have HLEN := qd (show (memL sk (ws.take i) ++ done.map (fun b => (sk + i) * 64 + b)).length < (memL sk ws).length from by
           rw [HREST.out, HSN.out, HD.out, HNX.out]; simp)
          have HMEM := qd (show e ∈ memL sk ws from by
           rw [HREST.out, HSN.out, HD.out, HNX.out, List.mem_append, List.mem_append]
           exact .inl (.inr (List.mem_map.2 ⟨t, by simp, he.symm⟩)))
          clear hx0 ht he hz hp hk hk64 hkb htb
          obtain ⟨pre, hpre⟩ : ∃ pre, pre = memL sk (ws.take i) ++ done.map (fun b => (sk + i) * 64 + b) := ⟨_, rfl⟩
          rw [← hpre] at HLEN HJ2
          have HPRE := qd hpre
          clear hpre
          obtain ⟨fn, tmps, assign, body, hy, hR⟩ := HY.out pre e wr.drew HMEM.out (HJ.out _ _ HJ2.out) HLEN.out
          have HR := qd hR
          clear hR
          unfold pV at hy
          gi_wp2
          gi_region_with (first | (refine ⟨trivial, fun _ => by omega, ?_⟩; refine (callsIn_wide.2 (HTZ.out _ (by first | exact HTW.out | exact HTW.out.of rfl))).mono ?_; rintro e w' ⟨rfl, rfl⟩) | (refine ⟨fun _ => by omega, ?_⟩; refine HR.out.mono ?_; intro e W3 hh; obtain ⟨b, rfl, hb1, hb2⟩ := two_way hh; have HB1 := qd hb1; have HB2 := qd hb2; clear hh hb1 hb2))
          all_goals cases b
          all_goals gi_wp2
          all_goals first
           | (refine bodyPost_ret (results_none rfl _ _ _) rfl ?_; first | exact ⟨⟨_, rfl⟩, .inr ⟨_, HB2.out (by first | rfl | trivial)⟩⟩ | exact ⟨⟨_, rfl⟩, .inr ⟨_, trivial, HB2.out (by first | rfl | trivial)⟩⟩)
           | (refine ⟨⟨z, done ++ [t], rfl, Nat.lt_trans HZX.out HX.out, by rw [HD.out, HNX.out, List.append_assoc]; rfl, ?_, KeepB.trans (show KeepB (SetF Bs (some ⟨bb, 0, none⟩)) W wr.drew from HK2.out) (HKP.out _ _ (HB1.out (by first | rfl | trivial)).2)⟩, by simp only [intOf, Int.toNat_natCast]; exact HZX.out⟩
              have h := (HB1.out (by first | rfl | trivial)).1
              rw [HPRE.out, ← HE.out, List.append_assoc] at h
              rw [List.map_append]
              exact h)
  · obtain rfl : i = m := by omega
    have HNX := qd (show J (memL sk ws) wr from by have h := HJs.out; rw [List.take_of_length_le (by have := HM.out; omega)] at h; exact h)
    gi_wp2
    go_end0
    first | exact ⟨⟨_, rfl⟩, .inl HNX.out⟩ | exact ⟨⟨_, rfl⟩, .inl ⟨_, rfl, HNX.out⟩⟩
theorem all_in (n : Nat) (sk : Nat) (a : Option Addr) (m c : Nat) (w : World) :
 CallsIn Fence.wide n Tryz.prog 35 #[setV sk a m c] w fun e w' => e = .returned (.func (.func 48) #[] #[.pointer (some ⟨w.heap.size, 0, none⟩)]) ∧ w' = w.alloc (.cells #[.int .i64 (sk : Int), .slice a m c] 68) := by
 unfold setV
 refine callsIn_of_wp Tryz.func35 rfl trivial ?_ rfl
 simp only [Tryz.ntmps35, List.size_toArray, List.length_cons, List.length_nil, Nat.reduceAdd, Nat.reduceSub, Array.replicate_succ, Array.replicate_zero, List.push_toArray, List.append_toArray, List.nil_append, List.cons_append]
 gi_wp2
 go_ret
 exact ⟨rfl, rfl⟩
theorem all_stops (n : Nat) (hn : 2 ≤ n) (Bs sk : Nat) (ws : List Nat) (a : Option Addr) (c : Nat) (hN : sk + ws.length ≤ 1048576) (hlt : ∀ x ∈ ws, x < 2 ^ 64) (Kp : World → World → Prop) (hKp : ∀ A B, Kp A B → KeepB (SetF Bs a) A B) (w : World) (hBs : Bs < w.heap.size)
 (hc0 : w.cell? ⟨Bs, 0, none⟩ = some (.int .i64 (sk : Int))) (hc1 : w.cell? ⟨Bs, 1, none⟩ = some (.slice a ws.length c)) (hw : WordsAt w ws a) (hT : BT w) :
 SeqStopsK Fence.wide n Tryz.prog 48 #[.pointer (some ⟨Bs, 0, none⟩)] (fun x : {x : Nat // x ∈ memL sk ws} => #[pV x.1]) Kp (fun ys => ys.map (·.1) = memL sk ws) (fun _ => True) (memL sk ws).length w := fun l J Jx W hW hJ _ hY h0 => by
 refine (all1_in n hn l Bs sk ws a c hN hlt Kp hKp (fun pre W => ∃ pre' : List {x : Nat // x ∈ memL sk ws}, pre'.map (·.1) = pre ∧ J pre' W) (fun pre W => ∃ pre' : List {x : Nat // x ∈ memL sk ws}, pre'.map (·.1) = pre ∧ Jx pre' W) ?_ (fun pre W ⟨pre', e, h⟩ => ⟨pre', e, hJ pre' W W.drew none h ⟨rfl, rfl, rfl, Nat.le_refl _, fun _ _ _ => rfl⟩ (fun r e => by cases e)⟩) W ((hW.cell (p := ⟨Bs, 0, none⟩) hBs).trans hc0) ((hW.cell (p := ⟨Bs, 1, none⟩) hBs).trans hc1) (hw.kept hW) (hT.kept hW) ⟨[], rfl, h0⟩).mono ?_
 · rintro pre x W' hx ⟨pre', e, h⟩ hlen
   obtain ⟨fn, tmps, assign, body, hy, hR⟩ := hY pre' ⟨x, hx⟩ W' h (by rw [← List.length_map (·.1), e]; exact hlen)
   refine ⟨fn, tmps, assign, body, hy, hR.mono ?_⟩
   rintro en W2 (⟨he, h2, h3⟩ | ⟨he, h2⟩)
   · exact .inl ⟨he, ⟨_, by rw [List.map_append, e]; rfl, h2⟩, h3⟩
   · exact .inr ⟨he, ⟨_, by rw [List.map_append, e]; rfl, h2⟩⟩
 · rintro en W' ⟨hv, h⟩
   refine ⟨hv, ?_⟩
   rcases h with ⟨ys, hys, pre', e, h⟩ | ⟨pre, _, pre', _, h⟩
   · exact .inl ⟨pre', e.trans hys, h⟩
   · exact .inr ⟨pre', trivial, h⟩
end Go.Proofs.YtcimhpdpfckgiaaGreatDoor.kit
namespace Go.Proofs.YtcimhpdpfckgiaaGreatDoor.kit
open Go.ChangeShapes Go.WideShapes Go.ChangeAt Go.RowKit
theorem OwnW.of_block {B : Nat} {w w' : World} {v : Value} {xs : List Nat} (h : OwnW B w v xs) (hb : ∀ k, v.ownBlock = some k → w'.heap[k]? = w.heap[k]?) : OwnW B w' v xs := by
 obtain ⟨h1, h2⟩ := h
 refine ⟨h1, ?_⟩
 rcases h2 with h2 | ⟨g, cap, cur, hv, hg, hh, r⟩
 · exact .inl h2
 · exact .inr ⟨g, cap, cur, hv, hg, (hb g (by rw [hv]; rfl)).trans hh, r⟩
theorem SetAt.keep {B q o sk : Nat} {ws : List Nat} {r : Option Nat} {w w' : World} (h : SetAt B q o sk ws r w) (hq : w'.heap[q]? = w.heap[q]?) (hr : ∀ k, r = some k → w'.heap[k]? = w.heap[k]?) : SetAt B q o sk ws r w' := by
 obtain ⟨a, c, h1, ho, he⟩ := h.c1
 exact ⟨(cob (a := ⟨q, o, none⟩) hq).trans h.c0, ⟨a, c, (cob (a := ⟨q, o + 1, none⟩) hq).trans h1, ho.of_block (fun k hk => hr k (he.symm.trans hk)), he⟩, (World.frozen?_of_block (a := ⟨q, o, none⟩) hq).trans h.f0, (World.frozen?_of_block (a := ⟨q, o + 1, none⟩) hq).trans h.f1, h.ne⟩
theorem SetAt.keep2 {B q o sk : Nat} {ws : List Nat} {r : Option Nat} {w w' : World} (h : SetAt B q o sk ws r w) (hc : ∀ j, j = o ∨ j = o + 1 → w'.cell? ⟨q, j, none⟩ = w.cell? ⟨q, j, none⟩) (hf : ∀ j, w'.frozen? ⟨q, j, none⟩ = w.frozen? ⟨q, j, none⟩) (hr : ∀ k, r = some k → w'.heap[k]? = w.heap[k]?) : SetAt B q o sk ws r w' := by
 obtain ⟨a, c, h1, ho, he⟩ := h.c1
 exact ⟨(hc o (.inl rfl)).trans h.c0, ⟨a, c, (hc (o + 1) (.inr rfl)).trans h1, ho.of_block (fun k hk => hr k (he.symm.trans hk)), he⟩, (hf o).trans h.f0, (hf (o + 1)).trans h.f1, h.ne⟩
structure PartChg (p : Nat) (R : Nat → Prop) (w w' : World) : Prop where
 os : w'.os = w.os
 tape : w'.tape = w.tape
 output : w'.output = w.output
 size : w.heap.size ≤ w'.heap.size
 block : ∀ k, k < w.heap.size → k ≠ p → ¬ R k → w'.heap[k]? = w.heap[k]?
 cell : ∀ j, j < 2 ∨ 5 < j → w'.cell? ⟨p, j, none⟩ = w.cell? ⟨p, j, none⟩
 frozen : ∀ j, w'.frozen? ⟨p, j, none⟩ = w.frozen? ⟨p, j, none⟩
theorem PartChg.of_below {p : Nat} {R : Nat → Prop} {w w' : World} (hp : p < w.heap.size) (hb : Below w.heap.size w w') : PartChg p R w w' :=
 ⟨hb.os, hb.tape, hb.output, hb.size, fun k hk _ _ => hb.block k hk, fun j _ => hb.cell (p := ⟨p, j, none⟩) hp, fun j => hb.frozen (p := ⟨p, j, none⟩) hp⟩
theorem PartChg.of_set {p o : Nat} {r r' : Option Nat} {R : Nat → Prop} {w w' : World} (h : SetChg p o r r' w w') (ho : o = 2 ∨ o = 4) (hR : ∀ k, r = some k → R k) : PartChg p R w w' :=
 ⟨h.os, h.tape, h.output, h.size, fun k hk h1 h2 => h.block k hk h1 (fun e => h2 (hR k e.symm)), fun j hj => h.cell j (by omega) (by omega), h.frozen⟩
theorem PartChg.trans {p : Nat} {R R2 : Nat → Prop} {w w1 w2 : World} (h : PartChg p R w w1) (h' : PartChg p R2 w1 w2) (hR : ∀ k, R2 k → R k ∨ w.heap.size ≤ k) : PartChg p R w w2 :=
 ⟨h'.os.trans h.os, h'.tape.trans h.tape, h'.output.trans h.output, Nat.le_trans h.size h'.size,
   fun k hk h1 h2 => (h'.block k (Nat.lt_of_lt_of_le hk h.size) h1 (fun e => (hR k e).elim h2 (fun x => by omega))).trans (h.block k hk h1 h2),
   fun j hj => (h'.cell j hj).trans (h.cell j hj), fun j => (h'.frozen j).trans (h.frozen j)⟩
set_option maxRecDepth 100000 in
set_option maxHeartbeats 400000 in
theorem waits_any (B p sk : Nat) (ws : List Nat) (r : Option Nat) (w : World) (h : SetAt B p 2 sk ws r w) (hl : ws.length ≤ 1048576) :
 Calls Tryz.prog 94 #[.pointer (some ⟨p, 0, none⟩)] w fun e w' => e = .returned (.bool (!decide (ws.length = 0))) ∧ Below w.heap.size w w' := by
 obtain ⟨a, c, h1, _, _⟩ := h.c1
 have h0 := h.c0
 obtain ⟨n, hn⟩ : ∃ n, n = ws.length := ⟨_, rfl⟩
 rw [← hn] at h1 hl ⊢
 have HC := qd (setEmpty_any sk a n c w hl)
 clear hn h
 go_enter Tryz.func94, Tryz.ntmps94
 go_wp2_with fail
 refine HC.out.mono ?_
 rintro en w1 ⟨rfl, hb⟩
 go_wp2_with fail
 go_ret
 exact ⟨rfl, hb⟩
theorem SetAt.reset {B q o sk : Nat} {ws : List Nat} {r : Option Nat} {w : World} (h : SetAt B q o sk ws r w) :
 SetAt B q o 0 [] none ((w.setCell ⟨q, o, none⟩ (.int .i64 0)).setCell ⟨q, o + 1, none⟩ (.slice none 0 0)) ∧ SetChg q o r none w ((w.setCell ⟨q, o, none⟩ (.int .i64 0)).setCell ⟨q, o + 1, none⟩ (.slice none 0 0)) := by
 have h1 := h.put0 0
 have h2 := h1.1.put1 [] none 0 0 rfl (World.ownsRow_nil _ _ _ _) (by simp [Value.ownBlock]) (fun k hk => by simp [Value.ownBlock] at hk)
 exact ⟨h2.1, h1.2.trans h2.2⟩
theorem SetAt.words {B q o sk : Nat} {ws : List Nat} {r : Option Nat} {w : World} (h : SetAt B q o sk ws r w) : ∃ a c, w.cell? ⟨q, o + 1, none⟩ = some (.slice a ws.length c) ∧ WordsAt w ws a ∧ ∀ x, a = some x → r = some x.block := by
 obtain ⟨a, c, h1, ho, hr⟩ := h.c1
 obtain ⟨a', c', e, hw⟩ := ho.at
 rw [Value.slice.injEq] at e
 obtain ⟨rfl, _, rfl⟩ := e
 exact ⟨a, c, h1, hw, fun x hx => by rw [← hr, hx]; rfl⟩
def AwaitPost (B p : Nat) (r : Option Nat) (N : Nat) (M : Nat → Prop) (w : World) (e : Ending) (w' : World) : Prop :=
 (∃ v, e = .returned v) ∧ ∃ sk' ws' r', SetAt B p 2 sk' ws' r' w' ∧ SetB N sk' ws' ∧ (∀ j, memS sk' ws' j ↔ M j) ∧ SetChg p 2 r r' w w'
set_option maxRecDepth 100000 in
set_option maxHeartbeats 1000000 in
theorem await_any (B p sk : Nat) (ws : List Nat) (r : Option Nat) (sk2 : Nat) (ws2 : List Nat) (r2 : Option Nat) (N sk3 : Nat) (ws3 : List Nat) (a3 : Option Addr) (c3 : Nat) (w : World) (h : SetAt B p 2 sk ws r w) (h2 : SetAt B p 4 sk2 ws2 r2 w)
 (hb : SetB N sk ws) (hb2 : SetB N sk2 ws2) (hb3 : SetB N sk3 ws3) (hN : N ≤ 1048576) (hB : B ≤ w.heap.size) (hw : WordsAt w ws3 a3) :
 Calls Tryz.prog 89 #[.pointer (some ⟨p, 0, none⟩), setV sk3 a3 ws3.length c3] w (AwaitPost B p r N (fun j => memS sk ws j ∨ (memS sk3 ws3 j ∧ ¬ memS sk2 ws2 j)) w) := by
 obtain ⟨a2, c2, d1, hw2, ha2⟩ := h2.words
 have d0 := h2.c0
 obtain ⟨n2, hn2⟩ : ∃ n2, n2 = ws2.length := ⟨_, rfl⟩
 obtain ⟨n3, hn3⟩ : ∃ n3, n3 = ws3.length := ⟨_, rfl⟩
 have HC := qd (fun (W : World) (hW : Below w.heap.size w W) => without_any N sk3 ws3 a3 c3 sk2 ws2 a2 c2 W hN hb3 (hw.kept hW) hb2 (hw2.kept hW))
 rw [← hn2, ← hn3] at HC
 rw [← hn2] at d1
 rw [← hn3]
 have HBX := qd (show ∀ o, Below w.heap.size w (w.alloc o) from fun o => (Below.refl _ w).alloc (Nat.le_refl _) o)
 have hp := h.lt
 have HS := qd h
 have HSB := qd hb
 have HB := qd hB
 have HJ := qd (fun (sk4 : Nat) (ws4 : List Nat) (a4 : Option Addr) (c4 : Nat) (W : World) (hbw : Below w.heap.size w W) (s4 : SetB N sk4 ws4) (v4 : WordsAt W ws4 a4) (l4 : ∀ x, a4 = some x → w.heap.size ≤ x.block) => join_any B p 2 sk ws r N sk4 ws4 a4 c4 W (h.kept hbw) hb s4 hN v4 (fun x hx => ⟨fun e => by have := l4 x hx; omega, fun e => by have := l4 x hx; have := h.rlt _ e; omega⟩) (Nat.le_trans hB hbw.size))
 clear h h2 hb hb2 hb3 hw hw2 ha2 hn2 hn3 hB
 unfold setV
 go_enter Tryz.func89, Tryz.ntmps89
 go_wp2_with fail
 go_region_with (first | (go_at_call 96; refine (HC.out _ (HBX.out _).drew).mono ?_; rintro e w1 ⟨sk4, ws4, a4, c4, rfl, b4, s4, v4, l4, m4⟩; have B4 := qd ((HBX.out _).drew.trans (b4.mono (by simp))); have S4 := qd s4; have V4 := qd v4; have L4 := qd (show ∀ x, a4 = some x → w.heap.size ≤ x.block from fun x hx => Nat.le_trans (by simp) (l4 x hx)); have M4 := qd m4; clear b4 s4 v4 l4 m4; unfold setV) | (go_at_call 95; refine (HJ.out sk4 ws4 a4 c4 _ B4.out S4.out V4.out L4.out).mono ?_; rintro e w5 ⟨⟨_, rfl⟩, sk5, ws5, r5, h5, k5, b5, m5⟩))
 all_goals
  have P5 := qd (SetChg.trans (.of_below (o := 2) (r := r) hp B4.out) k5)
  have H5 := qd h5
  have S5 := qd b5
  have M5 := qd m5
  clear h5 k5 b5 m5
  go_wp2_with fail
  go_end0
  exact ⟨⟨_, rfl⟩, sk5, ws5, r5, H5.out, S5.out, fun j => by rw [M5.out, M4.out], P5.out⟩
end Go.Proofs.YtcimhpdpfckgiaaGreatDoor.kit
namespace Go.Proofs.YtcimhpdpfckgiaaGreatDoor.kit
open Go.ChangeShapes Go.WideShapes Go.ChangeAt Go.RowKit
def BeginPost (B p sk : Nat) (ws : List Nat) (r r2 : Option Nat) (N : Nat) (M : Nat → Prop) (w : World) (e : Ending) (w' : World) : Prop :=
 ∃ a c, e = .returned (setV sk a ws.length c) ∧ WordsAt w' ws a ∧ (∀ x, a = some x → r = some x.block) ∧ SetAt B p 2 0 [] none w' ∧
   ∃ sk' ws' r', SetAt B p 4 sk' ws' r' w' ∧ SetB N sk' ws' ∧ (∀ j, memS sk' ws' j ↔ M j) ∧ (∀ k, r' = some k → r2 = some k ∨ w.heap.size ≤ k) ∧ PartChg p (fun k => r2 = some k) w w'
theorem BeginPost.of {B p sk : Nat} {ws : List Nat} {r r2 : Option Nat} {N : Nat} {M : Nat → Prop} {w w' : World} {e : Ending} (a : Option Addr) (c : Nat) (h1 : e = .returned (setV sk a ws.length c)) (h2 : WordsAt w' ws a) (h3 : ∀ x, a = some x → r = some x.block) (h4 : SetAt B p 2 0 [] none w') (sk' : Nat) (ws' : List Nat) (r' : Option Nat)
 (h5 : SetAt B p 4 sk' ws' r' w') (h6 : SetB N sk' ws') (h7 : ∀ j, memS sk' ws' j ↔ M j) (h8 : ∀ k, r' = some k → r2 = some k ∨ w.heap.size ≤ k) (h9 : PartChg p (fun k => r2 = some k) w w') : BeginPost B p sk ws r r2 N M w e w' :=
 ⟨a, c, h1, h2, h3, h4, sk', ws', r', h5, h6, h7, h8, h9⟩
theorem WordsAt.put {w : World} {ws : List Nat} {a : Option Addr} (h : WordsAt w ws a) (q o : Nat) (u : Value) (hne : ∀ x, a = some x → x.block ≠ q) : WordsAt (w.setCell ⟨q, o, none⟩ u) ws a := h.set ⟨q, o, none⟩ u hne
theorem PartChg.put {p : Nat} {R : Nat → Prop} {w w' : World} (h : PartChg p R w w') {g : Nat} (hg : w.heap.size ≤ g) (hp : g ≠ p) (o : Nat) (u : Value) : PartChg p R w (w'.setCell ⟨g, o, none⟩ u) :=
 ⟨h.os, h.tape, h.output, by rw [World.size_setCell]; exact h.size, fun k hk h1 h2 => (Below.heap_setCell _ _ _ _ (show k ≠ g by omega)).trans (h.block k hk h1 h2),
   fun j hj => (World.cell?_setCell_other _ _ _ _ (by intro e; injection e; omega)).trans (h.cell j hj), fun j => (World.frozen?_setCell _ _ _ _).trans (h.frozen j)⟩
set_option maxRecDepth 100000 in
set_option maxHeartbeats 1000000 in
theorem begin_any (B p sk : Nat) (ws : List Nat) (r : Option Nat) (sk2 : Nat) (ws2 : List Nat) (r2 : Option Nat) (N : Nat) (w : World) (h : SetAt B p 2 sk ws r w) (h2 : SetAt B p 4 sk2 ws2 r2 w)
 (hb : SetB N sk ws) (hb2 : SetB N sk2 ws2) (hN : N ≤ 1048576) (hB : B ≤ w.heap.size) (hd : ∀ k, r = some k → r2 ≠ some k) :
 Calls Tryz.prog 90 #[.pointer (some ⟨p, 0, none⟩)] w (BeginPost B p sk ws r r2 N (fun j => memS sk2 ws2 j ∨ memS sk ws j) w) := by
 obtain ⟨a, c, d1, hw, ha⟩ := h.words
 have d0 := h.c0
 have f0 := h.f0
 have f1 := h.f1
 have hp := h.lt
 have hap : ∀ x, a = some x → x.block ≠ p := fun x hx e => h.ne (by rw [ha x hx, e])
 have hal : ∀ x, a = some x → x.block < w.heap.size := fun x hx => (h.rlt _ (ha x hx)).2
 obtain ⟨n, hn⟩ : ∃ n, n = ws.length := ⟨_, rfl⟩
 have HN := qd hn
 obtain ⟨wz, hwz⟩ : ∃ wz, wz = (w.setCell ⟨p, 2, none⟩ (.int .i64 0)).setCell ⟨p, 3, none⟩ (.slice none 0 0) := ⟨_, rfl⟩
 have hz : wz.heap.size = w.heap.size := by rw [hwz, World.size_setCell, World.size_setCell]
 have hr : SetAt B p 2 0 [] none wz ∧ SetChg p 2 r none w wz := by rw [hwz]; exact h.reset
 have hbegz : SetAt B p 4 sk2 ws2 r2 wz := h2.keep2 (fun j hj => hr.2.cell j (by omega) (by omega)) hr.2.frozen (fun k hk => hr.2.block k (h2.rlt k hk).2 (fun e => h2.ne (by rw [hk, e])) (fun e => hd k e.symm hk))
 have hwz' : WordsAt wz ws a := by rw [hwz]; exact (hw.put p 2 _ hap).put p 3 _ hap
 obtain ⟨w3, hw3⟩ : ∃ w3, w3 = (wz.alloc (.cells #[.int .i64 0, .slice none 0 0] 68)).alloc (.cells #[.int .i64 (sk : Int), .slice a n c] 68) := ⟨_, rfl⟩
 have hb3 : Below wz.heap.size wz w3 := by rw [hw3]; exact ((Below.refl _ wz).alloc (Nat.le_refl _) _).alloc (by simp) _
 have hz3 : w3.heap.size = w.heap.size + 2 := by rw [hw3, World.size_alloc, World.size_alloc, hz]
 have hr' : SetAt B p 2 0 [] none w3 := hr.1.kept hb3
 have hbeg := hbegz.kept hb3
 have hw3' := hwz'.kept hb3
 have y0 : ∀ j, w3.cell? ⟨w.heap.size, j, none⟩ = #[Value.int .i64 0, .slice none 0 0][j]? := fun j => by
  rw [hw3, World.cell?_alloc_past _ _ _ (by simp [hz]), World.cell?_alloc_at _ _ _ _ hz.symm]
 have y1 : ∀ j, w3.cell? ⟨w.heap.size + 1, j, none⟩ = #[Value.int .i64 (sk : Int), .slice a n c][j]? := fun j => by
  rw [hw3, World.cell?_alloc_at _ _ _ _ (by simp [hz])]
 have g0 : ∀ j, w3.frozen? ⟨w.heap.size, j, none⟩ = false := fun j => by
  rw [hw3, World.frozen?_alloc_past _ _ _ (by simp [hz]), World.frozen?_alloc_at _ _ _ _ hz.symm]
 have hpz : PartChg p (fun k => r2 = some k) w wz := by
  rw [hwz]
  exact ⟨rfl, rfl, rfl, by simp [World.setCell], fun k _ h1 _ => (Below.heap_setCell _ _ _ _ h1).trans (Below.heap_setCell _ _ _ _ h1), fun j hj => by rw [World.cell?_setCell_other _ _ _ _ (by intro e; injection e; omega), World.cell?_setCell_other _ _ _ _ (by intro e; injection e; omega)], fun j => by rw [World.frozen?_setCell, World.frozen?_setCell]⟩
 have hpc : PartChg p (fun k => r2 = some k) w w3 := hpz.trans (R2 := fun _ => False) (.of_below (by rw [hz]; exact hp) hb3) (fun k hk => hk.elim)
 have HJ := qd (fun (W : World) (hW : Below w3.heap.size w3 W) => join_any B p 4 sk2 ws2 r2 N sk ws a c W (hbeg.kept hW) hb2 hb hN (hw3'.kept hW) (fun x hx => ⟨hap x hx, fun e => hd _ (ha x hx) e⟩) (Nat.le_trans (Nat.le_trans hB (by rw [hz3]; omega)) hW.size))
 rw [← hn] at HJ d1
 have H3 := qd (show w3 = ((((w.setCell ⟨p, 2, none⟩ (.int .i64 0)).setCell ⟨p, 3, none⟩ (.slice none 0 0)).alloc (.cells #[.int .i64 0, .slice none 0 0] 68)).alloc (.cells #[.int .i64 (sk : Int), .slice a n c] 68)) by rw [hw3, hwz])
 have HW3 := qd hw3'
 have HR := qd hr'
 have HY0 := qd y0
 have HY1 := qd y1
 have HG0 := qd g0
 have HZ3 := qd hz3
 have HPC := qd hpc
 have HA := qd ha
 have HAP := qd hap
 have HAL := qd hal
 have HNE2 := qd h2.ne
 have HR2 := qd (fun k hk => (h2.rlt k hk).2)
 have HD := qd hd
 have HPL := qd (show p < w.heap.size from hp)
 have z0 := y1 0
 have z1 := y1 1
 simp only [List.getElem?_toArray, List.getElem?_cons_succ, List.getElem?_cons_zero] at z0 z1
 clear h h2 hb hb2 hw ha hap hal hwz hz hw3 hr hbegz hwz' hb3 hr' hbeg hw3' hz3 y0 y1 g0 hpz hpc hd hn
 unfold setV at HJ
 go_enter Tryz.func90, Tryz.ntmps90
 go_wp2_with fail
 rw [← H3.out]
 go_still_tail 4, (by kernel_rfl)
 change wpList _ _ _ _ _ w3.drew
 go_wp2_with fail
 refine (HJ.out _ (Below.refl _ w3).drew).mono ?_
 rintro en w5 ⟨⟨_, rfl⟩, sk5, ws5, r5, h5, k5, b5, m5⟩
 have K5 := qd (SetChg.trans (.of_below (o := 4) (r := r2) (by rw [HZ3.out]; have := HPL.out; omega) (Below.refl _ w3).drew) k5)
 have hK : ∀ k, w.heap.size ≤ k → k < w.heap.size + 2 → w5.heap[k]? = w3.heap[k]? := fun k h1 h2 => K5.out.block k (by rw [HZ3.out]; exact h2) (by have := HPL.out; omega) (fun e => by have := HR2.out k e.symm; omega)
 have t0 := (cob (a := ⟨w.heap.size, 0, none⟩) (hK w.heap.size (Nat.le_refl _) (by omega))).trans (HY0.out 0)
 have t1 := (cob (a := ⟨w.heap.size, 1, none⟩) (hK w.heap.size (Nat.le_refl _) (by omega))).trans (HY0.out 1)
 have u0 := (World.frozen?_of_block (a := ⟨w.heap.size, 0, none⟩) (hK w.heap.size (Nat.le_refl _) (by omega))).trans (HG0.out 0)
 have u1 := (World.frozen?_of_block (a := ⟨w.heap.size, 1, none⟩) (hK w.heap.size (Nat.le_refl _) (by omega))).trans (HG0.out 1)
 have x0 := (cob (a := ⟨w.heap.size + 1, 0, none⟩) (hK (w.heap.size + 1) (by omega) (by omega))).trans (HY1.out 0)
 have x1 := (cob (a := ⟨w.heap.size + 1, 1, none⟩) (hK (w.heap.size + 1) (by omega) (by omega))).trans (HY1.out 1)
 simp only [List.getElem?_toArray, List.getElem?_cons_succ, List.getElem?_cons_zero] at t0 t1 x0 x1
 have H5 := qd h5
 have S5 := qd b5
 have M5 := qd m5
 clear h5 k5 b5 m5 hK z0 z1
 go_wp2_with fail
 obtain ⟨y0, y1⟩ := two_put w5 w.heap.size t0 t1 (.int .i64 (sk : Int)) (.slice a n c)
 have hR5 : ∀ k, r5 = some k → r2 = some k ∨ w.heap.size + 2 ≤ k := fun k hk => (K5.out.row k hk).imp id (fun x => by rw [HZ3.out] at x; exact x)
 have hne5 : ∀ k, r5 = some k → k ≠ w.heap.size := fun k hk => by
  rcases hR5 k hk with x | x
  · have := HR2.out k x; omega
  · omega
 refine bodyPost_ret (v := .agg #[.int .i64 (sk : Int), .slice a n c]) (by simp [results, Tryz.results90, go_sem, y0, y1]) rfl (BeginPost.of a c (by rw [← HN.out]; rfl) ?_ HA.out ?_ sk5 ws5 r5 ?_ S5.out (fun j => by rw [M5.out]) (fun k hk => (hR5 k hk).imp id (fun x => by omega)) ?_)
 · exact (((HW3.out.kept (Below.refl _ w3)).chg K5.out (fun x hx => ⟨HAP.out x hx, fun e => HD.out _ (HA.out x hx) e⟩)).put _ _ _ (fun x hx => by have := HAL.out x hx; omega)).put _ _ _ (fun x hx => by have := HAL.out x hx; omega)
 · have h1 : SetAt B p 2 0 [] none w5 := HR.out.keep2 (fun j hj => K5.out.cell j (by omega) (by omega)) K5.out.frozen (fun k hk => by cases hk)
   exact h1.keep ((Below.heap_setCell _ _ _ _ (by have := HPL.out; show p ≠ w.heap.size; omega)).trans (Below.heap_setCell _ _ _ _ (by have := HPL.out; show p ≠ w.heap.size; omega))) (fun k hk => by cases hk)
 · exact H5.out.keep ((Below.heap_setCell _ _ _ _ (by have := HPL.out; show p ≠ w.heap.size; omega)).trans (Below.heap_setCell _ _ _ _ (by have := HPL.out; show p ≠ w.heap.size; omega))) (fun k hk => (Below.heap_setCell _ _ _ _ (hne5 k hk)).trans (Below.heap_setCell _ _ _ _ (hne5 k hk)))
 · exact ((HPC.out.trans (.of_set K5.out (.inr rfl) (fun k hk => hk)) (fun k hk => .inl hk)).put (Nat.le_refl _) (by have := HPL.out; omega) _ _).put (Nat.le_refl _) (by have := HPL.out; omega) _ _
end Go.Proofs.YtcimhpdpfckgiaaGreatDoor.kit
namespace Go.Proofs.YtcimhpdpfckgiaaGreatDoor.kit
open Go.ChangeShapes Go.WideShapes Go.ChangeAt Go.RowKit
def PartT (T : TypeId) : Prop := T = 87 ∨ T = 113 ∨ T = 129
def partV (T : TypeId) (p : Nat) : Value := .iface T (.pointer (some ⟨p, 0, none⟩))
theorem me_await (p : Nat) (w : World) : (method 276 87 (.pointer (some ⟨p, 0, none⟩)) "loop.example/g00560/impl.await").run Tryz.prog w = .ok (89, .pointer (some ⟨p, 0, none⟩)) w := by kernel_rfl
theorem mb_await (p : Nat) (w : World) : (method 276 113 (.pointer (some ⟨p, 0, none⟩)) "loop.example/g00560/impl.await").run Tryz.prog w = .ok (89, .pointer (some ⟨p, 0, none⟩)) w := by kernel_rfl
theorem mm_await (p : Nat) (w : World) : (method 276 129 (.pointer (some ⟨p, 0, none⟩)) "loop.example/g00560/impl.await").run Tryz.prog w = .ok (89, .pointer (some ⟨p, 0, none⟩)) w := by kernel_rfl
theorem meth_await {T : TypeId} (h : PartT T) (p : Nat) (w : World) : (method 276 T (.pointer (some ⟨p, 0, none⟩)) "loop.example/g00560/impl.await").run Tryz.prog w = .ok (89, .pointer (some ⟨p, 0, none⟩)) w := by
 rcases h with rfl | rfl | rfl
 · exact me_await p w
 · exact mb_await p w
 · exact mm_await p w
theorem me_begin (p : Nat) (w : World) : (method 276 87 (.pointer (some ⟨p, 0, none⟩)) "loop.example/g00560/impl.begin").run Tryz.prog w = .ok (90, .pointer (some ⟨p, 0, none⟩)) w := by kernel_rfl
theorem mb_begin (p : Nat) (w : World) : (method 276 113 (.pointer (some ⟨p, 0, none⟩)) "loop.example/g00560/impl.begin").run Tryz.prog w = .ok (90, .pointer (some ⟨p, 0, none⟩)) w := by kernel_rfl
theorem mm_begin (p : Nat) (w : World) : (method 276 129 (.pointer (some ⟨p, 0, none⟩)) "loop.example/g00560/impl.begin").run Tryz.prog w = .ok (90, .pointer (some ⟨p, 0, none⟩)) w := by kernel_rfl
theorem meth_begin {T : TypeId} (h : PartT T) (p : Nat) (w : World) : (method 276 T (.pointer (some ⟨p, 0, none⟩)) "loop.example/g00560/impl.begin").run Tryz.prog w = .ok (90, .pointer (some ⟨p, 0, none⟩)) w := by
 rcases h with rfl | rfl | rfl
 · exact me_begin p w
 · exact mb_begin p w
 · exact mm_begin p w
theorem me_waits (p : Nat) (w : World) : (method 276 87 (.pointer (some ⟨p, 0, none⟩)) "loop.example/g00560/impl.waits").run Tryz.prog w = .ok (94, .pointer (some ⟨p, 0, none⟩)) w := by kernel_rfl
theorem mb_waits (p : Nat) (w : World) : (method 276 113 (.pointer (some ⟨p, 0, none⟩)) "loop.example/g00560/impl.waits").run Tryz.prog w = .ok (94, .pointer (some ⟨p, 0, none⟩)) w := by kernel_rfl
theorem mm_waits (p : Nat) (w : World) : (method 276 129 (.pointer (some ⟨p, 0, none⟩)) "loop.example/g00560/impl.waits").run Tryz.prog w = .ok (94, .pointer (some ⟨p, 0, none⟩)) w := by kernel_rfl
theorem meth_waits {T : TypeId} (h : PartT T) (p : Nat) (w : World) : (method 276 T (.pointer (some ⟨p, 0, none⟩)) "loop.example/g00560/impl.waits").run Tryz.prog w = .ok (94, .pointer (some ⟨p, 0, none⟩)) w := by
 rcases h with rfl | rfl | rfl
 · exact me_waits p w
 · exact mb_waits p w
 · exact mm_waits p w
theorem me_tell (p : Nat) (w : World) : (method 276 87 (.pointer (some ⟨p, 0, none⟩)) "loop.example/g00560/impl.tell").run Tryz.prog w = .ok (93, .pointer (some ⟨p, 0, none⟩)) w := by kernel_rfl
theorem mb_tell (p : Nat) (w : World) : (method 276 113 (.pointer (some ⟨p, 0, none⟩)) "loop.example/g00560/impl.tell").run Tryz.prog w = .ok (93, .pointer (some ⟨p, 0, none⟩)) w := by kernel_rfl
theorem mm_tell (p : Nat) (w : World) : (method 276 129 (.pointer (some ⟨p, 0, none⟩)) "loop.example/g00560/impl.tell").run Tryz.prog w = .ok (93, .pointer (some ⟨p, 0, none⟩)) w := by kernel_rfl
theorem meth_tell {T : TypeId} (h : PartT T) (p : Nat) (w : World) : (method 276 T (.pointer (some ⟨p, 0, none⟩)) "loop.example/g00560/impl.tell").run Tryz.prog w = .ok (93, .pointer (some ⟨p, 0, none⟩)) w := by
 rcases h with rfl | rfl | rfl
 · exact me_tell p w
 · exact mb_tell p w
 · exact mm_tell p w
theorem me_forget (p : Nat) (w : World) : (method 276 87 (.pointer (some ⟨p, 0, none⟩)) "loop.example/g00560/impl.forget").run Tryz.prog w = .ok (91, .pointer (some ⟨p, 0, none⟩)) w := by kernel_rfl
theorem mb_forget (p : Nat) (w : World) : (method 276 113 (.pointer (some ⟨p, 0, none⟩)) "loop.example/g00560/impl.forget").run Tryz.prog w = .ok (91, .pointer (some ⟨p, 0, none⟩)) w := by kernel_rfl
theorem mm_forget (p : Nat) (w : World) : (method 276 129 (.pointer (some ⟨p, 0, none⟩)) "loop.example/g00560/impl.forget").run Tryz.prog w = .ok (91, .pointer (some ⟨p, 0, none⟩)) w := by kernel_rfl
theorem meth_forget {T : TypeId} (h : PartT T) (p : Nat) (w : World) : (method 276 T (.pointer (some ⟨p, 0, none⟩)) "loop.example/g00560/impl.forget").run Tryz.prog w = .ok (91, .pointer (some ⟨p, 0, none⟩)) w := by
 rcases h with rfl | rfl | rfl
 · exact me_forget p w
 · exact mb_forget p w
 · exact mm_forget p w
theorem me_lead (p : Nat) (w : World) : (method 276 87 (.pointer (some ⟨p, 0, none⟩)) "loop.example/g00560/impl.lead").run Tryz.prog w = .ok (67, .pointer (some ⟨p, 0, none⟩)) w := by kernel_rfl
theorem mb_lead (p : Nat) (w : World) : (method 276 113 (.pointer (some ⟨p, 0, none⟩)) "loop.example/g00560/impl.lead").run Tryz.prog w = .ok (67, .pointer (some ⟨p, 0, none⟩)) w := by kernel_rfl
theorem mm_lead (p : Nat) (w : World) : (method 276 129 (.pointer (some ⟨p, 0, none⟩)) "loop.example/g00560/impl.lead").run Tryz.prog w = .ok (67, .pointer (some ⟨p, 0, none⟩)) w := by kernel_rfl
theorem meth_lead {T : TypeId} (h : PartT T) (p : Nat) (w : World) : (method 276 T (.pointer (some ⟨p, 0, none⟩)) "loop.example/g00560/impl.lead").run Tryz.prog w = .ok (67, .pointer (some ⟨p, 0, none⟩)) w := by
 rcases h with rfl | rfl | rfl
 · exact me_lead p w
 · exact mb_lead p w
 · exact mm_lead p w
theorem me_pass (p : Nat) (w : World) : (method 276 87 (.pointer (some ⟨p, 0, none⟩)) "loop.example/g00560/impl.pass").run Tryz.prog w = .ok (92, .pointer (some ⟨p, 0, none⟩)) w := by kernel_rfl
theorem mb_pass (p : Nat) (w : World) : (method 276 113 (.pointer (some ⟨p, 0, none⟩)) "loop.example/g00560/impl.pass").run Tryz.prog w = .ok (99, .pointer (some ⟨p, 0, none⟩)) w := by kernel_rfl
theorem mm_pass (p : Nat) (w : World) : (method 276 129 (.pointer (some ⟨p, 0, none⟩)) "loop.example/g00560/impl.pass").run Tryz.prog w = .ok (103, .pointer (some ⟨p, 0, none⟩)) w := by kernel_rfl
end Go.Proofs.YtcimhpdpfckgiaaGreatDoor.kit
namespace Go.Proofs.YtcimhpdpfckgiaaGreatDoor.kit
open Go.ChangeShapes Go.WideShapes Go.ChangeAt Go.RowKit
structure St where
 wsk : Nat → Nat
 wws : Nat → List Nat
 wr : Nat → Option Nat
 bsk : Nat → Nat
 bws : Nat → List Nat
 br : Nat → Option Nat
def St.waits (σ : St) (p j : Nat) : Prop := memS (σ.wsk p) (σ.wws p) j
def St.begun (σ : St) (p j : Nat) : Prop := memS (σ.bsk p) (σ.bws p) j
structure StOk (B N : Nat) (P : List Nat) (σ : St) (w : World) : Prop where
 fw : ∀ p ∈ P, SetAt B p 2 (σ.wsk p) (σ.wws p) (σ.wr p) w
 fb : ∀ p ∈ P, SetAt B p 4 (σ.bsk p) (σ.bws p) (σ.br p) w
 sw : ∀ p ∈ P, SetB N (σ.wsk p) (σ.wws p)
 sb : ∀ p ∈ P, SetB N (σ.bsk p) (σ.bws p)
 lt : ∀ p ∈ P, p < B
 dw : ∀ p ∈ P, ∀ q ∈ P, p ≠ q → ∀ k, σ.wr p = some k → σ.wr q ≠ some k
 db : ∀ p ∈ P, ∀ q ∈ P, p ≠ q → ∀ k, σ.br p = some k → σ.br q ≠ some k
 dx : ∀ p ∈ P, ∀ q ∈ P, ∀ k, σ.wr p = some k → σ.br q ≠ some k
def StRow (P : List Nat) (σ : St) (k : Nat) : Prop := ∃ p ∈ P, σ.wr p = some k ∨ σ.br p = some k
theorem StOk.row {B N : Nat} {P : List Nat} {σ : St} {w : World} (h : StOk B N P σ w) {k : Nat} (hk : StRow P σ k) : B ≤ k ∧ k < w.heap.size := by
 obtain ⟨p, hp, hk | hk⟩ := hk
 · exact (h.fw p hp).rlt k hk
 · exact (h.fb p hp).rlt k hk
theorem StOk.kept {B N : Nat} {P : List Nat} {σ : St} {w w' : World} (h : StOk B N P σ w) (hb : Below w.heap.size w w') : StOk B N P σ w' :=
 ⟨fun p hp => (h.fw p hp).kept hb, fun p hp => (h.fb p hp).kept hb, h.sw, h.sb, h.lt, h.dw, h.db, h.dx⟩
theorem StOk.keep {B N : Nat} {P : List Nat} {σ : St} {w w' : World} (h : StOk B N P σ w) (hp : ∀ p ∈ P, w'.heap[p]? = w.heap[p]?) (hr : ∀ k, StRow P σ k → w'.heap[k]? = w.heap[k]?) : StOk B N P σ w' :=
 ⟨fun p m => (h.fw p m).keep (hp p m) (fun k hk => hr k ⟨p, m, .inl hk⟩), fun p m => (h.fb p m).keep (hp p m) (fun k hk => hr k ⟨p, m, .inr hk⟩), h.sw, h.sb, h.lt, h.dw, h.db, h.dx⟩
structure StChg (P : List Nat) (σ σ' : St) (w w' : World) : Prop where
 os : w'.os = w.os
 tape : w'.tape = w.tape
 output : w'.output = w.output
 size : w.heap.size ≤ w'.heap.size
 block : ∀ k, k < w.heap.size → k ∉ P → ¬ StRow P σ k → w'.heap[k]? = w.heap[k]?
 cell : ∀ p ∈ P, ∀ j, j < 2 ∨ 5 < j → w'.cell? ⟨p, j, none⟩ = w.cell? ⟨p, j, none⟩
 frozen : ∀ p ∈ P, ∀ j, w'.frozen? ⟨p, j, none⟩ = w.frozen? ⟨p, j, none⟩
 row : ∀ k, StRow P σ' k → StRow P σ k ∨ w.heap.size ≤ k
theorem StChg.of_below {P : List Nat} {σ : St} {w w' : World} (hp : ∀ p ∈ P, p < w.heap.size) (hb : Below w.heap.size w w') : StChg P σ σ w w' :=
 ⟨hb.os, hb.tape, hb.output, hb.size, fun k hk _ _ => hb.block k hk, fun p m j _ => hb.cell (p := ⟨p, j, none⟩) (hp p m), fun p m j => hb.frozen (p := ⟨p, j, none⟩) (hp p m), fun k hk => .inl hk⟩
theorem StChg.trans {P : List Nat} {σ σ1 σ2 : St} {w w1 w2 : World} (h : StChg P σ σ1 w w1) (h' : StChg P σ1 σ2 w1 w2) : StChg P σ σ2 w w2 :=
 ⟨h'.os.trans h.os, h'.tape.trans h.tape, h'.output.trans h.output, Nat.le_trans h.size h'.size,
   fun k hk h1 h2 => (h'.block k (Nat.lt_of_lt_of_le hk h.size) h1 (fun e => (h.row k e).elim h2 (fun x => by omega))).trans (h.block k hk h1 h2),
   fun p m j hj => (h'.cell p m j hj).trans (h.cell p m j hj), fun p m j => (h'.frozen p m j).trans (h.frozen p m j),
   fun k hk => (h'.row k hk).elim (h.row k) (fun x => .inr (Nat.le_trans h.size x))⟩
def St.upd (σ : St) (p sk : Nat) (ws : List Nat) (r : Option Nat) (sk2 : Nat) (ws2 : List Nat) (r2 : Option Nat) : St where
 wsk := fun q => if q = p then sk else σ.wsk q
 wws := fun q => if q = p then ws else σ.wws q
 wr := fun q => if q = p then r else σ.wr q
 bsk := fun q => if q = p then sk2 else σ.bsk q
 bws := fun q => if q = p then ws2 else σ.bws q
 br := fun q => if q = p then r2 else σ.br q
theorem StOk.upd {B N : Nat} {P : List Nat} {σ : St} {w w' : World} (h : StOk B N P σ w) {p : Nat} (hp : p ∈ P) {R : Nat → Prop} (hc : PartChg p R w w') (hR : ∀ k, R k → σ.wr p = some k ∨ σ.br p = some k)
 {sk : Nat} {ws : List Nat} {r : Option Nat} {sk2 : Nat} {ws2 : List Nat} {r2 : Option Nat} (hw : SetAt B p 2 sk ws r w') (hb : SetAt B p 4 sk2 ws2 r2 w') (s1 : SetB N sk ws) (s2 : SetB N sk2 ws2)
 (hr : ∀ k, r = some k → σ.wr p = some k ∨ w.heap.size ≤ k) (hr2 : ∀ k, r2 = some k → σ.br p = some k ∨ w.heap.size ≤ k) (hd : ∀ k, r = some k → r2 ≠ some k) :
 StOk B N P (σ.upd p sk ws r sk2 ws2 r2) w' ∧ StChg P σ (σ.upd p sk ws r sk2 ws2 r2) w w' := by
 have hlw : ∀ q ∈ P, ∀ k, σ.wr q = some k → B ≤ k ∧ k < w.heap.size := fun q m k hk => (h.fw q m).rlt k hk
 have hlb : ∀ q ∈ P, ∀ k, σ.br q = some k → B ≤ k ∧ k < w.heap.size := fun q m k hk => (h.fb q m).rlt k hk
 have hpB := h.lt p hp
 have hqk : ∀ q ∈ P, q ≠ p → w'.heap[q]? = w.heap[q]? := fun q m hq => hc.block q ((h.fw q m).lt) hq (fun e => by
  have := h.lt q m
  rcases hR q e with x | x
  · have := hlw p hp q x; omega
  · have := hlb p hp q x; omega)
 have hwk : ∀ q ∈ P, q ≠ p → ∀ k, σ.wr q = some k → w'.heap[k]? = w.heap[k]? := fun q m hq k hk => hc.block k (hlw q m k hk).2 (fun e => by have := hlw q m k hk; omega) (fun e => by
  rcases hR k e with x | x
  · exact h.dw q m p hp hq k hk x
  · exact h.dx q m p hp k hk x)
 have hbk : ∀ q ∈ P, q ≠ p → ∀ k, σ.br q = some k → w'.heap[k]? = w.heap[k]? := fun q m hq k hk => hc.block k (hlb q m k hk).2 (fun e => by have := hlb q m k hk; omega) (fun e => by
  rcases hR k e with x | x
  · exact h.dx p hp q m k x hk
  · exact h.db q m p hp hq k hk x)
 refine ⟨⟨?_, ?_, ?_, ?_, h.lt, ?_, ?_, ?_⟩, ?_⟩
 · intro q m
   by_cases c : q = p
   · subst c; simpa [St.upd] using hw
   · simpa [St.upd, c] using (h.fw q m).keep (hqk q m c) (hwk q m c)
 · intro q m
   by_cases c : q = p
   · subst c; simpa [St.upd] using hb
   · simpa [St.upd, c] using (h.fb q m).keep (hqk q m c) (hbk q m c)
 · intro q m
   by_cases c : q = p
   · subst c; simpa [St.upd] using s1
   · simpa [St.upd, c] using h.sw q m
 · intro q m
   by_cases c : q = p
   · subst c; simpa [St.upd] using s2
   · simpa [St.upd, c] using h.sb q m
 · intro x mx y my hxy k hk
   by_cases c : x = p
   · subst c
     have cy : y ≠ x := fun e => hxy e.symm
     simp only [St.upd] at hk
     simp only [St.upd, if_neg cy]
     intro e
     rcases hr k hk with a | a
     · exact h.dw x mx y my hxy k a e
     · have := hlw y my k e; omega
   · simp only [St.upd, if_neg c] at hk
     by_cases d : y = p
     · subst d
       simp only [St.upd]
       intro e
       rcases hr k e with a | a
       · exact h.dw x mx y my hxy k hk a
       · have := hlw x mx k hk; omega
     · simp only [St.upd, if_neg d]
       exact h.dw x mx y my hxy k hk
 · intro x mx y my hxy k hk
   by_cases c : x = p
   · subst c
     have cy : y ≠ x := fun e => hxy e.symm
     simp only [St.upd] at hk
     simp only [St.upd, if_neg cy]
     intro e
     rcases hr2 k hk with a | a
     · exact h.db x mx y my hxy k a e
     · have := hlb y my k e; omega
   · simp only [St.upd, if_neg c] at hk
     by_cases d : y = p
     · subst d
       simp only [St.upd]
       intro e
       rcases hr2 k e with a | a
       · exact h.db x mx y my hxy k hk a
       · have := hlb x mx k hk; omega
     · simp only [St.upd, if_neg d]
       exact h.db x mx y my hxy k hk
 · intro x mx y my k hk
   by_cases c : x = p
   · subst c
     simp only [St.upd] at hk
     by_cases d : y = x
     · subst d
       simp only [St.upd]
       exact hd k hk
     · simp only [St.upd, if_neg d]
       intro e
       rcases hr k hk with a | a
       · exact h.dx x mx y my k a e
       · have := hlb y my k e; omega
   · simp only [St.upd, if_neg c] at hk
     by_cases d : y = p
     · subst d
       simp only [St.upd]
       intro e
       rcases hr2 k e with a | a
       · exact h.dx x mx y my k hk a
       · have := hlw x mx k hk; omega
     · simp only [St.upd, if_neg d]
       exact h.dx x mx y my k hk
 · refine ⟨hc.os, hc.tape, hc.output, hc.size, fun k hk h1 h2 => hc.block k hk (fun e => h1 (e ▸ hp)) (fun e => h2 ⟨p, hp, hR k e⟩), fun q m j hj => ?_, fun q m j => ?_, fun k hk => ?_⟩
   · by_cases c : q = p
     · subst c; exact hc.cell j hj
     · exact cob (a := ⟨q, j, none⟩) (hqk q m c)
   · by_cases c : q = p
     · subst c; exact hc.frozen j
     · exact World.frozen?_of_block (a := ⟨q, j, none⟩) (hqk q m c)
   · obtain ⟨q, m, hk⟩ := hk
     by_cases c : q = p
     · subst c
       simp only [St.upd] at hk
       rcases hk with hk | hk
       · exact (hr k hk).imp (fun x => ⟨q, m, .inl x⟩) id
       · exact (hr2 k hk).imp (fun x => ⟨q, m, .inr x⟩) id
     · simp only [St.upd, if_neg c] at hk
       exact .inl ⟨q, m, hk⟩
theorem St.upd_at (σ : St) (p sk : Nat) (ws : List Nat) (r : Option Nat) (sk2 : Nat) (ws2 : List Nat) (r2 : Option Nat) (j : Nat) : ((σ.upd p sk ws r sk2 ws2 r2).waits p j ↔ memS sk ws j) ∧ ((σ.upd p sk ws r sk2 ws2 r2).begun p j ↔ memS sk2 ws2 j) := by
 simp [St.waits, St.begun, St.upd]
theorem St.upd_off (σ : St) {p q : Nat} (h : q ≠ p) (sk : Nat) (ws : List Nat) (r : Option Nat) (sk2 : Nat) (ws2 : List Nat) (r2 : Option Nat) (j : Nat) : ((σ.upd p sk ws r sk2 ws2 r2).waits q j ↔ σ.waits q j) ∧ ((σ.upd p sk ws r sk2 ws2 r2).begun q j ↔ σ.begun q j) := by
 simp [St.waits, St.begun, St.upd, h]
end Go.Proofs.YtcimhpdpfckgiaaGreatDoor.kit
namespace Go.Proofs.YtcimhpdpfckgiaaGreatDoor.kit
open Go.ChangeShapes Go.WideShapes Go.ChangeAt Go.RowKit
def PartsAt (w : World) (T : Nat → TypeId) (ps : List Nat) (a : Option Addr) : Prop := ∀ i (h : i < ps.length), ∃ g, a = some ⟨g, 0, none⟩ ∧ w.cell? ⟨g, i, none⟩ = some (partV (T ps[i]) ps[i])
theorem PartsAt.keep {w w' : World} {T : Nat → TypeId} {ps : List Nat} {a : Option Addr} (h : PartsAt w T ps a) (hb : ∀ x, a = some x → w'.heap[x.block]? = w.heap[x.block]?) : PartsAt w' T ps a := fun i hi => by
 obtain ⟨g, e, h1⟩ := h i hi
 exact ⟨g, e, (cob (a := ⟨g, i, none⟩) (hb ⟨g, 0, none⟩ e)).trans h1⟩
theorem WordsAt.keepLt {w w' : World} {ws : List Nat} {a : Option Addr} (h : WordsAt w ws a) (hb : ∀ x, a = some x → x.block < w.heap.size → w'.heap[x.block]? = w.heap[x.block]?) : WordsAt w' ws a := by
 by_cases c : ws = []
 · subst c; exact fun j hj => by cases hj
 · obtain ⟨b, e, hl, _⟩ := h 0 (List.length_pos_iff.2 c)
   exact h.keep (fun x hx => hb x hx (by rw [e] at hx; cases hx; exact hl))
def WaitsPost (B N : Nat) (P : List Nat) (σ : St) (M : Nat → Nat → Prop) (w : World) (e : Ending) (w' : World) : Prop :=
 (∃ v, e = .returned v) ∧ ∃ σ', StOk B N P σ' w' ∧ StChg P σ σ' w w' ∧ (∀ q ∈ P, ∀ j, σ'.begun q j ↔ σ.begun q j) ∧ ∀ q ∈ P, ∀ j, σ'.waits q j ↔ M q j
theorem awaitP_any (B N : Nat) (P : List Nat) (σ : St) (p sk3 : Nat) (ws3 : List Nat) (a3 : Option Addr) (c3 : Nat) (w : World) (h : StOk B N P σ w) (hp : p ∈ P) (hb3 : SetB N sk3 ws3) (hN : N ≤ 1048576) (hB : B ≤ w.heap.size) (hw : WordsAt w ws3 a3) :
 Calls Tryz.prog 89 #[.pointer (some ⟨p, 0, none⟩), setV sk3 a3 ws3.length c3] w (WaitsPost B N P σ (fun q j => σ.waits q j ∨ (q = p ∧ memS sk3 ws3 j ∧ ¬ σ.begun q j)) w) := by
 refine (await_any B p (σ.wsk p) (σ.wws p) (σ.wr p) (σ.bsk p) (σ.bws p) (σ.br p) N sk3 ws3 a3 c3 w (h.fw p hp) (h.fb p hp) (h.sw p hp) (h.sb p hp) hb3 hN hB hw).mono ?_
 rintro e w' ⟨hv, sk', ws', r', h1, h2, h3, h4⟩
 have hlb := fun k hk => (h.fb p hp).rlt k hk
 have hk := (h.fb p hp).keep2 (fun j hj => h4.cell j (by omega) (by omega)) h4.frozen (fun k hk => h4.block k (hlb k hk).2 (fun e => (h.fb p hp).ne (by rw [hk, e])) (fun e => h.dx p hp p hp k e.symm hk))
 have hu := h.upd hp (PartChg.of_set (R := fun k => σ.wr p = some k) h4 (.inl rfl) (fun k hk => hk)) (fun k hk => .inl hk) h1 hk h2 (h.sb p hp) h4.row (fun k hk => .inl hk) (fun k hk e => by
  rcases h4.row k hk with x | x
  · exact h.dx p hp p hp k x e
  · have := hlb k e; omega)
 refine ⟨hv, _, hu.1, hu.2, fun q hq j => ?_, fun q hq j => ?_⟩
 · by_cases c : q = p
   · subst c; exact (σ.upd_at q sk' ws' r' _ _ _ j).2
   · exact (σ.upd_off c sk' ws' r' _ _ _ j).2
 · by_cases c : q = p
   · subst c
     rw [(σ.upd_at q sk' ws' r' _ _ _ j).1, h3]
     simp [St.waits, St.begun]
   · rw [(σ.upd_off c sk' ws' r' _ _ _ j).1]
     simp [c]
set_option maxRecDepth 100000 in
set_option maxHeartbeats 1000000 in
theorem tell_any (B N : Nat) (P : List Nat) (σ : St) (T : Nat → TypeId) (p : Nat) (qs : List Nat) (aq : Option Addr) (cq sk3 : Nat) (ws3 : List Nat) (a3 : Option Addr) (c3 : Nat) (w : World) (h : StOk B N P σ w) (hp : p ∈ P) (hqP : ∀ q ∈ qs, q ∈ P) (hT : ∀ q ∈ P, PartT (T q)) (hl : qs.length ≤ 1048576)
 (hbeh : w.cell? ⟨p, 6, none⟩ = some (.slice aq qs.length cq)) (hrow : PartsAt w T qs aq) (haq : ∀ x, aq = some x → x.block < B ∧ x.block ∉ P)
 (hb3 : SetB N sk3 ws3) (hN : N ≤ 1048576) (hB : B ≤ w.heap.size) (hw : WordsAt w ws3 a3) (ha3 : ∀ x, a3 = some x → x.block ∉ P ∧ ¬ StRow P σ x.block) :
 Calls Tryz.prog 93 #[.pointer (some ⟨p, 0, none⟩), setV sk3 a3 ws3.length c3] w (WaitsPost B N P σ (fun q j => σ.waits q j ∨ (q ∈ qs ∧ memS sk3 ws3 j ∧ ¬ σ.begun q j)) w) := by
 obtain ⟨n, hn⟩ : ∃ n, n = qs.length := ⟨_, rfl⟩
 obtain ⟨n3, hn3⟩ : ∃ n3, n3 = ws3.length := ⟨_, rfl⟩
 have HN := qd hn
 have HA := qd (fun (σ2 : St) (q : Nat) (W : World) (h2 : StOk B N P σ2 W) (hq : q ∈ P) (hB2 : B ≤ W.heap.size) (hw2 : WordsAt W ws3 a3) => awaitP_any B N P σ2 q sk3 ws3 a3 c3 W h2 hq hb3 hN hB2 hw2)
 rw [← hn3] at HA ⊢
 rw [← hn] at hbeh hl
 obtain ⟨w1, hw1⟩ : ∃ w1, w1 = w.alloc (.cells #[.int .i64 (sk3 : Int), .slice a3 n3 c3] 68) := ⟨_, rfl⟩
 have hb1 : Below w.heap.size w w1 := by rw [hw1]; exact (Below.refl _ w).alloc (Nat.le_refl _) _
 have hz1 : w1.heap.size = w.heap.size + 1 := by rw [hw1]; simp
 have x1 : ∀ j, w1.cell? ⟨w.heap.size, j, none⟩ = #[Value.int .i64 (sk3 : Int), .slice a3 n3 c3][j]? := fun j => by rw [hw1, World.cell?_alloc_at _ _ _ _ rfl]
 have hpl : ∀ q ∈ P, q < w.heap.size := fun q hq => (h.fw q hq).lt
 have H1 := qd (h.kept hb1)
 have C1 := qd (StChg.of_below (σ := σ) hpl hb1)
 have R1 := qd (hrow.keep (fun x hx => hb1.block _ (by have := (haq x hx).1; omega)))
 have W1 := qd (hw.kept hb1)
 have HX1 := qd x1
 have hbeh1 := (hb1.cell (p := ⟨p, 6, none⟩) (hpl p hp)).trans hbeh
 rw [hw1] at hbeh1
 have HW1 := qd hw1
 have HZ1 := qd hz1
 have HB := qd hB
 have HPL := qd hpl
 have HAQ := qd haq
 have HA3 := qd ha3
 have HQP := qd hqP
 have HT := qd hT
 have HROW := qd (fun k => h.row (k := k))
 have HRS := qd h.lt
 clear h hrow hw hw1 hb1 hz1 x1 hpl haq ha3 hqP hT hb3 hn hn3 hB hbeh
 unfold setV
 go_enter Tryz.func93, Tryz.ntmps93
 go_wp2_with fail
 rw [← HW1.out]
 go_loopw [11] (fun iv wr => ∃ (i : Nat) (σ' : St), iv = .int .i64 (i : Int) ∧ i ≤ n ∧ StOk B N P σ' wr ∧ StChg P σ σ' w1 wr ∧ (∀ q ∈ P, ∀ j, σ'.begun q j ↔ σ.begun q j) ∧ ∀ q ∈ P, ∀ j, σ'.waits q j ↔ σ.waits q j ∨ (q ∈ qs.take i ∧ memS sk3 ws3 j ∧ ¬ σ.begun q j)) (fun iv _ => n - (intOf iv).toNat)
 case atStart => exact ⟨0, σ, rfl, Nat.zero_le _, H1.out, .of_below (fun q hq => by rw [HZ1.out]; have := HPL.out q hq; omega) (Below.refl _ _), fun q hq j => Iff.rfl, fun q hq j => by simp⟩
 case round =>
  obtain ⟨i, σ', rfl, hi, h2, hc, hbg, hwt⟩ := hrel
  have H2 := qd h2
  have HC := qd hc
  have HBG := qd hbg
  have HWT := qd hwt
  have HBZ := qd (show B ≤ wr.heap.size from by have := hc.size; have := HZ1.out; have := HB.out; omega)
  clear h2 hc hbg hwt
  by_cases hlt : i < n
  · have hil : i < qs.length := by have := HN.out; omega
    have hRk : ∀ k, k ∉ P → ¬ StRow P σ k → k < w.heap.size + 1 → wr.heap[k]? = w1.heap[k]? := fun k h1 h2 h3 => HC.out.block k (by rw [HZ1.out]; exact h3) h1 h2
    have HR := qd (R1.out.keep (w' := wr) (fun x hx => HC.out.block _ (by rw [HZ1.out]; have := (HAQ.out x hx).1; have := HB.out; omega) (HAQ.out x hx).2 (fun hr => by have := HROW.out _ hr; have := (HAQ.out x hx).1; omega)))
    have HV := qd (W1.out.keepLt (w' := wr) (fun x hx hl => hRk _ (HA3.out x hx).1 (HA3.out x hx).2 (by rw [HZ1.out] at hl; exact hl)))
    have hbx := hRk w.heap.size (fun m => by have := HRS.out _ m; have := HB.out; omega) (fun hr => by have := HROW.out _ hr; omega) (by omega)
    have z0 := (cob (a := ⟨w.heap.size, 0, none⟩) hbx).trans (HX1.out 0)
    have z1 := (cob (a := ⟨w.heap.size, 1, none⟩) hbx).trans (HX1.out 1)
    simp only [List.getElem?_toArray, List.getElem?_cons_succ, List.getElem?_cons_zero] at z0 z1
    obtain ⟨g, hg, d0⟩ := HR.out i hil
    have hg' : aq = some ⟨g, 0, none⟩ := hg
    subst hg'
    have HQ := qd (HQP.out qs[i] (List.getElem_mem hil))
    have HTS := qd (List.take_succ_eq_append_getElem hil)
    have hme := fun W => meth_await (HT.out _ HQ.out) qs[i] W
    generalize qs[i] = q at *
    unfold partV at d0
    generalize T q = tq at *
    have j0 : (0 : Int) ≤ (i : Int) := by omega
    have j1 : (i : Int) < (n : Int) := by omega
    have hi8 : (i : Int) ≤ 1048576 := by omega
    have HI := qd (show i + 1 ≤ n by omega)
    clear hRk hbx hil hi hg
    go_wp2_with fail
    refine (HA.out σ' q _ H2.out HQ.out HBZ.out HV.out).mono ?_
    rintro en w5 ⟨⟨_, rfl⟩, σ5, h5, c5, b5, m5⟩
    have H5 := qd h5
    have C5 := qd (HC.out.trans c5)
    have B5 := qd b5
    have M5 := qd m5
    clear h5 c5 b5 m5
    go_wp2_with fail
    go_roundw
    case measure => simp [intOf]; have := HI.out; omega
    case rel =>
        refine ⟨i + 1, σ5, by go_num, HI.out, H5.out, C5.out, fun x hx j => (B5.out x hx j).trans (HBG.out x hx j), fun x hx j => ?_⟩
        rw [M5.out x hx j, HWT.out x hx j, HBG.out x hx j, HTS.out, List.mem_append, List.mem_singleton, or_assoc, ← or_and_right]
  · obtain rfl : i = n := by omega
    have HTK := qd (show qs.take i = qs from List.take_of_length_le (by have := HN.out; omega))
    go_wp2_with fail
    go_end0
    exact ⟨⟨_, rfl⟩, σ', H2.out, C1.out.trans HC.out, HBG.out, fun x hx j => by rw [HWT.out x hx j, HTK.out]⟩
end Go.Proofs.YtcimhpdpfckgiaaGreatDoor.kit
namespace Go.Proofs.YtcimhpdpfckgiaaGreatDoor.kit
open Go.ChangeShapes Go.WideShapes Go.ChangeAt Go.RowKit
def PassSet (N : Nat) (a0 : Option Addr) (M : Nat → Prop) (w : World) (e : Ending) (w' : World) : Prop :=
 ∃ sk ws a c, e = .returned (setV sk a ws.length c) ∧ Below w.heap.size w w' ∧ SetB N sk ws ∧ WordsAt w' ws a ∧ (∀ p, a = some p → a0 = some p ∨ w.heap.size ≤ p.block) ∧ ∀ j, memS sk ws j ↔ M j
theorem PassSet.of {N : Nat} {a0 : Option Addr} {M : Nat → Prop} {w w' : World} {e : Ending} (sk : Nat) (ws : List Nat) (a : Option Addr) (c : Nat) (he : e = .returned (setV sk a ws.length c)) (hb : Below w.heap.size w w') (hs : SetB N sk ws) (hw : WordsAt w' ws a) (hl : ∀ p, a = some p → a0 = some p ∨ w.heap.size ≤ p.block) (hm : ∀ j, memS sk ws j ↔ M j) : PassSet N a0 M w e w' := ⟨sk, ws, a, c, he, hb, hs, hw, hl, hm⟩
def emptyN (kind : Int) (L j : Nat) : Prop := (kind = 6 → j = 0) ∧ (kind = 7 → j = L)
set_option maxRecDepth 100000 in
set_option maxHeartbeats 1000000 in
theorem passE_any (N p : Nat) (kind : Int) (s : ByteArray) (sk : Nat) (ws : List Nat) (a : Option Addr) (c : Nat) (w : World) (hp : p < w.heap.size) (hs : w.cell? ⟨p, 0, none⟩ = some (.string s)) (hk : w.cell? ⟨p, 7, none⟩ = some (.int .i64 kind)) (hb : SetB N sk ws) (hN : N ≤ 1048576) (hL : s.size / 64 < N) (hw : WordsAt w ws a) :
 Calls Tryz.prog 92 #[.pointer (some ⟨p, 0, none⟩), setV sk a ws.length c] w (PassSet N a (fun j => memS sk ws j ∧ emptyN kind s.size j) w) := by
 obtain ⟨n, hn⟩ : ∃ n, n = ws.length := ⟨_, rfl⟩
 have HN := qd hn
 rw [← hn]
 obtain ⟨w1, hw1⟩ : ∃ w1, w1 = (w.alloc (.cells #[.int .i64 (sk : Int), .slice a n c] 68)).alloc (.cells #[.int .i64 0, .slice none 0 0] 68) := ⟨_, rfl⟩
 have hb1 : Below w.heap.size w w1 := by rw [hw1]; exact ((Below.refl _ w).alloc (Nat.le_refl _) _).alloc (by simp) _
 have hz1 : w1.heap.size = w.heap.size + 2 := by rw [hw1]; simp
 have x0 : ∀ j, w1.cell? ⟨w.heap.size, j, none⟩ = #[Value.int .i64 (sk : Int), .slice a n c][j]? := fun j => by
  rw [hw1, World.cell?_alloc_past _ _ _ (by simp), World.cell?_alloc_at _ _ _ _ rfl]
 have x1 : ∀ j, w1.cell? ⟨w.heap.size + 1, j, none⟩ = #[Value.int .i64 0, .slice none 0 0][j]? := fun j => by
  rw [hw1, World.cell?_alloc_at _ _ _ _ (by simp)]
 have g1 : ∀ j, w1.frozen? ⟨w.heap.size + 1, j, none⟩ = false := fun j => by
  rw [hw1, World.frozen?_alloc_at _ _ _ _ (by simp)]
 have HO := qd (fun (e : Nat) (he : e / 64 < N) (W : World) (hW : Below w.heap.size w W) => only_any N sk ws a c e W hN hb (hw.kept hW) he)
 rw [← hn] at HO
 have HW1 := qd hw1
 have HB1 := qd hb1
 have HZ1 := qd hz1
 have HX0 := qd x0
 have HX1 := qd x1
 have HG1 := qd g1
 have HSB := qd hb
 have HWA := qd hw
 have HL := qd hL
 have HP := qd hp
 clear hw1 hb1 hz1 x0 x1 g1 hb hw hn
 unfold setV
 by_cases k6 : kind = 6
 · subst k6
   go_enter Tryz.func92, Tryz.ntmps92
   go_wp2_with fail
   rw [← HW1.out]
   refine (HO.out 0 (by omega) _ HB1.out).mono ?_
   rintro en w2 ⟨sk2, ws2, a2, c2, rfl, b2, s2, v2, l2, m2⟩
   have t0 := ((show Below w1.heap.size w1 w2 from b2).cell (p := ⟨w.heap.size + 1, 0, none⟩) (by rw [HZ1.out]; simp)).trans (HX1.out 0)
   have t1 := ((show Below w1.heap.size w1 w2 from b2).cell (p := ⟨w.heap.size + 1, 1, none⟩) (by rw [HZ1.out]; simp)).trans (HX1.out 1)
   have u0 := ((show Below w1.heap.size w1 w2 from b2).frozen (p := ⟨w.heap.size + 1, 0, none⟩) (by rw [HZ1.out]; simp)).trans (HG1.out 0)
   have u1 := ((show Below w1.heap.size w1 w2 from b2).frozen (p := ⟨w.heap.size + 1, 1, none⟩) (by rw [HZ1.out]; simp)).trans (HG1.out 1)
   simp only [List.getElem?_toArray, List.getElem?_cons_succ, List.getElem?_cons_zero] at t0 t1
   have B2 := qd (HB1.out.trans (b2.mono HB1.out.size))
   obtain ⟨n2, hn2⟩ : ∃ n2, n2 = ws2.length := ⟨_, rfl⟩
   have HN2 := qd hn2
   have S2 := qd s2
   have V2 := qd v2
   have L2 := qd (show ∀ x, a2 = some x → w.heap.size + 2 ≤ x.block from fun x hx => by rw [← HZ1.out]; exact l2 x hx)
   have M2 := qd m2
   unfold setV
   rw [← hn2]
   clear b2 s2 v2 l2 m2 hn2
   go_wp2_with fail
   obtain ⟨y0, y1⟩ := two_put w2 (w.heap.size + 1) t0 t1 (.int .i64 (sk2 : Int)) (.slice a2 n2 c2)
   refine bodyPost_ret (v := .agg #[.int .i64 (sk2 : Int), .slice a2 n2 c2]) (by simp [results, Tryz.results92, go_sem, y0, y1]) rfl (PassSet.of sk2 ws2 a2 c2 (by rw [HN2.out]; rfl) ((B2.out.setCell (by simp; try omega) _).setCell (by simp; try omega) _) S2.out ((V2.out.put _ _ _ (fun x hx => by have := L2.out x hx; omega)).put _ _ _ (fun x hx => by have := L2.out x hx; omega)) (fun x hx => .inr (by have := L2.out x hx; omega)) (fun j => by rw [M2.out]; exact ⟨fun h => ⟨h.1, fun _ => h.2, fun h => by omega⟩, fun h => ⟨h.1, h.2.1 rfl⟩⟩))
 · by_cases k7 : kind = 7
   · subst k7
     have hs1 : (w.alloc (.cells #[.int .i64 (sk : Int), .slice a n c] 68)).cell? ⟨p, 0, none⟩ = some (.string s) := ((Below.refl w.heap.size w).alloc (Nat.le_refl _) _).cell (p := ⟨p, 0, none⟩) HP.out |>.trans hs
     have hs2 := ((HB1.out.cell (p := ⟨p, 0, none⟩) HP.out)).trans hs
     have hx0 := HX0.out 0
     have hx1 := HX0.out 1
     simp only [List.getElem?_toArray, List.getElem?_cons_succ, List.getElem?_cons_zero] at hx0 hx1
     go_enter Tryz.func92, Tryz.ntmps92
     go_wp2_with fail
     rw [← HW1.out]
     go_still_tail 8, (by kernel_rfl)
     change wpList _ _ _ _ _ w1.drew
     go_wp2_with fail
     refine (HO.out s.size HL.out _ HB1.out.drew).mono ?_
     rintro en w2 ⟨sk2, ws2, a2, c2, rfl, b2, s2, v2, l2, m2⟩
     have b2 : Below w1.heap.size w1 w2 := (Below.refl _ w1).drew.trans b2
     have l2 : ∀ x, a2 = some x → w1.heap.size ≤ x.block := l2
     have t0 := ((show Below w1.heap.size w1 w2 from b2).cell (p := ⟨w.heap.size + 1, 0, none⟩) (by rw [HZ1.out]; simp)).trans (HX1.out 0)
     have t1 := ((show Below w1.heap.size w1 w2 from b2).cell (p := ⟨w.heap.size + 1, 1, none⟩) (by rw [HZ1.out]; simp)).trans (HX1.out 1)
     have u0 := ((show Below w1.heap.size w1 w2 from b2).frozen (p := ⟨w.heap.size + 1, 0, none⟩) (by rw [HZ1.out]; simp)).trans (HG1.out 0)
     have u1 := ((show Below w1.heap.size w1 w2 from b2).frozen (p := ⟨w.heap.size + 1, 1, none⟩) (by rw [HZ1.out]; simp)).trans (HG1.out 1)
     simp only [List.getElem?_toArray, List.getElem?_cons_succ, List.getElem?_cons_zero] at t0 t1
     have B2 := qd (HB1.out.trans (b2.mono HB1.out.size))
     obtain ⟨n2, hn2⟩ : ∃ n2, n2 = ws2.length := ⟨_, rfl⟩
     have HN2 := qd hn2
     have S2 := qd s2
     have V2 := qd v2
     have L2 := qd (show ∀ x, a2 = some x → w.heap.size + 2 ≤ x.block from fun x hx => by rw [← HZ1.out]; exact l2 x hx)
     have M2 := qd m2
     unfold setV
     rw [← hn2]
     clear b2 s2 v2 l2 m2 hn2
     go_wp2_with fail
     obtain ⟨y0, y1⟩ := two_put w2 (w.heap.size + 1) t0 t1 (.int .i64 (sk2 : Int)) (.slice a2 n2 c2)
     refine bodyPost_ret (v := .agg #[.int .i64 (sk2 : Int), .slice a2 n2 c2]) (by simp [results, Tryz.results92, go_sem, y0, y1]) rfl (PassSet.of sk2 ws2 a2 c2 (by rw [HN2.out]; rfl) ((B2.out.setCell (by simp; try omega) _).setCell (by simp; try omega) _) S2.out ((V2.out.put _ _ _ (fun x hx => by have := L2.out x hx; omega)).put _ _ _ (fun x hx => by have := L2.out x hx; omega)) (fun x hx => .inr (by have := L2.out x hx; omega)) (fun j => by rw [M2.out]; exact ⟨fun h => ⟨h.1, fun h => by omega, fun _ => h.2⟩, fun h => ⟨h.1, h.2.2 rfl⟩⟩))
   · have e6 : (kind == 6) = false := by rw [beq_eq_false_iff_ne]; exact k6
     have e7 : (kind == 7) = false := by rw [beq_eq_false_iff_ne]; exact k7
     go_enter Tryz.func92, Tryz.ntmps92
     go_wp2_with fail
     refine bodyPost_ret (v := .agg #[.int .i64 (sk : Int), .slice a n c]) (by simp [results, Tryz.results92, go_sem]) rfl (PassSet.of sk ws a c (by rw [HN.out]; rfl) (((Below.refl w.heap.size w).alloc (Nat.le_refl _) _).alloc (by simp) _) HSB.out (HWA.out.kept (((Below.refl w.heap.size w).alloc (Nat.le_refl _) _).alloc (by simp) _)) (fun x hx => .inl hx) (fun j => ⟨fun h => ⟨h, fun e => absurd e k6, fun e => absurd e k7⟩, fun h => h.1⟩))
end Go.Proofs.YtcimhpdpfckgiaaGreatDoor.kit
namespace Go.Proofs.YtcimhpdpfckgiaaGreatDoor.kit
open Go.ChangeShapes Go.WideShapes Go.ChangeAt Go.RowKit
section
variable {F : Fence} {n : Nat} {P : Program}
theorem wpIn_inRound {o : Oper} (hro : F.round = none) (ho : ∀ c, o.op ≠ .defer c) (l : Nat) {a : Act} {w : World} {K : Act → World → Prop} {Q : Exit → Act → World → Prop} (h : o.wpIn F n P a w K Q) : o.wpIn (F.inRound l) n P a w K Q := by
 unfold Oper.wpIn at *
 refine ⟨h.1, ?_⟩
 have h2 := h.2
 rw [Oper.semAt_eq _ _ _ ho] at h2 ⊢
 exact h2
theorem wpAnyIn_inRound {ops : Array Oper} {md : Region.Mode} {Q : Exit → Act → World → Prop} (hro : F.round = none) (l : Nat) (hnd : ∀ (i : Nat) (o : Oper), ops[i]? = some o → ∀ c, o.op ≠ .defer c) :
 ∀ (fuel : Nat) (listed : Array Bool) (a : Act) (w : World), wpAnyIn F n P md ops Q fuel listed a w → wpAnyIn (F.inRound l) n P md ops Q fuel listed a w
 | 0, _, _, _, h => h
 | fuel + 1, listed, a, w, h => by
   refine ⟨h.1, fun i hi => ?_⟩
   have h2 := h.2 i hi
   have h3 := wpOpIn_mono (K' := wpAnyIn (F.inRound l) n P md ops Q fuel (listed.setIfInBounds i true)) (fun a' w' h => wpAnyIn_inRound hro l hnd fuel _ a' w' h) h2
   unfold wpOpIn at h3 ⊢
   cases ho : ops[i]? with
   | none => simpa [ho] using h3
   | some o =>
     simp only [ho] at h3 ⊢
     by_cases c : Region.wanted o (yielded ops a.tmps) = true
     · simp only [c, if_true] at h3 ⊢
       exact wpIn_inRound hro (hnd i o ho) l h3
     · simp only [c] at h3 ⊢
       exact h3
def noDefer (l : List Oper) : Bool := l.all fun o => match o.op with | .defer _ => false | _ => true
theorem wpIn_region_quiet_round {id : Nat} {Q : Exit → Act → World → Prop} {a : Act} {w : World} {l : List Oper} (k : Nat) (hro : F.round = none) (hm : P.follows .mixedOrders = true) (hB : Region.lexB .any l.toArray = true) (hd : noDefer l = true)
 (h : wpQuietIn F n P l.toArray (fun w' => ∃ n, w' = w.drewN n) (fun a' => ∀ w', (∃ n, w' = w.drewN n) → Q .normal a' w') l a) : (Code.region id l.toArray true).wpIn (F.inRound k) n P Q a w := by
 have hnd : ∀ (i : Nat) (o : Oper), l.toArray[i]? = some o → ∀ c, o.op ≠ .defer c := by
  intro i o ho c e
  have hmem : o ∈ l := by
   rw [List.getElem?_toArray] at ho
   exact List.mem_of_getElem? ho
  have := List.all_eq_true.1 hd o hmem
  rw [e] at this
  cases this
 simp only [Region.lexB, Bool.and_eq_true] at hB
 refine wpIn_region_any hm (wpAnyIn_inRound hro k hnd _ _ _ _ (wpAnyIn_of_quiet (C := fun w' => ∃ n, w' = w.drewN n) (Q := fun a' => ∀ w', (∃ n, w' = w.drewN n) → Q .normal a' w') hro (fun _ w' hw' h => h w' hw') _ _ _ _ ⟨1, rfl⟩ ?_))
 have := wpAnyQIn_lex (F := F) (n := n) (C := fun w' => ∃ n, w' = w.drewN n) (md := .any) hB.1 l.toArray.toList 0 (Array.replicate l.toArray.size false) a (by simp) (by simpa using hB.2) (by simpa using h)
 simpa using this
end
end Go.Proofs.YtcimhpdpfckgiaaGreatDoor.kit
namespace Go.Proofs.YtcimhpdpfckgiaaGreatDoor.kit
open Go.ChangeShapes Go.WideShapes Go.ChangeAt Go.RowKit
set_option maxRecDepth 100000 in
set_option maxHeartbeats 1000000 in
theorem lead_any (p : Nat) (b : Option Addr) (m c : Nat) (v0 : Value) (w : World) (h6 : w.cell? ⟨p, 6, none⟩ = some v0) (hf : w.frozen? ⟨p, 6, none⟩ = false) :
 Calls Tryz.prog 67 #[.pointer (some ⟨p, 0, none⟩), .slice b m c] w fun e w' => (∃ u, e = .returned u) ∧ w' = w.setCell ⟨p, 6, none⟩ (.slice b m c) := by
 go_enter Tryz.func67, Tryz.ntmps67
 go_wp2_with fail
 go_end0
 exact ⟨⟨_, rfl⟩, rfl⟩
def OwnQ (B : Nat) (w : World) (v : Value) (T : Nat → TypeId) (ps : List Nat) : Prop := w.ownsRow B 94 1 v ps.length (ps.map fun p => partV (T p) p)
theorem OwnQ.row {B : Nat} {w : World} {v : Value} {T : Nat → TypeId} {ps : List Nat} (h : OwnQ B w v T ps) : ∃ a c, v = .slice a ps.length c ∧ PartsAt w T ps a ∧ ∀ x, a = some x → B ≤ x.block ∧ x.block < w.heap.size := by
 rcases h.2 with ⟨rfl, h0⟩ | ⟨g, cap, cur, rfl, hb, hg, hn, hm, _⟩
 · have e : ps = [] := List.length_eq_zero_iff.1 h0
   subst e
   exact ⟨none, 0, rfl, fun i hi => by simp at hi, fun x hx => by cases hx⟩
 · refine ⟨_, cap, rfl, fun i hi => ⟨g, rfl, ?_⟩, fun x hx => ?_⟩
   · have h2 : w.ownsRow B 94 1 (.slice (some ⟨g, 0, none⟩) ps.length cap) ps.length (ps.map fun p => partV (T p) p) := h
     rw [World.ownsRow.cellAt h2 i (by omega)]
     simp [hi]
   · cases hx
     exact ⟨hb, (Array.getElem?_eq_some_iff.1 hg).1⟩
theorem OwnQ.kept {B : Nat} {w w' : World} {v : Value} {T : Nat → TypeId} {ps : List Nat} (h : OwnQ B w v T ps) (hb : Below w.heap.size w w') : OwnQ B w' v T ps :=
 World.ownsRow.kept h ⟨hb.os, hb.tape, hb.output, hb.size, fun k hk _ => hb.block k hk⟩ (row := none) (by cases v.ownBlock <;> simp)
theorem infoPart : (Tryz.prog.info? 94).map (fun i => (i.zero, i.size, i.bytes)) = some (some .nilIface, 1, 16) := by kernel_rfl
theorem run_append_part {w : World} (ty : TypeId) (B : Nat) (v : Value) (T : Nat → TypeId) (ps : List Nat) (hown : OwnQ B w v T ps) (ad : Addr) (c q : Nat) (hnew : w.cell? (ad.add 0) = some (partV (T q) q)) (hl : ps.length + 1 ≤ 1048577) (hB : B ≤ w.heap.size) :
 ∃ v' w', (Builtin.append_ #[88, 88] ty #[v, .slice (some ad) 1 c]).run Tryz.prog w = .ok v' w' ∧ OwnQ B w' v' T (ps ++ [q]) ∧ Below B w w' ∧ w.grownBy w' v.ownBlock ∧ (∀ k, v'.ownBlock = some k → v.ownBlock = some k ∨ w.heap.size ≤ k) := by
 obtain ⟨i0, hi, hz0, hz1, hz2⟩ := info_parts infoPart
 have hl' : ([partV (T q) q]).length = 1 * i0.size := by rw [hz1]; rfl
 have hnews : ∀ j u, ([partV (T q) q])[j]? = some u → w.cell? (ad.add j) = some u := fun j u hu => by
  have hj : j < 1 := (List.getElem?_eq_some_iff.1 hu).1
  obtain rfl : j = 0 := by omega
  rw [hnew]; simpa using hu
 have h1 : ∀ u ∈ ([partV (T q) q]), u.oneCell' = true := by intro u hu; simp at hu; subst hu; rfl
 obtain ⟨v', w', hr, h2, h3, _⟩ := run_append_own (P := Tryz.prog) w B 88 ty 94 i0 .nilIface 1 16 Tryz.underlying88 hi hz0 hz1 hz2 rfl (by decide) v ps.length _ hown ad 1 c [partV (T q) q] rfl hnews h1 (by simp only [maxLen]; omega) (by omega) hB
 refine ⟨v', w', hr, by simpa [OwnQ, List.map_append] using h2, Below.grown (Below.refl _ _) h3 hB (fun k hk => (World.ownsRow.lt hown k hk).1), h3, ?_⟩
 rcases hown.2 with ⟨rfl, h0⟩ | ⟨b, cap, cur, rfl, hbg, hg, hnc, hcm, hcs, htake⟩
 · have hr2 := run_append_nil (P := Tryz.prog) w 88 ty 94 i0 .nilIface Tryz.underlying88 hi hz0 ad 1 c [partV (T q) q] hl' hnews (by omega) (by omega) (by omega)
   rw [hr] at hr2; injection hr2 with q1 q2; subst q1
   intro k hk; simp only [Value.ownBlock] at hk; right; injection hk with hk; omega
 · by_cases hroom : ps.length + 1 ≤ cap
   · have hfit : ps.length * i0.size + ([partV (T q) q]).length ≤ cur.size := by rw [hcs, hz1]; simp; omega
     have hr2 := run_append_room (P := Tryz.prog) w 88 ty 94 i0 Tryz.underlying88 hi b ps.length cap cur hg ad 1 c [partV (T q) q] hl' hnews h1 hroom hfit
     rw [hr] at hr2; injection hr2 with q1 q2; subst q1
     intro k hk; exact .inl hk
   · have holds : ∀ j u, (ps.map fun p => partV (T p) p)[j]? = some u → w.cell? ((⟨b, 0, none⟩ : Addr).add j) = some u := World.ownsRow.cells hown (g := b) rfl
     have hr2 := run_append_grow (P := Tryz.prog) w 88 ty 94 i0 .nilIface Tryz.underlying88 hi hz0 ⟨b, 0, none⟩ ps.length cap (ps.map fun p => partV (T p) p) (by rw [hz1]; simp) holds ad 1 c [partV (T q) q] hl' hnews (by omega) (by omega) (growslice_fits (by omega) (by rw [hz2]; omega))
     rw [hr] at hr2; injection hr2 with q1 q2; subst q1
     intro k hk; simp only [Value.ownBlock] at hk; right; injection hk with hk; omega
end Go.Proofs.YtcimhpdpfckgiaaGreatDoor.kit
namespace Go.Proofs.YtcimhpdpfckgiaaGreatDoor.kit
open Go.ChangeShapes Go.WideShapes Go.ChangeAt Go.RowKit
theorem wpList_append_part {w : World} {ops : Array Oper} {rest : List Oper} {o : Oper} {a : Act} {Q : Exit → Act → World → Prop} (hgd : o.guard = none) (s x : Operand)
 (ho : o.op = .call { callee := .builtin .append, args := #[s, x], argTypes := #[88, 88] }) (B : Nat) (v : Value) (T : Nat → TypeId) (ps : List Nat) (hs : a.eval s = v) (hown : OwnQ B w v T ps) (ad : Addr) (c q : Nat) (hx : a.eval x = .slice (some ad) 1 c)
 (hnew : w.cell? (ad.add 0) = some (partV (T q) q)) (hl : ps.length + 1 ≤ 1048577) (hB : B ≤ w.heap.size)
 (h : ∀ v' w', OwnQ B w' v' T (ps ++ [q]) → Below B w w' → w.grownBy w' v.ownBlock → (∀ k, v'.ownBlock = some k → v.ownBlock = some k ∨ w.heap.size ≤ k) → wpList Tryz.prog ops Q rest (a.put o.dst v') w') : wpList Tryz.prog ops Q (o :: rest) a w := by
 refine wpList_plain hgd fun K hK => ?_
 obtain ⟨v', w', hr, h1, h2, h3, h4⟩ := run_append_part o.type B v T ps hown ad c q hnew hl hB
 unfold Oper.wp execOp
 simp only [ho, resolve, invoke, builtin, Sem.run_bind, Sem.run_pure, Result.andThen_ok, List.map_toArray, List.map_cons, List.map_nil, hs, hx, hr]
 exact hK _ _ (h v' w' h1 h2 h3 h4)
structure AddChg (nb p : Nat) (r : Option Nat) (w w' : World) : Prop where
 os : w'.os = w.os
 tape : w'.tape = w.tape
 output : w'.output = w.output
 size : w.heap.size ≤ w'.heap.size
 block : ∀ k, k < w.heap.size → k ≠ nb → k ≠ p → r ≠ some k → w'.heap[k]? = w.heap[k]?
 cn : ∀ j, j ≠ 2 → w'.cell? ⟨nb, j, none⟩ = w.cell? ⟨nb, j, none⟩
 cp : ∀ j, j ≠ 6 → w'.cell? ⟨p, j, none⟩ = w.cell? ⟨p, j, none⟩
 fn : ∀ j, w'.frozen? ⟨nb, j, none⟩ = w.frozen? ⟨nb, j, none⟩
 fp : ∀ j, w'.frozen? ⟨p, j, none⟩ = w.frozen? ⟨p, j, none⟩
set_option maxRecDepth 100000 in
set_option maxHeartbeats 2000000 in
theorem netAdd_any (B nb p : Nat) (T : Nat → TypeId) (ps : List Nat) (b : Option Addr) (m c : Nat) (v0 vr : Value) (w : World) (hT : PartT (T p)) (hnB : nb < B) (hb : B ≤ w.heap.size) (hne : nb ≠ p) (h6 : w.cell? ⟨p, 6, none⟩ = some v0) (hf : w.frozen? ⟨p, 6, none⟩ = false)
 (h2 : w.cell? ⟨nb, 2, none⟩ = some vr) (hf2 : w.frozen? ⟨nb, 2, none⟩ = false) (ho : OwnQ B w vr T ps) (hr1 : vr.ownBlock ≠ some nb) (hr2 : vr.ownBlock ≠ some p) (hl : ps.length ≤ 1048576) :
 Calls Tryz.prog 57 #[.pointer (some ⟨nb, 0, none⟩), partV (T p) p, .slice b m c] w fun e w' => e = .returned (partV (T p) p) ∧ ∃ v', OwnQ B w' v' T (ps ++ [p]) ∧ (∀ k, v'.ownBlock = some k → vr.ownBlock = some k ∨ w.heap.size ≤ k) ∧ w'.cell? ⟨nb, 2, none⟩ = some v' ∧ w'.cell? ⟨p, 6, none⟩ = some (.slice b m c) ∧ AddChg nb p vr.ownBlock w w' := by
 have hm := fun W => meth_lead hT p W
 have HL := qd (lead_any p b m c v0 w h6 hf)
 obtain ⟨Tp, hTp⟩ : ∃ Tp, Tp = T p := ⟨_, rfl⟩
 have HTP := qd hTp
 rw [← hTp] at hm ⊢
 obtain ⟨w1, hw1⟩ : ∃ w1, w1 = w.setCell ⟨p, 6, none⟩ (.slice b m c) := ⟨_, rfl⟩
 have ho1 : OwnQ B w1 vr T ps := by
  rw [hw1]
  exact World.ownsRow.kept ho (grown_set w ⟨p, 6, none⟩ _) (.inr hr2)
 have h21 : w1.cell? ⟨nb, 2, none⟩ = some vr := by
  rw [hw1, World.cell?_setCell_other w _ _ _ (by intro x; injection x; omega)]; exact h2
 have hf21 : w1.frozen? ⟨nb, 2, none⟩ = false := by rw [hw1, World.frozen?_setCell]; exact hf2
 have hz1 : w1.heap.size = w.heap.size := by rw [hw1]; simp
 have hcp : w1.cell? ⟨p, 6, none⟩ = some (.slice b m c) := by rw [hw1, World.cell?_setCell_same w _ _ h6]
 have hg1 : w.grownBy w1 (some p) := by rw [hw1]; exact grown_set w ⟨p, 6, none⟩ _
 have hcp1 : ∀ j, j ≠ 6 → w1.cell? ⟨p, j, none⟩ = w.cell? ⟨p, j, none⟩ := fun j hj => by rw [hw1, World.cell?_setCell_other w _ _ _ (by intro x; injection x; omega)]
 have hcn1 : ∀ j, w1.cell? ⟨nb, j, none⟩ = w.cell? ⟨nb, j, none⟩ := fun j => by rw [hw1, World.cell?_setCell_other w _ _ _ (by intro x; injection x; omega)]
 have hfz1 : ∀ a, w1.frozen? a = w.frozen? a := fun a => by rw [hw1, World.frozen?_setCell]
 have HO1 := qd ho1
 have HALL := qd (And.intro hf21 (And.intro hz1 (And.intro hcp (And.intro hg1 (And.intro hcp1 (And.intro hcn1 hfz1))))))
 rw [← hw1] at HL
 have HH := qd (And.intro hne (And.intro hr1 (And.intro hr2 (And.intro hl hb))))
 clear hw1 ho1 hf21 hz1 hcp hg1 hcp1 hcn1 hfz1 hne hr1 hr2 hl ho hT hTp h6 hf h2 hf2 hb
 unfold partV at *
 go_enter Tryz.func57, Tryz.ntmps57
 go_wp2_with fail
 refine HL.out.mono ?_
 rintro e w1' ⟨⟨u, rfl⟩, rfl⟩
 have HN := qd (show (w1'.alloc (.cells #[.iface Tp (.pointer (some ⟨p, 0, none⟩))] 94)).cell? ((⟨w1'.heap.size, 0, none⟩ : Addr).add 0) = some (partV (T p) p) from by
  have e : (⟨w1'.heap.size, 0, none⟩ : Addr).add 0 = ⟨w1'.heap.size, 0, none⟩ := by unfold Addr.add; split <;> simp_all
  rw [e, ← HTP.out]
  exact cell_one w1' _ _)
 have HB1 := qd (show Below w1'.heap.size w1' (w1'.alloc (.cells #[.iface Tp (.pointer (some ⟨p, 0, none⟩))] 94)) from (Below.refl _ _).alloc (Nat.le_refl _) _)
 have hnl : nb < w1'.heap.size := World.block_lt_of_cell? w1' ⟨nb, 2, none⟩ h21
 have HNB := qd (show ∀ W, (w1'.alloc (.cells #[.iface Tp (.pointer (some ⟨p, 0, none⟩))] 94)).grownBy W vr.ownBlock → (∀ j, W.cell? ⟨nb, j, none⟩ = w1'.cell? ⟨nb, j, none⟩) ∧ ∀ j, W.frozen? ⟨nb, j, none⟩ = w1'.frozen? ⟨nb, j, none⟩ from fun W hg => by
  have hk := hg.block nb (Nat.lt_of_lt_of_le hnl HB1.out.size) (fun e => HH.out.2.1 e.symm)
  exact ⟨fun j => (cob (a := ⟨nb, j, none⟩) hk).trans (HB1.out.cell (p := ⟨nb, j, none⟩) hnl), fun j => (World.frozen?_of_block (a := ⟨nb, j, none⟩) hk).trans (HB1.out.frozen (p := ⟨nb, j, none⟩) hnl)⟩)
 go_wp2_with (at_builtin; (refine wpList_append_part rfl (.tmp 14) (.tmp 16) rfl B vr T ps rfl (HO1.out.kept HB1.out) ⟨w1'.heap.size, 0, none⟩ 1 p rfl HN.out (by have := HH.out.2.2.2.1; omega) (by have := HH.out.2.2.2.2; have := HALL.out.2.1; simp; omega) ?_; intro v3 w3 ho3 hb3 hg3 hk3; obtain ⟨a3, c3, hv3, _, hl3⟩ := ho3.row; rw [show (ps ++ [p]).length = ps.length + 1 by simp] at hv3; subst hv3; have hn3 := qd (HNB.out w3 hg3); have z3 := hn3.out.1 2; rw [h21] at z3; have f3 := (hn3.out.2 2).trans HALL.out.1; have HW3 := qd (And.intro ho3 (And.intro hb3 (And.intro hg3 hl3))); have HK3 := qd hk3; clear ho3 hb3 hg3 hl3 hk3))
 go_ret
 obtain ⟨ho3, hb3, hg3, hl3⟩ := HW3.out
 obtain ⟨_, hz1, hcp, hg1, hcp1, hcn1, hfz1⟩ := HALL.out
 obtain ⟨hne, hr1, hr2, hl, hb⟩ := HH.out
 have hpl : p < w1'.heap.size := World.block_lt_of_cell? w1' ⟨p, 6, none⟩ hcp
 have hp3 := hg3.block p (Nat.lt_of_lt_of_le hpl HB1.out.size) (fun e => hr2 e.symm)
 have cp3 : ∀ j, w3.cell? ⟨p, j, none⟩ = w1'.cell? ⟨p, j, none⟩ := fun j => (cob (a := ⟨p, j, none⟩) hp3).trans (HB1.out.cell (p := ⟨p, j, none⟩) hpl)
 have fp3 : ∀ j, w3.frozen? ⟨p, j, none⟩ = w1'.frozen? ⟨p, j, none⟩ := fun j => (World.frozen?_of_block (a := ⟨p, j, none⟩) hp3).trans (HB1.out.frozen (p := ⟨p, j, none⟩) hpl)
 have hs3 := HB1.out.size
 have hs4 := hb3.size
 refine ⟨rfl, _, World.ownsRow.kept ho3 (grown_set w3 ⟨nb, 2, none⟩ _) (.inr ?_), fun k hk => (HK3.out k hk).imp id (fun x => by have := HB1.out.size; omega), World.cell?_setCell_same w3 _ _ z3, ?_, ?_⟩
 · intro e
   cases a3 with
   | none => simp [Value.ownBlock] at e
   | some x => have := (hl3 x rfl).1; simp [Value.ownBlock] at e; omega
 · rw [World.cell?_setCell_other w3 _ _ _ (by intro x; injection x; omega), cp3]; exact hcp
 · refine ⟨hg3.os.trans (HB1.out.os.trans hg1.os), hg3.tape.trans (HB1.out.tape.trans hg1.tape), hg3.output.trans (HB1.out.output.trans hg1.output), by simp; omega, fun k hk k1 k2 k3 => ?_, fun j hj => ?_, fun j hj => ?_, fun j => ?_, fun j => ?_⟩
   · rw [Below.heap_setCell w3 _ _ k k1, hg3.block k (by omega) (fun e => k3 e.symm), HB1.out.block k (by omega)]
     exact hg1.block k hk (fun e => k2 (by injection e))
   · rw [World.cell?_setCell_other w3 _ _ _ (by intro x; injection x; omega), hn3.out.1]; exact hcn1 j
   · rw [World.cell?_setCell_other w3 _ _ _ (by intro x; injection x; omega), cp3]; exact hcp1 j hj
   · rw [World.frozen?_setCell, hn3.out.2]; exact hfz1 _
   · rw [World.frozen?_setCell, fp3]; exact hfz1 _
end Go.Proofs.YtcimhpdpfckgiaaGreatDoor.kit
namespace Go.Proofs.YtcimhpdpfckgiaaGreatDoor.kit
open Go.ChangeShapes Go.WideShapes Go.ChangeAt Go.RowKit Go.Shelf
attribute [local go_sem] Oper.semAt_some
set_option maxRecDepth 100000 in
set_option maxHeartbeats 1000000 in
theorem all1p_in (n : Nat) (hn : 2 ≤ n) (l Bs sk : Nat) (ws : List Nat) (a : Option Addr) (c : Nat) (hN : sk + ws.length ≤ 1048576) (hlt : ∀ x ∈ ws, x < 2 ^ 64) (Kp : World → World → Prop) (hKp : ∀ A B, Kp A B → KeepB (SetF Bs a) A B) (J Jx : List Nat → World → Prop)
 (hY : ∀ pre x W, (∃ rest, memL sk ws = pre ++ x :: rest) → J pre W → pre.length < (memL sk ws).length → YieldAt Fence.wide (n - 1) Tryz.prog l #[pV x] W fun e W' =>
   (e = .returned (.bool true) ∧ J (pre ++ [x]) W' ∧ Kp W W') ∨ (e = .returned (.bool false) ∧ Jx (pre ++ [x]) W'))
 (hJd : ∀ pre W, J pre W → J pre W.drew)
 (W : World) (hc0 : W.cell? ⟨Bs, 0, none⟩ = some (.int .i64 (sk : Int))) (hc1 : W.cell? ⟨Bs, 1, none⟩ = some (.slice a ws.length c)) (hw : WordsAt W ws a) (hT : BT W) (h0 : J [] W) :
 CallsIn Fence.wide n Tryz.prog 48 #[.func (.yield l) #[] #[], .pointer (some ⟨Bs, 0, none⟩)] W fun e W' => (∃ v, e = .returned v) ∧
  ((∃ ys, ys = memL sk ws ∧ J ys W') ∨ (∃ pre, True ∧ Jx pre W')) := by
 have HY := qd hY
 have HKP := qd hKp
 have HJ := qd hJd
 have HW := qd hw
 have HT := qd hT
 have HLT := qd hlt
 have HC0 := qd hc0
 obtain ⟨m, hm⟩ : ∃ m, m = ws.length := ⟨_, rfl⟩
 have HM := qd hm
 rw [← hm] at hc1 hN
 clear hY hJd hw hKp hT hlt hm
 refine callsIn_of_wp Tryz.func48 rfl trivial ?_ rfl
 simp only [Tryz.ntmps48, List.size_toArray, List.length_cons, List.length_nil, Nat.reduceAdd, Nat.reduceSub, Array.replicate_succ, Array.replicate_zero, List.push_toArray, List.append_toArray, List.nil_append, List.cons_append]
 gi_wp2
 gi_loopw [8] (fun iv wr => ∃ i : Nat, i ≤ m ∧ iv = .int .i64 (i : Int) ∧ J (memL sk (ws.take i)) wr ∧ KeepB (SetF Bs a) W wr)
  (fun iv _ => m - (intOf iv).toNat)
 case atStart => exact ⟨0, Nat.zero_le _, rfl, by simpa [memL] using h0, KeepB.refl _ _⟩
 case round =>
  obtain ⟨i, hi, rfl, hJs, hk⟩ := hrel
  have HJs := qd hJs
  have HK := qd hk
  clear hJs hk hc1
  by_cases hlt : i < m
  · have hil : i < ws.length := by have := HM.out; omega
    obtain ⟨bb, hbb, _, d0⟩ := (HW.out.keep (fun p hp => HK.out _ (.inr (.inr ⟨p, hp, rfl⟩)))) i hil
    have hbb' : a = some ⟨bb, 0, none⟩ := hbb
    subst hbb'
    have HXL := qd (HLT.out ws[i] (List.getElem_mem hil))
    have HSN := qd (memL_snoc sk ws i hil)
    obtain ⟨rest, hrest⟩ := memL_cut sk ws (i + 1)
    have HREST := qd hrest
    generalize ws[i] = y at *
    have j0 : (0 : Int) ≤ (i : Int) := by omega
    have j1 : (i : Int) < (m : Int) := by omega
    have HI := qd (show i + 1 ≤ m ∧ m ≤ 1048576 ∧ sk ≤ 1048576 ∧ sk + m ≤ 1048576 by omega)
    clear hil hi hbb hrest
    gi_wp2
    gi_loopw [4] (fun xv wq => ∃ (x : Nat) (done : List Nat), xv = .int .u64 (x : Int) ∧ x < 2 ^ 64 ∧ bitsN y = done ++ bitsN x ∧ J (memL sk (ws.take i) ++ done.map (fun b => (sk + i) * 64 + b)) wq ∧ KeepB (SetF Bs (some ⟨bb, 0, none⟩)) W wq)
        (fun xv _ => (intOf xv).toNat)
    case atStart => exact ⟨y, [], rfl, HXL.out, rfl, by simpa using HJs.out, HK.out⟩
    case round =>
        obtain ⟨x, done, rfl, hx, hd, hJ2, hk2⟩ := hrel
        have HK2 := qd hk2
        have HJ2 := qd hJ2
        have HD := qd hd
        have HX := qd hx
        clear hk2 hJ2 hd hx
        by_cases hx0 : x = 0
        · subst hx0
          have hz : (((0 : Nat) : Int) != 0) = false := rfl
          have HNX := qd (show J (memL sk (ws.take (i + 1))) wr from by
           rw [HSN.out, HD.out, bitsN_zero, List.append_nil]; exact HJ2.out)
          gi_wp2
          go_roundw
          case measure => simp [intOf]; have := HI.out; omega
          case rel => exact ⟨i + 1, HI.out.1, by go_num, HNX.out, HK2.out⟩
        · obtain ⟨t, ht⟩ : ∃ t, t = Lib.ctz 64 x := ⟨_, rfl⟩
          obtain ⟨e, he⟩ : ∃ e, e = (sk + i) * 64 + t := ⟨_, rfl⟩
          obtain ⟨z, hz⟩ : ∃ z, z = x &&& (x - 1) := ⟨_, rfl⟩
          have htb : t < 64 := by rw [ht]; obtain ⟨_, _, h⟩ := ctz_form x hx0 HX.out; exact h
          have hxz : ((x : Int) != 0) = true := by rw [bne_iff_ne]; omega
          have HTZ := qd (fun W h => tz_any x HX.out hx0 W h)
          rw [← ht] at HTZ
          have HNX := qd (show bitsN x = t :: bitsN z by rw [bitsN_next x hx0, ← ht, ← hz])
          have HZX := qd (show z < x by rw [hz]; exact and_pred_lt x hx0)
          have s0 := word_sub HX.out hx0
          obtain ⟨p, hp⟩ : ∃ p, p = x - 1 := ⟨_, rfl⟩
          rw [← hp] at s0
          have hand : bits .and .u64 (x : Int) (p : Int) = (z : Int) := by rw [hz, ← hp]; exact bits_and64 x p HX.out (by rw [hp]; have := HX.out; omega)
          obtain ⟨k, hk⟩ : ∃ k, k = sk + i := ⟨_, rfl⟩
          obtain ⟨k64, hk64⟩ : ∃ k64, k64 = k * 64 := ⟨_, rfl⟩
          have hkb := HI.out
          have s1 : IntKind.i64.wrap ((sk : Int) + (i : Int)) = (k : Int) := by rw [IntKind.wrap_i64]; omega
          have s2 : IntKind.i64.wrap ((k : Int) * 64) = (k64 : Int) := by rw [IntKind.wrap_i64]; omega
          have s3 : IntKind.i64.wrap ((k64 : Int) + (t : Int)) = (e : Int) := by rw [IntKind.wrap_i64]; omega
          have HE := qd (show (sk + i) * 64 + t = e from he.symm)
          have c0 := (cob (a := ⟨Bs, 0, none⟩) (HK2.out _ (.inl rfl))).trans HC0.out
          have HTW := qd (HT.out.of (HK2.out _ (.inr (.inl rfl))))
          have HLEN := qd (show (memL sk (ws.take i) ++ done.map (fun b => (sk + i) * 64 + b)).length < (memL sk ws).length from by
           rw [HREST.out, HSN.out, HD.out, HNX.out]; simp)
          have HMEM := qd (show ∃ rest', memL sk ws = (memL sk (ws.take i) ++ done.map (fun b => (sk + i) * 64 + b)) ++ e :: rest' from
           ⟨(bitsN z).map (fun b => (sk + i) * 64 + b) ++ rest, by rw [HREST.out, HSN.out, HD.out, HNX.out, he]; simp⟩)
          clear hx0 ht he hz hp hk hk64 hkb htb
          obtain ⟨pre, hpre⟩ : ∃ pre, pre = memL sk (ws.take i) ++ done.map (fun b => (sk + i) * 64 + b) := ⟨_, rfl⟩
          rw [← hpre] at HLEN HJ2 HMEM
          have HPRE := qd hpre
          clear hpre
          obtain ⟨fn, tmps, assign, body, hy, hR⟩ := HY.out pre e wr.drew HMEM.out (HJ.out _ _ HJ2.out) HLEN.out
          have HR := qd hR
          clear hR
          unfold pV at hy
          gi_wp2
          gi_region_with (first | (refine ⟨trivial, fun _ => by omega, ?_⟩; refine (callsIn_wide.2 (HTZ.out _ (by first | exact HTW.out | exact HTW.out.of rfl))).mono ?_; rintro e w' ⟨rfl, rfl⟩) | (refine ⟨fun _ => by omega, ?_⟩; refine HR.out.mono ?_; intro e W3 hh; obtain ⟨b, rfl, hb1, hb2⟩ := two_way hh; have HB1 := qd hb1; have HB2 := qd hb2; clear hh hb1 hb2))
          all_goals cases b
          all_goals gi_wp2
          all_goals first
           | (refine bodyPost_ret (results_none rfl _ _ _) rfl ?_; first | exact ⟨⟨_, rfl⟩, .inr ⟨_, HB2.out (by first | rfl | trivial)⟩⟩ | exact ⟨⟨_, rfl⟩, .inr ⟨_, trivial, HB2.out (by first | rfl | trivial)⟩⟩)
           | (refine ⟨⟨z, done ++ [t], rfl, Nat.lt_trans HZX.out HX.out, by rw [HD.out, HNX.out, List.append_assoc]; rfl, ?_, KeepB.trans (show KeepB (SetF Bs (some ⟨bb, 0, none⟩)) W wr.drew from HK2.out) (HKP.out _ _ (HB1.out (by first | rfl | trivial)).2)⟩, by simp only [intOf, Int.toNat_natCast]; exact HZX.out⟩
              have h := (HB1.out (by first | rfl | trivial)).1
              rw [HPRE.out, ← HE.out, List.append_assoc] at h
              rw [List.map_append]
              exact h)
  · obtain rfl : i = m := by omega
    have HNX := qd (show J (memL sk ws) wr from by have h := HJs.out; rw [List.take_of_length_le (by have := HM.out; omega)] at h; exact h)
    gi_wp2
    go_end0
    first | exact ⟨⟨_, rfl⟩, .inl HNX.out⟩ | exact ⟨⟨_, rfl⟩, .inl ⟨_, rfl, HNX.out⟩⟩
theorem allp_stops (n : Nat) (hn : 2 ≤ n) (Bs sk : Nat) (ws : List Nat) (a : Option Addr) (c : Nat) (hN : sk + ws.length ≤ 1048576) (hlt : ∀ x ∈ ws, x < 2 ^ 64) (Kp : World → World → Prop) (hKp : ∀ A B, Kp A B → KeepB (SetF Bs a) A B) (w : World) (hBs : Bs < w.heap.size)
 (hc0 : w.cell? ⟨Bs, 0, none⟩ = some (.int .i64 (sk : Int))) (hc1 : w.cell? ⟨Bs, 1, none⟩ = some (.slice a ws.length c)) (hw : WordsAt w ws a) (hT : BT w) :
 SeqStopsK Fence.wide n Tryz.prog 48 #[.pointer (some ⟨Bs, 0, none⟩)] (fun x : {x : Nat // x ∈ memL sk ws} => #[pV x.1]) Kp (fun ys => ys.map (·.1) = memL sk ws) (fun ys => ∃ rest, memL sk ws = ys.map (·.1) ++ rest) (memL sk ws).length w := fun l J Jx W hW hJ _ hY h0 => by
 refine (all1p_in n hn l Bs sk ws a c hN hlt Kp hKp (fun pre W => ∃ pre' : List {x : Nat // x ∈ memL sk ws}, pre'.map (·.1) = pre ∧ J pre' W) (fun pre W => ∃ pre' : List {x : Nat // x ∈ memL sk ws}, pre'.map (·.1) = pre ∧ Jx pre' W ∧ ∃ rest, memL sk ws = pre'.map (·.1) ++ rest) ?_ (fun pre W ⟨pre', e, h⟩ => ⟨pre', e, hJ pre' W W.drew none h ⟨rfl, rfl, rfl, Nat.le_refl _, fun _ _ _ => rfl⟩ (fun r e => by cases e)⟩) W ((hW.cell (p := ⟨Bs, 0, none⟩) hBs).trans hc0) ((hW.cell (p := ⟨Bs, 1, none⟩) hBs).trans hc1) (hw.kept hW) (hT.kept hW) ⟨[], rfl, h0⟩).mono ?_
 · rintro pre x W' ⟨rest, hp⟩ ⟨pre', e, h⟩ hlen
   have hx : x ∈ memL sk ws := by rw [hp]; simp
   obtain ⟨fn, tmps, assign, body, hy, hR⟩ := hY pre' ⟨x, hx⟩ W' h (by rw [← List.length_map (·.1), e]; exact hlen)
   refine ⟨fn, tmps, assign, body, hy, hR.mono ?_⟩
   rintro en W2 (⟨he, h2, h3⟩ | ⟨he, h2⟩)
   · exact .inl ⟨he, ⟨_, by rw [List.map_append, e]; rfl, h2⟩, h3⟩
   · exact .inr ⟨he, ⟨_, by rw [List.map_append, e]; rfl, h2, ⟨rest, hp.trans (by rw [List.map_append, e]; simp)⟩⟩⟩
 · rintro en W' ⟨hv, h⟩
   refine ⟨hv, ?_⟩
   rcases h with ⟨ys, hys, pre', e, h⟩ | ⟨pre, _, pre', _, h, hr⟩
   · exact .inl ⟨pre', e.trans hys, h⟩
   · exact .inr ⟨pre', hr, h⟩
end Go.Proofs.YtcimhpdpfckgiaaGreatDoor.kit
namespace Go.Proofs.YtcimhpdpfckgiaaGreatDoor.kit
open Go.ChangeShapes Go.WideShapes Go.ChangeAt Go.RowKit
section
variable {P : Program}
theorem rows_wide {n : Nat} {row : String} {args : Array Value} {w : World} {R : Value → World → Prop} (h : Rows P row args w R) : RowsIn Fence.wide n P row args w R := fun c cs _ => by
 obtain ⟨v, w', h1, h2⟩ := h c cs
 exact ⟨v, w', h1, stepsIn_wide.2 h2⟩
theorem oper_wide {n : Nat} {o : Oper} {a : Act} {w : World} {K : Act → World → Prop} {Q : Exit → Act → World → Prop} (hd : ∀ c, o.op ≠ .defer c) (h : o.wp P a w K Q) : o.wpIn Fence.wide n P a w K Q := by
 unfold Oper.wpIn
 refine ⟨fun _ _ => trivial, ?_⟩
 rw [Oper.semAt_plain Fence.wide _ _ hd]
 unfold Oper.wp at h
 generalize (execOp a.eval o).run P w = r at *
 cases r with
 | ok nx w' =>
   cases nx with
   | value v => exact h
   | skip => exact h
   | defer d => exact h
   | enter f args => exact ⟨fun e => by simp [Fence.wide] at e, callsIn_wide.2 h⟩
   | row rw_ args => exact ⟨fun e => by simp [Fence.wide] at e, rows_wide h⟩
   | _ => exact False.elim h
 | halt hl w' => cases hl <;> exact h
theorem wpAnyIn_of_plain {n : Nat} {ops : Array Oper} {md : Region.Mode} {Q : Exit → Act → World → Prop} (hL : ¬ LetsOut Q) (hnd : ∀ (i : Nat) (o : Oper), ops[i]? = some o → ∀ c, o.op ≠ .defer c) :
 ∀ (fuel : Nat) (listed : Array Bool) (a : Act) (w : World), wpAny P md ops Q fuel listed a w → wpAnyIn Fence.wide n P md ops Q fuel listed a w
 | 0, _, _, _, h => h
 | fuel + 1, listed, a, w, h => by
   refine ⟨h.1, fun i hi => ?_⟩
   have h2 := h.2 i hi
   unfold wpOp at h2
   unfold wpOpIn
   cases ho : ops[i]? with
   | none => simp only [ho] at h2 ⊢; exact wpAnyIn_of_plain hL hnd fuel _ _ _ h2
   | some o =>
     simp only [ho] at h2 ⊢
     by_cases c : Region.wanted o (yielded ops a.tmps) = true
     · simp only [c, if_true] at h2 ⊢
       rcases h2 with h2 | h2
       · exact oper_wide (hnd i o ho) (Oper.wp_mono (fun a' w' h => wpAnyIn_of_plain hL hnd fuel _ a' w' h) h2)
       · exact absurd h2.2 hL
     · simp only [c] at h2 ⊢
       exact ⟨fun _ _ => trivial, wpAnyIn_of_plain hL hnd fuel _ _ _ h2⟩
theorem wpIn_region_held_round {n id : Nat} {S : World → Prop} {Q : Exit → Act → World → Prop} {a : Act} {w : World} {l : List Oper} (k : Nat) (hm : P.follows .mixedOrders = true) (hL : ¬ LetsOut Q) (hd : noDefer l = true) (hS : S w.drew)
 (h : S w.drew → wpAnyH P .any l.toArray Q S l.toArray.size (Array.replicate l.toArray.size false) a w.drew) : (Code.region id l.toArray true).wpIn (Fence.wide.inRound k) n P Q a w := by
 have hnd : ∀ (i : Nat) (o : Oper), l.toArray[i]? = some o → ∀ c, o.op ≠ .defer c := by
  intro i o ho c e
  have hmem : o ∈ l := by
   rw [List.getElem?_toArray] at ho
   exact List.mem_of_getElem? ho
  have := List.all_eq_true.1 hd o hmem
  rw [e] at this
  cases this
 exact wpIn_region_any hm (wpAnyIn_inRound rfl k hnd _ _ _ _ (wpAnyIn_of_plain hL hnd _ _ _ _ (wpAny_of_held _ _ _ _ (h hS))))
end
end Go.Proofs.YtcimhpdpfckgiaaGreatDoor.kit
