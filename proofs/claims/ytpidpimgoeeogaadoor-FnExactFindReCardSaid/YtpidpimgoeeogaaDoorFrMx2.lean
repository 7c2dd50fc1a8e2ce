/-
  The iterator over a set, for a loop that may stop: what was handed to it is where the set's numbers begin. Conditions: the set ends by word 1048576.
-/
import Derived.Test.YtpidpimgoeeogaaDoorMaMx1
import Derived.RangeFuncNested
import Derived.RangeFuncBound
import Derived.RangeFuncCalls
import Derived.RangeFuncLeaves
import Derived.Shelf.Abstract
import Derived.Shelf.RegionOpen
import Derived.OwnWalkIn
import Derived.TacticsInMore
import Derived.LoopNIn
import Derived.LoopIn
namespace Go.Proofs.YtpidpimgoeeogaaDoor.kit
open Go.ChangeShapes Go.WideShapes Go.ChangeAt Go.RowKit Go.Shelf
set_option linter.unusedVariables false
attribute [local go_sem] Oper.semAt_some

set_option maxRecDepth 100000 in
set_option maxHeartbeats 1000000 in
theorem all1p_in (n : Nat) (hn : 2 ≤ n) (l Bs sk : Nat) (ws : List Nat) (a : Option Addr) (c : Nat) (hN : sk + ws.length ≤ 1048576) (hlt : ∀ x ∈ ws, x < 2 ^ 64) (Kp : World → World → Prop) (hKp : ∀ A B, Kp A B → KeepB (SetF Bs a) A B) (J Jx : List Nat → World → Prop)
    (hY : ∀ pre x W, (∃ rest, memL sk ws = pre ++ x :: rest) → J pre W → pre.length < (memL sk ws).length → YieldAt Fence.wide (n - 1) Tryd.prog l #[pV x] W fun e W' =>
      (e = .returned (.bool true) ∧ J (pre ++ [x]) W' ∧ Kp W W') ∨ (e = .returned (.bool false) ∧ Jx (pre ++ [x]) W'))
    (hJd : ∀ pre W, J pre W → J pre W.drew)
    (W : World) (hc0 : W.cell? ⟨Bs, 0, none⟩ = some (.int .i64 (sk : Int))) (hc1 : W.cell? ⟨Bs, 1, none⟩ = some (.slice a ws.length c)) (hw : WordsAt W ws a) (hT : BT W) (h0 : J [] W) :
    CallsIn Fence.wide n Tryd.prog 68 #[.func (.yield l) #[] #[], .pointer (some ⟨Bs, 0, none⟩)] W fun e W' => (∃ v, e = .returned v) ∧
      ((∃ ys, ys = memL sk ws ∧ J ys W') ∨ (∃ pre, True ∧ Jx pre W')) := by
  have HY := Lib.hid hY
  have HKP := Lib.hid hKp
  have HJ := Lib.hid hJd
  have HW := Lib.hid hw
  have HT := Lib.hid hT
  have HLT := Lib.hid hlt
  have HC0 := Lib.hid hc0
  obtain ⟨m, hm⟩ : ∃ m, m = ws.length := ⟨_, rfl⟩
  have HM := Lib.hid hm
  rw [← hm] at hc1 hN
  clear hY hJd hw hKp hT hlt hm
  refine callsIn_of_wp Tryd.func68 rfl trivial ?_ rfl
  simp only [Tryd.ntmps68, List.size_toArray, List.length_cons, List.length_nil, Nat.reduceAdd, Nat.reduceSub, Array.replicate_succ, Array.replicate_zero, List.push_toArray, List.append_toArray, List.nil_append, List.cons_append]
  gi_wp2
  gi_loopw [8] (fun iv wr => ∃ i : Nat, i ≤ m ∧ iv = .int .i64 (i : Int) ∧ J (memL sk (ws.take i)) wr ∧ KeepB (SetF Bs a) W wr)
    (fun iv _ => m - (intOf iv).toNat)
  case atStart => exact ⟨0, Nat.zero_le _, rfl, by simpa [memL] using h0, KeepB.refl _ _⟩
  case round =>
    obtain ⟨i, hi, rfl, hJs, hk⟩ := hrel
    have HJs := Lib.hid hJs
    have HK := Lib.hid hk
    clear hJs hk hc1
    by_cases hlt : i < m
    · have hil : i < ws.length := by have := HM.out; omega
      obtain ⟨bb, hbb, _, d0⟩ := (HW.out.keep (fun p hp => HK.out _ (.inr (.inr ⟨p, hp, rfl⟩)))) i hil
      have hbb' : a = some ⟨bb, 0, none⟩ := hbb
      subst hbb'
      have HXL := Lib.hid (HLT.out ws[i] (List.getElem_mem hil))
      have HSN := Lib.hid (memL_snoc sk ws i hil)
      obtain ⟨rest, hrest⟩ := memL_cut sk ws (i + 1)
      have HREST := Lib.hid hrest
      generalize ws[i] = y at *
      have j0 : (0 : Int) ≤ (i : Int) := by omega
      have j1 : (i : Int) < (m : Int) := by omega
      have HI := Lib.hid (show i + 1 ≤ m ∧ m ≤ 1048576 ∧ sk ≤ 1048576 ∧ sk + m ≤ 1048576 by omega)
      clear hil hi hbb hrest
      gi_wp2
      gi_loopw [4] (fun xv wq => ∃ (x : Nat) (done : List Nat), xv = .int .u64 (x : Int) ∧ x < 2 ^ 64 ∧ bitsN y = done ++ bitsN x ∧ J (memL sk (ws.take i) ++ done.map (fun b => (sk + i) * 64 + b)) wq ∧ KeepB (SetF Bs (some ⟨bb, 0, none⟩)) W wq)
        (fun xv _ => (intOf xv).toNat)
      case atStart => exact ⟨y, [], rfl, HXL.out, rfl, by simpa using HJs.out, HK.out⟩
      case round =>
        obtain ⟨x, done, rfl, hx, hd, hJ2, hk2⟩ := hrel
        have HK2 := Lib.hid hk2
        have HJ2 := Lib.hid hJ2
        have HD := Lib.hid hd
        have HX := Lib.hid hx
        clear hk2 hJ2 hd hx
        by_cases hx0 : x = 0
        · subst hx0
          have hz : (((0 : Nat) : Int) != 0) = false := rfl
          have HNX := Lib.hid (show J (memL sk (ws.take (i + 1))) wr from by
            rw [HSN.out, HD.out, bitsN_zero, List.append_nil]; exact HJ2.out)
          gi_wp2
          go_roundw
          case measure => simp [intOf]; have := HI.out; omega
          case rel => exact ⟨i + 1, HI.out.1, by go_num, HNX.out, HK2.out⟩
        · obtain ⟨t, ht⟩ : ∃ t, t = Lib.ctz 64 x := ⟨_, rfl⟩
          obtain ⟨e, he⟩ : ∃ e, e = (sk + i) * 64 + t := ⟨_, rfl⟩
          obtain ⟨z, hz⟩ : ∃ z, z = x &&& (x - 1) := ⟨_, rfl⟩
          have htb : t < 64 := by rw [ht]; obtain ⟨_, _, h⟩ := ctz_form x hx0 HX.out; exact h
          have hxz : ((x : Int) != 0) = true := by rw [bne_iff_ne]; omega
          have HTZ := Lib.hid (fun W h => tz_any x HX.out hx0 W h)
          rw [← ht] at HTZ
          have HNX := Lib.hid (show bitsN x = t :: bitsN z by rw [bitsN_next x hx0, ← ht, ← hz])
          have HZX := Lib.hid (show z < x by rw [hz]; exact and_pred_lt x hx0)
          have s0 := word_sub HX.out hx0
          obtain ⟨p, hp⟩ : ∃ p, p = x - 1 := ⟨_, rfl⟩
          rw [← hp] at s0
          have hand : bits .and .u64 (x : Int) (p : Int) = (z : Int) := by rw [hz, ← hp]; exact bits_and64 x p HX.out (by rw [hp]; have := HX.out; omega)
          obtain ⟨k, hk⟩ : ∃ k, k = sk + i := ⟨_, rfl⟩
          obtain ⟨k64, hk64⟩ : ∃ k64, k64 = k * 64 := ⟨_, rfl⟩
          have hkb := HI.out
          have s1 : IntKind.i64.wrap ((sk : Int) + (i : Int)) = (k : Int) := by rw [IntKind.wrap_i64]; omega
          have s2 : IntKind.i64.wrap ((k : Int) * 64) = (k64 : Int) := by rw [IntKind.wrap_i64]; omega
          have s3 : IntKind.i64.wrap ((k64 : Int) + (t : Int)) = (e : Int) := by rw [IntKind.wrap_i64]; omega
          have HE := Lib.hid (show (sk + i) * 64 + t = e from he.symm)
          have c0 := (World.cell?_of_block (a := ⟨Bs, 0, none⟩) (HK2.out _ (.inl rfl))).trans HC0.out
          have HTW := Lib.hid (HT.out.of (HK2.out _ (.inr (.inl rfl))))
          have HLEN := Lib.hid (show (memL sk (ws.take i) ++ done.map (fun b => (sk + i) * 64 + b)).length < (memL sk ws).length from by
            rw [HREST.out, HSN.out, HD.out, HNX.out]; simp)
          have HMEM := Lib.hid (show ∃ rest', memL sk ws = (memL sk (ws.take i) ++ done.map (fun b => (sk + i) * 64 + b)) ++ e :: rest' from
            ⟨(bitsN z).map (fun b => (sk + i) * 64 + b) ++ rest, by rw [HREST.out, HSN.out, HD.out, HNX.out, he]; simp⟩)
          clear hx0 ht he hz hp hk hk64 hkb htb
          obtain ⟨pre, hpre⟩ : ∃ pre, pre = memL sk (ws.take i) ++ done.map (fun b => (sk + i) * 64 + b) := ⟨_, rfl⟩
          rw [← hpre] at HLEN HJ2 HMEM
          have HPRE := Lib.hid hpre
          clear hpre
          obtain ⟨fn, tmps, assign, body, hy, hR⟩ := HY.out pre e wr.drew HMEM.out (HJ.out _ _ HJ2.out) HLEN.out
          have HR := Lib.hid hR
          clear hR
          unfold pV at hy
          gi_wp2
          gi_region_with (first | (refine ⟨trivial, fun _ => by omega, ?_⟩; refine (callsIn_wide.2 (HTZ.out _ (by first | exact HTW.out | exact HTW.out.of rfl))).mono ?_; rintro e w' ⟨rfl, rfl⟩) | (refine ⟨fun _ => by omega, ?_⟩; refine HR.out.mono ?_; intro e W3 hh; obtain ⟨b, rfl, hb1, hb2⟩ := two_way hh; have HB1 := Lib.hid hb1; have HB2 := Lib.hid hb2; clear hh hb1 hb2))
          all_goals cases b
          all_goals gi_wp2
          all_goals first
            | (refine bodyPost_ret (results_none rfl _ _ _) rfl ?_; first | exact ⟨⟨_, rfl⟩, .inr ⟨_, HB2.out (by first | rfl | trivial)⟩⟩ | exact ⟨⟨_, rfl⟩, .inr ⟨_, trivial, HB2.out (by first | rfl | trivial)⟩⟩)
            | (refine ⟨⟨z, done ++ [t], rfl, Nat.lt_trans HZX.out HX.out, by rw [HD.out, HNX.out, List.append_assoc]; rfl, ?_, KeepB.trans (show KeepB (SetF Bs (some ⟨bb, 0, none⟩)) W wr.drew from HK2.out) (HKP.out _ _ (HB1.out (by first | rfl | trivial)).2)⟩, by simp only [intOf, Int.toNat_natCast]; exact HZX.out⟩
               have h := (HB1.out (by first | rfl | trivial)).1
               rw [HPRE.out, ← HE.out, List.append_assoc] at h
               rw [List.map_append]
               exact h)
    · obtain rfl : i = m := by omega
      have HNX := Lib.hid (show J (memL sk ws) wr from by have h := HJs.out; rw [List.take_of_length_le (by have := HM.out; omega)] at h; exact h)
      gi_wp2
      go_end0
      first | exact ⟨⟨_, rfl⟩, .inl HNX.out⟩ | exact ⟨⟨_, rfl⟩, .inl ⟨_, rfl, HNX.out⟩⟩
/-- It is an iterator over the set's numbers, for any loop that keeps what it reads. -/
theorem allp_stops (n : Nat) (hn : 2 ≤ n) (Bs sk : Nat) (ws : List Nat) (a : Option Addr) (c : Nat) (hN : sk + ws.length ≤ 1048576) (hlt : ∀ x ∈ ws, x < 2 ^ 64) (Kp : World → World → Prop) (hKp : ∀ A B, Kp A B → KeepB (SetF Bs a) A B) (w : World) (hBs : Bs < w.heap.size)
    (hc0 : w.cell? ⟨Bs, 0, none⟩ = some (.int .i64 (sk : Int))) (hc1 : w.cell? ⟨Bs, 1, none⟩ = some (.slice a ws.length c)) (hw : WordsAt w ws a) (hT : BT w) :
    SeqStopsK Fence.wide n Tryd.prog 68 #[.pointer (some ⟨Bs, 0, none⟩)] (fun x : {x : Nat // x ∈ memL sk ws} => #[pV x.1]) Kp (fun ys => ys.map (·.1) = memL sk ws) (fun ys => ∃ rest, memL sk ws = ys.map (·.1) ++ rest) (memL sk ws).length w := fun l J Jx W hW hJ _ hY h0 => by
  refine (all1p_in n hn l Bs sk ws a c hN hlt Kp hKp (fun pre W => ∃ pre' : List {x : Nat // x ∈ memL sk ws}, pre'.map (·.1) = pre ∧ J pre' W) (fun pre W => ∃ pre' : List {x : Nat // x ∈ memL sk ws}, pre'.map (·.1) = pre ∧ Jx pre' W ∧ ∃ rest, memL sk ws = pre'.map (·.1) ++ rest) ?_ (fun pre W ⟨pre', e, h⟩ => ⟨pre', e, hJ pre' W W.drew none h ⟨rfl, rfl, rfl, Nat.le_refl _, fun _ _ _ => rfl⟩ (fun r e => by cases e)⟩) W ((hW.cell (p := ⟨Bs, 0, none⟩) hBs).trans hc0) ((hW.cell (p := ⟨Bs, 1, none⟩) hBs).trans hc1) (hw.kept hW) (hT.kept hW) ⟨[], rfl, h0⟩).mono ?_
  · rintro pre x W' ⟨rest, hp⟩ ⟨pre', e, h⟩ hlen
    have hx : x ∈ memL sk ws := by rw [hp]; simp
    obtain ⟨fn, tmps, assign, body, hy, hR⟩ := hY pre' ⟨x, hx⟩ W' h (by rw [← List.length_map (·.1), e]; exact hlen)
    refine ⟨fn, tmps, assign, body, hy, hR.mono ?_⟩
    rintro en W2 (⟨he, h2, h3⟩ | ⟨he, h2⟩)
    · exact .inl ⟨he, ⟨_, by rw [List.map_append, e]; rfl, h2⟩, h3⟩
    · exact .inr ⟨he, ⟨_, by rw [List.map_append, e]; rfl, h2, ⟨rest, hp.trans (by rw [List.map_append, e]; simp)⟩⟩⟩
  · rintro en W' ⟨hv, h⟩
    refine ⟨hv, ?_⟩
    rcases h with ⟨ys, hys, pre', e, h⟩ | ⟨pre, _, pre', _, h, hr⟩
    · exact .inl ⟨pre', e.trans hys, h⟩
    · exact .inr ⟨pre', hr, h⟩
end Go.Proofs.YtpidpimgoeeogaaDoor.kit
