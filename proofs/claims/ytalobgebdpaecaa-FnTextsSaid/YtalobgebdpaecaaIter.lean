/-
  Contracts of impl.partsOf and of the iterator that it makes, over this seat's translation: the iterator hands the parts of the text between its marks to whatever loop keeps what lay before. Conditions: the text has at most 1048576 bytes, there are at most 1000 marks.
-/
import Derived.Test.YtalobgebdpaecaaCutS
import Derived.Test.YtalobgebdpaecaaHas
import Derived.RangeFuncNested
import Derived.RangeFuncBound
import Derived.RangeFuncCalls
import Derived.RangeFuncLeaves
import Derived.Shelf.Abstract
import Derived.Shelf.RegionOpen
import Derived.OwnWalkIn
import Derived.TacticsInMore
import Derived.LoopNIn
import Derived.LoopIn
namespace Go.Proofs.Ytalobgebdpaecaa.kit
open Go.ChangeShapes Go.WideShapes Go.ChangeAt Go.RowKit Go.Shelf
set_option linter.unusedVariables false
attribute [local go_sem] Oper.semAt_some

theorem below_drewN (w : World) (n : Nat) (B : Nat) : Below B w (w.drewN n) := ⟨rfl, rfl, rfl, Nat.le_refl _, fun _ _ => rfl⟩

/-- Three blocks lie as they lay. -/
def K3 (a b c : Nat) (W W' : World) : Prop := W'.heap[a]? = W.heap[a]? ∧ W'.heap[b]? = W.heap[b]? ∧ W'.heap[c]? = W.heap[c]?
theorem K3.refl (a b c : Nat) (W : World) : K3 a b c W W := ⟨rfl, rfl, rfl⟩
theorem K3.trans {a b c : Nat} {A B C : World} (h : K3 a b c A B) (k : K3 a b c B C) : K3 a b c A C := ⟨k.1.trans h.1, k.2.1.trans h.2.1, k.2.2.trans h.2.2⟩
theorem K3.of_below {a b c n₀ : Nat} {A B : World} (h : Below n₀ A B) (ha : a < n₀) (hb : b < n₀) (hc : c < n₀) : K3 a b c A B := ⟨h.block a ha, h.block b hb, h.block c hc⟩

set_option maxRecDepth 100000 in
set_option maxHeartbeats 2000000 in
theorem parts1_in (n : Nat) (hn : 2 ≤ n) (l Bs Bm mb cap : Nat) (s : ByteArray) (m : List UInt8) (hs : s.size ≤ 1048576) (hm : m.length ≤ 1000) (Kp : World → World → Prop) (hKp : ∀ A B, Kp A B → K3 Bs Bm mb A B) (J Jx : List (List UInt8) → World → Prop)
    (hY : ∀ pre x W, J pre W → pre.length < s.size + 1 → YieldAt Fence.wide (n - 1) Try.prog l #[eS x] W fun e W' =>
      (e = .returned (.bool true) ∧ J (pre ++ [x]) W' ∧ Kp W W') ∨ (e = .returned (.bool false) ∧ Jx (pre ++ [x]) W'))
    (hJd : ∀ pre W, J pre W → J pre W.drew)
    (W : World) (hcs : W.cell? ⟨Bs, 0, none⟩ = some (.string s)) (hcm : W.cell? ⟨Bm, 0, none⟩ = some (.slice (some ⟨mb, 0, none⟩) m.length cap)) (hc : CellsAt W mb m) (h0 : J [] W) :
    CallsIn Fence.wide n Try.prog 67 #[.func (.yield l) #[] #[], .pointer (some ⟨Bs, 0, none⟩), .pointer (some ⟨Bm, 0, none⟩)] W fun e W' => (∃ v, e = .returned v) ∧
      ((∃ ys, ys = parts (hasB m) s.data.toList ∧ J ys W') ∨ (∃ pre, True ∧ Jx pre W')) := by
  have HY := Lib.hid hY
  have HKP := Lib.hid hKp
  have HJ := Lib.hid hJd
  have HC := Lib.hid hc
  clear hY hJd hc hKp
  refine callsIn_of_wp Try.func67 rfl trivial ?_ rfl
  simp only [Try.ntmps67, List.size_toArray, List.length_cons, List.length_nil, Nat.reduceAdd, Nat.reduceSub, Array.replicate_succ, Array.replicate_zero, List.push_toArray, List.append_toArray, List.nil_append, List.cons_append]
  gi_wp2
  gi_loopw [4, 8] (fun b i wr => ∃ k : Nat, k ≤ s.size ∧ i = .int .i64 k ∧ b = .int .i64 ((cs (hasB m) s.data.toList k).2 : Int) ∧ J (cs (hasB m) s.data.toList k).1 wr ∧ K3 Bs Bm mb W wr)
    (fun _ i _ => s.size - (intOf i).toNat)
  case atStart => exact ⟨0, Nat.zero_le _, rfl, rfl, h0, K3.refl _ _ _ _⟩
  case round =>
    obtain ⟨k, hk, rfl, rfl, hJs, hnx⟩ := hrel
    have hbd := cs_bd (hasB m) s.data.toList k
    obtain ⟨hbd1, hbd2⟩ := hbd
    have hcs' : wr.cell? ⟨Bs, 0, none⟩ = some (.string s) := (World.cell?_of_block (w := W) (a := ⟨Bs, 0, none⟩) hnx.1).trans hcs
    have hcm' : wr.cell? ⟨Bm, 0, none⟩ = some (.slice (some ⟨mb, 0, none⟩) m.length cap) := (World.cell?_of_block (w := W) (a := ⟨Bm, 0, none⟩) hnx.2.1).trans hcm
    have HC' : Hid (CellsAt wr mb m) := Lib.hid (fun j h => (World.cell?_of_block (w := W) (a := ⟨mb, j, none⟩) hnx.2.2).trans (HC.out j h))
    have HX := Lib.hid hnx
    have HJs := Lib.hid hJs
    clear hcs hcm hnx hJs
    by_cases hlt : k < s.size
    · have hga := getD_at s k hlt
      have i0 : (0 : Int) ≤ (k : Int) := by omega
      have i1 : (k : Int) < (s.size : Int) := by omega
      cases a1 : hasB m (s.data.toList.getD k 0)
      · have HN := Lib.hid (cs_no (l := s.data.toList) (k := k) a1)
        generalize s.data.toList.getD k 0 = c at *
        generalize (cs (hasB m) s.data.toList k) = x at *
        gi_wp2
        gi_region_with (refine ⟨trivial, fun _ => by omega, ?_⟩; refine (callsIn_wide.2 (contains_any m c mb cap _ _ (by exact HC'.out) rfl hm)).mono ?_; rintro e w' ⟨rfl, rfl⟩)
        all_goals gi_wp2
        all_goals
          go_roundw
          case rel => exact ⟨k + 1, by omega, by go_num, by rw [HN.out], by rw [HN.out]; exact HJ.out _ _ HJs.out, HX.out⟩
          case measure => simp [intOf]; omega
      · have HN := Lib.hid (cs_yes (l := s.data.toList) (k := k) a1)
        generalize s.data.toList.getD k 0 = c at *
        generalize (cs (hasB m) s.data.toList k) = x at *
        obtain ⟨xs, f⟩ := x
        simp only at *
        have hsl : ∀ (W : World), (Instr.slice 9 (.string s) (some (.int .i64 (f : Int))) (some (.int .i64 (k : Int))) none).run Try.prog W = .ok (eS ((s.data.toList.take k).drop f)) W := by
          intro W
          rw [run_slice_string W _ s .i64 .i64 _ _ Try.underlying9 (by omega) (by omega) (by omega), Int.toNat_natCast, Int.toNat_natCast, extract_drop]; rfl
        generalize (s.data.toList.take k).drop f = new at *
        obtain ⟨fn, tmps, assign, body, hy, hR⟩ := HY.out xs new wr.drew (HJ.out _ _ HJs.out) (by omega)
        have HR := Lib.hid hR
        clear hR
        unfold eS at hsl
        simp only [eS] at hy
        gi_wp2
        gi_region_with (refine ⟨trivial, fun _ => by omega, ?_⟩; refine (callsIn_wide.2 (contains_any m c mb cap _ _ (by exact HC'.out) rfl hm)).mono ?_; rintro e w' ⟨rfl, rfl⟩)
        all_goals gi_wp2
        all_goals
          refine ⟨fun _ => by omega, ?_⟩
          refine HR.out.mono ?_
          rintro e W3 (⟨rfl, hJ3, hk3⟩ | ⟨rfl, hJx3⟩)
          · gi_wp2
            go_roundw
            case rel => exact ⟨k + 1, by omega, by go_num, by rw [HN.out]; go_num, by rw [HN.out]; exact hJ3, K3.trans (show K3 Bs Bm mb W wr.drew from HX.out) (HKP.out _ _ hk3)⟩
            case measure => simp [intOf]; omega
          · gi_wp2
            refine bodyPost_ret (results_none rfl _ _ _) rfl ?_
            exact ⟨⟨_, rfl⟩, .inr ⟨_, trivial, hJx3⟩⟩
    · obtain rfl : k = s.size := by omega
      have hlen : s.data.toList.length = s.size := by simp
      have HN : Hid (parts (hasB m) s.data.toList = (cs (hasB m) s.data.toList s.size).1 ++ [s.data.toList.drop (cs (hasB m) s.data.toList s.size).2]) := Lib.hid (by rw [parts, hlen])
      generalize (cs (hasB m) s.data.toList s.size) = x at *
      clear hlen
      obtain ⟨xs, f⟩ := x
      simp only at *
      have hsl : ∀ (W : World), (Instr.slice 9 (.string s) (some (.int .i64 (f : Int))) none none).run Try.prog W = .ok (eS (s.data.toList.drop f)) W := by
        intro W
        rw [run_slice_string_from_if W _ s .i64 _ Try.underlying9, if_pos ⟨by omega, by omega⟩, Int.toNat_natCast, extract_drop, List.take_of_length_le (by simp)]; rfl
      generalize s.data.toList.drop f = new at *
      obtain ⟨fn, tmps, assign, body, hy, hR⟩ := HY.out xs new wr HJs.out (by omega)
      have HR := Lib.hid hR
      clear hR
      unfold eS at hsl
      simp only [eS] at hy
      gi_wp2
      refine ⟨fun _ => by omega, ?_⟩
      refine HR.out.mono ?_
      rintro e W3 (⟨rfl, hJ3, hk3⟩ | ⟨rfl, hJx3⟩)
      · gi_wp2
        go_end0
        exact ⟨⟨_, rfl⟩, .inl ⟨_, HN.out.symm, hJ3⟩⟩
      · gi_wp2
        go_end0
        exact ⟨⟨_, rfl⟩, .inr ⟨_, trivial, hJx3⟩⟩

/-- impl.partsOf boxes its two arguments; the function value captures the boxes. -/
theorem partsOf_in (n : Nat) (s : ByteArray) (a : Option Addr) (len cap : Nat) (w : World) :
    CallsIn Fence.wide n Try.prog 45 #[.string s, .slice a len cap] w fun e w' => e = .returned (.func (.func 67) #[] #[.pointer (some ⟨w.heap.size, 0, none⟩), .pointer (some ⟨w.heap.size + 1, 0, none⟩)]) ∧ w' = (w.alloc (.cells #[.string s] 9)).alloc (.cells #[.slice a len cap] 22) := by
  refine callsIn_of_wp Try.func45 rfl trivial ?_ rfl
  simp only [Try.ntmps45, List.size_toArray, List.length_cons, List.length_nil, Nat.reduceAdd, Nat.reduceSub, Array.replicate_succ, Array.replicate_zero, List.push_toArray, List.append_toArray, List.nil_append, List.cons_append]
  gi_wp2
  go_ret
  exact ⟨rfl, rfl⟩

/-- What it hands back is an iterator over the parts. -/
theorem parts_stops (n : Nat) (hn : 2 ≤ n) (Bs Bm mb n₀ cap : Nat) (s : ByteArray) (m : List UInt8) (hs : s.size ≤ 1048576) (hm : m.length ≤ 1000) (hBs : Bs < n₀) (hBm : Bm < n₀) (hmb : mb < n₀) (w : World) (hn₀ : n₀ ≤ w.heap.size)
    (hcs : w.cell? ⟨Bs, 0, none⟩ = some (.string s)) (hcm : w.cell? ⟨Bm, 0, none⟩ = some (.slice (some ⟨mb, 0, none⟩) m.length cap)) (hc : CellsAt w mb m) :
    SeqStopsK Fence.wide n Try.prog 67 #[.pointer (some ⟨Bs, 0, none⟩), .pointer (some ⟨Bm, 0, none⟩)] (fun x : List UInt8 => #[eS x]) (Below n₀) (fun ys => ys = parts (hasB m) s.data.toList) (fun _ => True) (s.size + 1) w := fun l J Jx W hW hJ _ hY h0 =>
  parts1_in n hn l Bs Bm mb cap s m hs hm (Below n₀) (fun A B h => K3.of_below h hBs hBm hmb) J Jx hY (fun pre W h => hJ pre W W.drew none h ⟨rfl, rfl, rfl, Nat.le_refl _, fun _ _ _ => rfl⟩ (fun r e => by cases e)) W ((hW.cell (p := ⟨Bs, 0, none⟩) (Nat.lt_of_lt_of_le hBs hn₀)).trans hcs) ((hW.cell (p := ⟨Bm, 0, none⟩) (Nat.lt_of_lt_of_le hBm hn₀)).trans hcm) (fun j h => (hW.cell (p := ⟨mb, j, none⟩) (Nat.lt_of_lt_of_le hmb hn₀)).trans (hc j h)) h0

/-- The same for a loop that keeps the three blocks alone. -/
theorem parts_stops3 (n : Nat) (hn : 2 ≤ n) (Bs Bm mb cap : Nat) (s : ByteArray) (m : List UInt8) (hs : s.size ≤ 1048576) (hm : m.length ≤ 1000) (w : World) (hBs : Bs < w.heap.size) (hBm : Bm < w.heap.size) (hmb : mb < w.heap.size)
    (hcs : w.cell? ⟨Bs, 0, none⟩ = some (.string s)) (hcm : w.cell? ⟨Bm, 0, none⟩ = some (.slice (some ⟨mb, 0, none⟩) m.length cap)) (hc : CellsAt w mb m) :
    SeqStopsK Fence.wide n Try.prog 67 #[.pointer (some ⟨Bs, 0, none⟩), .pointer (some ⟨Bm, 0, none⟩)] (fun x : List UInt8 => #[eS x]) (K3 Bs Bm mb) (fun ys => ys = parts (hasB m) s.data.toList) (fun _ => True) (s.size + 1) w := fun l J Jx W hW hJ _ hY h0 =>
  parts1_in n hn l Bs Bm mb cap s m hs hm (K3 Bs Bm mb) (fun A B h => h) J Jx hY (fun pre W h => hJ pre W W.drew none h ⟨rfl, rfl, rfl, Nat.le_refl _, fun _ _ _ => rfl⟩ (fun r e => by cases e)) W ((hW.cell (p := ⟨Bs, 0, none⟩) hBs).trans hcs) ((hW.cell (p := ⟨Bm, 0, none⟩) hBm).trans hcm) (fun j h => (hW.cell (p := ⟨mb, j, none⟩) hmb).trans (hc j h)) h0
end Go.Proofs.Ytalobgebdpaecaa.kit
