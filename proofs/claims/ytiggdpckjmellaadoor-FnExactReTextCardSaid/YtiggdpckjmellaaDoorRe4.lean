/-
  Contract of laws.toReS over this seat's translation, and with it that of laws.toRe: a tree of expressions is copied into new memory. Conditions: each theorem names its own.
-/
import Derived.Test.YtiggdpckjmellaaDoorRe3
import Derived.Laws.MakeOwn
namespace Go.Proofs.YtiggdpckjmellaaDoor.kit
open Go.ChangeShapes Go.WideShapes Go.ChangeAt Go.RowKit
set_option linter.unusedVariables false

theorem infoRe : (Tryd.prog.info? 35).map (fun i => (i.zero, i.size, i.bytes)) = some (some (.agg #[.int .i64 0, .string ⟨#[]⟩, .bool false, .int .i64 0, .int .i64 0, .slice none 0 0]), 6, 72) := by kernel_rfl
theorem make_res (w : World) (n : Nat) (hn : n ≤ 1048576) : ∃ cs : Array Value, cs.size = n * 6 ∧
    (Instr.makeSlice 33 (.int .i64 (n : Int)) (.int .i64 (n : Int))).run Tryd.prog w = .ok (.slice (some ⟨w.heap.size, 0, none⟩) n n) (w.alloc (.cells cs 35)) := by
  obtain ⟨i0, hi, hz0, hz1, hz2⟩ := info_parts infoRe
  have h := run_make (P := Tryd.prog) w 33 35 i0 _ Tryd.underlying33 hi hz0 .i64 .i64 n n (by omega) (by omega) (by rw [hz2]; omega) (by omega)
  rw [hz1] at h
  exact ⟨_, size_madeCells _ _, by simpa using h⟩
theorem Half.start {w : World} {n : Nat} {cs : Array Value} {e : TypeId} (hcs : cs.size = n * 6) (ts : List RT) : Half w.heap.size n 0 ts (w.alloc (.cells cs e)) := by
  refine ⟨by simp, fun j hj => ⟨?_, ?_⟩, fun i hi hk => by omega⟩
  · rw [World.cell?_alloc_at _ _ _ _ rfl]
    simp [show j < cs.size by omega]
  · have hb : (w.alloc (.cells cs e)).heap[w.heap.size]? = some (.cells cs e) := heap_alloc_new w _
    simp only [World.frozen?, hb]
    simp
def Half' (g k : Nat) (ts : List RT) (w : World) : Prop := Half g ts.length k ts w
set_option maxRecDepth 100000 in
set_option maxHeartbeats 1000000 in
theorem toAll_of {ts : List RT} (h : ∀ t ∈ ts, ToOne t) : ToAll ts := by
  intro a cap w hk hbill
  have HK := Lib.hid hk
  have HS := Lib.hid h
  clear hk h
  have hl : ts.length ≤ 1048576 := by simp only [RT.bill] at hbill; omega
  obtain ⟨cs, hcs, hmk⟩ := make_res w ts.length hl
  have H0 := Lib.hid (Half.start (w := w) (e := 35) hcs ts)
  go_enter Tryd.func84, Tryd.ntmps84
  go_wp2_with fail
  go_loopw [4] (fun i wr => ∃ k : Nat, k ≤ ts.length ∧ i = .int .i64 (k : Int) ∧ Half w.heap.size ts.length k ts wr ∧ Below w.heap.size w wr) (fun i _ => ts.length - (intOf i).toNat)
  case atStart => exact ⟨0, Nat.zero_le _, rfl, H0.out, (Below.refl _ _).alloc (Nat.le_refl _) _⟩
  case round =>
    obtain ⟨k, hkl, rfl, hh, hb⟩ := hrel
    have HB := Lib.hid hb
    have HH := Lib.hid hh
    clear hb hh
    by_cases hlt : k < ts.length
    · obtain ⟨a', cap', he, hk'⟩ := (HK.out.kept (Nat.le_refl _) HB.out).elem k hlt
      obtain ⟨b, o, rfl, _, hbl, e0, e1, e2, e3, e4, e5, f0, f1⟩ := he
      have HO := Lib.hid (HS.out ts[k] (List.getElem_mem hlt))
      have hcost : RT.cost ts[k] ≤ 1048576 := by
        have h1 := RT.costs_take ts k hlt
        have h2 := RT.costs_le ts (k + 1)
        simp only [RT.bill] at hbill; omega
      have HN := Lib.hid (fun W (hw : Half w.heap.size ts.length k ts W) a cap hK => hw.store hlt rfl a cap hK f0 f1)
      generalize ts[k] = t at *
      have HK' := Lib.hid hk'
      clear hk'
      go_wp2_with fail
      refine (HO.out _ _ _ HK'.out hcost).mono ?_
      rintro e w1 ⟨a2, cap2, rfl, hk2, hb1⟩
      have hh1 := HH.out.kept hb1
      have hg := HH.out.1
      have q0 := hh1.2.1 (k * 6) (by omega)
      have q1 := hh1.2.1 (k * 6 + 1) (by omega)
      have q2 := hh1.2.1 (k * 6 + 2) (by omega)
      have q3 := hh1.2.1 (k * 6 + 3) (by omega)
      have q4 := hh1.2.1 (k * 6 + 4) (by omega)
      have q5 := hh1.2.1 (k * 6 + 5) (by omega)
      obtain ⟨q0, p0⟩ := q0
      obtain ⟨q1, p1⟩ := q1
      obtain ⟨q2, p2⟩ := q2
      obtain ⟨q3, p3⟩ := q3
      obtain ⟨q4, p4⟩ := q4
      obtain ⟨q5, p5⟩ := q5
      obtain ⟨y0, q0⟩ := Option.isSome_iff_exists.1 q0
      obtain ⟨y1, q1⟩ := Option.isSome_iff_exists.1 q1
      obtain ⟨y2, q2⟩ := Option.isSome_iff_exists.1 q2
      obtain ⟨y3, q3⟩ := Option.isSome_iff_exists.1 q3
      obtain ⟨y4, q4⟩ := Option.isSome_iff_exists.1 q4
      obtain ⟨y5, q5⟩ := Option.isSome_iff_exists.1 q5
      have HF := Lib.hid (HN.out w1 hh1 a2 cap2 (hk2.mono (by omega)))
      have HB1 := Lib.hid (HB.out.trans (hb1.mono HB.out.size))
      clear hk2 hb1 hh1
      unfold reV
      go_wp2_with fail
      go_roundw
      case rel => exact ⟨k + 1, by omega, by go_num, HF.out, set6_below HB1.out _ _ _ _ _ (Nat.le_refl _)⟩
      case measure => simp [intOf]; omega
    · obtain rfl : k = ts.length := by omega
      go_wp2_with fail
      go_ret
      exact ⟨_, _, rfl, HH.out.all rfl, HB.out⟩
theorem toAll_all : ∀ (N : Nat) (ts : List RT), RT.szs ts ≤ N → ToAll ts := by
  intro N
  induction N with
  | zero => intro ts h; exact toAll_of fun t ht => by have := RT.sz_mem ts t ht; have := RT.sz_pos t; omega
  | succ N ih => intro ts h; exact toAll_of fun t ht => toOne_of (ih _ (by have := RT.sz_mem ts t ht; have := RT.sz_eq t; omega))
theorem toRe_any (t : RT) : ToOne t := toOne_of (toAll_all _ _ (Nat.le_refl _))
end Go.Proofs.YtiggdpckjmellaaDoor.kit
