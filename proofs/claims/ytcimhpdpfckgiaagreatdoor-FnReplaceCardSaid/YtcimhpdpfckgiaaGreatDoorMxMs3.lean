/-
  Contract of spec.l04Takes over this seat's translation: whether an expression of one byte takes one. Conditions: a set of at most 1048576 bytes.
-/
import Derived.Test.YtcimhpdpfckgiaaGreatDoorMxMw1
import Derived.Test.YtcimhpdpfckgiaaGreatDoorMxIdx
import Derived.Test.YtcimhpdpfckgiaaGreatDoorMxRe1
import Derived.Lib.IndexAny
set_option linter.unusedVariables false
set_option linter.unusedSimpArgs false
namespace Go.Proofs.YtcimhpdpfckgiaaGreatDoor.kit
open Go.ChangeShapes Go.WideShapes Go.ChangeAt Go.RowKit
theorem idx_has (s : ByteArray) (b : UInt8) : decide (0 < idxOf s ⟨#[b]⟩) = s.data.toList.contains b := by
 unfold idxOf
 by_cases h0 : s.size = 0
 · have e : s.data.toList = [] := List.length_eq_zero_iff.1 (by simpa using h0)
   rw [if_pos h0, e]; rfl
 · rw [if_neg h0, Lib.contains_iff_indexByte]
   have e := Lib.index_one s.data.toList b
   rw [show (⟨#[b]⟩ : ByteArray).data.toList = [b] from rfl, e]
   congr 1
   rw [eq_iff_iff]; omega
theorem step_byte1 {w : World} {ops : Array Oper} {o : Oper} {a : Act} {K : Act → World → Prop} {Q : Exit → Act → World → Prop} {E : Prop} (hw : Region.wanted o (yielded ops a.tmps) = true) (x : Operand) (b : UInt8) (ho : o.op = .buildSlice 22 1 #[(0, x)]) (hx : a.eval x = .int .u8 (b.toNat : Int))
 (h : ∀ w' g, (∀ j (hj : j < [b].length), w'.cell? ((⟨g, 0, none⟩ : Addr).add j) = some (.int .u8 ([b][j].toNat : Int))) → g < w'.heap.size → Below w.heap.size w w' → K (a.put o.dst (.slice (some ⟨g, 0, none⟩) 1 1)) w') : if Region.wanted o (yielded ops a.tmps) = true then Oper.wp Tryz.prog o a w K Q else E := by
 rw [if_pos hw]
 have hrun : (Instr.buildSlice 22 1 #[(0, .int .u8 (b.toNat : Int))]).run Tryz.prog w = .ok (.slice (some ⟨w.heap.size, 0, none⟩) 1 1) (w.alloc (.cells #[.int .u8 (b.toNat : Int)] 5)) := by go_simp
 unfold Oper.wp execOp
 simp only [ho, Sem.run_bind, List.map_toArray, List.map_nil, List.map_cons, hx, hrun, Result.andThen_ok]
 refine h _ _ (fun j hj => ?_) (by simp) ((Below.refl _ w).alloc (Nat.le_refl _) _)
 obtain rfl : j = 0 := by simpa using hj
 have e : (⟨w.heap.size, 0, none⟩ : Addr).add 0 = ⟨w.heap.size, 0, none⟩ := by unfold Addr.add; split <;> simp_all
 rw [e]
 exact cell_one w (.int .u8 (b.toNat : Int)) 5
theorem step_conv {w : World} {ops : Array Oper} {o : Oper} {a : Act} {K : Act → World → Prop} {Q : Exit → Act → World → Prop} {E : Prop} (hw : Region.wanted o (yielded ops a.tmps) = true) (src dst : TypeId) (x : Operand) (V v : Value) (ho : o.op = .convert src dst x) (hx : a.eval x = V)
 (hr : (convert src dst V).run Tryz.prog w = .ok v w) (h : K (a.put o.dst v) w) : if Region.wanted o (yielded ops a.tmps) = true then Oper.wp Tryz.prog o a w K Q else E := by
 rw [if_pos hw]
 unfold Oper.wp execOp
 simp only [ho, Sem.run_bind, hx, hr, Result.andThen_ok]
 exact h
structure Tk (w W : World) (k : Int) (s : ByteArray) (n : Bool) : Prop where
 c0 : W.cell? ⟨w.heap.size, 0, none⟩ = some (.int .i64 k)
 c1 : W.cell? ⟨w.heap.size, 1, none⟩ = some (.string s)
 c2 : W.cell? ⟨w.heap.size, 2, none⟩ = some (.bool n)
 lt : w.heap.size < W.heap.size
 be : Below w.heap.size w W
theorem Tk.step {w W W' : World} {k : Int} {s : ByteArray} {n : Bool} (h : Tk w W k s n) (hb : Below W.heap.size W W') : Tk w W' k s n := by
 have e : ∀ j, W'.cell? ⟨w.heap.size, j, none⟩ = W.cell? ⟨w.heap.size, j, none⟩ := fun j => hb.cell (p := ⟨w.heap.size, j, none⟩) h.lt
 exact ⟨(e _).trans h.c0, (e _).trans h.c1, (e _).trans h.c2, Nat.lt_of_lt_of_le h.lt hb.size, h.be.trans (hb.mono h.be.size)⟩
theorem Tk.open_ {w W : World} {k : Int} {s : ByteArray} {n : Bool} (h : Tk w W k s n) : (W.cell? ⟨w.heap.size, 0, none⟩ = some (.int .i64 k) ∧ W.cell? ⟨w.heap.size, 1, none⟩ = some (.string s) ∧ W.cell? ⟨w.heap.size, 2, none⟩ = some (.bool n)) ∧ w.heap.size < W.heap.size ∧ Below w.heap.size w W :=
 ⟨⟨h.c0, h.c1, h.c2⟩, h.lt, h.be⟩
theorem Tk.shut {w W : World} {k : Int} {s : ByteArray} {n : Bool} (h : (W.cell? ⟨w.heap.size, 0, none⟩ = some (.int .i64 k) ∧ W.cell? ⟨w.heap.size, 1, none⟩ = some (.string s) ∧ W.cell? ⟨w.heap.size, 2, none⟩ = some (.bool n)) ∧ w.heap.size < W.heap.size ∧ Below w.heap.size w W) : Tk w W k s n :=
 ⟨h.1.1, h.1.2.1, h.1.2.2, h.2.1, h.2.2⟩
set_option maxRecDepth 100000 in
set_option maxHeartbeats 2000000 in
theorem takes_any (k : Int) (s : ByteArray) (n : Bool) (lo hi : Int) (m : Nat) (a : Option Addr) (cap : Nat) (b : UInt8) (w : World) (hs : s.size ≤ 1048576) :
 Calls Tryz.prog 64 #[.agg #[.int .i64 k, .string s, .bool n, .int .i64 lo, .int .i64 hi, .slice a m cap], .int .u8 (b.toNat : Int)] w fun e w' => e = .returned (.bool (RT.takes k s n b)) ∧ Below w.heap.size w w' := by
 have HT := qd (show Tk w (w.alloc (.cells #[.int .i64 k, .string s, .bool n, .int .i64 lo, .int .i64 hi, .slice a m cap] 26)).drew k s n from by
  refine ⟨?_, ?_, ?_, by simp, ((Below.refl _ w).alloc (Nat.le_refl _) _).drew⟩ <;> (simp only [World.cell?_drew]; rw [World.cell?_alloc_at _ _ _ _ rfl]; rfl))
 have HI := qd (fun W => specIdx_any s ⟨#[b]⟩ W hs (by show 1 ≤ 1048576; omega))
 have HD := qd (idx_has s b)
 have HV := qd (fun W a h => run_convert_bytes_back (P := Tryz.prog) W 22 9 5 a 1 [b] Tryz.underlying22 Tryz.underlying5 Tryz.underlying9 h)
 generalize idxOf s ⟨#[b]⟩ = z at *
 by_cases hk : k = 1
 · have HE := qd (show RT.takes k s n b = true from by unfold RT.takes; simp [hk])
   subst hk
   go_enter Tryz.func64, Tryz.ntmps64
   go_wp2_with fail
   refine wp_region_held_drew (S := (fun w' => (w'.cell? ⟨w.heap.size, 0, none⟩ = some (.int .i64 1) ∧ w'.cell? ⟨w.heap.size, 1, none⟩ = some (.string s) ∧ w'.cell? ⟨w.heap.size, 2, none⟩ = some (.bool n)) ∧ w.heap.size < w'.heap.size ∧ Below w.heap.size w w')) (by kernel_rfl) HT.out.open_ (fun hHeld => ?_)
   refine tkA 0 ?_
   try simp only [nmA, Act.put]
   refine tkA 1 ?_
   try simp only [nmA, Act.put]
   refine tkA 2 ?_
   try simp only [nmA, Act.put]
   refine tkA 3 ?_
   try simp only [nmA, Act.put]
   refine tuA 4 ?_
   try simp only [nmA, Act.put]
   refine tuA 5 ?_
   try simp only [nmA, Act.put]
   refine tuA 6 ?_
   try simp only [nmA, Act.put]
   refine tuA 7 ?_
   try simp only [nmA, Act.put]
   refine tuA 8 ?_
   try simp only [nmA, Act.put]
   refine tuA 9 ?_
   try simp only [nmA, Act.put]
   refine tuA 10 ?_
   try simp only [nmA, Act.put]
   refine tuA 11 ?_
   try simp only [nmA, Act.put]
   refine tuA 12 ?_
   try simp only [nmA, Act.put]
   refine tuA 13 ?_
   try simp only [nmA, Act.put]
   refine tkA 14 ?_
   try simp only [nmA, Act.put]
   refine tkA 15 ?_
   try simp only [nmA, Act.put]
   refine wpAnyH_done (by kernel_rfl) ?_ _
   go_wp2_with fail
   go_ret
   exact ⟨by rw [HE.out]; rfl, (Tk.shut (by assumption)).be⟩
 · have hkb : (k == 1) = false := by rw [beq_eq_false_iff_ne]; exact hk
   have HE := qd (show RT.takes k s n b = (decide (0 < z) != n) from by unfold RT.takes; rw [hkb, HD.out]; rfl)
   go_enter Tryz.func64, Tryz.ntmps64
   go_wp2_with fail
   refine wp_region_held_drew (S := (fun w' => (w'.cell? ⟨w.heap.size, 0, none⟩ = some (.int .i64 k) ∧ w'.cell? ⟨w.heap.size, 1, none⟩ = some (.string s) ∧ w'.cell? ⟨w.heap.size, 2, none⟩ = some (.bool n)) ∧ w.heap.size < w'.heap.size ∧ Below w.heap.size w w')) (by kernel_rfl) HT.out.open_ (fun hHeld => ?_)
   refine tkA 0 ?_
   try simp only [nmA, Act.put]
   refine tkA 1 ?_
   try simp only [nmA, Act.put]
   refine tkA 2 ?_
   try simp only [nmA, Act.put]
   refine tkA 3 ?_
   try simp only [nmA, Act.put]
   refine tkA 4 ?_
   try simp only [nmA, Act.put]
   refine tkA 5 ?_
   try simp only [nmA, Act.put]
   refine tkA 6 ?_
   try simp only [nmA, Act.put]
   refine tkA 11 ?_
   try simp only [nmA, Act.put]
   refine tkA 12 ?_
   try simp only [nmA, Act.put]
   refine rdA 7 (fun K hK => ?_)
   refine step_byte1 (by kernel_rfl) (.tmp 11) b rfl rfl ?_
   intro w1 g hc1 hl1 hb1
   refine hK.out _ _ (Tk.step (Tk.shut (by assumption)) hb1).open_ (fun hHeld => ?_)
   clear hK K
   try simp only [nmA, Act.put]
   refine rdA 8 (fun K hK => ?_)
   refine step_conv (by kernel_rfl) _ _ (.tmp 12) _ _ rfl rfl (HV.out w1 _ hc1) ?_
   refine hK.out _ _ (Tk.shut (by assumption)).open_ (fun hHeld => ?_)
   clear hK K
   try simp only [nmA, Act.put]
   refine rdA 9 (fun K hK => ?_)
   go_simp
   refine (HI.out _).mono ?_
   rintro e w2 ⟨rfl, rfl⟩
   go_wp2_with fail
   refine hK.out _ _ (Tk.shut (by assumption)).open_ (fun hHeld => ?_)
   clear hK K
   try simp only [nmA, Act.put]
   refine tkA 10 ?_
   try simp only [nmA, Act.put]
   refine tkA 13 ?_
   try simp only [nmA, Act.put]
   refine tkA 14 ?_
   try simp only [nmA, Act.put]
   refine tkA 15 ?_
   try simp only [nmA, Act.put]
   refine wpAnyH_done (by kernel_rfl) ?_ _
   go_wp2_with fail
   go_ret
   exact ⟨by rw [HE.out]; rfl, (Tk.shut (by assumption)).be⟩
end Go.Proofs.YtcimhpdpfckgiaaGreatDoor.kit
