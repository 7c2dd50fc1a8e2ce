/-
 Contract of impl's reader of sets of bytes over this seat's translation: which bytes there are, and whether they are meant or the others. Conditions: the reader's cells are known.
-/
import Derived.Test.YtcpaneaiobnhdaaDoorMZc
import Derived.Laws.Tables
import Derived.Deep.LoopGhost
import Derived.Test.YtcpaneaiobnhdaaDoorShelf
namespace Go.Proofs.YtcpaneaiobnhdaaDoor.kit
open Go.ChangeShapes Go.WideShapes Go.ChangeAt Go.RowKit
set_option linter.unusedVariables false
open PR

theorem setR_step (s : ByteArray) (f i : Nat) (b : Bool) (m : Nat → Bool) (hi : i < s.size) (hx : (atB s i 93 && !b) = false) :
  setR s (f + 1) i b m = if rng s (i + 1) then (if (at_ s (i + 2)).toNat < (at_ s i).toNat then none else setR s f (i + 3) false (span m (at_ s i).toNat (at_ s (i + 2)).toNat)) else setR s f (i + 1) false (span m (at_ s i).toNat (at_ s i).toNat) := by
 rw [setR, if_pos hi, if_neg (by rw [hx]; decide)]
 by_cases h : i + 2 < s.size ∧ atB s (i + 1) 45 = true ∧ atB s (i + 2) 93 = false
 ·have hr : rng s (i + 1) = true := by unfold rng; rw [decide_eq_true (by omega : i + 1 + 1 < s.size), h.2.1, h.2.2]; rfl
  rw [if_pos h, hr]; rfl
 ·rw [if_neg h, if_neg (fun g => h ?_)]
  unfold rng at g
  simp only [Bool.and_eq_true, decide_eq_true_eq, Bool.not_eq_true'] at g
  exact ⟨by omega, g.2.1, g.2.2⟩
theorem setR_exit (s : ByteArray) (f i : Nat) (b : Bool) (m : Nat → Bool) (hi : i < s.size) (hx : (atB s i 93 && !b) = true) : setR s (f + 1) i b m = some (m, i + 1) := by
 rw [setR, if_pos hi, if_pos hx]
theorem setR_end (s : ByteArray) (f i : Nat) (b : Bool) (m : Nat → Bool) (hi : s.size ≤ i) : setR s f i b m = none := by
 cases f with
 | zero => rfl
 | succ f => rw [setR, if_neg (by omega)]
/-- An array of 256 flags in a block of its own. -/
def ArrB (w : World) (g : Nat) (m : Nat → Bool) : Prop := ∃ cs : Array Value, w.heap[g]? = some (.cells cs 92 (0, 0)) ∧ cs.size = 256 ∧ ∀ j, j < 256 → cs[j]? = some (.bool (m j))
theorem ArrB.lt {w : World} {g : Nat} {m : Nat → Bool} (h : ArrB w g m) : g < w.heap.size := by obtain ⟨cs, h, _⟩ := h; exact (Array.getElem?_eq_some_iff.1 h).1
theorem ArrB.only {w w' : World} {g B : Nat} {m : Nat → Bool} (h : ArrB w g m) (hb : OnlyB B w w') (hne : g ≠ B) : ArrB w' g m := by
 have hl := h.lt
 obtain ⟨cs, h, r⟩ := h
 exact ⟨cs, (hb.block g hl (fun e => hne (by injection e))).trans h, r⟩
theorem ArrB.kept {w w' : World} {g : Nat} {m : Nat → Bool} (h : ArrB w g m) (hb : Below w.heap.size w w') : ArrB w' g m := by
 have hl := h.lt
 obtain ⟨cs, h, r⟩ := h
 exact ⟨cs, (hb.block g hl).trans h, r⟩
theorem ArrB.cell {w : World} {g : Nat} {m : Nat → Bool} (h : ArrB w g m) (j : Nat) (hj : j < 256) : w.cell? ⟨g, j, none⟩ = some (.bool (m j)) ∧ w.frozen? ⟨g, j, none⟩ = false := by
 obtain ⟨cs, h, _, r⟩ := h
 exact ⟨(cell_of_row w g j cs _ (0, 0) h).trans (r j hj), by simp [World.frozen?, h]⟩
theorem ArrB.mark {w : World} {g : Nat} {m m' : Nat → Bool} (h : ArrB w g m) (b : Nat) (hb : b < 256) (hm : ∀ j, j < 256 → m' j = (m j || decide (j = b))) : ArrB (w.setCell ⟨g, b, none⟩ (.bool true)) g m' := by
 obtain ⟨cs, h, h1, r⟩ := h
 refine ⟨cs.setIfInBounds b (.bool true), ?_, by simpa using h1, fun j hj => ?_⟩
 ·simp [World.setCell, Array.getElem?_modify, h, Array.setIfInBounds, h1, hb]
 ·rw [hm j hj, Array.getElem?_setIfInBounds]
  by_cases e : b = j
  ·subst e; rw [if_pos rfl, if_pos (by omega)]; simp
  ·rw [if_neg e, r j hj]; simp [Ne.symm e]
theorem ArrB.congr {w : World} {g : Nat} {m m' : Nat → Bool} (h : ArrB w g m) (e : ∀ j, j < 256 → m' j = m j) : ArrB w g m' := by
 obtain ⟨cs, h, h1, r⟩ := h
 exact ⟨cs, h, h1, fun j hj => by rw [e j hj]; exact r j hj⟩
theorem setRow_below (w : World) (x : Obj) (Z : Array Value) : Below w.heap.size w ((w.alloc x).setRow w.heap.size Z) := by
 refine ⟨rfl, rfl, rfl, by simp, fun k hk => ?_⟩
 rw [setRow_other _ _ _ _ (by omega)]
 exact heap_alloc_old w x hk
theorem Rdr.cell {w : World} {B : Nat} {s : ByteArray} {i : Nat} {op : Int} (c : Rdr w B s i op) (g j : Nat) (hg : g ≠ B) (v : Value) : Rdr (w.setCell ⟨g, j, none⟩ v) B s i op := by
 have e := Below.heap_setCell w ⟨g, j, none⟩ v B (Ne.symm hg)
 exact ⟨by simpa using c.lt, (World.cell?_of_block (w := w) (a := ⟨B, 0, none⟩) e).trans c.c0, (World.cell?_of_block (w := w) (a := ⟨B, 1, none⟩) e).trans c.c1, (World.cell?_of_block (w := w) (a := ⟨B, 2, none⟩) e).trans c.c2,
  (World.frozen?_of_block (w := w) (a := ⟨B, 1, none⟩) e).trans c.f1, (World.frozen?_of_block (w := w) (a := ⟨B, 2, none⟩) e).trans c.f2⟩
theorem Six.cell {w : World} {g0 : Nat} {t : RT} {a : Option Addr} {c : Nat} (h : Six w g0 t a c) (g j : Nat) (hg : g0 ≠ g) (v : Value) : Six (w.setCell ⟨g, j, none⟩ v) g0 t a c := (Below.heap_setCell w ⟨g, j, none⟩ v g0 hg).trans h
theorem OnlyB.cell {B : Nat} {w w' : World} (h : OnlyB B w w') (g j : Nat) (hg : w.heap.size ≤ g) (v : Value) : OnlyB B w (w'.setCell ⟨g, j, none⟩ v) :=
 ⟨h.os, h.tape, h.output, by simpa using h.size, fun k hk hn => (Below.heap_setCell w' ⟨g, j, none⟩ v k (by show k ≠ g; omega)).trans (h.block k hk hn)⟩
theorem Rdr.below {w w' : World} {B C : Nat} {s : ByteArray} {i : Nat} {op : Int} (c : Rdr w B s i op) (h : Below C w w') (hC : B < C) : Rdr w' B s i op :=
 ⟨Nat.lt_of_lt_of_le c.lt h.size, (h.cell (p := ⟨B, 0, none⟩) hC).trans c.c0, (h.cell (p := ⟨B, 1, none⟩) hC).trans c.c1, (h.cell (p := ⟨B, 2, none⟩) hC).trans c.c2, (h.frozen (p := ⟨B, 1, none⟩) hC).trans c.f1, (h.frozen (p := ⟨B, 2, none⟩) hC).trans c.f2⟩
theorem Six.below {w w' : World} {g C : Nat} {t : RT} {a : Option Addr} {c : Nat} (h : Six w g t a c) (hb : Below C w w') (hC : g < C) : Six w' g t a c := (hb.block g hC).trans h
theorem OnlyB.and {B C : Nat} {w0 w w' : World} (h : OnlyB B w0 w) (hb : Below C w w') (hC : w0.heap.size ≤ C) : OnlyB B w0 w' :=
 ⟨hb.os.trans h.os, hb.tape.trans h.tape, hb.output.trans h.output, Nat.le_trans h.size hb.size, fun k hk hn => (hb.block k (Nat.lt_of_lt_of_le hk hC)).trans (h.block k hk hn)⟩
theorem OnlyB.setB {B : Nat} {w w' : World} (h : OnlyB B w w') (o : Nat) (v : Value) : OnlyB B w (w'.setCell ⟨B, o, none⟩ v) := h.set o v
theorem mark_start (m : Nat → Bool) (lo : Nat) : ∀ n, n < 256 → (fun n => m n || (decide (lo ≤ n) && decide (n < lo))) n = m n := by
 intro n _; by_cases h1 : lo ≤ n
 ·simp [show ¬ n < lo by omega]
 ·simp [h1]
theorem mark_more (m : Nat → Bool) (lo k : Nat) (h : lo ≤ k) : ∀ n, n < 256 → (fun n => m n || (decide (lo ≤ n) && decide (n < k + 1))) n = ((fun n => m n || (decide (lo ≤ n) && decide (n < k))) n || decide (n = k)) := by
 intro n _
 by_cases h3 : n = k
 ·simp [h3, h]
 ·by_cases h1 : lo ≤ n <;> by_cases h2 : n < k <;> simp [h1, h2, h3, show n < k + 1 ↔ n < k by omega]
theorem mark_end (m : Nat → Bool) (lo hi k : Nat) (h : k = hi + 1) : ∀ n, n < 256 → span m lo hi n = (fun n => m n || (decide (lo ≤ n) && decide (n < k))) n := by
 intro n _; unfold span; rw [h]; congr 2; exact decide_eq_decide.2 (by omega)
/-- The bytes below k of which m holds. -/
def memTo (m : Nat → Bool) (k : Nat) : List UInt8 := ((List.range k).filter m).map fun n => UInt8.ofNat n
theorem memTo_yes {m : Nat → Bool} {k : Nat} (h : m k = true) : memTo m (k + 1) = memTo m k ++ [UInt8.ofNat k] := by
 unfold memTo; rw [List.range_succ, List.filter_append]; simp [h]
theorem memTo_no {m : Nat → Bool} {k : Nat} (h : m k = false) : memTo m (k + 1) = memTo m k := by
 unfold memTo; rw [List.range_succ, List.filter_append]; simp [h]
theorem memTo_len (m : Nat → Bool) (k : Nat) : (memTo m k).length ≤ k := by
 unfold memTo; rw [List.length_map]; exact Nat.le_trans (List.length_filter_le _ _) (by simp)
theorem arr_index (A : Array Value) (k : Nat) (hk : k < 256) (x : Value) (hA : A.size = 256) (hx : A[k]? = some x) (w : World) :
  (Instr.index 92 (.agg A) (.int .i64 (k : Int))).run Tryd.prog w = .ok x w := by
 have h0 : (0 : Int) ≤ (k : Int) ∧ (k : Int) < ((256 : Nat) : Int) := by omega
 simp [Instr.index, run_underlying Tryd.underlying92, asIntOf, go_sem, hx]
 intro h; omega
theorem zero256 : Tryd.zeroCells92 = Array.replicate 256 (.bool false) := by kernel_rfl
theorem infoArr : (Tryd.prog.info? 92).map (·.size) = some 256 := by kernel_rfl
set_option maxRecDepth 100000 in
set_option maxHeartbeats 4000000 in
theorem set_neg (B : Nat) (s : ByteArray) (i : Nat) (op : Int) (w : World) (hs : s.size ≤ 1048576) (hr : Rdr w B s i op) (hi : i ≤ s.size) (hq : atB s i 94 = true) :
  Calls Tryd.prog 76 #[.pointer (some ⟨B, 0, none⟩)] w (PostP B s op w (PR.setT s i)) := by
 have hBl := hr.lt
 have b1 : Below w.heap.size w (w.alloc (.cells #[.int .i64 0, .string ⟨#[]⟩, .bool false, .int .i64 0, .int .i64 0, .slice none 0 0] 26)) := (Below.refl w.heap.size w).alloc (Nat.le_refl _) _
 have O := Lib.hid (OnlyB.of_below (B := B) b1)
 have R := Lib.hid (hr.kept b1)
 have S2 : Hid (Six _ w.heap.size (PR.leaf 0) none 0) := Lib.hid (heap_alloc_new w (.cells #[.int .i64 0, .string ⟨#[]⟩, .bool false, .int .i64 0, .int .i64 0, .slice none 0 0] 26))
 clear b1 hr
 have E0 : Hid (PR.setT s i = (setR s (s.size + 1) (i + 1) true (fun _ => false)).map fun x => (RT.node 2 ⟨(mem x.1).toArray⟩ true 0 0 [], x.2)) := Lib.hid (by unfold PR.setT; rw [hq]; rfl)
 have hi1 : i < s.size := PR.atB_lt hq
 go_enter Tryd.func76, Tryd.ntmps76
 go_wp2_with fail
 refine (take_yes B s i op 94 _ hs R.out (by assumption)).mono ?_
 rintro e w1 ⟨rfl, r, o⟩
 have O := Lib.hid (O.out.trans o)
 have S2 := Lib.hid (S2.out.only o (by omega))
 have R := Lib.hid r
 clear o r
 clear hq
 have hz1 := R.out.lt
 have hSl := S2.out.lt
 have hO1 := O.out.size
 have A5 : ArrB (World.setRow (w1.alloc (.cells Tryd.zeroCells92 92)) w1.heap.size Tryd.zeroCells92) w1.heap.size (fun _ => false) := ⟨Tryd.zeroCells92, setRow_heap _ _ Tryd.zeroCells92 _ _ _ (heap_alloc_new w1 _), by rw [zero256]; simp, fun j hj => by rw [zero256]; simp [hj]⟩
 have o5 : Below w1.heap.size w1 (World.setRow (w1.alloc (.cells Tryd.zeroCells92 92)) w1.heap.size Tryd.zeroCells92) := setRow_below _ _ _
 go_wp2_with (refine wpList_store_row rfl 92 _ _ rfl w1.heap.size Tryd.zeroCells92 rfl rfl 92 Tryd.zeroCells92 (heap_alloc_new w1 _) (by kernel_rfl) (by kernel_rfl) (by kernel_rfl) ?_; generalize (World.setRow (w1.alloc (.cells Tryd.zeroCells92 92)) w1.heap.size Tryd.zeroCells92) = W1 at *; generalize (Value.agg Tryd.zeroCells92) = z16)
 have z5 := A5.lt
 have O := Lib.hid (O.out.trans (OnlyB.of_below o5))
 have R := Lib.hid (R.out.kept o5)
 have S2 := Lib.hid (S2.out.kept o5)
 have A5 := Lib.hid A5
 clear o5
 obtain ⟨g5, hg5⟩ : ∃ g5, g5 = w1.heap.size := ⟨_, rfl⟩
 have hg5a : B < g5 := by omega
 have hg5b : w.heap.size < g5 := by omega
 rw [← hg5] at A5 z5 ⊢
 have HG5 := Lib.hid hg5
 clear hg5
 go_wp2_with fail
 go_loopg [6] (s.size + 1 - (i + 1)) (fun gh f wr => ∃ (j : Nat) (m : Nat → Bool) (b : Bool) (fu : Nat), f = .bool b ∧ j ≤ s.size ∧ j + gh = s.size + 1 ∧ s.size + 1 ≤ j + fu ∧ setR s fu j b m = setR s (s.size + 1) (i + 1) true (fun _ => false) ∧ Rdr wr B s j op ∧ ArrB wr g5 m ∧ Six wr w.heap.size (PR.leaf 0) none 0 ∧ OnlyB B w wr)
 case atStart => exact ⟨(i + 1), _, true, s.size + 1, rfl, by omega, by omega, by omega, rfl, R.out, A5.out, S2.out, O.out⟩
 case round =>
  clear R A5 S2 O z5
  obtain ⟨j, m, b, fu, rfl, hjs, hjg, hfu, hX, r, a5, s2, o⟩ := hrel
  have HX := Lib.hid hX
  have R := Lib.hid r
  have A5 := Lib.hid a5
  have S2 := Lib.hid s2
  have O := Lib.hid o
  clear hX r a5 s2 o
  have z5 := A5.out.lt
  have hzr := R.out.lt
  by_cases hj : j < s.size
  ·obtain ⟨fu, rfl⟩ : ∃ f, fu = f + 1 := ⟨fu - 1, by omega⟩
   cases hex : (atB s j 93 && !b)
   case true =>
    have hb : b = false := by cases b; rfl; simp at hex
    have h93 : atB s j 93 = true := by rw [Bool.and_eq_true] at hex; exact hex.1
    subst hb
    have HY : Hid (setR s (s.size + 1) (i + 1) true (fun _ => false) = some (m, j + 1)) := Lib.hid (HX.out.symm.trans (setR_exit s fu j false m hj hex))
    have H93 := Lib.hid h93
    clear hex h93
    go_wp2_with fail
    refine (sees_any B s j op 93 _ hs R.out).mono ?_
    rintro e w2 ⟨rfl, hn⟩
    have o := OnlyB.drewAll (B := B) hn
    have r := R.out.drewAll hn
    clear hn
    have O := Lib.hid (O.out.trans o)
    have S2 := Lib.hid (S2.out.only o (by omega))
    have A5 := Lib.hid (A5.out.only o (by omega))
    have R := Lib.hid r
    clear o r
    rw [H93.out]
    obtain ⟨h0, h1, h2, h3, h4, h5⟩ := R.out
    obtain ⟨cs, hrow, hcs, hce⟩ := A5.out
    have HCE := Lib.hid hce
    have hbb := S2.out.lt
    have hgb := A5.out.lt
    have hr5 : ∀ v o, ((w2.setCell ⟨B, 1, none⟩ v).alloc o).heap[g5]? = some (.cells cs 92 (0, 0)) := fun v o => (heap_alloc_old _ o (by simpa using hgb)).trans ((Below.heap_setCell w2 ⟨B, 1, none⟩ v g5 (by show g5 ≠ B; omega)).trans hrow)
    have HR5 := Lib.hid hr5
    have HCS := Lib.hid hcs
    have bb : ∀ v o, Below w2.heap.size (w2.setCell ⟨B, 1, none⟩ v) ((w2.setCell ⟨B, 1, none⟩ v).alloc o) := fun v o => (Below.refl _ _).alloc (by simp) o
    have BB := Lib.hid bb
    have R1 := Lib.hid (R.out.setI (j + 1))
    rw [show ((j + 1 : Nat) : Int) = (j : Int) + 1 by omega] at R1
    have S1 := Lib.hid (fun v => S2.out.cell B 1 (by omega) v)
    have O1 := Lib.hid (fun v => O.out.set 1 v)
    have hOs := O.out.size
    clear hrow hcs hce hr5 bb
    go_wp2_with (refine wpList_load_row rfl 92 _ rfl g5 rfl 92 cs _ _ (HR5.out _ _) Tryd.underlying92 rfl (by rw [infoArr, HCS.out]) ?_)
    clear h0 h1 h2 h3 h4 h5
    go_loopg [11, 75] 256 (fun gh v x wx => ∃ k : Nat, k + gh = 256 ∧ x = .int .i64 (k : Int) ∧ Own 5 w2.heap.size wx v (memTo m k) ∧ Rdr wx B s (j + 1) op ∧ Six wx w.heap.size (PR.leaf 0) none 0 ∧ OnlyB B w wx ∧ w2.heap.size ≤ wx.heap.size)
    case atStart => exact ⟨0, rfl, rfl, by simpa [memTo] using own_start (e := 5) (B := w2.heap.size) (w := w2.setCell ⟨B, 1, none⟩ (.int .i64 ((j : Int) + 1))) (by simp), R1.out.below (BB.out _ _) (by have := R.out.lt; omega), (S1.out _).below (BB.out _ _) hbb, (O1.out _).and (BB.out _ _) hOs, by simp⟩
    case round =>
     clear R R1 A5 S2 S1 O O1
     obtain ⟨k, hkg, rfl, ho, r, s2, o, hzx⟩ := hrel
     have HO := Lib.hid ho
     have R := Lib.hid r
     have S2 := Lib.hid s2
     have O := Lib.hid o
     have hmlen := memTo_len m k
     clear ho r s2 o
     cases gk with
     | zero =>
      obtain rfl : k = 256 := by omega
      have hbk := HO.out.back (P := Tryd.prog) 22 9 Tryd.underlying22 Tryd.underlying5 Tryd.underlying9
      have HM : Hid (memTo m 256 = mem m) := Lib.hid rfl
      generalize memTo m 256 = ml at *
      obtain ⟨z0, z1, z2, z3, z4, z5, z6⟩ := S2.out.cells
      have z60 := z6 0
      have z61 := z6 1
      have z62 := z6 2
      have z63 := z6 3
      have z64 := z6 4
      have z65 := z6 5
      clear z6
      have h6 : Lk (Six (put6 wr w.heap.size (.int .i64 2) (.string ⟨ml.toArray⟩) (.bool true) (.int .i64 0) (.int .i64 0) (.slice none 0 0)) w.heap.size (.node 2 ⟨ml.toArray⟩ true 0 0 []) none 0) := Lk.mk (S2.out.put (.node 2 ⟨ml.toArray⟩ true 0 0 []) none 0)
      have PO := Lk.mk (put6_only O.out w.heap.size (.int .i64 2) (.string ⟨ml.toArray⟩) (.bool true) (.int .i64 0) (.int .i64 0) (.slice none 0 0) (by omega))
      have PRd := Lk.mk (R.out.put w.heap.size (by omega) (.int .i64 2) (.string ⟨ml.toArray⟩) (.bool true) (.int .i64 0) (.int .i64 0) (.slice none 0 0))
      go_wp2_with fail
      change bodyPost _ _ _ _ _ (put6 wr w.heap.size (.int .i64 2) (.string ⟨ml.toArray⟩) (.bool true) (.int .i64 0) (.int .i64 0) (.slice none 0 0))
      generalize put6 wr w.heap.size (.int .i64 2) (.string ⟨ml.toArray⟩) (.bool true) (.int .i64 0) (.int .i64 0) (.slice none 0 0) = W at h6 PO PRd ⊢
      obtain ⟨y0, y1, y2, y3, y4, y5, _⟩ := h6.out.cells
      replace y0 : _ = some (Value.int .i64 2) := y0
      replace y1 : _ = some (Value.string ⟨ml.toArray⟩) := y1
      replace y2 : _ = some (Value.bool true) := y2
      replace y3 : _ = some (Value.int .i64 0) := y3
      replace y4 : _ = some (Value.int .i64 0) := y4
      replace y5 : _ = some (Value.slice none 0 0) := y5
      refine bodyPost_ret (v := .tuple #[.agg #[.int .i64 2, .string ⟨ml.toArray⟩, .bool true, .int .i64 0, .int .i64 0, .slice none 0 0], .bool true]) (by simp [results, Tryd.results76, go_sem, y0, y1, y2, y3, y4, y5]) rfl ?_
      refine ⟨PO.out, ?_⟩
      rw [E0.out, HY.out]
      simp only [Option.map_some]
      rw [← HM.out]
      exact ⟨none, 0, [], rfl, KF.nil _, fun y hy => absurd hy (by simp), ⟨by simpa [RT.set, ByteArray.size] using hmlen, by simp [RT.kids]⟩, PRd.out⟩
     | succ gk =>
      have hk : k < 256 := by omega
      have hix := arr_index cs k hk _ HCS.out (HCE.out k hk)
      have k0 : (0 : Int) ≤ (k : Int) := by omega
      have k1 : (k : Int) < 256 := by omega
      cases hm : m k
      case false =>
       rw [hm] at hix
       have HT := Lib.hid (memTo_no hm)
       clear hm
       go_wp2_with fail
       go_roundg gk
       case measure => omega
       case rel => exact ⟨k + 1, by omega, by go_num, by rw [HT.out]; exact HO.out, R.out, S2.out, O.out, hzx⟩
      case true =>
       rw [hm] at hix
       have HT := Lib.hid (memTo_yes hm)
       clear hm
       have HNW := Lib.hid (show ∀ (W : World) (t : TypeId) (j : Nat) (h : j < [UInt8.ofNat k].length), (W.alloc (.cells #[.int .u8 (k : Int)] t)).cell? ((⟨W.heap.size, 0, none⟩ : Addr).add j) = some (.int .u8 (([UInt8.ofNat k][j]).toNat : Int)) from fun W t => by
        have h := news_one W (UInt8.ofNat k) t
        rwa [show ((UInt8.ofNat k).toNat : Int) = (k : Int) by simp; omega] at h)
       go_wp2_with (at_builtin; refine wp_append_bytes Tryd.underlying22 Tryd.infoU8 rfl _ _ rfl w2.heap.size _ _ rfl (HO.out.alloc _) ⟨wr.heap.size, 0, none⟩ 1 1 [UInt8.ofNat k] rfl rfl (HNW.out _ _) (by simp; omega) (by simp; omega) ?_; intro v' w3 hown3 hbel3)
       have ba : Below w2.heap.size wr (wr.alloc (.cells #[.int .u8 (k : Int)] 5)) := (Below.refl _ _).alloc hzx _
       have bc := ba.trans hbel3
       have q1 := Lib.hid hown3
       have q2 := Lib.hid (R.out.below bc (by omega))
       have q3 := Lib.hid (S2.out.below bc (by omega))
       have q4 := Lib.hid (O.out.and bc (by omega))
       have q5 : w2.heap.size ≤ w3.heap.size := Nat.le_trans hzx bc.size
       clear hown3 hbel3 ba bc
       go_wp2_with fail
       go_roundg gk
       case measure => omega
       case rel => exact ⟨k + 1, by omega, by go_num, by rw [HT.out]; exact q1.out, q2.out, q3.out, q4.out, q5⟩
   case false =>
    have HST := Lib.hid (setR_step s fu j b m hj hex)
    have HEX := Lib.hid hex
    clear hex
    obtain ⟨lo, hlo⟩ : ∃ lo, lo = (at_ s j).toNat := ⟨_, rfl⟩
    have hlo1 : lo < 256 := by rw [hlo]; exact (at_ s j).toNat_lt
    rw [← hlo] at HST
    have HLO := Lib.hid hlo
    clear hlo
    cases b
    case true =>
     go_wp2_with fail
     refine (next_yes B s j op _ hs R.out hj).mono ?_
     rintro e w3 ⟨rfl, r, o⟩
     have O := Lib.hid (O.out.trans o)
     have S2 := Lib.hid (S2.out.only o (by omega))
     have A5 := Lib.hid (A5.out.only o (by omega))
     have R := Lib.hid r
     clear o r
     rw [← HLO.out]
     obtain ⟨p, hp⟩ : ∃ p, p = j + 1 := ⟨_, rfl⟩
     rw [← hp] at R HST
     have hp1 : j + 1 ≤ p := by omega
     have hp2 : p ≤ j + 1 := by omega
     have HP := Lib.hid hp
     clear hp
     go_wp2_with fail
     refine (seesRange_any B s p op _ hs R.out (by omega)).mono ?_
     rintro e w4 ⟨rfl, hn⟩
     have o := OnlyB.drewAll (B := B) hn
     have r := R.out.drewAll hn
     clear hn
     have O := Lib.hid (O.out.trans o)
     have S2 := Lib.hid (S2.out.only o (by omega))
     have A5 := Lib.hid (A5.out.only o (by omega))
     have R := Lib.hid r
     clear o r
     cases hrg : rng s p
     case false =>
      rw [hrg] at HST
      clear hrg
      have hnl : ¬ (lo : Int) < (lo : Int) := by omega
      go_wp2_with fail
      go_loopg [10] (lo + 1 - lo) (fun gh x wx => ∃ k : Nat, lo ≤ k ∧ k + gh = lo + 1 ∧ x = .int .i64 (k : Int) ∧ Rdr wx B s (p) op ∧ ArrB wx g5 (fun n => m n || (decide (lo ≤ n) && decide (n < k))) ∧ Six wx w.heap.size (PR.leaf 0) none 0 ∧ OnlyB B w wx)
      case atStart => exact ⟨lo, Nat.le_refl _, by omega, rfl, R.out, A5.out.congr (mark_start m lo), S2.out, O.out⟩
      case round =>
       clear R A5 S2 O
       obtain ⟨k, hlk, hkg, rfl, r, a5, s2, o⟩ := hrel
       have R := Lib.hid r
       have A5 := Lib.hid a5
       have S2 := Lib.hid s2
       have O := Lib.hid o
       clear r a5 s2 o
       cases gk with
       | zero =>
        have hk : k = lo + 1 := by omega
        have A5 := Lib.hid (A5.out.congr (m' := span m lo lo) (mark_end m lo lo k hk))
        have hnk : ¬ (k : Int) ≤ (lo : Int) := by omega
        clear hk
        go_wp2_with fail
        go_roundg (s.size + 1 - (p))
        case measure => omega
        case rel => exact ⟨p, span m lo lo, false, fu, rfl, by omega, by omega, by omega, by rw [← HX.out, HST.out]; rfl, R.out, A5.out, S2.out, O.out⟩
       | succ gk =>
        have hkh : (k : Int) ≤ (lo : Int) := by omega
        have hk2 : k < 256 := by omega
        have k0 : (0 : Int) ≤ (k : Int) := by omega
        have k1 : (k : Int) < 256 := by omega
        obtain ⟨c1, c2⟩ := A5.out.cell k hk2
        have A6 := Lib.hid (A5.out.mark (m' := fun n => m n || (decide (lo ≤ n) && decide (n < k + 1))) k hk2 (mark_more m lo k hlk))
        have hOs2 := O.out.size
        have R2 := Lib.hid (R.out.cell g5 k (by omega) (.bool true))
        have S3 := Lib.hid (S2.out.cell g5 k (by omega) (.bool true))
        have O2 := Lib.hid (O.out.cell g5 k (by omega) (.bool true))
        go_wp2_with fail
        go_roundg gk
        case measure => omega
        case rel => exact ⟨k + 1, by omega, by omega, by go_num, R2.out, A6.out, S3.out, O2.out⟩
     case true =>
      have hp3 : p + 1 < s.size := by unfold rng at hrg; simp at hrg; exact hrg.1
      rw [hrg] at HST
      clear hrg
      obtain ⟨hi, hhi⟩ : ∃ hi, hi = (at_ s (j + 2)).toNat := ⟨_, rfl⟩
      have hhi1 : hi < 256 := by rw [hhi]; exact (at_ s (j + 2)).toNat_lt
      rw [← hhi] at HST
      have HHI : Hid ((s[p + 1]'hp3).toNat = hi) := Lib.hid (by rw [hhi, at_eq s (p + 1) hp3, show p + 1 = j + 2 by omega])
      clear hhi
      obtain ⟨h0, h1, h2, h3, h4, h5⟩ := R.out
      have s1 : IntKind.i64.wrap ((p : Int) + 1) = (p : Int) + 1 := IntWalk.i64_in _ (by omega)
      have s2 : (0 : Int) ≤ (p : Int) + 1 := by omega
      have s3 : (p : Int) + 1 < (s.size : Int) := by omega
      have s4 : ((p : Int) + 1).toNat = p + 1 := by omega
      go_wp2_with fail
      go_quiet (fail)
      rename_i nq
      rw [HHI.out]
      clear s1 s2 s3 s4 h0 h1 h2 h3 h4 h5 HHI
      have R := Lib.hid (R.out.drewN nq)
      have O := Lib.hid (O.out.drewN nq)
      have S2 : Hid (Six (w4.drewN nq) w.heap.size (PR.leaf 0) none 0) := Lib.hid S2.out
      have A5 : Hid (ArrB (w4.drewN nq) g5 m) := Lib.hid A5.out
      generalize w4.drewN nq = w5 at *
      obtain ⟨h0, h1, h2, h3, h4, h5⟩ := R.out
      have R := Lib.hid (R.out.setI (p + 2))
      rw [show ((p + 2 : Nat) : Int) = (p : Int) + 2 by omega] at R
      have O := Lib.hid (O.out.set 1 (.int .i64 ((p : Int) + 2)))
      have S2 := Lib.hid (S2.out.cell B 1 (by omega) (.int .i64 ((p : Int) + 2)))
      have A5 := Lib.hid (A5.out.only ((OnlyB.refl B w5).set 1 (.int .i64 ((p : Int) + 2))) (by omega))
      by_cases hlt : hi < lo
      ·have hl1 : (hi : Int) < (lo : Int) := by omega
       have HY : Hid (setR s (s.size + 1) (i + 1) true (fun _ => false) = none) := Lib.hid (by rw [← HX.out, HST.out]; simp only [if_true]; rw [if_pos hlt])
       obtain ⟨z0, z1, z2, z3, z4, z5, z6⟩ := S2.out.cells
       have z60 := z6 0
       have z61 := z6 1
       have z62 := z6 2
       have z63 := z6 3
       have z64 := z6 4
       have z65 := z6 5
       clear z6
       have h6 : Lk (Six (put6 (w5.setCell ⟨B, 1, none⟩ (.int .i64 ((p : Int) + 2))) w.heap.size (.int .i64 0) (.string ⟨#[]⟩) (.bool false) (.int .i64 0) (.int .i64 0) (.slice none 0 0)) w.heap.size (PR.leaf 0) none 0) := Lk.mk (S2.out.put (PR.leaf 0) none 0)
       have PO := Lk.mk (put6_only O.out w.heap.size (.int .i64 0) (.string ⟨#[]⟩) (.bool false) (.int .i64 0) (.int .i64 0) (.slice none 0 0) (by omega))
       have PRd := Lk.mk (R.out.put w.heap.size (by omega) (.int .i64 0) (.string ⟨#[]⟩) (.bool false) (.int .i64 0) (.int .i64 0) (.slice none 0 0))
       go_wp2_with fail
       change bodyPost _ _ _ _ _ (put6 (w5.setCell ⟨B, 1, none⟩ (.int .i64 ((p : Int) + 2))) w.heap.size (.int .i64 0) (.string ⟨#[]⟩) (.bool false) (.int .i64 0) (.int .i64 0) (.slice none 0 0))
       generalize put6 (w5.setCell ⟨B, 1, none⟩ (.int .i64 ((p : Int) + 2))) w.heap.size (.int .i64 0) (.string ⟨#[]⟩) (.bool false) (.int .i64 0) (.int .i64 0) (.slice none 0 0) = W at h6 PO PRd ⊢
       obtain ⟨y0, y1, y2, y3, y4, y5, _⟩ := h6.out.cells
       replace y0 : _ = some (Value.int .i64 0) := y0
       replace y1 : _ = some (Value.string ⟨#[]⟩) := y1
       replace y2 : _ = some (Value.bool false) := y2
       replace y3 : _ = some (Value.int .i64 0) := y3
       replace y4 : _ = some (Value.int .i64 0) := y4
       replace y5 : _ = some (Value.slice none 0 0) := y5
       refine bodyPost_ret (v := .tuple #[.agg #[.int .i64 0, .string ⟨#[]⟩, .bool false, .int .i64 0, .int .i64 0, .slice none 0 0], .bool false]) (by simp [results, Tryd.results76, go_sem, y0, y1, y2, y3, y4, y5]) rfl ?_
       refine ⟨PO.out, ?_⟩
       rw [E0.out, HY.out]
       exact ⟨PR.leaf 0, none, 0, _, _, rfl, PRd.out⟩
      ·have hl1 : ¬ (hi : Int) < (lo : Int) := by omega
       go_wp2_with fail
       go_loopg [10] (hi + 1 - lo) (fun gh x wx => ∃ k : Nat, lo ≤ k ∧ k + gh = hi + 1 ∧ x = .int .i64 (k : Int) ∧ Rdr wx B s (p + 2) op ∧ ArrB wx g5 (fun n => m n || (decide (lo ≤ n) && decide (n < k))) ∧ Six wx w.heap.size (PR.leaf 0) none 0 ∧ OnlyB B w wx)
       case atStart => exact ⟨lo, Nat.le_refl _, by omega, rfl, R.out, A5.out.congr (mark_start m lo), S2.out, O.out⟩
       case round =>
        clear R A5 S2 O
        obtain ⟨k, hlk, hkg, rfl, r, a5, s2, o⟩ := hrel
        have R := Lib.hid r
        have A5 := Lib.hid a5
        have S2 := Lib.hid s2
        have O := Lib.hid o
        clear r a5 s2 o
        cases gk with
        | zero =>
         have hk : k = hi + 1 := by omega
         have A5 := Lib.hid (A5.out.congr (m' := span m lo hi) (mark_end m lo hi k hk))
         have hnk : ¬ (k : Int) ≤ (hi : Int) := by omega
         clear hk
         go_wp2_with fail
         go_roundg (s.size + 1 - (p + 2))
         case measure => omega
         case rel => exact ⟨p + 2, span m lo hi, false, fu, rfl, by omega, by omega, by omega, by rw [← HX.out, HST.out]; simp only [if_true]; rw [if_neg hlt, show p + 2 = j + 3 by omega], R.out, A5.out, S2.out, O.out⟩
        | succ gk =>
         have hkh : (k : Int) ≤ (hi : Int) := by omega
         have hk2 : k < 256 := by omega
         have k0 : (0 : Int) ≤ (k : Int) := by omega
         have k1 : (k : Int) < 256 := by omega
         obtain ⟨c1, c2⟩ := A5.out.cell k hk2
         have A6 := Lib.hid (A5.out.mark (m' := fun n => m n || (decide (lo ≤ n) && decide (n < k + 1))) k hk2 (mark_more m lo k hlk))
         have hOs2 := O.out.size
         have R2 := Lib.hid (R.out.cell g5 k (by omega) (.bool true))
         have S3 := Lib.hid (S2.out.cell g5 k (by omega) (.bool true))
         have O2 := Lib.hid (O.out.cell g5 k (by omega) (.bool true))
         go_wp2_with fail
         go_roundg gk
         case measure => omega
         case rel => exact ⟨k + 1, by omega, by omega, by go_num, R2.out, A6.out, S3.out, O2.out⟩
    case false =>
     have H93 : Hid (atB s j 93 = false) := Lib.hid (by have h := HEX.out; simpa using h)
     go_wp2_with fail
     refine (sees_any B s j op 93 _ hs R.out).mono ?_
     rintro e w2 ⟨rfl, hn⟩
     have o := OnlyB.drewAll (B := B) hn
     have r := R.out.drewAll hn
     clear hn
     have O := Lib.hid (O.out.trans o)
     have S2 := Lib.hid (S2.out.only o (by omega))
     have A5 := Lib.hid (A5.out.only o (by omega))
     have R := Lib.hid r
     clear o r
     rw [H93.out]
     go_wp2_with fail
     refine (next_yes B s j op _ hs R.out hj).mono ?_
     rintro e w3 ⟨rfl, r, o⟩
     have O := Lib.hid (O.out.trans o)
     have S2 := Lib.hid (S2.out.only o (by omega))
     have A5 := Lib.hid (A5.out.only o (by omega))
     have R := Lib.hid r
     clear o r
     rw [← HLO.out]
     obtain ⟨p, hp⟩ : ∃ p, p = j + 1 := ⟨_, rfl⟩
     rw [← hp] at R HST
     have hp1 : j + 1 ≤ p := by omega
     have hp2 : p ≤ j + 1 := by omega
     have HP := Lib.hid hp
     clear hp
     go_wp2_with fail
     refine (seesRange_any B s p op _ hs R.out (by omega)).mono ?_
     rintro e w4 ⟨rfl, hn⟩
     have o := OnlyB.drewAll (B := B) hn
     have r := R.out.drewAll hn
     clear hn
     have O := Lib.hid (O.out.trans o)
     have S2 := Lib.hid (S2.out.only o (by omega))
     have A5 := Lib.hid (A5.out.only o (by omega))
     have R := Lib.hid r
     clear o r
     cases hrg : rng s p
     case false =>
      rw [hrg] at HST
      clear hrg
      have hnl : ¬ (lo : Int) < (lo : Int) := by omega
      go_wp2_with fail
      go_loopg [10] (lo + 1 - lo) (fun gh x wx => ∃ k : Nat, lo ≤ k ∧ k + gh = lo + 1 ∧ x = .int .i64 (k : Int) ∧ Rdr wx B s (p) op ∧ ArrB wx g5 (fun n => m n || (decide (lo ≤ n) && decide (n < k))) ∧ Six wx w.heap.size (PR.leaf 0) none 0 ∧ OnlyB B w wx)
      case atStart => exact ⟨lo, Nat.le_refl _, by omega, rfl, R.out, A5.out.congr (mark_start m lo), S2.out, O.out⟩
      case round =>
       clear R A5 S2 O
       obtain ⟨k, hlk, hkg, rfl, r, a5, s2, o⟩ := hrel
       have R := Lib.hid r
       have A5 := Lib.hid a5
       have S2 := Lib.hid s2
       have O := Lib.hid o
       clear r a5 s2 o
       cases gk with
       | zero =>
        have hk : k = lo + 1 := by omega
        have A5 := Lib.hid (A5.out.congr (m' := span m lo lo) (mark_end m lo lo k hk))
        have hnk : ¬ (k : Int) ≤ (lo : Int) := by omega
        clear hk
        go_wp2_with fail
        go_roundg (s.size + 1 - (p))
        case measure => omega
        case rel => exact ⟨p, span m lo lo, false, fu, rfl, by omega, by omega, by omega, by rw [← HX.out, HST.out]; rfl, R.out, A5.out, S2.out, O.out⟩
       | succ gk =>
        have hkh : (k : Int) ≤ (lo : Int) := by omega
        have hk2 : k < 256 := by omega
        have k0 : (0 : Int) ≤ (k : Int) := by omega
        have k1 : (k : Int) < 256 := by omega
        obtain ⟨c1, c2⟩ := A5.out.cell k hk2
        have A6 := Lib.hid (A5.out.mark (m' := fun n => m n || (decide (lo ≤ n) && decide (n < k + 1))) k hk2 (mark_more m lo k hlk))
        have hOs2 := O.out.size
        have R2 := Lib.hid (R.out.cell g5 k (by omega) (.bool true))
        have S3 := Lib.hid (S2.out.cell g5 k (by omega) (.bool true))
        have O2 := Lib.hid (O.out.cell g5 k (by omega) (.bool true))
        go_wp2_with fail
        go_roundg gk
        case measure => omega
        case rel => exact ⟨k + 1, by omega, by omega, by go_num, R2.out, A6.out, S3.out, O2.out⟩
     case true =>
      have hp3 : p + 1 < s.size := by unfold rng at hrg; simp at hrg; exact hrg.1
      rw [hrg] at HST
      clear hrg
      obtain ⟨hi, hhi⟩ : ∃ hi, hi = (at_ s (j + 2)).toNat := ⟨_, rfl⟩
      have hhi1 : hi < 256 := by rw [hhi]; exact (at_ s (j + 2)).toNat_lt
      rw [← hhi] at HST
      have HHI : Hid ((s[p + 1]'hp3).toNat = hi) := Lib.hid (by rw [hhi, at_eq s (p + 1) hp3, show p + 1 = j + 2 by omega])
      clear hhi
      obtain ⟨h0, h1, h2, h3, h4, h5⟩ := R.out
      have s1 : IntKind.i64.wrap ((p : Int) + 1) = (p : Int) + 1 := IntWalk.i64_in _ (by omega)
      have s2 : (0 : Int) ≤ (p : Int) + 1 := by omega
      have s3 : (p : Int) + 1 < (s.size : Int) := by omega
      have s4 : ((p : Int) + 1).toNat = p + 1 := by omega
      go_wp2_with fail
      go_quiet (fail)
      rename_i nq
      rw [HHI.out]
      clear s1 s2 s3 s4 h0 h1 h2 h3 h4 h5 HHI
      have R := Lib.hid (R.out.drewN nq)
      have O := Lib.hid (O.out.drewN nq)
      have S2 : Hid (Six (w4.drewN nq) w.heap.size (PR.leaf 0) none 0) := Lib.hid S2.out
      have A5 : Hid (ArrB (w4.drewN nq) g5 m) := Lib.hid A5.out
      generalize w4.drewN nq = w5 at *
      obtain ⟨h0, h1, h2, h3, h4, h5⟩ := R.out
      have R := Lib.hid (R.out.setI (p + 2))
      rw [show ((p + 2 : Nat) : Int) = (p : Int) + 2 by omega] at R
      have O := Lib.hid (O.out.set 1 (.int .i64 ((p : Int) + 2)))
      have S2 := Lib.hid (S2.out.cell B 1 (by omega) (.int .i64 ((p : Int) + 2)))
      have A5 := Lib.hid (A5.out.only ((OnlyB.refl B w5).set 1 (.int .i64 ((p : Int) + 2))) (by omega))
      by_cases hlt : hi < lo
      ·have hl1 : (hi : Int) < (lo : Int) := by omega
       have HY : Hid (setR s (s.size + 1) (i + 1) true (fun _ => false) = none) := Lib.hid (by rw [← HX.out, HST.out]; simp only [if_true]; rw [if_pos hlt])
       obtain ⟨z0, z1, z2, z3, z4, z5, z6⟩ := S2.out.cells
       have z60 := z6 0
       have z61 := z6 1
       have z62 := z6 2
       have z63 := z6 3
       have z64 := z6 4
       have z65 := z6 5
       clear z6
       have h6 : Lk (Six (put6 (w5.setCell ⟨B, 1, none⟩ (.int .i64 ((p : Int) + 2))) w.heap.size (.int .i64 0) (.string ⟨#[]⟩) (.bool false) (.int .i64 0) (.int .i64 0) (.slice none 0 0)) w.heap.size (PR.leaf 0) none 0) := Lk.mk (S2.out.put (PR.leaf 0) none 0)
       have PO := Lk.mk (put6_only O.out w.heap.size (.int .i64 0) (.string ⟨#[]⟩) (.bool false) (.int .i64 0) (.int .i64 0) (.slice none 0 0) (by omega))
       have PRd := Lk.mk (R.out.put w.heap.size (by omega) (.int .i64 0) (.string ⟨#[]⟩) (.bool false) (.int .i64 0) (.int .i64 0) (.slice none 0 0))
       go_wp2_with fail
       change bodyPost _ _ _ _ _ (put6 (w5.setCell ⟨B, 1, none⟩ (.int .i64 ((p : Int) + 2))) w.heap.size (.int .i64 0) (.string ⟨#[]⟩) (.bool false) (.int .i64 0) (.int .i64 0) (.slice none 0 0))
       generalize put6 (w5.setCell ⟨B, 1, none⟩ (.int .i64 ((p : Int) + 2))) w.heap.size (.int .i64 0) (.string ⟨#[]⟩) (.bool false) (.int .i64 0) (.int .i64 0) (.slice none 0 0) = W at h6 PO PRd ⊢
       obtain ⟨y0, y1, y2, y3, y4, y5, _⟩ := h6.out.cells
       replace y0 : _ = some (Value.int .i64 0) := y0
       replace y1 : _ = some (Value.string ⟨#[]⟩) := y1
       replace y2 : _ = some (Value.bool false) := y2
       replace y3 : _ = some (Value.int .i64 0) := y3
       replace y4 : _ = some (Value.int .i64 0) := y4
       replace y5 : _ = some (Value.slice none 0 0) := y5
       refine bodyPost_ret (v := .tuple #[.agg #[.int .i64 0, .string ⟨#[]⟩, .bool false, .int .i64 0, .int .i64 0, .slice none 0 0], .bool false]) (by simp [results, Tryd.results76, go_sem, y0, y1, y2, y3, y4, y5]) rfl ?_
       refine ⟨PO.out, ?_⟩
       rw [E0.out, HY.out]
       exact ⟨PR.leaf 0, none, 0, _, _, rfl, PRd.out⟩
      ·have hl1 : ¬ (hi : Int) < (lo : Int) := by omega
       go_wp2_with fail
       go_loopg [10] (hi + 1 - lo) (fun gh x wx => ∃ k : Nat, lo ≤ k ∧ k + gh = hi + 1 ∧ x = .int .i64 (k : Int) ∧ Rdr wx B s (p + 2) op ∧ ArrB wx g5 (fun n => m n || (decide (lo ≤ n) && decide (n < k))) ∧ Six wx w.heap.size (PR.leaf 0) none 0 ∧ OnlyB B w wx)
       case atStart => exact ⟨lo, Nat.le_refl _, by omega, rfl, R.out, A5.out.congr (mark_start m lo), S2.out, O.out⟩
       case round =>
        clear R A5 S2 O
        obtain ⟨k, hlk, hkg, rfl, r, a5, s2, o⟩ := hrel
        have R := Lib.hid r
        have A5 := Lib.hid a5
        have S2 := Lib.hid s2
        have O := Lib.hid o
        clear r a5 s2 o
        cases gk with
        | zero =>
         have hk : k = hi + 1 := by omega
         have A5 := Lib.hid (A5.out.congr (m' := span m lo hi) (mark_end m lo hi k hk))
         have hnk : ¬ (k : Int) ≤ (hi : Int) := by omega
         clear hk
         go_wp2_with fail
         go_roundg (s.size + 1 - (p + 2))
         case measure => omega
         case rel => exact ⟨p + 2, span m lo hi, false, fu, rfl, by omega, by omega, by omega, by rw [← HX.out, HST.out]; simp only [if_true]; rw [if_neg hlt, show p + 2 = j + 3 by omega], R.out, A5.out, S2.out, O.out⟩
        | succ gk =>
         have hkh : (k : Int) ≤ (hi : Int) := by omega
         have hk2 : k < 256 := by omega
         have k0 : (0 : Int) ≤ (k : Int) := by omega
         have k1 : (k : Int) < 256 := by omega
         obtain ⟨c1, c2⟩ := A5.out.cell k hk2
         have A6 := Lib.hid (A5.out.mark (m' := fun n => m n || (decide (lo ≤ n) && decide (n < k + 1))) k hk2 (mark_more m lo k hlk))
         have hOs2 := O.out.size
         have R2 := Lib.hid (R.out.cell g5 k (by omega) (.bool true))
         have S3 := Lib.hid (S2.out.cell g5 k (by omega) (.bool true))
         have O2 := Lib.hid (O.out.cell g5 k (by omega) (.bool true))
         go_wp2_with fail
         go_roundg gk
         case measure => omega
         case rel => exact ⟨k + 1, by omega, by omega, by go_num, R2.out, A6.out, S3.out, O2.out⟩
  ·have HA : Hid (atB s j 93 = false) := Lib.hid (dif_neg hj)
   have HRG : Hid (rng s j = false) := Lib.hid (by unfold rng; rw [decide_eq_false (by omega)]; rfl)
   have HY : Hid (setR s (s.size + 1) (i + 1) true (fun _ => false) = none) := Lib.hid (HX.out.symm.trans (setR_end s fu j b m (by omega)))
   cases b
   case true =>
    go_wp2_with fail
    refine (next_no B s j op _ hs R.out (by omega)).mono ?_
    rintro e w3 ⟨rfl, hn⟩
    have o := OnlyB.drewAll (B := B) hn
    have r := R.out.drewAll hn
    clear hn
    have O := Lib.hid (O.out.trans o)
    have S2 := Lib.hid (S2.out.only o (by omega))
    have A5 := Lib.hid (A5.out.only o (by omega))
    have R := Lib.hid r
    clear o r
    go_wp2_with fail
    refine (seesRange_any B s j op _ hs R.out (by omega)).mono ?_
    rintro e w4 ⟨rfl, hn⟩
    have o := OnlyB.drewAll (B := B) hn
    have r := R.out.drewAll hn
    clear hn
    have O := Lib.hid (O.out.trans o)
    have S2 := Lib.hid (S2.out.only o (by omega))
    have A5 := Lib.hid (A5.out.only o (by omega))
    have R := Lib.hid r
    clear o r
    rw [HRG.out]
    obtain ⟨z0, z1, z2, z3, z4, z5, z6⟩ := S2.out.cells
    have z60 := z6 0
    have z61 := z6 1
    have z62 := z6 2
    have z63 := z6 3
    have z64 := z6 4
    have z65 := z6 5
    clear z6
    have h6 : Lk (Six (put6 w4 w.heap.size (.int .i64 0) (.string ⟨#[]⟩) (.bool false) (.int .i64 0) (.int .i64 0) (.slice none 0 0)) w.heap.size (PR.leaf 0) none 0) := Lk.mk (S2.out.put (PR.leaf 0) none 0)
    have PO := Lk.mk (put6_only O.out w.heap.size (.int .i64 0) (.string ⟨#[]⟩) (.bool false) (.int .i64 0) (.int .i64 0) (.slice none 0 0) (by omega))
    have PRd := Lk.mk (R.out.put w.heap.size (by omega) (.int .i64 0) (.string ⟨#[]⟩) (.bool false) (.int .i64 0) (.int .i64 0) (.slice none 0 0))
    go_wp2_with fail
    change bodyPost _ _ _ _ _ (put6 w4 w.heap.size (.int .i64 0) (.string ⟨#[]⟩) (.bool false) (.int .i64 0) (.int .i64 0) (.slice none 0 0))
    generalize put6 w4 w.heap.size (.int .i64 0) (.string ⟨#[]⟩) (.bool false) (.int .i64 0) (.int .i64 0) (.slice none 0 0) = W at h6 PO PRd ⊢
    obtain ⟨y0, y1, y2, y3, y4, y5, _⟩ := h6.out.cells
    replace y0 : _ = some (Value.int .i64 0) := y0
    replace y1 : _ = some (Value.string ⟨#[]⟩) := y1
    replace y2 : _ = some (Value.bool false) := y2
    replace y3 : _ = some (Value.int .i64 0) := y3
    replace y4 : _ = some (Value.int .i64 0) := y4
    replace y5 : _ = some (Value.slice none 0 0) := y5
    refine bodyPost_ret (v := .tuple #[.agg #[.int .i64 0, .string ⟨#[]⟩, .bool false, .int .i64 0, .int .i64 0, .slice none 0 0], .bool false]) (by simp [results, Tryd.results76, go_sem, y0, y1, y2, y3, y4, y5]) rfl ?_
    refine ⟨PO.out, ?_⟩
    rw [E0.out, HY.out]
    exact ⟨PR.leaf 0, none, 0, _, _, rfl, PRd.out⟩
   case false =>
    go_wp2_with fail
    refine (sees_any B s j op 93 _ hs R.out).mono ?_
    rintro e w2 ⟨rfl, hn⟩
    have o := OnlyB.drewAll (B := B) hn
    have r := R.out.drewAll hn
    clear hn
    have O := Lib.hid (O.out.trans o)
    have S2 := Lib.hid (S2.out.only o (by omega))
    have A5 := Lib.hid (A5.out.only o (by omega))
    have R := Lib.hid r
    clear o r
    rw [HA.out]
    go_wp2_with fail
    refine (next_no B s j op _ hs R.out (by omega)).mono ?_
    rintro e w3 ⟨rfl, hn⟩
    have o := OnlyB.drewAll (B := B) hn
    have r := R.out.drewAll hn
    clear hn
    have O := Lib.hid (O.out.trans o)
    have S2 := Lib.hid (S2.out.only o (by omega))
    have A5 := Lib.hid (A5.out.only o (by omega))
    have R := Lib.hid r
    clear o r
    go_wp2_with fail
    refine (seesRange_any B s j op _ hs R.out (by omega)).mono ?_
    rintro e w4 ⟨rfl, hn⟩
    have o := OnlyB.drewAll (B := B) hn
    have r := R.out.drewAll hn
    clear hn
    have O := Lib.hid (O.out.trans o)
    have S2 := Lib.hid (S2.out.only o (by omega))
    have A5 := Lib.hid (A5.out.only o (by omega))
    have R := Lib.hid r
    clear o r
    rw [HRG.out]
    obtain ⟨z0, z1, z2, z3, z4, z5, z6⟩ := S2.out.cells
    have z60 := z6 0
    have z61 := z6 1
    have z62 := z6 2
    have z63 := z6 3
    have z64 := z6 4
    have z65 := z6 5
    clear z6
    have h6 : Lk (Six (put6 w4 w.heap.size (.int .i64 0) (.string ⟨#[]⟩) (.bool false) (.int .i64 0) (.int .i64 0) (.slice none 0 0)) w.heap.size (PR.leaf 0) none 0) := Lk.mk (S2.out.put (PR.leaf 0) none 0)
    have PO := Lk.mk (put6_only O.out w.heap.size (.int .i64 0) (.string ⟨#[]⟩) (.bool false) (.int .i64 0) (.int .i64 0) (.slice none 0 0) (by omega))
    have PRd := Lk.mk (R.out.put w.heap.size (by omega) (.int .i64 0) (.string ⟨#[]⟩) (.bool false) (.int .i64 0) (.int .i64 0) (.slice none 0 0))
    go_wp2_with fail
    change bodyPost _ _ _ _ _ (put6 w4 w.heap.size (.int .i64 0) (.string ⟨#[]⟩) (.bool false) (.int .i64 0) (.int .i64 0) (.slice none 0 0))
    generalize put6 w4 w.heap.size (.int .i64 0) (.string ⟨#[]⟩) (.bool false) (.int .i64 0) (.int .i64 0) (.slice none 0 0) = W at h6 PO PRd ⊢
    obtain ⟨y0, y1, y2, y3, y4, y5, _⟩ := h6.out.cells
    replace y0 : _ = some (Value.int .i64 0) := y0
    replace y1 : _ = some (Value.string ⟨#[]⟩) := y1
    replace y2 : _ = some (Value.bool false) := y2
    replace y3 : _ = some (Value.int .i64 0) := y3
    replace y4 : _ = some (Value.int .i64 0) := y4
    replace y5 : _ = some (Value.slice none 0 0) := y5
    refine bodyPost_ret (v := .tuple #[.agg #[.int .i64 0, .string ⟨#[]⟩, .bool false, .int .i64 0, .int .i64 0, .slice none 0 0], .bool false]) (by simp [results, Tryd.results76, go_sem, y0, y1, y2, y3, y4, y5]) rfl ?_
    refine ⟨PO.out, ?_⟩
    rw [E0.out, HY.out]
    exact ⟨PR.leaf 0, none, 0, _, _, rfl, PRd.out⟩
set_option maxRecDepth 100000 in
set_option maxHeartbeats 4000000 in
theorem set_pos (B : Nat) (s : ByteArray) (i : Nat) (op : Int) (w : World) (hs : s.size ≤ 1048576) (hr : Rdr w B s i op) (hi : i ≤ s.size) (hq : atB s i 94 = false) :
  Calls Tryd.prog 76 #[.pointer (some ⟨B, 0, none⟩)] w (PostP B s op w (PR.setT s i)) := by
 have hBl := hr.lt
 have b1 : Below w.heap.size w (w.alloc (.cells #[.int .i64 0, .string ⟨#[]⟩, .bool false, .int .i64 0, .int .i64 0, .slice none 0 0] 26)) := (Below.refl w.heap.size w).alloc (Nat.le_refl _) _
 have O := Lib.hid (OnlyB.of_below (B := B) b1)
 have R := Lib.hid (hr.kept b1)
 have S2 : Hid (Six _ w.heap.size (PR.leaf 0) none 0) := Lib.hid (heap_alloc_new w (.cells #[.int .i64 0, .string ⟨#[]⟩, .bool false, .int .i64 0, .int .i64 0, .slice none 0 0] 26))
 clear b1 hr
 have E0 : Hid (PR.setT s i = (setR s (s.size + 1) i true (fun _ => false)).map fun x => (RT.node 2 ⟨(mem x.1).toArray⟩ false 0 0 [], x.2)) := Lib.hid (by unfold PR.setT; rw [hq]; rfl)
 go_enter Tryd.func76, Tryd.ntmps76
 go_wp2_with fail
 refine (take_no B s i op 94 _ hs R.out (by assumption)).mono ?_
 rintro e w1 ⟨rfl, hn⟩
 have o := OnlyB.drewAll (B := B) hn
 have r := R.out.drewAll hn
 clear hn
 have O := Lib.hid (O.out.trans o)
 have S2 := Lib.hid (S2.out.only o (by omega))
 have R := Lib.hid r
 clear o r
 clear hq
 have hz1 := R.out.lt
 have hSl := S2.out.lt
 have hO1 := O.out.size
 have A5 : ArrB (World.setRow (w1.alloc (.cells Tryd.zeroCells92 92)) w1.heap.size Tryd.zeroCells92) w1.heap.size (fun _ => false) := ⟨Tryd.zeroCells92, setRow_heap _ _ Tryd.zeroCells92 _ _ _ (heap_alloc_new w1 _), by rw [zero256]; simp, fun j hj => by rw [zero256]; simp [hj]⟩
 have o5 : Below w1.heap.size w1 (World.setRow (w1.alloc (.cells Tryd.zeroCells92 92)) w1.heap.size Tryd.zeroCells92) := setRow_below _ _ _
 go_wp2_with (refine wpList_store_row rfl 92 _ _ rfl w1.heap.size Tryd.zeroCells92 rfl rfl 92 Tryd.zeroCells92 (heap_alloc_new w1 _) (by kernel_rfl) (by kernel_rfl) (by kernel_rfl) ?_; generalize (World.setRow (w1.alloc (.cells Tryd.zeroCells92 92)) w1.heap.size Tryd.zeroCells92) = W1 at *; generalize (Value.agg Tryd.zeroCells92) = z16)
 have z5 := A5.lt
 have O := Lib.hid (O.out.trans (OnlyB.of_below o5))
 have R := Lib.hid (R.out.kept o5)
 have S2 := Lib.hid (S2.out.kept o5)
 have A5 := Lib.hid A5
 clear o5
 obtain ⟨g5, hg5⟩ : ∃ g5, g5 = w1.heap.size := ⟨_, rfl⟩
 have hg5a : B < g5 := by omega
 have hg5b : w.heap.size < g5 := by omega
 rw [← hg5] at A5 z5 ⊢
 have HG5 := Lib.hid hg5
 clear hg5
 go_wp2_with fail
 go_loopg [6] (s.size + 1 - i) (fun gh f wr => ∃ (j : Nat) (m : Nat → Bool) (b : Bool) (fu : Nat), f = .bool b ∧ j ≤ s.size ∧ j + gh = s.size + 1 ∧ s.size + 1 ≤ j + fu ∧ setR s fu j b m = setR s (s.size + 1) i true (fun _ => false) ∧ Rdr wr B s j op ∧ ArrB wr g5 m ∧ Six wr w.heap.size (PR.leaf 0) none 0 ∧ OnlyB B w wr)
 case atStart => exact ⟨i, _, true, s.size + 1, rfl, by omega, by omega, by omega, rfl, R.out, A5.out, S2.out, O.out⟩
 case round =>
  clear R A5 S2 O z5
  obtain ⟨j, m, b, fu, rfl, hjs, hjg, hfu, hX, r, a5, s2, o⟩ := hrel
  have HX := Lib.hid hX
  have R := Lib.hid r
  have A5 := Lib.hid a5
  have S2 := Lib.hid s2
  have O := Lib.hid o
  clear hX r a5 s2 o
  have z5 := A5.out.lt
  have hzr := R.out.lt
  by_cases hj : j < s.size
  ·obtain ⟨fu, rfl⟩ : ∃ f, fu = f + 1 := ⟨fu - 1, by omega⟩
   cases hex : (atB s j 93 && !b)
   case true =>
    have hb : b = false := by cases b; rfl; simp at hex
    have h93 : atB s j 93 = true := by rw [Bool.and_eq_true] at hex; exact hex.1
    subst hb
    have HY : Hid (setR s (s.size + 1) i true (fun _ => false) = some (m, j + 1)) := Lib.hid (HX.out.symm.trans (setR_exit s fu j false m hj hex))
    have H93 := Lib.hid h93
    clear hex h93
    go_wp2_with fail
    refine (sees_any B s j op 93 _ hs R.out).mono ?_
    rintro e w2 ⟨rfl, hn⟩
    have o := OnlyB.drewAll (B := B) hn
    have r := R.out.drewAll hn
    clear hn
    have O := Lib.hid (O.out.trans o)
    have S2 := Lib.hid (S2.out.only o (by omega))
    have A5 := Lib.hid (A5.out.only o (by omega))
    have R := Lib.hid r
    clear o r
    rw [H93.out]
    obtain ⟨h0, h1, h2, h3, h4, h5⟩ := R.out
    obtain ⟨cs, hrow, hcs, hce⟩ := A5.out
    have HCE := Lib.hid hce
    have hbb := S2.out.lt
    have hgb := A5.out.lt
    have hr5 : ∀ v o, ((w2.setCell ⟨B, 1, none⟩ v).alloc o).heap[g5]? = some (.cells cs 92 (0, 0)) := fun v o => (heap_alloc_old _ o (by simpa using hgb)).trans ((Below.heap_setCell w2 ⟨B, 1, none⟩ v g5 (by show g5 ≠ B; omega)).trans hrow)
    have HR5 := Lib.hid hr5
    have HCS := Lib.hid hcs
    have bb : ∀ v o, Below w2.heap.size (w2.setCell ⟨B, 1, none⟩ v) ((w2.setCell ⟨B, 1, none⟩ v).alloc o) := fun v o => (Below.refl _ _).alloc (by simp) o
    have BB := Lib.hid bb
    have R1 := Lib.hid (R.out.setI (j + 1))
    rw [show ((j + 1 : Nat) : Int) = (j : Int) + 1 by omega] at R1
    have S1 := Lib.hid (fun v => S2.out.cell B 1 (by omega) v)
    have O1 := Lib.hid (fun v => O.out.set 1 v)
    have hOs := O.out.size
    clear hrow hcs hce hr5 bb
    go_wp2_with (refine wpList_load_row rfl 92 _ rfl g5 rfl 92 cs _ _ (HR5.out _ _) Tryd.underlying92 rfl (by rw [infoArr, HCS.out]) ?_)
    clear h0 h1 h2 h3 h4 h5
    go_loopg [11, 75] 256 (fun gh v x wx => ∃ k : Nat, k + gh = 256 ∧ x = .int .i64 (k : Int) ∧ Own 5 w2.heap.size wx v (memTo m k) ∧ Rdr wx B s (j + 1) op ∧ Six wx w.heap.size (PR.leaf 0) none 0 ∧ OnlyB B w wx ∧ w2.heap.size ≤ wx.heap.size)
    case atStart => exact ⟨0, rfl, rfl, by simpa [memTo] using own_start (e := 5) (B := w2.heap.size) (w := w2.setCell ⟨B, 1, none⟩ (.int .i64 ((j : Int) + 1))) (by simp), R1.out.below (BB.out _ _) (by have := R.out.lt; omega), (S1.out _).below (BB.out _ _) hbb, (O1.out _).and (BB.out _ _) hOs, by simp⟩
    case round =>
     clear R R1 A5 S2 S1 O O1
     obtain ⟨k, hkg, rfl, ho, r, s2, o, hzx⟩ := hrel
     have HO := Lib.hid ho
     have R := Lib.hid r
     have S2 := Lib.hid s2
     have O := Lib.hid o
     have hmlen := memTo_len m k
     clear ho r s2 o
     cases gk with
     | zero =>
      obtain rfl : k = 256 := by omega
      have hbk := HO.out.back (P := Tryd.prog) 22 9 Tryd.underlying22 Tryd.underlying5 Tryd.underlying9
      have HM : Hid (memTo m 256 = mem m) := Lib.hid rfl
      generalize memTo m 256 = ml at *
      obtain ⟨z0, z1, z2, z3, z4, z5, z6⟩ := S2.out.cells
      have z60 := z6 0
      have z61 := z6 1
      have z62 := z6 2
      have z63 := z6 3
      have z64 := z6 4
      have z65 := z6 5
      clear z6
      have h6 : Lk (Six (put6 wr w.heap.size (.int .i64 2) (.string ⟨ml.toArray⟩) (.bool false) (.int .i64 0) (.int .i64 0) (.slice none 0 0)) w.heap.size (.node 2 ⟨ml.toArray⟩ false 0 0 []) none 0) := Lk.mk (S2.out.put (.node 2 ⟨ml.toArray⟩ false 0 0 []) none 0)
      have PO := Lk.mk (put6_only O.out w.heap.size (.int .i64 2) (.string ⟨ml.toArray⟩) (.bool false) (.int .i64 0) (.int .i64 0) (.slice none 0 0) (by omega))
      have PRd := Lk.mk (R.out.put w.heap.size (by omega) (.int .i64 2) (.string ⟨ml.toArray⟩) (.bool false) (.int .i64 0) (.int .i64 0) (.slice none 0 0))
      go_wp2_with fail
      change bodyPost _ _ _ _ _ (put6 wr w.heap.size (.int .i64 2) (.string ⟨ml.toArray⟩) (.bool false) (.int .i64 0) (.int .i64 0) (.slice none 0 0))
      generalize put6 wr w.heap.size (.int .i64 2) (.string ⟨ml.toArray⟩) (.bool false) (.int .i64 0) (.int .i64 0) (.slice none 0 0) = W at h6 PO PRd ⊢
      obtain ⟨y0, y1, y2, y3, y4, y5, _⟩ := h6.out.cells
      replace y0 : _ = some (Value.int .i64 2) := y0
      replace y1 : _ = some (Value.string ⟨ml.toArray⟩) := y1
      replace y2 : _ = some (Value.bool false) := y2
      replace y3 : _ = some (Value.int .i64 0) := y3
      replace y4 : _ = some (Value.int .i64 0) := y4
      replace y5 : _ = some (Value.slice none 0 0) := y5
      refine bodyPost_ret (v := .tuple #[.agg #[.int .i64 2, .string ⟨ml.toArray⟩, .bool false, .int .i64 0, .int .i64 0, .slice none 0 0], .bool true]) (by simp [results, Tryd.results76, go_sem, y0, y1, y2, y3, y4, y5]) rfl ?_
      refine ⟨PO.out, ?_⟩
      rw [E0.out, HY.out]
      simp only [Option.map_some]
      rw [← HM.out]
      exact ⟨none, 0, [], rfl, KF.nil _, fun y hy => absurd hy (by simp), ⟨by simpa [RT.set, ByteArray.size] using hmlen, by simp [RT.kids]⟩, PRd.out⟩
     | succ gk =>
      have hk : k < 256 := by omega
      have hix := arr_index cs k hk _ HCS.out (HCE.out k hk)
      have k0 : (0 : Int) ≤ (k : Int) := by omega
      have k1 : (k : Int) < 256 := by omega
      cases hm : m k
      case false =>
       rw [hm] at hix
       have HT := Lib.hid (memTo_no hm)
       clear hm
       go_wp2_with fail
       go_roundg gk
       case measure => omega
       case rel => exact ⟨k + 1, by omega, by go_num, by rw [HT.out]; exact HO.out, R.out, S2.out, O.out, hzx⟩
      case true =>
       rw [hm] at hix
       have HT := Lib.hid (memTo_yes hm)
       clear hm
       have HNW := Lib.hid (show ∀ (W : World) (t : TypeId) (j : Nat) (h : j < [UInt8.ofNat k].length), (W.alloc (.cells #[.int .u8 (k : Int)] t)).cell? ((⟨W.heap.size, 0, none⟩ : Addr).add j) = some (.int .u8 (([UInt8.ofNat k][j]).toNat : Int)) from fun W t => by
        have h := news_one W (UInt8.ofNat k) t
        rwa [show ((UInt8.ofNat k).toNat : Int) = (k : Int) by simp; omega] at h)
       go_wp2_with (at_builtin; refine wp_append_bytes Tryd.underlying22 Tryd.infoU8 rfl _ _ rfl w2.heap.size _ _ rfl (HO.out.alloc _) ⟨wr.heap.size, 0, none⟩ 1 1 [UInt8.ofNat k] rfl rfl (HNW.out _ _) (by simp; omega) (by simp; omega) ?_; intro v' w3 hown3 hbel3)
       have ba : Below w2.heap.size wr (wr.alloc (.cells #[.int .u8 (k : Int)] 5)) := (Below.refl _ _).alloc hzx _
       have bc := ba.trans hbel3
       have q1 := Lib.hid hown3
       have q2 := Lib.hid (R.out.below bc (by omega))
       have q3 := Lib.hid (S2.out.below bc (by omega))
       have q4 := Lib.hid (O.out.and bc (by omega))
       have q5 : w2.heap.size ≤ w3.heap.size := Nat.le_trans hzx bc.size
       clear hown3 hbel3 ba bc
       go_wp2_with fail
       go_roundg gk
       case measure => omega
       case rel => exact ⟨k + 1, by omega, by go_num, by rw [HT.out]; exact q1.out, q2.out, q3.out, q4.out, q5⟩
   case false =>
    have HST := Lib.hid (setR_step s fu j b m hj hex)
    have HEX := Lib.hid hex
    clear hex
    obtain ⟨lo, hlo⟩ : ∃ lo, lo = (at_ s j).toNat := ⟨_, rfl⟩
    have hlo1 : lo < 256 := by rw [hlo]; exact (at_ s j).toNat_lt
    rw [← hlo] at HST
    have HLO := Lib.hid hlo
    clear hlo
    cases b
    case true =>
     go_wp2_with fail
     refine (next_yes B s j op _ hs R.out hj).mono ?_
     rintro e w3 ⟨rfl, r, o⟩
     have O := Lib.hid (O.out.trans o)
     have S2 := Lib.hid (S2.out.only o (by omega))
     have A5 := Lib.hid (A5.out.only o (by omega))
     have R := Lib.hid r
     clear o r
     rw [← HLO.out]
     obtain ⟨p, hp⟩ : ∃ p, p = j + 1 := ⟨_, rfl⟩
     rw [← hp] at R HST
     have hp1 : j + 1 ≤ p := by omega
     have hp2 : p ≤ j + 1 := by omega
     have HP := Lib.hid hp
     clear hp
     go_wp2_with fail
     refine (seesRange_any B s p op _ hs R.out (by omega)).mono ?_
     rintro e w4 ⟨rfl, hn⟩
     have o := OnlyB.drewAll (B := B) hn
     have r := R.out.drewAll hn
     clear hn
     have O := Lib.hid (O.out.trans o)
     have S2 := Lib.hid (S2.out.only o (by omega))
     have A5 := Lib.hid (A5.out.only o (by omega))
     have R := Lib.hid r
     clear o r
     cases hrg : rng s p
     case false =>
      rw [hrg] at HST
      clear hrg
      have hnl : ¬ (lo : Int) < (lo : Int) := by omega
      go_wp2_with fail
      go_loopg [10] (lo + 1 - lo) (fun gh x wx => ∃ k : Nat, lo ≤ k ∧ k + gh = lo + 1 ∧ x = .int .i64 (k : Int) ∧ Rdr wx B s (p) op ∧ ArrB wx g5 (fun n => m n || (decide (lo ≤ n) && decide (n < k))) ∧ Six wx w.heap.size (PR.leaf 0) none 0 ∧ OnlyB B w wx)
      case atStart => exact ⟨lo, Nat.le_refl _, by omega, rfl, R.out, A5.out.congr (mark_start m lo), S2.out, O.out⟩
      case round =>
       clear R A5 S2 O
       obtain ⟨k, hlk, hkg, rfl, r, a5, s2, o⟩ := hrel
       have R := Lib.hid r
       have A5 := Lib.hid a5
       have S2 := Lib.hid s2
       have O := Lib.hid o
       clear r a5 s2 o
       cases gk with
       | zero =>
        have hk : k = lo + 1 := by omega
        have A5 := Lib.hid (A5.out.congr (m' := span m lo lo) (mark_end m lo lo k hk))
        have hnk : ¬ (k : Int) ≤ (lo : Int) := by omega
        clear hk
        go_wp2_with fail
        go_roundg (s.size + 1 - (p))
        case measure => omega
        case rel => exact ⟨p, span m lo lo, false, fu, rfl, by omega, by omega, by omega, by rw [← HX.out, HST.out]; rfl, R.out, A5.out, S2.out, O.out⟩
       | succ gk =>
        have hkh : (k : Int) ≤ (lo : Int) := by omega
        have hk2 : k < 256 := by omega
        have k0 : (0 : Int) ≤ (k : Int) := by omega
        have k1 : (k : Int) < 256 := by omega
        obtain ⟨c1, c2⟩ := A5.out.cell k hk2
        have A6 := Lib.hid (A5.out.mark (m' := fun n => m n || (decide (lo ≤ n) && decide (n < k + 1))) k hk2 (mark_more m lo k hlk))
        have hOs2 := O.out.size
        have R2 := Lib.hid (R.out.cell g5 k (by omega) (.bool true))
        have S3 := Lib.hid (S2.out.cell g5 k (by omega) (.bool true))
        have O2 := Lib.hid (O.out.cell g5 k (by omega) (.bool true))
        go_wp2_with fail
        go_roundg gk
        case measure => omega
        case rel => exact ⟨k + 1, by omega, by omega, by go_num, R2.out, A6.out, S3.out, O2.out⟩
     case true =>
      have hp3 : p + 1 < s.size := by unfold rng at hrg; simp at hrg; exact hrg.1
      rw [hrg] at HST
      clear hrg
      obtain ⟨hi, hhi⟩ : ∃ hi, hi = (at_ s (j + 2)).toNat := ⟨_, rfl⟩
      have hhi1 : hi < 256 := by rw [hhi]; exact (at_ s (j + 2)).toNat_lt
      rw [← hhi] at HST
      have HHI : Hid ((s[p + 1]'hp3).toNat = hi) := Lib.hid (by rw [hhi, at_eq s (p + 1) hp3, show p + 1 = j + 2 by omega])
      clear hhi
      obtain ⟨h0, h1, h2, h3, h4, h5⟩ := R.out
      have s1 : IntKind.i64.wrap ((p : Int) + 1) = (p : Int) + 1 := IntWalk.i64_in _ (by omega)
      have s2 : (0 : Int) ≤ (p : Int) + 1 := by omega
      have s3 : (p : Int) + 1 < (s.size : Int) := by omega
      have s4 : ((p : Int) + 1).toNat = p + 1 := by omega
      go_wp2_with fail
      go_quiet (fail)
      rename_i nq
      rw [HHI.out]
      clear s1 s2 s3 s4 h0 h1 h2 h3 h4 h5 HHI
      have R := Lib.hid (R.out.drewN nq)
      have O := Lib.hid (O.out.drewN nq)
      have S2 : Hid (Six (w4.drewN nq) w.heap.size (PR.leaf 0) none 0) := Lib.hid S2.out
      have A5 : Hid (ArrB (w4.drewN nq) g5 m) := Lib.hid A5.out
      generalize w4.drewN nq = w5 at *
      obtain ⟨h0, h1, h2, h3, h4, h5⟩ := R.out
      have R := Lib.hid (R.out.setI (p + 2))
      rw [show ((p + 2 : Nat) : Int) = (p : Int) + 2 by omega] at R
      have O := Lib.hid (O.out.set 1 (.int .i64 ((p : Int) + 2)))
      have S2 := Lib.hid (S2.out.cell B 1 (by omega) (.int .i64 ((p : Int) + 2)))
      have A5 := Lib.hid (A5.out.only ((OnlyB.refl B w5).set 1 (.int .i64 ((p : Int) + 2))) (by omega))
      by_cases hlt : hi < lo
      ·have hl1 : (hi : Int) < (lo : Int) := by omega
       have HY : Hid (setR s (s.size + 1) i true (fun _ => false) = none) := Lib.hid (by rw [← HX.out, HST.out]; simp only [if_true]; rw [if_pos hlt])
       obtain ⟨z0, z1, z2, z3, z4, z5, z6⟩ := S2.out.cells
       have z60 := z6 0
       have z61 := z6 1
       have z62 := z6 2
       have z63 := z6 3
       have z64 := z6 4
       have z65 := z6 5
       clear z6
       have h6 : Lk (Six (put6 (w5.setCell ⟨B, 1, none⟩ (.int .i64 ((p : Int) + 2))) w.heap.size (.int .i64 0) (.string ⟨#[]⟩) (.bool false) (.int .i64 0) (.int .i64 0) (.slice none 0 0)) w.heap.size (PR.leaf 0) none 0) := Lk.mk (S2.out.put (PR.leaf 0) none 0)
       have PO := Lk.mk (put6_only O.out w.heap.size (.int .i64 0) (.string ⟨#[]⟩) (.bool false) (.int .i64 0) (.int .i64 0) (.slice none 0 0) (by omega))
       have PRd := Lk.mk (R.out.put w.heap.size (by omega) (.int .i64 0) (.string ⟨#[]⟩) (.bool false) (.int .i64 0) (.int .i64 0) (.slice none 0 0))
       go_wp2_with fail
       change bodyPost _ _ _ _ _ (put6 (w5.setCell ⟨B, 1, none⟩ (.int .i64 ((p : Int) + 2))) w.heap.size (.int .i64 0) (.string ⟨#[]⟩) (.bool false) (.int .i64 0) (.int .i64 0) (.slice none 0 0))
       generalize put6 (w5.setCell ⟨B, 1, none⟩ (.int .i64 ((p : Int) + 2))) w.heap.size (.int .i64 0) (.string ⟨#[]⟩) (.bool false) (.int .i64 0) (.int .i64 0) (.slice none 0 0) = W at h6 PO PRd ⊢
       obtain ⟨y0, y1, y2, y3, y4, y5, _⟩ := h6.out.cells
       replace y0 : _ = some (Value.int .i64 0) := y0
       replace y1 : _ = some (Value.string ⟨#[]⟩) := y1
       replace y2 : _ = some (Value.bool false) := y2
       replace y3 : _ = some (Value.int .i64 0) := y3
       replace y4 : _ = some (Value.int .i64 0) := y4
       replace y5 : _ = some (Value.slice none 0 0) := y5
       refine bodyPost_ret (v := .tuple #[.agg #[.int .i64 0, .string ⟨#[]⟩, .bool false, .int .i64 0, .int .i64 0, .slice none 0 0], .bool false]) (by simp [results, Tryd.results76, go_sem, y0, y1, y2, y3, y4, y5]) rfl ?_
       refine ⟨PO.out, ?_⟩
       rw [E0.out, HY.out]
       exact ⟨PR.leaf 0, none, 0, _, _, rfl, PRd.out⟩
      ·have hl1 : ¬ (hi : Int) < (lo : Int) := by omega
       go_wp2_with fail
       go_loopg [10] (hi + 1 - lo) (fun gh x wx => ∃ k : Nat, lo ≤ k ∧ k + gh = hi + 1 ∧ x = .int .i64 (k : Int) ∧ Rdr wx B s (p + 2) op ∧ ArrB wx g5 (fun n => m n || (decide (lo ≤ n) && decide (n < k))) ∧ Six wx w.heap.size (PR.leaf 0) none 0 ∧ OnlyB B w wx)
       case atStart => exact ⟨lo, Nat.le_refl _, by omega, rfl, R.out, A5.out.congr (mark_start m lo), S2.out, O.out⟩
       case round =>
        clear R A5 S2 O
        obtain ⟨k, hlk, hkg, rfl, r, a5, s2, o⟩ := hrel
        have R := Lib.hid r
        have A5 := Lib.hid a5
        have S2 := Lib.hid s2
        have O := Lib.hid o
        clear r a5 s2 o
        cases gk with
        | zero =>
         have hk : k = hi + 1 := by omega
         have A5 := Lib.hid (A5.out.congr (m' := span m lo hi) (mark_end m lo hi k hk))
         have hnk : ¬ (k : Int) ≤ (hi : Int) := by omega
         clear hk
         go_wp2_with fail
         go_roundg (s.size + 1 - (p + 2))
         case measure => omega
         case rel => exact ⟨p + 2, span m lo hi, false, fu, rfl, by omega, by omega, by omega, by rw [← HX.out, HST.out]; simp only [if_true]; rw [if_neg hlt, show p + 2 = j + 3 by omega], R.out, A5.out, S2.out, O.out⟩
        | succ gk =>
         have hkh : (k : Int) ≤ (hi : Int) := by omega
         have hk2 : k < 256 := by omega
         have k0 : (0 : Int) ≤ (k : Int) := by omega
         have k1 : (k : Int) < 256 := by omega
         obtain ⟨c1, c2⟩ := A5.out.cell k hk2
         have A6 := Lib.hid (A5.out.mark (m' := fun n => m n || (decide (lo ≤ n) && decide (n < k + 1))) k hk2 (mark_more m lo k hlk))
         have hOs2 := O.out.size
         have R2 := Lib.hid (R.out.cell g5 k (by omega) (.bool true))
         have S3 := Lib.hid (S2.out.cell g5 k (by omega) (.bool true))
         have O2 := Lib.hid (O.out.cell g5 k (by omega) (.bool true))
         go_wp2_with fail
         go_roundg gk
         case measure => omega
         case rel => exact ⟨k + 1, by omega, by omega, by go_num, R2.out, A6.out, S3.out, O2.out⟩
    case false =>
     have H93 : Hid (atB s j 93 = false) := Lib.hid (by have h := HEX.out; simpa using h)
     go_wp2_with fail
     refine (sees_any B s j op 93 _ hs R.out).mono ?_
     rintro e w2 ⟨rfl, hn⟩
     have o := OnlyB.drewAll (B := B) hn
     have r := R.out.drewAll hn
     clear hn
     have O := Lib.hid (O.out.trans o)
     have S2 := Lib.hid (S2.out.only o (by omega))
     have A5 := Lib.hid (A5.out.only o (by omega))
     have R := Lib.hid r
     clear o r
     rw [H93.out]
     go_wp2_with fail
     refine (next_yes B s j op _ hs R.out hj).mono ?_
     rintro e w3 ⟨rfl, r, o⟩
     have O := Lib.hid (O.out.trans o)
     have S2 := Lib.hid (S2.out.only o (by omega))
     have A5 := Lib.hid (A5.out.only o (by omega))
     have R := Lib.hid r
     clear o r
     rw [← HLO.out]
     obtain ⟨p, hp⟩ : ∃ p, p = j + 1 := ⟨_, rfl⟩
     rw [← hp] at R HST
     have hp1 : j + 1 ≤ p := by omega
     have hp2 : p ≤ j + 1 := by omega
     have HP := Lib.hid hp
     clear hp
     go_wp2_with fail
     refine (seesRange_any B s p op _ hs R.out (by omega)).mono ?_
     rintro e w4 ⟨rfl, hn⟩
     have o := OnlyB.drewAll (B := B) hn
     have r := R.out.drewAll hn
     clear hn
     have O := Lib.hid (O.out.trans o)
     have S2 := Lib.hid (S2.out.only o (by omega))
     have A5 := Lib.hid (A5.out.only o (by omega))
     have R := Lib.hid r
     clear o r
     cases hrg : rng s p
     case false =>
      rw [hrg] at HST
      clear hrg
      have hnl : ¬ (lo : Int) < (lo : Int) := by omega
      go_wp2_with fail
      go_loopg [10] (lo + 1 - lo) (fun gh x wx => ∃ k : Nat, lo ≤ k ∧ k + gh = lo + 1 ∧ x = .int .i64 (k : Int) ∧ Rdr wx B s (p) op ∧ ArrB wx g5 (fun n => m n || (decide (lo ≤ n) && decide (n < k))) ∧ Six wx w.heap.size (PR.leaf 0) none 0 ∧ OnlyB B w wx)
      case atStart => exact ⟨lo, Nat.le_refl _, by omega, rfl, R.out, A5.out.congr (mark_start m lo), S2.out, O.out⟩
      case round =>
       clear R A5 S2 O
       obtain ⟨k, hlk, hkg, rfl, r, a5, s2, o⟩ := hrel
       have R := Lib.hid r
       have A5 := Lib.hid a5
       have S2 := Lib.hid s2
       have O := Lib.hid o
       clear r a5 s2 o
       cases gk with
       | zero =>
        have hk : k = lo + 1 := by omega
        have A5 := Lib.hid (A5.out.congr (m' := span m lo lo) (mark_end m lo lo k hk))
        have hnk : ¬ (k : Int) ≤ (lo : Int) := by omega
        clear hk
        go_wp2_with fail
        go_roundg (s.size + 1 - (p))
        case measure => omega
        case rel => exact ⟨p, span m lo lo, false, fu, rfl, by omega, by omega, by omega, by rw [← HX.out, HST.out]; rfl, R.out, A5.out, S2.out, O.out⟩
       | succ gk =>
        have hkh : (k : Int) ≤ (lo : Int) := by omega
        have hk2 : k < 256 := by omega
        have k0 : (0 : Int) ≤ (k : Int) := by omega
        have k1 : (k : Int) < 256 := by omega
        obtain ⟨c1, c2⟩ := A5.out.cell k hk2
        have A6 := Lib.hid (A5.out.mark (m' := fun n => m n || (decide (lo ≤ n) && decide (n < k + 1))) k hk2 (mark_more m lo k hlk))
        have hOs2 := O.out.size
        have R2 := Lib.hid (R.out.cell g5 k (by omega) (.bool true))
        have S3 := Lib.hid (S2.out.cell g5 k (by omega) (.bool true))
        have O2 := Lib.hid (O.out.cell g5 k (by omega) (.bool true))
        go_wp2_with fail
        go_roundg gk
        case measure => omega
        case rel => exact ⟨k + 1, by omega, by omega, by go_num, R2.out, A6.out, S3.out, O2.out⟩
     case true =>
      have hp3 : p + 1 < s.size := by unfold rng at hrg; simp at hrg; exact hrg.1
      rw [hrg] at HST
      clear hrg
      obtain ⟨hi, hhi⟩ : ∃ hi, hi = (at_ s (j + 2)).toNat := ⟨_, rfl⟩
      have hhi1 : hi < 256 := by rw [hhi]; exact (at_ s (j + 2)).toNat_lt
      rw [← hhi] at HST
      have HHI : Hid ((s[p + 1]'hp3).toNat = hi) := Lib.hid (by rw [hhi, at_eq s (p + 1) hp3, show p + 1 = j + 2 by omega])
      clear hhi
      obtain ⟨h0, h1, h2, h3, h4, h5⟩ := R.out
      have s1 : IntKind.i64.wrap ((p : Int) + 1) = (p : Int) + 1 := IntWalk.i64_in _ (by omega)
      have s2 : (0 : Int) ≤ (p : Int) + 1 := by omega
      have s3 : (p : Int) + 1 < (s.size : Int) := by omega
      have s4 : ((p : Int) + 1).toNat = p + 1 := by omega
      go_wp2_with fail
      go_quiet (fail)
      rename_i nq
      rw [HHI.out]
      clear s1 s2 s3 s4 h0 h1 h2 h3 h4 h5 HHI
      have R := Lib.hid (R.out.drewN nq)
      have O := Lib.hid (O.out.drewN nq)
      have S2 : Hid (Six (w4.drewN nq) w.heap.size (PR.leaf 0) none 0) := Lib.hid S2.out
      have A5 : Hid (ArrB (w4.drewN nq) g5 m) := Lib.hid A5.out
      generalize w4.drewN nq = w5 at *
      obtain ⟨h0, h1, h2, h3, h4, h5⟩ := R.out
      have R := Lib.hid (R.out.setI (p + 2))
      rw [show ((p + 2 : Nat) : Int) = (p : Int) + 2 by omega] at R
      have O := Lib.hid (O.out.set 1 (.int .i64 ((p : Int) + 2)))
      have S2 := Lib.hid (S2.out.cell B 1 (by omega) (.int .i64 ((p : Int) + 2)))
      have A5 := Lib.hid (A5.out.only ((OnlyB.refl B w5).set 1 (.int .i64 ((p : Int) + 2))) (by omega))
      by_cases hlt : hi < lo
      ·have hl1 : (hi : Int) < (lo : Int) := by omega
       have HY : Hid (setR s (s.size + 1) i true (fun _ => false) = none) := Lib.hid (by rw [← HX.out, HST.out]; simp only [if_true]; rw [if_pos hlt])
       obtain ⟨z0, z1, z2, z3, z4, z5, z6⟩ := S2.out.cells
       have z60 := z6 0
       have z61 := z6 1
       have z62 := z6 2
       have z63 := z6 3
       have z64 := z6 4
       have z65 := z6 5
       clear z6
       have h6 : Lk (Six (put6 (w5.setCell ⟨B, 1, none⟩ (.int .i64 ((p : Int) + 2))) w.heap.size (.int .i64 0) (.string ⟨#[]⟩) (.bool false) (.int .i64 0) (.int .i64 0) (.slice none 0 0)) w.heap.size (PR.leaf 0) none 0) := Lk.mk (S2.out.put (PR.leaf 0) none 0)
       have PO := Lk.mk (put6_only O.out w.heap.size (.int .i64 0) (.string ⟨#[]⟩) (.bool false) (.int .i64 0) (.int .i64 0) (.slice none 0 0) (by omega))
       have PRd := Lk.mk (R.out.put w.heap.size (by omega) (.int .i64 0) (.string ⟨#[]⟩) (.bool false) (.int .i64 0) (.int .i64 0) (.slice none 0 0))
       go_wp2_with fail
       change bodyPost _ _ _ _ _ (put6 (w5.setCell ⟨B, 1, none⟩ (.int .i64 ((p : Int) + 2))) w.heap.size (.int .i64 0) (.string ⟨#[]⟩) (.bool false) (.int .i64 0) (.int .i64 0) (.slice none 0 0))
       generalize put6 (w5.setCell ⟨B, 1, none⟩ (.int .i64 ((p : Int) + 2))) w.heap.size (.int .i64 0) (.string ⟨#[]⟩) (.bool false) (.int .i64 0) (.int .i64 0) (.slice none 0 0) = W at h6 PO PRd ⊢
       obtain ⟨y0, y1, y2, y3, y4, y5, _⟩ := h6.out.cells
       replace y0 : _ = some (Value.int .i64 0) := y0
       replace y1 : _ = some (Value.string ⟨#[]⟩) := y1
       replace y2 : _ = some (Value.bool false) := y2
       replace y3 : _ = some (Value.int .i64 0) := y3
       replace y4 : _ = some (Value.int .i64 0) := y4
       replace y5 : _ = some (Value.slice none 0 0) := y5
       refine bodyPost_ret (v := .tuple #[.agg #[.int .i64 0, .string ⟨#[]⟩, .bool false, .int .i64 0, .int .i64 0, .slice none 0 0], .bool false]) (by simp [results, Tryd.results76, go_sem, y0, y1, y2, y3, y4, y5]) rfl ?_
       refine ⟨PO.out, ?_⟩
       rw [E0.out, HY.out]
       exact ⟨PR.leaf 0, none, 0, _, _, rfl, PRd.out⟩
      ·have hl1 : ¬ (hi : Int) < (lo : Int) := by omega
       go_wp2_with fail
       go_loopg [10] (hi + 1 - lo) (fun gh x wx => ∃ k : Nat, lo ≤ k ∧ k + gh = hi + 1 ∧ x = .int .i64 (k : Int) ∧ Rdr wx B s (p + 2) op ∧ ArrB wx g5 (fun n => m n || (decide (lo ≤ n) && decide (n < k))) ∧ Six wx w.heap.size (PR.leaf 0) none 0 ∧ OnlyB B w wx)
       case atStart => exact ⟨lo, Nat.le_refl _, by omega, rfl, R.out, A5.out.congr (mark_start m lo), S2.out, O.out⟩
       case round =>
        clear R A5 S2 O
        obtain ⟨k, hlk, hkg, rfl, r, a5, s2, o⟩ := hrel
        have R := Lib.hid r
        have A5 := Lib.hid a5
        have S2 := Lib.hid s2
        have O := Lib.hid o
        clear r a5 s2 o
        cases gk with
        | zero =>
         have hk : k = hi + 1 := by omega
         have A5 := Lib.hid (A5.out.congr (m' := span m lo hi) (mark_end m lo hi k hk))
         have hnk : ¬ (k : Int) ≤ (hi : Int) := by omega
         clear hk
         go_wp2_with fail
         go_roundg (s.size + 1 - (p + 2))
         case measure => omega
         case rel => exact ⟨p + 2, span m lo hi, false, fu, rfl, by omega, by omega, by omega, by rw [← HX.out, HST.out]; simp only [if_true]; rw [if_neg hlt, show p + 2 = j + 3 by omega], R.out, A5.out, S2.out, O.out⟩
        | succ gk =>
         have hkh : (k : Int) ≤ (hi : Int) := by omega
         have hk2 : k < 256 := by omega
         have k0 : (0 : Int) ≤ (k : Int) := by omega
         have k1 : (k : Int) < 256 := by omega
         obtain ⟨c1, c2⟩ := A5.out.cell k hk2
         have A6 := Lib.hid (A5.out.mark (m' := fun n => m n || (decide (lo ≤ n) && decide (n < k + 1))) k hk2 (mark_more m lo k hlk))
         have hOs2 := O.out.size
         have R2 := Lib.hid (R.out.cell g5 k (by omega) (.bool true))
         have S3 := Lib.hid (S2.out.cell g5 k (by omega) (.bool true))
         have O2 := Lib.hid (O.out.cell g5 k (by omega) (.bool true))
         go_wp2_with fail
         go_roundg gk
         case measure => omega
         case rel => exact ⟨k + 1, by omega, by omega, by go_num, R2.out, A6.out, S3.out, O2.out⟩
  ·have HA : Hid (atB s j 93 = false) := Lib.hid (dif_neg hj)
   have HRG : Hid (rng s j = false) := Lib.hid (by unfold rng; rw [decide_eq_false (by omega)]; rfl)
   have HY : Hid (setR s (s.size + 1) i true (fun _ => false) = none) := Lib.hid (HX.out.symm.trans (setR_end s fu j b m (by omega)))
   cases b
   case true =>
    go_wp2_with fail
    refine (next_no B s j op _ hs R.out (by omega)).mono ?_
    rintro e w3 ⟨rfl, hn⟩
    have o := OnlyB.drewAll (B := B) hn
    have r := R.out.drewAll hn
    clear hn
    have O := Lib.hid (O.out.trans o)
    have S2 := Lib.hid (S2.out.only o (by omega))
    have A5 := Lib.hid (A5.out.only o (by omega))
    have R := Lib.hid r
    clear o r
    go_wp2_with fail
    refine (seesRange_any B s j op _ hs R.out (by omega)).mono ?_
    rintro e w4 ⟨rfl, hn⟩
    have o := OnlyB.drewAll (B := B) hn
    have r := R.out.drewAll hn
    clear hn
    have O := Lib.hid (O.out.trans o)
    have S2 := Lib.hid (S2.out.only o (by omega))
    have A5 := Lib.hid (A5.out.only o (by omega))
    have R := Lib.hid r
    clear o r
    rw [HRG.out]
    obtain ⟨z0, z1, z2, z3, z4, z5, z6⟩ := S2.out.cells
    have z60 := z6 0
    have z61 := z6 1
    have z62 := z6 2
    have z63 := z6 3
    have z64 := z6 4
    have z65 := z6 5
    clear z6
    have h6 : Lk (Six (put6 w4 w.heap.size (.int .i64 0) (.string ⟨#[]⟩) (.bool false) (.int .i64 0) (.int .i64 0) (.slice none 0 0)) w.heap.size (PR.leaf 0) none 0) := Lk.mk (S2.out.put (PR.leaf 0) none 0)
    have PO := Lk.mk (put6_only O.out w.heap.size (.int .i64 0) (.string ⟨#[]⟩) (.bool false) (.int .i64 0) (.int .i64 0) (.slice none 0 0) (by omega))
    have PRd := Lk.mk (R.out.put w.heap.size (by omega) (.int .i64 0) (.string ⟨#[]⟩) (.bool false) (.int .i64 0) (.int .i64 0) (.slice none 0 0))
    go_wp2_with fail
    change bodyPost _ _ _ _ _ (put6 w4 w.heap.size (.int .i64 0) (.string ⟨#[]⟩) (.bool false) (.int .i64 0) (.int .i64 0) (.slice none 0 0))
    generalize put6 w4 w.heap.size (.int .i64 0) (.string ⟨#[]⟩) (.bool false) (.int .i64 0) (.int .i64 0) (.slice none 0 0) = W at h6 PO PRd ⊢
    obtain ⟨y0, y1, y2, y3, y4, y5, _⟩ := h6.out.cells
    replace y0 : _ = some (Value.int .i64 0) := y0
    replace y1 : _ = some (Value.string ⟨#[]⟩) := y1
    replace y2 : _ = some (Value.bool false) := y2
    replace y3 : _ = some (Value.int .i64 0) := y3
    replace y4 : _ = some (Value.int .i64 0) := y4
    replace y5 : _ = some (Value.slice none 0 0) := y5
    refine bodyPost_ret (v := .tuple #[.agg #[.int .i64 0, .string ⟨#[]⟩, .bool false, .int .i64 0, .int .i64 0, .slice none 0 0], .bool false]) (by simp [results, Tryd.results76, go_sem, y0, y1, y2, y3, y4, y5]) rfl ?_
    refine ⟨PO.out, ?_⟩
    rw [E0.out, HY.out]
    exact ⟨PR.leaf 0, none, 0, _, _, rfl, PRd.out⟩
   case false =>
    go_wp2_with fail
    refine (sees_any B s j op 93 _ hs R.out).mono ?_
    rintro e w2 ⟨rfl, hn⟩
    have o := OnlyB.drewAll (B := B) hn
    have r := R.out.drewAll hn
    clear hn
    have O := Lib.hid (O.out.trans o)
    have S2 := Lib.hid (S2.out.only o (by omega))
    have A5 := Lib.hid (A5.out.only o (by omega))
    have R := Lib.hid r
    clear o r
    rw [HA.out]
    go_wp2_with fail
    refine (next_no B s j op _ hs R.out (by omega)).mono ?_
    rintro e w3 ⟨rfl, hn⟩
    have o := OnlyB.drewAll (B := B) hn
    have r := R.out.drewAll hn
    clear hn
    have O := Lib.hid (O.out.trans o)
    have S2 := Lib.hid (S2.out.only o (by omega))
    have A5 := Lib.hid (A5.out.only o (by omega))
    have R := Lib.hid r
    clear o r
    go_wp2_with fail
    refine (seesRange_any B s j op _ hs R.out (by omega)).mono ?_
    rintro e w4 ⟨rfl, hn⟩
    have o := OnlyB.drewAll (B := B) hn
    have r := R.out.drewAll hn
    clear hn
    have O := Lib.hid (O.out.trans o)
    have S2 := Lib.hid (S2.out.only o (by omega))
    have A5 := Lib.hid (A5.out.only o (by omega))
    have R := Lib.hid r
    clear o r
    rw [HRG.out]
    obtain ⟨z0, z1, z2, z3, z4, z5, z6⟩ := S2.out.cells
    have z60 := z6 0
    have z61 := z6 1
    have z62 := z6 2
    have z63 := z6 3
    have z64 := z6 4
    have z65 := z6 5
    clear z6
    have h6 : Lk (Six (put6 w4 w.heap.size (.int .i64 0) (.string ⟨#[]⟩) (.bool false) (.int .i64 0) (.int .i64 0) (.slice none 0 0)) w.heap.size (PR.leaf 0) none 0) := Lk.mk (S2.out.put (PR.leaf 0) none 0)
    have PO := Lk.mk (put6_only O.out w.heap.size (.int .i64 0) (.string ⟨#[]⟩) (.bool false) (.int .i64 0) (.int .i64 0) (.slice none 0 0) (by omega))
    have PRd := Lk.mk (R.out.put w.heap.size (by omega) (.int .i64 0) (.string ⟨#[]⟩) (.bool false) (.int .i64 0) (.int .i64 0) (.slice none 0 0))
    go_wp2_with fail
    change bodyPost _ _ _ _ _ (put6 w4 w.heap.size (.int .i64 0) (.string ⟨#[]⟩) (.bool false) (.int .i64 0) (.int .i64 0) (.slice none 0 0))
    generalize put6 w4 w.heap.size (.int .i64 0) (.string ⟨#[]⟩) (.bool false) (.int .i64 0) (.int .i64 0) (.slice none 0 0) = W at h6 PO PRd ⊢
    obtain ⟨y0, y1, y2, y3, y4, y5, _⟩ := h6.out.cells
    replace y0 : _ = some (Value.int .i64 0) := y0
    replace y1 : _ = some (Value.string ⟨#[]⟩) := y1
    replace y2 : _ = some (Value.bool false) := y2
    replace y3 : _ = some (Value.int .i64 0) := y3
    replace y4 : _ = some (Value.int .i64 0) := y4
    replace y5 : _ = some (Value.slice none 0 0) := y5
    refine bodyPost_ret (v := .tuple #[.agg #[.int .i64 0, .string ⟨#[]⟩, .bool false, .int .i64 0, .int .i64 0, .slice none 0 0], .bool false]) (by simp [results, Tryd.results76, go_sem, y0, y1, y2, y3, y4, y5]) rfl ?_
    refine ⟨PO.out, ?_⟩
    rw [E0.out, HY.out]
    exact ⟨PR.leaf 0, none, 0, _, _, rfl, PRd.out⟩
theorem set_any (B : Nat) (s : ByteArray) (i : Nat) (op : Int) (w : World) (hs : s.size ≤ 1048576) (hr : Rdr w B s i op) (hi : i ≤ s.size) :
  Calls Tryd.prog 76 #[.pointer (some ⟨B, 0, none⟩)] w (PostP B s op w (PR.setT s i)) := by
 cases h : atB s i 94
 ·exact set_pos B s i op w hs hr hi h
 ·exact set_neg B s i op w hs hr hi h
end Go.Proofs.YtcpaneaiobnhdaaDoor.kit
/-
 Contracts of impl's readers once, group, item of expressions for texts over this seat's translation. Conditions: the reader's cells are known; there is fuel enough.
-/
namespace Go.Proofs.YtcpaneaiobnhdaaDoor.kit
open Go.ChangeShapes Go.WideShapes Go.ChangeAt Go.RowKit
set_option linter.unusedVariables false

theorem u8_back (c : UInt8) : ((c.toNat : Int)).toNat.toUInt8 = c := by simp
theorem at_is {s : ByteArray} {i : Nat} (c : UInt8) (n : Int) (hn : (c.toNat : Int) = n) (h : i < s.size) : (((at_ s i).toNat : Int) == n) = atB s i c := by
 rw [← hn, ← at_eq s i h]; exact atB_in h
theorem atB_excl {s : ByteArray} {i : Nat} {c c' : UInt8} (h : atB s i c = true) (hne : c ≠ c') : atB s i c' = false := by
 unfold atB at h ⊢
 split at h
 ·rename_i g; rw [dif_pos g]
  have : s[i] = c := by simpa using h
  rw [this]; simpa using hne
 ·cases h
/-- The bytes that tell how often an item stands. -/
def often : List UInt8 := [42, 43, 63, 123]
theorem often_byte (c : UInt8) : 0 ≤ Lib.indexByte often c ↔ often.contains c = true := by
 have h : ∀ n : Fin 256, decide (0 ≤ Lib.indexByte often (UInt8.ofNat n)) = often.contains (UInt8.ofNat n) := by decide +kernel
 obtain ⟨n, rfl⟩ := byte_fin c
 have := h n
 rw [← this]; simp
theorem often_at {s : ByteArray} {i : Nat} (h : i < s.size) : often.contains (at_ s i) = (atB s i 42 || atB s i 43 || atB s i 63 || atB s i 123) := by
 have e : ∀ c : UInt8, atB s i c = (at_ s i == c) := fun c => by rw [← at_eq s i h]; unfold atB; rw [dif_pos h]
 simp only [e, often, List.contains_cons, List.contains_nil, Bool.or_false, Bool.or_assoc]
def grp (s : ByteArray) (f d i : Nat) : Option (RT × Nat) := if d = 0 then none else match PR.alts s f (d - 1) i with
 | none => none
 | some x => if atB s x.2 41 then some (PR.alT x.1, x.2 + 1) else none
def ChoiceOk (f : Nat) : Prop := ∀ (B : Nat) (s : ByteArray) (i : Nat) (op : Int) (w : World) (d : Nat), s.size ≤ 4000 → Rdr w B s i op → i ≤ s.size → op = 200 - (d : Int) → d ≤ 200 → 3 * (s.size - i) + 3 ≤ f →
 Calls Tryd.prog 23 #[.pointer (some ⟨B, 0, none⟩)] w (PostP B s op w ((PR.alts s f d i).map fun x => (PR.alT x.1, x.2)))
def RowOk (f : Nat) : Prop := ∀ (B : Nat) (s : ByteArray) (i : Nat) (op : Int) (w : World) (d : Nat), s.size ≤ 4000 → Rdr w B s i op → i ≤ s.size → op = 200 - (d : Int) → d ≤ 200 → 3 * (s.size - i) + 2 ≤ f →
 Calls Tryd.prog 36 #[.pointer (some ⟨B, 0, none⟩)] w (PostP B s op w ((PR.cats s f d i).map fun x => (PR.caT x.1, x.2)))
def OnceOk (f : Nat) : Prop := ∀ (B : Nat) (s : ByteArray) (i : Nat) (op : Int) (w : World) (d : Nat), s.size ≤ 4000 → Rdr w B s i op → i < s.size → op = 200 - (d : Int) → d ≤ 200 → 3 * (s.size - i) + 1 ≤ f →
 Calls Tryd.prog 65 #[.pointer (some ⟨B, 0, none⟩)] w (PostP B s op w (PR.item s f d i))
def ItemOk (f : Nat) : Prop := ∀ (B : Nat) (s : ByteArray) (i : Nat) (op : Int) (w : World) (d : Nat), s.size ≤ 4000 → Rdr w B s i op → i < s.size → op = 200 - (d : Int) → d ≤ 200 → 3 * (s.size - i) + 1 ≤ f →
 Calls Tryd.prog 50 #[.pointer (some ⟨B, 0, none⟩)] w (PostP B s op w ((PR.item s f d i).bind fun x => PR.times s x.1 x.2))
set_option maxRecDepth 100000 in
set_option maxHeartbeats 4000000 in
theorem once_of (f : Nat) (hG : ∀ (B : Nat) (s : ByteArray) (i : Nat) (op : Int) (w : World) (d : Nat), s.size ≤ 4000 → Rdr w B s i op → i ≤ s.size → op = 200 - (d : Int) → d ≤ 200 → 3 * (s.size - i) + 3 ≤ f →
   Calls Tryd.prog 75 #[.pointer (some ⟨B, 0, none⟩)] w (PostP B s op w (grp s f d i))) : OnceOk (f + 1) := by
 intro B s i op w d hs hr hi hop hd hf
 have hs2 : s.size ≤ 1048576 := by omega
 have HG := Lib.hid hG
 have HOP := Lib.hid hop
 clear hG hop
 have hBl := hr.lt
 have b1 : Below w.heap.size w (w.alloc (.cells #[.int .i64 0, .string ⟨#[]⟩, .bool false, .int .i64 0, .int .i64 0, .slice none 0 0] 26)) := (Below.refl w.heap.size w).alloc (Nat.le_refl _) _
 have O := Lib.hid (OnlyB.of_below (B := B) b1)
 have R := Lib.hid (hr.kept b1)
 have S2 : Hid (Six _ w.heap.size (PR.leaf 0) none 0) := Lib.hid (heap_alloc_new w (.cells #[.int .i64 0, .string ⟨#[]⟩, .bool false, .int .i64 0, .int .i64 0, .slice none 0 0] 26))
 clear b1 hr
 go_enter Tryd.func65, Tryd.ntmps65
 go_wp2_with fail
 refine (next_yes B s i op _ hs2 R.out hi).mono ?_
 rintro e w1 ⟨rfl, r, o⟩
 have O := Lib.hid (O.out.trans o)
 have S2 := Lib.hid (S2.out.only o (by omega))
 have R := Lib.hid r
 clear o r
 have HI := Lib.hid (show ∀ W, Calls Tryd.prog 70 #[.string ⟨often.toArray⟩, .int .u8 ((at_ s i).toNat : Int)] W fun e w' => e = .returned (.int .i64 (Lib.indexByte often (at_ s i))) ∧ w' = W from fun W => by
  have := Tryd.strings_IndexByte ⟨often.toArray⟩ ((at_ s i).toNat : Int) W
  rwa [u8_back] at this)
 have HO := Lib.hid (often_byte (at_ s i))
 rw [often_at hi] at HO
 generalize Lib.indexByte often (at_ s i) = z at *
 have hsg : (⟨often.toArray⟩ : ByteArray) = ⟨#[42, 43, 63, 123]⟩ := rfl
 rw [hsg] at HI
 clear hsg
 by_cases hz : 0 ≤ z
 ·have hz1 := HO.out.1 hz
  go_wp2_with fail
  refine (HI.out _).mono ?_
  rintro e w2 ⟨rfl, rfl⟩
  have HE : Hid (PR.item s (f + 1) d i = none) := Lib.hid (by
    have h46 : atB s i 46 = false := by
     simp only [Bool.or_eq_true] at hz1
     rcases hz1 with ((h | h) | h) | h <;> exact atB_excl h (by decide)
    have h94 : atB s i 94 = false := by
     simp only [Bool.or_eq_true] at hz1
     rcases hz1 with ((h | h) | h) | h <;> exact atB_excl h (by decide)
    have h36 : atB s i 36 = false := by
     simp only [Bool.or_eq_true] at hz1
     rcases hz1 with ((h | h) | h) | h <;> exact atB_excl h (by decide)
    have h91 : atB s i 91 = false := by
     simp only [Bool.or_eq_true] at hz1
     rcases hz1 with ((h | h) | h) | h <;> exact atB_excl h (by decide)
    rw [PR.item, h46, h94, h36, h91, hz1]; rfl)
  obtain ⟨z0, z1, z2, z3, z4, z5, z6⟩ := S2.out.cells
  have z60 := z6 0
  have z61 := z6 1
  have z62 := z6 2
  have z63 := z6 3
  have z64 := z6 4
  have z65 := z6 5
  clear z6
  have h6 : Lk (Six (put6 w2 w.heap.size (.int .i64 0) (.string ⟨#[]⟩) (.bool false) (.int .i64 0) (.int .i64 0) (.slice none 0 0)) w.heap.size (PR.leaf 0) none 0) := Lk.mk (S2.out.put (PR.leaf 0) none 0)
  have PO := Lk.mk (put6_only O.out w.heap.size (.int .i64 0) (.string ⟨#[]⟩) (.bool false) (.int .i64 0) (.int .i64 0) (.slice none 0 0) (by omega))
  have PRd := Lk.mk (R.out.put w.heap.size (by omega) (.int .i64 0) (.string ⟨#[]⟩) (.bool false) (.int .i64 0) (.int .i64 0) (.slice none 0 0))
  go_wp2_with fail
  change bodyPost _ _ _ _ _ (put6 w2 w.heap.size (.int .i64 0) (.string ⟨#[]⟩) (.bool false) (.int .i64 0) (.int .i64 0) (.slice none 0 0))
  generalize put6 w2 w.heap.size (.int .i64 0) (.string ⟨#[]⟩) (.bool false) (.int .i64 0) (.int .i64 0) (.slice none 0 0) = W at h6 PO PRd ⊢
  obtain ⟨y0, y1, y2, y3, y4, y5, _⟩ := h6.out.cells
  replace y0 : _ = some (Value.int .i64 0) := y0
  replace y1 : _ = some (Value.string ⟨#[]⟩) := y1
  replace y2 : _ = some (Value.bool false) := y2
  replace y3 : _ = some (Value.int .i64 0) := y3
  replace y4 : _ = some (Value.int .i64 0) := y4
  replace y5 : _ = some (Value.slice none 0 0) := y5
  refine bodyPost_ret (v := .tuple #[.agg #[.int .i64 0, .string ⟨#[]⟩, .bool false, .int .i64 0, .int .i64 0, .slice none 0 0], .bool false]) (by simp [results, Tryd.results65, go_sem, y0, y1, y2, y3, y4, y5]) rfl ?_
  refine ⟨PO.out, ?_⟩
  rw [HE.out]
  exact ⟨PR.leaf 0, none, 0, _, _, rfl, PRd.out⟩
 have hz0 : (atB s i 42 || atB s i 43 || atB s i 63 || atB s i 123) = false := by
  cases h : (atB s i 42 || atB s i 43 || atB s i 63 || atB s i 123)
  ·rfl
  ·exact absurd (HO.out.2 h) hz
 have HZ0 := Lib.hid hz0
 clear hz0 HO
 cases h46 : atB s i 46
 case true =>
  have A46 := Lib.hid h46
  have b46 := (at_is (s := s) (i := i) 46 46 rfl hi).trans h46
  clear h46
  go_wp2_with fail
  refine (HI.out _).mono ?_
  rintro e w2 ⟨rfl, rfl⟩
  have HE : Hid (PR.item s (f + 1) d i = some ((PR.leaf 1), i + 1)) := Lib.hid (by
    rw [PR.item]
    simp only [A46.out, HZ0.out, if_true, if_false, Bool.false_eq_true])
  obtain ⟨z0, z1, z2, z3, z4, z5, z6⟩ := S2.out.cells
  have z60 := z6 0
  have z61 := z6 1
  have z62 := z6 2
  have z63 := z6 3
  have z64 := z6 4
  have z65 := z6 5
  clear z6
  have h6 : Lk (Six (put6 w2 w.heap.size (.int .i64 1) (.string ⟨#[]⟩) (.bool false) (.int .i64 0) (.int .i64 0) (.slice none 0 0)) w.heap.size (PR.leaf 1) none 0) := Lk.mk (S2.out.put (PR.leaf 1) none 0)
  have PO := Lk.mk (put6_only O.out w.heap.size (.int .i64 1) (.string ⟨#[]⟩) (.bool false) (.int .i64 0) (.int .i64 0) (.slice none 0 0) (by omega))
  have PRd := Lk.mk (R.out.put w.heap.size (by omega) (.int .i64 1) (.string ⟨#[]⟩) (.bool false) (.int .i64 0) (.int .i64 0) (.slice none 0 0))
  go_wp2_with fail
  change bodyPost _ _ _ _ _ (put6 w2 w.heap.size (.int .i64 1) (.string ⟨#[]⟩) (.bool false) (.int .i64 0) (.int .i64 0) (.slice none 0 0))
  generalize put6 w2 w.heap.size (.int .i64 1) (.string ⟨#[]⟩) (.bool false) (.int .i64 0) (.int .i64 0) (.slice none 0 0) = W at h6 PO PRd ⊢
  obtain ⟨y0, y1, y2, y3, y4, y5, _⟩ := h6.out.cells
  replace y0 : _ = some (Value.int .i64 1) := y0
  replace y1 : _ = some (Value.string ⟨#[]⟩) := y1
  replace y2 : _ = some (Value.bool false) := y2
  replace y3 : _ = some (Value.int .i64 0) := y3
  replace y4 : _ = some (Value.int .i64 0) := y4
  replace y5 : _ = some (Value.slice none 0 0) := y5
  refine bodyPost_ret (v := .tuple #[.agg #[.int .i64 1, .string ⟨#[]⟩, .bool false, .int .i64 0, .int .i64 0, .slice none 0 0], .bool true]) (by simp [results, Tryd.results65, go_sem, y0, y1, y2, y3, y4, y5]) rfl ?_
  refine ⟨PO.out, ?_⟩
  rw [HE.out]
  exact ⟨none, 0, [], rfl, KF.nil _, fun y hy => absurd hy (by simp), ⟨(by show 0 ≤ 256; omega), (by show 0 ≤ 2; omega)⟩, PRd.out⟩
 case false =>
  have A46 := Lib.hid h46
  have b46 := (at_is (s := s) (i := i) 46 46 rfl hi).trans h46
  clear h46
  cases h94 : atB s i 94
  case true =>
   have A94 := Lib.hid h94
   have b94 := (at_is (s := s) (i := i) 94 94 rfl hi).trans h94
   clear h94
   go_wp2_with fail
   refine (HI.out _).mono ?_
   rintro e w2 ⟨rfl, rfl⟩
   have HE : Hid (PR.item s (f + 1) d i = some ((PR.leaf 6), i + 1)) := Lib.hid (by
     rw [PR.item]
     simp only [A46.out, A94.out, HZ0.out, if_true, if_false, Bool.false_eq_true])
   obtain ⟨z0, z1, z2, z3, z4, z5, z6⟩ := S2.out.cells
   have z60 := z6 0
   have z61 := z6 1
   have z62 := z6 2
   have z63 := z6 3
   have z64 := z6 4
   have z65 := z6 5
   clear z6
   have h6 : Lk (Six (put6 w2 w.heap.size (.int .i64 6) (.string ⟨#[]⟩) (.bool false) (.int .i64 0) (.int .i64 0) (.slice none 0 0)) w.heap.size (PR.leaf 6) none 0) := Lk.mk (S2.out.put (PR.leaf 6) none 0)
   have PO := Lk.mk (put6_only O.out w.heap.size (.int .i64 6) (.string ⟨#[]⟩) (.bool false) (.int .i64 0) (.int .i64 0) (.slice none 0 0) (by omega))
   have PRd := Lk.mk (R.out.put w.heap.size (by omega) (.int .i64 6) (.string ⟨#[]⟩) (.bool false) (.int .i64 0) (.int .i64 0) (.slice none 0 0))
   go_wp2_with fail
   change bodyPost _ _ _ _ _ (put6 w2 w.heap.size (.int .i64 6) (.string ⟨#[]⟩) (.bool false) (.int .i64 0) (.int .i64 0) (.slice none 0 0))
   generalize put6 w2 w.heap.size (.int .i64 6) (.string ⟨#[]⟩) (.bool false) (.int .i64 0) (.int .i64 0) (.slice none 0 0) = W at h6 PO PRd ⊢
   obtain ⟨y0, y1, y2, y3, y4, y5, _⟩ := h6.out.cells
   replace y0 : _ = some (Value.int .i64 6) := y0
   replace y1 : _ = some (Value.string ⟨#[]⟩) := y1
   replace y2 : _ = some (Value.bool false) := y2
   replace y3 : _ = some (Value.int .i64 0) := y3
   replace y4 : _ = some (Value.int .i64 0) := y4
   replace y5 : _ = some (Value.slice none 0 0) := y5
   refine bodyPost_ret (v := .tuple #[.agg #[.int .i64 6, .string ⟨#[]⟩, .bool false, .int .i64 0, .int .i64 0, .slice none 0 0], .bool true]) (by simp [results, Tryd.results65, go_sem, y0, y1, y2, y3, y4, y5]) rfl ?_
   refine ⟨PO.out, ?_⟩
   rw [HE.out]
   exact ⟨none, 0, [], rfl, KF.nil _, fun y hy => absurd hy (by simp), ⟨(by show 0 ≤ 256; omega), (by show 0 ≤ 2; omega)⟩, PRd.out⟩
  case false =>
   have A94 := Lib.hid h94
   have b94 := (at_is (s := s) (i := i) 94 94 rfl hi).trans h94
   clear h94
   cases h36 : atB s i 36
   case true =>
    have A36 := Lib.hid h36
    have b36 := (at_is (s := s) (i := i) 36 36 rfl hi).trans h36
    clear h36
    go_wp2_with fail
    refine (HI.out _).mono ?_
    rintro e w2 ⟨rfl, rfl⟩
    have HE : Hid (PR.item s (f + 1) d i = some ((PR.leaf 7), i + 1)) := Lib.hid (by
      rw [PR.item]
      simp only [A46.out, A94.out, A36.out, HZ0.out, if_true, if_false, Bool.false_eq_true])
    obtain ⟨z0, z1, z2, z3, z4, z5, z6⟩ := S2.out.cells
    have z60 := z6 0
    have z61 := z6 1
    have z62 := z6 2
    have z63 := z6 3
    have z64 := z6 4
    have z65 := z6 5
    clear z6
    have h6 : Lk (Six (put6 w2 w.heap.size (.int .i64 7) (.string ⟨#[]⟩) (.bool false) (.int .i64 0) (.int .i64 0) (.slice none 0 0)) w.heap.size (PR.leaf 7) none 0) := Lk.mk (S2.out.put (PR.leaf 7) none 0)
    have PO := Lk.mk (put6_only O.out w.heap.size (.int .i64 7) (.string ⟨#[]⟩) (.bool false) (.int .i64 0) (.int .i64 0) (.slice none 0 0) (by omega))
    have PRd := Lk.mk (R.out.put w.heap.size (by omega) (.int .i64 7) (.string ⟨#[]⟩) (.bool false) (.int .i64 0) (.int .i64 0) (.slice none 0 0))
    go_wp2_with fail
    change bodyPost _ _ _ _ _ (put6 w2 w.heap.size (.int .i64 7) (.string ⟨#[]⟩) (.bool false) (.int .i64 0) (.int .i64 0) (.slice none 0 0))
    generalize put6 w2 w.heap.size (.int .i64 7) (.string ⟨#[]⟩) (.bool false) (.int .i64 0) (.int .i64 0) (.slice none 0 0) = W at h6 PO PRd ⊢
    obtain ⟨y0, y1, y2, y3, y4, y5, _⟩ := h6.out.cells
    replace y0 : _ = some (Value.int .i64 7) := y0
    replace y1 : _ = some (Value.string ⟨#[]⟩) := y1
    replace y2 : _ = some (Value.bool false) := y2
    replace y3 : _ = some (Value.int .i64 0) := y3
    replace y4 : _ = some (Value.int .i64 0) := y4
    replace y5 : _ = some (Value.slice none 0 0) := y5
    refine bodyPost_ret (v := .tuple #[.agg #[.int .i64 7, .string ⟨#[]⟩, .bool false, .int .i64 0, .int .i64 0, .slice none 0 0], .bool true]) (by simp [results, Tryd.results65, go_sem, y0, y1, y2, y3, y4, y5]) rfl ?_
    refine ⟨PO.out, ?_⟩
    rw [HE.out]
    exact ⟨none, 0, [], rfl, KF.nil _, fun y hy => absurd hy (by simp), ⟨(by show 0 ≤ 256; omega), (by show 0 ≤ 2; omega)⟩, PRd.out⟩
   case false =>
    have A36 := Lib.hid h36
    have b36 := (at_is (s := s) (i := i) 36 36 rfl hi).trans h36
    clear h36
    cases h40 : atB s i 40
    case true =>
     have A40 := Lib.hid h40
     have b40 := (at_is (s := s) (i := i) 40 40 rfl hi).trans h40
     clear h40
     have A91 : Hid (atB s i 91 = false) := Lib.hid (atB_excl A40.out (by decide))
     have HE : Hid (PR.item s (f + 1) d i = grp s f d (i + 1)) := Lib.hid (by
       rw [PR.item]
       simp only [A46.out, A94.out, A36.out, A91.out, HZ0.out, A40.out, if_true, if_false, Bool.false_eq_true]
       rfl)
     go_wp2_with fail
     refine (HI.out _).mono ?_
     rintro e w2 ⟨rfl, rfl⟩
     go_wp2_with fail
     refine (HG.out B s (i + 1) op _ d hs R.out hi HOP.out hd (by omega)).mono ?_
     rintro e w3 ⟨o, hp⟩
     cases hres : grp s f d (i + 1) with
     | none =>
      rw [hres] at hp
      obtain ⟨T, ta, tc, j, oo, rfl, r⟩ := hp
      have HRES := Lib.hid hres
      clear hres
      have O := Lib.hid (O.out.trans o)
      have S2 := Lib.hid (S2.out.only o (by omega))
      have R := Lib.hid r
      clear o r
      unfold reV
      obtain ⟨z0, z1, z2, z3, z4, z5, z6⟩ := S2.out.cells
      have z60 := z6 0
      have z61 := z6 1
      have z62 := z6 2
      have z63 := z6 3
      have z64 := z6 4
      have z65 := z6 5
      clear z6
      have h6 : Lk (Six (put6 w3 w.heap.size (.int .i64 T.kind) (.string T.set) (.bool T.neg) (.int .i64 T.low) (.int .i64 T.high) (.slice ta T.kids.length tc)) w.heap.size T ta tc) := Lk.mk (S2.out.put T ta tc)
      have PO := Lk.mk (put6_only O.out w.heap.size (.int .i64 T.kind) (.string T.set) (.bool T.neg) (.int .i64 T.low) (.int .i64 T.high) (.slice ta T.kids.length tc) (by omega))
      have PRd := Lk.mk (R.out.put w.heap.size (by omega) (.int .i64 T.kind) (.string T.set) (.bool T.neg) (.int .i64 T.low) (.int .i64 T.high) (.slice ta T.kids.length tc))
      go_wp2_with fail
      change bodyPost _ _ _ _ _ (put6 w3 w.heap.size (.int .i64 T.kind) (.string T.set) (.bool T.neg) (.int .i64 T.low) (.int .i64 T.high) (.slice ta T.kids.length tc))
      generalize put6 w3 w.heap.size (.int .i64 T.kind) (.string T.set) (.bool T.neg) (.int .i64 T.low) (.int .i64 T.high) (.slice ta T.kids.length tc) = W at h6 PO PRd ⊢
      obtain ⟨y0, y1, y2, y3, y4, y5, _⟩ := h6.out.cells
      replace y0 : _ = some (Value.int .i64 T.kind) := y0
      replace y1 : _ = some (Value.string T.set) := y1
      replace y2 : _ = some (Value.bool T.neg) := y2
      replace y3 : _ = some (Value.int .i64 T.low) := y3
      replace y4 : _ = some (Value.int .i64 T.high) := y4
      replace y5 : _ = some (Value.slice ta T.kids.length tc) := y5
      refine bodyPost_ret (v := .tuple #[.agg #[.int .i64 T.kind, .string T.set, .bool T.neg, .int .i64 T.low, .int .i64 T.high, .slice ta T.kids.length tc], .bool false]) (by simp [results, Tryd.results65, go_sem, y0, y1, y2, y3, y4, y5]) rfl ?_
      refine ⟨PO.out, ?_⟩
      rw [HE.out, HRES.out]
      exact ⟨T, ta, tc, _, _, rfl, PRd.out⟩
     | some x =>
      rw [hres] at hp
      obtain ⟨T, j⟩ := x
      obtain ⟨ta, tc, tF, rfl, k, hkl, hni, r⟩ := hp
      simp only at k hni r
      have HRES := Lib.hid hres
      clear hres
      have hwO := O.out.size
      have hS := S2.out.lt
      have O := Lib.hid (O.out.trans o)
      have S2 := Lib.hid (S2.out.only o (by omega))
      have R := Lib.hid r
      clear o r
      unfold reV
      have K := Lib.hid k
      have HKL := Lib.hid hkl
      have HNI := Lib.hid hni
      clear k hkl hni
      have HGF : Hid (w.heap.size ∉ tF) := Lib.hid (fun h => by have := HKL.out _ h; omega)
      have HLF : Hid (∀ y ∈ tF, w.heap.size ≤ y) := Lib.hid (fun y hy => by have := HKL.out y hy; omega)
      obtain ⟨z0, z1, z2, z3, z4, z5, z6⟩ := S2.out.cells
      have z60 := z6 0
      have z61 := z6 1
      have z62 := z6 2
      have z63 := z6 3
      have z64 := z6 4
      have z65 := z6 5
      clear z6
      have h6 : Lk (Six (put6 w3 w.heap.size (.int .i64 T.kind) (.string T.set) (.bool T.neg) (.int .i64 T.low) (.int .i64 T.high) (.slice ta T.kids.length tc)) w.heap.size T ta tc) := Lk.mk (S2.out.put T ta tc)
      have PO := Lk.mk (put6_only O.out w.heap.size (.int .i64 T.kind) (.string T.set) (.bool T.neg) (.int .i64 T.low) (.int .i64 T.high) (.slice ta T.kids.length tc) (by omega))
      have PRd := Lk.mk (R.out.put w.heap.size (by omega) (.int .i64 T.kind) (.string T.set) (.bool T.neg) (.int .i64 T.low) (.int .i64 T.high) (.slice ta T.kids.length tc))
      have PK := Lk.mk (K.out.put w.heap.size HGF.out (.int .i64 T.kind) (.string T.set) (.bool T.neg) (.int .i64 T.low) (.int .i64 T.high) (.slice ta T.kids.length tc))
      go_wp2_with fail
      change bodyPost _ _ _ _ _ (put6 w3 w.heap.size (.int .i64 T.kind) (.string T.set) (.bool T.neg) (.int .i64 T.low) (.int .i64 T.high) (.slice ta T.kids.length tc))
      generalize put6 w3 w.heap.size (.int .i64 T.kind) (.string T.set) (.bool T.neg) (.int .i64 T.low) (.int .i64 T.high) (.slice ta T.kids.length tc) = W at h6 PO PRd PK ⊢
      obtain ⟨y0, y1, y2, y3, y4, y5, _⟩ := h6.out.cells
      replace y0 : _ = some (Value.int .i64 T.kind) := y0
      replace y1 : _ = some (Value.string T.set) := y1
      replace y2 : _ = some (Value.bool T.neg) := y2
      replace y3 : _ = some (Value.int .i64 T.low) := y3
      replace y4 : _ = some (Value.int .i64 T.high) := y4
      replace y5 : _ = some (Value.slice ta T.kids.length tc) := y5
      refine bodyPost_ret (v := .tuple #[.agg #[.int .i64 T.kind, .string T.set, .bool T.neg, .int .i64 T.low, .int .i64 T.high, .slice ta T.kids.length tc], .bool true]) (by simp [results, Tryd.results65, go_sem, y0, y1, y2, y3, y4, y5]) rfl ?_
      refine ⟨PO.out, ?_⟩
      rw [HE.out, HRES.out]
      exact ⟨ta, tc, tF, rfl, PK.out, HLF.out, HNI.out, PRd.out⟩
    case false =>
     have A40 := Lib.hid h40
     have b40 := (at_is (s := s) (i := i) 40 40 rfl hi).trans h40
     clear h40
     cases h91 : atB s i 91
     case true =>
      have A91 := Lib.hid h91
      have b91 := (at_is (s := s) (i := i) 91 91 rfl hi).trans h91
      clear h91
      have HE : Hid (PR.item s (f + 1) d i = PR.setT s (i + 1)) := Lib.hid (by
        rw [PR.item]
        simp only [A46.out, A94.out, A36.out, A91.out, if_true, if_false, Bool.false_eq_true])
      go_wp2_with fail
      refine (HI.out _).mono ?_
      rintro e w2 ⟨rfl, rfl⟩
      go_wp2_with fail
      refine (set_any B s (i + 1) op _ hs2 R.out hi).mono ?_
      rintro e w3 ⟨o, hp⟩
      cases hres : PR.setT s (i + 1) with
      | none =>
       rw [hres] at hp
       obtain ⟨T, ta, tc, j, oo, rfl, r⟩ := hp
       have HRES := Lib.hid hres
       clear hres
       have O := Lib.hid (O.out.trans o)
       have S2 := Lib.hid (S2.out.only o (by omega))
       have R := Lib.hid r
       clear o r
       unfold reV
       obtain ⟨z0, z1, z2, z3, z4, z5, z6⟩ := S2.out.cells
       have z60 := z6 0
       have z61 := z6 1
       have z62 := z6 2
       have z63 := z6 3
       have z64 := z6 4
       have z65 := z6 5
       clear z6
       have h6 : Lk (Six (put6 w3 w.heap.size (.int .i64 T.kind) (.string T.set) (.bool T.neg) (.int .i64 T.low) (.int .i64 T.high) (.slice ta T.kids.length tc)) w.heap.size T ta tc) := Lk.mk (S2.out.put T ta tc)
       have PO := Lk.mk (put6_only O.out w.heap.size (.int .i64 T.kind) (.string T.set) (.bool T.neg) (.int .i64 T.low) (.int .i64 T.high) (.slice ta T.kids.length tc) (by omega))
       have PRd := Lk.mk (R.out.put w.heap.size (by omega) (.int .i64 T.kind) (.string T.set) (.bool T.neg) (.int .i64 T.low) (.int .i64 T.high) (.slice ta T.kids.length tc))
       go_wp2_with fail
       change bodyPost _ _ _ _ _ (put6 w3 w.heap.size (.int .i64 T.kind) (.string T.set) (.bool T.neg) (.int .i64 T.low) (.int .i64 T.high) (.slice ta T.kids.length tc))
       generalize put6 w3 w.heap.size (.int .i64 T.kind) (.string T.set) (.bool T.neg) (.int .i64 T.low) (.int .i64 T.high) (.slice ta T.kids.length tc) = W at h6 PO PRd ⊢
       obtain ⟨y0, y1, y2, y3, y4, y5, _⟩ := h6.out.cells
       replace y0 : _ = some (Value.int .i64 T.kind) := y0
       replace y1 : _ = some (Value.string T.set) := y1
       replace y2 : _ = some (Value.bool T.neg) := y2
       replace y3 : _ = some (Value.int .i64 T.low) := y3
       replace y4 : _ = some (Value.int .i64 T.high) := y4
       replace y5 : _ = some (Value.slice ta T.kids.length tc) := y5
       refine bodyPost_ret (v := .tuple #[.agg #[.int .i64 T.kind, .string T.set, .bool T.neg, .int .i64 T.low, .int .i64 T.high, .slice ta T.kids.length tc], .bool false]) (by simp [results, Tryd.results65, go_sem, y0, y1, y2, y3, y4, y5]) rfl ?_
       refine ⟨PO.out, ?_⟩
       rw [HE.out, HRES.out]
       exact ⟨T, ta, tc, _, _, rfl, PRd.out⟩
      | some x =>
       rw [hres] at hp
       obtain ⟨T, j⟩ := x
       obtain ⟨ta, tc, tF, rfl, k, hkl, hni, r⟩ := hp
       simp only at k hni r
       have HRES := Lib.hid hres
       clear hres
       have hwO := O.out.size
       have hS := S2.out.lt
       have O := Lib.hid (O.out.trans o)
       have S2 := Lib.hid (S2.out.only o (by omega))
       have R := Lib.hid r
       clear o r
       unfold reV
       have K := Lib.hid k
       have HKL := Lib.hid hkl
       have HNI := Lib.hid hni
       clear k hkl hni
       have HGF : Hid (w.heap.size ∉ tF) := Lib.hid (fun h => by have := HKL.out _ h; omega)
       have HLF : Hid (∀ y ∈ tF, w.heap.size ≤ y) := Lib.hid (fun y hy => by have := HKL.out y hy; omega)
       obtain ⟨z0, z1, z2, z3, z4, z5, z6⟩ := S2.out.cells
       have z60 := z6 0
       have z61 := z6 1
       have z62 := z6 2
       have z63 := z6 3
       have z64 := z6 4
       have z65 := z6 5
       clear z6
       have h6 : Lk (Six (put6 w3 w.heap.size (.int .i64 T.kind) (.string T.set) (.bool T.neg) (.int .i64 T.low) (.int .i64 T.high) (.slice ta T.kids.length tc)) w.heap.size T ta tc) := Lk.mk (S2.out.put T ta tc)
       have PO := Lk.mk (put6_only O.out w.heap.size (.int .i64 T.kind) (.string T.set) (.bool T.neg) (.int .i64 T.low) (.int .i64 T.high) (.slice ta T.kids.length tc) (by omega))
       have PRd := Lk.mk (R.out.put w.heap.size (by omega) (.int .i64 T.kind) (.string T.set) (.bool T.neg) (.int .i64 T.low) (.int .i64 T.high) (.slice ta T.kids.length tc))
       have PK := Lk.mk (K.out.put w.heap.size HGF.out (.int .i64 T.kind) (.string T.set) (.bool T.neg) (.int .i64 T.low) (.int .i64 T.high) (.slice ta T.kids.length tc))
       go_wp2_with fail
       change bodyPost _ _ _ _ _ (put6 w3 w.heap.size (.int .i64 T.kind) (.string T.set) (.bool T.neg) (.int .i64 T.low) (.int .i64 T.high) (.slice ta T.kids.length tc))
       generalize put6 w3 w.heap.size (.int .i64 T.kind) (.string T.set) (.bool T.neg) (.int .i64 T.low) (.int .i64 T.high) (.slice ta T.kids.length tc) = W at h6 PO PRd PK ⊢
       obtain ⟨y0, y1, y2, y3, y4, y5, _⟩ := h6.out.cells
       replace y0 : _ = some (Value.int .i64 T.kind) := y0
       replace y1 : _ = some (Value.string T.set) := y1
       replace y2 : _ = some (Value.bool T.neg) := y2
       replace y3 : _ = some (Value.int .i64 T.low) := y3
       replace y4 : _ = some (Value.int .i64 T.high) := y4
       replace y5 : _ = some (Value.slice ta T.kids.length tc) := y5
       refine bodyPost_ret (v := .tuple #[.agg #[.int .i64 T.kind, .string T.set, .bool T.neg, .int .i64 T.low, .int .i64 T.high, .slice ta T.kids.length tc], .bool true]) (by simp [results, Tryd.results65, go_sem, y0, y1, y2, y3, y4, y5]) rfl ?_
       refine ⟨PO.out, ?_⟩
       rw [HE.out, HRES.out]
       exact ⟨ta, tc, tF, rfl, PK.out, HLF.out, HNI.out, PRd.out⟩
     case false =>
      have A91 := Lib.hid h91
      have b91 := (at_is (s := s) (i := i) 91 91 rfl hi).trans h91
      clear h91
      cases h92 : atB s i 92
      case true =>
       have A92 := Lib.hid h92
       have b92 := (at_is (s := s) (i := i) 92 92 rfl hi).trans h92
       clear h92
       go_wp2_with fail
       refine (HI.out _).mono ?_
       rintro e w2 ⟨rfl, rfl⟩
       have hb0 := back_lit (P := Tryd.prog) Tryd.underlying22 Tryd.underlying5 Tryd.underlying9 [0] [.int .u8 0] rfl 1 1 rfl
       by_cases hj : i + 1 < s.size
       ·have hb1 := back_lit (P := Tryd.prog) Tryd.underlying22 Tryd.underlying5 Tryd.underlying9 [at_ s (i + 1)] [.int .u8 ((at_ s (i + 1)).toNat : Int)] rfl 1 1 rfl
        go_wp2_with fail
        refine (next_yes B s (i + 1) op _ hs2 R.out hj).mono ?_
        rintro e w3 ⟨rfl, r, o⟩
        have O := Lib.hid (O.out.trans o)
        have S2 := Lib.hid (S2.out.only o (by omega))
        have R := Lib.hid r
        clear o r
        have ba := (Below.refl w3.heap.size w3).alloc (Nat.le_refl _) (.cells #[.int .u8 ((at_ s (i + 1)).toNat : Int)] 5)
        have O := Lib.hid (O.out.trans (OnlyB.of_below ba))
        have S2 := Lib.hid (S2.out.kept ba)
        have R := Lib.hid (R.out.kept ba)
        clear ba
        have HE : Hid (PR.item s (f + 1) d i = some ((PR.oneT (at_ s (i + 1))), (i + 1 + 1))) := Lib.hid (by
          rw [PR.item]
          simp only [A46.out, A94.out, A36.out, A91.out, A40.out, HZ0.out, A92.out, if_true, if_false, Bool.false_eq_true]
          rw [PR.escT, if_pos hj])
        obtain ⟨z0, z1, z2, z3, z4, z5, z6⟩ := S2.out.cells
        have z60 := z6 0
        have z61 := z6 1
        have z62 := z6 2
        have z63 := z6 3
        have z64 := z6 4
        have z65 := z6 5
        clear z6
        have h6 : Lk (Six (put6 (w3.alloc (.cells #[.int .u8 ((at_ s (i + 1)).toNat : Int)] 5)) w.heap.size (.int .i64 2) (.string ⟨#[(at_ s (i + 1))]⟩) (.bool false) (.int .i64 0) (.int .i64 0) (.slice none 0 0)) w.heap.size (PR.oneT (at_ s (i + 1))) none 0) := Lk.mk (S2.out.put (PR.oneT (at_ s (i + 1))) none 0)
        have PO := Lk.mk (put6_only O.out w.heap.size (.int .i64 2) (.string ⟨#[(at_ s (i + 1))]⟩) (.bool false) (.int .i64 0) (.int .i64 0) (.slice none 0 0) (by omega))
        have PRd := Lk.mk (R.out.put w.heap.size (by omega) (.int .i64 2) (.string ⟨#[(at_ s (i + 1))]⟩) (.bool false) (.int .i64 0) (.int .i64 0) (.slice none 0 0))
        go_wp2_with fail
        change bodyPost _ _ _ _ _ (put6 (w3.alloc (.cells #[.int .u8 ((at_ s (i + 1)).toNat : Int)] 5)) w.heap.size (.int .i64 2) (.string ⟨#[(at_ s (i + 1))]⟩) (.bool false) (.int .i64 0) (.int .i64 0) (.slice none 0 0))
        generalize put6 (w3.alloc (.cells #[.int .u8 ((at_ s (i + 1)).toNat : Int)] 5)) w.heap.size (.int .i64 2) (.string ⟨#[(at_ s (i + 1))]⟩) (.bool false) (.int .i64 0) (.int .i64 0) (.slice none 0 0) = W at h6 PO PRd ⊢
        obtain ⟨y0, y1, y2, y3, y4, y5, _⟩ := h6.out.cells
        replace y0 : _ = some (Value.int .i64 2) := y0
        replace y1 : _ = some (Value.string ⟨#[(at_ s (i + 1))]⟩) := y1
        replace y2 : _ = some (Value.bool false) := y2
        replace y3 : _ = some (Value.int .i64 0) := y3
        replace y4 : _ = some (Value.int .i64 0) := y4
        replace y5 : _ = some (Value.slice none 0 0) := y5
        refine bodyPost_ret (v := .tuple #[.agg #[.int .i64 2, .string ⟨#[(at_ s (i + 1))]⟩, .bool false, .int .i64 0, .int .i64 0, .slice none 0 0], .bool true]) (by simp [results, Tryd.results65, go_sem, y0, y1, y2, y3, y4, y5]) rfl ?_
        refine ⟨PO.out, ?_⟩
        rw [HE.out]
        exact ⟨none, 0, [], rfl, KF.nil _, fun y hy => absurd hy (by simp), ⟨(by show 1 ≤ 256; omega), (by show 0 ≤ 2; omega)⟩, PRd.out⟩
       ·have HJ : Hid (PR.item s (f + 1) d i = none) := Lib.hid (by
         rw [PR.item]
         simp only [A46.out, A94.out, A36.out, A91.out, A40.out, HZ0.out, A92.out, if_true, if_false, Bool.false_eq_true]
         rw [PR.escT, if_neg hj])
        go_wp2_with fail
        refine (next_no B s (i + 1) op _ hs2 R.out (by omega)).mono ?_
        rintro e w3 ⟨rfl, hn⟩
        have o := OnlyB.drewAll (B := B) hn
        have r := R.out.drewAll hn
        clear hn
        have O := Lib.hid (O.out.trans o)
        have S2 := Lib.hid (S2.out.only o (by omega))
        have R := Lib.hid r
        clear o r
        have ba := (Below.refl w3.heap.size w3).alloc (Nat.le_refl _) (.cells #[.int .u8 0] 5)
        have O := Lib.hid (O.out.trans (OnlyB.of_below ba))
        have S2 := Lib.hid (S2.out.kept ba)
        have R := Lib.hid (R.out.kept ba)
        clear ba
        obtain ⟨z0, z1, z2, z3, z4, z5, z6⟩ := S2.out.cells
        have z60 := z6 0
        have z61 := z6 1
        have z62 := z6 2
        have z63 := z6 3
        have z64 := z6 4
        have z65 := z6 5
        clear z6
        have h6 : Lk (Six (put6 (w3.alloc (.cells #[.int .u8 0] 5)) w.heap.size (.int .i64 2) (.string ⟨#[0]⟩) (.bool false) (.int .i64 0) (.int .i64 0) (.slice none 0 0)) w.heap.size (PR.oneT 0) none 0) := Lk.mk (S2.out.put (PR.oneT 0) none 0)
        have PO := Lk.mk (put6_only O.out w.heap.size (.int .i64 2) (.string ⟨#[0]⟩) (.bool false) (.int .i64 0) (.int .i64 0) (.slice none 0 0) (by omega))
        have PRd := Lk.mk (R.out.put w.heap.size (by omega) (.int .i64 2) (.string ⟨#[0]⟩) (.bool false) (.int .i64 0) (.int .i64 0) (.slice none 0 0))
        go_wp2_with fail
        change bodyPost _ _ _ _ _ (put6 (w3.alloc (.cells #[.int .u8 0] 5)) w.heap.size (.int .i64 2) (.string ⟨#[0]⟩) (.bool false) (.int .i64 0) (.int .i64 0) (.slice none 0 0))
        generalize put6 (w3.alloc (.cells #[.int .u8 0] 5)) w.heap.size (.int .i64 2) (.string ⟨#[0]⟩) (.bool false) (.int .i64 0) (.int .i64 0) (.slice none 0 0) = W at h6 PO PRd ⊢
        obtain ⟨y0, y1, y2, y3, y4, y5, _⟩ := h6.out.cells
        replace y0 : _ = some (Value.int .i64 2) := y0
        replace y1 : _ = some (Value.string ⟨#[0]⟩) := y1
        replace y2 : _ = some (Value.bool false) := y2
        replace y3 : _ = some (Value.int .i64 0) := y3
        replace y4 : _ = some (Value.int .i64 0) := y4
        replace y5 : _ = some (Value.slice none 0 0) := y5
        refine bodyPost_ret (v := .tuple #[.agg #[.int .i64 2, .string ⟨#[0]⟩, .bool false, .int .i64 0, .int .i64 0, .slice none 0 0], .bool false]) (by simp [results, Tryd.results65, go_sem, y0, y1, y2, y3, y4, y5]) rfl ?_
        refine ⟨PO.out, ?_⟩
        rw [HJ.out]
        exact ⟨PR.oneT 0, none, 0, _, _, rfl, PRd.out⟩
      case false =>
       have A92 := Lib.hid h92
       have b92 := (at_is (s := s) (i := i) 92 92 rfl hi).trans h92
       clear h92
       have hb1 := back_lit (P := Tryd.prog) Tryd.underlying22 Tryd.underlying5 Tryd.underlying9 [at_ s i] [.int .u8 ((at_ s i).toNat : Int)] rfl 1 1 rfl
       go_wp2_with fail
       refine (HI.out _).mono ?_
       rintro e w2 ⟨rfl, rfl⟩
       have ba := (Below.refl w2.heap.size w2).alloc (Nat.le_refl _) (.cells #[.int .u8 ((at_ s i).toNat : Int)] 5)
       have O := Lib.hid (O.out.trans (OnlyB.of_below ba))
       have S2 := Lib.hid (S2.out.kept ba)
       have R := Lib.hid (R.out.kept ba)
       clear ba
       have HE : Hid (PR.item s (f + 1) d i = some ((PR.oneT (at_ s i)), (i + 1))) := Lib.hid (by
         rw [PR.item]
         simp only [A46.out, A94.out, A36.out, A91.out, A40.out, HZ0.out, A92.out, if_false, Bool.false_eq_true])
       obtain ⟨z0, z1, z2, z3, z4, z5, z6⟩ := S2.out.cells
       have z60 := z6 0
       have z61 := z6 1
       have z62 := z6 2
       have z63 := z6 3
       have z64 := z6 4
       have z65 := z6 5
       clear z6
       have h6 : Lk (Six (put6 (w2.alloc (.cells #[.int .u8 ((at_ s i).toNat : Int)] 5)) w.heap.size (.int .i64 2) (.string ⟨#[(at_ s i)]⟩) (.bool false) (.int .i64 0) (.int .i64 0) (.slice none 0 0)) w.heap.size (PR.oneT (at_ s i)) none 0) := Lk.mk (S2.out.put (PR.oneT (at_ s i)) none 0)
       have PO := Lk.mk (put6_only O.out w.heap.size (.int .i64 2) (.string ⟨#[(at_ s i)]⟩) (.bool false) (.int .i64 0) (.int .i64 0) (.slice none 0 0) (by omega))
       have PRd := Lk.mk (R.out.put w.heap.size (by omega) (.int .i64 2) (.string ⟨#[(at_ s i)]⟩) (.bool false) (.int .i64 0) (.int .i64 0) (.slice none 0 0))
       go_wp2_with fail
       change bodyPost _ _ _ _ _ (put6 (w2.alloc (.cells #[.int .u8 ((at_ s i).toNat : Int)] 5)) w.heap.size (.int .i64 2) (.string ⟨#[(at_ s i)]⟩) (.bool false) (.int .i64 0) (.int .i64 0) (.slice none 0 0))
       generalize put6 (w2.alloc (.cells #[.int .u8 ((at_ s i).toNat : Int)] 5)) w.heap.size (.int .i64 2) (.string ⟨#[(at_ s i)]⟩) (.bool false) (.int .i64 0) (.int .i64 0) (.slice none 0 0) = W at h6 PO PRd ⊢
       obtain ⟨y0, y1, y2, y3, y4, y5, _⟩ := h6.out.cells
       replace y0 : _ = some (Value.int .i64 2) := y0
       replace y1 : _ = some (Value.string ⟨#[(at_ s i)]⟩) := y1
       replace y2 : _ = some (Value.bool false) := y2
       replace y3 : _ = some (Value.int .i64 0) := y3
       replace y4 : _ = some (Value.int .i64 0) := y4
       replace y5 : _ = some (Value.slice none 0 0) := y5
       refine bodyPost_ret (v := .tuple #[.agg #[.int .i64 2, .string ⟨#[(at_ s i)]⟩, .bool false, .int .i64 0, .int .i64 0, .slice none 0 0], .bool true]) (by simp [results, Tryd.results65, go_sem, y0, y1, y2, y3, y4, y5]) rfl ?_
       refine ⟨PO.out, ?_⟩
       rw [HE.out]
       exact ⟨none, 0, [], rfl, KF.nil _, fun y hy => absurd hy (by simp), ⟨(by show 1 ≤ 256; omega), (by show 0 ≤ 2; omega)⟩, PRd.out⟩
end Go.Proofs.YtcpaneaiobnhdaaDoor.kit
/-
 Contracts of impl's readers group and item of expressions for texts over this seat's translation. Conditions: the reader's cells are known; there is fuel enough.
-/
namespace Go.Proofs.YtcpaneaiobnhdaaDoor.kit
open Go.ChangeShapes Go.WideShapes Go.ChangeAt Go.RowKit
set_option linter.unusedVariables false

theorem OnlyB.drew1 {B : Nat} {w w' : World} (h : OnlyB B w w') : OnlyB B w w'.drew := ⟨h.os, h.tape, h.output, h.size, h.block⟩
theorem Rdr.drew1 {w : World} {B : Nat} {s : ByteArray} {i : Nat} {op : Int} (c : Rdr w B s i op) : Rdr w.drew B s i op := ⟨c.lt, c.c0, c.c1, c.c2, c.f1, c.f2⟩
theorem KF.drew1 {w : World} {ts : List RT} {a : Option Addr} {F : List Nat} (h : KF w ts a F) : KF w.drew ts a F := h.of fun _ _ => rfl
theorem Six.drew1 {w : World} {g : Nat} {t : RT} {a : Option Addr} {c : Nat} (h : Six w g t a c) : Six w.drew g t a c := h
theorem Six.after {w W w5 : World} {g : Nat} {t : RT} {a : Option Addr} {c : Nat} {B : Nat} (h : Six w g t a c) (o : OnlyB B W w5) (e : W.heap = w.heap) (hne : g ≠ B) : Six w5 g t a c := by
 have hl := h.lt
 rw [← e] at hl
 exact (o.block g hl (fun k => hne (by injection k))).trans ((congrArg (fun x => x[g]?) e).trans h)
theorem six_new {w : World} {g : Nat} {t : RT} {a : Option Addr} {c : Nat} {o : Obj} (hg : g = w.heap.size) (ho : o = .cells #[.int .i64 t.kind, .string t.set, .bool t.neg, .int .i64 t.low, .int .i64 t.high, .slice a t.kids.length c] 26) : Six (w.alloc o) g t a c := by
 subst hg ho; exact heap_alloc_new _ _
theorem Rdr.ne {w : World} {B : Nat} {s : ByteArray} {i : Nat} {op : Int} (c : Rdr w B s i op) {g : Nat} (h : w.heap.size ≤ g) : g ≠ B := by have := c.lt; omega
set_option maxRecDepth 100000 in
set_option maxHeartbeats 1000000 in
theorem group_of (f : Nat) (hC : ChoiceOk f) (B : Nat) (s : ByteArray) (i : Nat) (op : Int) (w : World) (d : Nat) (hs : s.size ≤ 4000) (hr : Rdr w B s i op) (hi : i ≤ s.size) (hop : op = 200 - (d : Int)) (hd : d ≤ 200) (hf : 3 * (s.size - i) + 3 ≤ f) :
  Calls Tryd.prog 75 #[.pointer (some ⟨B, 0, none⟩)] w (PostP B s op w (grp s f d i)) := by
 have hs2 : s.size ≤ 1048576 := by omega
 have HC := Lib.hid hC
 have op0 : 0 ≤ op := by omega
 have op1 : op ≤ 200 := by omega
 have HOP := Lib.hid hop
 clear hC
 by_cases hd0 : d = 0
 ·have hgt : (200 : Int) < op + 1 := by omega
  clear hop
  obtain ⟨h0, h1, h2, h3, h4, h5⟩ := (show Rdr w B s i op from hr)
  have hBl := hr.lt
  have b1 : Below (w.setCell ⟨B, 2, none⟩ (.int .i64 (op + 1))).heap.size (w.setCell ⟨B, 2, none⟩ (.int .i64 (op + 1))) ((w.setCell ⟨B, 2, none⟩ (.int .i64 (op + 1))).alloc (.cells #[.int .i64 0, .string ⟨#[]⟩, .bool false, .int .i64 0, .int .i64 0, .slice none 0 0] 26)) := (Below.refl _ _).alloc (Nat.le_refl _) _
  have R := Lib.hid ((hr.setO (op + 1)).kept b1)
  have O := Lib.hid (((OnlyB.refl B w).set 2 (.int .i64 (op + 1))).trans (OnlyB.of_below b1))
  have S2 : Hid (Six ((w.setCell ⟨B, 2, none⟩ (.int .i64 (op + 1))).alloc (.cells #[.int .i64 0, .string ⟨#[]⟩, .bool false, .int .i64 0, .int .i64 0, .slice none 0 0] 26)) w.heap.size (PR.leaf 0) none 0) := Lib.hid (six_new (w := (w.setCell ⟨B, 2, none⟩ (.int .i64 (op + 1)))) (by simp) rfl)
  clear b1 hr
  go_enter Tryd.func75, Tryd.ntmps75
  have HE : Hid (grp s f d i = none) := Lib.hid (if_pos hd0)
  clear hd0
  go_wp2_with fail
  refine bodyPost_ret (v := .tuple #[.agg #[.int .i64 0, .string ⟨#[]⟩, .bool false, .int .i64 0, .int .i64 0, .slice none 0 0], .bool false]) (by simp [results, Tryd.results75, go_sem]) rfl ⟨O.out, ?_⟩
  rw [HE.out]
  exact ⟨PR.leaf 0, none, 0, _, _, rfl, R.out⟩
 ·have hgt : ¬ (200 : Int) < op + 1 := by omega
  clear hop
  obtain ⟨h0, h1, h2, h3, h4, h5⟩ := (show Rdr w B s i op from hr)
  have hBl := hr.lt
  have b1 : Below (w.setCell ⟨B, 2, none⟩ (.int .i64 (op + 1))).heap.size (w.setCell ⟨B, 2, none⟩ (.int .i64 (op + 1))) ((w.setCell ⟨B, 2, none⟩ (.int .i64 (op + 1))).alloc (.cells #[.int .i64 0, .string ⟨#[]⟩, .bool false, .int .i64 0, .int .i64 0, .slice none 0 0] 26)) := (Below.refl _ _).alloc (Nat.le_refl _) _
  have R := Lib.hid ((hr.setO (op + 1)).kept b1)
  have O := Lib.hid (((OnlyB.refl B w).set 2 (.int .i64 (op + 1))).trans (OnlyB.of_below b1))
  have S2 : Hid (Six ((w.setCell ⟨B, 2, none⟩ (.int .i64 (op + 1))).alloc (.cells #[.int .i64 0, .string ⟨#[]⟩, .bool false, .int .i64 0, .int .i64 0, .slice none 0 0] 26)) w.heap.size (PR.leaf 0) none 0) := Lib.hid (six_new (w := (w.setCell ⟨B, 2, none⟩ (.int .i64 (op + 1)))) (by simp) rfl)
  clear b1 hr
  go_enter Tryd.func75, Tryd.ntmps75
  have hop2 : op + 1 = 200 - ((d - 1 : Nat) : Int) := by have := HOP.out; omega
  have HOP2 := Lib.hid hop2
  clear hop2
  go_wp2_with fail
  refine (HC.out B s i (op + 1) _ (d - 1) hs R.out hi HOP2.out (by omega) hf).mono ?_
  rintro e w3 ⟨o, hp⟩
  clear h0 h1 h2 h3 h4 h5
  cases hres : PR.alts s f (d - 1) i with
  | none =>
   rw [hres] at hp
   obtain ⟨T, ta, tc, j, oo, rfl, r⟩ := hp
   have HE : Hid (grp s f d i = none) := Lib.hid (by unfold grp; rw [if_neg hd0, hres])
   clear hres hd0
   have O := Lib.hid (O.out.trans o)
   have S2 := Lib.hid (S2.out.only o (by omega))
   have R := Lib.hid r
   clear o r
   unfold reV
   obtain ⟨h0, h1, h2, h3, h4, h5⟩ := R.out
   have bx : Below (w3.setCell ⟨B, 2, none⟩ (.int .i64 (wrap64 (oo - 1)))).heap.size (w3.setCell ⟨B, 2, none⟩ (.int .i64 (wrap64 (oo - 1)))) ((w3.setCell ⟨B, 2, none⟩ (.int .i64 (wrap64 (oo - 1)))).alloc (.cells #[.int .i64 T.kind, .string T.set, .bool T.neg, .int .i64 T.low, .int .i64 T.high, .slice ta T.kids.length tc] 26)) := (Below.refl _ _).alloc (Nat.le_refl _) _
   have hw3 := O.out.size
   have hS3 := S2.out.lt
   have hR3 := R.out.lt
   have S4 : Hid (Six ((w3.setCell ⟨B, 2, none⟩ (.int .i64 (wrap64 (oo - 1)))).alloc (.cells #[.int .i64 T.kind, .string T.set, .bool T.neg, .int .i64 T.low, .int .i64 T.high, .slice ta T.kids.length tc] 26)) w3.heap.size T ta tc) := Lib.hid (six_new (by simp) rfl)
   have S2 := Lib.hid ((S2.out.cell B 2 (by omega) (.int .i64 (wrap64 (oo - 1)))).kept bx)
   have O := Lib.hid ((O.out.set 2 (.int .i64 (wrap64 (oo - 1)))).trans (OnlyB.of_below bx))
   have R := Lib.hid ((R.out.setO (wrap64 (oo - 1))).kept bx)
   clear bx
   go_wp2_with fail
   clear h0 h1 h2 h3 h4 h5
   generalize ((w3.setCell ⟨B, 2, none⟩ (.int .i64 (wrap64 (oo - 1)))).alloc (.cells #[.int .i64 T.kind, .string T.set, .bool T.neg, .int .i64 T.low, .int .i64 T.high, .slice ta T.kids.length tc] 26)) = w4 at *
   obtain ⟨g4, hg4⟩ : ∃ g4, g4 = w3.heap.size := ⟨_, rfl⟩
   have hg4a : w.heap.size < g4 := by omega
   rw [← hg4] at S4 ⊢
   have HG4 := Lib.hid hg4
   clear hg4
   obtain ⟨z0, z1, z2, z3, z4, z5, z6⟩ := S2.out.cells
   have z60 := z6 0
   have z61 := z6 1
   have z62 := z6 2
   have z63 := z6 3
   have z64 := z6 4
   have z65 := z6 5
   clear z6
   obtain ⟨k0, k1, k2, k3, k4, k5, k6⟩ := S4.out.cells
   have k60 := k6 0
   have k61 := k6 1
   have k62 := k6 2
   have k63 := k6 3
   have k64 := k6 4
   have k65 := k6 5
   clear k6
   go_region
   have h6 : Lk (Six ((put6 w4 w.heap.size (.int .i64 T.kind) (.string T.set) (.bool T.neg) (.int .i64 T.low) (.int .i64 T.high) (.slice ta T.kids.length tc)).drew) w.heap.size T ta tc) := Lk.mk (S2.out.put T ta tc).drew1
   have PO := Lk.mk (put6_only O.out w.heap.size (.int .i64 T.kind) (.string T.set) (.bool T.neg) (.int .i64 T.low) (.int .i64 T.high) (.slice ta T.kids.length tc) (by omega)).drew1
   have PRd := Lk.mk ((R.out.put w.heap.size (by omega) (.int .i64 T.kind) (.string T.set) (.bool T.neg) (.int .i64 T.low) (.int .i64 T.high) (.slice ta T.kids.length tc)).drew1)
   go_wp2_with fail
   change bodyPost _ _ _ _ _ ((put6 w4 w.heap.size (.int .i64 T.kind) (.string T.set) (.bool T.neg) (.int .i64 T.low) (.int .i64 T.high) (.slice ta T.kids.length tc)).drew)
   generalize (put6 w4 w.heap.size (.int .i64 T.kind) (.string T.set) (.bool T.neg) (.int .i64 T.low) (.int .i64 T.high) (.slice ta T.kids.length tc)).drew = W at h6 PO PRd ⊢
   obtain ⟨y0, y1, y2, y3, y4, y5, _⟩ := h6.out.cells
   replace y0 : _ = some (Value.int .i64 T.kind) := y0
   replace y1 : _ = some (Value.string T.set) := y1
   replace y2 : _ = some (Value.bool T.neg) := y2
   replace y3 : _ = some (Value.int .i64 T.low) := y3
   replace y4 : _ = some (Value.int .i64 T.high) := y4
   replace y5 : _ = some (Value.slice ta T.kids.length tc) := y5
   refine bodyPost_ret (v := .tuple #[.agg #[.int .i64 T.kind, .string T.set, .bool T.neg, .int .i64 T.low, .int .i64 T.high, .slice ta T.kids.length tc], .bool false]) (by simp [results, Tryd.results75, go_sem, y0, y1, y2, y3, y4, y5]) rfl ?_
   refine ⟨PO.out, ?_⟩
   rw [HE.out]
   exact ⟨T, ta, tc, _, _, rfl, PRd.out⟩
  | some x =>
   rw [hres] at hp
   obtain ⟨xs, j⟩ := x
   obtain ⟨T, hgT⟩ : ∃ T, T = PR.alT xs := ⟨_, rfl⟩
   have hp2 : ∃ a c F, e = .returned (.tuple #[reV T a c, .bool true]) ∧ KF w3 T.kids a F ∧ (∀ y ∈ F, ((w.setCell ⟨B, 2, none⟩ (.int .i64 (op + 1))).alloc (.cells #[.int .i64 0, .string ⟨#[]⟩, .bool false, .int .i64 0, .int .i64 0, .slice none 0 0] 26)).heap.size ≤ y) ∧ Nice T ∧ Rdr w3 B s j (op + 1) := by rw [hgT]; exact hp
   clear hp
   obtain ⟨ta, tc, tF, rfl, k, hkl, hni, r⟩ := hp2
   have HT := Lib.hid hgT.symm
   clear hgT
   have HRES := Lib.hid hres
   have HD0 := Lib.hid hd0
   clear hres hd0
   have O := Lib.hid (O.out.trans o)
   have S2 := Lib.hid (S2.out.only o (by omega))
   have R := Lib.hid r
   clear o r
   unfold reV
   have K := Lib.hid k
   have HKL := Lib.hid hkl
   have HNI := Lib.hid hni
   clear k hkl hni
   obtain ⟨h0, h1, h2, h3, h4, h5⟩ := R.out
   have hoo : op + 1 - 1 = op := by omega
   have bx : Below (w3.setCell ⟨B, 2, none⟩ (.int .i64 (op))).heap.size (w3.setCell ⟨B, 2, none⟩ (.int .i64 (op))) ((w3.setCell ⟨B, 2, none⟩ (.int .i64 (op))).alloc (.cells #[.int .i64 T.kind, .string T.set, .bool T.neg, .int .i64 T.low, .int .i64 T.high, .slice ta T.kids.length tc] 26)) := (Below.refl _ _).alloc (Nat.le_refl _) _
   have hw3 := O.out.size
   have hS3 := S2.out.lt
   have hR3 := R.out.lt
   have S4 : Hid (Six ((w3.setCell ⟨B, 2, none⟩ (.int .i64 (op))).alloc (.cells #[.int .i64 T.kind, .string T.set, .bool T.neg, .int .i64 T.low, .int .i64 T.high, .slice ta T.kids.length tc] 26)) w3.heap.size T ta tc) := Lib.hid (six_new (by simp) rfl)
   have S2 := Lib.hid ((S2.out.cell B 2 (by omega) (.int .i64 (op))).kept bx)
   have O := Lib.hid ((O.out.set 2 (.int .i64 (op))).trans (OnlyB.of_below bx))
   have R := Lib.hid ((R.out.setO (op)).kept bx)
   have K := Lib.hid ((K.out.of (fun b hb => Below.heap_setCell w3 ⟨B, 2, none⟩ (.int .i64 op) b (by show b ≠ B; have := HKL.out b hb; simp at this; omega))).kept bx)
   clear bx
   go_wp2_with fail
   clear h0 h1 h2 h3 h4 h5 hoo
   generalize ((w3.setCell ⟨B, 2, none⟩ (.int .i64 (op))).alloc (.cells #[.int .i64 T.kind, .string T.set, .bool T.neg, .int .i64 T.low, .int .i64 T.high, .slice ta T.kids.length tc] 26)) = w4 at *
   obtain ⟨g4, hg4⟩ : ∃ g4, g4 = w3.heap.size := ⟨_, rfl⟩
   have hg4a : w.heap.size < g4 := by omega
   rw [← hg4] at S4 ⊢
   have HG4 := Lib.hid hg4
   clear hg4
   have HGF : Hid (w.heap.size ∉ tF) := Lib.hid (fun h => by have := HKL.out _ h; simp at this; omega)
   have HBF : Hid (B ∉ tF) := Lib.hid (fun h => by have := HKL.out _ h; simp at this; omega)
   have HLF : Hid (∀ y ∈ tF, w.heap.size ≤ y) := Lib.hid (fun y hy => by have := HKL.out y hy; simp at this; omega)
   cases hb : atB s j 41
   rotate_left
   ·have HB := Lib.hid hb
    clear hb
    obtain ⟨z0, z1, z2, z3, z4, z5, z6⟩ := S2.out.cells
    have z60 := z6 0
    have z61 := z6 1
    have z62 := z6 2
    have z63 := z6 3
    have z64 := z6 4
    have z65 := z6 5
    clear z6
    obtain ⟨k0, k1, k2, k3, k4, k5, k6⟩ := S4.out.cells
    have k60 := k6 0
    have k61 := k6 1
    have k62 := k6 2
    have k63 := k6 3
    have k64 := k6 4
    have k65 := k6 5
    clear k6
    have HE : Hid (grp s f d i = some (T, j + 1)) := Lib.hid (by unfold grp; rw [if_neg HD0.out, HRES.out]; simp only; rw [if_pos HB.out, HT.out])
    clear HD0 HRES HC
    have ne2 : w.heap.size ≠ B := by omega
    have ne4 : g4 ≠ B := by omega
    go_region_with (go_at_call 35; refine (take_yes B s j op 41 _ hs2 ?_ HB.out).mono ?_; (first | exact R.out | exact R.out.drew1 | exact R.out.drewN _); rintro e w5 ⟨rfl, r5, o5⟩; have q2 := Lib.hid (Six.after S2.out o5 rfl ne2); have q4 := Lib.hid (Six.after S4.out o5 rfl ne4); obtain ⟨z0, z1, z2, z3, z4, z5, z6⟩ := q2.out.cells; have z60 := z6 0; have z61 := z6 1; have z62 := z6 2; have z63 := z6 3; have z64 := z6 4; have z65 := z6 5; clear z6; obtain ⟨k0, k1, k2, k3, k4, k5, _⟩ := q4.out.cells)
    all_goals
     have h6 : Lk (Six ((put6 w5 w.heap.size (.int .i64 T.kind) (.string T.set) (.bool T.neg) (.int .i64 T.low) (.int .i64 T.high) (.slice ta T.kids.length tc))) w.heap.size T ta tc) := Lk.mk (q2.out.put T ta tc)
     have PO := Lk.mk (put6_only (O.out.drew1.trans o5) w.heap.size (.int .i64 T.kind) (.string T.set) (.bool T.neg) (.int .i64 T.low) (.int .i64 T.high) (.slice ta T.kids.length tc) (by omega))
     have PRd := Lk.mk (r5.put w.heap.size ne2 (.int .i64 T.kind) (.string T.set) (.bool T.neg) (.int .i64 T.low) (.int .i64 T.high) (.slice ta T.kids.length tc))
     have PK := Lk.mk (((K.out.drew1).only o5 HBF.out).put w.heap.size HGF.out (.int .i64 T.kind) (.string T.set) (.bool T.neg) (.int .i64 T.low) (.int .i64 T.high) (.slice ta T.kids.length tc))
     go_wp2_with fail
     change bodyPost _ _ _ _ _ ((put6 w5 w.heap.size (.int .i64 T.kind) (.string T.set) (.bool T.neg) (.int .i64 T.low) (.int .i64 T.high) (.slice ta T.kids.length tc)))
     generalize (put6 w5 w.heap.size (.int .i64 T.kind) (.string T.set) (.bool T.neg) (.int .i64 T.low) (.int .i64 T.high) (.slice ta T.kids.length tc)) = W at h6 PO PRd PK ⊢
     obtain ⟨y0, y1, y2, y3, y4, y5, _⟩ := h6.out.cells
     replace y0 : _ = some (Value.int .i64 T.kind) := y0
     replace y1 : _ = some (Value.string T.set) := y1
     replace y2 : _ = some (Value.bool T.neg) := y2
     replace y3 : _ = some (Value.int .i64 T.low) := y3
     replace y4 : _ = some (Value.int .i64 T.high) := y4
     replace y5 : _ = some (Value.slice ta T.kids.length tc) := y5
     refine bodyPost_ret (v := .tuple #[.agg #[.int .i64 T.kind, .string T.set, .bool T.neg, .int .i64 T.low, .int .i64 T.high, .slice ta T.kids.length tc], .bool true]) (by simp [results, Tryd.results75, go_sem, y0, y1, y2, y3, y4, y5]) rfl ?_
     refine ⟨PO.out, ?_⟩
     rw [HE.out]
     exact ⟨ta, tc, tF, rfl, PK.out, HLF.out, HNI.out, PRd.out⟩
   ·have HB := Lib.hid hb
    clear hb
    obtain ⟨z0, z1, z2, z3, z4, z5, z6⟩ := S2.out.cells
    have z60 := z6 0
    have z61 := z6 1
    have z62 := z6 2
    have z63 := z6 3
    have z64 := z6 4
    have z65 := z6 5
    clear z6
    obtain ⟨k0, k1, k2, k3, k4, k5, k6⟩ := S4.out.cells
    have k60 := k6 0
    have k61 := k6 1
    have k62 := k6 2
    have k63 := k6 3
    have k64 := k6 4
    have k65 := k6 5
    clear k6
    have HE : Hid (grp s f d i = none) := Lib.hid (by unfold grp; rw [if_neg HD0.out, HRES.out]; simp only; rw [if_neg (by rw [HB.out]; decide)])
    clear HD0 HRES HC
    have ne2 : w.heap.size ≠ B := by omega
    have ne4 : g4 ≠ B := by omega
    go_region_with (go_at_call 35; refine (take_no B s j op 41 _ hs2 ?_ HB.out).mono ?_; (first | exact R.out | exact R.out.drew1 | exact R.out.drewN _); rintro e w5 ⟨rfl, hn5⟩; have o5 := OnlyB.drewAll (B := B) hn5; have q2 := Lib.hid (Six.after S2.out o5 rfl ne2); have q4 := Lib.hid (Six.after S4.out o5 rfl ne4); obtain ⟨z0, z1, z2, z3, z4, z5, z6⟩ := q2.out.cells; have z60 := z6 0; have z61 := z6 1; have z62 := z6 2; have z63 := z6 3; have z64 := z6 4; have z65 := z6 5; clear z6; obtain ⟨k0, k1, k2, k3, k4, k5, _⟩ := q4.out.cells)
    all_goals
     have h6 : Lk (Six ((put6 w5 w.heap.size (.int .i64 T.kind) (.string T.set) (.bool T.neg) (.int .i64 T.low) (.int .i64 T.high) (.slice ta T.kids.length tc))) w.heap.size T ta tc) := Lk.mk (q2.out.put T ta tc)
     have PO := Lk.mk (put6_only (O.out.drew1.trans o5) w.heap.size (.int .i64 T.kind) (.string T.set) (.bool T.neg) (.int .i64 T.low) (.int .i64 T.high) (.slice ta T.kids.length tc) (by omega))
     have PRd := Lk.mk ((R.out.drew1.drewAll hn5).put w.heap.size ne2 (.int .i64 T.kind) (.string T.set) (.bool T.neg) (.int .i64 T.low) (.int .i64 T.high) (.slice ta T.kids.length tc))
     go_wp2_with fail
     change bodyPost _ _ _ _ _ ((put6 w5 w.heap.size (.int .i64 T.kind) (.string T.set) (.bool T.neg) (.int .i64 T.low) (.int .i64 T.high) (.slice ta T.kids.length tc)))
     generalize (put6 w5 w.heap.size (.int .i64 T.kind) (.string T.set) (.bool T.neg) (.int .i64 T.low) (.int .i64 T.high) (.slice ta T.kids.length tc)) = W at h6 PO PRd ⊢
     obtain ⟨y0, y1, y2, y3, y4, y5, _⟩ := h6.out.cells
     replace y0 : _ = some (Value.int .i64 T.kind) := y0
     replace y1 : _ = some (Value.string T.set) := y1
     replace y2 : _ = some (Value.bool T.neg) := y2
     replace y3 : _ = some (Value.int .i64 T.low) := y3
     replace y4 : _ = some (Value.int .i64 T.high) := y4
     replace y5 : _ = some (Value.slice ta T.kids.length tc) := y5
     refine bodyPost_ret (v := .tuple #[.agg #[.int .i64 T.kind, .string T.set, .bool T.neg, .int .i64 T.low, .int .i64 T.high, .slice ta T.kids.length tc], .bool false]) (by simp [results, Tryd.results75, go_sem, y0, y1, y2, y3, y4, y5]) rfl ?_
     refine ⟨PO.out, ?_⟩
     rw [HE.out]
     exact ⟨T, ta, tc, _, _, rfl, PRd.out⟩
end Go.Proofs.YtcpaneaiobnhdaaDoor.kit
/-
 Contracts of impl's reader item of expressions for texts over this seat's translation. Conditions: the reader's cells are known; there is fuel enough.
-/
namespace Go.Proofs.YtcpaneaiobnhdaaDoor.kit
open Go.ChangeShapes Go.WideShapes Go.ChangeAt Go.RowKit
set_option linter.unusedVariables false

set_option maxRecDepth 100000 in
set_option maxHeartbeats 1000000 in
theorem item_of (f : Nat) (hO : OnceOk f) : ItemOk f := by
 intro B s i op w d hs hr hi hop hd hf
 have hs2 : s.size ≤ 1048576 := by omega
 have HOO := Lib.hid hO
 have HOP := Lib.hid hop
 clear hO hop
 have hBl := hr.lt
 have b1 : Below w.heap.size w (w.alloc (.cells #[.int .i64 0, .string ⟨#[]⟩, .bool false, .int .i64 0, .int .i64 0, .slice none 0 0] 26)) := (Below.refl w.heap.size w).alloc (Nat.le_refl _) _
 have O := Lib.hid (OnlyB.of_below (B := B) b1)
 have R := Lib.hid (hr.kept b1)
 have S2 : Hid (Six _ w.heap.size (PR.leaf 0) none 0) := Lib.hid (heap_alloc_new w (.cells #[.int .i64 0, .string ⟨#[]⟩, .bool false, .int .i64 0, .int .i64 0, .slice none 0 0] 26))
 clear b1 hr
 have S20 := S2
 have O0 := Lib.hid (OnlyB.refl B (w.alloc (.cells #[.int .i64 0, .string ⟨#[]⟩, .bool false, .int .i64 0, .int .i64 0, .slice none 0 0] 26)))
 go_enter Tryd.func50, Tryd.ntmps50
 go_wp2_with fail
 refine (HOO.out B s i op _ d hs R.out hi HOP.out hd hf).mono ?_
 rintro e w3 ⟨o, hp⟩
 clear HOO
 cases hres : PR.item s f d i with
 | none =>
  rw [hres] at hp
  obtain ⟨T, ta, tc, j, oo, rfl, r⟩ := hp
  have HE : Hid (((PR.item s f d i).bind fun x => PR.times s x.1 x.2) = none) := Lib.hid (by rw [hres]; rfl)
  clear hres
  have O := Lib.hid (O.out.trans o)
  have S2 := Lib.hid (S2.out.only o (by omega))
  have R := Lib.hid r
  clear o r
  unfold reV
  obtain ⟨z0, z1, z2, z3, z4, z5, z6⟩ := S2.out.cells
  have z60 := z6 0
  have z61 := z6 1
  have z62 := z6 2
  have z63 := z6 3
  have z64 := z6 4
  have z65 := z6 5
  clear z6
  have hw3 := O.out.size
  have hS3 := S2.out.lt
  have ba : Below (put6 w3 w.heap.size (.int .i64 0) (.string ⟨#[]⟩) (.bool false) (.int .i64 0) (.int .i64 0) (.slice none 0 0)).heap.size (put6 w3 w.heap.size (.int .i64 0) (.string ⟨#[]⟩) (.bool false) (.int .i64 0) (.int .i64 0) (.slice none 0 0)) ((put6 w3 w.heap.size (.int .i64 0) (.string ⟨#[]⟩) (.bool false) (.int .i64 0) (.int .i64 0) (.slice none 0 0)).alloc (.cells #[.int .i64 T.kind, .string T.set, .bool T.neg, .int .i64 T.low, .int .i64 T.high, .slice ta T.kids.length tc] 26)) := (Below.refl _ _).alloc (Nat.le_refl _) _
  have h6 : Lk (Six ((put6 w3 w.heap.size (.int .i64 0) (.string ⟨#[]⟩) (.bool false) (.int .i64 0) (.int .i64 0) (.slice none 0 0)).alloc (.cells #[.int .i64 T.kind, .string T.set, .bool T.neg, .int .i64 T.low, .int .i64 T.high, .slice ta T.kids.length tc] 26)) w.heap.size (PR.leaf 0) none 0) := Lk.mk ((S2.out.put (PR.leaf 0) none 0).kept ba)
  have PO := Lk.mk ((put6_only O.out w.heap.size (.int .i64 0) (.string ⟨#[]⟩) (.bool false) (.int .i64 0) (.int .i64 0) (.slice none 0 0) (by omega)).trans (OnlyB.of_below (B := B) ba))
  have PRd := Lk.mk ((R.out.put w.heap.size (by omega) (.int .i64 0) (.string ⟨#[]⟩) (.bool false) (.int .i64 0) (.int .i64 0) (.slice none 0 0)).kept ba)
  clear ba
  go_wp2_with fail
  change bodyPost _ _ _ _ _ ((put6 w3 w.heap.size (.int .i64 0) (.string ⟨#[]⟩) (.bool false) (.int .i64 0) (.int .i64 0) (.slice none 0 0)).alloc (.cells #[.int .i64 T.kind, .string T.set, .bool T.neg, .int .i64 T.low, .int .i64 T.high, .slice ta T.kids.length tc] 26))
  generalize (put6 w3 w.heap.size (.int .i64 0) (.string ⟨#[]⟩) (.bool false) (.int .i64 0) (.int .i64 0) (.slice none 0 0)).alloc (.cells #[.int .i64 T.kind, .string T.set, .bool T.neg, .int .i64 T.low, .int .i64 T.high, .slice ta T.kids.length tc] 26) = W at h6 PO PRd ⊢
  obtain ⟨y0, y1, y2, y3, y4, y5, _⟩ := h6.out.cells
  replace y0 : _ = some (Value.int .i64 0) := y0
  replace y1 : _ = some (Value.string ⟨#[]⟩) := y1
  replace y2 : _ = some (Value.bool false) := y2
  replace y3 : _ = some (Value.int .i64 0) := y3
  replace y4 : _ = some (Value.int .i64 0) := y4
  replace y5 : _ = some (Value.slice none 0 0) := y5
  refine bodyPost_ret (v := .tuple #[.agg #[.int .i64 0, .string ⟨#[]⟩, .bool false, .int .i64 0, .int .i64 0, .slice none 0 0], .bool false]) (by simp [results, Tryd.results50, go_sem, y0, y1, y2, y3, y4, y5]) rfl ?_
  refine ⟨PO.out, ?_⟩
  rw [HE.out]
  exact ⟨PR.leaf 0, none, 0, _, _, rfl, PRd.out⟩
 | some x =>
  rw [hres] at hp
  obtain ⟨T, j⟩ := x
  obtain ⟨ta, tc, tF, rfl, k, hkl, hni, r⟩ := hp
  simp only at k hni r
  have HIT : Hid (((PR.item s f d i).bind fun x => PR.times s x.1 x.2) = PR.times s T j) := Lib.hid (by rw [hres]; rfl)
  have hj := ((PR.adv s f).2.2 d i _ hi hres)
  simp only at hj
  obtain ⟨hj1, hj2⟩ := hj
  clear hres
  have O0 := Lib.hid (O0.out.trans o)
  have O := Lib.hid (O.out.trans o)
  have S2 := Lib.hid (S2.out.only o (by omega))
  have R := Lib.hid r
  clear o r
  unfold reV
  have K := Lib.hid k
  have HKL := Lib.hid hkl
  have HNI := Lib.hid hni
  clear k hkl hni
  have bx : Below w3.heap.size w3 (w3.alloc (.cells #[.int .i64 T.kind, .string T.set, .bool T.neg, .int .i64 T.low, .int .i64 T.high, .slice ta T.kids.length tc] 26)) := (Below.refl _ _).alloc (Nat.le_refl _) _
  have hw3 := O.out.size
  have hS3 := S2.out.lt
  have hR3 := R.out.lt
  have S4 : Hid (Six (w3.alloc (.cells #[.int .i64 T.kind, .string T.set, .bool T.neg, .int .i64 T.low, .int .i64 T.high, .slice ta T.kids.length tc] 26)) w3.heap.size T ta tc) := Lib.hid (six_new rfl rfl)
  have S2 := Lib.hid (S2.out.kept bx)
  have O := Lib.hid (O.out.trans (OnlyB.of_below bx))
  have R := Lib.hid (R.out.kept bx)
  have K := Lib.hid (K.out.kept bx)
  have O0 := Lib.hid (O0.out.trans (OnlyB.of_below bx))
  clear bx
  have HGF : Hid (w.heap.size ∉ tF) := Lib.hid (fun h => by have := HKL.out _ h; simp at this; omega)
  have HBF : Hid (B ∉ tF) := Lib.hid (fun h => by have := HKL.out _ h; simp at this; omega)
  have HLF : Hid (∀ y ∈ tF, w.heap.size ≤ y) := Lib.hid (fun y hy => by have := HKL.out y hy; simp at this; omega)
  have HLT := Lib.hid (fun y hy => K.out.lt y hy)
  cases h42 : atB s j 42
  case true =>
   have H42 := Lib.hid h42
   clear h42
   go_wp2_with fail
   generalize (w3.alloc (.cells #[.int .i64 T.kind, .string T.set, .bool T.neg, .int .i64 T.low, .int .i64 T.high, .slice ta T.kids.length tc] 26)) = w4 at *
   obtain ⟨g4, hg4⟩ : ∃ g4, g4 = w3.heap.size := ⟨_, rfl⟩
   have hg4a : w.heap.size < g4 := by omega
   rw [← hg4] at S4 ⊢
   have HG4 := Lib.hid hg4
   clear hg4
   refine (take_yes B s j op 42 _ hs2 R.out H42.out).mono ?_
   rintro e w5 ⟨rfl, r, o⟩
   have O0 := Lib.hid (O0.out.trans o)
   have O := Lib.hid (O.out.trans o)
   have S2 := Lib.hid (S2.out.only o (by omega))
   have S4 := Lib.hid (S4.out.only o (by omega))
   have K := Lib.hid (K.out.only o HBF.out)
   have R := Lib.hid r
   clear o r
   obtain ⟨k0, k1, k2, k3, k4, k5, k6⟩ := S4.out.cells
   have k60 := k6 0
   have k61 := k6 1
   have k62 := k6 2
   have k63 := k6 3
   have k64 := k6 4
   have k65 := k6 5
   clear k6
   have HE : Hid (((PR.item s f d i).bind fun x => PR.times s x.1 x.2) = some (PR.manyT T 0 (-1), j + 1)) := Lib.hid (by rw [HIT.out, PR.times]; simp only [H42.out, if_true])
   go_wp2_with fail
   refine (many_any T ta tc tF 0 (-1) _ HNI.out K.out).mono ?_
   rintro e wm ⟨b, cm, rfl, km, hbm, bm⟩
   unfold reV
   simp only [PR.manyT, RT.set, RT.kids, RT.kind, RT.neg, RT.low, RT.high]
   clear k0 k60 k1 k61 k2 k62 k3 k63 k4 k64 k5 k65
   have hzO := O.out.size
   have hzS := S2.out.lt
   have O := Lib.hid (O.out.trans (OnlyB.of_below bm))
   have S2 := Lib.hid (S2.out.kept bm)
   have R := Lib.hid (R.out.kept bm)
   have hgF : Hid (w.heap.size ∉ b :: tF) := Lib.hid (by rw [List.mem_cons, not_or]; exact ⟨by omega, HGF.out⟩)
   have HLB : Hid (∀ y ∈ b :: tF, w.heap.size ≤ y) := Lib.hid (fun y hy => by rcases List.mem_cons.1 hy with rfl | hy; omega; exact HLF.out y hy)
   have K := Lib.hid km
   clear km bm S4
   obtain ⟨z0, z1, z2, z3, z4, z5, z6⟩ := S2.out.cells
   have z60 := z6 0
   have z61 := z6 1
   have z62 := z6 2
   have z63 := z6 3
   have z64 := z6 4
   have z65 := z6 5
   clear z6
   have h6 : Lk (Six (put6 wm w.heap.size (.int .i64 5) (.string ⟨#[]⟩) (.bool false) (.int .i64 0) (.int .i64 (-1)) (.slice (some ⟨b, 0, none⟩) 1 cm)) w.heap.size (PR.manyT T 0 (-1)) (some ⟨b, 0, none⟩) cm) := Lk.mk (S2.out.put (PR.manyT T 0 (-1)) (some ⟨b, 0, none⟩) cm)
   have PO := Lk.mk (put6_only O.out w.heap.size (.int .i64 5) (.string ⟨#[]⟩) (.bool false) (.int .i64 0) (.int .i64 (-1)) (.slice (some ⟨b, 0, none⟩) 1 cm) (by omega))
   have PRd := Lk.mk (R.out.put w.heap.size (by omega) (.int .i64 5) (.string ⟨#[]⟩) (.bool false) (.int .i64 0) (.int .i64 (-1)) (.slice (some ⟨b, 0, none⟩) 1 cm))
   have PK := Lk.mk (K.out.put w.heap.size hgF.out (.int .i64 5) (.string ⟨#[]⟩) (.bool false) (.int .i64 0) (.int .i64 (-1)) (.slice (some ⟨b, 0, none⟩) 1 cm))
   go_wp2_with fail
   change bodyPost _ _ _ _ _ (put6 wm w.heap.size (.int .i64 5) (.string ⟨#[]⟩) (.bool false) (.int .i64 0) (.int .i64 (-1)) (.slice (some ⟨b, 0, none⟩) 1 cm))
   generalize put6 wm w.heap.size (.int .i64 5) (.string ⟨#[]⟩) (.bool false) (.int .i64 0) (.int .i64 (-1)) (.slice (some ⟨b, 0, none⟩) 1 cm) = W at h6 PO PRd PK ⊢
   obtain ⟨y0, y1, y2, y3, y4, y5, _⟩ := h6.out.cells
   replace y0 : _ = some (Value.int .i64 5) := y0
   replace y1 : _ = some (Value.string ⟨#[]⟩) := y1
   replace y2 : _ = some (Value.bool false) := y2
   replace y3 : _ = some (Value.int .i64 0) := y3
   replace y4 : _ = some (Value.int .i64 (-1)) := y4
   replace y5 : _ = some (Value.slice (some ⟨b, 0, none⟩) 1 cm) := y5
   refine bodyPost_ret (v := .tuple #[.agg #[.int .i64 5, .string ⟨#[]⟩, .bool false, .int .i64 0, .int .i64 (-1), .slice (some ⟨b, 0, none⟩) 1 cm], .bool true]) (by simp [results, Tryd.results50, go_sem, y0, y1, y2, y3, y4, y5]) rfl ?_
   refine ⟨PO.out, ?_⟩
   rw [HE.out]
   exact ⟨some ⟨b, 0, none⟩, cm, b :: tF, rfl, PK.out, HLB.out, ⟨Nat.zero_le _, by simp [PR.manyT, RT.kids]⟩, PRd.out⟩
  case false =>
   have H42 := Lib.hid h42
   clear h42
   go_wp2_with fail
   generalize (w3.alloc (.cells #[.int .i64 T.kind, .string T.set, .bool T.neg, .int .i64 T.low, .int .i64 T.high, .slice ta T.kids.length tc] 26)) = w4 at *
   obtain ⟨g4, hg4⟩ : ∃ g4, g4 = w3.heap.size := ⟨_, rfl⟩
   have hg4a : w.heap.size < g4 := by omega
   rw [← hg4] at S4 ⊢
   have HG4 := Lib.hid hg4
   clear hg4
   refine (take_no B s j op 42 _ hs2 R.out H42.out).mono ?_
   rintro e w10 ⟨rfl, hn⟩
   have o := OnlyB.drewAll (B := B) hn
   have r := R.out.drewAll hn
   clear hn
   have O0 := Lib.hid (O0.out.trans o)
   have O := Lib.hid (O.out.trans o)
   have S2 := Lib.hid (S2.out.only o (by omega))
   have S4 := Lib.hid (S4.out.only o (by omega))
   have K := Lib.hid (K.out.only o HBF.out)
   have R := Lib.hid r
   clear o r
   cases h43 : atB s j 43
   case true =>
    have H43 := Lib.hid h43
    clear h43
    go_wp2_with fail
    refine (take_yes B s j op 43 _ hs2 R.out H43.out).mono ?_
    rintro e w5 ⟨rfl, r, o⟩
    have O0 := Lib.hid (O0.out.trans o)
    have O := Lib.hid (O.out.trans o)
    have S2 := Lib.hid (S2.out.only o (by omega))
    have S4 := Lib.hid (S4.out.only o (by omega))
    have K := Lib.hid (K.out.only o HBF.out)
    have R := Lib.hid r
    clear o r
    obtain ⟨k0, k1, k2, k3, k4, k5, k6⟩ := S4.out.cells
    have k60 := k6 0
    have k61 := k6 1
    have k62 := k6 2
    have k63 := k6 3
    have k64 := k6 4
    have k65 := k6 5
    clear k6
    have HE : Hid (((PR.item s f d i).bind fun x => PR.times s x.1 x.2) = some (PR.manyT T 1 (-1), j + 1)) := Lib.hid (by rw [HIT.out, PR.times]; simp only [H42.out, H43.out, if_true, if_false, Bool.false_eq_true])
    go_wp2_with fail
    refine (many_any T ta tc tF 1 (-1) _ HNI.out K.out).mono ?_
    rintro e wm ⟨b, cm, rfl, km, hbm, bm⟩
    unfold reV
    simp only [PR.manyT, RT.set, RT.kids, RT.kind, RT.neg, RT.low, RT.high]
    clear k0 k60 k1 k61 k2 k62 k3 k63 k4 k64 k5 k65
    have hzO := O.out.size
    have hzS := S2.out.lt
    have O := Lib.hid (O.out.trans (OnlyB.of_below bm))
    have S2 := Lib.hid (S2.out.kept bm)
    have R := Lib.hid (R.out.kept bm)
    have hgF : Hid (w.heap.size ∉ b :: tF) := Lib.hid (by rw [List.mem_cons, not_or]; exact ⟨by omega, HGF.out⟩)
    have HLB : Hid (∀ y ∈ b :: tF, w.heap.size ≤ y) := Lib.hid (fun y hy => by rcases List.mem_cons.1 hy with rfl | hy; omega; exact HLF.out y hy)
    have K := Lib.hid km
    clear km bm S4
    obtain ⟨z0, z1, z2, z3, z4, z5, z6⟩ := S2.out.cells
    have z60 := z6 0
    have z61 := z6 1
    have z62 := z6 2
    have z63 := z6 3
    have z64 := z6 4
    have z65 := z6 5
    clear z6
    have h6 : Lk (Six (put6 wm w.heap.size (.int .i64 5) (.string ⟨#[]⟩) (.bool false) (.int .i64 1) (.int .i64 (-1)) (.slice (some ⟨b, 0, none⟩) 1 cm)) w.heap.size (PR.manyT T 1 (-1)) (some ⟨b, 0, none⟩) cm) := Lk.mk (S2.out.put (PR.manyT T 1 (-1)) (some ⟨b, 0, none⟩) cm)
    have PO := Lk.mk (put6_only O.out w.heap.size (.int .i64 5) (.string ⟨#[]⟩) (.bool false) (.int .i64 1) (.int .i64 (-1)) (.slice (some ⟨b, 0, none⟩) 1 cm) (by omega))
    have PRd := Lk.mk (R.out.put w.heap.size (by omega) (.int .i64 5) (.string ⟨#[]⟩) (.bool false) (.int .i64 1) (.int .i64 (-1)) (.slice (some ⟨b, 0, none⟩) 1 cm))
    have PK := Lk.mk (K.out.put w.heap.size hgF.out (.int .i64 5) (.string ⟨#[]⟩) (.bool false) (.int .i64 1) (.int .i64 (-1)) (.slice (some ⟨b, 0, none⟩) 1 cm))
    go_wp2_with fail
    change bodyPost _ _ _ _ _ (put6 wm w.heap.size (.int .i64 5) (.string ⟨#[]⟩) (.bool false) (.int .i64 1) (.int .i64 (-1)) (.slice (some ⟨b, 0, none⟩) 1 cm))
    generalize put6 wm w.heap.size (.int .i64 5) (.string ⟨#[]⟩) (.bool false) (.int .i64 1) (.int .i64 (-1)) (.slice (some ⟨b, 0, none⟩) 1 cm) = W at h6 PO PRd PK ⊢
    obtain ⟨y0, y1, y2, y3, y4, y5, _⟩ := h6.out.cells
    replace y0 : _ = some (Value.int .i64 5) := y0
    replace y1 : _ = some (Value.string ⟨#[]⟩) := y1
    replace y2 : _ = some (Value.bool false) := y2
    replace y3 : _ = some (Value.int .i64 1) := y3
    replace y4 : _ = some (Value.int .i64 (-1)) := y4
    replace y5 : _ = some (Value.slice (some ⟨b, 0, none⟩) 1 cm) := y5
    refine bodyPost_ret (v := .tuple #[.agg #[.int .i64 5, .string ⟨#[]⟩, .bool false, .int .i64 1, .int .i64 (-1), .slice (some ⟨b, 0, none⟩) 1 cm], .bool true]) (by simp [results, Tryd.results50, go_sem, y0, y1, y2, y3, y4, y5]) rfl ?_
    refine ⟨PO.out, ?_⟩
    rw [HE.out]
    exact ⟨some ⟨b, 0, none⟩, cm, b :: tF, rfl, PK.out, HLB.out, ⟨Nat.zero_le _, by simp [PR.manyT, RT.kids]⟩, PRd.out⟩
   case false =>
    have H43 := Lib.hid h43
    clear h43
    go_wp2_with fail
    refine (take_no B s j op 43 _ hs2 R.out H43.out).mono ?_
    rintro e w11 ⟨rfl, hn⟩
    have o := OnlyB.drewAll (B := B) hn
    have r := R.out.drewAll hn
    clear hn
    have O0 := Lib.hid (O0.out.trans o)
    have O := Lib.hid (O.out.trans o)
    have S2 := Lib.hid (S2.out.only o (by omega))
    have S4 := Lib.hid (S4.out.only o (by omega))
    have K := Lib.hid (K.out.only o HBF.out)
    have R := Lib.hid r
    clear o r
    cases h63 : atB s j 63
    case true =>
     have H63 := Lib.hid h63
     clear h63
     go_wp2_with fail
     refine (take_yes B s j op 63 _ hs2 R.out H63.out).mono ?_
     rintro e w5 ⟨rfl, r, o⟩
     have O0 := Lib.hid (O0.out.trans o)
     have O := Lib.hid (O.out.trans o)
     have S2 := Lib.hid (S2.out.only o (by omega))
     have S4 := Lib.hid (S4.out.only o (by omega))
     have K := Lib.hid (K.out.only o HBF.out)
     have R := Lib.hid r
     clear o r
     obtain ⟨k0, k1, k2, k3, k4, k5, k6⟩ := S4.out.cells
     have k60 := k6 0
     have k61 := k6 1
     have k62 := k6 2
     have k63 := k6 3
     have k64 := k6 4
     have k65 := k6 5
     clear k6
     have HE : Hid (((PR.item s f d i).bind fun x => PR.times s x.1 x.2) = some (PR.manyT T 0 1, j + 1)) := Lib.hid (by rw [HIT.out, PR.times]; simp only [H42.out, H43.out, H63.out, if_true, if_false, Bool.false_eq_true])
     go_wp2_with fail
     refine (many_any T ta tc tF 0 1 _ HNI.out K.out).mono ?_
     rintro e wm ⟨b, cm, rfl, km, hbm, bm⟩
     unfold reV
     simp only [PR.manyT, RT.set, RT.kids, RT.kind, RT.neg, RT.low, RT.high]
     clear k0 k60 k1 k61 k2 k62 k3 k63 k4 k64 k5 k65
     have hzO := O.out.size
     have hzS := S2.out.lt
     have O := Lib.hid (O.out.trans (OnlyB.of_below bm))
     have S2 := Lib.hid (S2.out.kept bm)
     have R := Lib.hid (R.out.kept bm)
     have hgF : Hid (w.heap.size ∉ b :: tF) := Lib.hid (by rw [List.mem_cons, not_or]; exact ⟨by omega, HGF.out⟩)
     have HLB : Hid (∀ y ∈ b :: tF, w.heap.size ≤ y) := Lib.hid (fun y hy => by rcases List.mem_cons.1 hy with rfl | hy; omega; exact HLF.out y hy)
     have K := Lib.hid km
     clear km bm S4
     obtain ⟨z0, z1, z2, z3, z4, z5, z6⟩ := S2.out.cells
     have z60 := z6 0
     have z61 := z6 1
     have z62 := z6 2
     have z63 := z6 3
     have z64 := z6 4
     have z65 := z6 5
     clear z6
     have h6 : Lk (Six (put6 wm w.heap.size (.int .i64 5) (.string ⟨#[]⟩) (.bool false) (.int .i64 0) (.int .i64 1) (.slice (some ⟨b, 0, none⟩) 1 cm)) w.heap.size (PR.manyT T 0 1) (some ⟨b, 0, none⟩) cm) := Lk.mk (S2.out.put (PR.manyT T 0 1) (some ⟨b, 0, none⟩) cm)
     have PO := Lk.mk (put6_only O.out w.heap.size (.int .i64 5) (.string ⟨#[]⟩) (.bool false) (.int .i64 0) (.int .i64 1) (.slice (some ⟨b, 0, none⟩) 1 cm) (by omega))
     have PRd := Lk.mk (R.out.put w.heap.size (by omega) (.int .i64 5) (.string ⟨#[]⟩) (.bool false) (.int .i64 0) (.int .i64 1) (.slice (some ⟨b, 0, none⟩) 1 cm))
     have PK := Lk.mk (K.out.put w.heap.size hgF.out (.int .i64 5) (.string ⟨#[]⟩) (.bool false) (.int .i64 0) (.int .i64 1) (.slice (some ⟨b, 0, none⟩) 1 cm))
     go_wp2_with fail
     change bodyPost _ _ _ _ _ (put6 wm w.heap.size (.int .i64 5) (.string ⟨#[]⟩) (.bool false) (.int .i64 0) (.int .i64 1) (.slice (some ⟨b, 0, none⟩) 1 cm))
     generalize put6 wm w.heap.size (.int .i64 5) (.string ⟨#[]⟩) (.bool false) (.int .i64 0) (.int .i64 1) (.slice (some ⟨b, 0, none⟩) 1 cm) = W at h6 PO PRd PK ⊢
     obtain ⟨y0, y1, y2, y3, y4, y5, _⟩ := h6.out.cells
     replace y0 : _ = some (Value.int .i64 5) := y0
     replace y1 : _ = some (Value.string ⟨#[]⟩) := y1
     replace y2 : _ = some (Value.bool false) := y2
     replace y3 : _ = some (Value.int .i64 0) := y3
     replace y4 : _ = some (Value.int .i64 1) := y4
     replace y5 : _ = some (Value.slice (some ⟨b, 0, none⟩) 1 cm) := y5
     refine bodyPost_ret (v := .tuple #[.agg #[.int .i64 5, .string ⟨#[]⟩, .bool false, .int .i64 0, .int .i64 1, .slice (some ⟨b, 0, none⟩) 1 cm], .bool true]) (by simp [results, Tryd.results50, go_sem, y0, y1, y2, y3, y4, y5]) rfl ?_
     refine ⟨PO.out, ?_⟩
     rw [HE.out]
     exact ⟨some ⟨b, 0, none⟩, cm, b :: tF, rfl, PK.out, HLB.out, ⟨Nat.zero_le _, by simp [PR.manyT, RT.kids]⟩, PRd.out⟩
    case false =>
     have H63 := Lib.hid h63
     clear h63
     go_wp2_with fail
     refine (take_no B s j op 63 _ hs2 R.out H63.out).mono ?_
     rintro e w12 ⟨rfl, hn⟩
     have o := OnlyB.drewAll (B := B) hn
     have r := R.out.drewAll hn
     clear hn
     have O0 := Lib.hid (O0.out.trans o)
     have O := Lib.hid (O.out.trans o)
     have S2 := Lib.hid (S2.out.only o (by omega))
     have S4 := Lib.hid (S4.out.only o (by omega))
     have K := Lib.hid (K.out.only o HBF.out)
     have R := Lib.hid r
     clear o r
     cases h123 : atB s j 123
     case true =>
      have H123 := Lib.hid h123
      clear h123
      go_wp2_with fail
      refine (take_yes B s j op 123 _ hs2 R.out H123.out).mono ?_
      rintro e w5 ⟨rfl, r, o⟩
      have O0 := Lib.hid (O0.out.trans o)
      have O := Lib.hid (O.out.trans o)
      have S2 := Lib.hid (S2.out.only o (by omega))
      have S4 := Lib.hid (S4.out.only o (by omega))
      have K := Lib.hid (K.out.only o HBF.out)
      have R := Lib.hid r
      clear o r
      obtain ⟨k0, k1, k2, k3, k4, k5, k6⟩ := S4.out.cells
      have k60 := k6 0
      have k61 := k6 1
      have k62 := k6 2
      have k63 := k6 3
      have k64 := k6 4
      have k65 := k6 5
      clear k6
      have HE : Hid (((PR.item s f d i).bind fun x => PR.times s x.1 x.2) = (PR.braces s (j + 1)).map fun x => (PR.manyT T x.1 x.2.1, x.2.2)) := Lib.hid (by rw [HIT.out, PR.times]; simp only [H42.out, H43.out, H63.out, H123.out, if_true, if_false, Bool.false_eq_true])
      have HCO := Lib.hid (counted_any B s (j + 1) op T ta tc tF w5 hs2 R.out K.out HBF.out HNI.out O0.out HKL.out)
      unfold reV at HCO
      go_wp2_with fail
      refine HCO.out.mono ?_
      rintro e w6 ⟨o, hp⟩
      clear HCO
      clear k0 k60 k1 k61 k2 k62 k3 k63 k4 k64 k5 k65
      have SZ : w.heap.size < (w.alloc (.cells #[.int .i64 0, .string ⟨#[]⟩, .bool false, .int .i64 0, .int .i64 0, .slice none 0 0] 26)).heap.size := by simp
      cases hres2 : (PR.braces s (j + 1)).map (fun x => (PR.manyT T x.1 x.2.1, x.2.2)) with
      | none =>
       rw [hres2] at hp
       obtain ⟨U, ua, uc, jj, oo, rfl, r⟩ := hp
       have HRES := Lib.hid hres2
       clear hres2
       unfold reV
       have O := Lib.hid ((OnlyB.of_below (B := B) ((Below.refl w.heap.size w).alloc (Nat.le_refl _) (.cells #[.int .i64 0, .string ⟨#[]⟩, .bool false, .int .i64 0, .int .i64 0, .slice none 0 0] 26))).trans o)
       have S2 := Lib.hid (S20.out.only o (by omega))
       have R := Lib.hid r
       clear o r
       obtain ⟨z0, z1, z2, z3, z4, z5, z6⟩ := S2.out.cells
       have z60 := z6 0
       have z61 := z6 1
       have z62 := z6 2
       have z63 := z6 3
       have z64 := z6 4
       have z65 := z6 5
       clear z6
       have h6 : Lk (Six (put6 w6 w.heap.size (.int .i64 U.kind) (.string U.set) (.bool U.neg) (.int .i64 U.low) (.int .i64 U.high) (.slice ua U.kids.length uc)) w.heap.size U ua uc) := Lk.mk (S2.out.put U ua uc)
       have PO := Lk.mk (put6_only O.out w.heap.size (.int .i64 U.kind) (.string U.set) (.bool U.neg) (.int .i64 U.low) (.int .i64 U.high) (.slice ua U.kids.length uc) (by omega))
       have PRd := Lk.mk (R.out.put w.heap.size (by omega) (.int .i64 U.kind) (.string U.set) (.bool U.neg) (.int .i64 U.low) (.int .i64 U.high) (.slice ua U.kids.length uc))
       go_wp2_with fail
       change bodyPost _ _ _ _ _ (put6 w6 w.heap.size (.int .i64 U.kind) (.string U.set) (.bool U.neg) (.int .i64 U.low) (.int .i64 U.high) (.slice ua U.kids.length uc))
       generalize put6 w6 w.heap.size (.int .i64 U.kind) (.string U.set) (.bool U.neg) (.int .i64 U.low) (.int .i64 U.high) (.slice ua U.kids.length uc) = W at h6 PO PRd ⊢
       obtain ⟨y0, y1, y2, y3, y4, y5, _⟩ := h6.out.cells
       replace y0 : _ = some (Value.int .i64 U.kind) := y0
       replace y1 : _ = some (Value.string U.set) := y1
       replace y2 : _ = some (Value.bool U.neg) := y2
       replace y3 : _ = some (Value.int .i64 U.low) := y3
       replace y4 : _ = some (Value.int .i64 U.high) := y4
       replace y5 : _ = some (Value.slice ua U.kids.length uc) := y5
       refine bodyPost_ret (v := .tuple #[.agg #[.int .i64 U.kind, .string U.set, .bool U.neg, .int .i64 U.low, .int .i64 U.high, .slice ua U.kids.length uc], .bool false]) (by simp [results, Tryd.results50, go_sem, y0, y1, y2, y3, y4, y5]) rfl ?_
       refine ⟨PO.out, ?_⟩
       rw [HE.out, HRES.out]
       exact ⟨U, ua, uc, _, _, rfl, PRd.out⟩
      | some y =>
       rw [hres2] at hp
       obtain ⟨U, jj⟩ := y
       obtain ⟨ua, uc, uF, rfl, ku, hku, hnu, r⟩ := hp
       simp only at ku hnu r
       have HRES := Lib.hid hres2
       clear hres2
       unfold reV
       have O := Lib.hid ((OnlyB.of_below (B := B) ((Below.refl w.heap.size w).alloc (Nat.le_refl _) (.cells #[.int .i64 0, .string ⟨#[]⟩, .bool false, .int .i64 0, .int .i64 0, .slice none 0 0] 26))).trans o)
       have S2 := Lib.hid (S20.out.only o (by omega))
       have R := Lib.hid r
       clear o r
       have KU := Lib.hid ku
       have HUF : Hid (w.heap.size ∉ uF) := Lib.hid (fun h => by have := hku _ h; omega)
       have HUL : Hid (∀ y ∈ uF, w.heap.size ≤ y) := Lib.hid (fun y hy => by have := hku y hy; omega)
       have HNU := Lib.hid hnu
       clear ku hku hnu
       obtain ⟨z0, z1, z2, z3, z4, z5, z6⟩ := S2.out.cells
       have z60 := z6 0
       have z61 := z6 1
       have z62 := z6 2
       have z63 := z6 3
       have z64 := z6 4
       have z65 := z6 5
       clear z6
       have h6 : Lk (Six (put6 w6 w.heap.size (.int .i64 U.kind) (.string U.set) (.bool U.neg) (.int .i64 U.low) (.int .i64 U.high) (.slice ua U.kids.length uc)) w.heap.size U ua uc) := Lk.mk (S2.out.put U ua uc)
       have PO := Lk.mk (put6_only O.out w.heap.size (.int .i64 U.kind) (.string U.set) (.bool U.neg) (.int .i64 U.low) (.int .i64 U.high) (.slice ua U.kids.length uc) (by omega))
       have PRd := Lk.mk (R.out.put w.heap.size (by omega) (.int .i64 U.kind) (.string U.set) (.bool U.neg) (.int .i64 U.low) (.int .i64 U.high) (.slice ua U.kids.length uc))
       have PKU := Lk.mk (KU.out.put w.heap.size HUF.out (.int .i64 U.kind) (.string U.set) (.bool U.neg) (.int .i64 U.low) (.int .i64 U.high) (.slice ua U.kids.length uc))
       go_wp2_with fail
       change bodyPost _ _ _ _ _ (put6 w6 w.heap.size (.int .i64 U.kind) (.string U.set) (.bool U.neg) (.int .i64 U.low) (.int .i64 U.high) (.slice ua U.kids.length uc))
       generalize put6 w6 w.heap.size (.int .i64 U.kind) (.string U.set) (.bool U.neg) (.int .i64 U.low) (.int .i64 U.high) (.slice ua U.kids.length uc) = W at h6 PO PRd PKU ⊢
       obtain ⟨y0, y1, y2, y3, y4, y5, _⟩ := h6.out.cells
       replace y0 : _ = some (Value.int .i64 U.kind) := y0
       replace y1 : _ = some (Value.string U.set) := y1
       replace y2 : _ = some (Value.bool U.neg) := y2
       replace y3 : _ = some (Value.int .i64 U.low) := y3
       replace y4 : _ = some (Value.int .i64 U.high) := y4
       replace y5 : _ = some (Value.slice ua U.kids.length uc) := y5
       refine bodyPost_ret (v := .tuple #[.agg #[.int .i64 U.kind, .string U.set, .bool U.neg, .int .i64 U.low, .int .i64 U.high, .slice ua U.kids.length uc], .bool true]) (by simp [results, Tryd.results50, go_sem, y0, y1, y2, y3, y4, y5]) rfl ?_
       refine ⟨PO.out, ?_⟩
       rw [HE.out, HRES.out]
       exact ⟨ua, uc, uF, rfl, PKU.out, HUL.out, HNU.out, PRd.out⟩
     case false =>
      have H123 := Lib.hid h123
      clear h123
      go_wp2_with fail
      refine (take_no B s j op 123 _ hs2 R.out H123.out).mono ?_
      rintro e w13 ⟨rfl, hn⟩
      have o := OnlyB.drewAll (B := B) hn
      have r := R.out.drewAll hn
      clear hn
      have O0 := Lib.hid (O0.out.trans o)
      have O := Lib.hid (O.out.trans o)
      have S2 := Lib.hid (S2.out.only o (by omega))
      have S4 := Lib.hid (S4.out.only o (by omega))
      have K := Lib.hid (K.out.only o HBF.out)
      have R := Lib.hid r
      clear o r
      have HE : Hid (((PR.item s f d i).bind fun x => PR.times s x.1 x.2) = some (T, j)) := Lib.hid (by rw [HIT.out, PR.times]; simp only [H42.out, H43.out, H63.out, H123.out, if_false, Bool.false_eq_true])
      obtain ⟨z0, z1, z2, z3, z4, z5, z6⟩ := S2.out.cells
      have z60 := z6 0
      have z61 := z6 1
      have z62 := z6 2
      have z63 := z6 3
      have z64 := z6 4
      have z65 := z6 5
      clear z6
      obtain ⟨k0, k1, k2, k3, k4, k5, k6⟩ := S4.out.cells
      have k60 := k6 0
      have k61 := k6 1
      have k62 := k6 2
      have k63 := k6 3
      have k64 := k6 4
      have k65 := k6 5
      clear k6
      have h6 : Lk (Six (put6 w13 w.heap.size (.int .i64 T.kind) (.string T.set) (.bool T.neg) (.int .i64 T.low) (.int .i64 T.high) (.slice ta T.kids.length tc)) w.heap.size T ta tc) := Lk.mk (S2.out.put T ta tc)
      have PO := Lk.mk (put6_only O.out w.heap.size (.int .i64 T.kind) (.string T.set) (.bool T.neg) (.int .i64 T.low) (.int .i64 T.high) (.slice ta T.kids.length tc) (by omega))
      have PRd := Lk.mk (R.out.put w.heap.size (by omega) (.int .i64 T.kind) (.string T.set) (.bool T.neg) (.int .i64 T.low) (.int .i64 T.high) (.slice ta T.kids.length tc))
      have PK := Lk.mk (K.out.put w.heap.size HGF.out (.int .i64 T.kind) (.string T.set) (.bool T.neg) (.int .i64 T.low) (.int .i64 T.high) (.slice ta T.kids.length tc))
      go_wp2_with fail
      change bodyPost _ _ _ _ _ (put6 w13 w.heap.size (.int .i64 T.kind) (.string T.set) (.bool T.neg) (.int .i64 T.low) (.int .i64 T.high) (.slice ta T.kids.length tc))
      generalize put6 w13 w.heap.size (.int .i64 T.kind) (.string T.set) (.bool T.neg) (.int .i64 T.low) (.int .i64 T.high) (.slice ta T.kids.length tc) = W at h6 PO PRd PK ⊢
      obtain ⟨y0, y1, y2, y3, y4, y5, _⟩ := h6.out.cells
      replace y0 : _ = some (Value.int .i64 T.kind) := y0
      replace y1 : _ = some (Value.string T.set) := y1
      replace y2 : _ = some (Value.bool T.neg) := y2
      replace y3 : _ = some (Value.int .i64 T.low) := y3
      replace y4 : _ = some (Value.int .i64 T.high) := y4
      replace y5 : _ = some (Value.slice ta T.kids.length tc) := y5
      refine bodyPost_ret (v := .tuple #[.agg #[.int .i64 T.kind, .string T.set, .bool T.neg, .int .i64 T.low, .int .i64 T.high, .slice ta T.kids.length tc], .bool true]) (by simp [results, Tryd.results50, go_sem, y0, y1, y2, y3, y4, y5]) rfl ?_
      refine ⟨PO.out, ?_⟩
      rw [HE.out]
      exact ⟨ta, tc, tF, rfl, PK.out, HLF.out, HNI.out, PRd.out⟩
end Go.Proofs.YtcpaneaiobnhdaaDoor.kit
