/-
  Rows of texts that a call made; a mark turns one row alone. Contracts of impl.copyFields, impl.copyRec, spec.l07Copy, impl.joinedSize over this seat's translation. Conditions: each theorem names its own.
-/
import Derived.Test.YtghmkfehohgmgaaFd4
import Derived.Laws.CopyOwn
import Derived.Deep.RegionLaw
namespace Go.Proofs.Ytghmkfehohgmgaa.kit
open Go.ChangeShapes Go.WideShapes Go.ChangeAt Go.RowKit
set_option linter.unusedVariables false

/-- Only block g has turned, and what is behind w's end. -/
def OnlyF (g : Nat) (w w' : World) : Prop := w.grownBy w' (some g)
theorem OnlyF.refl (g : Nat) (w : World) : OnlyF g w w := World.grownBy.refl w _
theorem OnlyF.trans {g : Nat} {x y z : World} (h : OnlyF g x y) (k : OnlyF g y z) : OnlyF g x z :=
  ⟨k.os.trans h.os, k.tape.trans h.tape, k.output.trans h.output, Nat.le_trans h.size k.size, fun j hj hn => (k.block j (Nat.lt_of_lt_of_le hj h.size) hn).trans (h.block j hj hn)⟩
theorem OnlyF.ofBelow {g : Nat} {w w' : World} (h : Below w.heap.size w w') : OnlyF g w w' := ⟨h.os, h.tape, h.output, h.size, fun j hj _ => h.block j hj⟩
theorem OnlyF.below {g : Nat} {w w' : World} (h : OnlyF g w w') (hg : g < w.heap.size) : Below g w w' :=
  Below.grown (Below.refl _ _) h (Nat.le_of_lt hg) (fun k e => by cases e; exact Nat.le_refl _)
theorem OnlyF.setCell {g : Nat} {w w' : World} (h : OnlyF g w w') (o : Nat) (v : Value) : OnlyF g w (w'.setCell ⟨g, o, none⟩ v) :=
  h.trans ⟨rfl, rfl, rfl, by simp, fun k _ hk => heap_setCell_other w' ⟨g, o, none⟩ k v (fun e => hk (by rw [e]))⟩
theorem SlF.only {B : Nat} {w w' : World} {a : Option Addr} {n : Nat} {f : Nat → List UInt8} {g : Nat} (h : SlF B w a n f) (hb : OnlyF g w w') (hg : ∀ b, a = some ⟨b, 0, none⟩ → b ≠ g) : SlF B w' a n f := by
  intro j hj
  obtain ⟨b, e, h1, h2, h3, h4⟩ := h j hj
  have hne : (some b : Option Nat) ≠ some g := fun x => hg b e (Option.some.inj x)
  have hk := hb.block b h2 (fun x => hne x)
  exact ⟨b, e, h1, Nat.lt_of_lt_of_le h2 hb.size, (World.cell?_of_block (a := ⟨b, j, none⟩) hk).trans h3, (World.frozen?_of_block (a := ⟨b, j, none⟩) hk).trans h4⟩
theorem Bx2.only {p : Nat} {s : ByteArray} {a : Option Addr} {n c : Nat} {w w' : World} {g : Nat} (h : Bx2 p s a n c w) (hb : OnlyF g w w') (hg : p ≠ g) : Bx2 p s a n c w' := by
  obtain ⟨⟨h0, h1⟩, q⟩ := h
  have hk := hb.block p q (fun x => hg (Option.some.inj x))
  have e : ∀ j, w'.cell? ⟨p, j, none⟩ = w.cell? ⟨p, j, none⟩ := fun j => World.cell?_of_block (a := ⟨p, j, none⟩) hk
  exact ⟨⟨(e _).trans h0, (e _).trans h1⟩, Nat.lt_of_lt_of_le q hb.size⟩
theorem OwnS.set {e : TypeId} {B : Nat} {w : World} {v : Value} {xs : List (List UInt8)} (h : OwnS e B w v xs) (g o : Nat) (hg : g < B) (y : Value) : OwnS e B (w.setCell ⟨g, o, none⟩ y) v xs := by
  refine World.ownsRow.kept h ((OnlyF.refl g w).setCell o y) ?_
  by_cases e : v.ownBlock = none
  · exact .inl e
  · right; intro k
    have := (World.ownsRow.lt h g k).1; omega
/-- A row that is known whole. -/
theorem slF_row {B g n : Nat} {w : World} {xs : List Value} {t : TypeId} {f : Nat → List UInt8} (hg : w.heap[g]? = some (.cells xs.toArray t (0, 0))) (hB : B ≤ g) (hx : ∀ j, j < n → xs[j]? = some (eS (f j))) : SlF B w (some ⟨g, 0, none⟩) n f := by
  intro j hj
  have hlt : g < w.heap.size := (Array.getElem?_eq_some_iff.1 hg).1
  refine ⟨g, rfl, hB, hlt, ?_, ?_⟩
  · have := hx j hj
    simp [World.cell?, hg]
    simpa using this
  · simp [World.frozen?, hg]
theorem hszS : (Try.prog.info? 9).map (·.size) = some 1 := by kernel_rfl
theorem made_replicate (n : Nat) : madeCells #[Value.string ⟨#[]⟩] n = (List.replicate n (eS [])).toArray := by
  apply Array.ext
  · simp [size_madeCells]
  · intro i h1 h2
    rw [madeF_at n i (by simpa [size_madeCells] using h1)]
    simp
theorem splice_get {α : Type} (L cs : List α) (j : Nat) (h : cs.length ≤ L.length) : (splice L 0 cs)[j]? = if j < cs.length then cs[j]? else L[j]? := by
  simp only [splice, List.take_zero, List.nil_append, Nat.zero_add]
  by_cases e : j < cs.length
  · rw [if_pos e, List.getElem?_append_left e]
  · rw [if_neg e, List.getElem?_append_right (by omega), List.getElem?_drop]
    congr 1; omega
set_option maxRecDepth 100000 in
set_option maxHeartbeats 400000 in
theorem copyFields_any (B : Nat) (a : Option Addr) (cap m n : Nat) (f : Nat → List UInt8) (w : World) (hn : n ≤ 1048576) (hm : m ≤ 2000000) (hl : Laid m cap a w) (hsl : SlF B w a m f) :
    Calls Try.prog 45 #[.slice a m cap, .int .i64 (n : Int)] w fun e w' => ∃ (a' : Option Addr) (c' : Nat), e = .returned (.slice a' n c') ∧ SlF w.heap.size w' a' n (fun j => if j < m then f j else []) ∧ Laid n c' a' w' ∧ Below w.heap.size w w' := by
  obtain ⟨hmc, ga, rfl, hga⟩ := hl
  have hmk := make_strs w n hn
  rw [made_replicate] at hmk
  have HG := Lib.hid (show (w.alloc (.cells (List.replicate n (eS [])).toArray 9)).heap[w.heap.size]? = some (.cells (List.replicate n (eS [])).toArray 9 (0, 0)) from heap_alloc_new w _)
  have HB := Lib.hid (show ∀ o1, Below w.heap.size w (w.alloc o1) from fun o1 => (Below.refl w.heap.size w).alloc (Nat.le_refl _) _)
  obtain ⟨cs, hcs⟩ : ∃ cs : List Value, cs = (List.range (Nat.min m n)).map fun j => eS (f j) := ⟨_, rfl⟩
  have hlen : cs.length = Nat.min m n := by rw [hcs]; simp
  have HSRC := Lib.hid (show ∀ o1 j v, cs[j]? = some v → (w.alloc o1).cell? ((⟨ga, 0, none⟩ : Addr).add j) = some v from fun o1 j v hv => by
    rw [hcs] at hv
    have hj : j < Nat.min m n := by have := (List.getElem?_eq_some_iff.1 hv).1; simpa using this
    obtain ⟨g', e, _, h2, h3, _⟩ := hsl j (Nat.lt_of_lt_of_le hj (Nat.min_le_left _ _))
    cases e
    rw [add_atF, Nat.zero_add, (HB.out o1).cell (p := ⟨ga, j, none⟩) h2, h3, ← hv]
    simp [hj])
  have H1 := Lib.hid (show ∀ v ∈ cs, v.oneCell' = true from fun v hv => by
    rw [hcs] at hv; simp only [List.mem_map] at hv; obtain ⟨j, _, rfl⟩ := hv; rfl)
  have HR := Lib.hid (show ∀ W : World, W.heap[w.heap.size]? = some (.cells (splice (List.replicate n (eS [])) 0 cs).toArray 9 (0, 0)) → SlF w.heap.size W (some ⟨w.heap.size, 0, none⟩) n (fun j => if j < m then f j else []) from fun W hW => slF_row hW (Nat.le_refl _) (fun j hj => by
    rw [splice_get _ _ _ (by rw [hlen, List.length_replicate]; exact Nat.min_le_right _ _), hlen]
    by_cases e : j < m
    · rw [if_pos (Nat.lt_min.2 ⟨e, hj⟩), hcs]
      have : j < Nat.min m n := Nat.lt_min.2 ⟨e, hj⟩
      simp [this, e]
    · rw [if_neg (fun x => e (Nat.lt_of_lt_of_le x (Nat.min_le_left m n))), if_neg e]
      simp [hj]))
  have HL := Lib.hid hlen
  have HFIT := Lib.hid (show 0 + cs.length ≤ (List.replicate n (eS [])).length by rw [hlen, List.length_replicate, Nat.zero_add]; exact Nat.min_le_right m n)
  clear hcs hlen hsl
  generalize hrep : List.replicate n (eS []) = rep at *
  clear hrep
  go_enter Try.func45, Try.ntmps45
  go_wp2_with (with_reducible refine wpList_copy_splice rfl (.tmp 8) (.tmp 9) 28 28 rfl 9 Try.underlying28 hszS (some ⟨w.heap.size, 0, none⟩) (some ⟨ga, 0, none⟩) n n m cap (by simp [Act.eval]) (by simp [Act.eval]) w.heap.size 0 rep 9 HG.out cs HL.out (fun _ => ⟨rfl, _, rfl, HSRC.out _⟩) HFIT.out H1.out w.heap.size w (HB.out _) (Nat.le_refl _) ?_; intro w2 hg2 hb2)
  go_ret
  exact ⟨_, _, rfl, HR.out _ hg2.out, ⟨Nat.le_refl _, _, rfl, (Array.getElem?_eq_some_iff.1 hg2.out).1⟩, hb2⟩
set_option maxHeartbeats 400000 in
theorem markOnly_any (B g : Nat) (cap n m : Nat) (f : Nat → List UInt8) (w : World) (hn : n ≤ 2000000) (hm0 : 0 < m) (hm : m ≤ 10000000) (hsl : SlF B w (some ⟨g, 0, none⟩) n f) :
    Calls Try.prog 47 #[.slice (some ⟨g, 0, none⟩) n cap, .int .i64 (m : Int)] w fun e w' => e = .returned (.int .i64 ((m : Int) + n)) ∧ SlF B w' (some ⟨g, 0, none⟩) n (fun j => mt (m + j)) ∧ OnlyF g w w' := by
  have HS := Lib.hid hsl; clear hsl
  go_enter Try.func47, Try.ntmps47
  go_wp2
  go_loopw [1, 5] (fun q i wr => ∃ k : Nat, k ≤ n ∧ i = .int .i64 (k : Int) ∧ q = .int .i64 ((m : Int) + k) ∧ SlF B wr (some ⟨g, 0, none⟩) n (fun j => if j < k then mt (m + j) else f j) ∧ OnlyF g w wr) (fun _ i _ => n - (intOf i).toNat)
  case atStart => exact ⟨0, Nat.zero_le _, rfl, by go_num, by simpa using HS.out, OnlyF.refl _ _⟩
  case round =>
    obtain ⟨k, hk, rfl, rfl, hsl, hbel⟩ := hrel
    have HB := Lib.hid hbel
    have HL := Lib.hid hsl
    clear hsl hbel
    by_cases hlt : k < n
    · obtain ⟨g', hg0, hg1, hg2, hg3, hg4⟩ := HL.out k hlt
      cases hg0
      have HM := Lib.hid (fun W => markText_any (m + k) W (by omega) (by omega))
      rw [show ((m + k : Nat) : Int) = (m : Int) + k by omega] at HM
      have HG := Lib.hid hg3
      have HG4 := Lib.hid hg4
      clear hg3 hg4
      go_wp2_with fail
      refine (HM.out _).mono ?_
      rintro e w1 ⟨rfl, hb1⟩
      have hc1 : w1.cell? ⟨g, k, none⟩ = some (eS (if k < k then mt (m + k) else f k)) := (hb1.cell (p := ⟨g, k, none⟩) hg2).trans HG.out
      have hf1 : w1.frozen? ⟨g, k, none⟩ = false := (hb1.frozen (p := ⟨g, k, none⟩) hg2).trans HG4.out
      have HN := Lib.hid ((HL.out.kept hb1).store k hlt (mt (m + k)))
      have HB1 := Lib.hid (HB.out.trans (OnlyF.ofBelow hb1))
      clear hb1
      unfold eS at hc1 ⊢
      generalize (if k < k then mt (m + k) else f k) = y at hc1
      generalize hx : mt (m + k) = x at HN ⊢
      have HX := Lib.hid hx
      clear hx
      go_wp2
      go_roundw
      case rel => exact ⟨k + 1, by omega, by go_num, by go_num, (HN.out.congr (fun j hj => by
          by_cases e : j = k
          · subst e; simp; exact HX.out.symm
          · by_cases e2 : j < k
            · simp [e, e2, show j < k + 1 by omega]
            · simp [e, e2, show ¬ j < k + 1 by omega])), HB1.out.setCell _ _⟩
      case measure => simp [intOf]; omega
    · go_wp2
      go_ret
      obtain rfl : k = n := by omega
      exact ⟨rfl, HL.out.congr (fun j hj => by simp [hj]), HB.out⟩
set_option maxRecDepth 100000 in
theorem markRecOnly_any (B g : Nat) (l : List UInt8) (cap n m : Nat) (f : Nat → List UInt8) (w : World) (hn : n ≤ 2000000) (hm0 : 0 < m) (hm : m ≤ 10000000) (hsl : SlF B w (some ⟨g, 0, none⟩) n f) :
    Calls Try.prog 28 #[recV l (some ⟨g, 0, none⟩) n cap, .int .i64 (m : Int)] w fun e w' => e = .returned (.int .i64 ((m : Int) + n)) ∧ SlF B w' (some ⟨g, 0, none⟩) n (fun j => mt (m + j)) ∧ OnlyF g w w' := by
  unfold recV eS
  have HB := Lib.hid (show ∀ o1, Below w.heap.size w (w.alloc o1) from fun o1 => (Below.refl w.heap.size w).alloc (Nat.le_refl _) _)
  have HE := Lib.hid (fun (W : World) (hb : Below w.heap.size w W) => markOnly_any B g cap n m f W hn hm0 hm (hsl.kept hb))
  clear hsl
  generalize (⟨l.toArray⟩ : ByteArray) = s
  go_enter Try.func28, Try.ntmps28
  go_wp2_with fail
  refine (HE.out _ (HB.out _)).mono ?_
  rintro e w1 ⟨rfl, hs1, hb1⟩
  have HS := Lib.hid hs1
  go_wp2_with fail
  go_ret
  exact ⟨rfl, HS.out, (OnlyF.ofBelow (HB.out _)).trans hb1⟩
set_option maxRecDepth 100000 in
set_option maxHeartbeats 400000 in
theorem joinedSize_any (B : Nat) (a : Option Addr) (cap n : Nat) (f : Nat → List UInt8) (o : List UInt8) (w : World) (hn : n ≤ 2000000) (hj : (joinF n f o).length ≤ 140737488355328) (hsl : SlF B w a n f) :
    Calls Try.prog 57 #[.slice a n cap, eS o] w fun e w' => e = .returned (.int .i64 ((joinF n f o).length : Int)) ∧ Below w.heap.size w w' := by
  have HS := Lib.hid (fun (W : World) (hb : Below w.heap.size w W) => hsl.kept hb)
  have hjl := joinF_length n f o
  have HJ := Lib.hid hjl
  have hsz := size_text o
  have hm0 : max (0 : Int) ((n : Int) - 1) = ((n - 1 : Nat) : Int) := by omega
  obtain ⟨h1, h2, h3⟩ : (0 : Int) ≤ (o.length : Int) * ((n - 1 : Nat) : Int) ∧ (o.length : Int) * ((n - 1 : Nat) : Int) + (lensF n f : Int) = ((joinF n f o).length : Int) ∧ ((joinF n f o).length : Int) ≤ 140737488355328 :=
    ⟨Int.mul_nonneg (by omega) (by omega), by rw [hjl]; simp, by omega⟩
  have HL := Lib.hid (fun k h => lensF_le n k f h)
  have HLS := Lib.hid (fun k => lensF_succ k f)
  clear hsl hj hjl HJ
  rw [← hsz] at h1 h2
  unfold eS
  generalize (⟨o.toArray⟩ : ByteArray) = s at *
  have hw : wrap64 ((s.size : Int) * ((n - 1 : Nat) : Int)) = (s.size : Int) * ((n - 1 : Nat) : Int) := by
    generalize (s.size : Int) * ((n - 1 : Nat) : Int) = M at *
    unfold wrap64; omega
  obtain ⟨M, hM⟩ : ∃ M, M = (s.size : Int) * ((n - 1 : Nat) : Int) := ⟨_, rfl⟩
  rw [← hM] at h1 h2
  have hw := hw.trans hM.symm
  clear hM hsz
  generalize hJ : ((joinF n f o).length : Int) = J at *
  clear hJ
  go_enter Try.func57, Try.ntmps57
  go_wp2_with fail
  go_loopw [5, 17] (fun q i wr => ∃ k : Nat, k ≤ n ∧ i = .int .i64 (k : Int) ∧ q = .int .i64 (M + (lensF k f : Int)) ∧ Below w.heap.size w wr) (fun _ i _ => n - (intOf i).toNat)
  case atStart => exact ⟨0, Nat.zero_le _, rfl, by rw [lensF_zero]; go_num, Below.refl _ _⟩
  case round =>
    obtain ⟨k, hk, rfl, rfl, hbel⟩ := hrel
    have HB := Lib.hid hbel
    clear hbel
    by_cases hlt : k < n
    · obtain ⟨g, rfl, hg1, hg2, hg3, hg4⟩ := (HS.out _ HB.out) k hlt
      have hsu := HLS.out k
      have hle := HL.out (k + 1) hlt
      have hsz := size_text (f k)
      rw [hsu, ← hsz] at hle
      unfold eS at hg3
      rw [← hsz] at hsu
      generalize (⟨(f k).toArray⟩ : ByteArray) = y at hg3 hle hsu
      have HSU := Lib.hid hsu
      have hbd : M + (lensF k f : Int) + (y.size : Int) ≤ 140737488355328 := by omega
      clear hsu hsz hg1 hg4 hle
      generalize hq : lensF k f = q at *
      have HQ := Lib.hid hq
      clear hq
      go_wp2_with fail
      go_roundw
      case rel => exact ⟨k + 1, by omega, by go_num, by rw [HSU.out]; go_num, HB.out⟩
      case measure => simp [intOf]; omega
    · obtain rfl : k = n := by omega
      have H2 := Lib.hid h2
      go_wp2_with fail
      go_ret
      exact ⟨ret_int H2.out, HB.out⟩
end Go.Proofs.Ytghmkfehohgmgaa.kit
