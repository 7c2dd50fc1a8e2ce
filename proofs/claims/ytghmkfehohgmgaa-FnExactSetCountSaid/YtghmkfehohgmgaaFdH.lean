/-
  Contract of impl.SetCount over this seat's translation. Conditions: each theorem names its own.
-/
import Derived.Test.YtghmkfehohgmgaaFdG
namespace Go.Proofs.Ytghmkfehohgmgaa.kit
open Go.ChangeShapes Go.WideShapes Go.ChangeAt Go.RowKit
set_option linter.unusedVariables false

set_option maxRecDepth 100000 in
set_option maxHeartbeats 1000000 in
theorem implCount_no (B : Nat) (l : List UInt8) (a : Option Addr) (cap m : Nat) (f : Nat → List UInt8) (i : Int) (o : List UInt8) (w : World) (hn : m ≤ 1048576) (hc : i < 0 ∨ 60 < i) (hl : Laid m cap a w) (hsl : SlF B w a m f) :
    Calls Try.prog 31 #[recV l a m cap, .int .i64 i, eS o] w (RecPostL l m f false w) := by
  have HC := Lib.hid (fun (W : World) (hb : Below w.heap.size w W) => copyRec_any B l a cap m f W hn (hl.kept hb.size) (hsl.kept hb))
  clear hsl hl
  unfold RecPostL
  unfold recV eS at *
  generalize (⟨l.toArray⟩ : ByteArray) = l at *
  generalize (⟨o.toArray⟩ : ByteArray) = o at *
  have HQ := Lib.hid (Wb.new (w.alloc (.cells #[.string l, .slice a m cap] 33)) (.string ⟨#[]⟩) (.slice none 0 0) 33)
  have HB := Lib.hid (show ∀ o1 o2, Below w.heap.size w ((w.alloc o1).alloc o2) from fun o1 o2 => (((Below.refl w.heap.size w).alloc (Nat.le_refl _) _).alloc (by simp) _))
  simp only [World.size_alloc] at HQ
  by_cases c : i < 0
  · clear hc
    go_enter Try.func31, Try.ntmps31
    go_wp2_with fail
    refine (HC.out _ (HB.out _ _)).mono ?_
    rintro e w2 ⟨a2, c2, rfl, s2, l2, b2⟩
    have Q2 := Lib.hid (HQ.out.step b2)
    have B2 := Lib.hid ((HB.out _ _).trans (b2.mono (HB.out _ _).size))
    have S2 := Lib.hid (s2.set2 (w.heap.size + 1) (by simp) (.string l) (.slice a2 m c2))
    have L2 := Lib.hid l2
    clear b2 s2 l2
    obtain ⟨c0, c1, f0, f1, lt2⟩ := Q2.out
    go_wp2_with fail
    have Q3 := (Q2.out.put0 (.string l)).put1 (.slice a2 m c2)
    obtain ⟨z0, z1, _, _, _⟩ := Q3
    exact bodyPost_ret (v := .tuple #[.agg #[.string l, .slice a2 m c2], .bool false]) (by simp [results, Try.results31, go_sem, z0, z1]) rfl ⟨a2, c2, rfl, S2.out.mono (by simp; omega), L2.out.kept (by simp), put2_below B2.out (by omega) _ _⟩
  · have c6 : (60 : Int) < i := by omega
    clear hc
    go_enter Try.func31, Try.ntmps31
    go_wp2_with fail
    refine (HC.out _ (HB.out _ _)).mono ?_
    rintro e w2 ⟨a2, c2, rfl, s2, l2, b2⟩
    have Q2 := Lib.hid (HQ.out.step b2)
    have B2 := Lib.hid ((HB.out _ _).trans (b2.mono (HB.out _ _).size))
    have S2 := Lib.hid (s2.set2 (w.heap.size + 1) (by simp) (.string l) (.slice a2 m c2))
    have L2 := Lib.hid l2
    clear b2 s2 l2
    obtain ⟨c0, c1, f0, f1, lt2⟩ := Q2.out
    go_wp2_with fail
    have Q3 := (Q2.out.put0 (.string l)).put1 (.slice a2 m c2)
    obtain ⟨z0, z1, _, _, _⟩ := Q3
    exact bodyPost_ret (v := .tuple #[.agg #[.string l, .slice a2 m c2], .bool false]) (by simp [results, Try.results31, go_sem, z0, z1]) rfl ⟨a2, c2, rfl, S2.out.mono (by simp; omega), L2.out.kept (by simp), put2_below B2.out (by omega) _ _⟩
set_option maxRecDepth 100000 in
set_option maxHeartbeats 1000000 in
theorem implCount_good (B : Nat) (l : List UInt8) (a : Option Addr) (cap m : Nat) (f : Nat → List UInt8) (N : Nat) (o : List UInt8) (w : World) (hm : m ≤ 1048576) (h60 : N ≤ 60) (hgood : (joinF N (grF m f) o).length ≤ 2000) (hl : Laid m cap a w) (hsl : SlF B w a m f) :
    Calls Try.prog 31 #[recV l a m cap, .int .i64 (N : Int), eS o] w (RecPostL (joinF N (grF m f) o) N (grF m f) true w) := by
  have HC := Lib.hid (fun (W : World) (hb : Below w.heap.size w W) => copyFields_any B a cap m N f W (by omega) (by omega) (hl.kept hb.size) (hsl.kept hb))
  have HSL := Lib.hid (fun (W : World) (hb : Below w.heap.size w W) => hsl.kept hb)
  have h1 : ¬ (N : Int) < 0 := by omega
  have h2 : ¬ (60 : Int) < (N : Int) := by omega
  have HJ := Lib.hid (fun (W : World) (fa : Option Addr) (fc : Nat) (D : Nat) (h1 : Laid N fc fa W) (h2 : SlF D W fa N (grF m f)) => joinRec_good D l a cap m fa fc N (grF m f) o W (by omega) hgood h1 h2)
  clear hsl hl hgood
  unfold RecPostL
  have hgr : (fun j => if j < m then f j else []) = grF m f := rfl
  rw [hgr] at HC
  clear hgr
  generalize grF m f = F at *
  generalize joinF N F o = J at *
  unfold recV eS at *
  generalize (⟨l.toArray⟩ : ByteArray) = lb at *
  generalize (⟨o.toArray⟩ : ByteArray) = ob at *
  generalize (⟨J.toArray⟩ : ByteArray) = Jb at *
  have HT := Lib.hid (TwoE.drew (TwoE.start (s := lb) (a := a) (n := m) (c := cap) w 33 33 (.string ⟨#[]⟩) (.slice none 0 0)))
  go_enter Try.func31, Try.ntmps31
  go_wp2_with fail
  go_region_held3 (fun w' => (w'.cell? ⟨w.heap.size, 0, none⟩ = some (.string lb) ∧ w'.cell? ⟨w.heap.size, 1, none⟩ = some (.slice a m cap)) ∧ (w'.cell? ⟨w.heap.size + 1, 0, none⟩ = some (cellOr w' (w.heap.size + 1) 0) ∧ w'.cell? ⟨w.heap.size + 1, 1, none⟩ = some (cellOr w' (w.heap.size + 1) 1)) ∧ (w'.frozen? ⟨w.heap.size + 1, 0, none⟩ = false ∧ w'.frozen? ⟨w.heap.size + 1, 1, none⟩ = false) ∧ (w.heap.size < w'.heap.size ∧ w.heap.size + 1 < w'.heap.size) ∧ Below w.heap.size w w') (first | exact HT.out | exact TwoE.step (p := w.heap.size) (q := w.heap.size + 1) (s := lb) (a := a) (n := m) (c := cap) (by assumption) (by assumption) | exact TwoE.put (TwoE.put (p := w.heap.size) (q := w.heap.size + 1) (s := lb) (a := a) (n := m) (c := cap) (by assumption) (by omega) (by omega) _ _) (by omega) (by omega) _ _) (first | (go_at_call 45; refine (HC.out _ (TwoE.b (p := w.heap.size) (q := w.heap.size + 1) (s := lb) (a := a) (n := m) (c := cap) (by assumption))).mono ?_; rintro e w6 ⟨a6, c6, rfl, hk6, hc6, b6⟩) | (go_at_call 46; refine (HJ.out _ a6 c6 _ (by assumption) (by assumption)).mono ?_; rintro e w7 ⟨rfl, b7⟩))
  have h7 := (HT.out.step b6).step b7
  obtain ⟨hx, ⟨y0, y1⟩, hf, ⟨hl0, hl1⟩, hb⟩ := h7
  obtain ⟨z0, z1⟩ := two_put y0 y1 (.string Jb) (.slice a6 N c6)
  have HF := Lib.hid (((hk6.kept b7).set2 (w.heap.size + 1) (by simp) (.string Jb) (.slice a6 N c6)).mono (B' := w.heap.size) (by simp; omega))
  have HL := Lib.hid ((hc6.kept b7.size).kept (w' := (w7.setCell ⟨w.heap.size + 1, 0, none⟩ (.string Jb)).setCell ⟨w.heap.size + 1, 1, none⟩ (.slice a6 N c6)) (by simp))
  have HW := Lib.hid (put2_below hb (q := w.heap.size + 1) (by omega) (.string Jb) (.slice a6 N c6))
  generalize (w7.setCell ⟨w.heap.size + 1, 0, none⟩ (.string Jb)).setCell ⟨w.heap.size + 1, 1, none⟩ (.slice a6 N c6) = W at *
  clear hx y0 y1 hf hl0 hl1 hb hk6 hc6 b6 b7
  go_wp2_with fail
  exact bodyPost_ret (v := .tuple #[.agg #[.string Jb, .slice a6 N c6], .bool true]) (by simp [results, Try.results31, go_sem, z0, z1]) rfl ⟨_, _, rfl, HF.out, HL.out, HW.out⟩
set_option maxRecDepth 100000 in
set_option maxHeartbeats 1000000 in
theorem implCount_bad (B : Nat) (l : List UInt8) (a : Option Addr) (cap m : Nat) (f : Nat → List UInt8) (N : Nat) (o : List UInt8) (w : World) (hm : m ≤ 1048576) (h60 : N ≤ 60) (hbad : 2000 < (joinF N (grF m f) o).length) (hj : (joinF N (grF m f) o).length ≤ 140737488355328) (hl : Laid m cap a w) (hsl : SlF B w a m f) :
    Calls Try.prog 31 #[recV l a m cap, .int .i64 (N : Int), eS o] w (RecPostL l m f false w) := by
  have HC := Lib.hid (fun (W : World) (hb : Below w.heap.size w W) => copyFields_any B a cap m N f W (by omega) (by omega) (hl.kept hb.size) (hsl.kept hb))
  have HSL := Lib.hid (fun (W : World) (hb : Below w.heap.size w W) => hsl.kept hb)
  have h1 : ¬ (N : Int) < 0 := by omega
  have h2 : ¬ (60 : Int) < (N : Int) := by omega
  have HJ := Lib.hid (fun (W : World) (fa : Option Addr) (fc : Nat) (D : Nat) (hb : Below w.heap.size w W) (h2 : SlF D W fa N (grF m f)) => joinRec_bad D B l a cap m f fa fc N (grF m f) o W (by omega) hm hbad hj (hl.kept hb.size) (hsl.kept hb) h2)
  clear hsl hl hbad hj
  unfold RecPostL
  have hgr : (fun j => if j < m then f j else []) = grF m f := rfl
  rw [hgr] at HC
  clear hgr
  generalize grF m f = F at *
  unfold recV eS at *
  generalize (⟨l.toArray⟩ : ByteArray) = lb at *
  generalize (⟨o.toArray⟩ : ByteArray) = ob at *
  have HT := Lib.hid (TwoE.drew (TwoE.start (s := lb) (a := a) (n := m) (c := cap) w 33 33 (.string ⟨#[]⟩) (.slice none 0 0)))
  go_enter Try.func31, Try.ntmps31
  go_wp2_with fail
  go_region_held3 (fun w' => (w'.cell? ⟨w.heap.size, 0, none⟩ = some (.string lb) ∧ w'.cell? ⟨w.heap.size, 1, none⟩ = some (.slice a m cap)) ∧ (w'.cell? ⟨w.heap.size + 1, 0, none⟩ = some (cellOr w' (w.heap.size + 1) 0) ∧ w'.cell? ⟨w.heap.size + 1, 1, none⟩ = some (cellOr w' (w.heap.size + 1) 1)) ∧ (w'.frozen? ⟨w.heap.size + 1, 0, none⟩ = false ∧ w'.frozen? ⟨w.heap.size + 1, 1, none⟩ = false) ∧ (w.heap.size < w'.heap.size ∧ w.heap.size + 1 < w'.heap.size) ∧ Below w.heap.size w w') (first | exact HT.out | exact TwoE.step (p := w.heap.size) (q := w.heap.size + 1) (s := lb) (a := a) (n := m) (c := cap) (by assumption) (by assumption) | exact TwoE.put (TwoE.put (p := w.heap.size) (q := w.heap.size + 1) (s := lb) (a := a) (n := m) (c := cap) (by assumption) (by omega) (by omega) _ _) (by omega) (by omega) _ _) (first | (go_at_call 45; refine (HC.out _ (TwoE.b (p := w.heap.size) (q := w.heap.size + 1) (s := lb) (a := a) (n := m) (c := cap) (by assumption))).mono ?_; rintro e w6 ⟨a6, c6, rfl, hk6, hc6, b6⟩) | (go_at_call 46; refine (HJ.out _ a6 c6 _ (TwoE.b (p := w.heap.size) (q := w.heap.size + 1) (s := lb) (a := a) (n := m) (c := cap) (by assumption)) (by assumption)).mono ?_; rintro e w7 ⟨a7, c7, rfl, s7, l7, b7⟩))
  have h7 := (HT.out.step b6).step b7
  obtain ⟨hx, ⟨y0, y1⟩, hf, ⟨hl0, hl1⟩, hb⟩ := h7
  obtain ⟨z0, z1⟩ := two_put y0 y1 (.string lb) (.slice a7 m c7)
  have HF := Lib.hid ((s7.set2 (w.heap.size + 1) (by have := b6.size; simp at this; omega) (.string lb) (.slice a7 m c7)).mono (B' := w.heap.size) (by have := b6.size; simp at this; omega))
  have HL := Lib.hid (l7.kept (w' := (w7.setCell ⟨w.heap.size + 1, 0, none⟩ (.string lb)).setCell ⟨w.heap.size + 1, 1, none⟩ (.slice a7 m c7)) (by simp))
  have HW := Lib.hid (put2_below hb (q := w.heap.size + 1) (by omega) (.string lb) (.slice a7 m c7))
  generalize (w7.setCell ⟨w.heap.size + 1, 0, none⟩ (.string lb)).setCell ⟨w.heap.size + 1, 1, none⟩ (.slice a7 m c7) = W at *
  clear hx y0 y1 hf hl0 hl1 hb hk6 hc6 b6 b7 s7 l7
  go_wp2_with fail
  exact bodyPost_ret (v := .tuple #[.agg #[.string lb, .slice a7 m c7], .bool false]) (by simp [results, Try.results31, go_sem, z0, z1]) rfl ⟨_, _, rfl, HF.out, HL.out, HW.out⟩
end Go.Proofs.Ytghmkfehohgmgaa.kit
