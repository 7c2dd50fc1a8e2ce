/-
  Contracts of impl.joinRec, spec.l07Made over this seat's translation: a record that was made, where it is right, else the old one. Conditions: each theorem names its own.
-/
import Derived.Test.YtghmkfehohgmgaaFd7
namespace Go.Proofs.Ytghmkfehohgmgaa.kit
open Go.ChangeShapes Go.WideShapes Go.ChangeAt Go.RowKit
set_option linter.unusedVariables false

/-- A box of two cells that may be written. -/
structure Wb (q : Nat) (x y : Value) (w : World) : Prop where
  c0 : w.cell? ⟨q, 0, none⟩ = some x
  c1 : w.cell? ⟨q, 1, none⟩ = some y
  f0 : w.frozen? ⟨q, 0, none⟩ = false
  f1 : w.frozen? ⟨q, 1, none⟩ = false
  lt : q < w.heap.size
theorem Wb.new (w : World) (x y : Value) (T : TypeId) : Wb w.heap.size x y (w.alloc (.cells #[x, y] T)) := by
  have hw := heap_alloc_new w (.cells #[x, y] T)
  refine ⟨?_, ?_, ?_, ?_, by simp⟩
  · simp only [World.cell?, hw]; rfl
  · simp only [World.cell?, hw]; rfl
  · simp only [World.frozen?, hw]; rfl
  · simp only [World.frozen?, hw]; rfl
theorem Wb.step {q : Nat} {x y : Value} {w w' : World} (h : Wb q x y w) (hb : Below w.heap.size w w') : Wb q x y w' :=
  ⟨(hb.cell (p := ⟨q, 0, none⟩) h.lt).trans h.c0, (hb.cell (p := ⟨q, 1, none⟩) h.lt).trans h.c1, (hb.frozen (p := ⟨q, 0, none⟩) h.lt).trans h.f0, (hb.frozen (p := ⟨q, 1, none⟩) h.lt).trans h.f1, Nat.lt_of_lt_of_le h.lt hb.size⟩
theorem Wb.far {q C : Nat} {x y : Value} {w w' : World} (h : Wb q x y w) (hq : q < C) (hb : Below C w w') : Wb q x y w' :=
  ⟨(hb.cell (p := ⟨q, 0, none⟩) hq).trans h.c0, (hb.cell (p := ⟨q, 1, none⟩) hq).trans h.c1, (hb.frozen (p := ⟨q, 0, none⟩) hq).trans h.f0, (hb.frozen (p := ⟨q, 1, none⟩) hq).trans h.f1, Nat.lt_of_lt_of_le h.lt hb.size⟩
theorem Wb.alloc {q : Nat} {x y : Value} {w : World} (h : Wb q x y w) (o : Obj) : Wb q x y (w.alloc o) := h.step ((Below.refl _ _).alloc (Nat.le_refl _) _)
theorem Wb.off {q : Nat} {x y : Value} {w : World} (h : Wb q x y w) (g o : Nat) (hg : q ≠ g) (v : Value) : Wb q x y (w.setCell ⟨g, o, none⟩ v) :=
  ⟨(World.cell?_setCell_other w _ _ _ (by intro y; injection y; omega)).trans h.c0, (World.cell?_setCell_other w _ _ _ (by intro y; injection y; omega)).trans h.c1, by rw [World.frozen?_setCell]; exact h.f0, by rw [World.frozen?_setCell]; exact h.f1, by simpa using h.lt⟩
theorem Wb.put0 {q : Nat} {x y : Value} {w : World} (h : Wb q x y w) (v : Value) : Wb q v y (w.setCell ⟨q, 0, none⟩ v) :=
  ⟨World.cell?_setCell_same w _ _ h.c0, (World.cell?_setCell_other w _ _ _ (by intro y; injection y; omega)).trans h.c1, by rw [World.frozen?_setCell]; exact h.f0, by rw [World.frozen?_setCell]; exact h.f1, by simpa using h.lt⟩
theorem Wb.put1 {q : Nat} {x y : Value} {w : World} (h : Wb q x y w) (v : Value) : Wb q x v (w.setCell ⟨q, 1, none⟩ v) :=
  ⟨(World.cell?_setCell_other w _ _ _ (by intro y; injection y; omega)).trans h.c0, World.cell?_setCell_same w _ _ h.c1, by rw [World.frozen?_setCell]; exact h.f0, by rw [World.frozen?_setCell]; exact h.f1, by simpa using h.lt⟩
theorem put2_below {B q : Nat} {w w' : World} (h : Below B w w') (hB : B ≤ q) (x y : Value) : Below B w ((w'.setCell ⟨q, 0, none⟩ x).setCell ⟨q, 1, none⟩ y) :=
  (h.setCell (p := ⟨q, 0, none⟩) hB _).setCell (p := ⟨q, 1, none⟩) hB _
theorem SlF.set2 {B : Nat} {w : World} {a : Option Addr} {n : Nat} {f : Nat → List UInt8} (h : SlF B w a n f) (g : Nat) (hg : g < B) (x y : Value) : SlF B ((w.setCell ⟨g, 0, none⟩ x).setCell ⟨g, 1, none⟩ y) a n f := (h.set g 0 hg x).set g 1 hg y
/-- A row that lies below a block is kept by stores from there on. -/
theorem SlF.low {B C : Nat} {w w' : World} {a : Option Addr} {n : Nat} {f : Nat → List UInt8} (h : SlF B w a n f) (hl : ∀ g, a = some ⟨g, 0, none⟩ → g < C) (hb : Below C w w') : SlF B w' a n f := by
  intro j hj
  obtain ⟨b, e, h1, h2, h3, h4⟩ := h j hj
  exact ⟨b, e, h1, Nat.lt_of_lt_of_le h2 hb.size, (hb.cell (p := ⟨b, j, none⟩) (hl b e)).trans h3, (hb.frozen (p := ⟨b, j, none⟩) (hl b e)).trans h4⟩
set_option maxRecDepth 100000 in
set_option maxHeartbeats 1000000 in
theorem joinRec_good (B : Nat) (l : List UInt8) (a : Option Addr) (cap m : Nat) (fa : Option Addr) (fc n : Nat) (f : Nat → List UInt8) (o : List UInt8) (w : World) (hn : n ≤ 2000000) (hj : (joinF n f o).length ≤ 2000) (hl : Laid n fc fa w) (hsl : SlF B w fa n f) :
    Calls Try.prog 46 #[recV l a m cap, .slice fa n fc, eS o] w fun e w' => e = .returned (.tuple #[recV (joinF n f o) fa n fc, .bool true]) ∧ Below w.heap.size w w' := by
  have HJ := Lib.hid (fun (W : World) (hb : Below w.heap.size w W) => joinedSize_any B fa fc n f o W hn (by omega) (hsl.kept hb))
  have HL := Lib.hid (fun (W : World) (hb : Below w.heap.size w W) => implJoin_any B fa fc n f o W hn (by omega) (hl.kept hb.size) (hsl.kept hb))
  have hJ : ¬ (2000 : Int) < ((joinF n f o).length : Int) := by omega
  clear hsl hl hj
  unfold recV
  generalize joinF n f o = j at *
  generalize ((j.length : Nat) : Int) = J at *
  unfold eS at *
  generalize (⟨l.toArray⟩ : ByteArray) = s at *
  generalize (⟨j.toArray⟩ : ByteArray) = j at *
  generalize (⟨o.toArray⟩ : ByteArray) = o at *
  have HQ := Lib.hid (Wb.new (w.alloc (.cells #[.string s, .slice a m cap] 33)) (.string ⟨#[]⟩) (.slice none 0 0) 33)
  have HB := Lib.hid (show ∀ o1 o2, Below w.heap.size w ((w.alloc o1).alloc o2) from fun o1 o2 => (((Below.refl w.heap.size w).alloc (Nat.le_refl _) _).alloc (by simp) _))
  simp only [World.size_alloc] at HQ
  go_enter Try.func46, Try.ntmps46
  go_wp2_with fail
  refine (HJ.out _ (HB.out _ _)).mono ?_
  rintro e w1 ⟨rfl, b1⟩
  have Q1 := Lib.hid (HQ.out.step b1)
  have B1 := Lib.hid ((HB.out _ _).trans (b1.mono (HB.out _ _).size))
  clear b1
  go_wp2_with fail
  refine (HL.out _ B1.out).mono ?_
  rintro e w2 ⟨rfl, b2⟩
  have Q2 := Lib.hid (Q1.out.step b2)
  have B2 := Lib.hid (B1.out.trans (b2.mono B1.out.size))
  clear b2
  obtain ⟨c0, c1, f0, f1, lt⟩ := Q2.out
  go_wp2_with fail
  have Q3 := (Q2.out.put0 (.string j)).put1 (.slice fa n fc)
  obtain ⟨z0, z1, _, _, _⟩ := Q3
  exact bodyPost_ret (v := .tuple #[.agg #[.string j, .slice fa n fc], .bool true]) (by simp [results, Try.results46, go_sem, z0, z1]) rfl ⟨rfl, put2_below B2.out (by omega) _ _⟩
set_option maxRecDepth 100000 in
set_option maxHeartbeats 1000000 in
theorem joinRec_bad (B D : Nat) (l : List UInt8) (a : Option Addr) (cap m : Nat) (f0 : Nat → List UInt8) (fa : Option Addr) (fc n : Nat) (f : Nat → List UInt8) (o : List UInt8) (w : World) (hn : n ≤ 2000000) (hm : m ≤ 1048576) (hj : 2000 < (joinF n f o).length) (hj2 : (joinF n f o).length ≤ 140737488355328)
    (hla : Laid m cap a w) (hsa : SlF D w a m f0) (hsl : SlF B w fa n f) :
    Calls Try.prog 46 #[recV l a m cap, .slice fa n fc, eS o] w fun e w' => ∃ (a' : Option Addr) (c' : Nat), e = .returned (.tuple #[recV l a' m c', .bool false]) ∧ SlF w.heap.size w' a' m f0 ∧ Laid m c' a' w' ∧ Below w.heap.size w w' := by
  have HJ := Lib.hid (fun (W : World) (hb : Below w.heap.size w W) => joinedSize_any B fa fc n f o W hn (by omega) (hsl.kept hb))
  have HL := Lib.hid (fun (W : World) (hb : Below w.heap.size w W) => copyRec_any D l a cap m f0 W hm (hla.kept hb.size) (hsa.kept hb))
  have hJ : (2000 : Int) < ((joinF n f o).length : Int) := by omega
  clear hsl hsa hla hj hj2
  generalize (((joinF n f o).length : Nat) : Int) = J at *
  unfold recV eS at *
  generalize (⟨l.toArray⟩ : ByteArray) = s at *
  generalize (⟨o.toArray⟩ : ByteArray) = o at *
  have HP := Lib.hid ((Wb.new w (.string s) (.slice a m cap) 33).alloc (.cells #[.string ⟨#[]⟩, .slice none 0 0] 33))
  have HQ := Lib.hid (Wb.new (w.alloc (.cells #[.string s, .slice a m cap] 33)) (.string ⟨#[]⟩) (.slice none 0 0) 33)
  have HB := Lib.hid (show ∀ o1 o2, Below w.heap.size w ((w.alloc o1).alloc o2) from fun o1 o2 => (((Below.refl w.heap.size w).alloc (Nat.le_refl _) _).alloc (by simp) _))
  simp only [World.size_alloc] at HQ
  go_enter Try.func46, Try.ntmps46
  go_wp2_with fail
  refine (HJ.out _ (HB.out _ _)).mono ?_
  rintro e w1 ⟨rfl, b1⟩
  have P1 := Lib.hid (HP.out.step b1)
  have Q1 := Lib.hid (HQ.out.step b1)
  have B1 := Lib.hid ((HB.out _ _).trans (b1.mono (HB.out _ _).size))
  clear b1
  obtain ⟨c0, c1, f0, f1, lt⟩ := P1.out
  go_wp2_with fail
  clear c0 c1 f0 f1
  refine (HL.out _ B1.out).mono ?_
  rintro e w2 ⟨a2, c2, rfl, s2, l2, b2⟩
  have Q2 := Lib.hid (Q1.out.step b2)
  have B2 := Lib.hid (B1.out.trans (b2.mono B1.out.size))
  have S2 := Lib.hid (s2.set2 (w.heap.size + 1) Q1.out.lt (.string s) (.slice a2 m c2))
  have L2 := Lib.hid l2
  clear b2 s2 l2
  obtain ⟨c0, c1, f0, f1, lt2⟩ := Q2.out
  go_wp2_with fail
  have Q3 := (Q2.out.put0 (.string s)).put1 (.slice a2 m c2)
  obtain ⟨z0, z1, _, _, _⟩ := Q3
  exact bodyPost_ret (v := .tuple #[.agg #[.string s, .slice a2 m c2], .bool false]) (by simp [results, Try.results46, go_sem, z0, z1]) rfl ⟨a2, c2, rfl, S2.out.mono (by omega), L2.out.kept (by simp), put2_below B2.out (by omega) _ _⟩
end Go.Proofs.Ytghmkfehohgmgaa.kit
