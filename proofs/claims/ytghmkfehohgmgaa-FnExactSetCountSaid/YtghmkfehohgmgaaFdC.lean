/-
  Contract of impl.SetField over this seat's translation. Conditions: each theorem names its own.
-/
import Derived.Test.YtghmkfehohgmgaaFd9
namespace Go.Proofs.Ytghmkfehohgmgaa.kit
open Go.ChangeShapes Go.WideShapes Go.ChangeAt Go.RowKit
set_option linter.unusedVariables false

/-- A record and a truth are returned; the record's row is new. -/
def RecPost (L : List UInt8) (N : Nat) (F : Nat → List UInt8) (q : Bool) (w : World) (e : Ending) (w' : World) : Prop :=
  ∃ (a' : Option Addr) (c' : Nat), e = .returned (.tuple #[recV L a' N c', .bool q]) ∧ SlF w.heap.size w' a' N F ∧ Below w.heap.size w w'
def RecPostL (L : List UInt8) (N : Nat) (F : Nat → List UInt8) (q : Bool) (w : World) (e : Ending) (w' : World) : Prop :=
  ∃ (a' : Option Addr) (c' : Nat), e = .returned (.tuple #[recV L a' N c', .bool q]) ∧ SlF w.heap.size w' a' N F ∧ Laid N c' a' w' ∧ Below w.heap.size w w'
/-- The texts behind one that is set. -/
def sfF (n : Nat) (f : Nat → List UInt8) (k : Nat) (s : List UInt8) : Nat → List UInt8 := fun j => if j + 1 = k then s else if j < n then f j else []
theorem lens_mem (n : Nat) (f : Nat → List UInt8) (j : Nat) (h : j < n) : (f j).length ≤ lensF n f := by
  have := lensF_le n (j + 1) f h
  rw [lensF_succ] at this; omega
theorem recOk_made (n : Nat) (f : Nat → List UInt8) (o : List UInt8) (hn : n ≤ 60) : recOk (joinF n f o) n f = decide ((joinF n f o).length ≤ 2000) := by
  by_cases c : (joinF n f o).length ≤ 2000
  · have h1 : fitsF n f = true := decide_eq_true fun j hj => by
      have := lens_mem n f j hj
      rw [joinF_length] at c; omega
    simp [recOk, h1, hn, c]
  · simp [recOk, c]
theorem recOk_many (l : List UInt8) (n : Nat) (f : Nat → List UInt8) (hn : 60 < n) : recOk l n f = false := by simp [recOk, show ¬ n ≤ 60 by omega]
/-- Whether a field may be set. -/
def sfQ (n : Nat) (f : Nat → List UInt8) (i : Int) (s o : List UInt8) : Bool := decide (1 ≤ i ∧ i ≤ 60) && recOk (joinF (max i.toNat n) (sfF n f i.toNat s) o) (max i.toNat n) (sfF n f i.toNat s)
set_option maxRecDepth 100000 in
set_option maxHeartbeats 1000000 in
theorem implSet_no (B : Nat) (l : List UInt8) (a : Option Addr) (cap n : Nat) (f : Nat → List UInt8) (i : Int) (s o : List UInt8) (w : World) (hn : n ≤ 1048576) (hc : i < 1 ∨ 60 < max i.toNat n) (hl : Laid n cap a w) (hsl : SlF B w a n f) :
    Calls Try.prog 27 #[recV l a n cap, .int .i64 i, eS s, eS o] w (RecPostL l n f false w) := by
  have HC := Lib.hid (fun (W : World) (hb : Below w.heap.size w W) => copyRec_any B l a cap n f W hn (hl.kept hb.size) (hsl.kept hb))
  clear hsl hl
  unfold RecPostL
  unfold recV eS at *
  generalize (⟨l.toArray⟩ : ByteArray) = l at *
  generalize (⟨s.toArray⟩ : ByteArray) = s at *
  generalize (⟨o.toArray⟩ : ByteArray) = o at *
  have HQ := Lib.hid (Wb.new (w.alloc (.cells #[.string l, .slice a n cap] 33)) (.string ⟨#[]⟩) (.slice none 0 0) 33)
  have HB := Lib.hid (show ∀ o1 o2, Below w.heap.size w ((w.alloc o1).alloc o2) from fun o1 o2 => (((Below.refl w.heap.size w).alloc (Nat.le_refl _) _).alloc (by simp) _))
  simp only [World.size_alloc] at HQ
  by_cases c : i < 1
  · clear hc
    go_enter Try.func27, Try.ntmps27
    go_wp2_with fail
    refine (HC.out _ (HB.out _ _)).mono ?_
    rintro e w2 ⟨a2, c2, rfl, s2, l2, b2⟩
    have Q2 := Lib.hid (HQ.out.step b2)
    have B2 := Lib.hid ((HB.out _ _).trans (b2.mono (HB.out _ _).size))
    have S2 := Lib.hid (s2.set2 (w.heap.size + 1) (by simp) (.string l) (.slice a2 n c2))
    have L2 := Lib.hid l2
    clear b2 s2 l2
    obtain ⟨c0, c1, f0, f1, lt2⟩ := Q2.out
    go_wp2_with fail
    have Q3 := (Q2.out.put0 (.string l)).put1 (.slice a2 n c2)
    obtain ⟨z0, z1, _, _, _⟩ := Q3
    exact bodyPost_ret (v := .tuple #[.agg #[.string l, .slice a2 n c2], .bool false]) (by simp [results, Try.results27, go_sem, z0, z1]) rfl ⟨a2, c2, rfl, S2.out.mono (by simp; omega), L2.out.kept (by simp), put2_below B2.out (by omega) _ _⟩
  · have hmax : (60 : Int) < max i (n : Int) := by omega
    clear hc
    go_enter Try.func27, Try.ntmps27
    go_wp2_with fail
    refine (HC.out _ (HB.out _ _)).mono ?_
    rintro e w2 ⟨a2, c2, rfl, s2, l2, b2⟩
    have Q2 := Lib.hid (HQ.out.step b2)
    have B2 := Lib.hid ((HB.out _ _).trans (b2.mono (HB.out _ _).size))
    have S2 := Lib.hid (s2.set2 (w.heap.size + 1) (by simp) (.string l) (.slice a2 n c2))
    have L2 := Lib.hid l2
    clear b2 s2 l2
    obtain ⟨c0, c1, f0, f1, lt2⟩ := Q2.out
    go_wp2_with fail
    have Q3 := (Q2.out.put0 (.string l)).put1 (.slice a2 n c2)
    obtain ⟨z0, z1, _, _, _⟩ := Q3
    exact bodyPost_ret (v := .tuple #[.agg #[.string l, .slice a2 n c2], .bool false]) (by simp [results, Try.results27, go_sem, z0, z1]) rfl ⟨a2, c2, rfl, S2.out.mono (by simp; omega), L2.out.kept (by simp), put2_below B2.out (by omega) _ _⟩
/-- The row that is copied, one text set in it. -/
theorem SlF.one {B g N n : Nat} {w : World} {f : Nat → List UInt8} (h : SlF B w (some ⟨g, 0, none⟩) N (fun j => if j < n then f j else [])) (k : Nat) (hk : 1 ≤ k) (hkN : k ≤ N) (s : List UInt8) : SlF B (w.setCell ⟨g, k - 1, none⟩ (eS s)) (some ⟨g, 0, none⟩) N (sfF n f k s) :=
  (h.store (k - 1) (by omega) s).congr fun j hj => by
    unfold sfF
    by_cases e : j + 1 = k
    · rw [if_pos (by omega), if_pos e]
    · rw [if_neg (by omega), if_neg e]
set_option maxRecDepth 100000 in
set_option maxHeartbeats 1000000 in
theorem implSet_good (B : Nat) (l : List UInt8) (a : Option Addr) (cap n : Nat) (f : Nat → List UInt8) (k N : Nat) (s o : List UInt8) (w : World) (hk : 1 ≤ k) (hN : N = max k n) (h60 : N ≤ 60) (hgood : (joinF N (sfF n f k s) o).length ≤ 2000) (hl : Laid n cap a w) (hsl : SlF B w a n f) :
    Calls Try.prog 27 #[recV l a n cap, .int .i64 (k : Int), eS s, eS o] w (RecPostL (joinF N (sfF n f k s) o) N (sfF n f k s) true w) := by
  have HC := Lib.hid (fun (W : World) (hb : Below w.heap.size w W) => copyFields_any B a cap n N f W (by omega) (by omega) (hl.kept hb.size) (hsl.kept hb))
  have hk1 : ¬ (k : Int) < 1 := by omega
  have hmax : max (k : Int) (n : Int) = (N : Int) := by omega
  have hm2 : ¬ (60 : Int) < (N : Int) := by omega
  have hkN : k ≤ N := by omega
  have hw : wrap64 ((k : Int) - 1) = ((k - 1 : Nat) : Int) := by unfold wrap64; omega
  have i0 : (0 : Int) ≤ ((k - 1 : Nat) : Int) := by omega
  have i1 : ((k - 1 : Nat) : Int) < (N : Int) := by omega
  have hsub : (k : Int) - 1 = ((k - 1 : Nat) : Int) := by omega
  have HQ := Lib.hid (Wb.new (w.alloc (.cells #[.string ⟨l.toArray⟩, .slice a n cap] 33)) (.string ⟨#[]⟩) (.slice none 0 0) 33)
  have HP := Lib.hid ((Wb.new w (.string ⟨l.toArray⟩) (.slice a n cap) 33).alloc (.cells #[.string ⟨#[]⟩, .slice none 0 0] 33))
  have HB := Lib.hid (show ∀ o1 o2, Below w.heap.size w ((w.alloc o1).alloc o2) from fun o1 o2 => (((Below.refl w.heap.size w).alloc (Nat.le_refl _) _).alloc (by simp) _))
  simp only [World.size_alloc] at HQ
  unfold RecPostL
  have HG := Lib.hid (fun (W : World) (fa : Option Addr) (fc : Nat) (D : Nat) (h1 : Laid N fc fa W) (h2 : SlF D W fa N (sfF n f k s)) => joinRec_good D l a cap n fa fc N (sfF n f k s) o W (by omega) hgood h1 h2)
  have HO := Lib.hid (fun (W : World) (g : Nat) (D : Nat) (h : SlF D W (some ⟨g, 0, none⟩) N (fun j => if j < n then f j else [])) => h.one k hk hkN s)
  generalize sfF n f k s = F at *
  generalize joinF N F o = J at *
  have HKN := Lib.hid (show k - 1 < N by omega)
  clear hsl hl hN h60 hk
  clear hgood
  unfold recV eS at *
  generalize (⟨l.toArray⟩ : ByteArray) = lb at *
  generalize (⟨s.toArray⟩ : ByteArray) = sb at *
  generalize (⟨J.toArray⟩ : ByteArray) = Jb at *
  generalize (⟨o.toArray⟩ : ByteArray) = ob at *
  go_enter Try.func27, Try.ntmps27
  go_wp2_with fail
  refine (HC.out _ (HB.out _ _)).mono ?_
  rintro e w1 ⟨a1, c1, rfl, s1, l1, b1⟩
  obtain ⟨hN1, g, rfl, hg⟩ := l1
  obtain ⟨g', e', hgB, hg2, hg3, hg4⟩ := s1 (k - 1) HKN.out
  cases e'
  have hgB2 : w.heap.size + 2 ≤ g := by simpa using hgB
  have P1 := Lib.hid (HP.out.step b1)
  have Q1 := Lib.hid (HQ.out.step b1)
  have B1 := Lib.hid ((HB.out _ _).trans (b1.mono (HB.out _ _).size))
  have S1 := Lib.hid (HO.out _ _ _ s1)
  clear b1 s1 hgB
  unfold eS at hg3
  generalize (⟨(if k - 1 < n then f (k - 1) else []).toArray⟩ : ByteArray) = y at hg3
  have P2 := Lib.hid (P1.out.off g (k - 1) (by omega) (.string sb))
  have Q2 := Lib.hid (Q1.out.off g (k - 1) (by omega) (.string sb))
  have B2 := Lib.hid (B1.out.setCell (p := ⟨g, k - 1, none⟩) (by simp; omega) (.string sb))
  have L2 := Lib.hid (show Laid N c1 (some ⟨g, 0, none⟩) (w1.setCell ⟨g, k - 1, none⟩ (.string sb)) from ⟨hN1, g, rfl, by simpa using hg⟩)
  obtain ⟨c0, c01, fz0, fz1, lt⟩ := P1.out
  obtain ⟨e0, e1, _, _, ltp⟩ := P2.out
  go_wp2_with fail
  clear c0 c01 fz0 fz1 e0 e1
  refine (HG.out _ _ _ _ L2.out S1.out).mono ?_
  rintro e w3 ⟨rfl, b3⟩
  have Q3 := Lib.hid (Q2.out.step b3)
  have B3 := Lib.hid (B2.out.trans (b3.mono B2.out.size))
  have S3 := Lib.hid ((S1.out.kept b3).set2 (w.heap.size + 1) (by simp) (.string Jb) (.slice (some ⟨g, 0, none⟩) N c1))
  have L3 := Lib.hid (L2.out.kept b3.size)
  clear b3
  obtain ⟨c0, c01, fz0, fz1, lt⟩ := Q3.out
  go_wp2_with fail
  have Q4 := (Q3.out.put0 (.string Jb)).put1 (.slice (some ⟨g, 0, none⟩) N c1)
  obtain ⟨z0, z1, _, _, _⟩ := Q4
  exact bodyPost_ret (v := .tuple #[.agg #[.string Jb, .slice (some ⟨g, 0, none⟩) N c1], .bool true]) (by simp [results, Try.results27, go_sem, z0, z1]) rfl ⟨_, _, rfl, S3.out.mono (by simp; omega), L3.out.kept (by simp), put2_below B3.out (by omega) _ _⟩
set_option maxRecDepth 100000 in
set_option maxHeartbeats 1000000 in
theorem implSet_bad (B : Nat) (l : List UInt8) (a : Option Addr) (cap n : Nat) (f : Nat → List UInt8) (k N : Nat) (s o : List UInt8) (w : World) (hk : 1 ≤ k) (hN : N = max k n) (h60 : N ≤ 60) (hbad : 2000 < (joinF N (sfF n f k s) o).length) (hj : (joinF N (sfF n f k s) o).length ≤ 140737488355328) (hl : Laid n cap a w) (hsl : SlF B w a n f) :
    Calls Try.prog 27 #[recV l a n cap, .int .i64 (k : Int), eS s, eS o] w (RecPostL l n f false w) := by
  have HC := Lib.hid (fun (W : World) (hb : Below w.heap.size w W) => copyFields_any B a cap n N f W (by omega) (by omega) (hl.kept hb.size) (hsl.kept hb))
  have hk1 : ¬ (k : Int) < 1 := by omega
  have hmax : max (k : Int) (n : Int) = (N : Int) := by omega
  have hm2 : ¬ (60 : Int) < (N : Int) := by omega
  have hkN : k ≤ N := by omega
  have hw : wrap64 ((k : Int) - 1) = ((k - 1 : Nat) : Int) := by unfold wrap64; omega
  have i0 : (0 : Int) ≤ ((k - 1 : Nat) : Int) := by omega
  have i1 : ((k - 1 : Nat) : Int) < (N : Int) := by omega
  have hsub : (k : Int) - 1 = ((k - 1 : Nat) : Int) := by omega
  have HQ := Lib.hid (Wb.new (w.alloc (.cells #[.string ⟨l.toArray⟩, .slice a n cap] 33)) (.string ⟨#[]⟩) (.slice none 0 0) 33)
  have HP := Lib.hid ((Wb.new w (.string ⟨l.toArray⟩) (.slice a n cap) 33).alloc (.cells #[.string ⟨#[]⟩, .slice none 0 0] 33))
  have HB := Lib.hid (show ∀ o1 o2, Below w.heap.size w ((w.alloc o1).alloc o2) from fun o1 o2 => (((Below.refl w.heap.size w).alloc (Nat.le_refl _) _).alloc (by simp) _))
  simp only [World.size_alloc] at HQ
  unfold RecPostL
  have HD := Lib.hid (fun (W : World) (fa : Option Addr) (fc : Nat) (D : Nat) (hb : Below w.heap.size w W) (h2 : SlF D W fa N (sfF n f k s)) => joinRec_bad D B l a cap n f fa fc N (sfF n f k s) o W (by omega) (by omega) hbad hj (hl.kept hb.size) (hsl.kept hb) h2)
  have HO := Lib.hid (fun (W : World) (g : Nat) (D : Nat) (h : SlF D W (some ⟨g, 0, none⟩) N (fun j => if j < n then f j else [])) => h.one k hk hkN s)
  generalize sfF n f k s = F at *
  have HKN := Lib.hid (show k - 1 < N by omega)
  clear hsl hl hN h60 hk
  clear hbad hj
  unfold recV eS at *
  generalize (⟨l.toArray⟩ : ByteArray) = lb at *
  generalize (⟨s.toArray⟩ : ByteArray) = sb at *
  generalize (⟨o.toArray⟩ : ByteArray) = ob at *
  go_enter Try.func27, Try.ntmps27
  go_wp2_with fail
  refine (HC.out _ (HB.out _ _)).mono ?_
  rintro e w1 ⟨a1, c1, rfl, s1, l1, b1⟩
  obtain ⟨hN1, g, rfl, hg⟩ := l1
  obtain ⟨g', e', hgB, hg2, hg3, hg4⟩ := s1 (k - 1) HKN.out
  cases e'
  have hgB2 : w.heap.size + 2 ≤ g := by simpa using hgB
  have P1 := Lib.hid (HP.out.step b1)
  have Q1 := Lib.hid (HQ.out.step b1)
  have B1 := Lib.hid ((HB.out _ _).trans (b1.mono (HB.out _ _).size))
  have S1 := Lib.hid (HO.out _ _ _ s1)
  clear b1 s1 hgB
  unfold eS at hg3
  generalize (⟨(if k - 1 < n then f (k - 1) else []).toArray⟩ : ByteArray) = y at hg3
  have P2 := Lib.hid (P1.out.off g (k - 1) (by omega) (.string sb))
  have Q2 := Lib.hid (Q1.out.off g (k - 1) (by omega) (.string sb))
  have B2 := Lib.hid (B1.out.setCell (p := ⟨g, k - 1, none⟩) (by simp; omega) (.string sb))
  have L2 := Lib.hid (show Laid N c1 (some ⟨g, 0, none⟩) (w1.setCell ⟨g, k - 1, none⟩ (.string sb)) from ⟨hN1, g, rfl, by simpa using hg⟩)
  obtain ⟨c0, c01, fz0, fz1, lt⟩ := P1.out
  obtain ⟨e0, e1, _, _, ltp⟩ := P2.out
  go_wp2_with fail
  clear c0 c01 fz0 fz1 e0 e1
  refine (HD.out _ _ _ _ B2.out S1.out).mono ?_
  rintro e w3 ⟨a3, c3, rfl, s3, l3, b3⟩
  have Q3 := Lib.hid (Q2.out.step b3)
  have S3 := Lib.hid (s3.set2 (w.heap.size + 1) Q2.out.lt (.string lb) (.slice a3 n c3))
  have B3 := Lib.hid (B2.out.trans (b3.mono B2.out.size))
  have L3 := Lib.hid l3
  clear b3 s3 l3
  obtain ⟨c0, c01, fz0, fz1, lt⟩ := Q3.out
  go_wp2_with fail
  have Q4 := (Q3.out.put0 (.string lb)).put1 (.slice a3 n c3)
  obtain ⟨z0, z1, _, _, _⟩ := Q4
  exact bodyPost_ret (v := .tuple #[.agg #[.string lb, .slice a3 n c3], .bool false]) (by simp [results, Try.results27, go_sem, z0, z1]) rfl ⟨_, _, rfl, S3.out.mono B2.out.size, L3.out.kept (by simp), put2_below B3.out (by omega) _ _⟩
end Go.Proofs.Ytghmkfehohgmgaa.kit
