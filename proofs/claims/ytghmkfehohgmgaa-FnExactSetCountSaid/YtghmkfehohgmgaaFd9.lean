/-
  Contract of spec.l07Made over this seat's translation: a record that was made, where it is right, else the old one. Conditions: each theorem names its own.
-/
import Derived.Test.YtghmkfehohgmgaaFd8
namespace Go.Proofs.Ytghmkfehohgmgaa.kit
open Go.ChangeShapes Go.WideShapes Go.ChangeAt Go.RowKit
set_option linter.unusedVariables false

set_option maxRecDepth 100000 in
set_option maxHeartbeats 1000000 in
theorem made_good (B : Nat) (l l2 : List UInt8) (a : Option Addr) (cap m : Nat) (fa : Option Addr) (fc n : Nat) (f : Nat → List UInt8) (o : List UInt8) (w : World) (hn : n ≤ 2000000) (hj : (joinF n f o).length ≤ 140737488355328) (hok : recOk (joinF n f o) n f = true) (hsl : SlF B w fa n f) :
    Calls Try.prog 43 #[recV l a m cap, recV l2 fa n fc, eS o] w fun e w' => e = .returned (.tuple #[recV (joinF n f o) fa n fc, .bool true]) ∧ Below w.heap.size w w' := by
  have HJ := Lib.hid (fun (W : World) (h : SlF B W fa n f) => specJoin_any B fa fc n f o W hn hj h)
  have HR := Lib.hid (fun (W : World) (h : SlF B W fa n f) => specRecOk_any B (joinF n f o) fa fc n f W hn h)
  have HS := Lib.hid hsl
  have HLT := Lib.hid (show ∀ g, fa = some ⟨g, 0, none⟩ → 0 < n → g < w.heap.size from fun g e h0 => by
    obtain ⟨g', e', _, h2, _⟩ := hsl 0 h0
    rw [e] at e'; cases e'; exact h2)
  rw [hok] at HR
  clear hsl hj hok
  unfold recV at *
  generalize joinF n f o = j at *
  unfold eS at *
  generalize (⟨l.toArray⟩ : ByteArray) = s at *
  generalize (⟨l2.toArray⟩ : ByteArray) = s2 at *
  generalize (⟨j.toArray⟩ : ByteArray) = j at *
  generalize (⟨o.toArray⟩ : ByteArray) = o at *
  have HO := Lib.hid ((Wb.new (w.alloc (.cells #[.string s, .slice a m cap] 33)) (.string s2) (.slice fa n fc) 33).alloc (.cells #[.string ⟨#[]⟩, .slice none 0 0] 33))
  have HQ := Lib.hid (Wb.new ((w.alloc (.cells #[.string s, .slice a m cap] 33)).alloc (.cells #[.string s2, .slice fa n fc] 33)) (.string ⟨#[]⟩) (.slice none 0 0) 33)
  have HB := Lib.hid (show ∀ o1 o2 o3, Below w.heap.size w (((w.alloc o1).alloc o2).alloc o3) from fun o1 o2 o3 => ((((Below.refl w.heap.size w).alloc (Nat.le_refl _) _).alloc (by simp) _).alloc (by simp; omega) _))
  simp only [World.size_alloc] at HQ HO
  go_enter Try.func43, Try.ntmps43
  go_wp2_with fail
  refine (HJ.out _ (HS.out.kept (HB.out _ _ _))).mono ?_
  rintro e w1 ⟨rfl, b1⟩
  have O1 := Lib.hid (HO.out.step b1)
  have Q1 := Lib.hid (HQ.out.step b1)
  have B1 := Lib.hid ((HB.out _ _ _).trans (b1.mono (HB.out _ _ _).size))
  clear b1
  obtain ⟨c0, c1, fz0, fz1, lt⟩ := O1.out
  go_wp2_with fail
  have O2 := Lib.hid (O1.out.put0 (.string j))
  have Q2 := Lib.hid (Q1.out.off (w.heap.size + 1) 0 (by omega) (.string j))
  have B2 := Lib.hid (B1.out.setCell (p := ⟨w.heap.size + 1, 0, none⟩) (by simp) (.string j))
  clear c0 c1 fz0 fz1
  refine (HR.out _ (HS.out.kept B2.out)).mono ?_
  rintro e w3 ⟨rfl, b3⟩
  have O3 := Lib.hid (O2.out.step b3)
  have Q3 := Lib.hid (Q2.out.step b3)
  have B3 := Lib.hid (B2.out.trans (b3.mono B2.out.size))
  clear b3
  obtain ⟨c0, c1, _, _, lo⟩ := O3.out
  obtain ⟨e0, e1, g0, g1, lq⟩ := Q3.out
  go_wp2_with fail
  have Q4 := (Q3.out.put0 (.string j)).put1 (.slice fa n fc)
  obtain ⟨z0, z1, _, _, _⟩ := Q4
  exact bodyPost_ret (v := .tuple #[.agg #[.string j, .slice fa n fc], .bool true]) (by simp [results, Try.results43, go_sem, z0, z1]) rfl ⟨rfl, put2_below B3.out (by omega) _ _⟩
set_option maxRecDepth 100000 in
set_option maxHeartbeats 1000000 in
theorem made_bad (B D : Nat) (l l2 : List UInt8) (a : Option Addr) (cap m : Nat) (f0 : Nat → List UInt8) (fa : Option Addr) (fc n : Nat) (f : Nat → List UInt8) (o : List UInt8) (w : World) (hn : n ≤ 2000000) (hm : m ≤ 1048576) (hj : (joinF n f o).length ≤ 140737488355328) (hok : recOk (joinF n f o) n f = false) (hla : Laid m cap a w) (hsa : SlF D w a m f0) (hsl : SlF B w fa n f) :
    Calls Try.prog 43 #[recV l a m cap, recV l2 fa n fc, eS o] w fun e w' => ∃ (a' : Option Addr) (c' : Nat), e = .returned (.tuple #[recV l a' m c', .bool false]) ∧ SlF w.heap.size w' a' m f0 ∧ Below w.heap.size w w' := by
  have HJ := Lib.hid (fun (W : World) (h : SlF B W fa n f) => specJoin_any B fa fc n f o W hn hj h)
  have HR := Lib.hid (fun (W : World) (h : SlF B W fa n f) => specRecOk_any B (joinF n f o) fa fc n f W hn h)
  have HC := Lib.hid (fun (W : World) (hb : Below w.heap.size w W) => specCopy_any D l a cap m f0 W hm (hla.kept hb.size) (hsa.kept hb))
  have HS := Lib.hid hsl
  rw [hok] at HR
  clear hsl hj hok hla hsa
  unfold recV at *
  generalize joinF n f o = j at *
  unfold eS at *
  generalize (⟨l.toArray⟩ : ByteArray) = s at *
  generalize (⟨l2.toArray⟩ : ByteArray) = s2 at *
  generalize (⟨j.toArray⟩ : ByteArray) = j at *
  generalize (⟨o.toArray⟩ : ByteArray) = o at *
  have HP := Lib.hid (((Wb.new w (.string s) (.slice a m cap) 33).alloc (.cells #[.string s2, .slice fa n fc] 33)).alloc (.cells #[.string ⟨#[]⟩, .slice none 0 0] 33))
  have HO := Lib.hid ((Wb.new (w.alloc (.cells #[.string s, .slice a m cap] 33)) (.string s2) (.slice fa n fc) 33).alloc (.cells #[.string ⟨#[]⟩, .slice none 0 0] 33))
  have HQ := Lib.hid (Wb.new ((w.alloc (.cells #[.string s, .slice a m cap] 33)).alloc (.cells #[.string s2, .slice fa n fc] 33)) (.string ⟨#[]⟩) (.slice none 0 0) 33)
  have HB := Lib.hid (show ∀ o1 o2 o3, Below w.heap.size w (((w.alloc o1).alloc o2).alloc o3) from fun o1 o2 o3 => ((((Below.refl w.heap.size w).alloc (Nat.le_refl _) _).alloc (by simp) _).alloc (by simp; omega) _))
  simp only [World.size_alloc] at HQ HO
  go_enter Try.func43, Try.ntmps43
  go_wp2_with fail
  refine (HJ.out _ (HS.out.kept (HB.out _ _ _))).mono ?_
  rintro e w1 ⟨rfl, b1⟩
  have P1 := Lib.hid (HP.out.step b1)
  have O1 := Lib.hid (HO.out.step b1)
  have Q1 := Lib.hid (HQ.out.step b1)
  have B1 := Lib.hid ((HB.out _ _ _).trans (b1.mono (HB.out _ _ _).size))
  clear b1
  obtain ⟨c0, c1, fz0, fz1, lt⟩ := O1.out
  go_wp2_with fail
  have P2 := Lib.hid (P1.out.off (w.heap.size + 1) 0 (by omega) (.string j))
  have Q2 := Lib.hid (Q1.out.off (w.heap.size + 1) 0 (by omega) (.string j))
  have B2 := Lib.hid (B1.out.setCell (p := ⟨w.heap.size + 1, 0, none⟩) (by simp) (.string j))
  clear c0 c1 fz0 fz1
  refine (HR.out _ (HS.out.kept B2.out)).mono ?_
  rintro e w3 ⟨rfl, b3⟩
  have P3 := Lib.hid (P2.out.step b3)
  have Q3 := Lib.hid (Q2.out.step b3)
  have B3 := Lib.hid (B2.out.trans (b3.mono B2.out.size))
  clear b3
  obtain ⟨c0, c1, _, _, lo⟩ := P3.out
  go_wp2_with fail
  clear c0 c1
  refine (HC.out _ B3.out).mono ?_
  rintro e w4 ⟨v4, rfl, s4, b4⟩
  obtain ⟨a4, c4, hv4, k4⟩ := s4.slF
  rw [rowF_length] at hv4 k4
  subst hv4
  clear s4
  have Q4 := Lib.hid (Q3.out.step b4)
  have B4 := Lib.hid (B3.out.trans (b4.mono B3.out.size))
  have K4 := Lib.hid (k4.congr (f' := f0) (fun j hj => by rw [List.getD_eq_getElem?_getD, rowF_get _ _ _ hj]; rfl))
  have S4 := Lib.hid (K4.out.set2 (w.heap.size + 1 + 1) Q3.out.lt (.string s) (.slice a4 m c4))
  clear b4 k4
  obtain ⟨e0, e1, g0, g1, lq⟩ := Q4.out
  go_wp2_with fail
  have Q5 := (Q4.out.put0 (.string s)).put1 (.slice a4 m c4)
  obtain ⟨z0, z1, _, _, _⟩ := Q5
  exact bodyPost_ret (v := .tuple #[.agg #[.string s, .slice a4 m c4], .bool false]) (by simp [results, Try.results43, go_sem, z0, z1]) rfl ⟨a4, c4, rfl, S4.out.mono (by have := B3.out.size; omega), put2_below B4.out (by omega) _ _⟩
end Go.Proofs.Ytghmkfehohgmgaa.kit
