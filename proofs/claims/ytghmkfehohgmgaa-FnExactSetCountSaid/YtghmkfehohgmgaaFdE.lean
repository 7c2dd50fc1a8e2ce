/-
  Contract of spec.SetField over this seat's translation. Conditions: each theorem names its own.
-/
import Derived.Test.YtghmkfehohgmgaaFdD
namespace Go.Proofs.Ytghmkfehohgmgaa.kit
open Go.ChangeShapes Go.WideShapes Go.ChangeAt Go.RowKit
set_option linter.unusedVariables false

set_option maxRecDepth 100000 in
set_option maxHeartbeats 1000000 in
theorem specSet_no (B : Nat) (l : List UInt8) (a : Option Addr) (cap n : Nat) (f : Nat → List UInt8) (i : Int) (s o : List UInt8) (w : World) (hn : n ≤ 1048576) (hc : ¬ (1 ≤ i ∧ i ≤ 60)) (hl : Laid n cap a w) (hsl : SlF B w a n f) :
    Calls Try.prog 26 #[recV l a n cap, .int .i64 i, eS s, eS o] w (RecPost l n f false w) := by
  have HC := Lib.hid (fun (W : World) (hb : Below w.heap.size w W) => specCopy_any B l a cap n f W hn (hl.kept hb.size) (hsl.kept hb))
  have HI := Lib.hid (fun W => in_any i 1 60 W)
  have hin : inB i 1 60 = false := by rw [← Bool.not_eq_true]; simp only [inB, decide_eq_true_eq]; exact hc
  rw [hin] at HI
  clear hsl hl hin hc
  unfold RecPost
  unfold recV eS at *
  generalize (⟨l.toArray⟩ : ByteArray) = l at *
  generalize (⟨s.toArray⟩ : ByteArray) = s at *
  generalize (⟨o.toArray⟩ : ByteArray) = o at *
  have HQ := Lib.hid (Wb.new (w.alloc (.cells #[.string l, .slice a n cap] 33)) (.string ⟨#[]⟩) (.slice none 0 0) 33)
  have HB := Lib.hid (show ∀ o1 o2, Below w.heap.size w ((w.alloc o1).alloc o2) from fun o1 o2 => (((Below.refl w.heap.size w).alloc (Nat.le_refl _) _).alloc (by simp) _))
  simp only [World.size_alloc] at HQ
  go_enter Try.func26, Try.ntmps26
  go_wp2_with fail
  refine (HI.out _).mono ?_
  rintro e w1 ⟨rfl, rfl⟩
  go_wp2_with fail
  refine (HC.out _ (HB.out _ _)).mono ?_
  rintro e w2 ⟨v2, rfl, s2, b2⟩
  obtain ⟨a2, c2, hv2, k2⟩ := s2.slF
  rw [rowF_length] at hv2 k2
  subst hv2
  clear s2
  have Q2 := Lib.hid (HQ.out.step b2)
  have B2 := Lib.hid ((HB.out _ _).trans (b2.mono (HB.out _ _).size))
  have S2 := Lib.hid ((k2.congr (f' := f) (fun j hj => by rw [List.getD_eq_getElem?_getD, rowF_get _ _ _ hj]; rfl)).set2 (w.heap.size + 1) (by simp) (.string l) (.slice a2 n c2))
  clear b2 k2
  obtain ⟨c0, c1, f0, f1, lt2⟩ := Q2.out
  go_wp2_with fail
  have Q3 := (Q2.out.put0 (.string l)).put1 (.slice a2 n c2)
  obtain ⟨z0, z1, _, _, _⟩ := Q3
  exact bodyPost_ret (v := .tuple #[.agg #[.string l, .slice a2 n c2], .bool false]) (by simp [results, Try.results26, go_sem, z0, z1]) rfl ⟨a2, c2, rfl, S2.out.mono (by simp; omega), put2_below B2.out (by omega) _ _⟩
/-- The texts of a copy, and empty ones behind them. -/
def grF (n : Nat) (f : Nat → List UInt8) : Nat → List UInt8 := fun j => if j < n then f j else []
theorem grF_row (n : Nat) (f : Nat → List UInt8) : rowF n (grF n f) = rowF n f := rowF_congr fun j hj => if_pos hj
theorem grF_more (n m : Nat) (f : Nat → List UInt8) (h : n ≤ m) : rowF m (grF n f) ++ [[]] = rowF (m + 1) (grF n f) := by
  rw [rowF_succ]; simp [grF, show ¬ m < n by omega]
set_option maxRecDepth 100000 in
set_option maxHeartbeats 1000000 in
theorem specSet_good (B : Nat) (l : List UInt8) (a : Option Addr) (cap n : Nat) (f : Nat → List UInt8) (k N : Nat) (s o : List UInt8) (w : World) (hn : n ≤ 1048576) (hk : 1 ≤ k) (hk60 : k ≤ 60) (hN : N = max k n) (hj : (joinF N (sfF n f k s) o).length ≤ 140737488355328) (hok : recOk (joinF N (sfF n f k s) o) N (sfF n f k s) = true) (hl : Laid n cap a w) (hsl : SlF B w a n f) :
    Calls Try.prog 26 #[recV l a n cap, .int .i64 (k : Int), eS s, eS o] w (RecPost (joinF N (sfF n f k s) o) N (sfF n f k s) true w) := by
  have HC := Lib.hid (fun (W : World) (hb : Below w.heap.size w W) => specCopy_any B l a cap n f W hn (hl.kept hb.size) (hsl.kept hb))
  have HI := Lib.hid (fun W => in_any (k : Int) 1 60 W)
  have hin : inB (k : Int) 1 60 = true := by simp only [inB, decide_eq_true_eq]; omega
  rw [hin] at HI
  have HM := Lib.hid (fun (W : World) (fa : Option Addr) (fc : Nat) (D : Nat) (h2 : SlF D W fa N (sfF n f k s)) => made_good D l l a cap n fa fc N (sfF n f k s) o W (by omega) hj hok h2)
  have HO := Lib.hid (fun (W : World) (g : Nat) (D : Nat) (h : SlF D W (some ⟨g, 0, none⟩) N (fun j => if j < n then f j else [])) => h.one k hk (by omega) s)
  have HGM := Lib.hid (fun m h => grF_more n m f h)
  have HGR := Lib.hid (grF_row n f)
  have HRL := Lib.hid (fun m => rowF_length m (grF n f))
  have HRG := Lib.hid (fun m (W : World) (a : Option Addr) (D : Nat) (h : SlF D W a m (fun j => (rowF m (grF n f)).getD j [])) => h.congr (f' := fun j => if j < n then f j else []) (fun j hj => by rw [List.getD_eq_getElem?_getD, rowF_get _ _ _ hj]; rfl))
  have hw : wrap64 ((k : Int) - 1) = ((k - 1 : Nat) : Int) := by unfold wrap64; omega
  have hsub : (k : Int) - 1 = ((k - 1 : Nat) : Int) := by omega
  have hw2 : wrap64 ((k - 1 : Nat) : Int) = ((k - 1 : Nat) : Int) := by unfold wrap64; omega
  have HK := Lib.hid (show 1 ≤ k ∧ k ≤ 60 ∧ N = max k n ∧ n ≤ 1048576 from ⟨hk, hk60, hN, hn⟩)
  have hnN : n ≤ N := by omega
  have hkN : k ≤ N := by omega
  have hmN : ∀ m, m ≤ N → n ≤ m → k ≤ m → m = N := by omega
  have HMN := Lib.hid hmN
  clear hsl hl hin hj hok hmN hk hk60 hN hn
  unfold RecPost
  generalize sfF n f k s = F at *
  generalize joinF N F o = J at *
  generalize hR : (fun m => rowF m (grF n f)) = R at *
  have hR2 : ∀ m, rowF m (grF n f) = R m := fun m => by rw [← hR]
  simp only [hR2] at HGM HGR HRL HRG
  rw [← HGR.out] at HC
  clear hR hR2 HGR
  unfold recV eS at *
  generalize (⟨l.toArray⟩ : ByteArray) = lb at *
  generalize (⟨s.toArray⟩ : ByteArray) = sb at *
  generalize (⟨o.toArray⟩ : ByteArray) = ob at *
  generalize (⟨J.toArray⟩ : ByteArray) = Jb at *
  have HQ := Lib.hid (Wb.new (w.alloc (.cells #[.string lb, .slice a n cap] 33)) (.string ⟨#[]⟩) (.slice none 0 0) 33)
  have HP := Lib.hid ((Wb.new w (.string lb) (.slice a n cap) 33).alloc (.cells #[.string ⟨#[]⟩, .slice none 0 0] 33))
  have HB := Lib.hid (show ∀ o1 o2, Below w.heap.size w ((w.alloc o1).alloc o2) from fun o1 o2 => (((Below.refl w.heap.size w).alloc (Nat.le_refl _) _).alloc (by simp) _))
  simp only [World.size_alloc] at HQ
  go_enter Try.func26, Try.ntmps26
  go_wp2_with fail
  refine (HI.out _).mono ?_
  rintro e w1 ⟨rfl, rfl⟩
  go_wp2_with fail
  refine (HC.out _ (HB.out _ _)).mono ?_
  rintro e w2 ⟨v2, rfl, s2, b2⟩
  obtain ⟨a2, c2, hv2, k2⟩ := s2.slF
  subst hv2
  clear k2
  have hz2 : w.heap.size + 2 ≤ w2.heap.size := by have := b2.size; simp at this; omega
  have P2 := Lib.hid (HP.out.step b2)
  have Q2 := Lib.hid (HQ.out.step b2)
  have B2 := Lib.hid ((HB.out _ _).trans (b2.mono (HB.out _ _).size))
  have S2 := Lib.hid s2
  clear b2 s2
  have G2 := Lib.hid (show ∀ T, Gr w w2.heap.size lb a n cap lb (R n) (w2.alloc (.cells #[.string lb, .slice a2 (R n).length c2] T)) a2 c2 from fun T =>
    ⟨(S2.out.mono (by simp)).alloc _, Wb.new w2 _ _ T, P2.out.alloc _, Q2.out.alloc _, S2.out.ltB _ (Nat.le_refl _), hz2, B2.out.alloc (by omega) _⟩)
  go_wp2_with fail
  go_loopg [] (N - n) (fun gg wr => ∃ (m : Nat) (va : Option Addr) (vc : Nat), m + gg = N ∧ n ≤ m ∧ Gr w w2.heap.size lb a n cap lb (R m) wr va vc)
  case atStart => exact ⟨n, a2, c2, by omega, Nat.le_refl _, G2.out _⟩
  case round =>
    obtain ⟨m, va, vc, hmg, hnm, hg⟩ := hrel
    have HG := Lib.hid hg
    clear hg
    obtain ⟨c0, c1, f0, f1, lt⟩ := HG.out.box
    have hrl := HRL.out m
    have HOW := Lib.hid (show OwnS 9 (w.heap.size + 2) wr (.slice va m vc) (R m) from by have := HG.out.own; rw [hrl] at this; exact this)
    have HNE := Lib.hid (show Value.ownBlock (.slice va m vc) ≠ some w2.heap.size from by have := HG.out.ne; rw [hrl] at this; exact this)
    rw [hrl] at c1
    have HRLm := Lib.hid hrl
    clear hrl
    by_cases hlt : m < k
    · have HBX := Lib.hid HG.out.box
      have HNEW := Lib.hid (show ∀ T, (wr.alloc (.cells #[.string ⟨#[]⟩] T)).cell? ⟨wr.heap.size, 0, none⟩ = some (eS []) from fun T => cell_one wr _ T)
      have HL1 := Lib.hid (show (R m).length + 1 ≤ 1099511627776 by rw [HRLm.out]; have := HK.out.2.1; omega)
      have HL2 := Lib.hid (show ∀ o, w.heap.size + 2 ≤ (wr.alloc o).heap.size from fun o => by simp; omega)
      go_wp2_with (at_builtin; refine wp_append_strF rfl _ _ rfl (w.heap.size + 2) (.slice va m vc) (R m) rfl (HOW.out.alloc _) wr.heap.size 1 [] rfl (HNEW.out _) HL1.out (HL2.out _) ?_; intro v4 w4 ho4 hg4 hv4; obtain ⟨va4, vc4, hv, _⟩ := ho4.slF; subst hv; obtain ⟨d0, d1, e0, e1, _⟩ := (HBX.out.alloc _).grown hg4 HNE.out)
      have hlen : (R m ++ [[]]).length = (R m).length + 1 := by simp
      rw [hlen] at ho4 hv4
      have hob : Value.ownBlock (.slice va m vc) = Value.ownBlock (.slice va (R m).length vc) := by rw [HRLm.out]
      rw [hob] at hg4 hv4
      have hnew := HG.out.more ((Below.refl _ _).alloc (Nat.le_refl _) (.cells #[.string ⟨#[]⟩] 9)) [] (n' := (R m).length + 1) hlen.symm ho4 hg4 hv4
      rw [HGM.out m hnm] at hnew
      go_roundg (N - (m + 1))
      case measure => omega
      case rel => exact ⟨m + 1, va4, vc4, by omega, by omega, hnew⟩
    · obtain rfl : m = N := HMN.out m (by omega) hnm (by omega)
      obtain ⟨a5, c5, hv5, k5⟩ := HOW.out.slF
      simp only [Value.slice.injEq] at hv5
      obtain ⟨rfl, hv6, rfl⟩ := hv5
      clear hv6
      rw [HRLm.out] at k5
      have K5 := HRG.out _ _ _ _ k5
      have hkk : k - 1 < m := by have := HK.out; omega
      obtain ⟨g, rfl, hgB, hg2, hg3, hg4⟩ := K5 (k - 1) hkk
      have hgP : w2.heap.size ≠ g := fun e => HNE.out (by simp [Value.ownBlock, e])
      have S5 := Lib.hid (HO.out _ _ _ K5)
      have i0 : (0 : Int) ≤ ((k - 1 : Nat) : Int) := by omega
      have i1 : ((k - 1 : Nat) : Int) < (m : Int) := by omega
      unfold eS at hg3
      generalize (⟨(if k - 1 < n then f (k - 1) else []).toArray⟩ : ByteArray) = y at hg3
      have O5 := Lib.hid (HG.out.old.off g (k - 1) (by omega) (.string sb))
      have Q5 := Lib.hid (HG.out.res.off g (k - 1) (by omega) (.string sb))
      have X5 := Lib.hid (HG.out.box.off g (k - 1) hgP (.string sb))
      have B5 := Lib.hid (HG.out.bel.setCell (p := ⟨g, k - 1, none⟩) (by simp; omega) (.string sb))
      obtain ⟨d0, d1, _, _, ld⟩ := O5.out
      obtain ⟨e0, e1, _, _, le⟩ := X5.out
      rw [HRLm.out] at e1
      have HGP := Lib.hid (show w2.heap.size ≠ g ∧ 0 < m from ⟨hgP, by omega⟩)
      have hge : w.heap.size + 2 ≤ g := by omega
      have hz3 : w.heap.size + 2 ≤ wr.heap.size := by omega
      clear k5 K5 hgP hmg hgB
      go_wp2_with fail
      refine (HM.out _ _ _ _ S5.out).mono ?_
      rintro e w6 ⟨rfl, b6⟩
      have Q6 := Lib.hid (Q5.out.step b6)
      have B6 := Lib.hid (B5.out.trans (b6.mono B5.out.size))
      have S6 := Lib.hid ((S5.out.kept b6).set2 (w.heap.size + 1) (by omega) (.string Jb) (.slice (some ⟨g, 0, none⟩) m vc))
      clear b6 d0 d1 e0 e1
      obtain ⟨z0, z1, z2, z3, z4⟩ := Q6.out
      go_wp2_with fail
      have Q7 := (Q6.out.put0 (.string Jb)).put1 (.slice (some ⟨g, 0, none⟩) m vc)
      obtain ⟨y0, y1, _, _, _⟩ := Q7
      exact bodyPost_ret (v := .tuple #[.agg #[.string Jb, .slice (some ⟨g, 0, none⟩) m vc], .bool true]) (by simp [results, Try.results26, go_sem, y0, y1]) rfl ⟨_, _, rfl, S6.out.mono (by omega), put2_below B6.out (by omega) _ _⟩
set_option maxRecDepth 100000 in
set_option maxHeartbeats 1000000 in
theorem specSet_bad (B : Nat) (l : List UInt8) (a : Option Addr) (cap n : Nat) (f : Nat → List UInt8) (k N : Nat) (s o : List UInt8) (w : World) (hn : n ≤ 1048576) (hk : 1 ≤ k) (hk60 : k ≤ 60) (hN : N = max k n) (hj : (joinF N (sfF n f k s) o).length ≤ 140737488355328) (hok : recOk (joinF N (sfF n f k s) o) N (sfF n f k s) = false) (hl : Laid n cap a w) (hsl : SlF B w a n f) :
    Calls Try.prog 26 #[recV l a n cap, .int .i64 (k : Int), eS s, eS o] w (RecPost l n f false w) := by
  have HC := Lib.hid (fun (W : World) (hb : Below w.heap.size w W) => specCopy_any B l a cap n f W hn (hl.kept hb.size) (hsl.kept hb))
  have HI := Lib.hid (fun W => in_any (k : Int) 1 60 W)
  have hin : inB (k : Int) 1 60 = true := by simp only [inB, decide_eq_true_eq]; omega
  rw [hin] at HI
  have HM := Lib.hid (fun (W : World) (fa : Option Addr) (fc : Nat) (D : Nat) (hb : Below w.heap.size w W) (h2 : SlF D W fa N (sfF n f k s)) => made_bad D B l l a cap n f fa fc N (sfF n f k s) o W (by omega) hn hj hok (hl.kept hb.size) (hsl.kept hb) h2)
  have HO := Lib.hid (fun (W : World) (g : Nat) (D : Nat) (h : SlF D W (some ⟨g, 0, none⟩) N (fun j => if j < n then f j else [])) => h.one k hk (by omega) s)
  have HGM := Lib.hid (fun m h => grF_more n m f h)
  have HGR := Lib.hid (grF_row n f)
  have HRL := Lib.hid (fun m => rowF_length m (grF n f))
  have HRG := Lib.hid (fun m (W : World) (a : Option Addr) (D : Nat) (h : SlF D W a m (fun j => (rowF m (grF n f)).getD j [])) => h.congr (f' := fun j => if j < n then f j else []) (fun j hj => by rw [List.getD_eq_getElem?_getD, rowF_get _ _ _ hj]; rfl))
  have hw : wrap64 ((k : Int) - 1) = ((k - 1 : Nat) : Int) := by unfold wrap64; omega
  have hsub : (k : Int) - 1 = ((k - 1 : Nat) : Int) := by omega
  have hw2 : wrap64 ((k - 1 : Nat) : Int) = ((k - 1 : Nat) : Int) := by unfold wrap64; omega
  have HK := Lib.hid (show 1 ≤ k ∧ k ≤ 60 ∧ N = max k n ∧ n ≤ 1048576 from ⟨hk, hk60, hN, hn⟩)
  have hnN : n ≤ N := by omega
  have hkN : k ≤ N := by omega
  have hmN : ∀ m, m ≤ N → n ≤ m → k ≤ m → m = N := by omega
  have HMN := Lib.hid hmN
  clear hsl hl hin hj hok hmN hk hk60 hN hn
  unfold RecPost
  generalize sfF n f k s = F at *
  generalize hR : (fun m => rowF m (grF n f)) = R at *
  have hR2 : ∀ m, rowF m (grF n f) = R m := fun m => by rw [← hR]
  simp only [hR2] at HGM HGR HRL HRG
  rw [← HGR.out] at HC
  clear hR hR2 HGR
  unfold recV eS at *
  generalize (⟨l.toArray⟩ : ByteArray) = lb at *
  generalize (⟨s.toArray⟩ : ByteArray) = sb at *
  generalize (⟨o.toArray⟩ : ByteArray) = ob at *
  have HQ := Lib.hid (Wb.new (w.alloc (.cells #[.string lb, .slice a n cap] 33)) (.string ⟨#[]⟩) (.slice none 0 0) 33)
  have HP := Lib.hid ((Wb.new w (.string lb) (.slice a n cap) 33).alloc (.cells #[.string ⟨#[]⟩, .slice none 0 0] 33))
  have HB := Lib.hid (show ∀ o1 o2, Below w.heap.size w ((w.alloc o1).alloc o2) from fun o1 o2 => (((Below.refl w.heap.size w).alloc (Nat.le_refl _) _).alloc (by simp) _))
  simp only [World.size_alloc] at HQ
  go_enter Try.func26, Try.ntmps26
  go_wp2_with fail
  refine (HI.out _).mono ?_
  rintro e w1 ⟨rfl, rfl⟩
  go_wp2_with fail
  refine (HC.out _ (HB.out _ _)).mono ?_
  rintro e w2 ⟨v2, rfl, s2, b2⟩
  obtain ⟨a2, c2, hv2, k2⟩ := s2.slF
  subst hv2
  clear k2
  have hz2 : w.heap.size + 2 ≤ w2.heap.size := by have := b2.size; simp at this; omega
  have P2 := Lib.hid (HP.out.step b2)
  have Q2 := Lib.hid (HQ.out.step b2)
  have B2 := Lib.hid ((HB.out _ _).trans (b2.mono (HB.out _ _).size))
  have S2 := Lib.hid s2
  clear b2 s2
  have G2 := Lib.hid (show ∀ T, Gr w w2.heap.size lb a n cap lb (R n) (w2.alloc (.cells #[.string lb, .slice a2 (R n).length c2] T)) a2 c2 from fun T =>
    ⟨(S2.out.mono (by simp)).alloc _, Wb.new w2 _ _ T, P2.out.alloc _, Q2.out.alloc _, S2.out.ltB _ (Nat.le_refl _), hz2, B2.out.alloc (by omega) _⟩)
  go_wp2_with fail
  go_loopg [] (N - n) (fun gg wr => ∃ (m : Nat) (va : Option Addr) (vc : Nat), m + gg = N ∧ n ≤ m ∧ Gr w w2.heap.size lb a n cap lb (R m) wr va vc)
  case atStart => exact ⟨n, a2, c2, by omega, Nat.le_refl _, G2.out _⟩
  case round =>
    obtain ⟨m, va, vc, hmg, hnm, hg⟩ := hrel
    have HG := Lib.hid hg
    clear hg
    obtain ⟨c0, c1, f0, f1, lt⟩ := HG.out.box
    have hrl := HRL.out m
    have HOW := Lib.hid (show OwnS 9 (w.heap.size + 2) wr (.slice va m vc) (R m) from by have := HG.out.own; rw [hrl] at this; exact this)
    have HNE := Lib.hid (show Value.ownBlock (.slice va m vc) ≠ some w2.heap.size from by have := HG.out.ne; rw [hrl] at this; exact this)
    rw [hrl] at c1
    have HRLm := Lib.hid hrl
    clear hrl
    by_cases hlt : m < k
    · have HBX := Lib.hid HG.out.box
      have HNEW := Lib.hid (show ∀ T, (wr.alloc (.cells #[.string ⟨#[]⟩] T)).cell? ⟨wr.heap.size, 0, none⟩ = some (eS []) from fun T => cell_one wr _ T)
      have HL1 := Lib.hid (show (R m).length + 1 ≤ 1099511627776 by rw [HRLm.out]; have := HK.out.2.1; omega)
      have HL2 := Lib.hid (show ∀ o, w.heap.size + 2 ≤ (wr.alloc o).heap.size from fun o => by simp; omega)
      go_wp2_with (at_builtin; refine wp_append_strF rfl _ _ rfl (w.heap.size + 2) (.slice va m vc) (R m) rfl (HOW.out.alloc _) wr.heap.size 1 [] rfl (HNEW.out _) HL1.out (HL2.out _) ?_; intro v4 w4 ho4 hg4 hv4; obtain ⟨va4, vc4, hv, _⟩ := ho4.slF; subst hv; obtain ⟨d0, d1, e0, e1, _⟩ := (HBX.out.alloc _).grown hg4 HNE.out)
      have hlen : (R m ++ [[]]).length = (R m).length + 1 := by simp
      rw [hlen] at ho4 hv4
      have hob : Value.ownBlock (.slice va m vc) = Value.ownBlock (.slice va (R m).length vc) := by rw [HRLm.out]
      rw [hob] at hg4 hv4
      have hnew := HG.out.more ((Below.refl _ _).alloc (Nat.le_refl _) (.cells #[.string ⟨#[]⟩] 9)) [] (n' := (R m).length + 1) hlen.symm ho4 hg4 hv4
      rw [HGM.out m hnm] at hnew
      go_roundg (N - (m + 1))
      case measure => omega
      case rel => exact ⟨m + 1, va4, vc4, by omega, by omega, hnew⟩
    · obtain rfl : m = N := HMN.out m (by omega) hnm (by omega)
      obtain ⟨a5, c5, hv5, k5⟩ := HOW.out.slF
      simp only [Value.slice.injEq] at hv5
      obtain ⟨rfl, hv6, rfl⟩ := hv5
      clear hv6
      rw [HRLm.out] at k5
      have K5 := HRG.out _ _ _ _ k5
      have hkk : k - 1 < m := by have := HK.out; omega
      obtain ⟨g, rfl, hgB, hg2, hg3, hg4⟩ := K5 (k - 1) hkk
      have hgP : w2.heap.size ≠ g := fun e => HNE.out (by simp [Value.ownBlock, e])
      have S5 := Lib.hid (HO.out _ _ _ K5)
      have i0 : (0 : Int) ≤ ((k - 1 : Nat) : Int) := by omega
      have i1 : ((k - 1 : Nat) : Int) < (m : Int) := by omega
      unfold eS at hg3
      generalize (⟨(if k - 1 < n then f (k - 1) else []).toArray⟩ : ByteArray) = y at hg3
      have O5 := Lib.hid (HG.out.old.off g (k - 1) (by omega) (.string sb))
      have Q5 := Lib.hid (HG.out.res.off g (k - 1) (by omega) (.string sb))
      have X5 := Lib.hid (HG.out.box.off g (k - 1) hgP (.string sb))
      have B5 := Lib.hid (HG.out.bel.setCell (p := ⟨g, k - 1, none⟩) (by simp; omega) (.string sb))
      obtain ⟨d0, d1, _, _, ld⟩ := O5.out
      obtain ⟨e0, e1, _, _, le⟩ := X5.out
      rw [HRLm.out] at e1
      have HGP := Lib.hid (show w2.heap.size ≠ g ∧ 0 < m from ⟨hgP, by omega⟩)
      have hge : w.heap.size + 2 ≤ g := by omega
      have hz3 : w.heap.size + 2 ≤ wr.heap.size := by omega
      clear k5 K5 hgP hmg hgB
      go_wp2_with fail
      refine (HM.out _ _ _ _ B5.out S5.out).mono ?_
      rintro e w6 ⟨a6, c6, rfl, s6, b6⟩
      have Q6 := Lib.hid (Q5.out.step b6)
      have S6 := Lib.hid (s6.set2 (w.heap.size + 1) (by simp; omega) (.string lb) (.slice a6 n c6))
      have B6 := Lib.hid (B5.out.trans (b6.mono B5.out.size))
      clear b6 s6 d0 d1 e0 e1
      obtain ⟨z0, z1, z2, z3, z4⟩ := Q6.out
      go_wp2_with fail
      have Q7 := (Q6.out.put0 (.string lb)).put1 (.slice a6 n c6)
      obtain ⟨y0, y1, _, _, _⟩ := Q7
      exact bodyPost_ret (v := .tuple #[.agg #[.string lb, .slice a6 n c6], .bool false]) (by simp [results, Try.results26, go_sem, y0, y1]) rfl ⟨_, _, rfl, S6.out.mono B5.out.size, put2_below B6.out (by omega) _ _⟩
end Go.Proofs.Ytghmkfehohgmgaa.kit
