/-
  Contract of impl.sameNode over this seat's translation. Conditions: each theorem names its own.
-/
import Derived.Test.YtghmkfehohgmgaaNm6
import Derived.Test.YtghmkfehohgmgaaRe3
import Derived.Deep.LoopGhost
import Derived.Carry
namespace Go.Proofs.Ytghmkfehohgmgaa.kit
open Go.ChangeShapes Go.WideShapes Go.ChangeAt Go.RowKit
set_option linter.unusedVariables false

theorem wrap_next (k : Nat) (h : k ≤ 1048576) : wrap64 ((k : Int) + 1) = (k : Int) + 1 := by unfold wrap64; omega
theorem NT.msr_len {t u : NT} : ∀ (W : NT.Prs), (∀ p ∈ W, NT.Fit t u p) → W.length ≤ NT.msr W
  | [], _ => by simp
  | p :: W, h => by
    have h1 := NT.msr_len W (fun q hq => h q (by simp [hq]))
    have h2 := (h p (by simp)).some
    obtain ⟨x, xs, hx⟩ : ∃ x xs, p.1 = x :: xs := List.exists_cons_of_ne_nil h2
    have h3 := NT.sz_pos x
    simp only [NT.msr, hx, NT.szs, List.length_cons]
    omega
theorem NKids.first {B : Nat} {w : World} {ts : List NT} {a : Option Addr} (h : NKids B w ts a) (hn : 0 < ts.length) : ∃ b o, a = some ⟨b, o, none⟩ := by
  obtain ⟨a', c', ⟨b, o, e, _⟩, _⟩ := h.elem 0 hn
  exact ⟨b, o, e⟩
/-- What lies behind two nodes' boxes and a key's. -/
structure KBox (wr : World) (g1 g2 : Addr) (n c1 c2 : Nat) (W : World) : Prop where
  k0 : W.cell? ⟨wr.heap.size + 2, 0, none⟩ = some (.pointer (some g1))
  k1 : W.cell? ⟨wr.heap.size + 2, 1, none⟩ = some (.pointer (some g2))
  k2 : W.cell? ⟨wr.heap.size + 2, 2, none⟩ = some (.int .i64 (n : Int))
  x3 : W.cell? ⟨wr.heap.size, 3, none⟩ = some (.slice (some g1) n c1)
  y3 : W.cell? ⟨wr.heap.size + 1, 3, none⟩ = some (.slice (some g2) n c2)
  sz : W.heap.size = wr.heap.size + 3
  bel : Below wr.heap.size wr W
theorem KBox.new (wr : World) (g1 g2 : Addr) (n c1 c2 : Nat) (a0 a1 a2 b0 b1 b2 : Value) (T1 T2 T3 : TypeId) : KBox wr g1 g2 n c1 c2 ((((wr.alloc (.cells #[a0, a1, a2, .slice (some g1) n c1] T1)).alloc (.cells #[b0, b1, b2, .slice (some g2) n c2] T2)).alloc (.cells #[.pointer (some g1), .pointer (some g2), .int .i64 (n : Int)] T3)).drew) := by
  have h1 := heap_alloc_new wr (.cells #[a0, a1, a2, .slice (some g1) n c1] T1)
  have h2 := heap_alloc_new (wr.alloc (.cells #[a0, a1, a2, .slice (some g1) n c1] T1)) (.cells #[b0, b1, b2, .slice (some g2) n c2] T2)
  have h3 := heap_alloc_new ((wr.alloc (.cells #[a0, a1, a2, .slice (some g1) n c1] T1)).alloc (.cells #[b0, b1, b2, .slice (some g2) n c2] T2)) (.cells #[.pointer (some g1), .pointer (some g2), .int .i64 (n : Int)] T3)
  have z1 : (wr.alloc (.cells #[a0, a1, a2, .slice (some g1) n c1] T1)).heap.size = wr.heap.size + 1 := by simp
  have z2 : ((wr.alloc (.cells #[a0, a1, a2, .slice (some g1) n c1] T1)).alloc (.cells #[b0, b1, b2, .slice (some g2) n c2] T2)).heap.size = wr.heap.size + 2 := by simp
  rw [z1] at h2
  rw [z2] at h3
  have k3 := ((Below.refl (wr.heap.size + 2) ((wr.alloc (.cells #[a0, a1, a2, .slice (some g1) n c1] T1)).alloc (.cells #[b0, b1, b2, .slice (some g2) n c2] T2))).alloc (by simp) (.cells #[.pointer (some g1), .pointer (some g2), .int .i64 (n : Int)] T3)).block
  have e0 : (((wr.alloc (.cells #[a0, a1, a2, .slice (some g1) n c1] T1)).alloc (.cells #[b0, b1, b2, .slice (some g2) n c2] T2)).alloc (.cells #[.pointer (some g1), .pointer (some g2), .int .i64 (n : Int)] T3)).heap[wr.heap.size]? = some (.cells #[a0, a1, a2, .slice (some g1) n c1] T1) := by
    rw [k3 _ (by omega), ((Below.refl (wr.heap.size + 1) (wr.alloc (.cells #[a0, a1, a2, .slice (some g1) n c1] T1))).alloc (by simp) _).block wr.heap.size (by omega)]; exact h1
  have e1 : (((wr.alloc (.cells #[a0, a1, a2, .slice (some g1) n c1] T1)).alloc (.cells #[b0, b1, b2, .slice (some g2) n c2] T2)).alloc (.cells #[.pointer (some g1), .pointer (some g2), .int .i64 (n : Int)] T3)).heap[wr.heap.size + 1]? = some (.cells #[b0, b1, b2, .slice (some g2) n c2] T2) := by
    rw [k3 _ (by omega)]; exact h2
  refine ⟨?_, ?_, ?_, ?_, ?_, by simp [World.drew], ((((Below.refl wr.heap.size wr).alloc (Nat.le_refl _) _).alloc (by simp) _).alloc (by simp; omega) _).drew⟩
  all_goals show World.cell? (World.alloc _ _) _ = _
  · simp only [World.cell?, h3]; rfl
  · simp only [World.cell?, h3]; rfl
  · simp only [World.cell?, h3]; rfl
  · simp only [World.cell?, e0]; rfl
  · simp only [World.cell?, e1]; rfl
theorem world_abs (f : World → Prop) (W0 : World) (F : World → Prop) (h0 : F W0) (h : ∀ W, F W → f W) : f W0 := h W0 h0
set_option maxRecDepth 100000 in
set_option maxHeartbeats 2000000 in
theorem sameNode_any (t u : NT) (B : Nat) (a b : Option Addr) (ca cb : Nat) (w : World) (hk : NKids B w t.kids a) (hk' : NKids B w u.kids b) (hB : B ≠ 0) (hBw : B ≤ w.heap.size) (hsz : NT.sz t ≤ 1048576)
    (hf : t.text.size ≤ maxLen ∧ t.kids.length ≤ maxLen) (hf' : u.text.size ≤ maxLen ∧ u.kids.length ≤ maxLen) :
    Calls Try.prog 51 #[ndV t a ca, ndV u b cb] w fun e w' => e = .returned (.bool (NT.same t u)) ∧ Below w.heap.size w w' := by
  have HK := Lib.hid hk
  have HK' := Lib.hid hk'
  have hmm := fun W => run_makeMap (P := Try.prog) 92 W
  have HS := Lib.hid hsz
  have HT := Lib.hid (fun (w1 : World) (e1 e2 e3 e4 : TypeId) (o1 o2 : Array Value) hw => Outer.start (w1 := w1) (ca := ca) (cb := cb) (e1 := e1) (e2 := e2) (e3 := e3) (e4 := e4) (o1 := o1) (o2 := o2) hk hk' hBw hf hf' hw)
  have HZ := Lib.hid (fun (o1 o2 o3 o4 : Obj) => (((((Below.refl w.heap.size w).alloc (Nat.le_refl _) o1).alloc (by simp) o2).alloc (by simp; omega) o3).alloc (by simp; omega) o4))
  clear hk hk' hsz hf hf'
  unfold ndV
  go_enter Try.func51, Try.ntmps51
  go_wp2_with fail
  go_loopg [5] (NT.sz t) (fun gh v wr => ∃ (w1 : World) (n : Nat) (va : Option Addr) (vc : Nat), v = .slice va n vc ∧ w1.heap.size = w.heap.size + 4 ∧ Below w.heap.size w w1 ∧ gh ≤ NT.sz t ∧ Outer t u B w1 (w.heap.size + 5) gh wr v n)
  case atStart => exact ⟨_, 1, _, _, rfl, by simp, HZ.out _ _ _ _, Nat.le_refl _, HT.out _ _ _ _ _ _ _ rfl⟩
  case round =>
    obtain ⟨gO, hgO⟩ : ∃ gO, gO = gk := ⟨_, rfl⟩
    subst hgO
    obtain ⟨wo, hwo⟩ : ∃ wo, wo = wr := ⟨_, rfl⟩
    subst hwo
    obtain ⟨w1, n, va, vc, rfl, hs1, hb1, hgs, ho⟩ := hrel
    have HO := Lib.hid ho
    have HB1 := Lib.hid hb1
    have HGS := Lib.hid hgs
    clear ho hb1 hgs
    by_cases hn : n = 0
    · subst hn
      go_wp2_with fail
      go_ret
      exact ⟨by rw [HO.out.done]; rfl, HB1.out.trans (HO.out.below.mono (by omega))⟩
    · obtain ⟨m, rfl⟩ : ∃ m, n = m + 1 := ⟨n - 1, by omega⟩
      obtain ⟨ds, d, K, L, p, c, e1, e2, e3, e4, e5, hpw, c0, c1, hM, hfl, hky, hown, hkd, hkl, hkr⟩ := HO.out.last
      simp only [Value.slice.injEq] at e1
      obtain ⟨rfl, _, rfl⟩ := e1
      subst e2
      obtain ⟨⟨xs, ys⟩, ⟨a1, q1⟩, ⟨a2, q2⟩⟩ := d
      dsimp only at *
      have HKL := Lib.hid hkl
      have HKR := Lib.hid hkr
      have HST := Lib.hid (show ∀ T, Inn t u B w1 (w.heap.size + 5) gO wo.heap.size ((xs, ys), (a1, q1), (a2, q2)) 0 (wo.alloc (.cells #[.slice (some a1) xs.length q1, .slice (some a2) ys.length q2] T)) (.slice (some ⟨p, 0, none⟩) ds.length vc) ds.length from fun T => by
        have hal := (Below.refl wo.heap.size wo).alloc (Nat.le_refl _) (.cells #[.slice (some a1) xs.length q1, .slice (some a2) ys.length q2] T)
        have hbw := HO.out.below
        have hnew := heap_alloc_new wo (.cells #[.slice (some a1) xs.length q1, .slice (some a2) ys.length q2] T)
        refine ⟨⟨ds, K, L, rfl, ⟨_, _, rfl⟩, hown.kept hal, by simp [Value.ownBlock]; omega, hfl.kept (grown_none hal) (by simp), hky, hkd, hM⟩, by simp [Value.ownBlock]; omega, ⟨?_, ?_⟩, by simp, hbw.alloc hbw.size _⟩
        · simp only [World.cell?, hnew]; rfl
        · simp only [World.cell?, hnew]; rfl)
      clear hM hfl hky hown hkd hkl hkr hn
      generalize hn : ds.length = m at *
      have hw : wrap64 (m : Int) = (m : Int) := by
        simp only [maxLen] at e4
        unfold wrap64; omega
      have hi0 : (0 : Int) ≤ (m : Int) := by omega
      have hi1 : (m : Int) < (m : Int) + 1 := by omega
      have hi2 : (m : Int) ≤ (vc : Int) := by omega
      have HN := Lib.hid hn
      have HPG := Lib.hid (show w.heap.size + 5 < wo.heap.size from by
        obtain ⟨_, _, _, _, _, _, _, hF, _⟩ := HO.out.ex
        exact hF.lt)
      clear hn
      go_wp2_with fail
      go_loopg [5, 36] (xs.length) (fun gj v i wx => ∃ (k n : Nat) (va : Option Addr) (vc : Nat), v = .slice va n vc ∧ i = .int .i64 (k : Int) ∧ k + gj = xs.length ∧ Inn t u B w1 (w.heap.size + 5) gO wo.heap.size ((xs, ys), (a1, q1), (a2, q2)) k wx v n)
      case atStart => exact ⟨0, m, _, _, rfl, rfl, by omega, HST.out _⟩
      case round =>
        obtain ⟨k, n, va, vc2, rfl, rfl, hkg, hin⟩ := hrel
        have HI := Lib.hid hin
        clear hin hw
        by_cases hlt : k < xs.length
        · have hly : xs.length = ys.length := HI.out.len
          have hlt2 : k < ys.length := by omega
          obtain ⟨a', ca', ⟨b1, o1, eA, _, hbl, ⟨n0, n1, n2, n3⟩, ft, fk⟩, kA⟩ := HKL.out.elem k hlt
          obtain ⟨b', cb', ⟨b2, o2, eB, _, hbl2, ⟨r0, r1, r2, r3⟩, ft2, fk2⟩, kB⟩ := HKR.out.elem k hlt2
          cases eA
          cases eB
          have hbb := HI.out.below
          have n0 := (hbb.cell (p := ⟨b1, o1 + k * 4, none⟩) hbl).trans n0
          have n1 := (hbb.cell (p := ⟨b1, o1 + k * 4 + 1, none⟩) hbl).trans n1
          have n2 := (hbb.cell (p := ⟨b1, o1 + k * 4 + 2, none⟩) hbl).trans n2
          have n3 := (hbb.cell (p := ⟨b1, o1 + k * 4 + 3, none⟩) hbl).trans n3
          have r0 := (hbb.cell (p := ⟨b2, o2 + k * 4, none⟩) hbl2).trans r0
          have r1 := (hbb.cell (p := ⟨b2, o2 + k * 4 + 1, none⟩) hbl2).trans r1
          have r2 := (hbb.cell (p := ⟨b2, o2 + k * 4 + 2, none⟩) hbl2).trans r2
          have r3 := (hbb.cell (p := ⟨b2, o2 + k * 4 + 3, none⟩) hbl2).trans r3
          have l1 : b1 < wr.heap.size := Nat.lt_of_lt_of_le hbl hbb.size
          have l2 : b2 < wr.heap.size := Nat.lt_of_lt_of_le hbl2 hbb.size
          obtain ⟨w0, w0'⟩ := HI.out.box
          have lq := HI.out.lt
          have HBX := Lib.hid (show ∀ o1 o2, Below w.heap.size w ((wr.alloc o1).alloc o2) from fun o1 o2 => ((HB1.out.trans (hbb.mono (by omega))).alloc (by have := hbb.size; omega) o1).alloc (by have := hbb.size; simp; omega) o2)
          have HNO := Lib.hid (fun ht => HI.out.no hlt hlt2 ht)
          have HLEAF := Lib.hid (fun ht hk => HI.out.leaf hlt hlt2 ht hk)
          obtain ⟨ds2, K2, L2, f1, f2, f3, f4, f5, f6, f7, f8⟩ := HI.out.ex
          have hds : ds2.length ≤ 1048576 := by
            have g1 := NT.msr_len _ f8.fit
            have g2 := f8.sum
            have g3 := HGS.out
            have g4 := HS.out
            simp only [List.length_map] at g1
            omega
          have HDS := Lib.hid hds
          have HKW := Lib.hid (wrap_next k (Nat.le_trans (Nat.le_trans (Nat.le_trans (Nat.le_trans (Nat.le_add_left k _) (Nat.le_add_right _ _)) f8.sum) HGS.out) HS.out))
          have HKN := Lib.hid (show ∀ (key : Addr × Addr × Int) (ht : NT.top xs[k] ys[k] = true) (hk : key ∈ L2) (hp : KeyPr B w1 key (xs[k].kids, ys[k].kids)), Inn t u B w1 (w.heap.size + 5) gO wo.heap.size ((xs, ys), (⟨b1, o1, none⟩, q1), (⟨b2, o2, none⟩, q2)) (k + 1) wr (.slice va n vc2) n from fun key ht hk hp =>
            ⟨⟨ds2, K2, L2, f1, f2, f3, f4, f5, f6, f7, f8.step hlt hlt2 ht (.inr (f6.known hk hp))⟩, HI.out.own, HI.out.box, HI.out.lt, HI.out.below⟩)
          have HOK := Lib.hid (show ∀ (W : World) (hb : Below wr.heap.size wr W), Flags W (w.heap.size + 5) L2 ∧ (∀ k' ∈ L2, KyOk W k') ∧ OwnP w1.heap.size W (.slice va n vc2) ds2 from fun W hb =>
            ⟨f5.kept (grown_none hb) (by simp), fun k' hk' => ((f6.ok hB k' hk').far hbb).far (hb.mono (Nat.le_refl _)), f3.kept hb⟩)
          have HPU := Lib.hid (fun (ht : NT.top xs[k] ys[k] = true) (hk : xs[k].kids ≠ []) (W0 w2 w3 : World) (hb0 : Below wr.heap.size wr W0) (a' : Option Addr) (c' : Nat) (o : Obj) (key : Addr × Addr × Int) (A1 A2 : Addr × Nat) (hF2 : Flags w2 (w.heap.size + 5) (L2 ++ [key])) (hg2 : W0.grownBy w2 (some (w.heap.size + 5)))
              (hO3 : OwnP w1.heap.size w3 (.slice a' (ds2.length + 1) c') (ds2 ++ [((xs[k].kids, ys[k].kids), A1, A2)])) (hg3 : (w2.alloc o).grownBy w3 (Value.ownBlock (.slice va n vc2))) (hv' : ∀ k, Value.ownBlock (.slice a' (ds2.length + 1) c') = some k → Value.ownBlock (.slice va n vc2) = some k ∨ (w2.alloc o).heap.size ≤ k)
              (hkp : KeyPr B w1 key (xs[k].kids, ys[k].kids)) (hke : NKids B w1 xs[k].kids (some A1.1) ∧ NKids B w1 ys[k].kids (some A2.1)) =>
            Inn.push (t := t) (u := u) (B := B) (w1 := w1) (g := w.heap.size + 5) (M := gO) (q := wo.heap.size) (d := ((xs, ys), (⟨b1, o1, none⟩, q1), (⟨b2, o2, none⟩, q2))) (i := k) (e := ((xs[k].kids, ys[k].kids), A1, A2)) (by have := HPG.out; omega) (by omega) (f3.kept hb0) f4 HI.out.own f6 f7 f8 (HI.out.kept hb0).box (HI.out.kept hb0).lt (by have := HPG.out; have := HI.out.lt; have := hb0.size; omega) (HI.out.kept hb0).below hF2 hg2 hO3 hg3 hv' ⟨_, _, rfl⟩ rfl hkp hke hlt hlt2 rfl ht hk)
          have HF1 := Lib.hid f1
          have HVG := Lib.hid f4
          clear f1 f2 f3 f4 f5 f6 f7 f8 hds hbb
          generalize xs[k] = x at *
          generalize ys[k] = y at *
          obtain ⟨k0, m0, s0, ts⟩ := x
          obtain ⟨k1, m1, s1, us⟩ := y
          unfold NT.top at HNO HLEAF HKN HPU
          simp only [NT.text, NT.kids, NT.kind, NT.num] at *
          have i0 : (0 : Int) ≤ (k : Int) := by omega
          have i1 : (k : Int) < (xs.length : Int) := by omega
          have i2 : (k : Int) < (ys.length : Int) := by omega
          have HLY := Lib.hid hly
          have HLT := Lib.hid hlt
          clear hlt hlt2 hly
          by_cases c1 : k0 = k1
          case neg =>
            have e1 : (k0 == k1) = false := by simpa using c1
            have E := Lib.hid (HNO.out (by rw [e1]; rfl))
            go_wp2_with fail
            go_ret
            exact ⟨ret_bool E.out.symm, HBX.out _ _⟩
          subst c1
          by_cases c2 : m0 = m1
          case neg =>
            have e1 : (m0 == m1) = false := by simpa using c2
            have E := Lib.hid (HNO.out (by rw [e1]; simp))
            go_wp2_with fail
            go_ret
            exact ⟨ret_bool E.out.symm, HBX.out _ _⟩
          subst c2
          cases c3 : (s0.toList == s1.toList)
          case false =>
            have E := Lib.hid (HNO.out (by rw [c3]; simp))
            go_wp2_with fail
            go_ret
            exact ⟨ret_bool E.out.symm, HBX.out _ _⟩
          by_cases c4 : ts.length = us.length
          case neg =>
            have e1 : ((ts.length : Int) == (us.length : Int)) = false := by rw [beq_eq_false_iff_ne]; omega
            have e4 : (ts.length == us.length) = false := by simpa using c4
            have E := Lib.hid (HNO.out (by rw [e4]; simp))
            go_wp2_with fail
            go_ret
            exact ⟨ret_bool E.out.symm, HBX.out _ _⟩
          have e4 : (ts.length == us.length) = true := by simpa using c4
          have HTOP := Lib.hid (show (k0 == k0 && m0 == m0 && (s0.toList == s1.toList) && (ts.length == us.length)) = true by rw [c3, e4]; simp)
          clear HNO e4
          have HL := Lib.hid c4
          rw [← c4] at r3
          clear c4
          by_cases c5 : ts.length = 0
          · have HNX := Lib.hid (HLEAF.out HTOP.out (List.length_eq_zero_iff.1 c5))
            have c6 : (ts.length : Int) = 0 := by omega
            go_wp2_with fail
            go_roundg (xs.length - (k + 1))
            case measure => have := HLT.out; omega
            case rel => exact ⟨k + 1, n, va, vc2, rfl, by rw [HKW.out]; go_num, by have := HLT.out; omega, HNX.out.kept (((Below.refl wr.heap.size wr).alloc (Nat.le_refl _) _).alloc (by simp) _)⟩
          · have c6 : ¬ (ts.length : Int) = 0 := by omega
            have c7 : (0 : Int) < (ts.length : Int) := by omega
            obtain ⟨g1, z1, rfl⟩ := NKids.first kA (by omega)
            obtain ⟨g2, z2, rfl⟩ := NKids.first kB (by have := HL.out; omega)
            have HKP := Lib.hid (show KeyPr B w1 (⟨g1, z1, none⟩, ⟨g2, z2, none⟩, (ts.length : Int)) (ts, us) from ⟨rfl, fun e => c5 (by simp only at e; rw [e]; rfl), HL.out, kA, kB⟩)
            have HKE := Lib.hid (show NKids B w1 ts (some ⟨g1, z1, none⟩) ∧ NKids B w1 us (some ⟨g2, z2, none⟩) from ⟨kA, kB⟩)
            have HNE := Lib.hid (show ts ≠ [] from fun e => c5 (by rw [e]; rfl))
            have HOW := Lib.hid (show ∀ (W0 w2 : World) (hb : Below wr.heap.size wr W0) (hg : W0.grownBy w2 (some (w.heap.size + 5))) (o : Obj), OwnP w1.heap.size (w2.alloc o) (.slice va n vc2) ds2 from fun W0 w2 hb hg o =>
              (((HOK.out W0 hb).2.2).other hg (.inr HVG.out)).kept ((Below.refl _ _).alloc (Nat.le_refl _) o))
            have HZ1 := Lib.hid (show ∀ (W0 w2 : World) (hb : Below wr.heap.size wr W0) (hg : W0.grownBy w2 (some (w.heap.size + 5))) (o : Obj), w1.heap.size ≤ (w2.alloc o).heap.size from fun W0 w2 hb hg o => by
              have := HI.out.below.size; have := hb.size; have := hg.size; simp; omega)
            have HDS2 := Lib.hid (show ds2.length + 1 ≤ 1099511627776 by have := HDS.out; omega)
            have HP0 := Lib.hid (show ∀ (w2 : World) T, (w2.alloc (.cells #[.slice (some ⟨g1, z1, none⟩) ts.length ca', .slice (some ⟨g2, z2, none⟩) ts.length cb'] T)).cell? ⟨w2.heap.size, 0, none⟩ = some (.slice (some ⟨g1, z1, none⟩) ts.length ca') from fun w2 T => by
              rw [World.cell?_alloc_at _ _ _ _ rfl]; rfl)
            have HP1 := Lib.hid (show ∀ (w2 : World) T, (w2.alloc (.cells #[.slice (some ⟨g1, z1, none⟩) ts.length ca', .slice (some ⟨g2, z2, none⟩) ts.length cb'] T)).cell? ⟨w2.heap.size, 1, none⟩ = some (.slice (some ⟨g2, z2, none⟩) us.length cb') from fun w2 T => by
              rw [World.cell?_alloc_at _ _ _ _ rfl, ← HL.out]; rfl)
            clear kA kB
            go_wp2_with fail
            go_region
            refine world_abs (Exit.then _ _ Exit.normal _) _ (KBox wr ⟨g1, z1, none⟩ ⟨g2, z2, none⟩ ts.length ca' cb') (KBox.new wr ⟨g1, z1, none⟩ ⟨g2, z2, none⟩ ts.length ca' cb' _ _ _ _ _ _ _ _ _) ?_
            intro W hKB
            have HKB := Lib.hid hKB
            obtain ⟨kb0, kb1, kb2, kb3, kb4, kbz, _⟩ := hKB
            have HKY := Lib.hid (((HKP.out.ok hB).far HI.out.below).far HKB.out.bel)
            have HGQ := Lib.hid (show w.heap.size + 5 ≠ wr.heap.size ∧ w.heap.size + 5 ≠ wr.heap.size + 1 ∧ wr.heap.size < W.heap.size ∧ wr.heap.size + 1 < W.heap.size from by have := HPG.out; omega)
            by_cases hmem : ((⟨g1, z1, none⟩, ⟨g2, z2, none⟩, (ts.length : Int)) : Addr × Addr × Int) ∈ L2
            · have HIN := Lib.hid ((HKN.out _ HTOP.out hmem HKP.out).kept HKB.out.bel)
              have hdec : decide (((⟨g1, z1, none⟩, ⟨g2, z2, none⟩, (ts.length : Int)) : Addr × Addr × Int) ∈ L2) = true := decide_eq_true hmem
              go_wp2_with (refine wpList_look_flags _ rfl (.tmp 88) (.tmp 89) rfl (w.heap.size + 5) L2 (⟨g1, z1, none⟩, ⟨g2, z2, none⟩, (ts.length : Int)) rfl (HOK.out _ HKB.out.bel).1 (HOK.out _ HKB.out.bel).2.1 rfl HKY.out ?_)
              go_roundg (xs.length - (k + 1))
              case measure => have := HLT.out; omega
              case rel => exact ⟨k + 1, n, va, vc2, rfl, by rw [HKW.out]; go_num, by have := HLT.out; omega, HIN.out⟩
            · have hdec : decide (((⟨g1, z1, none⟩, ⟨g2, z2, none⟩, (ts.length : Int)) : Addr × Addr × Int) ∈ L2) = false := decide_eq_false hmem
              have HMEM := Lib.hid hmem
              clear hmem
              go_wp2_with (first | (refine wpList_look_flags _ rfl (.tmp 88) (.tmp 89) rfl (w.heap.size + 5) L2 (⟨g1, z1, none⟩, ⟨g2, z2, none⟩, (ts.length : Int)) rfl (HOK.out _ HKB.out.bel).1 (HOK.out _ HKB.out.bel).2.1 rfl HKY.out ?_) | (refine wpList_put_flags _ rfl (.tmp 92) (.tmp 93) _ rfl (w.heap.size + 5) L2 (⟨g1, z1, none⟩, ⟨g2, z2, none⟩, (ts.length : Int)) rfl (HOK.out _ HKB.out.bel).1 (HOK.out _ HKB.out.bel).2.1 rfl rfl HKY.out HMEM.out ?_; intro w2 hF2 hg2; have HF2 := Lib.hid hF2; have HG2 := Lib.hid hg2; have y0 := (World.cell?_of_block (a := ⟨wr.heap.size, 3, none⟩) (hg2.block wr.heap.size HGQ.out.2.2.1 (fun e => HGQ.out.1 (Option.some.inj e).symm))).trans HKB.out.x3; have y1 := (World.cell?_of_block (a := ⟨wr.heap.size + 1, 3, none⟩) (hg2.block (wr.heap.size + 1) HGQ.out.2.2.2 (fun e => HGQ.out.2.1 (Option.some.inj e).symm))).trans HKB.out.y3; clear hF2 hg2) | (at_builtin; refine wp_append_pair2 rfl _ _ rfl w1.heap.size (.slice va n vc2) ds2 rfl (HOW.out _ w2 HKB.out.bel HG2.out _) w2.heap.size 1 ((ts, us), (⟨g1, z1, none⟩, ca'), (⟨g2, z2, none⟩, cb')) rfl (HP0.out w2 _) (HP1.out w2 _) HDS2.out (HZ1.out _ w2 HKB.out.bel HG2.out _) ?_; intro a9 c9 w9 hO9 hg9 hv9; have HO9 := Lib.hid hO9; have HG9 := Lib.hid hg9; have HV9 := Lib.hid hv9; clear hO9 hg9 hv9))
              go_roundg (xs.length - (k + 1))
              case measure => have := HLT.out; omega
              case rel => exact ⟨k + 1, ds2.length + 1, a9, c9, rfl, by rw [HKW.out]; go_num, by have := HLT.out; omega, HPU.out HTOP.out HNE.out W w2 w9 HKB.out.bel a9 c9 _ (⟨g1, z1, none⟩, ⟨g2, z2, none⟩, (ts.length : Int)) (⟨g1, z1, none⟩, ca') (⟨g2, z2, none⟩, cb') HF2.out HG2.out HO9.out HG9.out HV9.out HKP.out HKE.out⟩
        · obtain rfl : k = xs.length := by omega
          obtain ⟨M', hM1, hM2⟩ := HI.out.out
          have HM2 := Lib.hid hM2
          have HM1 := Lib.hid hM1
          clear hM1 hM2
          go_wp2_with fail
          go_roundg M'
          case measure => exact HM1.out
          case rel => exact ⟨w1, n, va, vc2, rfl, hs1, HB1.out, Nat.le_trans (Nat.le_of_lt HM1.out) HGS.out, HM2.out⟩
end Go.Proofs.Ytghmkfehohgmgaa.kit
