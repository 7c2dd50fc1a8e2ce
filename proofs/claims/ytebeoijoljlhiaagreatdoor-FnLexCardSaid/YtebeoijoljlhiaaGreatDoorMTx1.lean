/-
  Contract of spec.l01Text over this seat's translation: it gives a text of so many bytes, and so it ends. Conditions: the cursor is one; at most 100 bytes are asked for.
-/
import Derived.Test.YtebeoijoljlhiaaGreatDoorMCu2
import Derived.Test.YtebeoijoljlhiaaGreatDoorMCu3
import Derived.Deep.LoopGhost
namespace Go.Proofs.YtebeoijoljlhiaaGreatDoor.kit
open Go.ChangeShapes Go.WideShapes Go.ChangeAt Go.RowKit
set_option linter.unusedVariables false

theorem Own.only {e : TypeId} {b B : Nat} {w w' : World} {v : Value} {xs : List UInt8} (h : Own e b w v xs) (ho : OnlyB B w w') (hB : B < b) : Own e b w' v xs :=
  World.ownsRow.kept h ho (by
    cases hv : v.ownBlock with
    | none => exact .inl rfl
    | some k => right; intro hk; cases hk; have := (World.ownsRow.lt h _ hv).1; omega)
theorem OnlyB.then {B : Nat} {w x y : World} (h : OnlyB B w x) (hb : Below w.heap.size x y) : OnlyB B w y :=
  ⟨hb.os.trans h.os, hb.tape.trans h.tape, hb.output.trans h.output, Nat.le_trans h.size hb.size, fun j hj hn => (hb.block j hj).trans (h.block j hj hn)⟩
theorem Cur.kept {w w' : World} {B C : Nat} {a : Option Addr} {n cap i : Nat} {h : Int} (c : Cur w B a n cap i h) (hb : Below C w w') (hC : B < C) : Cur w' B a n cap i h :=
  ⟨Nat.lt_of_lt_of_le c.lt hb.size, (hb.cell (p := ⟨B, 0, none⟩) hC).trans c.c0, (hb.cell (p := ⟨B, 1, none⟩) hC).trans c.c1, (hb.cell (p := ⟨B, 2, none⟩) hC).trans c.c2, (hb.frozen (p := ⟨B, 1, none⟩) hC).trans c.f1, (hb.frozen (p := ⟨B, 2, none⟩) hC).trans c.f2, c.le, c.nle, fun j hj => by
    obtain ⟨b, off, x, e, h1, h2, h3⟩ := c.code j hj
    exact ⟨b, off, x, e, h1, (hb.cell (p := ⟨b, off + j, none⟩) (Nat.lt_trans h1 hC)).trans h2, h3⟩⟩
theorem Cur.e {w : World} {B : Nat} {a : Option Addr} {n cap i : Nat} {h : Int} (c : Cur w B a n cap i h) : CurE w B := ⟨a, n, cap, i, h, c⟩
/-- One byte further in the code, or in the sequence behind it. -/
def Nxt (n i i' : Nat) : Prop := i < n ∧ i' = i + 1 ∨ i = n ∧ i' = n
def GotX (k : Int) (B : Nat) (a : Option Addr) (n cap i : Nat) (h : Int) (w : World) (e : Ending) (w' : World) : Prop :=
  ∃ (x : Int) (i' : Nat), 0 ≤ x ∧ x < k ∧ e = .returned (.int .i64 x) ∧ Cur w' B a n cap i' (nextH h) ∧ Nxt n i i' ∧ (i = n → x = bt (nextH h) % k) ∧ OnlyB B w w'
theorem belowX (B : Nat) (k : Int) (a : Option Addr) (n cap i : Nat) (h : Int) (w : World) (hc : Cur w B a n cap i h) (hk : 1 ≤ k) (hk2 : k ≤ 256) :
    Calls Tryz.prog 42 #[.pointer (some ⟨B, 0, none⟩), .int .i64 k] w (GotX k B a n cap i h w) := by
  go_enter Tryz.func42, Tryz.ntmps42
  go_wp2_with fail
  refine (byte_any B a n cap i h _ hc).mono ?_
  rintro e w1 ⟨x, i', x0, x1, rfl, c1, hst, o1⟩
  have HS := Lib.hid hst
  clear hst
  go_wp2
  go_ret
  refine ⟨_, i', Int.emod_nonneg _ (by omega), Int.emod_lt_of_pos _ (by omega), rfl, c1, ?_, ?_, o1⟩
  · rcases HS.out with ⟨h1, h2⟩ | ⟨h1, h2, _⟩
    · exact .inl ⟨h1, h2⟩
    · exact .inr ⟨h1, h2⟩
  · intro e
    rcases HS.out with ⟨h1, _⟩ | ⟨_, _, h3⟩
    · omega
    · rw [h3]
/-- What holds at each round's head. -/
def TxR (B : Nat) (a : Option Addr) (cn cap n : Nat) (w : World) (gk : Nat) (v : Value) (wr : World) : Prop :=
  ∃ (xs : List UInt8) (i : Nat) (h : Int) (g c : Nat), gk = mu (n - xs.length) (cn - i) h ∧ xs.length ≤ n + 20 ∧ v = .slice (some ⟨g, 0, none⟩) xs.length c ∧ Own 5 w.heap.size wr v xs ∧ Cur wr B a cn cap i h ∧ OnlyB B w wr
theorem own_some {e : TypeId} {b : Nat} {w : World} {v : Value} {xs : List UInt8} (h : Own e b w v xs) (hne : xs ≠ []) : ∃ g c, v = .slice (some ⟨g, 0, none⟩) xs.length c := by
  rcases h.is_slice with ⟨_, h0⟩ | ⟨g, c, e, _⟩
  · exact absurd h0 hne
  · exact ⟨g, c, e⟩
theorem nxt_facts {n i i' : Nat} (h : Nxt n i i') : (i < n ∧ i' = i + 1) ∨ (i = n ∧ i' = n) := h
theorem mu_round {n xl yl cn i i' : Nat} {h h' : Int} (h1 : xl ≤ yl) (h2 : xl < n) (h3 : i' ≤ cn) (h4 : cn ≤ 1048576) (h5 : i ≤ cn) (hz : yl = xl → i < i' ∨ (i = cn ∧ i' = cn ∧ mS h' < mS h)) : mu (n - yl) (cn - i') h' < mu (n - xl) (cn - i) h := by
  by_cases e : yl = xl
  · rcases hz e with g | ⟨g1, g2, g3⟩
    · rw [e]; exact mu_left (by omega)
    · rw [e, g1, g2]; exact mu_near g3
  · exact mu_lack (by omega) (by omega)
theorem bad_of {h x : Int} (hx : x = bt (nextH h) % 5) (h1 : x = 1 ∨ x = 2) : ¬ good h := by unfold good; omega
theorem own_at {w : World} {b g m c : Nat} {xs : List UInt8} (h : Own 5 b w (.slice (some ⟨g, 0, none⟩) m c) xs) (j : Nat) (hj : j < xs.length) : w.cell? ⟨g, j, none⟩ = some (.int .u8 (xs[j].toNat : Int)) := by
  have := World.ownsRow.cells h rfl j (.int .u8 (xs[j].toNat : Int)) (by rw [List.getElem?_map, List.getElem?_eq_getElem hj]; rfl)
  rwa [add_plain, Nat.zero_add] at this
theorem own_cap {e : TypeId} {b : Nat} {w : World} {g m c : Nat} {xs : List UInt8} (h : Own e b w (.slice (some ⟨g, 0, none⟩) m c) xs) : xs.length ≤ c := by
  rcases h.2 with ⟨h0, _⟩ | ⟨g', cap, cur, hv, hb, hg, hn, _⟩
  · cases h0
  · cases hv; exact hn
theorem own_front {w : World} {b g m c : Nat} {xs : List UInt8} (h : Own 5 b w (.slice (some ⟨g, 0, none⟩) m c) xs) (n : Nat) (hn : n ≤ xs.length) :
    (convert 22 9 (.slice (some ⟨g, 0, none⟩) n c)).run Tryz.prog w = .ok (.string ⟨(xs.take n).toArray⟩) w := by
  have hl : (xs.take n).length = n := by rw [List.length_take]; omega
  have := run_convert_bytes_back (P := Tryz.prog) w 22 9 5 ⟨g, 0, none⟩ c (xs.take n) Tryz.underlying22 Tryz.underlying5 Tryz.underlying9 (fun j hj => by
    refine World.ownsRow.cells h rfl j _ ?_
    rw [List.getElem?_map, List.getElem?_eq_getElem (by omega)]
    simp [List.getElem_take])
  rwa [hl] at this
set_option maxRecDepth 100000 in
set_option maxHeartbeats 4000000 in
theorem text_any (B : Nat) (n : Nat) (w : World) (hc : CurE w B) (hn : n ≤ 100) :
    Calls Tryz.prog 131 #[.pointer (some ⟨B, 0, none⟩), .int .i64 (n : Int)] w (GotS (fun s => s.size = n) B w) := by
  obtain ⟨a, cn, cap, i0, h0, hc⟩ := hc
  have HC := Lib.hid hc
  have hBw := hc.lt
  clear hc
  go_enter Tryz.func131, Tryz.ntmps131
  go_wp2
  go_loopg [5] (mu n (cn - i0) h0) (fun gk v wr => TxR B a cn cap n w gk v wr)
  case atStart =>
    exact ⟨[], i0, h0, _, _, by simp, by simp, rfl, own_start (Nat.le_refl _), HC.out.kept ((Below.refl _ _).alloc (Nat.le_refl _) _) hBw, (OnlyB.refl B w).alloc _⟩
  case round =>
    obtain ⟨xs, i, h, g, c, rfl, hxs, rfl, hown, hcur, hon⟩ := hrel
    have HO := Lib.hid hown
    have HQ := Lib.hid hcur
    have HN := Lib.hid hon
    have hz := hon.size
    have hile := hcur.le
    have hcle := hcur.nle
    clear hown hcur hon
    by_cases hlt : xs.length < n
    · have d1 : decide (xs.length < n) = true := by simpa using hlt
      go_wp2_with fail
      refine (belowX B 5 a cn cap i h _ HQ.out (by omega) (by omega)).mono ?_
      rintro e w1 ⟨x, i1, x0, x1, rfl, q1, nx1, sel, o1⟩
      have HO1 := Lib.hid (HO.out.only o1 hBw)
      have HQ1 := Lib.hid q1
      have HN1 := Lib.hid (HN.out.trans o1)
      have SEL := Lib.hid sel
      have NX1 := Lib.hid nx1
      clear q1 o1 sel nx1
      by_cases e0 : x = 0
      · skip
        subst e0
        go_wp2_with fail
        refine (byte_any B a cn cap i1 (nextH h) _ HQ1.out).mono ?_
        rintro e w2 ⟨y, i2, y0, y1, rfl, qq, nx, oo⟩
        have HO2 := Lib.hid (HO1.out.only oo hBw)
        have HQ2 := Lib.hid qq
        have HN2 := Lib.hid (HN1.out.trans oo)
        have NX2 : Hid (Nxt cn i1 i2) := Lib.hid (by rcases nx with ⟨a1, a2⟩ | ⟨a1, a2, _⟩; exact .inl ⟨a1, a2⟩; exact .inr ⟨a1, a2⟩)
        have z2 := HN2.out.size
        clear qq nx oo
        obtain ⟨cb, rfl⟩ : ∃ cb : UInt8, y = (cb.toNat : Int) := ⟨UInt8.ofNat y.toNat, by rw [UInt8.toNat_ofNat']; omega⟩
        have hcb : cb.toNat < 256 := cb.toNat_lt
        go_wp2_with (at_builtin; refine wp_append_bytes Tryz.underlying22 Tryz.infoU8 rfl _ _ rfl w.heap.size _ _ rfl (HO2.out.alloc _) ⟨w2.heap.size, 0, none⟩ 1 1 [cb] rfl rfl (news_one _ _ _) (by simp; omega) (by simp; omega) ?_; intro v' wa howna hbela)
        obtain ⟨ga, ca, rfl⟩ := own_some howna (by simp)
        go_roundg (mu (n - (xs ++ [cb]).length) (cn - i2) (nextH (nextH h)))
        case measure =>
          have f1 := nxt_facts NX1.out
          have f2 := nxt_facts NX2.out
          refine mu_round (by simp) hlt (by omega) hcle hile (fun e => ?_)
          simp at e
        case rel =>
          have hb := ((Below.refl w.heap.size w2).alloc z2 _).trans hbela
          exact ⟨xs ++ [cb], i2, _, ga, ca, rfl, by simp; omega, rfl, howna, HQ2.out.kept hb hBw, HN2.out.then hb⟩
      · have b0 : (x == 0) = false := by simpa using e0
        by_cases e1 : x = 1
        · skip
          subst e1
          go_wp2_with fail
          refine (belowX B 9 a cn cap i1 (nextH h) _ HQ1.out (by omega) (by omega)).mono ?_
          rintro e w2 ⟨y, i2, y0, y1, rfl, qq, nx, _, oo⟩
          have HO2 := Lib.hid (HO1.out.only oo hBw)
          have HQ2 := Lib.hid qq
          have HN2 := Lib.hid (HN1.out.trans oo)
          have NX2 := Lib.hid nx
          have z2 := HN2.out.size
          clear qq nx oo
          go_wp2_with fail
          refine (belowX B 4 a cn cap i2 (nextH (nextH h)) _ HQ2.out (by omega) (by omega)).mono ?_
          rintro e w3 ⟨z, i3, z0, z1, rfl, qq, nx, _, oo⟩
          have HO3 := Lib.hid (HO2.out.only oo hBw)
          have HQ3 := Lib.hid qq
          have HN3 := Lib.hid (HN2.out.trans oo)
          have NX3 := Lib.hid nx
          have z3 := HN3.out.size
          clear qq nx oo
          obtain ⟨cb, hcb⟩ : ∃ cb : UInt8, 97 + z = (cb.toNat : Int) := ⟨UInt8.ofNat (97 + z).toNat, by rw [UInt8.toNat_ofNat']; omega⟩
          have hcb2 : cb.toNat < 256 := cb.toNat_lt
          obtain ⟨k, rfl⟩ : ∃ k : Nat, y = (k : Int) := ⟨y.toNat, by omega⟩
          go_wp2
          obtain ⟨wo, rfl⟩ : ∃ wo : World, wo = w3 := ⟨_, rfl⟩
          go_loopw [5, 8] (fun v j wx => ∃ (ys : List UInt8) (jN ga ca : Nat), j = .int .i64 (jN : Int) ∧ jN ≤ k ∧ ys.length = xs.length + jN ∧ v = .slice (some ⟨ga, 0, none⟩) ys.length ca ∧ Own 5 w.heap.size wx v ys ∧ Cur wx B a cn cap i3 (nextH (nextH (nextH h))) ∧ OnlyB B w wx) (fun _ j _ => k - (intOf j).toNat)
          case atStart => exact ⟨xs, 0, g, c, rfl, Nat.zero_le _, by simp, rfl, HO3.out, HQ3.out, HN3.out⟩
          case round =>
            obtain ⟨ys, jN, ga, ca, rfl, hjk, hyl, rfl, own4, cur4, on4⟩ := hrel
            have HO4 := Lib.hid own4
            have HQ4 := Lib.hid cur4
            have HN4 := Lib.hid on4
            have z4 := on4.size
            clear own4 cur4 on4
            by_cases hjl : jN < k
            · have dj : decide (jN < k) = true := by simpa using hjl
              go_wp2_with (at_builtin; refine wp_append_bytes Tryz.underlying22 Tryz.infoU8 rfl _ _ rfl w.heap.size _ _ rfl (HO4.out.alloc _) ⟨wr.heap.size, 0, none⟩ 1 1 [cb] rfl rfl (news_one _ _ _) (by simp; omega) (by simp; omega) ?_; intro v' wa howna hbela)
              obtain ⟨gb, cc, rfl⟩ := own_some howna (by simp)
              have hb := ((Below.refl w.heap.size wr).alloc z4 _).trans hbela
              go_roundw
              case rel => exact ⟨ys ++ [cb], jN + 1, gb, cc, by go_num, by omega, by simp; omega, rfl, howna, HQ4.out.kept hb hBw, HN4.out.then hb⟩
              case measure => simp [intOf]; omega
            · have dj : decide (jN < k) = false := by simpa using hjl
              go_wp2
              go_roundg (mu (n - ys.length) (cn - i3) (nextH (nextH (nextH h))))
              case measure =>
                have f1 := nxt_facts NX1.out
                have f2 := nxt_facts NX2.out
                have f3 := nxt_facts NX3.out
                refine mu_round (by omega) hlt (by omega) hcle hile (fun e => ?_)
                by_cases g1 : i < cn
                · exact .inl (by omega)
                · exact .inr ⟨by omega, by omega, step3 (bad_of (SEL.out (by omega)) (by omega))⟩
              case rel => exact ⟨ys, i3, _, ga, ca, rfl, by omega, rfl, HO4.out, HQ4.out, HN4.out⟩
        · have b1 : (x == 1) = false := by simpa using e1
          by_cases e2 : x = 2
          · skip
            subst e2
            by_cases hx0 : xs.length = 0
            · have d0 : decide (0 < xs.length) = false := by simpa using hx0
              have hx00 : xs.length ≤ 0 := by omega
              clear hx0
              go_wp2
              go_roundg (mu (n - xs.length) (cn - i1) (nextH h))
              case measure =>
                have f1 := nxt_facts NX1.out
                refine mu_round (by omega) hlt (by omega) hcle hile (fun e => ?_)
                by_cases g1 : i < cn
                · exact .inl (by omega)
                · exact .inr ⟨by omega, by omega, step1 (bad_of (SEL.out (by omega)) (by omega))⟩
              case rel => exact ⟨xs, i1, _, g, c, rfl, by omega, rfl, HO1.out, HQ1.out, HN1.out⟩
            · have hx1 : 0 < xs.length := by omega
              have d0 : decide (0 < xs.length) = true := by simpa using hx1
              go_wp2_with fail
              refine (belowX B xs.length a cn cap i1 (nextH h) _ HQ1.out (by omega) (by omega)).mono ?_
              rintro e w2 ⟨f, i2, f0, f1, rfl, qq, nx, _, oo⟩
              have HO2 := Lib.hid (HO1.out.only oo hBw)
              have HQ2 := Lib.hid qq
              have HN2 := Lib.hid (HN1.out.trans oo)
              have NX2 := Lib.hid nx
              have z2 := HN2.out.size
              clear qq nx oo
              go_wp2_with fail
              refine (belowX B 20 a cn cap i2 (nextH (nextH h)) _ HQ2.out (by omega) (by omega)).mono ?_
              rintro e w3 ⟨y, i3, y0, y1, rfl, qq, nx, _, oo⟩
              have HO3 := Lib.hid (HO2.out.only oo hBw)
              have HQ3 := Lib.hid qq
              have HN3 := Lib.hid (HN2.out.trans oo)
              have NX3 := Lib.hid nx
              have z3 := HN3.out.size
              clear qq nx oo
              obtain ⟨k, rfl⟩ : ∃ k : Nat, y = (k : Int) := ⟨y.toNat, by omega⟩
              obtain ⟨fr, rfl⟩ : ∃ fr : Nat, f = (fr : Int) := ⟨f.toNat, by omega⟩
              go_wp2
              obtain ⟨wo, rfl⟩ : ∃ wo : World, wo = w3 := ⟨_, rfl⟩
              go_loopw [5, 11] (fun v j wx => ∃ (ys : List UInt8) (jN ga ca : Nat), j = .int .i64 (jN : Int) ∧ jN ≤ k ∧ ys.length = xs.length + jN ∧ v = .slice (some ⟨ga, 0, none⟩) ys.length ca ∧ Own 5 w.heap.size wx v ys ∧ Cur wx B a cn cap i3 (nextH (nextH (nextH h))) ∧ OnlyB B w wx) (fun _ j _ => k - (intOf j).toNat)
              case atStart => exact ⟨xs, 0, g, c, rfl, Nat.zero_le _, by simp, rfl, HO3.out, HQ3.out, HN3.out⟩
              case round =>
                obtain ⟨ys, jN, ga, ca, rfl, hjk, hyl, rfl, own4, cur4, on4⟩ := hrel
                have HO4 := Lib.hid own4
                have HQ4 := Lib.hid cur4
                have HN4 := Lib.hid on4
                have z4 := on4.size
                have hHY := Lib.hid hyl
                have hy1 : ys.length ≤ xs.length + jN := by omega
                have hy2 : xs.length + jN ≤ ys.length := by omega
                clear own4 cur4 on4 hyl
                by_cases hjl : jN < k
                · have dj : decide (jN < k) = true := by simpa using hjl
                  have hfl : fr + jN < ys.length := by omega
                  have hfl2 : (fr : Int) + (jN : Int) < (ys.length : Int) := by omega
                  have hfl3 : (0 : Int) ≤ (fr : Int) + (jN : Int) := by omega
                  have hfl4 : ((fr : Int) + (jN : Int)).toNat = fr + jN := by omega
                  have hcell := own_at HO4.out (fr + jN) hfl
                  obtain ⟨cb, hcbe⟩ : ∃ cb : UInt8, cb = ys[fr + jN] := ⟨_, rfl⟩
                  rw [← hcbe] at hcell
                  have hcb2 : cb.toNat < 256 := cb.toNat_lt
                  clear hcbe
                  go_wp2_with (at_builtin; refine wp_append_bytes Tryz.underlying22 Tryz.infoU8 rfl _ _ rfl w.heap.size _ _ rfl (HO4.out.alloc _) ⟨wr.heap.size, 0, none⟩ 1 1 [cb] rfl rfl (news_one _ _ _) (by simp; omega) (by simp; omega) ?_; intro v' wa howna hbela)
                  obtain ⟨gb, cc, rfl⟩ := own_some howna (by simp)
                  have hb := ((Below.refl w.heap.size wr).alloc z4 _).trans hbela
                  go_roundw
                  case rel => exact ⟨ys ++ [cb], jN + 1, gb, cc, by go_num, by omega, by simp; omega, rfl, howna, HQ4.out.kept hb hBw, HN4.out.then hb⟩
                  case measure => simp [intOf]; omega
                · have dj : decide (jN < k) = false := by simpa using hjl
                  go_wp2
                  go_roundg (mu (n - ys.length) (cn - i3) (nextH (nextH (nextH h))))
                  case measure =>
                    have f1 := nxt_facts NX1.out
                    have f2 := nxt_facts NX2.out
                    have f3 := nxt_facts NX3.out
                    refine mu_round (by omega) hlt (by omega) hcle hile (fun e => ?_)
                    by_cases g1 : i < cn
                    · exact .inl (by omega)
                    · exact .inr ⟨by omega, by omega, step3 (bad_of (SEL.out (by omega)) (by omega))⟩
                  case rel => exact ⟨ys, i3, _, ga, ca, rfl, by omega, rfl, HO4.out, HQ4.out, HN4.out⟩
          · have b2 : (x == 2) = false := by simpa using e2
            go_wp2_with fail
            refine (belowX B 26 a cn cap i1 (nextH h) _ HQ1.out (by omega) (by omega)).mono ?_
            rintro e w2 ⟨y, i2, y0, y1, rfl, qq, nx, _, oo⟩
            have HO2 := Lib.hid (HO1.out.only oo hBw)
            have HQ2 := Lib.hid qq
            have HN2 := Lib.hid (HN1.out.trans oo)
            have NX2 := Lib.hid nx
            have z2 := HN2.out.size
            clear qq nx oo
            obtain ⟨cb, hcb⟩ : ∃ cb : UInt8, 97 + y = (cb.toNat : Int) := ⟨UInt8.ofNat (97 + y).toNat, by rw [UInt8.toNat_ofNat']; omega⟩
            have hcb2 : cb.toNat < 256 := cb.toNat_lt
            go_wp2_with (at_builtin; refine wp_append_bytes Tryz.underlying22 Tryz.infoU8 rfl _ _ rfl w.heap.size _ _ rfl (HO2.out.alloc _) ⟨w2.heap.size, 0, none⟩ 1 1 [cb] rfl rfl (news_one _ _ _) (by simp; omega) (by simp; omega) ?_; intro v' wa howna hbela)
            obtain ⟨ga, ca, rfl⟩ := own_some howna (by simp)
            go_roundg (mu (n - (xs ++ [cb]).length) (cn - i2) (nextH (nextH h)))
            case measure =>
              have f1 := nxt_facts NX1.out
              have f2 := nxt_facts NX2.out
              refine mu_round (by simp) hlt (by omega) hcle hile (fun e => ?_)
              simp at e
            case rel =>
              have hb := ((Below.refl w.heap.size w2).alloc z2 _).trans hbela
              exact ⟨xs ++ [cb], i2, _, ga, ca, rfl, by simp; omega, rfl, howna, HQ2.out.kept hb hBw, HN2.out.then hb⟩
    · have d1 : decide (xs.length < n) = false := by simpa using hlt
      have hcap := own_cap HO.out
      have k1 : n ≤ xs.length := by omega
      have k2 : (n : Int) ≤ (c : Int) := by omega
      have bk := own_front HO.out n k1
      go_wp2
      go_ret
      exact ⟨⟨(xs.take n).toArray⟩, by simp [ByteArray.size]; omega, rfl, HQ.out.e, HN.out⟩
end Go.Proofs.YtebeoijoljlhiaaGreatDoor.kit
