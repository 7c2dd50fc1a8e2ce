/-
  Contract of spec.l04Many over this seat's translation: the places behind so many of a kid, where a call over the kid answers the places behind one. Conditions: each theorem names its own.
-/
import Derived.Test.YtcimhpdpfckgiaaGreatDoorMxMs3
import Derived.Test.YtcimhpdpfckgiaaGreatDoorMxRe6
set_option linter.unusedVariables false
set_option linter.unusedSimpArgs false
namespace Go.Proofs.YtcimhpdpfckgiaaGreatDoor.kit
open Go.ChangeShapes Go.WideShapes Go.ChangeAt Go.RowKit
structure KStep (w : World) (s : ByteArray) (k : Int) (ss : ByteArray) (n : Bool) (lo hi : Int) (a : Option Addr) (m cap : Nat) (R : Nat → Nat → Prop) : Prop where
 call : ∀ W v xs, Below w.heap.size w W → PRow W xs s.size v → Calls Tryz.prog 54 #[.agg #[.int .i64 k, .string ss, .bool n, .int .i64 lo, .int .i64 hi, .slice a m cap], .string s, v] W fun e w' => ∃ v' ys, e = .returned v' ∧ PRow w' ys s.size v' ∧ (∀ j, j ∈ ys ↔ ∃ i, i ∈ xs ∧ R i j) ∧ Below W.heap.size W w'
theorem PRow.nil {w : World} {m : Nat} {v : Value} {B : Nat} (h : OwnI B w v []) (hn : v ≠ .slice none 0 0) : PRow w [] m v := by
 rcases h.row with ⟨h, _⟩ | ⟨b, c, rfl, _, h⟩
 · exact absurd h hn
 · exact ⟨⟨b, c, rfl, h⟩, List.Pairwise.nil, fun x hx => by simp at hx⟩
structure ManyI (w : World) (s : ByteArray) (lo hi : Int) (R : Nat → Nat → Prop) (xs : List Nat) (m : Nat) (ys ns : List Nat) (o nw : Value) (wr : World) : Prop where
 one : 1 ≤ m
 out : PRow wr ys s.size o
 now : PRow wr ns s.size nw
 my : ∀ j, j ∈ ys ↔ upto R (· ∈ xs) lo m j
 mn : ∀ j, j ∈ ns ↔ img (rpow R (m - 1)) (· ∈ xs) j
 open_ : hi < 0 → (m : Int) ≤ lo + ys.length + 1
 shut : 0 ≤ hi → (m : Int) ≤ hi + 1
 be : Below w.heap.size w wr
theorem ManyI.bd {w : World} {s : ByteArray} {lo hi : Int} {R : Nat → Nat → Prop} {xs : List Nat} {m : Nat} {ys ns : List Nat} {o nw : Value} {wr : World} (h : ManyI w s lo hi R xs m ys ns o nw wr) (hs : s.size ≤ 1048576) (hlo : 0 ≤ lo ∧ lo ≤ 9) (hhi : hi ≤ 9) : m ≤ 1500000 := by
 have h1 := h.out.len
 by_cases c : hi < 0
 · have := h.open_ c; omega
 · have := h.shut (by omega); omega
theorem ManyI.dead {w : World} {s : ByteArray} {lo hi : Int} {R : Nat → Nat → Prop} {xs : List Nat} {m : Nat} {ys ns : List Nat} {o nw : Value} {wr : World} (h : ManyI w s lo hi R xs m ys ns o nw wr) (hn : ns.length = 0) (j : Nat) : j ∈ ys ↔ ∃ i, i ∈ xs ∧ often R lo hi i j := by
 have h1 := h.one
 have e := upto_dead R (· ∈ xs) lo hi (m - 1) (fun j hj => by
  have := (h.mn j).2 hj
  rw [List.length_eq_zero_iff.1 hn] at this
  simp at this) (by
  by_cases c : hi < 0
  · exact .inl c
  · have := h.shut (by omega); exact .inr (by omega)) j
 rw [show m - 1 + 1 = m by omega] at e
 exact (h.my j).trans e
theorem ManyI.full {w : World} {s : ByteArray} {lo hi : Int} {R : Nat → Nat → Prop} {xs : List Nat} {m : Nat} {ys ns : List Nat} {o nw : Value} {wr : World} (h : ManyI w s lo hi R xs m ys ns o nw wr) (h0 : ¬ hi < 0) (h1 : ¬ (m : Int) ≤ hi) (j : Nat) : j ∈ ys ↔ ∃ i, i ∈ xs ∧ often R lo hi i j := by
 have h2 := h.shut (by omega)
 exact (h.my j).trans (upto_full R (· ∈ xs) lo hi m (by omega) (by omega) j)
theorem ManyI.step {w : World} {s : ByteArray} {lo hi : Int} {R : Nat → Nat → Prop} {xs : List Nat} {m : Nat} {ys ns ns2 : List Nat} {o nw nw2 : Value} {wr w2 : World} (h : ManyI w s lo hi R xs m ys ns o nw wr) (h2 : ∀ j, j ∈ ns2 ↔ ∃ i, i ∈ ns ∧ R i j) (j : Nat) : j ∈ ns2 ↔ img (rpow R m) (· ∈ xs) j := by
 have h1 := h.one
 have e := img_pow_succ R (· ∈ xs) (m - 1) j
 rw [show m - 1 + 1 = m by omega] at e
 rw [h2, e]
 unfold img
 exact ⟨fun ⟨i, a, b⟩ => ⟨i, (h.mn i).1 a, b⟩, fun ⟨i, a, b⟩ => ⟨i, (h.mn i).2 a, b⟩⟩
theorem ManyI.skip {w : World} {s : ByteArray} {lo hi : Int} {R : Nat → Nat → Prop} {xs : List Nat} {m : Nat} {ys ns ns2 : List Nat} {o nw nw2 : Value} {wr w2 : World} (h : ManyI w s lo hi R xs m ys ns o nw wr) (h2 : ∀ j, j ∈ ns2 ↔ ∃ i, i ∈ ns ∧ R i j) (hp : PRow w2 ns2 s.size nw2) (hb : Below wr.heap.size wr w2) (hm : (m : Int) < lo) (hg : hi < 0 ∨ (m : Int) ≤ hi) : ManyI w s lo hi R xs (m + 1) ys ns2 o nw2 w2 where
 one := by omega
 out := h.out.kept hb
 now := hp
 my := fun j => by
  rw [h.my]
  exact ⟨fun ⟨n, a, b, _⟩ => absurd a (by omega), fun ⟨n, a, b, _⟩ => absurd a (by omega)⟩
 mn := fun j => by rw [show m + 1 - 1 = m by omega]; exact h.step (w2 := w2) (nw2 := nw2) h2 j
 open_ := fun c => by have := h.open_ c; omega
 shut := fun c => by omega
 be := h.be.trans (hb.mono h.be.size)
theorem ManyI.mem {w : World} {s : ByteArray} {lo hi : Int} {R : Nat → Nat → Prop} {xs : List Nat} {m : Nat} {ys ns ns2 : List Nat} {o nw : Value} {wr : World} (h : ManyI w s lo hi R xs m ys ns o nw wr) (h2 : ∀ j, j ∈ ns2 ↔ ∃ i, i ∈ ns ∧ R i j) (hm : ¬ (m : Int) < lo) (j : Nat) : j ∈ allN ys ns2 ↔ upto R (· ∈ xs) lo (m + 1) j := by
 rw [allN_mem, h.my, h.step (w2 := w) (nw2 := nw) h2, upto_next R _ lo m j (by omega)]
theorem ManyI.more {w : World} {s : ByteArray} {lo hi : Int} {R : Nat → Nat → Prop} {xs : List Nat} {m : Nat} {ys ns ns2 : List Nat} {o nw nw2 o2 : Value} {wr w2 w3 : World} (h : ManyI w s lo hi R xs m ys ns o nw wr) (h2 : ∀ j, j ∈ ns2 ↔ ∃ i, i ∈ ns ∧ R i j) (hp : PRow w2 ns2 s.size nw2) (hb : Below wr.heap.size wr w2) (ho : PRow w3 (allN ys ns2) s.size o2) (hb3 : Below w2.heap.size w2 w3) (hm : ¬ (m : Int) < lo) (hg : (hi < 0 ∧ (allN ys ns2).length ≠ ys.length) ∨ (0 ≤ hi ∧ (m : Int) ≤ hi)) : ManyI w s lo hi R xs (m + 1) (allN ys ns2) ns2 o2 nw2 w3 where
 one := by omega
 out := ho
 now := hp.kept hb3
 my := h.mem h2 hm
 mn := fun j => by rw [show m + 1 - 1 = m by omega]; exact h.step (w2 := w2) (nw2 := nw2) h2 j
 open_ := fun c => by
  have h1 := (allN_len ns2 ys).1
  have := h.open_ c
  rcases hg with ⟨_, g⟩ | ⟨g, _⟩
  · omega
  · omega
 shut := fun c => by rcases hg with ⟨g, _⟩ | ⟨_, g⟩ <;> omega
 be := (h.be.trans (hb.mono h.be.size)).trans (hb3.mono (h.be.trans (hb.mono h.be.size)).size)
theorem ManyI.still {w : World} {s : ByteArray} {lo hi : Int} {R : Nat → Nat → Prop} {xs : List Nat} {m : Nat} {ys ns ns2 : List Nat} {o nw : Value} {wr : World} (h : ManyI w s lo hi R xs m ys ns o nw wr) (h2 : ∀ j, j ∈ ns2 ↔ ∃ i, i ∈ ns ∧ R i j) (hm : ¬ (m : Int) < lo) (hh : hi < 0) (hl : (allN ys ns2).length = ys.length) (j : Nat) : j ∈ allN ys ns2 ↔ ∃ i, i ∈ xs ∧ often R lo hi i j := by
 have hin := (allN_len ns2 ys).2 hl
 have e := upto_still R (· ∈ xs) lo hi m hh (by omega) (fun j hj => (h.my j).1 (hin j ((h.step (w2 := w) (nw2 := nw) h2 j).2 hj))) j
 rw [allN_mem]
 refine ⟨fun c => e.1 ((h.my j).1 ?_), fun c => .inl ((h.my j).2 (e.2 c))⟩
 rcases c with c | c
 · exact c
 · exact hin j c
theorem ManyI.start {w wr : World} {s : ByteArray} {lo hi : Int} {R : Nat → Nat → Prop} {xs ys : List Nat} {o v : Value} (hx : PRow wr xs s.size v) (ho : PRow wr ys s.size o) (hy : (lo = 0 ∧ ys = xs) ∨ (0 < lo ∧ ys = [])) (hh : lo ≤ hi ∨ hi = -1) (hb : Below w.heap.size w wr) : ManyI w s lo hi R xs 1 ys xs o v wr where
 one := Nat.le_refl _
 out := ho
 now := hx
 my := fun j => by
  rcases hy with ⟨rfl, rfl⟩ | ⟨h0, rfl⟩
  · exact (upto_zero R (· ∈ ys) j).symm
  · exact ⟨fun h => by simp at h, fun ⟨n, a, b, _⟩ => absurd a (by omega)⟩
 mn := fun j => ⟨fun h => ⟨j, h, rfl⟩, fun ⟨i, h, e⟩ => by
  have e : i = j := e
  exact e ▸ h⟩
 open_ := fun _ => by rcases hy with ⟨rfl, _⟩ | ⟨h0, _⟩ <;> omega
 shut := fun c => by rcases hy with ⟨rfl, _⟩ | ⟨h0, _⟩ <;> omega
 be := hb
theorem KEYS {w : World} {b o : Nat} {u : RT} {a' : Option Addr} {cap' : Nat} {a : Option Addr} (h : ElemAt 0 w a 0 u a' cap') (e : a = some ⟨b, o, none⟩) : b < w.heap.size ∧ ∀ W, Below w.heap.size w W → W.cell? ⟨b, o, none⟩ = some (.int .i64 u.kind) ∧ W.cell? ⟨b, o + 1, none⟩ = some (.string u.set) ∧ W.cell? ⟨b, o + 2, none⟩ = some (.bool u.neg) ∧ W.cell? ⟨b, o + 3, none⟩ = some (.int .i64 u.low) ∧ W.cell? ⟨b, o + 4, none⟩ = some (.int .i64 u.high) ∧ W.cell? ⟨b, o + 5, none⟩ = some (.slice a' u.kids.length cap') := by
 obtain ⟨b2, o2, e2, _, hl, h0, h1, h2, h3, h4, h5, _, _⟩ := h
 rw [e] at e2
 cases e2
 simp only [Nat.zero_mul, Nat.add_zero] at h0 h1 h2 h3 h4 h5
 refine ⟨hl, fun W hW => ?_⟩
 have ec : ∀ j, W.cell? ⟨b, j, none⟩ = w.cell? ⟨b, j, none⟩ := fun j => hW.cell (p := ⟨b, j, none⟩) hl
 exact ⟨(ec _).trans h0, (ec _).trans h1, (ec _).trans h2, (ec _).trans h3, (ec _).trans h4, (ec _).trans h5⟩
set_option maxRecDepth 100000 in
set_option maxHeartbeats 4000000 in
theorem many_any (ss : ByteArray) (n : Bool) (lo hi : Int) (xx : RT) (s : ByteArray) (xs : List Nat) (v : Value) (a : Option Addr) (cap : Nat) (w : World) (R : Nat → Nat → Prop) (hk : Kids 0 w [xx] a) (hs : s.size ≤ 1048576) (hlo : 0 ≤ lo ∧ lo ≤ 9) (hhi : hi = -1 ∨ (lo ≤ hi ∧ hi ≤ 9)) (hx : PRow w xs s.size v)
 (HC : ∀ ax cx, Kids 0 w xx.kids ax → KStep w s xx.kind xx.set xx.neg xx.low xx.high ax xx.kids.length cx R) :
 Calls Tryz.prog 63 #[.agg #[.int .i64 5, .string ss, .bool n, .int .i64 lo, .int .i64 hi, .slice a 1 cap], .string s, v] w fun e w' => ∃ v' ys, e = .returned v' ∧ PRow w' ys s.size v' ∧ (∀ j, j ∈ ys ↔ ∃ i, i ∈ xs ∧ often R lo hi i j) ∧ Below w.heap.size w w' := by
 obtain ⟨ax, cx, hex, hkx⟩ := hk.elem 0 (by simp)
 simp only [List.getElem_cons_zero] at hex hkx
 have HEX := hex
 obtain ⟨b, o, rfl, _⟩ := hex
 obtain ⟨hbl, hcells⟩ := KEYS HEX rfl
 have HCE := qd hcells
 have HK := qd (HC ax cx hkx)
 clear HEX hcells HC hk hkx
 obtain ⟨kx, sx, nx, lox, hix, tsx⟩ := xx
 simp only [RT.kind, RT.set, RT.neg, RT.low, RT.high, RT.kids] at *
 have HX := qd hx
 have HLO := qd hlo
 have HHI := qd hhi
 have HS := qd hs
 have hlo0 := hlo.1
 have hlo9 := hlo.2
 have hhx : lo ≤ hi ∨ hi = -1 := by omega
 have hhi9 : hi ≤ 9 := by omega
 have hhi1 : -1 ≤ hi := by omega
 have HB := qd (show ∀ o, Below w.heap.size w (w.alloc o) from fun o => (Below.refl w.heap.size w).alloc (Nat.le_refl _) _)
 have HB2 := qd (show ∀ o p, Below w.heap.size w ((w.alloc o).alloc p) from fun o p => ((Below.refl w.heap.size w).alloc (Nat.le_refl _) _).alloc (by simp) _)
 have BX0 := qd (show ∀ p, Box w.heap.size 5 ss n lo hi [RT.node kx sx nx lox hix tsx] (some ⟨b, o, none⟩) cap ((w.alloc (.cells #[.int .i64 5, .string ss, .bool n, .int .i64 lo, .int .i64 hi, .slice (some ⟨b, o, none⟩) 1 cap] 26)).alloc p) from fun p => (Box.start (k := 5) (s := ss) (n := n) (lo := lo) (hi := hi) (ts := [RT.node kx sx nx lox hix tsx]) (a := some ⟨b, o, none⟩) (cap := cap) w 26).step ((Below.refl _ _).alloc (Nat.le_refl _) _))
 have HOW := qd (show ∀ p, PRow ((w.alloc p).alloc (.cells #[] 3)) [] s.size (.slice (some ⟨w.heap.size + 1, 0, none⟩) 0 0) from fun p => by
  have := PRow.nil (m := s.size) (ownI_start (B := 0) (w := w.alloc p) (by omega)) (by simp)
  simpa using this)
 clear hx hlo hhi hs
 by_cases h0 : lo = 0
 · have e0 : (lo == 0) = true := by rw [beq_iff_eq]; exact h0
   have HS0 := qd (fun p => ManyI.start (R := R) (lo := lo) (hi := hi) (HX.out.kept (HB2.out p _)) (HX.out.kept (HB2.out p (.cells #[] 3))) (.inl ⟨h0, rfl⟩) hhx (HB2.out p (.cells #[] 3)))
   clear h0 hhx
   go_enter Tryz.func63, Tryz.ntmps63
   go_wp2_with fail
   go_loopg [7, 8, 9] (2000000) (fun gg vo vn vi wr => ∃ (m : Nat) (ys ns : List Nat), gg + m = 2000001 ∧ vi = .int .i64 (m : Int) ∧ ManyI w s lo hi R xs m ys ns vo vn wr ∧ Box w.heap.size 5 ss n lo hi [RT.node kx sx nx lox hix tsx] (some ⟨b, o, none⟩) cap wr)
   case atStart => exact ⟨1, _, _, by omega, rfl, HS0.out _, BX0.out _⟩
   case round =>
    obtain ⟨m, ys, ns, hgm, rfl, hI, hBX⟩ := hrel
    have HI := qd hI
    have HBX := qd hBX
    have HGM := qd hgm
    have hmb : (m : Int) ≤ 1500000 := by have := hI.bd HS.out HLO.out hhi9; omega
    have hm1 : (1 : Int) ≤ (m : Int) := by have := hI.one; omega
    obtain ⟨bo, co, rfl, _⟩ := hI.out.at_
    obtain ⟨bn, cn, rfl, _⟩ := hI.now.at_
    have hyl : (ys.length : Int) ≤ 1048577 := by have := hI.out.len; have := HS.out; omega
    have hnl : (ns.length : Int) ≤ 1048577 := by have := hI.now.len; have := HS.out; omega
    clear hI hBX hgm
    obtain ⟨⟨x0, x1, x2, x3, x4, x5⟩, _⟩ := HBX.out
    by_cases hn0 : 0 < ns.length
    · by_cases hg : hi < 0
      · skip
        obtain ⟨k0, k1, k2, k3, k4, k5⟩ := HCE.out _ HI.out.be
        go_wp2_with fail
        refine (HK.out.call _ _ _ HI.out.be HI.out.now).mono ?_
        rintro e w2 ⟨v2, zs, rfl, hp2, hz2, hb2⟩
        have HP2 := qd hp2
        have HZ2 := qd hz2
        have HB2' := qd hb2
        have HX2 := qd (HBX.out.step hb2)
        obtain ⟨bz, cz, rfl, _⟩ := hp2.at_
        clear hp2 hz2 hb2 k0 k1 k2 k3 k4 k5 x0 x1 x2 x3 x4 x5
        obtain ⟨⟨x0, x1, x2, x3, x4, x5⟩, _⟩ := HX2.out
        by_cases hm : (m : Int) < lo
        · have HN := qd (HI.out.skip HZ2.out HP2.out HB2'.out hm (.inl hg))
          go_wp2_with fail
          go_roundg (gk - 1)
          case rel => exact ⟨m + 1, _, _, by have := HGM.out; omega, by go_num, HN.out, HX2.out⟩
          case measure => have := HGM.out; omega
        · have HO2 := qd (HI.out.out.kept HB2'.out)
          go_wp2_with fail
          refine (l04All_any _ _ s.size _ _ _ HO2.out HP2.out HS.out).mono ?_
          rintro e w3 ⟨v3, rfl, hp3, hb3⟩
          have HP3 := qd hp3
          have HB3 := qd hb3
          have HX3 := qd (HX2.out.step hb3)
          have HBE := qd ((HI.out.be.trans (HB2'.out.mono HI.out.be.size)).trans (hb3.mono (HI.out.be.trans (HB2'.out.mono HI.out.be.size)).size))
          obtain ⟨b3, c3, rfl, _⟩ := hp3.at_
          clear hp3 hb3 x0 x1 x2 x3 x4 x5
          obtain ⟨⟨x0, x1, x2, x3, x4, x5⟩, _⟩ := HX3.out
          by_cases hl : (allN ys zs).length = ys.length
          · have HF := qd (HI.out.still HZ2.out (by omega) hg hl)
            have hlb : (((allN ys zs).length : Int) == (ys.length : Int)) = true := by rw [beq_iff_eq]; omega
            clear hl
            go_wp2_with fail
            go_ret
            exact ⟨_, _, rfl, HP3.out, HF.out, HBE.out⟩
          · have HN := qd (HI.out.more HZ2.out HP2.out HB2'.out HP3.out HB3.out (by omega) (.inl ⟨hg, hl⟩))
            have hlb : (((allN ys zs).length : Int) == (ys.length : Int)) = false := by rw [beq_eq_false_iff_ne]; omega
            clear hl
            go_wp2_with fail
            go_roundg (gk - 1)
            case rel => exact ⟨m + 1, _, _, by have := HGM.out; omega, by go_num, HN.out, HX3.out⟩
            case measure => have := HGM.out; omega
      · by_cases hg2 : (m : Int) ≤ hi
        · skip
          obtain ⟨k0, k1, k2, k3, k4, k5⟩ := HCE.out _ HI.out.be
          go_wp2_with fail
          refine (HK.out.call _ _ _ HI.out.be HI.out.now).mono ?_
          rintro e w2 ⟨v2, zs, rfl, hp2, hz2, hb2⟩
          have HP2 := qd hp2
          have HZ2 := qd hz2
          have HB2' := qd hb2
          have HX2 := qd (HBX.out.step hb2)
          obtain ⟨bz, cz, rfl, _⟩ := hp2.at_
          clear hp2 hz2 hb2 k0 k1 k2 k3 k4 k5 x0 x1 x2 x3 x4 x5
          obtain ⟨⟨x0, x1, x2, x3, x4, x5⟩, _⟩ := HX2.out
          by_cases hm : (m : Int) < lo
          · have HN := qd (HI.out.skip HZ2.out HP2.out HB2'.out hm (.inr hg2))
            go_wp2_with fail
            go_roundg (gk - 1)
            case rel => exact ⟨m + 1, _, _, by have := HGM.out; omega, by go_num, HN.out, HX2.out⟩
            case measure => have := HGM.out; omega
          · have HO2 := qd (HI.out.out.kept HB2'.out)
            go_wp2_with fail
            refine (l04All_any _ _ s.size _ _ _ HO2.out HP2.out HS.out).mono ?_
            rintro e w3 ⟨v3, rfl, hp3, hb3⟩
            have HP3 := qd hp3
            have HB3 := qd hb3
            have HX3 := qd (HX2.out.step hb3)
            have HBE := qd ((HI.out.be.trans (HB2'.out.mono HI.out.be.size)).trans (hb3.mono (HI.out.be.trans (HB2'.out.mono HI.out.be.size)).size))
            obtain ⟨b3, c3, rfl, _⟩ := hp3.at_
            clear hp3 hb3 x0 x1 x2 x3 x4 x5
            obtain ⟨⟨x0, x1, x2, x3, x4, x5⟩, _⟩ := HX3.out
            have HN := qd (HI.out.more HZ2.out HP2.out HB2'.out HP3.out HB3.out (by omega) (.inr ⟨by omega, hg2⟩))
            cases hlb : (((allN ys zs).length : Int) == (ys.length : Int))
            · go_wp2_with fail
              go_roundg (gk - 1)
              case rel => exact ⟨m + 1, _, _, by have := HGM.out; omega, by go_num, HN.out, HX3.out⟩
              case measure => have := HGM.out; omega
            · go_wp2_with fail
              go_roundg (gk - 1)
              case rel => exact ⟨m + 1, _, _, by have := HGM.out; omega, by go_num, HN.out, HX3.out⟩
              case measure => have := HGM.out; omega
        · have HF := qd (HI.out.full hg (by omega))
          go_wp2_with fail
          go_ret
          first | exact ⟨_, _, rfl, HI.out.out, HF.out, HI.out.be⟩ | exact ⟨_, rfl, _, HI.out.out, HF.out, HI.out.be⟩
    · have HF := qd (HI.out.dead (by omega))
      go_wp2_with fail
      go_ret
      first | exact ⟨_, _, rfl, HI.out.out, HF.out, HI.out.be⟩ | exact ⟨_, rfl, _, HI.out.out, HF.out, HI.out.be⟩
 · have e0 : (lo == 0) = false := by rw [beq_eq_false_iff_ne]; exact h0
   have HS0 := qd (fun p => ManyI.start (R := R) (lo := lo) (hi := hi) (HX.out.kept (HB2.out p _)) (HOW.out p) (.inr ⟨by omega, rfl⟩) hhx (HB2.out p (.cells #[] 3)))
   clear h0 hhx
   go_enter Tryz.func63, Tryz.ntmps63
   go_wp2_with fail
   go_loopg [7, 8, 9] (2000000) (fun gg vo vn vi wr => ∃ (m : Nat) (ys ns : List Nat), gg + m = 2000001 ∧ vi = .int .i64 (m : Int) ∧ ManyI w s lo hi R xs m ys ns vo vn wr ∧ Box w.heap.size 5 ss n lo hi [RT.node kx sx nx lox hix tsx] (some ⟨b, o, none⟩) cap wr)
   case atStart => exact ⟨1, _, _, by omega, rfl, HS0.out _, BX0.out _⟩
   case round =>
    obtain ⟨m, ys, ns, hgm, rfl, hI, hBX⟩ := hrel
    have HI := qd hI
    have HBX := qd hBX
    have HGM := qd hgm
    have hmb : (m : Int) ≤ 1500000 := by have := hI.bd HS.out HLO.out hhi9; omega
    have hm1 : (1 : Int) ≤ (m : Int) := by have := hI.one; omega
    obtain ⟨bo, co, rfl, _⟩ := hI.out.at_
    obtain ⟨bn, cn, rfl, _⟩ := hI.now.at_
    have hyl : (ys.length : Int) ≤ 1048577 := by have := hI.out.len; have := HS.out; omega
    have hnl : (ns.length : Int) ≤ 1048577 := by have := hI.now.len; have := HS.out; omega
    clear hI hBX hgm
    obtain ⟨⟨x0, x1, x2, x3, x4, x5⟩, _⟩ := HBX.out
    by_cases hn0 : 0 < ns.length
    · by_cases hg : hi < 0
      · skip
        obtain ⟨k0, k1, k2, k3, k4, k5⟩ := HCE.out _ HI.out.be
        go_wp2_with fail
        refine (HK.out.call _ _ _ HI.out.be HI.out.now).mono ?_
        rintro e w2 ⟨v2, zs, rfl, hp2, hz2, hb2⟩
        have HP2 := qd hp2
        have HZ2 := qd hz2
        have HB2' := qd hb2
        have HX2 := qd (HBX.out.step hb2)
        obtain ⟨bz, cz, rfl, _⟩ := hp2.at_
        clear hp2 hz2 hb2 k0 k1 k2 k3 k4 k5 x0 x1 x2 x3 x4 x5
        obtain ⟨⟨x0, x1, x2, x3, x4, x5⟩, _⟩ := HX2.out
        by_cases hm : (m : Int) < lo
        · have HN := qd (HI.out.skip HZ2.out HP2.out HB2'.out hm (.inl hg))
          go_wp2_with fail
          go_roundg (gk - 1)
          case rel => exact ⟨m + 1, _, _, by have := HGM.out; omega, by go_num, HN.out, HX2.out⟩
          case measure => have := HGM.out; omega
        · have HO2 := qd (HI.out.out.kept HB2'.out)
          go_wp2_with fail
          refine (l04All_any _ _ s.size _ _ _ HO2.out HP2.out HS.out).mono ?_
          rintro e w3 ⟨v3, rfl, hp3, hb3⟩
          have HP3 := qd hp3
          have HB3 := qd hb3
          have HX3 := qd (HX2.out.step hb3)
          have HBE := qd ((HI.out.be.trans (HB2'.out.mono HI.out.be.size)).trans (hb3.mono (HI.out.be.trans (HB2'.out.mono HI.out.be.size)).size))
          obtain ⟨b3, c3, rfl, _⟩ := hp3.at_
          clear hp3 hb3 x0 x1 x2 x3 x4 x5
          obtain ⟨⟨x0, x1, x2, x3, x4, x5⟩, _⟩ := HX3.out
          by_cases hl : (allN ys zs).length = ys.length
          · have HF := qd (HI.out.still HZ2.out (by omega) hg hl)
            have hlb : (((allN ys zs).length : Int) == (ys.length : Int)) = true := by rw [beq_iff_eq]; omega
            clear hl
            go_wp2_with fail
            go_ret
            exact ⟨_, _, rfl, HP3.out, HF.out, HBE.out⟩
          · have HN := qd (HI.out.more HZ2.out HP2.out HB2'.out HP3.out HB3.out (by omega) (.inl ⟨hg, hl⟩))
            have hlb : (((allN ys zs).length : Int) == (ys.length : Int)) = false := by rw [beq_eq_false_iff_ne]; omega
            clear hl
            go_wp2_with fail
            go_roundg (gk - 1)
            case rel => exact ⟨m + 1, _, _, by have := HGM.out; omega, by go_num, HN.out, HX3.out⟩
            case measure => have := HGM.out; omega
      · by_cases hg2 : (m : Int) ≤ hi
        · skip
          obtain ⟨k0, k1, k2, k3, k4, k5⟩ := HCE.out _ HI.out.be
          go_wp2_with fail
          refine (HK.out.call _ _ _ HI.out.be HI.out.now).mono ?_
          rintro e w2 ⟨v2, zs, rfl, hp2, hz2, hb2⟩
          have HP2 := qd hp2
          have HZ2 := qd hz2
          have HB2' := qd hb2
          have HX2 := qd (HBX.out.step hb2)
          obtain ⟨bz, cz, rfl, _⟩ := hp2.at_
          clear hp2 hz2 hb2 k0 k1 k2 k3 k4 k5 x0 x1 x2 x3 x4 x5
          obtain ⟨⟨x0, x1, x2, x3, x4, x5⟩, _⟩ := HX2.out
          by_cases hm : (m : Int) < lo
          · have HN := qd (HI.out.skip HZ2.out HP2.out HB2'.out hm (.inr hg2))
            go_wp2_with fail
            go_roundg (gk - 1)
            case rel => exact ⟨m + 1, _, _, by have := HGM.out; omega, by go_num, HN.out, HX2.out⟩
            case measure => have := HGM.out; omega
          · have HO2 := qd (HI.out.out.kept HB2'.out)
            go_wp2_with fail
            refine (l04All_any _ _ s.size _ _ _ HO2.out HP2.out HS.out).mono ?_
            rintro e w3 ⟨v3, rfl, hp3, hb3⟩
            have HP3 := qd hp3
            have HB3 := qd hb3
            have HX3 := qd (HX2.out.step hb3)
            have HBE := qd ((HI.out.be.trans (HB2'.out.mono HI.out.be.size)).trans (hb3.mono (HI.out.be.trans (HB2'.out.mono HI.out.be.size)).size))
            obtain ⟨b3, c3, rfl, _⟩ := hp3.at_
            clear hp3 hb3 x0 x1 x2 x3 x4 x5
            obtain ⟨⟨x0, x1, x2, x3, x4, x5⟩, _⟩ := HX3.out
            have HN := qd (HI.out.more HZ2.out HP2.out HB2'.out HP3.out HB3.out (by omega) (.inr ⟨by omega, hg2⟩))
            cases hlb : (((allN ys zs).length : Int) == (ys.length : Int))
            · go_wp2_with fail
              go_roundg (gk - 1)
              case rel => exact ⟨m + 1, _, _, by have := HGM.out; omega, by go_num, HN.out, HX3.out⟩
              case measure => have := HGM.out; omega
            · go_wp2_with fail
              go_roundg (gk - 1)
              case rel => exact ⟨m + 1, _, _, by have := HGM.out; omega, by go_num, HN.out, HX3.out⟩
              case measure => have := HGM.out; omega
        · have HF := qd (HI.out.full hg (by omega))
          go_wp2_with fail
          go_ret
          first | exact ⟨_, _, rfl, HI.out.out, HF.out, HI.out.be⟩ | exact ⟨_, rfl, _, HI.out.out, HF.out, HI.out.be⟩
    · have HF := qd (HI.out.dead (by omega))
      go_wp2_with fail
      go_ret
      first | exact ⟨_, _, rfl, HI.out.out, HF.out, HI.out.be⟩ | exact ⟨_, rfl, _, HI.out.out, HF.out, HI.out.be⟩
end Go.Proofs.YtcimhpdpfckgiaaGreatDoor.kit
