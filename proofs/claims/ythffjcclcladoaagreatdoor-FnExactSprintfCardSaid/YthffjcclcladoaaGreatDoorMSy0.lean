/-
  Contract of impl.Sprintf over this seat's translation: what a form tells of a list. Conditions: a form of at most 1048576 bytes, values of at most so many; the tables are as listed.
-/
import Derived.Test.YthffjcclcladoaaGreatDoorMTl5
import Derived.Test.YthffjcclcladoaaGreatDoorMPl1
namespace Go.Proofs.YthffjcclcladoaaGreatDoor.kit
open Go.ChangeShapes Go.WideShapes Go.ChangeAt Go.RowKit
set_option linter.unusedVariables false
set_option linter.unusedSimpArgs false

/-- Values in a row that is only read. -/
def VdR (w : World) (ts : List VD) (a : Option Addr) : Prop := ∀ i (h : i < ts.length), ∃ b o, a = some ⟨b, o, none⟩ ∧ b < w.heap.size ∧ VdC w b (o + i * 3) ts[i]
theorem VdR.kept {w w' : World} {ts : List VD} {a : Option Addr} (h : VdR w ts a) (hb : Below w.heap.size w w') : VdR w' ts a := by
  intro i hi
  obtain ⟨b, o, e, h1, h2⟩ := h i hi
  exact ⟨b, o, e, Nat.lt_of_lt_of_le h1 hb.size, h2.of fun o => hb.cell (p := ⟨b, o, none⟩) h1⟩
theorem VdF.row {B : Nat} {w : World} {ts : List VD} {a : Option Addr} (h : VdF B w a ts.length (fun j => ts.getD j default)) : VdR w ts a := by
  intro i hi
  obtain ⟨g, e, h1, h2, h3, h4⟩ := h i hi
  refine ⟨g, 0, e, h2, ?_⟩
  have : ts.getD i default = ts[i] := by rw [List.getD_eq_getElem?_getD, List.getElem?_eq_getElem hi]; rfl
  rw [Nat.zero_add]
  dsimp only at h3
  rw [this] at h3
  exact h3
theorem VdR.tail {w : World} {v : VD} {ts : List VD} {b o : Nat} (h : VdR w (v :: ts) (some ⟨b, o, none⟩)) : VdR w ts (some ⟨b, o + 3, none⟩) := by
  intro i hi
  obtain ⟨b', o', e, h1, h2⟩ := h (i + 1) (by simp; omega)
  cases e
  refine ⟨b, o + 3, rfl, h1, ?_⟩
  rw [show o + 3 + i * 3 = o + (i + 1) * 3 by omega]
  simpa using h2
theorem add_atS (b o k : Nat) : (⟨b, o, none⟩ : Addr).add k = ⟨b, o + k, none⟩ := by unfold Addr.add; split <;> simp_all
theorem cutP_none {l : List UInt8} (h : Lib.indexByte l 37 = -1) : cutP l = .tuple #[.string ⟨l.toArray⟩, .string ⟨#[]⟩, .bool false] := by
  rw [cutP, h, if_neg (by omega), if_neg (by omega)]; rfl
theorem cutP_at {l : List UInt8} {n : Nat} (h : Lib.indexByte l 37 = (n : Int)) : cutP l = .tuple #[.string ⟨(l.take n).toArray⟩, .string ⟨(l.drop (n + 1)).toArray⟩, .bool true] := by
  rw [cutP, h, if_pos (by omega), if_pos (by omega), Int.toNat_natCast, show decide (0 ≤ (n : Int)) = true by simp]
set_option maxRecDepth 100000 in
set_option maxHeartbeats 8000000 in
theorem implSf_any (s : ByteArray) (ts : List VD) (a : Option Addr) (cap : Nat) (w : World) (hs : s.size ≤ 1048576) (hn : ts.length ≤ 1048576) (hc : ts.length ≤ cap) (ha : VdR w ts a) (hv : ∀ v ∈ ts, GoodV v) (ht : Tab w) (hbt : BT w) (hm : ML w) :
    Calls Tryz.prog 8 #[.string s, .slice a ts.length cap] w fun e w' => e = .returned (spV (spA s.data.toList ts)) ∧ Below w.heap.size w w' := by
  have HS := Lib.hid hs
  have HO0 := Lib.hid (own_start (e := 5) (w := w) (Nat.le_refl _))
  have HBA := Lib.hid (show ∀ o, Below w.heap.size w (w.alloc o) from fun o => (Below.refl _ w).alloc (Nat.le_refl _) o)
  have HT := Lib.hid ht
  have HBT := Lib.hid hbt
  have HM := Lib.hid hm
  have HA := Lib.hid ha
  have HV := Lib.hid hv
  clear ha hv ht hbt hm
  go_enter Tryz.func8, Tryz.ntmps8
  go_wp2_with fail
  go_loopg [0, 1, 6] s.size (fun gg sf sl so wr => ∃ (l : List UInt8) (vs : List VD) (av : Option Addr) (cv : Nat) (out : List UInt8), l.length ≤ gg ∧ sf = .string ⟨l.toArray⟩ ∧ sl = .slice av vs.length cv ∧ vs.length ≤ cv ∧ vs.length ≤ 1048576 ∧ VdR w vs av ∧ (∀ v ∈ vs, GoodV v) ∧ Own 5 w.heap.size wr so out ∧ out.length ≤ 4194304 ∧ l.length ≤ 1048576 ∧ spV (spA s.data.toList ts) = spV (spB out l vs) ∧ Below w.heap.size w wr)
  case atStart => exact ⟨s.data.toList, ts, a, cap, [], by simp, rfl, rfl, hc, hn, HA.out, HV.out, HO0.out, by simp, by simpa using HS.out, by rw [spB_start], HBA.out _⟩
  case round =>
    obtain ⟨l, vs, av, cv, out, hlg, rfl, rfl, hcv, hvn, hrow, hgv, hown, hol, hl9, hp, hb⟩ := hrel
    have HP := Lib.hid hp
    have HB := Lib.hid hb
    have HR := Lib.hid hrow
    have HG := Lib.hid hgv
    have HO := Lib.hid hown
    have C := Lib.hid (fun W => cut37_any ⟨l.toArray⟩ W (by rw [bsz]; exact hl9))
    simp only at C
    clear hp hb hrow hgv hown
    rcases idx37 l with ⟨h1, h2⟩ | ⟨n, h1, h2, h3, h4⟩
    · have HN := Lib.hid (show spV (spA s.data.toList ts) = if (out ++ l).length ≤ 4000 then spV (out ++ l, true) else spV ([], false) by
        rw [HP.out]
        conv => lhs; rw [← List.append_nil l]
        rw [spB_app out l [] vs h2, spB_end]
        split <;> rfl)
      rw [cutP_none h1] at C
      have hlen : (out ++ l).length ≤ 8388608 := by rw [List.length_append]; omega
      have hlz : out.length + l.length ≤ 1099511627776 := by omega
      clear h1 h2
      go_wp2_with fail
      refine (C.out _).mono ?_
      rintro en w1 ⟨rfl, hb1⟩
      have HB1 := Lib.hid (HB.out.trans (hb1.mono HB.out.size))
      have HO1 := Lib.hid (HO.out.kept (B' := 0) hb1)
      have hz1 := HB1.out.size
      clear hb1
      by_cases hz : (out ++ l).length ≤ 4000
      · have hzi : ¬ (4000 : Int) < ((out ++ l).length : Int) := by omega
        go_wp2_with (at_builtin; refine wp_append_text Tryz.underlying22 Tryz.underlying9 Tryz.infoU8 rfl _ _ rfl w.heap.size _ out rfl HO1.out l rfl hlz hz1 ?_; intro v2 w2 ho2 hb2; have HO2 := Lib.hid ho2; have HB2 := Lib.hid (HB1.out.trans hb2); have hbk := ho2.back 22 9 Tryz.underlying22 Tryz.underlying5 Tryz.underlying9; clear ho2 hb2; obtain ⟨a2, c2, rfl, _⟩ := flAt_own HO2.out; generalize out ++ l = o2 at *)
        go_ret2
        exact ⟨by rw [HN.out, if_pos hz]; rfl, HB2.out⟩
      · have hzi : (4000 : Int) < ((out ++ l).length : Int) := by omega
        go_wp2_with (at_builtin; refine wp_append_text Tryz.underlying22 Tryz.underlying9 Tryz.infoU8 rfl _ _ rfl w.heap.size _ out rfl HO1.out l rfl hlz hz1 ?_; intro v2 w2 ho2 hb2; have HO2 := Lib.hid ho2; have HB2 := Lib.hid (HB1.out.trans hb2); have hbk := ho2.back 22 9 Tryz.underlying22 Tryz.underlying5 Tryz.underlying9; clear ho2 hb2; obtain ⟨a2, c2, rfl, _⟩ := flAt_own HO2.out; generalize out ++ l = o2 at *)
        go_ret2
        exact ⟨by rw [HN.out, if_neg hz]; rfl, HB2.out⟩
    · rw [cutP_at h1] at C
      obtain ⟨rest, hrest⟩ : ∃ rest, rest = l.drop (n + 1) := ⟨_, rfl⟩
      obtain ⟨pl, hpl⟩ : ∃ pl, pl = l.take n := ⟨_, rfl⟩
      rw [← hrest, ← hpl] at C
      rw [← hrest, ← hpl] at h3
      rw [← hpl] at h4
      have hrl : pl.length + rest.length + 1 = l.length := by
        have := congrArg List.length h3
        rw [List.length_append, List.length_cons] at this; omega
      have HL := Lib.hid (show spV (spA s.data.toList ts) = spV (spB (out ++ pl) (37 :: rest) vs) by rw [HP.out, h3, spB_app _ _ _ _ h4])
      have R := Lib.hid (fun W => place_any ⟨rest.toArray⟩ W (by rw [bsz]; omega))
      rw [bsz] at R
      simp only at R
      have hlen : (out ++ pl).length ≤ 8388608 := by rw [List.length_append]; omega
      have hlz : out.length + pl.length ≤ 1099511627776 := by omega
      clear h1 h2 h3 h4 hrest hpl
      go_wp2_with fail
      refine (C.out _).mono ?_
      rintro en w1 ⟨rfl, hb1⟩
      have HB1 := Lib.hid (HB.out.trans (hb1.mono HB.out.size))
      have HO1 := Lib.hid (HO.out.kept (B' := 0) hb1)
      have hz1 := HB1.out.size
      clear hb1
      by_cases hz : (out ++ pl).length ≤ 4000
      · have hzi : ¬ (4000 : Int) < ((out ++ pl).length : Int) := by omega
        go_wp2_with (at_builtin; refine wp_append_text Tryz.underlying22 Tryz.underlying9 Tryz.infoU8 rfl _ _ rfl w.heap.size _ out rfl HO1.out pl rfl hlz hz1 ?_; intro v2 w2 ho2 hb2; have HO2 := Lib.hid ho2; have HB2 := Lib.hid (HB1.out.trans hb2); have hb2r := Lib.hid hb2; clear ho2 hb2; obtain ⟨a2, c2, rfl, _⟩ := flAt_own HO2.out; generalize out ++ pl = o2 at *)
        refine (R.out _).mono ?_
        rintro en w3 ⟨hb3, ⟨hh, rfl⟩ | ⟨hh, hno, rfl⟩ | ⟨p, r, hh, hsome, rfl⟩⟩
        · obtain ⟨r, rfl⟩ : ∃ r, rest = 37 :: r := by
            cases rest with
            | nil => simp at hh
            | cons x r => simp at hh; exact ⟨r, by rw [hh]⟩
          have HN := Lib.hid (show spV (spA s.data.toList ts) = spV (spB (o2 ++ [37]) r vs) by rw [HL.out, spB_both])
          have HB3 := Lib.hid (HB2.out.trans (hb3.mono HB2.out.size))
          have HO3 := Lib.hid (HO2.out.kept (B' := 0) hb3)
          have hsl : ∀ W, (Instr.slice 9 (.string ⟨(37 :: r).toArray⟩) (some (.int .i64 1)) none none).run Tryz.prog W = .ok (.string ⟨r.toArray⟩) W := fun W => by
            rw [run_slice_string_l _ _ _ Tryz.underlying9 .i64 1 (by omega) (by rw [bsz]; simp; omega), ext_mk]; rfl
          have hr9 : r.length + 1 ≤ gk := by simp at hrl; omega
          have hr8 : r.length ≤ 1048576 := by simp at hrl; omega
          have hc4 := fp_new w3 71 ⟨#[]⟩ 0 false 0 37
          have HO4 := Lib.hid (show ∀ o, Own 5 w.heap.size (w3.alloc o) _ o2 from fun o => HO3.out.alloc o)
          have HB4 := Lib.hid (show ∀ o, Below w.heap.size w (w3.alloc o) from fun o => HB3.out.alloc HB3.out.size o)
          have hl37 : o2.length + [(37 : UInt8)].length ≤ 1099511627776 := by simp; omega
          have hz4 : ∀ o o', w.heap.size ≤ ((w3.alloc o).alloc o').heap.size := fun o o' => by have := HB3.out.size; simp; omega
          have hlz4 : (o2 ++ [37]).length ≤ 4194304 := by rw [List.length_append]; show o2.length + 1 ≤ _; omega
          clear hb3 hh
          go_wp2_with (at_builtin; refine wp_append_bytes Tryz.underlying22 Tryz.infoU8 rfl _ _ rfl w.heap.size _ o2 rfl ((HO4.out _).alloc _) ⟨w3.heap.size + 1, 0, none⟩ 1 1 [37] rfl rfl (by simpa using news_lit (w3.alloc _) _ [37] [.int .u8 37] rfl) hl37 (hz4 _ _) ?_; intro v5 w5 ho5 hb5; have HO5 := Lib.hid ho5; have HB5 := Lib.hid (((HB4.out _).alloc (HB4.out _).size _).trans hb5); clear ho5 hb5)
          go_roundg r.length
          case measure => omega
          case rel => exact ⟨r, vs, av, cv, _, Nat.le_refl _, rfl, rfl, hcv, hvn, HR.out, HG.out, HO5.out, hlz4, hr8, HN.out, HB5.out⟩
        · have HN := Lib.hid (show spV (spA s.data.toList ts) = .tuple #[.string ⟨#[]⟩, .bool false] by rw [HL.out, spB_none _ hh hno]; rfl)
          have HB3 := Lib.hid (HB2.out.trans (hb3.mono HB2.out.size))
          clear hb3 hh hno
          go_wp2_with fail
          go_ret2
          exact ⟨by rw [HN.out]; rfl, by first | exact HB3.out | exact HB3.out.alloc HB3.out.size _⟩
        · have HN := Lib.hid (show spV (spA s.data.toList ts) = spV (spB (o2 ++ toldL p (nextV vs)) r vs.tail) by rw [HL.out, spB_some _ hh hsome])
          have HB3 := Lib.hid (HB2.out.trans (hb3.mono HB2.out.size))
          have HO3 := Lib.hid (HO2.out.kept (B' := 0) hb3)
          have hrl2 := rdP_len hsome
          have hsuf := List.suffix_iff_eq_drop.1 (rdP_suf hsome)
          obtain ⟨z, hzz⟩ : ∃ z : Nat, z = rest.length - r.length := ⟨_, rfl⟩
          rw [← hzz] at hsuf
          have hsl : ∀ W, (Instr.slice 9 (.string ⟨rest.toArray⟩) (some (.int .i64 (z : Int))) none none).run Tryz.prog W = .ok (.string ⟨r.toArray⟩) W := fun W => by
            rw [run_slice_string_l _ _ _ Tryz.underlying9 .i64 (z : Int) (by omega) (by rw [bsz]; omega), Int.toNat_natCast, ext_mk, ← hsuf]
          have hk := kind37 (rdP_kind hsome).1
          have x37 : ((p.kind.toNat : Int) == 37) = false := ne_int p.kind 37 (by omega) hk
          have hz0 : ((z : Int) == 0) = false := by simp; omega
          have hr8 : r.length ≤ 1048576 := by omega
          have hr9 : r.length + 1 ≤ gk := by omega
          have hwd := (rdP_kind hsome).2
          rw [← hzz]
          have TD := Lib.hid (fun v (hgv : GoodV v) W => told_any p rest r hsome v hgv W (by omega))
          have HTL := Lib.hid (show ∀ v, GoodV v → (toldL p v).length ≤ 2097152 from fun v hgv => by
            have h1 := bodyL_le p.kind p.prec v hgv.1 (nmB_bd v.k v.s v.n hgv.2.1 hgv.2.2 (rnNum_bd v.s))
            have h2 := fillL_le (bodyL p.kind p.prec v) p.width p.left (p.nought && !(p.kind == 115 || p.kind == 99))
            unfold toldL; omega)
          unfold fpV VD.v at TD
          unfold fpV
          have hc4 := fp_new w3 71 ⟨(rest.take (flN rest)).toArray⟩ (p.width : Int) (decide (0 ≤ p.prec)) (if p.prec < 0 then 0 else p.prec) (p.kind.toNat : Int)
          generalize decide (0 ≤ p.prec) = db at *
          generalize (if p.prec < 0 then 0 else p.prec) = dp at *
          generalize (rest.take (flN rest)) = df at *
          clear hsome hsuf hzz hk hh hrl2
          cases vs with
          | nil =>
            have TD := Lib.hid (TD.out ⟨0, ⟨#[]⟩, 0⟩ ⟨by show 0 ≤ _; omega, by decide, by decide⟩)
            have hTL := HTL.out ⟨0, ⟨#[]⟩, 0⟩ ⟨by show 0 ≤ _; omega, by decide, by decide⟩
            have HN := Lib.hid (show spV (spA s.data.toList ts) = spV (spB (o2 ++ toldL p ⟨0, ⟨#[]⟩, 0⟩) r []) from HN.out)
            generalize toldL p ⟨0, ⟨#[]⟩, 0⟩ = tl at *
            have HB4 := Lib.hid (show ∀ o o', Below w.heap.size w ((w3.alloc o).alloc o') from fun o o' => (HB3.out.alloc HB3.out.size o).alloc (by have := HB3.out.size; simp; omega) o')
            have HO4 := Lib.hid (show ∀ o o', Own 5 w.heap.size ((w3.alloc o).alloc o') _ o2 from fun o o' => (HO3.out.alloc o).alloc o')
            have hlt5 : o2.length + tl.length ≤ 1099511627776 := by omega
            have hlz4 : (o2 ++ tl).length ≤ 4194304 := by rw [List.length_append]; omega
            clear hb3
            go_wp2_with fail
            refine (TD.out _ (HT.out.on (HB4.out _ _)) (HBT.out.kept (HB4.out _ _)) (HM.out.on (HB4.out _ _))).mono ?_
            rintro en w5 ⟨rfl, hb5⟩
            have HB5 := Lib.hid (bst (HB4.out _ _) hb5)
            have HO5 := Lib.hid ((HO4.out _ _).kept (B' := 0) hb5)
            have hz5 := HB5.out.size
            clear hb5
            go_wp2_with (at_builtin; refine wp_append_text Tryz.underlying22 Tryz.underlying9 Tryz.infoU8 rfl _ _ rfl w.heap.size _ o2 rfl HO5.out tl rfl hlt5 hz5 ?_; intro v6 w6 ho6 hb6; have HO6 := Lib.hid ho6; have HB6 := Lib.hid (HB5.out.trans hb6); clear ho6 hb6)
            go_roundg r.length
            case measure => omega
            case rel => exact ⟨r, [], av, cv, _, Nat.le_refl _, rfl, rfl, hcv, hvn, HR.out, HG.out, HO6.out, hlz4, hr8, HN.out, HB6.out⟩
          | cons v vs =>
            have hgv := HG.out v (by simp)
            have TD := Lib.hid (TD.out v hgv)
            have hTL := HTL.out v hgv
            have HN2 : spV (spA s.data.toList ts) = spV (spB (o2 ++ toldL p v) r vs) := HN.out
            clear HN
            generalize toldL p v = tl at *
            have HN := Lib.hid HN2
            clear HN2
            obtain ⟨g0, o0, rfl, hg0, y0, y1, y2⟩ := (HR.out.kept HB3.out) 0 (by simp)
            have HRT := Lib.hid HR.out.tail
            simp only [List.getElem_cons_zero, Nat.zero_mul, Nat.add_zero] at y0 y1 y2
            obtain ⟨vk, vs0, vn⟩ := v
            simp only at y0 y1 y2 TD
            have hlen1 : (0 : Int) < ((vs.length + 1 : Nat) : Int) := by omega
            simp only [List.length_cons] at *
            clear hb3
            obtain ⟨A1, hA1⟩ : ∃ A1 : Addr, A1 = if cv = 1 then (⟨g0, o0, none⟩ : Addr) else ⟨g0, o0 + 3, none⟩ := ⟨_, rfl⟩
            have hsv : ∀ W, (Instr.slice 24 (.slice (some ⟨g0, o0, none⟩) (vs.length + 1) cv) (some (.int .i64 1)) none none).run Tryz.prog W = .ok (.slice (some A1) vs.length (cv - 1)) W := fun W => by
              have hsz : (sizeOf (Tryz.prog.elem 24)).run Tryz.prog W = .ok 3 W := by kernel_rfl
              rw [run_slice_l (P := Tryz.prog) (w := W) 24 (some ⟨g0, o0, none⟩) (vs.length + 1) cv (by kernel_rfl) .i64 1 (by omega) (by omega), hsz]
              have h1 : (1 : Int).toNat = 1 := rfl
              by_cases hc1 : cv = 1
              · rw [hA1, if_pos hc1]; simp [sliced, h1, hc1]
              · have hc2 : ¬ 1 = cv := fun e => hc1 e.symm
                rw [hA1, if_neg hc1]; simp [sliced, h1, hc1, hc2, add_atS]
            have hl1 : (0 : Int) < (vs.length : Int) + 1 := by omega
            have hl2 : 0 < vs.length + 1 := Nat.succ_pos _
            have HRA := Lib.hid (show VdR w vs (some A1) from by
              rw [hA1]
              split
              · rename_i hc1
                have : vs.length = 0 := by omega
                intro i hi; omega
              · exact HRT.out)
            have hcv2 : vs.length ≤ cv - 1 := by omega
            have hgv2 := Lib.hid (show ∀ u ∈ vs, GoodV u from fun u hu => HG.out u (by simp [hu]))
            have hvn2 : vs.length ≤ 1048576 := by omega
            have hlt5 : o2.length + tl.length ≤ 1099511627776 := by omega
            have hlz4 : (o2 ++ tl).length ≤ 4194304 := by rw [List.length_append]; omega
            have BX := Bx8.start w3 71 66 ⟨df.toArray⟩ (p.width : Int) db dp (p.kind.toNat : Int) 0 ⟨#[]⟩ 0
            have YB : Below w3.heap.size w3 ((w3.alloc (.cells #[.string ⟨df.toArray⟩, .int .i64 (p.width : Int), .bool db, .int .i64 dp, .int .u8 (p.kind.toNat : Int)] 71)).alloc (.cells #[.int .i64 0, .string ⟨#[]⟩, .int .i64 0] 66)) := ((Below.refl _ w3).alloc (Nat.le_refl _) _).alloc (by simp) _
            have q0 := (YB.cell (p := ⟨g0, o0, none⟩) hg0).trans y0
            have q1 := (YB.cell (p := ⟨g0, o0 + 1, none⟩) hg0).trans y1
            have q2 := (YB.cell (p := ⟨g0, o0 + 2, none⟩) hg0).trans y2
            have fz : ∀ j, ((w3.alloc (.cells #[.string ⟨df.toArray⟩, .int .i64 (p.width : Int), .bool db, .int .i64 dp, .int .u8 (p.kind.toNat : Int)] 71)).alloc (.cells #[.int .i64 0, .string ⟨#[]⟩, .int .i64 0] 66)).frozen? ⟨w3.heap.size + 1, j, none⟩ = false := fun j => by
              rw [show w3.heap.size + 1 = (w3.alloc (.cells #[.string ⟨df.toArray⟩, .int .i64 (p.width : Int), .bool db, .int .i64 dp, .int .u8 (p.kind.toNat : Int)] 71)).heap.size from (World.size_alloc _ _).symm]
              exact World.frozen?_alloc_at _ _ _ _ rfl
            have f0 := fz 0
            have f1 := fz 1
            have f2 := fz 2
            have YBH := Lib.hid YB
            have hB3 := HB3.out.size
            have HZ4 := Lib.hid BX.lt
            obtain ⟨b0, b1, b2, b3, b4, d0, d1, d2, hltB⟩ := BX
            have hne1 : ¬ g0 = w3.heap.size + 1 := by omega
            clear hA1 fz YB y0 y1 y2
            go_wp2_with fail
            generalize ((w3.alloc (.cells #[.string ⟨df.toArray⟩, .int .i64 (p.width : Int), .bool db, .int .i64 dp, .int .u8 (p.kind.toNat : Int)] 71)).alloc (.cells #[.int .i64 0, .string ⟨#[]⟩, .int .i64 0] 66)) = W4 at *
            refine wp_region_held_drew (S := (fun w' => w'.cell? ⟨g0, o0, none⟩ = some (.int .i64 vk) ∧ w'.cell? ⟨g0, o0 + 1, none⟩ = some (.string vs0) ∧ w'.cell? ⟨g0, o0 + 2, none⟩ = some (.int .i64 vn))) (by kernel_rfl) ⟨q0, q1, q2⟩ (fun hHeld => ?_)
            refine wpAnyH_take (i := 0) (v := ?_) rfl (by kernel_rfl) (by kernel_rfl) (by kernel_rfl) (fun _ _ _ h => h) (Or.inl ⟨by kernel_rfl, ?_⟩) (by assumption) ?_
            rotate_left 1
            · intro w hSw
              try dsimp only at hSw
              go_simp
              try with_reducible rfl
            try simp only [List.getElem_toArray, List.getElem_cons_zero, Act.put, List.setIfInBounds_toArray, List.set_cons_zero, List.set_cons_succ]
            refine wpAnyH_take (i := 1) (v := ?_) rfl (by kernel_rfl) (by kernel_rfl) (by kernel_rfl) (fun _ _ _ h => h) (Or.inl ⟨by kernel_rfl, ?_⟩) (by assumption) ?_
            rotate_left 1
            · intro w hSw
              try dsimp only at hSw
              go_simp
              try with_reducible rfl
            try simp only [List.getElem_toArray, List.getElem_cons_zero, List.getElem_cons_succ, Act.put, List.setIfInBounds_toArray, List.set_cons_zero, List.set_cons_succ]
            refine wpAnyH_take (i := 2) (v := ?_) rfl (by kernel_rfl) (by kernel_rfl) (by kernel_rfl) (fun _ _ _ h => h) (Or.inl ⟨by kernel_rfl, ?_⟩) (by assumption) ?_
            rotate_left 1
            · intro w hSw
              try dsimp only at hSw
              go_simp
              try with_reducible rfl
            try simp only [List.getElem_toArray, List.getElem_cons_zero, List.getElem_cons_succ, Act.put, List.setIfInBounds_toArray, List.set_cons_zero, List.set_cons_succ]
            refine wpAnyH_take (i := 3) (v := ?_) rfl (by kernel_rfl) (by kernel_rfl) (by kernel_rfl) (fun _ _ _ h => h) (Or.inl ⟨by kernel_rfl, ?_⟩) (by assumption) ?_
            rotate_left 1
            · intro w hSw
              try dsimp only at hSw
              go_simp
              try with_reducible rfl
            try simp only [List.getElem_toArray, List.getElem_cons_zero, List.getElem_cons_succ, Act.put, List.setIfInBounds_toArray, List.set_cons_zero, List.set_cons_succ]
            refine wpAnyH_take (i := 4) (v := ?_) rfl (by kernel_rfl) (by kernel_rfl) (by kernel_rfl) (fun _ _ _ h => h) (Or.inl ⟨by kernel_rfl, ?_⟩) (by assumption) ?_
            rotate_left 1
            · intro w hSw
              try dsimp only at hSw
              go_simp
              try with_reducible rfl
            try simp only [List.getElem_toArray, List.getElem_cons_zero, List.getElem_cons_succ, Act.put, List.setIfInBounds_toArray, List.set_cons_zero, List.set_cons_succ]
            refine wpAnyH_ready (rs := [5]) (by kernel_rfl) (by simp) ?_
            refine AllReadyH.cons rfl (fun K hK => ?_) AllReadyH.nil
            go_simp
            refine hK.out _ _ ⟨by go_simp, by go_simp, by go_simp⟩ (fun hHeld => ?_)
            clear hK K
            try simp only [List.getElem_toArray, List.getElem_cons_zero, List.getElem_cons_succ, Act.put, List.setIfInBounds_toArray, List.set_cons_zero, List.set_cons_succ]
            refine wpAnyH_take (i := 6) (v := ?_) rfl (by kernel_rfl) (by kernel_rfl) (by kernel_rfl) (fun _ _ _ h => h) (Or.inl ⟨by kernel_rfl, ?_⟩) (by assumption) ?_
            rotate_left 1
            · intro w hSw
              try dsimp only at hSw
              go_simp
              try with_reducible rfl
            try simp only [List.getElem_toArray, List.getElem_cons_zero, List.getElem_cons_succ, Act.put, List.setIfInBounds_toArray, List.set_cons_zero, List.set_cons_succ]
            refine wpAnyH_done (by kernel_rfl) ?_ _
            go_wp2_with fail
            have HY5 := Lib.hid (((YBH.out.drew.setCell (p := ⟨w3.heap.size + 1, 0, none⟩) (by simp) (.int .i64 vk)).setCell (p := ⟨w3.heap.size + 1, 1, none⟩) (by simp) (.string vs0)).setCell (p := ⟨w3.heap.size + 1, 2, none⟩) (by simp) (.int .i64 vn))
            have HB5 := Lib.hid (bst HB3.out HY5.out)
            have HO5 := Lib.hid (HO3.out.kept (B' := 0) HY5.out)
            refine (TD.out _ (HT.out.on HB5.out) (HBT.out.kept HB5.out) (HM.out.on HB5.out)).mono ?_
            rintro en w6 ⟨rfl, hb6⟩
            have HB6 := Lib.hid (bst HB5.out hb6)
            have HO6 := Lib.hid (HO5.out.kept (B' := 0) hb6)
            have hz6 := HB6.out.size
            clear hb6
            go_wp2_with (at_builtin; refine wp_append_text Tryz.underlying22 Tryz.underlying9 Tryz.infoU8 rfl _ _ rfl w.heap.size _ o2 rfl HO6.out tl rfl hlt5 hz6 ?_; intro v7 w7 ho7 hb7; have HO7 := Lib.hid ho7; have HB7 := Lib.hid (HB6.out.trans hb7); clear ho7 hb7)
            go_roundg r.length
            case measure => omega
            case rel => exact ⟨r, vs, some A1, cv - 1, _, Nat.le_refl _, rfl, rfl, hcv2, hvn2, HRA.out, hgv2.out, HO7.out, hlz4, hr8, HN.out, HB7.out⟩
      · have hzi : (4000 : Int) < ((out ++ pl).length : Int) := by omega
        have HN := Lib.hid (show spV (spA s.data.toList ts) = .tuple #[.string ⟨#[]⟩, .bool false] by rw [HL.out, spB_long _ _ _ (by omega)]; rfl)
        go_wp2_with (at_builtin; refine wp_append_text Tryz.underlying22 Tryz.underlying9 Tryz.infoU8 rfl _ _ rfl w.heap.size _ out rfl HO1.out pl rfl hlz hz1 ?_; intro v2 w2 ho2 hb2; have HO2 := Lib.hid ho2; have HB2 := Lib.hid (HB1.out.trans hb2); have hb2r := Lib.hid hb2; clear ho2 hb2; obtain ⟨a2, c2, rfl, _⟩ := flAt_own HO2.out; generalize out ++ pl = o2 at *)
        go_ret2
        exact ⟨by rw [HN.out]; rfl, HB2.out⟩
end Go.Proofs.YthffjcclcladoaaGreatDoor.kit
