/-
  Contract of impl.readRepl over this seat's translation. Conditions: texts of at most 1048576 bytes.
-/
import Derived.Test.YthffjcclcladoaaPt2
namespace Go.Proofs.Ythffjcclcladoaa.kit
open Go.ChangeShapes Go.WideShapes Go.ChangeAt Go.RowKit
set_option linter.unusedVariables false


/-- append of bytes to such a slice, and what it leaves alone. -/
theorem wp_append_bytesG {P : Program} {t e : TypeId} (ht : P.underlying t = some (.slice e)) (hinfo : (P.info? e).map (fun i => (i.zero, i.size, i.bytes)) = some (some (.int .u8 0), 1, 1))
    {w : World} {ops : Array Oper} {rest : List Oper} {o : Oper} {a : Act} {Q : Exit → Act → World → Prop} (hgd : o.guard = none) (s x : Operand)
    (ho : o.op = .call { callee := .builtin .append, args := #[s, x], argTypes := #[t, t] }) (B : Nat) (v : Value) (xs : List UInt8) (hs : a.eval s = v) (hown : Own e B w v xs)
    (ad : Addr) (c m : Nat) (news : List UInt8) (hm : m = news.length) (hx : a.eval x = .slice (some ad) m c) (hnews : ∀ (j : Nat) (h : j < news.length), w.cell? (ad.add j) = some (.int .u8 (news[j].toNat : Int)))
    (hl : xs.length + news.length ≤ 1099511627776) (hB : B ≤ w.heap.size)
    (h : ∀ v' w', Own e B w' v' (xs ++ news) → w.grownBy w' v.ownBlock → Below B w w' → wpList P ops Q rest (a.put o.dst v') w') : wpList P ops Q (o :: rest) a w := by
  obtain ⟨i0, hi, hz0, hz1, hz2⟩ := info_parts hinfo
  subst hm
  refine wpList_append_own _ hgd s x t ho B e i0 (.int .u8 0) 1 1 ht hi hz0 hz1 hz2 rfl (by decide) v xs.length _ hs hown ad news.length c (news.map fun c => .int .u8 (c.toNat : Int)) hx (by simp) ?_ ?_ ?_ ?_ hB ?_
  · intro j u hu
    rw [List.getElem?_map] at hu
    cases hj : news[j]? with
    | none => simp [hj] at hu
    | some c =>
      obtain ⟨hjl, hjc⟩ := List.getElem?_eq_some_iff.1 hj
      rw [hnews j hjl, hjc]; simpa [hj] using hu
  · intro u hu; simp at hu; obtain ⟨c, _, rfl⟩ := hu; rfl
  · simp only [maxLen]; omega
  · omega
  · intro v' w' h1 h2 h3
    refine h v' w' ?_ h2 (Below.grown (Below.refl _ _) h2 hB (fun k hk => (World.ownsRow.lt hown k hk).1))
    simpa [Own, List.map_append] using h1
theorem news2 (w : World) (o : Obj) (c : UInt8) (t : TypeId) : ∀ (j : Nat) (h : j < [c].length), ((w.alloc o).alloc (.cells #[.int .u8 (c.toNat : Int)] t)).cell? ((⟨w.heap.size + 1, 0, none⟩ : Addr).add j) = some (.int .u8 (([c][j]).toNat : Int)) := by
  have := news_one (w.alloc o) c t
  rwa [World.size_alloc] at this
theorem len1 (c : UInt8) : ([] : List UInt8).length + [c].length ≤ 1099511627776 := by simp
theorem le1 {B : Nat} {w : World} (h : B ≤ w.heap.size) (o : Obj) : B ≤ (w.alloc o).heap.size := by simp; omega
theorem le2 {B : Nat} {w : World} (h : B ≤ w.heap.size) (o o' : Obj) : B ≤ ((w.alloc o).alloc o').heap.size := by simp; omega
theorem cellP0 (w : World) (a b : Value) (t : TypeId) : (w.alloc (.cells #[a, b] t)).cell? ⟨w.heap.size, 0, none⟩ = some a := by
  rw [World.cell?_alloc_at _ _ _ _ rfl]; rfl
theorem cellP1 (w : World) (a b : Value) (t : TypeId) : (w.alloc (.cells #[a, b] t)).cell? ⟨w.heap.size, 1, none⟩ = some b := by
  rw [World.cell?_alloc_at _ _ _ _ rfl]; rfl
def RrPost (B : Nat) (w : World) (s : List UInt8) (e : Ending) (w' : World) : Prop := ∃ v ps, e = .returned v ∧ OwnPc B w' v ps ∧ PqAll s ps ∧ Below B w w'
theorem RrPost.of {B : Nat} {w : World} {s : List UInt8} {v : Value} {ps : List Pc} {w' : World} (h1 : OwnPc B w' v ps) (h2 : PqAll s ps) (h3 : Below B w w') : RrPost B w s (.returned v) w' := ⟨v, ps, rfl, h1, h2, h3⟩
set_option maxRecDepth 100000 in
set_option maxHeartbeats 4000000 in
theorem readRepl_any (s : ByteArray) (w : World) (hs : s.size ≤ 1048576) :
    Calls Try.prog 9 #[.string s] w (RrPost w.heap.size w s.data.toList) := by
  have hB0 := Lib.hid (show ∀ o o', Below w.heap.size w ((w.alloc o).alloc o') from fun o o' => ((Below.refl _ w).alloc (Nat.le_refl _) o).alloc (by simp) o')
  have hP0 := Lib.hid (show ∀ o, OwnPc w.heap.size ((w.alloc (.cells #[] 29)).alloc o) (.slice (some ⟨w.heap.size, 0, none⟩) 0 0) [] from fun o => (ownPc_start (Nat.le_refl _)).alloc o)
  have hO0 := Lib.hid (show ∀ o, Own 5 w.heap.size ((w.alloc o).alloc (.cells #[] 5)) (.slice (some ⟨w.heap.size + 1, 0, none⟩) 0 0) [] from fun o => by
    have := own_start (e := 5) (B := w.heap.size) (w := w.alloc o) (by simp)
    rwa [World.size_alloc] at this)
  have hss : s.data.toList.length = s.size := by simp
  have HSS := Lib.hid hss
  clear hss
  go_enter Try.func9, Try.ntmps9
  go_wp2
  go_loopw [3, 4, 5, 6] (fun v3 v4 tv i wr => ∃ (k : Nat) (ps : List Pc) (p : List UInt8) (t : Nat), k ≤ s.size ∧ i = .int .i64 k ∧ tv = .int .i64 t ∧ OwnPc w.heap.size wr v3 ps ∧ Own 5 w.heap.size wr v4 p ∧ PqAt s.data.toList ps p t (s.data.toList.drop k) ∧ Below w.heap.size w wr) (fun _ _ _ i _ => s.size - (intOf i).toNat)
  case atStart => exact ⟨0, [], [], 0, Nat.zero_le _, rfl, rfl, hP0.out _, hO0.out _, PqAt.start _, hB0.out _ _⟩
  case round =>
    obtain ⟨k, ps, p, t, hk, rfl, rfl, hown, hpl, hpq, hbel⟩ := hrel
    have hz := hbel.size
    have hq2 := hpq.2.1
    rw [HSS.out] at hq2
    have hq3 := hpq.2.2
    have HP := Lib.hid hown
    have HO := Lib.hid hpl
    have HQ := Lib.hid hpq
    have HB := Lib.hid hbel
    have ht9 : t ≤ 1048576 := by omega
    have hp8 : ps.length + 1 ≤ 1099511627776 := by omega
    have hl9 : p.length ≤ 1048576 := by omega
    have hbk := hpl.back (P := Try.prog) 30 9 Try.underlying30 Try.underlying5 Try.underlying9
    have hla : ∀ c : UInt8, p.length + [c].length ≤ 1099511627776 := fun c => by simp; omega
    have hzz : ∀ o, w.heap.size ≤ (wr.alloc o).heap.size := fun o => by simp; omega
    have HLA := Lib.hid hla
    have HZZ := Lib.hid hzz
    clear hla hzz hown hpl hpq hbel hq2 hq3
    by_cases hlt : k < s.size
    · have HD := Lib.hid (drop_consP s k hlt)
      by_cases h1 : s[k].toNat = 38
      · have e1 : ((s[k].toNat : Int) == 38) = true := by simp; omega
        have HN := Lib.hid (PqAt.amp (r := s.data.toList.drop (k + 1)) (by have := HQ.out; rwa [HD.out, ofNat38 h1] at this))
        clear h1 hbk
        go_wp2
        go_roundw
        case rel => exact ⟨k + 1, ps, p, t + 1, by omega, by go_num, by go_num, HP.out, HO.out, HN.out, HB.out⟩
        case measure => simp [intOf]; omega
      · have e1 : ((s[k].toNat : Int) == 38) = false := by simp; omega
        have HNE := Lib.hid (show s[k] ≠ 38 from fun e => h1 (by rw [e]; rfl))
        clear h1
        by_cases ht : 0 < t
        · have HF := Lib.hid (HQ.out.flush ht)
          have ht2 : (0 : Int) < (t : Int) := by omega
          have hone : ∀ (hno : s[k] = 92 → ∀ d u, s.data.toList.drop (k + 1) = d :: u → rsB d = false), PqAt s.data.toList (ps ++ [(p, t)]) ([] ++ [s[k]]) 0 (s.data.toList.drop (k + 1)) := fun hno => PqAt.one (by have := HF.out; rwa [HD.out] at this) HNE.out hno
          by_cases h2 : s[k].toNat = 92
          · have e2 : ((s[k].toNat : Int) == 92) = true := by simp; omega
            by_cases h3 : k + 1 < s.size
            · have HD2 := Lib.hid (drop_consP s (k + 1) h3)
              have e3 : decide (k + 1 < s.size) = true := by simp; exact h3
              have HC := Lib.hid (fun W => isRepl_any s[k + 1] W)
              by_cases hr : rsB s[k + 1] = true
              · rw [hr] at HC
                have HN := Lib.hid (PqAt.esc (d := s[k + 1]) (r := s.data.toList.drop (k + 1 + 1)) (by have := HF.out; rwa [HD.out, HD2.out, ofNat92 h2] at this) hr)
                clear hone h2 hr
                go_wp2_with (first
                  | (go_at_call 11; refine (HC.out _).mono ?_; rintro e w1 ⟨rfl, rfl⟩)
                  | (at_builtin; refine wp_append_piece rfl (.tmp 23) (.tmp 28) rfl w.heap.size _ ps rfl (HP.out.alloc _) wr.heap.size 1 (p, t) rfl (cellP0 _ _ _ _) (cellP1 _ _ _ _) hp8 (HZZ.out _) ?_; intro v2 w2 hp2 hg2 hb2; have HB2 := Lib.hid ((HB.out.alloc hz _).trans hb2); have hz2 := HB2.out.size; have HP2 := Lib.hid (hp2.alloc (.cells #[] 5)); have HB3 := Lib.hid (HB2.out.alloc hz2 (.cells #[] 5)); have hz3 : w2.heap.size < (w2.alloc (.cells #[] 5)).heap.size := (by simp); have HO2 := Lib.hid (own_start (e := 5) (w := w2) hz2); clear hp2 hg2 hb2)
                  | (at_builtin; refine wp_append_bytesG Try.underlying30 Try.infoU8 rfl (.tmp 51) (.tmp 55) rfl w.heap.size _ [] rfl (HO2.out.alloc _) ⟨w2.heap.size + 1, 0, none⟩ 1 1 [s[k + 1]] rfl rfl (news2 _ _ _ _) (len1 _) (le2 hz2 _ _) ?_; intro v5 w5 ho5 hg5 hb5; have HP5 := Lib.hid ((HP2.out.alloc _).other hg5 (pc_apart HP2.out HO2.out)); have HO5 := Lib.hid ho5; have HB5 := Lib.hid ((HB3.out.alloc (le1 hz2 _) _).trans hb5); clear ho5 hg5 hb5))
                go_roundw
                case rel => exact ⟨k + 2, ps ++ [(p, t)], [] ++ [s[k + 1]], 0, by omega, by go_num, rfl, HP5.out, HO5.out, HN.out, HB5.out⟩
                case measure => simp [intOf]; omega
              · have hr : rsB s[k + 1] = false := by simpa using hr
                rw [hr] at HC
                have HN := Lib.hid (hone (fun _ d u e => by rw [HD2.out] at e; injection e with e _; rw [← e]; exact hr))
                clear hone h2 hr
                go_wp2_with (first
                  | (go_at_call 11; refine (HC.out _).mono ?_; rintro e w1 ⟨rfl, rfl⟩)
                  | (at_builtin; refine wp_append_piece rfl (.tmp 23) (.tmp 28) rfl w.heap.size _ ps rfl (HP.out.alloc _) wr.heap.size 1 (p, t) rfl (cellP0 _ _ _ _) (cellP1 _ _ _ _) hp8 (HZZ.out _) ?_; intro v2 w2 hp2 hg2 hb2; have HB2 := Lib.hid ((HB.out.alloc hz _).trans hb2); have hz2 := HB2.out.size; have HP2 := Lib.hid (hp2.alloc (.cells #[] 5)); have HB3 := Lib.hid (HB2.out.alloc hz2 (.cells #[] 5)); have hz3 : w2.heap.size < (w2.alloc (.cells #[] 5)).heap.size := (by simp); have HO2 := Lib.hid (own_start (e := 5) (w := w2) hz2); clear hp2 hg2 hb2)
                  | (at_builtin; refine wp_append_bytesG Try.underlying30 Try.infoU8 rfl (.tmp 51) (.tmp 55) rfl w.heap.size _ [] rfl (HO2.out.alloc _) ⟨w2.heap.size + 1, 0, none⟩ 1 1 [s[k]] rfl rfl (news2 _ _ _ _) (len1 _) (le2 hz2 _ _) ?_; intro v5 w5 ho5 hg5 hb5; have HP5 := Lib.hid ((HP2.out.alloc _).other hg5 (pc_apart HP2.out HO2.out)); have HO5 := Lib.hid ho5; have HB5 := Lib.hid ((HB3.out.alloc (le1 hz2 _) _).trans hb5); clear ho5 hg5 hb5))
                go_roundw
                case rel => exact ⟨k + 1, ps ++ [(p, t)], [] ++ [s[k]], 0, by omega, by go_num, rfl, HP5.out, HO5.out, HN.out, HB5.out⟩
                case measure => simp [intOf]; omega
            · have HN := Lib.hid (hone (fun _ d u e => by rw [List.drop_of_length_le (by simp; omega)] at e; cases e))
              have e3 : decide (k + 1 < s.size) = false := by simp; omega
              clear hone h2
              go_wp2_with (first
                | (at_builtin; refine wp_append_piece rfl (.tmp 23) (.tmp 28) rfl w.heap.size _ ps rfl (HP.out.alloc _) wr.heap.size 1 (p, t) rfl (cellP0 _ _ _ _) (cellP1 _ _ _ _) hp8 (HZZ.out _) ?_; intro v2 w2 hp2 hg2 hb2; have HB2 := Lib.hid ((HB.out.alloc hz _).trans hb2); have hz2 := HB2.out.size; have HP2 := Lib.hid (hp2.alloc (.cells #[] 5)); have HB3 := Lib.hid (HB2.out.alloc hz2 (.cells #[] 5)); have hz3 : w2.heap.size < (w2.alloc (.cells #[] 5)).heap.size := (by simp); have HO2 := Lib.hid (own_start (e := 5) (w := w2) hz2); clear hp2 hg2 hb2)
                | (at_builtin; refine wp_append_bytesG Try.underlying30 Try.infoU8 rfl (.tmp 51) (.tmp 55) rfl w.heap.size _ [] rfl (HO2.out.alloc _) ⟨w2.heap.size + 1, 0, none⟩ 1 1 [s[k]] rfl rfl (news2 _ _ _ _) (len1 _) (le2 hz2 _ _) ?_; intro v5 w5 ho5 hg5 hb5; have HP5 := Lib.hid ((HP2.out.alloc _).other hg5 (pc_apart HP2.out HO2.out)); have HO5 := Lib.hid ho5; have HB5 := Lib.hid ((HB3.out.alloc (le1 hz2 _) _).trans hb5); clear ho5 hg5 hb5))
              go_roundw
              case rel => exact ⟨k + 1, ps ++ [(p, t)], [] ++ [s[k]], 0, by omega, by go_num, rfl, HP5.out, HO5.out, HN.out, HB5.out⟩
              case measure => simp [intOf]; omega
          · have e2 : ((s[k].toNat : Int) == 92) = false := by simp; omega
            have HN := Lib.hid (hone (fun e => absurd (by rw [e]; rfl) h2))
            clear hone h2
            go_wp2_with (first
              | (at_builtin; refine wp_append_piece rfl (.tmp 23) (.tmp 28) rfl w.heap.size _ ps rfl (HP.out.alloc _) wr.heap.size 1 (p, t) rfl (cellP0 _ _ _ _) (cellP1 _ _ _ _) hp8 (HZZ.out _) ?_; intro v2 w2 hp2 hg2 hb2; have HB2 := Lib.hid ((HB.out.alloc hz _).trans hb2); have hz2 := HB2.out.size; have HP2 := Lib.hid (hp2.alloc (.cells #[] 5)); have HB3 := Lib.hid (HB2.out.alloc hz2 (.cells #[] 5)); have hz3 : w2.heap.size < (w2.alloc (.cells #[] 5)).heap.size := (by simp); have HO2 := Lib.hid (own_start (e := 5) (w := w2) hz2); clear hp2 hg2 hb2)
              | (at_builtin; refine wp_append_bytesG Try.underlying30 Try.infoU8 rfl (.tmp 51) (.tmp 55) rfl w.heap.size _ [] rfl (HO2.out.alloc _) ⟨w2.heap.size + 1, 0, none⟩ 1 1 [s[k]] rfl rfl (news2 _ _ _ _) (len1 _) (le2 hz2 _ _) ?_; intro v5 w5 ho5 hg5 hb5; have HP5 := Lib.hid ((HP2.out.alloc _).other hg5 (pc_apart HP2.out HO2.out)); have HO5 := Lib.hid ho5; have HB5 := Lib.hid ((HB3.out.alloc (le1 hz2 _) _).trans hb5); clear ho5 hg5 hb5))
            go_roundw
            case rel => exact ⟨k + 1, ps ++ [(p, t)], [] ++ [s[k]], 0, by omega, by go_num, rfl, HP5.out, HO5.out, HN.out, HB5.out⟩
            case measure => simp [intOf]; omega
        · obtain rfl : t = 0 := by omega
          clear hbk ht
          have hone : ∀ (hno : s[k] = 92 → ∀ d u, s.data.toList.drop (k + 1) = d :: u → rsB d = false), PqAt s.data.toList ps (p ++ [s[k]]) 0 (s.data.toList.drop (k + 1)) := fun hno => PqAt.one (by have := HQ.out; rwa [HD.out] at this) HNE.out hno
          by_cases h2 : s[k].toNat = 92
          · have e2 : ((s[k].toNat : Int) == 92) = true := by simp; omega
            by_cases h3 : k + 1 < s.size
            · have HD2 := Lib.hid (drop_consP s (k + 1) h3)
              have e3 : decide (k + 1 < s.size) = true := by simp; exact h3
              have HC := Lib.hid (fun W => isRepl_any s[k + 1] W)
              by_cases hr : rsB s[k + 1] = true
              · rw [hr] at HC
                have HN := Lib.hid (PqAt.esc (d := s[k + 1]) (r := s.data.toList.drop (k + 1 + 1)) (by have := HQ.out; rwa [HD.out, HD2.out, ofNat92 h2] at this) hr)
                clear hone h2 hr
                go_wp2_with (first
                  | (go_at_call 11; refine (HC.out _).mono ?_; rintro e w1 ⟨rfl, rfl⟩)
                  | (at_builtin; refine wp_append_bytesG Try.underlying30 Try.infoU8 rfl (.tmp 51) (.tmp 55) rfl w.heap.size _ p rfl (HO.out.alloc _) ⟨wr.heap.size, 0, none⟩ 1 1 [s[k + 1]] rfl rfl (news_one _ s[k + 1] _) (HLA.out _) (HZZ.out _) ?_; intro v5 w5 ho5 hg5 hb5; have HP5 := Lib.hid ((HP.out.alloc _).other hg5 (pc_apart HP.out HO.out)); have HO5 := Lib.hid ho5; have HB5 := Lib.hid ((HB.out.alloc hz _).trans hb5); clear ho5 hg5 hb5))
                go_roundw
                case rel => exact ⟨k + 2, ps, p ++ [s[k + 1]], 0, by omega, by go_num, rfl, HP5.out, HO5.out, HN.out, HB5.out⟩
                case measure => simp [intOf]; omega
              · have hr : rsB s[k + 1] = false := by simpa using hr
                rw [hr] at HC
                have HN := Lib.hid (hone (fun _ d u e => by rw [HD2.out] at e; injection e with e _; rw [← e]; exact hr))
                clear hone h2 hr
                go_wp2_with (first
                  | (go_at_call 11; refine (HC.out _).mono ?_; rintro e w1 ⟨rfl, rfl⟩)
                  | (at_builtin; refine wp_append_bytesG Try.underlying30 Try.infoU8 rfl (.tmp 51) (.tmp 55) rfl w.heap.size _ p rfl (HO.out.alloc _) ⟨wr.heap.size, 0, none⟩ 1 1 [s[k]] rfl rfl (news_one _ s[k] _) (HLA.out _) (HZZ.out _) ?_; intro v5 w5 ho5 hg5 hb5; have HP5 := Lib.hid ((HP.out.alloc _).other hg5 (pc_apart HP.out HO.out)); have HO5 := Lib.hid ho5; have HB5 := Lib.hid ((HB.out.alloc hz _).trans hb5); clear ho5 hg5 hb5))
                go_roundw
                case rel => exact ⟨k + 1, ps, p ++ [s[k]], 0, by omega, by go_num, rfl, HP5.out, HO5.out, HN.out, HB5.out⟩
                case measure => simp [intOf]; omega
            · have HN := Lib.hid (hone (fun _ d u e => by rw [List.drop_of_length_le (by simp; omega)] at e; cases e))
              have e3 : decide (k + 1 < s.size) = false := by simp; omega
              clear hone h2
              go_wp2_with (at_builtin; refine wp_append_bytesG Try.underlying30 Try.infoU8 rfl (.tmp 51) (.tmp 55) rfl w.heap.size _ p rfl (HO.out.alloc _) ⟨wr.heap.size, 0, none⟩ 1 1 [s[k]] rfl rfl (news_one _ s[k] _) (HLA.out _) (HZZ.out _) ?_; intro v5 w5 ho5 hg5 hb5; have HP5 := Lib.hid ((HP.out.alloc _).other hg5 (pc_apart HP.out HO.out)); have HO5 := Lib.hid ho5; have HB5 := Lib.hid ((HB.out.alloc hz _).trans hb5); clear ho5 hg5 hb5)
              go_roundw
              case rel => exact ⟨k + 1, ps, p ++ [s[k]], 0, by omega, by go_num, rfl, HP5.out, HO5.out, HN.out, HB5.out⟩
              case measure => simp [intOf]; omega
          · have e2 : ((s[k].toNat : Int) == 92) = false := by simp; omega
            have HN := Lib.hid (hone (fun e => absurd (by rw [e]; rfl) h2))
            clear hone h2
            go_wp2_with (at_builtin; refine wp_append_bytesG Try.underlying30 Try.infoU8 rfl (.tmp 51) (.tmp 55) rfl w.heap.size _ p rfl (HO.out.alloc _) ⟨wr.heap.size, 0, none⟩ 1 1 [s[k]] rfl rfl (news_one _ s[k] _) (HLA.out _) (HZZ.out _) ?_; intro v5 w5 ho5 hg5 hb5; have HP5 := Lib.hid ((HP.out.alloc _).other hg5 (pc_apart HP.out HO.out)); have HO5 := Lib.hid ho5; have HB5 := Lib.hid ((HB.out.alloc hz _).trans hb5); clear ho5 hg5 hb5)
            go_roundw
            case rel => exact ⟨k + 1, ps, p ++ [s[k]], 0, by omega, by go_num, rfl, HP5.out, HO5.out, HN.out, HB5.out⟩
            case measure => simp [intOf]; omega
    · obtain rfl : k = s.size := by omega
      have HN := Lib.hid (PqAt.done (by have := HQ.out; rwa [drop_allP] at this))
      go_wp2_with (at_builtin; refine wp_append_piece rfl (.tmp 57) (.tmp 62) rfl w.heap.size _ ps rfl (HP.out.alloc _) wr.heap.size 1 (p, t) rfl (cellP0 _ _ _ _) (cellP1 _ _ _ _) hp8 (HZZ.out _) ?_; intro v2 w2 hp2 hg2 hb2; have HP2 := Lib.hid hp2; have HB2 := Lib.hid ((HB.out.alloc hz _).trans hb2); clear hp2 hg2 hb2)
      go_ret
      exact RrPost.of HP2.out HN.out HB2.out
end Go.Proofs.Ythffjcclcladoaa.kit
