/-
  The words of a text as one list, and the contract of spec.Lex over this seat's translation. Conditions: the text has at most 1048576 bytes.
-/
import Derived.Test.YtalobgebdpaecaaDoorLx5
import Derived.Test.YtalobgebdpaecaaDoorLx8
import Derived.Test.YtalobgebdpaecaaDoorWrdS
namespace Go.Proofs.YtalobgebdpaecaaDoor.kit
open Go.ChangeShapes Go.WideShapes Go.ChangeAt Go.RowKit
set_option linter.unusedVariables false

/-- The words from place i on, behind those of acc, and the line of what is none. -/
noncomputable def lx (s : ByteArray) : Nat → Nat → Int → List Tok → List Tok × Int
  | 0, _, _, acc => (acc, 0)
  | f + 1, i, line, acc =>
    if h : skipB s i < s.size then
      match wd s (skipB s i) (divs acc) with
      | none => ([], line)
      | some x => lx s f x.2 (if s[skipB s i] = 10 then line + 1 else line) (acc ++ [⟨x.1.k, x.1.s, x.1.n, line⟩])
    else (acc, 0)
noncomputable def lexB (s : ByteArray) : List Tok × Int := if 4000 < s.size then ([], 1) else lx s (s.size + 1) 0 1 []
theorem lx_end {s : ByteArray} {f i : Nat} {line : Int} {acc : List Tok} (h : s.size ≤ skipB s i) (hf : 0 < f) : lx s f i line acc = (acc, 0) := by
  obtain ⟨f, rfl⟩ : ∃ g, f = g + 1 := ⟨f - 1, by omega⟩
  rw [lx, dif_neg (by omega)]
theorem lx_none {s : ByteArray} {f i : Nat} {line : Int} {acc : List Tok} (h : skipB s i < s.size) (hf : 0 < f) (hw : wd s (skipB s i) (divs acc) = none) : lx s f i line acc = ([], line) := by
  obtain ⟨f, rfl⟩ : ∃ g, f = g + 1 := ⟨f - 1, by omega⟩
  rw [lx, dif_pos h, hw]
theorem lx_some {s : ByteArray} {f i : Nat} {line : Int} {acc : List Tok} {x : Tok × Nat} (h : skipB s i < s.size) (hf : 0 < f) (hw : wd s (skipB s i) (divs acc) = some x) :
    lx s f i line acc = lx s (f - 1) x.2 (if s[skipB s i] = 10 then line + 1 else line) (acc ++ [⟨x.1.k, x.1.s, x.1.n, line⟩]) := by
  obtain ⟨f, rfl⟩ : ∃ g, f = g + 1 := ⟨f - 1, by omega⟩
  rw [lx, dif_pos h, hw]; rfl
theorem lx_skip {s : ByteArray} {f i i' : Nat} {line : Int} {acc : List Tok} (h : skipB s i = skipB s i') (hf : 0 < f) : lx s f i line acc = lx s f i' line acc := by
  obtain ⟨f, rfl⟩ : ∃ g, f = g + 1 := ⟨f - 1, by omega⟩
  rw [lx, lx]
  simp only [h]
theorem skip_blank {s : ByteArray} {i : Nat} (h : i < s.size) (hb : blkI (s[i].toNat : Int) = true) : skipB s i = skipB s (i + 1) := by
  unfold skipB; rw [runEnd_in h hb]
theorem skip_word {s : ByteArray} {i : Nat} (h : i < s.size) (hb : blkI (s[i].toNat : Int) = false) (h35 : atB s i 35 = false) : skipB s i = i := by
  unfold skipB; rw [runEnd_out h hb, h35]; rfl
theorem skip_end {s : ByteArray} {i : Nat} (h : s.size ≤ i) : skipB s i = i := by
  unfold skipB; rw [runEnd_end h, atB_end h]; rfl
theorem skip_note {s : ByteArray} {i : Nat} (h : i < s.size) (h35 : atB s i 35 = true) : skipB s i = runEnd nnlI s i := by
  obtain ⟨_, e⟩ := atB_eq h35
  unfold skipB; rw [runEnd_out h (by rw [e]; decide), if_pos h35]
theorem skip_nl (s : ByteArray) (i : Nat) (hi : i ≤ s.size) : skipB s (runEnd nnlI s i) = runEnd nnlI s i := by
  have hl := runEnd_le nnlI s i hi
  by_cases h : runEnd nnlI s i < s.size
  · have hs := runEnd_stop nnlI s i hi h
    simp only [nnlI, Bool.not_eq_false', beq_iff_eq] at hs
    refine skip_word h ?_ ?_
    · rw [Bool.eq_false_iff]; simp only [blkI, ne_eq, Bool.or_eq_true, beq_iff_eq]; omega
    · exact atB_ne fun g => by rw [hs]; decide
  · exact skip_end (by omega)
theorem wd_pair {s : ByteArray} {i : Nat} {div : Bool} {x : Tok × Nat} (hi : i < s.size) (h : wd s i div = some x) : i < x.2 ∧ x.2 ≤ s.size := wd_bounds (t := x.1) (k := x.2) hi h
def LexPost (B : Nat) (r : List Tok × Int) (w : World) (e : Ending) (w' : World) : Prop :=
  ∃ v, e = .returned (.tuple #[v, .int .i64 r.2]) ∧ OwnT B w' v r.1 ∧ Below B w w'
theorem operand_own {B : Nat} {w0 w : World} {v : Value} {acc : List Tok} (h : OwnT B w v acc) (hl : acc.length ≤ 100000) :
    ∀ W, Below w.heap.size w W → Calls Tryd.prog 78 #[v] W fun e w' => e = .returned (.bool (divs acc)) ∧ Below W.heap.size W w' := by
  intro W hb
  obtain ⟨a, cap, rfl, hf⟩ := (h.kept hb).tokF
  exact operand05_any B acc a cap W hl hf
theorem ends_own {B : Nat} {w : World} {v : Value} {acc : List Tok} (h : OwnT B w v acc) (hl : acc.length ≤ 100000) :
    Calls Tryd.prog 46 #[v] w fun e w' => e = .returned (.bool (divs acc)) ∧ Below w.heap.size w w' := by
  obtain ⟨a, cap, rfl, hf⟩ := h.tokF
  exact ends_any B acc a cap w hl hf
theorem tokC_new (w : World) {g : Nat} (hg : g = w.heap.size) (ty : TypeId) (t : Tok) : TokC (w.alloc (.cells #[.int .i64 t.k, .string t.s, .int .i64 t.n, .int .i64 t.l] ty)) g 0 t := by
  subst hg
  refine ⟨?_, ?_, ?_, ?_⟩ <;> (rw [World.cell?_alloc_at _ _ _ _ rfl]; rfl)
set_option maxRecDepth 100000 in
set_option maxHeartbeats 1000000 in
theorem specLex_any (s : ByteArray) (w : World) (hs : s.size ≤ 1048576) :
    Calls Tryd.prog 20 #[.string s] w (LexPost w.heap.size (lexB s) w) := by
  by_cases hbig : 4000 < s.size
  · have E : Hid (lexB s = ([], 1)) := Lib.hid (if_pos hbig)
    go_enter Tryd.func20, Tryd.ntmps20
    go_wp2_with fail
    go_ret2
    exact ⟨_, by rw [E.out]; rfl, by rw [E.out]; exact ownT_start (Nat.le_refl _), (Below.refl _ _).alloc (Nat.le_refl _) _⟩
  · have HL : Hid (lexB s = lx s (s.size + 1) 0 1 []) := Lib.hid (if_neg hbig)
    have hd : decide (4000 < s.size) = false := by simpa using hbig
    go_enter Tryd.func20, Tryd.ntmps20
    go_wp2_with fail
    go_loopw [4, 5, 6] (fun v l i wr => ∃ (k f : Nat) (ln : Int) (acc : List Tok), k ≤ s.size ∧ s.size - k < f ∧ i = .int .i64 (k : Int) ∧ l = .int .i64 ln ∧ (0 ≤ ln ∧ ln ≤ (k : Int) + 1) ∧ acc.length ≤ k ∧ lexB s = lx s f k ln acc ∧ OwnT w.heap.size wr v acc ∧ Below w.heap.size w wr) (fun _ _ i _ => s.size - (intOf i).toNat)
    case atStart => exact ⟨0, s.size + 1, 1, [], Nat.zero_le _, by omega, rfl, rfl, ⟨by omega, by omega⟩, by simp, HL.out, ownT_start (Nat.le_refl _), (Below.refl _ _).alloc (Nat.le_refl _) _⟩
    case round =>
      obtain ⟨k, f, ln, acc, hk, hf, rfl, rfl, ⟨hl0, hl1⟩, hal, heq, hown, hbel⟩ := hrel
      have HE := Lib.hid heq
      have HO := Lib.hid hown
      have HB := Lib.hid hbel
      have hz := hbel.size
      clear heq hown hbel
      by_cases hlt : k < s.size
      · have i0 : (0 : Int) ≤ (k : Int) := by omega
        have i1 : (k : Int) < (s.size : Int) := by omega
        have HBL := Lib.hid (@skip_blank s k hlt)
        have HWD := Lib.hid (@skip_word s k hlt)
        have HNT := Lib.hid (@skip_note s k hlt)
        have bb : blankB s[k] = blkI (s[k].toNat : Int) := by
          rw [Bool.eq_iff_iff]; simp only [blankB, blkI, Bool.or_eq_true, beq_iff_eq]; omega
        have CB := Lib.hid (fun W => blank_any s[k] W)
        cases c1 : blkI (s[k].toNat : Int)
        · rw [bb, c1] at CB
          have a35 := atB_is 35 35 rfl hlt
          cases c35 : atB s k 35
          · rw [c35] at a35
            have hsk := HWD.out c1 c35
            have F0 := operand_own (w0 := w) HO.out (by omega)
            have CW := Lib.hid (one05_any s k (divs acc) _ _ hs hlt F0)
            clear F0
            have HX := Lib.hid (fun x => @lx_some s f k ln acc x)
            have HY := Lib.hid (@lx_none s f k ln acc)
            rw [hsk] at HX HY
            have HP := Lib.hid (fun x => @wd_pair s k (divs acc) x)
            go_wp2_with fail
            refine (CB.out _).mono ?_
            rintro e w' ⟨rfl, rfl⟩
            go_wp2_with fail
            refine CW.out.mono ?_
            rintro e w1 ⟨t, n, rfl, ho, hb1⟩
            obtain ⟨tk, ts, tn, tl⟩ := t
            unfold Tok.v
            have HO1 := Lib.hid (HO.out.kept hb1)
            have HB1 := Lib.hid (HB.out.trans (hb1.mono hz))
            have hz1 := hb1.size
            clear hb1
            simp only
            rcases ho with ⟨ho, rfl⟩ | ⟨x, ho, ht, rfl⟩
            · have E : Hid (lexB s = ([], ln)) := Lib.hid (by rw [HE.out]; exact HY.out hlt (by omega) ho)
              have HZ := fun X : Obj => ownT_start (B := w.heap.size) (w := w1.alloc X) (by simp; omega)
              simp only [World.size_alloc] at HZ
              go_wp2_with fail
              go_ret2
              exact ⟨_, by rw [E.out]; rfl, by rw [E.out]; exact HZ _, ((HB1.out.alloc (by omega) _).alloc (by first | omega | (simp; omega)) _)⟩
            · have hx := HP.out x hlt ho
              have n0 : ¬ (x.2 : Int) < 0 := by omega
              have a10 := atB_is 10 10 rfl hlt
              cases c10 : atB s k 10
              · rw [c10] at a10
                have hne : ¬ s[k] = 10 := fun e => by rw [atB, dif_pos hlt, e] at c10; cases c10
                have E : Hid (lexB s = lx s (f - 1) x.2 ln (acc ++ [⟨tk, ts, tn, ln⟩])) := Lib.hid (by rw [HE.out, HX.out x hlt (by omega) ho, if_neg hne, ← ht])
                obtain ⟨x1, x2⟩ := x
                simp only at *
                clear ht
                go_wp2_with (at_builtin; refine wp_append_tok rfl _ _ rfl w.heap.size _ _ rfl ((HO1.out.alloc _).alloc _) _ 1 ⟨tk, ts, tn, ln⟩ rfl (tokC_new _ (by simp) _ ⟨tk, ts, tn, ln⟩) (by omega) (by simp; omega) ?_; intro v' w3 hown3 hbel3)
                go_roundw
                case rel => exact ⟨x2, f - 1, ln, acc ++ [⟨tk, ts, tn, ln⟩], by omega, by omega, rfl, rfl, ⟨by omega, by omega⟩, by simp; omega, E.out, hown3, (((HB1.out.alloc (by omega) _).alloc (by simp; omega) _).trans hbel3)⟩
                case measure => simp [intOf]; omega
              · rw [c10] at a10
                have hne : s[k] = 10 := (atB_eq c10).2
                have E : Hid (lexB s = lx s (f - 1) x.2 (ln + 1) (acc ++ [⟨tk, ts, tn, ln⟩])) := Lib.hid (by rw [HE.out, HX.out x hlt (by omega) ho, if_pos hne, ← ht])
                obtain ⟨x1, x2⟩ := x
                simp only at *
                clear ht
                go_wp2_with (at_builtin; refine wp_append_tok rfl _ _ rfl w.heap.size _ _ rfl ((HO1.out.alloc _).alloc _) _ 1 ⟨tk, ts, tn, ln⟩ rfl (tokC_new _ (by simp) _ ⟨tk, ts, tn, ln⟩) (by omega) (by simp; omega) ?_; intro v' w3 hown3 hbel3)
                go_roundw
                case rel => exact ⟨x2, f - 1, (ln + 1), acc ++ [⟨tk, ts, tn, ln⟩], by omega, by omega, rfl, by go_num, ⟨by omega, by omega⟩, by simp; omega, E.out, hown3, (((HB1.out.alloc (by omega) _).alloc (by simp; omega) _).trans hbel3)⟩
                case measure => simp [intOf]; omega
          · rw [c35] at a35
            have hsk := HNT.out c35
            have E : Hid (∀ m, m = runEnd nnlI s k → lexB s = lx s f m ln acc) := Lib.hid (fun m hm => by
              rw [HE.out]
              refine lx_skip ?_ (by omega)
              rw [hsk, hm, skip_nl s k hk])
            have hgt : k < runEnd nnlI s k := runEnd_gt hlt (by obtain ⟨_, e⟩ := atB_eq c35; rw [e]; decide)
            have hle := runEnd_le nnlI s k hk
            have HQ := Lib.hid hgt
            have HQ2 := Lib.hid hle
            clear hsk hgt hle
            go_wp2_with fail
            refine (CB.out _).mono ?_
            rintro e w' ⟨rfl, rfl⟩
            go_wp2_with fail
            go_loop [6] (fun v => ∃ m : Nat, m ≤ s.size ∧ v = .int .i64 m ∧ runEnd nnlI s m = runEnd nnlI s k) (fun v => s.size - (intOf v).toNat)
            case atStart => exact ⟨k, hk, rfl, rfl⟩
            case round =>
              obtain ⟨m, hm, rfl, hr2⟩ := hrel
              have HR2 := Lib.hid hr2; clear hr2
              by_cases hml : m < s.size
              · have m0 : (0 : Int) ≤ (m : Int) := by omega
                have m1 : (m : Int) < (s.size : Int) := by omega
                have hb2 : s[m].toNat < 256 := s[m].toNat_lt
                cases c10 : ((s[m].toNat : Int) == 10)
                · have E2 := Lib.hid (runEnd_in hml (p := nnlI) (by simp [nnlI, c10]))
                  go_wp2
                  go_round
                  case rel => exact ⟨m + 1, by omega, by go_num, E2.out.trans HR2.out⟩
                  case measure => simp [intOf]; omega
                · have E2 := Lib.hid ((runEnd_out hml (p := nnlI) (by simp [nnlI, c10])).symm.trans HR2.out)
                  have hkm : k < m := by rw [E2.out]; exact HQ.out
                  go_wp2
                  go_roundw
                  case rel => exact ⟨m, f, ln, acc, by omega, by omega, rfl, rfl, ⟨by omega, by omega⟩, by omega, E.out m E2.out, HO.out, HB.out⟩
                  case measure => simp [intOf]; omega
              · have E2 := Lib.hid ((runEnd_end (p := nnlI) (s := s) (i := m) (by omega)).symm.trans HR2.out)
                have hkm : k < m := by rw [E2.out]; exact HQ.out
                go_wp2
                go_roundw
                case rel => exact ⟨m, f, ln, acc, by omega, by omega, rfl, rfl, ⟨by omega, by omega⟩, by omega, E.out m E2.out, HO.out, HB.out⟩
                case measure => simp [intOf]; omega
        · rw [bb, c1] at CB
          have E : Hid (lexB s = lx s f (k + 1) ln acc) := Lib.hid (by rw [HE.out]; exact lx_skip (HBL.out c1) (by omega))
          go_wp2_with fail
          refine (CB.out _).mono ?_
          rintro e w' ⟨rfl, rfl⟩
          go_wp2_with fail
          go_roundw
          case rel => exact ⟨k + 1, f, ln, acc, by omega, by omega, by go_num, rfl, ⟨by omega, by omega⟩, by omega, E.out, HO.out, HB.out⟩
          case measure => simp [intOf]; omega
      · have E : Hid (lexB s = (acc, 0)) := Lib.hid (by rw [HE.out]; exact lx_end (by rw [skip_end (by omega)]; omega) (by omega))
        go_wp2_with fail
        go_ret2
        exact ⟨_, by rw [E.out]; rfl, by rw [E.out]; exact HO.out, HB.out⟩
end Go.Proofs.YtalobgebdpaecaaDoor.kit
