/-
  The words of a text as one list, and the contract of spec.Lex over this seat's translation. Conditions: the text has at most 1048576 bytes.
-/
import Derived.Test.YtebeoijoljlhiaaGreatDoorMLx5
import Derived.Test.YtebeoijoljlhiaaGreatDoorMLx8
import Derived.Test.YtebeoijoljlhiaaGreatDoorMWrdS
import Derived.Deep.RegionHeld3
namespace Go.Proofs.YtebeoijoljlhiaaGreatDoor.kit
open Go.ChangeShapes Go.WideShapes Go.ChangeAt Go.RowKit
set_option linter.unusedVariables false

/-- The words from place i on, behind those of acc, and the line of what is none. -/
noncomputable def lx (s : ByteArray) : Nat → Nat → Int → List Tok → List Tok × Int
  | 0, _, _, acc => (acc, 0)
  | f + 1, i, line, acc =>
    if h : skipB s i < s.size then
      match wd s (skipB s i) (divs acc) with
      | none => ([], line)
      | some x => lx s f x.2 (if s[skipB s i] = 10 then line + 1 else line) (acc ++ [⟨x.1.k, x.1.s, x.1.n, line⟩])
    else (acc, 0)
noncomputable def lexB (s : ByteArray) : List Tok × Int := if 4000 < s.size then ([], 1) else lx s (s.size + 1) 0 1 []
theorem lx_end {s : ByteArray} {f i : Nat} {line : Int} {acc : List Tok} (h : s.size ≤ skipB s i) (hf : 0 < f) : lx s f i line acc = (acc, 0) := by
  obtain ⟨f, rfl⟩ : ∃ g, f = g + 1 := ⟨f - 1, by omega⟩
  rw [lx, dif_neg (by omega)]
theorem lx_none {s : ByteArray} {f i : Nat} {line : Int} {acc : List Tok} (h : skipB s i < s.size) (hf : 0 < f) (hw : wd s (skipB s i) (divs acc) = none) : lx s f i line acc = ([], line) := by
  obtain ⟨f, rfl⟩ : ∃ g, f = g + 1 := ⟨f - 1, by omega⟩
  rw [lx, dif_pos h, hw]
theorem lx_some {s : ByteArray} {f i : Nat} {line : Int} {acc : List Tok} {x : Tok × Nat} (h : skipB s i < s.size) (hf : 0 < f) (hw : wd s (skipB s i) (divs acc) = some x) :
    lx s f i line acc = lx s (f - 1) x.2 (if s[skipB s i] = 10 then line + 1 else line) (acc ++ [⟨x.1.k, x.1.s, x.1.n, line⟩]) := by
  obtain ⟨f, rfl⟩ : ∃ g, f = g + 1 := ⟨f - 1, by omega⟩
  rw [lx, dif_pos h, hw]; rfl
theorem lx_skip {s : ByteArray} {f i i' : Nat} {line : Int} {acc : List Tok} (h : skipB s i = skipB s i') (hf : 0 < f) : lx s f i line acc = lx s f i' line acc := by
  obtain ⟨f, rfl⟩ : ∃ g, f = g + 1 := ⟨f - 1, by omega⟩
  rw [lx, lx]
  simp only [h]
theorem skip_blank {s : ByteArray} {i : Nat} (h : i < s.size) (hb : blkI (s[i].toNat : Int) = true) : skipB s i = skipB s (i + 1) := by
  unfold skipB; rw [runEnd_in h hb]
theorem skip_word {s : ByteArray} {i : Nat} (h : i < s.size) (hb : blkI (s[i].toNat : Int) = false) (h35 : atB s i 35 = false) : skipB s i = i := by
  unfold skipB; rw [runEnd_out h hb, h35]; rfl
theorem skip_end {s : ByteArray} {i : Nat} (h : s.size ≤ i) : skipB s i = i := by
  unfold skipB; rw [runEnd_end h, atB_end h]; rfl
theorem skip_note {s : ByteArray} {i : Nat} (h : i < s.size) (h35 : atB s i 35 = true) : skipB s i = runEnd nnlI s i := by
  obtain ⟨_, e⟩ := atB_eq h35
  unfold skipB; rw [runEnd_out h (by rw [e]; decide), if_pos h35]
theorem skip_nl (s : ByteArray) (i : Nat) (hi : i ≤ s.size) : skipB s (runEnd nnlI s i) = runEnd nnlI s i := by
  have hl := runEnd_le nnlI s i hi
  by_cases h : runEnd nnlI s i < s.size
  · have hs := runEnd_stop nnlI s i hi h
    simp only [nnlI, Bool.not_eq_false', beq_iff_eq] at hs
    refine skip_word h ?_ ?_
    · rw [Bool.eq_false_iff]; simp only [blkI, ne_eq, Bool.or_eq_true, beq_iff_eq]; omega
    · exact atB_ne fun g => by rw [hs]; decide
  · exact skip_end (by omega)
theorem wd_pair {s : ByteArray} {i : Nat} {div : Bool} {x : Tok × Nat} (hi : i < s.size) (h : wd s i div = some x) : i < x.2 ∧ x.2 ≤ s.size := wd_bounds (t := x.1) (k := x.2) hi h
def LexPost (B : Nat) (r : List Tok × Int) (w : World) (e : Ending) (w' : World) : Prop :=
  ∃ v, e = .returned (.tuple #[v, .int .i64 r.2]) ∧ OwnT B w' v r.1 ∧ Below B w w'
theorem operand_own {B : Nat} {w0 w : World} {v : Value} {acc : List Tok} (h : OwnT B w v acc) (hl : acc.length ≤ 100000) :
    ∀ W, Below w.heap.size w W → Calls Tryz.prog 128 #[v] W fun e w' => e = .returned (.bool (divs acc)) ∧ Below W.heap.size W w' := by
  intro W hb
  obtain ⟨a, cap, rfl, hf⟩ := (h.kept hb).tokF
  exact operand05_any B acc a cap W hl hf
theorem ends_own {B : Nat} {w : World} {v : Value} {acc : List Tok} (h : OwnT B w v acc) (hl : acc.length ≤ 100000) :
    Calls Tryz.prog 73 #[v] w fun e w' => e = .returned (.bool (divs acc)) ∧ Below w.heap.size w w' := by
  obtain ⟨a, cap, rfl, hf⟩ := h.tokF
  exact ends_any B acc a cap w hl hf
theorem tokC_new (w : World) {g : Nat} (hg : g = w.heap.size) (ty : TypeId) (t : Tok) : TokC (w.alloc (.cells #[.int .i64 t.k, .string t.s, .int .i64 t.n, .int .i64 t.l] ty)) g 0 t := by
  subst hg
  refine ⟨?_, ?_, ?_, ?_⟩ <;> (rw [World.cell?_alloc_at _ _ _ _ rfl]; rfl)
set_option maxRecDepth 100000 in
set_option maxHeartbeats 1000000 in
theorem specLex_any (s : ByteArray) (w : World) (hs : s.size ≤ 1048576) :
    Calls Tryz.prog 26 #[.string s] w (LexPost w.heap.size (lexB s) w) := by
  by_cases hbig : 4000 < s.size
  · have E : Hid (lexB s = ([], 1)) := Lib.hid (if_pos hbig)
    go_enter Tryz.func26, Tryz.ntmps26
    go_wp2_with fail
    go_ret2
    exact ⟨_, by rw [E.out]; rfl, by rw [E.out]; exact ownT_start (Nat.le_refl _), (Below.refl _ _).alloc (Nat.le_refl _) _⟩
  · have HL : Hid (lexB s = lx s (s.size + 1) 0 1 []) := Lib.hid (if_neg hbig)
    have hd : decide (4000 < s.size) = false := by simpa using hbig
    go_enter Tryz.func26, Tryz.ntmps26
    go_wp2_with fail
    go_loopw [4, 5, 6] (fun v l i wr => ∃ (k f : Nat) (ln : Int) (acc : List Tok), k ≤ s.size ∧ s.size - k < f ∧ i = .int .i64 (k : Int) ∧ l = .int .i64 ln ∧ (0 ≤ ln ∧ ln ≤ (k : Int) + 1) ∧ acc.length ≤ k ∧ lexB s = lx s f k ln acc ∧ OwnT w.heap.size wr v acc ∧ Below w.heap.size w wr) (fun _ _ i _ => s.size - (intOf i).toNat)
    case atStart => exact ⟨0, s.size + 1, 1, [], Nat.zero_le _, by omega, rfl, rfl, ⟨by omega, by omega⟩, by simp, HL.out, ownT_start (Nat.le_refl _), (Below.refl _ _).alloc (Nat.le_refl _) _⟩
    case round =>
      obtain ⟨k, f, ln, acc, hk, hf, rfl, rfl, ⟨hl0, hl1⟩, hal, heq, hown, hbel⟩ := hrel
      have HE := Lib.hid heq
      have HO := Lib.hid hown
      have HB := Lib.hid hbel
      have hz := hbel.size
      clear heq hown hbel
      by_cases hlt : k < s.size
      · have i0 : (0 : Int) ≤ (k : Int) := by omega
        have i1 : (k : Int) < (s.size : Int) := by omega
        have HBL := Lib.hid (@skip_blank s k hlt)
        have HWD := Lib.hid (@skip_word s k hlt)
        have HNT := Lib.hid (@skip_note s k hlt)
        have bb : blankB s[k] = blkI (s[k].toNat : Int) := by
          rw [Bool.eq_iff_iff]; simp only [blankB, blkI, Bool.or_eq_true, beq_iff_eq]; omega
        have CB := Lib.hid (fun W => blank_any s[k] W)
        cases c1 : blkI (s[k].toNat : Int)
        · rw [bb, c1] at CB
          have a35 := atB_is 35 35 rfl hlt
          cases c35 : atB s k 35
          · rw [c35] at a35
            have hsk := HWD.out c1 c35
            have F0 := operand_own (w0 := w) HO.out (by omega)
            have CW := Lib.hid (one05_any s k (divs acc) _ _ hs hlt F0)
            clear F0
            have HX := Lib.hid (fun x => @lx_some s f k ln acc x)
            have HY := Lib.hid (@lx_none s f k ln acc)
            rw [hsk] at HX HY
            have HP := Lib.hid (fun x => @wd_pair s k (divs acc) x)
            go_wp2_with fail
            refine (CB.out _).mono ?_
            rintro e w' ⟨rfl, rfl⟩
            go_wp2_with fail
            refine CW.out.mono ?_
            rintro e w1 ⟨t, n, rfl, ho, hb1⟩
            obtain ⟨tk, ts, tn, tl⟩ := t
            unfold Tok.v
            have HO1 := Lib.hid (HO.out.kept hb1)
            have HB1 := Lib.hid (HB.out.trans (hb1.mono hz))
            have hz1 := hb1.size
            clear hb1
            simp only
            rcases ho with ⟨ho, rfl⟩ | ⟨x, ho, ht, rfl⟩
            · have E : Hid (lexB s = ([], ln)) := Lib.hid (by rw [HE.out]; exact HY.out hlt (by omega) ho)
              have HZ := fun X : Obj => ownT_start (B := w.heap.size) (w := w1.alloc X) (by simp; omega)
              simp only [World.size_alloc] at HZ
              go_wp2_with fail
              go_ret2
              exact ⟨_, by rw [E.out]; rfl, by rw [E.out]; exact HZ _, ((HB1.out.alloc (by omega) _).alloc (by first | omega | (simp; omega)) _)⟩
            · have hx := HP.out x hlt ho
              have n0 : ¬ (x.2 : Int) < 0 := by omega
              have a10 := atB_is 10 10 rfl hlt
              cases c10 : atB s k 10
              · rw [c10] at a10
                have hne : ¬ s[k] = 10 := fun e => by rw [atB, dif_pos hlt, e] at c10; cases c10
                have E : Hid (lexB s = lx s (f - 1) x.2 ln (acc ++ [⟨tk, ts, tn, ln⟩])) := Lib.hid (by rw [HE.out, HX.out x hlt (by omega) ho, if_neg hne, ← ht])
                obtain ⟨x1, x2⟩ := x
                simp only at *
                clear ht
                go_wp2_with (at_builtin; refine wp_append_tok rfl _ _ rfl w.heap.size _ _ rfl ((HO1.out.alloc _).alloc _) _ 1 ⟨tk, ts, tn, ln⟩ rfl (tokC_new _ (by simp) _ ⟨tk, ts, tn, ln⟩) (by omega) (by simp; omega) ?_; intro v' w3 hown3 hbel3)
                go_roundw
                case rel => exact ⟨x2, f - 1, ln, acc ++ [⟨tk, ts, tn, ln⟩], by omega, by omega, rfl, rfl, ⟨by omega, by omega⟩, by simp; omega, E.out, hown3, (((HB1.out.alloc (by omega) _).alloc (by simp; omega) _).trans hbel3)⟩
                case measure => simp [intOf]; omega
              · rw [c10] at a10
                have hne : s[k] = 10 := (atB_eq c10).2
                have E : Hid (lexB s = lx s (f - 1) x.2 (ln + 1) (acc ++ [⟨tk, ts, tn, ln⟩])) := Lib.hid (by rw [HE.out, HX.out x hlt (by omega) ho, if_pos hne, ← ht])
                obtain ⟨x1, x2⟩ := x
                simp only at *
                clear ht
                go_wp2_with (at_builtin; refine wp_append_tok rfl _ _ rfl w.heap.size _ _ rfl ((HO1.out.alloc _).alloc _) _ 1 ⟨tk, ts, tn, ln⟩ rfl (tokC_new _ (by simp) _ ⟨tk, ts, tn, ln⟩) (by omega) (by simp; omega) ?_; intro v' w3 hown3 hbel3)
                go_roundw
                case rel => exact ⟨x2, f - 1, (ln + 1), acc ++ [⟨tk, ts, tn, ln⟩], by omega, by omega, rfl, by go_num, ⟨by omega, by omega⟩, by simp; omega, E.out, hown3, (((HB1.out.alloc (by omega) _).alloc (by simp; omega) _).trans hbel3)⟩
                case measure => simp [intOf]; omega
          · rw [c35] at a35
            have hsk := HNT.out c35
            have E : Hid (∀ m, m = runEnd nnlI s k → lexB s = lx s f m ln acc) := Lib.hid (fun m hm => by
              rw [HE.out]
              refine lx_skip ?_ (by omega)
              rw [hsk, hm, skip_nl s k hk])
            have hgt : k < runEnd nnlI s k := runEnd_gt hlt (by obtain ⟨_, e⟩ := atB_eq c35; rw [e]; decide)
            have hle := runEnd_le nnlI s k hk
            have HQ := Lib.hid hgt
            have HQ2 := Lib.hid hle
            clear hsk hgt hle
            go_wp2_with fail
            refine (CB.out _).mono ?_
            rintro e w' ⟨rfl, rfl⟩
            go_wp2_with fail
            go_loop [6] (fun v => ∃ m : Nat, m ≤ s.size ∧ v = .int .i64 m ∧ runEnd nnlI s m = runEnd nnlI s k) (fun v => s.size - (intOf v).toNat)
            case atStart => exact ⟨k, hk, rfl, rfl⟩
            case round =>
              obtain ⟨m, hm, rfl, hr2⟩ := hrel
              have HR2 := Lib.hid hr2; clear hr2
              by_cases hml : m < s.size
              · have m0 : (0 : Int) ≤ (m : Int) := by omega
                have m1 : (m : Int) < (s.size : Int) := by omega
                have hb2 : s[m].toNat < 256 := s[m].toNat_lt
                cases c10 : ((s[m].toNat : Int) == 10)
                · have E2 := Lib.hid (runEnd_in hml (p := nnlI) (by simp [nnlI, c10]))
                  go_wp2
                  go_round
                  case rel => exact ⟨m + 1, by omega, by go_num, E2.out.trans HR2.out⟩
                  case measure => simp [intOf]; omega
                · have E2 := Lib.hid ((runEnd_out hml (p := nnlI) (by simp [nnlI, c10])).symm.trans HR2.out)
                  have hkm : k < m := by rw [E2.out]; exact HQ.out
                  go_wp2
                  go_roundw
                  case rel => exact ⟨m, f, ln, acc, by omega, by omega, rfl, rfl, ⟨by omega, by omega⟩, by omega, E.out m E2.out, HO.out, HB.out⟩
                  case measure => simp [intOf]; omega
              · have E2 := Lib.hid ((runEnd_end (p := nnlI) (s := s) (i := m) (by omega)).symm.trans HR2.out)
                have hkm : k < m := by rw [E2.out]; exact HQ.out
                go_wp2
                go_roundw
                case rel => exact ⟨m, f, ln, acc, by omega, by omega, rfl, rfl, ⟨by omega, by omega⟩, by omega, E.out m E2.out, HO.out, HB.out⟩
                case measure => simp [intOf]; omega
        · rw [bb, c1] at CB
          have E : Hid (lexB s = lx s f (k + 1) ln acc) := Lib.hid (by rw [HE.out]; exact lx_skip (HBL.out c1) (by omega))
          go_wp2_with fail
          refine (CB.out _).mono ?_
          rintro e w' ⟨rfl, rfl⟩
          go_wp2_with fail
          go_roundw
          case rel => exact ⟨k + 1, f, ln, acc, by omega, by omega, by go_num, rfl, ⟨by omega, by omega⟩, by omega, E.out, HO.out, HB.out⟩
          case measure => simp [intOf]; omega
      · have E : Hid (lexB s = (acc, 0)) := Lib.hid (by rw [HE.out]; exact lx_end (by rw [skip_end (by omega)]; omega) (by omega))
        go_wp2_with fail
        go_ret2
        exact ⟨_, by rw [E.out]; rfl, by rw [E.out]; exact HO.out, HB.out⟩
end Go.Proofs.YtebeoijoljlhiaaGreatDoor.kit
/-
  Contract of impl.Lex over this seat's translation: the words of a text. Conditions: the text has at most 1048576 bytes; the table of signs is as listed.
-/
namespace Go.Proofs.YtebeoijoljlhiaaGreatDoor.kit
open Go.ChangeShapes Go.WideShapes Go.ChangeAt Go.RowKit
set_option linter.unusedVariables false

/-- What stays while a word is read. -/
structure LxS (B N : Nat) (w : World) (v : Value) (acc : List Tok) (W : World) : Prop where
  own : OwnT B W v acc
  sig : Sig W
  bel : Below B w W
  size : B ≤ W.heap.size
  low : ∀ g, v.ownBlock = some g → g < N
  up : B ≤ N ∧ w.heap.size ≤ N
theorem Sig.drew {w : World} (h : Sig w) : Sig w.drew := h
theorem LxS.start {B N : Nat} {w : World} {v : Value} {acc : List Tok} {W : World} (h : LxS B N w v acc W) : LxS B N w v acc W.drew := ⟨h.own.drew, h.sig.drew, h.bel.drew, h.size, h.low, h.up⟩
theorem LxS.step {B N : Nat} {w : World} {v : Value} {acc : List Tok} {W W' : World} (h : LxS B N w v acc W) (hb : Below W.heap.size W W') : LxS B N w v acc W' := ⟨h.own.kept hb, h.sig.on hb, h.bel.trans (hb.mono h.size), Nat.le_trans h.size hb.size, h.low, h.up⟩
theorem LxS.alloc {B N : Nat} {w : World} {v : Value} {acc : List Tok} {W : World} (h : LxS B N w v acc W) (o : Obj) : LxS B N w v acc (W.alloc o) := h.step ((Below.refl _ _).alloc (Nat.le_refl _) _)
theorem sig_set {w : World} (h : Sig w) (p j : Nat) (x : Value) (hp : 0 < p) : Sig (w.setCell ⟨p, j, none⟩ x) := by
  unfold Sig World.var? at h ⊢
  rw [gSig] at h ⊢
  simp only [Option.bind_some] at h ⊢
  rw [show (w.setCell ⟨p, j, none⟩ x).heap[0]? = w.heap[0]? from Below.heap_setCell _ _ _ _ (by simp only; omega)]
  exact h
theorem LxS.set {B N : Nat} {w : World} {v : Value} {acc : List Tok} {W : World} (h : LxS B N w v acc W) (p j : Nat) (x : Value) (hp : N ≤ p) (h0 : 0 < p) : LxS B N w v acc (W.setCell ⟨p, j, none⟩ x) := by
  refine ⟨?_, sig_set h.sig p j x h0, h.bel.setCell (p := ⟨p, j, none⟩) (Nat.le_trans h.up.1 hp) _, by simpa using h.size, h.low, h.up⟩
  refine World.ownsRow.kept h.own (row := some p) ⟨rfl, rfl, rfl, by simp, fun k hk hne => Below.heap_setCell _ _ _ k (by simp only; exact fun e => hne (by rw [e]))⟩ ?_
  cases e : v.ownBlock with
  | none => exact .inl rfl
  | some q => right; intro e2; cases e2; have := h.low _ e; omega
theorem Sig.far {w w' : World} {B : Nat} (h : Sig w) (hb : Below B w w') (hB : 0 < B) : Sig w' := by
  unfold Sig World.var? at h ⊢
  rw [gSig] at h ⊢
  simp only [Option.bind_some] at h ⊢
  rw [hb.block _ hB]
  exact h
theorem OwnT.low {B : Nat} {w : World} {v : Value} {ts : List Tok} (h : OwnT B w v ts) : ∀ g, v.ownBlock = some g → g < w.heap.size := fun k hk => (World.ownsRow.lt h k hk).2
theorem LxS.next {N : Nat} {w : World} {v v' : Value} {acc acc' : List Tok} {W W' : World} (ho : OwnT w.heap.size W' v' acc') (hb : Below w.heap.size W W') (hg : 0 < w.heap.size) (h : LxS w.heap.size N w v acc W) : LxS w.heap.size W'.heap.size w v' acc' W' := by
  have hb2 := h.bel.trans hb
  exact ⟨ho, h.sig.far hb hg, hb2, hb2.size, ho.low, ⟨hb2.size, hb2.size⟩⟩
theorem world_abs (f : World → Prop) (W0 : World) (F : World → Prop) (h0 : F W0) (h : ∀ W, F W → f W) : f W0 := h W0 h0
/-- A box of the call's own that holds a word. -/
structure Bx (P : Nat) (t : Tok) (W : World) : Prop where
  tok : TokC W P 0 t
  fz : W.frozen? ⟨P, 0, none⟩ = false ∧ W.frozen? ⟨P, 1, none⟩ = false ∧ W.frozen? ⟨P, 2, none⟩ = false ∧ W.frozen? ⟨P, 3, none⟩ = false
theorem bx_new (w : World) (ty : TypeId) (t : Tok) : Bx w.heap.size t (w.alloc (.cells #[.int .i64 t.k, .string t.s, .int .i64 t.n, .int .i64 t.l] ty)) := by
  refine ⟨tokC_new w rfl ty t, ?_, ?_, ?_, ?_⟩
  all_goals (simp only [World.frozen?, heap_alloc_new w _]; simp)
theorem box_kept {p : Nat} {W W' : World} (h : BoxT p W) (hb : Below W.heap.size W W') : BoxT p W' := by
  obtain ⟨⟨c0, c1, c2, c3⟩, ⟨f0, f1, f2, f3⟩⟩ := h
  have hp : p < W.heap.size := World.block_lt_of_cell? W _ c0
  exact ⟨⟨(hb.cell (p := ⟨p, 0, none⟩) hp).trans c0, (hb.cell (p := ⟨p, 1, none⟩) hp).trans c1, (hb.cell (p := ⟨p, 2, none⟩) hp).trans c2, (hb.cell (p := ⟨p, 3, none⟩) hp).trans c3⟩,
    ⟨(hb.frozen (p := ⟨p, 0, none⟩) hp).trans f0, (hb.frozen (p := ⟨p, 1, none⟩) hp).trans f1, (hb.frozen (p := ⟨p, 2, none⟩) hp).trans f2, (hb.frozen (p := ⟨p, 3, none⟩) hp).trans f3⟩⟩
theorem bx_set {p : Nat} {W : World} (h : BoxT p W) (t : Tok) : Bx p t ((((W.setCell ⟨p, 0, none⟩ (.int .i64 t.k)).setCell ⟨p, 1, none⟩ (.string t.s)).setCell ⟨p, 2, none⟩ (.int .i64 t.n)).setCell ⟨p, 3, none⟩ (.int .i64 t.l)) := by
  obtain ⟨⟨c0, c1, c2, c3⟩, ⟨f0, f1, f2, f3⟩⟩ := h
  have h4 : ∀ j, j < 4 → (W.cell? ⟨p, 0 + j, none⟩).isSome = true := by
    intro j hj
    match j, hj with
    | 0, _ => rw [Nat.zero_add, c0]; rfl
    | 1, _ => rw [Nat.zero_add, c1]; rfl
    | 2, _ => rw [Nat.zero_add, c2]; rfl
    | 3, _ => rw [Nat.zero_add, c3]; rfl
  refine ⟨set4_at W p 0 t h4, ?_, ?_, ?_, ?_⟩
  all_goals (simp only [World.frozen?_setCell]; assumption)
theorem skip_stop (s : ByteArray) (i : Nat) (hi : i ≤ s.size) : skipB s (skipB s i) = skipB s i := by
  have h1 := runEnd_le blkI s i hi
  unfold skipB
  by_cases c : atB s (runEnd blkI s i) 35 = true
  · rw [if_pos c]
    exact skip_nl s (runEnd blkI s i) h1.2
  · rw [if_neg c]
    by_cases h : runEnd blkI s i < s.size
    · exact skip_word h (runEnd_stop blkI s i hi h) (by simpa using c)
    · exact skip_end (by omega)
set_option maxRecDepth 100000 in
set_option maxHeartbeats 2000000 in
theorem implLex_any (s : ByteArray) (w : World) (hs : s.size ≤ 1048576) (ht : Sig w) :
    Calls Tryz.prog 25 #[.string s] w (LexPost w.heap.size (lexB s) w) := by
  by_cases hbig : 4000 < s.size
  · have E : Hid (lexB s = ([], 1)) := Lib.hid (if_pos hbig)
    have hd : decide (4000 < s.size) = true := by simpa using hbig
    go_enter Tryz.func25, Tryz.ntmps25
    go_wp2_with fail
    go_ret2
    exact ⟨_, by rw [E.out]; rfl, by rw [E.out]; exact ownT_nil _ _, Below.refl _ _⟩
  · have HL : Hid (lexB s = lx s (s.size + 1) (skipB s 0) 1 []) := Lib.hid ((if_neg hbig).trans (lx_skip (skip_stop s 0 (by omega)).symm (by omega)))
    have hd : decide (4000 < s.size) = false := by simpa using hbig
    have HT := Lib.hid ht
    have hg0 : 0 < w.heap.size := by obtain ⟨t0, f0, h0⟩ := ht.row; exact (Array.getElem?_eq_some_iff.1 h0).1
    clear ht
    have CB := Lib.hid (fun i (hi : i ≤ s.size) W => wordBegin_any s i W hs hi)
    have CB0 := Lib.hid (CB.out 0 (by omega))
    have hk0 := (skip_le s 0 (by omega)).2
    have hst := Lib.hid (skip_stop s 0 (by omega))
    go_enter Tryz.func25, Tryz.ntmps25
    go_wp2_with fail
    refine (CB0.out _).mono ?_
    rintro e w0 ⟨rfl, rfl⟩
    go_wp2_with fail
    go_loopw [4, 5, 6] (fun v l i wr => ∃ (k f : Nat) (ln : Int) (acc : List Tok), k ≤ s.size ∧ s.size - k < f ∧ i = .int .i64 (k : Int) ∧ l = .int .i64 ln ∧ (0 ≤ ln ∧ ln ≤ (k : Int) + 1) ∧ acc.length ≤ k ∧ (skipB s k = k ∧ lexB s = lx s f k ln acc) ∧ LxS w.heap.size wr.heap.size w v acc wr) (fun _ _ i _ => s.size - (intOf i).toNat)
    case atStart => exact ⟨skipB s 0, s.size + 1, 1, [], hk0, by omega, rfl, rfl, ⟨by omega, by omega⟩, by simp, ⟨hst.out, HL.out⟩, ⟨ownT_start (Nat.le_refl _), HT.out.on ((Below.refl _ _).alloc (Nat.le_refl _) _), (Below.refl _ _).alloc (Nat.le_refl _) _, by simp, fun g e => by simp [Value.ownBlock] at e; simp; omega, by simp⟩⟩
    case round =>
      obtain ⟨k, f, ln, acc, hk, hf, rfl, rfl, ⟨hl0, hl1⟩, hal, ⟨hsk, heq⟩, hlx⟩ := hrel
      have HE := Lib.hid heq
      have HS := Lib.hid hlx
      have hz := hlx.size
      have hz0 : 0 < wr.heap.size := by obtain ⟨t0, f0, h0⟩ := hlx.sig.row; exact (Array.getElem?_eq_some_iff.1 h0).1
      clear heq hlx
      by_cases hlt : k < s.size
      · have i0 : (0 : Int) ≤ (k : Int) := by omega
        have i1 : (k : Int) < (s.size : Int) := by omega
        have hsl : ∀ (W : World), (Instr.slice 9 (.string s) (some (.int .i64 (k : Int))) none none).run Tryz.prog W = .ok (.string (sufB s k)) W := by
          intro W
          rw [run_slice_string_from_if W _ s .i64 _ Tryz.underlying9, if_pos ⟨by omega, by omega⟩]; rfl
        have hzs := suf_size (s := s) (i := k) (by omega)
        have CE := Lib.hid (fun W (h : LxS w.heap.size wr.heap.size w u4 acc W) => ends_own h.own (by omega))
        have CW := Lib.hid (fun W (h : LxS w.heap.size wr.heap.size w u4 acc W) => readWord_any (sufB s k) (divs acc) W (by omega) (by omega) h.sig)
        have HWS := Lib.hid (wd_suf s k (divs acc) hlt)
        generalize sufB s k = z at *
        have HX := Lib.hid (fun x => @lx_some s f k ln acc x)
        have HY := Lib.hid (@lx_none s f k ln acc)
        have HP := Lib.hid (fun x => @wd_pair s k (divs acc) x)
        rw [hsk] at HX HY
        generalize divs acc = dv at *
        go_wp2_with fail
        go_region_held3 (fun w' => LxS w.heap.size wr.heap.size w u4 acc w') (first | exact HS.out.start | exact LxS.step (by assumption) (by assumption) | exact LxS.step HS.out.start (by assumption) | exact LxS.alloc (by assumption) _ | exact ((((LxS.set hw3 _ _ _ (by omega) (by omega)).set _ _ _ (by omega) (by omega)).set _ _ _ (by omega) (by omega)).set _ _ _ (by omega) (by omega)) | exact LxS.alloc (LxS.step (by assumption) (by assumption)) _ | assumption) (first | (go_at_call 73; refine (CE.out _ (by assumption)).mono ?_; rintro e w2 ⟨rfl, hb2⟩; obtain ⟨hc2, hf2⟩ := bcell hb2; (try have y2 : wr.heap.size ≤ w2.heap.size := by have := hb2.size; (try simp at this); omega); (try have z2 : wr.heap.size < w2.heap.size := by have := hb2.size; (try simp at this); omega)) | (go_at_call 72; refine (CW.out _ (by assumption)).mono ?_; rintro e w3 ⟨t, n, rfl, ho, hb3⟩; have hw3 := LxS.step (B := w.heap.size) (N := wr.heap.size) (w := w) (v := u4) (acc := acc) (by assumption) hb3; obtain ⟨hc3, hf3⟩ := bcell hb3; (try have y3 : wr.heap.size ≤ w3.heap.size := by have := hb3.size; (try simp at this); omega); (try have z3 : wr.heap.size < w3.heap.size := by have := hb3.size; (try simp at this); omega); (try have z23 : w2.heap.size < w3.heap.size := by have := hb3.size; (try simp at this); omega); obtain ⟨tk, ts, tn, tl⟩ := t; unfold Tok.v; simp only))
        next =>
          have HO := Lib.hid ho
          clear ho
          refine world_abs (Exit.then _ _ Exit.normal _) _ (fun W => LxS w.heap.size wr.heap.size w u4 acc W ∧ Bx w3.heap.size ⟨tk, ts, tn, tl⟩ W ∧ wr.heap.size ≤ w3.heap.size) ⟨by assumption, bx_new w3 _ ⟨tk, ts, tn, tl⟩, by omega⟩ ?_
          intro W hW
          obtain ⟨hL, ⟨⟨c0, c1, c2, c3⟩, f0, f1, f2, f3⟩, hw3.heap.size⟩ := hW
          have hPW : w3.heap.size < W.heap.size := World.block_lt_of_cell? W _ c0
          have hLs := hL.size
          simp only [Nat.zero_add] at c1 c2 c3
          clear hc2 hf2 hc3 hf3 hw3
          generalize w3.heap.size = P at *
          rcases HO.out with ⟨ho, rfl⟩ | ⟨x, ho, hx, rfl⟩
          · have E : Hid (lexB s = ([], ln)) := Lib.hid (by rw [HE.out]; exact HY.out hlt (by omega) (by rw [← HWS.out, ho]; rfl))
            go_wp2_with fail
            go_ret2
            exact ⟨_, by rw [E.out]; rfl, by rw [E.out]; exact ownT_nil _ _, (LxS.bel (N := wr.heap.size) (v := u4) (acc := acc) (by repeat (first | with_reducible exact hL | with_reducible refine LxS.alloc ?_ _ | with_reducible refine LxS.set ?_ _ _ _ (by omega) (by omega))))⟩
          obtain ⟨xt, m⟩ := x
          simp only at hx
          subst hx
          have hw : wd s k dv = some (⟨tk, ts, tn, tl⟩, k + m) := by rw [← HWS.out, ho]; rfl
          have hp := HP.out _ hlt hw
          simp only at hp
          have hsl2 := skip_le s (k + m) (by omega)
          have n0 : ((m : Int) == 0) = false := by simp; omega
          have a10 := atB_is 10 10 rfl hlt
          clear HO ho
          cases c10 : atB s k 10
          · rw [c10] at a10
            have hne : ¬ s[k] = 10 := fun e => by rw [atB, dif_pos hlt, e] at c10; cases c10
            have E : Hid (lexB s = lx s (f - 1) (skipB s (k + m)) ln (acc ++ [⟨tk, ts, tn, ln⟩])) := Lib.hid (by
              rw [HE.out, HX.out _ hlt (by omega) hw, if_neg hne]
              exact lx_skip (skip_stop s (k + m) (by omega)).symm (by omega))
            go_wp2_with (at_builtin; refine wp_append_tok rfl _ _ rfl w.heap.size _ _ rfl (LxS.own (N := wr.heap.size) (w := w) (v := u4) (acc := acc) (by repeat (first | with_reducible exact hL | with_reducible refine LxS.alloc ?_ _ | with_reducible refine LxS.set ?_ _ _ _ (by omega) (by omega)))) _ 1 ⟨tk, ts, tn, ln⟩ rfl (tokC_new _ (by simp) _ ⟨tk, ts, tn, ln⟩) (by omega) (by simp; omega) ?_; intro v' w5 hown5 hbel5)
            have HZ5 : Hid (LxS w.heap.size w5.heap.size w v' (acc ++ [⟨tk, ts, tn, ln⟩]) w5) := Lib.hid (by
              exact LxS.next (N := wr.heap.size) (v := u4) (acc := acc) hown5 hbel5 hg0 (by repeat (first | with_reducible exact hL | with_reducible refine LxS.alloc ?_ _ | with_reducible refine LxS.set ?_ _ _ _ (by omega) (by omega))))
            have CC := Lib.hid (CB.out (k + m) (by omega))
            rw [show ((k + m : Nat) : Int) = (k : Int) + m by omega] at CC
            refine (CC.out _).mono ?_
            rintro e w6 ⟨rfl, rfl⟩
            go_wp2_with fail
            go_roundw
            case rel => exact ⟨skipB s (k + m), f - 1, ln, acc ++ [⟨tk, ts, tn, ln⟩], hsl2.2, by omega, rfl, rfl, ⟨by omega, by omega⟩, by simp; omega, ⟨skip_stop s (k + m) (by omega), E.out⟩, HZ5.out⟩
            case measure => simp [intOf]; omega
          · rw [c10] at a10
            have hne : s[k] = 10 := (atB_eq c10).2
            have E : Hid (lexB s = lx s (f - 1) (skipB s (k + m)) (ln + 1) (acc ++ [⟨tk, ts, tn, ln⟩])) := Lib.hid (by
              rw [HE.out, HX.out _ hlt (by omega) hw, if_pos hne]
              exact lx_skip (skip_stop s (k + m) (by omega)).symm (by omega))
            go_wp2_with (at_builtin; refine wp_append_tok rfl _ _ rfl w.heap.size _ _ rfl (LxS.own (N := wr.heap.size) (w := w) (v := u4) (acc := acc) (by repeat (first | with_reducible exact hL | with_reducible refine LxS.alloc ?_ _ | with_reducible refine LxS.set ?_ _ _ _ (by omega) (by omega)))) _ 1 ⟨tk, ts, tn, ln⟩ rfl (tokC_new _ (by simp) _ ⟨tk, ts, tn, ln⟩) (by omega) (by simp; omega) ?_; intro v' w5 hown5 hbel5)
            have HZ5 : Hid (LxS w.heap.size w5.heap.size w v' (acc ++ [⟨tk, ts, tn, ln⟩]) w5) := Lib.hid (by
              exact LxS.next (N := wr.heap.size) (v := u4) (acc := acc) hown5 hbel5 hg0 (by repeat (first | with_reducible exact hL | with_reducible refine LxS.alloc ?_ _ | with_reducible refine LxS.set ?_ _ _ _ (by omega) (by omega))))
            have CC := Lib.hid (CB.out (k + m) (by omega))
            rw [show ((k + m : Nat) : Int) = (k : Int) + m by omega] at CC
            refine (CC.out _).mono ?_
            rintro e w6 ⟨rfl, rfl⟩
            go_wp2_with fail
            go_roundw
            case rel => exact ⟨skipB s (k + m), f - 1, (ln + 1), acc ++ [⟨tk, ts, tn, ln⟩], hsl2.2, by omega, rfl, by go_num, ⟨by omega, by omega⟩, by simp; omega, ⟨skip_stop s (k + m) (by omega), E.out⟩, HZ5.out⟩
            case measure => simp [intOf]; omega
        next =>
          have HO := Lib.hid ho
          clear ho
          refine world_abs (Exit.then _ _ Exit.normal _) _ (fun W => LxS w.heap.size wr.heap.size w u4 acc W ∧ Bx w2.heap.size ⟨tk, ts, tn, tl⟩ W ∧ wr.heap.size ≤ w2.heap.size) ⟨by assumption, bx_set (box_kept (BoxT.new w2 _) hb3) ⟨tk, ts, tn, tl⟩, by omega⟩ ?_
          intro W hW
          obtain ⟨hL, ⟨⟨c0, c1, c2, c3⟩, f0, f1, f2, f3⟩, hw2.heap.size⟩ := hW
          have hPW : w2.heap.size < W.heap.size := World.block_lt_of_cell? W _ c0
          have hLs := hL.size
          simp only [Nat.zero_add] at c1 c2 c3
          clear hc2 hf2 hc3 hf3 hw3
          generalize w2.heap.size = P at *
          rcases HO.out with ⟨ho, rfl⟩ | ⟨x, ho, hx, rfl⟩
          · have E : Hid (lexB s = ([], ln)) := Lib.hid (by rw [HE.out]; exact HY.out hlt (by omega) (by rw [← HWS.out, ho]; rfl))
            go_wp2_with fail
            go_ret2
            exact ⟨_, by rw [E.out]; rfl, by rw [E.out]; exact ownT_nil _ _, (LxS.bel (N := wr.heap.size) (v := u4) (acc := acc) (by repeat (first | with_reducible exact hL | with_reducible refine LxS.alloc ?_ _ | with_reducible refine LxS.set ?_ _ _ _ (by omega) (by omega))))⟩
          obtain ⟨xt, m⟩ := x
          simp only at hx
          subst hx
          have hw : wd s k dv = some (⟨tk, ts, tn, tl⟩, k + m) := by rw [← HWS.out, ho]; rfl
          have hp := HP.out _ hlt hw
          simp only at hp
          have hsl2 := skip_le s (k + m) (by omega)
          have n0 : ((m : Int) == 0) = false := by simp; omega
          have a10 := atB_is 10 10 rfl hlt
          clear HO ho
          cases c10 : atB s k 10
          · rw [c10] at a10
            have hne : ¬ s[k] = 10 := fun e => by rw [atB, dif_pos hlt, e] at c10; cases c10
            have E : Hid (lexB s = lx s (f - 1) (skipB s (k + m)) ln (acc ++ [⟨tk, ts, tn, ln⟩])) := Lib.hid (by
              rw [HE.out, HX.out _ hlt (by omega) hw, if_neg hne]
              exact lx_skip (skip_stop s (k + m) (by omega)).symm (by omega))
            go_wp2_with (at_builtin; refine wp_append_tok rfl _ _ rfl w.heap.size _ _ rfl (LxS.own (N := wr.heap.size) (w := w) (v := u4) (acc := acc) (by repeat (first | with_reducible exact hL | with_reducible refine LxS.alloc ?_ _ | with_reducible refine LxS.set ?_ _ _ _ (by omega) (by omega)))) _ 1 ⟨tk, ts, tn, ln⟩ rfl (tokC_new _ (by simp) _ ⟨tk, ts, tn, ln⟩) (by omega) (by simp; omega) ?_; intro v' w5 hown5 hbel5)
            have HZ5 : Hid (LxS w.heap.size w5.heap.size w v' (acc ++ [⟨tk, ts, tn, ln⟩]) w5) := Lib.hid (by
              exact LxS.next (N := wr.heap.size) (v := u4) (acc := acc) hown5 hbel5 hg0 (by repeat (first | with_reducible exact hL | with_reducible refine LxS.alloc ?_ _ | with_reducible refine LxS.set ?_ _ _ _ (by omega) (by omega))))
            have CC := Lib.hid (CB.out (k + m) (by omega))
            rw [show ((k + m : Nat) : Int) = (k : Int) + m by omega] at CC
            refine (CC.out _).mono ?_
            rintro e w6 ⟨rfl, rfl⟩
            go_wp2_with fail
            go_roundw
            case rel => exact ⟨skipB s (k + m), f - 1, ln, acc ++ [⟨tk, ts, tn, ln⟩], hsl2.2, by omega, rfl, rfl, ⟨by omega, by omega⟩, by simp; omega, ⟨skip_stop s (k + m) (by omega), E.out⟩, HZ5.out⟩
            case measure => simp [intOf]; omega
          · rw [c10] at a10
            have hne : s[k] = 10 := (atB_eq c10).2
            have E : Hid (lexB s = lx s (f - 1) (skipB s (k + m)) (ln + 1) (acc ++ [⟨tk, ts, tn, ln⟩])) := Lib.hid (by
              rw [HE.out, HX.out _ hlt (by omega) hw, if_pos hne]
              exact lx_skip (skip_stop s (k + m) (by omega)).symm (by omega))
            go_wp2_with (at_builtin; refine wp_append_tok rfl _ _ rfl w.heap.size _ _ rfl (LxS.own (N := wr.heap.size) (w := w) (v := u4) (acc := acc) (by repeat (first | with_reducible exact hL | with_reducible refine LxS.alloc ?_ _ | with_reducible refine LxS.set ?_ _ _ _ (by omega) (by omega)))) _ 1 ⟨tk, ts, tn, ln⟩ rfl (tokC_new _ (by simp) _ ⟨tk, ts, tn, ln⟩) (by omega) (by simp; omega) ?_; intro v' w5 hown5 hbel5)
            have HZ5 : Hid (LxS w.heap.size w5.heap.size w v' (acc ++ [⟨tk, ts, tn, ln⟩]) w5) := Lib.hid (by
              exact LxS.next (N := wr.heap.size) (v := u4) (acc := acc) hown5 hbel5 hg0 (by repeat (first | with_reducible exact hL | with_reducible refine LxS.alloc ?_ _ | with_reducible refine LxS.set ?_ _ _ _ (by omega) (by omega))))
            have CC := Lib.hid (CB.out (k + m) (by omega))
            rw [show ((k + m : Nat) : Int) = (k : Int) + m by omega] at CC
            refine (CC.out _).mono ?_
            rintro e w6 ⟨rfl, rfl⟩
            go_wp2_with fail
            go_roundw
            case rel => exact ⟨skipB s (k + m), f - 1, (ln + 1), acc ++ [⟨tk, ts, tn, ln⟩], hsl2.2, by omega, rfl, by go_num, ⟨by omega, by omega⟩, by simp; omega, ⟨skip_stop s (k + m) (by omega), E.out⟩, HZ5.out⟩
            case measure => simp [intOf]; omega
        next =>
          have HO := Lib.hid ho
          clear ho
          refine world_abs (Exit.then _ _ Exit.normal _) _ (fun W => LxS w.heap.size wr.heap.size w u4 acc W ∧ Bx wr.heap.size ⟨tk, ts, tn, tl⟩ W ∧ wr.heap.size ≤ wr.heap.size) ⟨by assumption, bx_set (box_kept (box_kept (BoxT.new wr.drew _) hb2) hb3) ⟨tk, ts, tn, tl⟩, by omega⟩ ?_
          intro W hW
          obtain ⟨hL, ⟨⟨c0, c1, c2, c3⟩, f0, f1, f2, f3⟩, hwr.heap.size⟩ := hW
          have hPW : wr.heap.size < W.heap.size := World.block_lt_of_cell? W _ c0
          have hLs := hL.size
          simp only [Nat.zero_add] at c1 c2 c3
          clear hc2 hf2 hc3 hf3 hw3
          rcases HO.out with ⟨ho, rfl⟩ | ⟨x, ho, hx, rfl⟩
          · have E : Hid (lexB s = ([], ln)) := Lib.hid (by rw [HE.out]; exact HY.out hlt (by omega) (by rw [← HWS.out, ho]; rfl))
            go_wp2_with fail
            go_ret2
            exact ⟨_, by rw [E.out]; rfl, by rw [E.out]; exact ownT_nil _ _, (LxS.bel (N := wr.heap.size) (v := u4) (acc := acc) (by repeat (first | with_reducible exact hL | with_reducible refine LxS.alloc ?_ _ | with_reducible refine LxS.set ?_ _ _ _ (by omega) (by omega))))⟩
          obtain ⟨xt, m⟩ := x
          simp only at hx
          subst hx
          have hw : wd s k dv = some (⟨tk, ts, tn, tl⟩, k + m) := by rw [← HWS.out, ho]; rfl
          have hp := HP.out _ hlt hw
          simp only at hp
          have hsl2 := skip_le s (k + m) (by omega)
          have n0 : ((m : Int) == 0) = false := by simp; omega
          have a10 := atB_is 10 10 rfl hlt
          clear HO ho
          cases c10 : atB s k 10
          · rw [c10] at a10
            have hne : ¬ s[k] = 10 := fun e => by rw [atB, dif_pos hlt, e] at c10; cases c10
            have E : Hid (lexB s = lx s (f - 1) (skipB s (k + m)) ln (acc ++ [⟨tk, ts, tn, ln⟩])) := Lib.hid (by
              rw [HE.out, HX.out _ hlt (by omega) hw, if_neg hne]
              exact lx_skip (skip_stop s (k + m) (by omega)).symm (by omega))
            go_wp2_with (at_builtin; refine wp_append_tok rfl _ _ rfl w.heap.size _ _ rfl (LxS.own (N := wr.heap.size) (w := w) (v := u4) (acc := acc) (by repeat (first | with_reducible exact hL | with_reducible refine LxS.alloc ?_ _ | with_reducible refine LxS.set ?_ _ _ _ (by omega) (by omega)))) _ 1 ⟨tk, ts, tn, ln⟩ rfl (tokC_new _ (by simp) _ ⟨tk, ts, tn, ln⟩) (by omega) (by simp; omega) ?_; intro v' w5 hown5 hbel5)
            have HZ5 : Hid (LxS w.heap.size w5.heap.size w v' (acc ++ [⟨tk, ts, tn, ln⟩]) w5) := Lib.hid (by
              exact LxS.next (N := wr.heap.size) (v := u4) (acc := acc) hown5 hbel5 hg0 (by repeat (first | with_reducible exact hL | with_reducible refine LxS.alloc ?_ _ | with_reducible refine LxS.set ?_ _ _ _ (by omega) (by omega))))
            have CC := Lib.hid (CB.out (k + m) (by omega))
            rw [show ((k + m : Nat) : Int) = (k : Int) + m by omega] at CC
            refine (CC.out _).mono ?_
            rintro e w6 ⟨rfl, rfl⟩
            go_wp2_with fail
            go_roundw
            case rel => exact ⟨skipB s (k + m), f - 1, ln, acc ++ [⟨tk, ts, tn, ln⟩], hsl2.2, by omega, rfl, rfl, ⟨by omega, by omega⟩, by simp; omega, ⟨skip_stop s (k + m) (by omega), E.out⟩, HZ5.out⟩
            case measure => simp [intOf]; omega
          · rw [c10] at a10
            have hne : s[k] = 10 := (atB_eq c10).2
            have E : Hid (lexB s = lx s (f - 1) (skipB s (k + m)) (ln + 1) (acc ++ [⟨tk, ts, tn, ln⟩])) := Lib.hid (by
              rw [HE.out, HX.out _ hlt (by omega) hw, if_pos hne]
              exact lx_skip (skip_stop s (k + m) (by omega)).symm (by omega))
            go_wp2_with (at_builtin; refine wp_append_tok rfl _ _ rfl w.heap.size _ _ rfl (LxS.own (N := wr.heap.size) (w := w) (v := u4) (acc := acc) (by repeat (first | with_reducible exact hL | with_reducible refine LxS.alloc ?_ _ | with_reducible refine LxS.set ?_ _ _ _ (by omega) (by omega)))) _ 1 ⟨tk, ts, tn, ln⟩ rfl (tokC_new _ (by simp) _ ⟨tk, ts, tn, ln⟩) (by omega) (by simp; omega) ?_; intro v' w5 hown5 hbel5)
            have HZ5 : Hid (LxS w.heap.size w5.heap.size w v' (acc ++ [⟨tk, ts, tn, ln⟩]) w5) := Lib.hid (by
              exact LxS.next (N := wr.heap.size) (v := u4) (acc := acc) hown5 hbel5 hg0 (by repeat (first | with_reducible exact hL | with_reducible refine LxS.alloc ?_ _ | with_reducible refine LxS.set ?_ _ _ _ (by omega) (by omega))))
            have CC := Lib.hid (CB.out (k + m) (by omega))
            rw [show ((k + m : Nat) : Int) = (k : Int) + m by omega] at CC
            refine (CC.out _).mono ?_
            rintro e w6 ⟨rfl, rfl⟩
            go_wp2_with fail
            go_roundw
            case rel => exact ⟨skipB s (k + m), f - 1, (ln + 1), acc ++ [⟨tk, ts, tn, ln⟩], hsl2.2, by omega, rfl, by go_num, ⟨by omega, by omega⟩, by simp; omega, ⟨skip_stop s (k + m) (by omega), E.out⟩, HZ5.out⟩
            case measure => simp [intOf]; omega
      · have E : Hid (lexB s = (acc, 0)) := Lib.hid (by rw [HE.out]; exact lx_end (by rw [hsk]; omega) (by omega))
        go_wp2_with fail
        go_ret2
        exact ⟨_, by rw [E.out]; rfl, by rw [E.out]; exact HS.out.own, HS.out.bel⟩
end Go.Proofs.YtebeoijoljlhiaaGreatDoor.kit
