/-
  Programs of the laws (slices of rules) as data: how they are read, what they cost. Conditions: each theorem names its own.
-/
import Derived.Test.YtghmkfehohgmgaaNd4
namespace Go.Proofs.Ytghmkfehohgmgaa.kit
open Go.Joins Go.ChangeShapes Go.WideShapes Go.ChangeAt Go.RowKit Go.Deep
set_option linter.unusedVariables false

/-- A rule. -/
structure RuD where
  when : Int
  pat : NT
  body : NT
instance : Inhabited RuD := ⟨⟨0, default, default⟩⟩
namespace RuD
def cost (r : RuD) : Nat := NT.cost r.pat + NT.cost r.body
def costs : List RuD → Nat | [] => 0 | r :: rs => cost r + costs rs
def bill (rs : List RuD) : Nat := rs.length + costs rs
theorem costs_take (ts : List RuD) (i : Nat) (h : i < ts.length) : costs (ts.take (i + 1)) = costs (ts.take i) + cost ts[i] := by
  induction ts generalizing i with
  | nil => simp at h
  | cons t ts ih =>
    cases i with
    | zero => simp [costs]
    | succ i => simp only [List.take_succ_cons, costs, List.getElem_cons_succ, ih i (by simpa using h)]; omega
theorem costs_le (ts : List RuD) (i : Nat) : costs (ts.take i) ≤ costs ts := by
  induction ts generalizing i with
  | nil => simp [costs]
  | cons t ts ih => cases i with
    | zero => simp [costs]
    | succ i => simp only [List.take_succ_cons, costs]; have := ih i; omega
end RuD
/-- A rule's own value: the kids of its nodes lie at ap and ab. -/
def ruV (r : RuD) (ap : Option Addr) (cp : Nat) (ab : Option Addr) (cb : Nat) : Value :=
  .agg #[.int .i64 r.when, .int .i64 r.pat.kind, .int .i64 r.pat.num, .string r.pat.text, .slice ap r.pat.kids.length cp, .int .i64 r.body.kind, .int .i64 r.body.num, .string r.body.text, .slice ab r.body.kids.length cb]
/-- The i-th rule of a slice at a. -/
def RElem (B : Nat) (w : World) (a : Option Addr) (i : Nat) (r : RuD) (ap : Option Addr) (cp : Nat) (ab : Option Addr) (cb : Nat) : Prop :=
  ∃ b o, a = some ⟨b, o, none⟩ ∧ B ≤ b ∧ b < w.heap.size ∧ w.cell? ⟨b, o + i * 9, none⟩ = some (.int .i64 r.when) ∧ NCells w b (o + i * 9 + 1) r.pat ap cp ∧ NCells w b (o + i * 9 + 5) r.body ab cb ∧
    (r.pat.text.size ≤ maxLen ∧ r.pat.kids.length ≤ maxLen) ∧ r.body.text.size ≤ maxLen ∧ r.body.kids.length ≤ maxLen
theorem RElem.of {B : Nat} {w w' : World} {a : Option Addr} {i : Nat} {r : RuD} {ap : Option Addr} {cp : Nat} {ab : Option Addr} {cb : Nat} (h : RElem B w a i r ap cp ab cb) (hs : w.heap.size ≤ w'.heap.size)
    (hc : ∀ b o, B ≤ b → b < w.heap.size → w'.cell? ⟨b, o, none⟩ = w.cell? ⟨b, o, none⟩) : RElem B w' a i r ap cp ab cb := by
  obtain ⟨b, o, e, h0, h1, c0, c1, c2, f0, f1⟩ := h
  exact ⟨b, o, e, h0, Nat.lt_of_lt_of_le h1 hs, (hc b _ h0 h1).trans c0, c1.of fun j => hc b j h0 h1, c2.of fun j => hc b j h0 h1, f0, f1⟩
/-- The rules rs lie at a, in blocks from B on. -/
def Rules (B : Nat) (w : World) (rs : List RuD) (a : Option Addr) : Prop := ∀ i (hi : i < rs.length), ∃ ap cp ab cb, RElem B w a i rs[i] ap cp ab cb ∧ NKids B w rs[i].pat.kids ap ∧ NKids B w rs[i].body.kids ab
theorem Rules.of {B : Nat} {w w' : World} {rs : List RuD} {a : Option Addr} (h : Rules B w rs a) (hs : w.heap.size ≤ w'.heap.size)
    (hc : ∀ b o, B ≤ b → b < w.heap.size → w'.cell? ⟨b, o, none⟩ = w.cell? ⟨b, o, none⟩ ∧ w'.frozen? ⟨b, o, none⟩ = w.frozen? ⟨b, o, none⟩) : Rules B w' rs a := fun i hi => by
  obtain ⟨ap, cp, ab, cb, h1, h2, h3⟩ := h i hi
  exact ⟨ap, cp, ab, cb, h1.of hs fun b o x y => (hc b o x y).1, h2.of hs hc, h3.of hs hc⟩
theorem Rules.mono {B B' : Nat} {w : World} {rs : List RuD} {a : Option Addr} (h : Rules B w rs a) (hB : B' ≤ B) : Rules B' w rs a := fun i hi => by
  obtain ⟨ap, cp, ab, cb, ⟨b, o, e, h0, r⟩, h2, h3⟩ := h i hi
  exact ⟨ap, cp, ab, cb, ⟨b, o, e, Nat.le_trans hB h0, r⟩, h2.mono hB, h3.mono hB⟩
theorem Rules.kept {B C : Nat} {w w' : World} {rs : List RuD} {a : Option Addr} (h : Rules B w rs a) (hC : w.heap.size ≤ C) (hb : Below C w w') : Rules B w' rs a :=
  h.of hb.size fun b o _ hl => ⟨hb.cell (p := ⟨b, o, none⟩) (Nat.lt_of_lt_of_le hl hC), hb.frozen (p := ⟨b, o, none⟩) (Nat.lt_of_lt_of_le hl hC)⟩
theorem Rules.alloc {B : Nat} {w : World} {rs : List RuD} {a : Option Addr} (h : Rules B w rs a) (o : Obj) : Rules B (w.alloc o) rs a :=
  h.kept (Nat.le_refl _) ((Below.refl _ _).alloc (Nat.le_refl _) _)
set_option maxRecDepth 100000 in
theorem open_rules {H : Type} {enc : TypeId × Value → H} {W : World} {b : Nat} {hd : Bool} {r : Reach} {b0 : Nat} {v : Value} {d : DataW H} {p : List MemPlace} (hv : Value.okWide Try.prog W r b0 22 v) (h : DataW.Trod enc Try.prog W b (fun _ => true) hd 22 v d p) :
    ∃ (rs : List RuD) (a : Option Addr) (cap : Nat), v = .slice a rs.length cap ∧ Rules 0 W rs a ∧ rs.length ≤ maxLen := by
  obtain ⟨a0, len0, cap0, rfl⟩ := okWide_slice Try.underlying22 hv
  obtain ⟨fuel, hf⟩ := h
  rcases open_slice Try.underlying22 hf with ⟨hcs, hx⟩ | ⟨a, len, cap, m, n, D, Pl, hcs, hb, hl, hm, hmm, hx, hi⟩
  · simp [Value.cells] at hcs
    obtain ⟨rfl, rfl, rfl⟩ := hcs
    exact ⟨[], none, 0, rfl, fun i hi => absurd hi (by simp), by simp⟩
  · simp [Value.cells] at hcs
    obtain ⟨rfl, rfl, rfl⟩ := hcs
    simp only [if_true] at hmm
    subst hmm
    have hone : ∀ i, i < len0 → ∃ u : RuD × (Option Addr × Nat) × (Option Addr × Nat), RElem 0 W (some a) i u.1 u.2.1.1 u.2.1.2 u.2.2.1 u.2.2.2 ∧ NKids 0 W u.1.pat.kids u.2.1.1 ∧ NKids 0 W u.1.body.kids u.2.2.1 := by
      intro i hil
      obtain ⟨cs', hc, ht⟩ := hi i (by omega)
      rw [cellsRu] at hc
      obtain ⟨xs, n', _, hx2, hcl, hlen, hf2⟩ := DataW.trod_struct Try.underlying55 ht
      rw [cellsRu] at hcl
      obtain ⟨_, hcl2, hat⟩ := World.cells?_some hc
      match cs', hcl, xs, hlen with
      | [c0, c1, c2, c3, c4, c5, c6, c7, c8], _, [y0, y1, y2], _ =>
        have t0 : DataW.trod enc Try.prog W b (fun _ => true) hd n' 3 [c0] = some y0 := hf2 0 _ rfl
        have t1 : DataW.trod enc Try.prog W b (fun _ => true) hd n' 53 [c1, c2, c3, c4] = some y1 := hf2 1 _ rfl
        have t2 : DataW.trod enc Try.prog W b (fun _ => true) hd n' 53 [c5, c6, c7, c8] = some y2 := hf2 2 _ rfl
        obtain ⟨k, e0, _, _⟩ := DataW.trod_int Try.underlying3 t0
        obtain ⟨tp, ap, cp, e1, kp, sp, lp⟩ := open_node4 t1
        obtain ⟨tb, ab, cb, e2, kb, sb, lb⟩ := open_node4 t2
        simp only [List.cons.injEq, and_true] at e0 e1 e2
        obtain ⟨rfl, rfl, rfl, rfl⟩ := e1
        obtain ⟨rfl, rfl, rfl, rfl⟩ := e2
        subst e0
        obtain ⟨cs0, hc0, _⟩ := hi 0 (by omega)
        rw [cellsRu] at hc0
        obtain ⟨_, _, hat0⟩ := World.cells?_some hc0
        have d0 := hat0 0 (by omega)
        obtain ⟨bb, oo, spot⟩ := a
        have hcl0 : 0 < cs0.length := by omega
        rw [Go.Deep.add_add, List.getElem?_eq_getElem hcl0] at d0
        have hspot : spot = none := by simpa [Addr.add] using World.cell?_spot d0
        subst hspot
        have hq : ∀ j, j < 9 → W.cell? ⟨bb, oo + i * 9 + j, none⟩ = ([.int .i64 k, .int .i64 tp.kind, .int .i64 tp.num, .string tp.text, .slice ap tp.kids.length cp, .int .i64 tb.kind, .int .i64 tb.num, .string tb.text, .slice ab tb.kids.length cb] : List Value)[j]? := fun j hj => by
          have := hat j hj
          rw [Go.Deep.add_add, add_at] at this
          rw [Nat.add_assoc]; exact this
        have hlt : bb < W.heap.size := World.block_lt_of_cell? W ⟨bb, oo + i * 9 + 0, none⟩ (u := .int .i64 k) (hq 0 (by omega))
        exact ⟨(⟨k, tp, tb⟩, (ap, cp), (ab, cb)), ⟨bb, oo, rfl, Nat.zero_le _, hlt, hq 0 (by omega), ⟨hq 1 (by omega), hq 2 (by omega), hq 3 (by omega), hq 4 (by omega)⟩, ⟨hq 5 (by omega), hq 6 (by omega), hq 7 (by omega), hq 8 (by omega)⟩, ⟨sp, lp⟩, sb, lb⟩, kp, kb⟩
    obtain ⟨f, hf⟩ := choose_lt hone
    refine ⟨(List.range len0).map fun i => (f i).1, some a, _, by simp; rfl, fun i hil => ?_, by simp; omega⟩
    have hil2 : i < len0 := by simpa using hil
    have := hf i hil2
    exact ⟨_, _, _, _, by simpa using this.1, by simpa using this.2.1, by simpa using this.2.2⟩
set_option maxRecDepth 100000 in
set_option maxHeartbeats 1000000 in
theorem szRule_any (r : RuD) (ap : Option Addr) (cp : Nat) (ab : Option Addr) (cb : Nat) (left : Int) (w : World) (kp : NKids 0 w r.pat.kids ap) (kb : NKids 0 w r.body.kids ab) (f0 : r.pat.text.size ≤ maxLen ∧ r.pat.kids.length ≤ maxLen) (f1 : r.body.text.size ≤ maxLen ∧ r.body.kids.length ≤ maxLen) (h0 : 0 ≤ left) (h1 : left ≤ 1048576) :
    Calls Try.prog 32 #[ruV r ap cp ab cb, .int .i64 left] w fun e w' => e = .returned (.int .i64 (leftOf left (RuD.cost r))) ∧ Below w.heap.size w w' := by
  have HP := Lib.hid (fun W l h1 h2 h3 => szNode_any r.pat ap cp l W h1 f0.1 f0.2 h2 h3)
  have HQ := Lib.hid (fun W l h1 h2 h3 => szNode_any r.body ab cb l W h1 f1.1 f1.2 h2 h3)
  have KP := Lib.hid kp
  have KB := Lib.hid kb
  have HC : Hid (RuD.cost r = NT.cost r.pat + NT.cost r.body) := Lib.hid rfl
  clear kp kb f0 f1
  have HB := Lib.hid (show ∀ o, Below w.heap.size w (w.alloc o) from fun o => (Below.refl w.heap.size w).alloc (Nat.le_refl _) _)
  generalize NT.cost r.pat = x at *
  generalize NT.cost r.body = y at *
  generalize RuD.cost r = z at *
  unfold ruV ndV at *
  go_enter Try.func32, Try.ntmps32
  go_wp2_with fail
  refine (HP.out _ left (KP.out.kept (Nat.le_refl _) (HB.out _)) h0 h1).mono ?_
  rintro e w1 ⟨rfl, hb1⟩
  have B1 := Lib.hid ((HB.out _).trans (hb1.mono (HB.out _).size))
  obtain ⟨hc1, _⟩ := bcellR hb1
  have KB1 := Lib.hid ((KB.out.kept (Nat.le_refl _) (HB.out _)).kept (Nat.le_refl _) hb1)
  clear hb1
  by_cases c : left < (x : Nat)
  · rw [leftOf_neg c]
    go_wp2_with fail
    go_ret
    exact ⟨ret_int (leftOf_neg (by rw [HC.out]; omega)).symm, B1.out⟩
  · have c3 : ¬ (left - (x : Nat) < 0) := by omega
    rw [leftOf_pos (by omega)]
    go_wp2_with fail
    refine (HQ.out _ _ KB1.out (by omega) (by omega)).mono ?_
    rintro e w2 ⟨rfl, hb2⟩
    have B2 := Lib.hid (B1.out.trans (hb2.mono B1.out.size))
    clear hb2
    by_cases c2 : left - (x : Nat) < (y : Nat)
    · rw [leftOf_neg c2]
      go_wp2_with fail
      go_ret
      exact ⟨ret_int (leftOf_neg (by rw [HC.out]; omega)).symm, B2.out⟩
    · have c4 : ¬ (left - (x : Nat) - (y : Nat) < 0) := by omega
      rw [leftOf_pos (by omega)]
      go_wp2_with fail
      go_ret
      exact ⟨ret_int (by rw [leftOf_pos (by rw [HC.out]; omega), HC.out]; omega), B2.out⟩
end Go.Proofs.Ytghmkfehohgmgaa.kit
