/-
  Contracts of laws.toRuleS, laws.eqRule and laws.eqRuleS over this seat's translation: a program is copied into new memory, two copies of one are told to be the same. Conditions: each theorem names its own.
-/
import Derived.Test.YtghmkfehohgmgaaNd6
import Derived.Laws.IdiomCopy
namespace Go.Proofs.Ytghmkfehohgmgaa.kit
open Go.ChangeShapes Go.WideShapes Go.ChangeAt Go.RowKit
set_option linter.unusedVariables false

theorem sc_size (b : Nat) : ∀ (vs : List Value) (o : Nat) (w : World), (w.setCells b o vs).heap.size = w.heap.size
  | [], _, _ => rfl
  | v :: r, o, w => by rw [World.setCells, sc_size b r]; simp
theorem sc_frozen (b : Nat) : ∀ (vs : List Value) (o : Nat) (w : World) (p : Addr), (w.setCells b o vs).frozen? p = w.frozen? p
  | [], _, _, _ => rfl
  | v :: r, o, w, p => by rw [World.setCells, sc_frozen b r, World.frozen?_setCell]
theorem sc_below {B : Nat} (b : Nat) (hb : B ≤ b) : ∀ (vs : List Value) (o : Nat) (w w' : World), Below B w w' → Below B w (w'.setCells b o vs)
  | [], _, _, _, h => h
  | v :: r, o, w, w', h => by rw [World.setCells]; exact sc_below b hb r _ _ _ (h.setCell (p := ⟨b, o, none⟩) hb v)
theorem sc9 (w : World) (g o : Nat) (v0 v1 v2 v3 v4 v5 v6 v7 v8 : Value) : w.setCells g o [v0, v1, v2, v3, v4, v5, v6, v7, v8] = (((((((((w.setCell ⟨g, o, none⟩ v0).setCell ⟨g, o + 1, none⟩ v1).setCell ⟨g, o + 2, none⟩ v2).setCell ⟨g, o + 3, none⟩ v3).setCell ⟨g, o + 4, none⟩ v4).setCell ⟨g, o + 5, none⟩ v5).setCell ⟨g, o + 6, none⟩ v6).setCell ⟨g, o + 7, none⟩ v7).setCell ⟨g, o + 8, none⟩ v8) := rfl
/-- A rule's nine values. -/
def ruL (r : RuD) (ap : Option Addr) (cp : Nat) (ab : Option Addr) (cb : Nat) : List Value :=
  [.int .i64 r.when, .int .i64 r.pat.kind, .int .i64 r.pat.num, .string r.pat.text, .slice ap r.pat.kids.length cp, .int .i64 r.body.kind, .int .i64 r.body.num, .string r.body.text, .slice ab r.body.kids.length cb]
/-- A slice of which the first k have been laid: the block may be written whole. -/
def RHalf (g n k : Nat) (ts : List RuD) (w : World) : Prop := g < w.heap.size ∧ (∀ j, j < n * 9 → (w.cell? ⟨g, j, none⟩).isSome = true ∧ w.frozen? ⟨g, j, none⟩ = false) ∧
  ∀ i (hi : i < ts.length), i < k → ∃ ap cp ab cb, RElem g w (some ⟨g, 0, none⟩) i ts[i] ap cp ab cb ∧ NKids (g + 1) w ts[i].pat.kids ap ∧ NKids (g + 1) w ts[i].body.kids ab
theorem RHalf.kept {g n k : Nat} {ts : List RuD} {w w' : World} (h : RHalf g n k ts w) (hb : Below w.heap.size w w') : RHalf g n k ts w' := by
  obtain ⟨h0, h1, h2⟩ := h
  refine ⟨Nat.lt_of_lt_of_le h0 hb.size, fun j hj => ?_, fun i hi hk => ?_⟩
  · rw [hb.cell (p := ⟨g, j, none⟩) h0, hb.frozen (p := ⟨g, j, none⟩) h0]; exact h1 j hj
  · obtain ⟨ap, cp, ab, cb, e, kp, kb⟩ := h2 i hi hk
    exact ⟨ap, cp, ab, cb, e.of hb.size fun b o _ hl => hb.cell (p := ⟨b, o, none⟩) hl, kp.kept (Nat.le_refl _) hb, kb.kept (Nat.le_refl _) hb⟩
theorem RHalf.all {g k : Nat} {ts : List RuD} {w : World} (h : RHalf g k k ts w) (hk : k = ts.length) : Rules g w ts (some ⟨g, 0, none⟩) := by
  obtain ⟨h0, h1, h2⟩ := h
  subst hk
  intro i hi
  obtain ⟨ap, cp, ab, cb, e, kp, kb⟩ := h2 i hi hi
  exact ⟨ap, cp, ab, cb, e, kp.mono (by omega), kb.mono (by omega)⟩
theorem RHalf.store {g n k : Nat} {ts : List RuD} {w : World} (h : RHalf g n k ts w) (hk : k < ts.length) (hn : ts.length = n) (ap : Option Addr) (cp : Nat) (ab : Option Addr) (cb : Nat) (kp : NKids (g + 1) w ts[k].pat.kids ap) (kb : NKids (g + 1) w ts[k].body.kids ab)
    (f0 : ts[k].pat.text.size ≤ maxLen ∧ ts[k].pat.kids.length ≤ maxLen) (f1 : ts[k].body.text.size ≤ maxLen ∧ ts[k].body.kids.length ≤ maxLen) :
    RHalf g n (k + 1) ts (w.setCells g (k * 9) (ruL ts[k] ap cp ab cb)) := by
  obtain ⟨h0, h1, h2⟩ := h
  have hlen : (ruL ts[k] ap cp ab cb).length = 9 := rfl
  have hs : ∀ j, j < (ruL ts[k] ap cp ab cb).length → (w.cell? ⟨g, k * 9 + j, none⟩).isSome = true := fun j hj => (h1 (k * 9 + j) (by rw [hlen] at hj; omega)).1
  have hz := sc_size g (ruL ts[k] ap cp ab cb) (k * 9) w
  have hin := World.cell?_setCells_in g (ruL ts[k] ap cp ab cb) (k * 9) w hs
  have hout : ∀ (b j : Nat), (b ≠ g ∨ j < k * 9 ∨ k * 9 + 9 ≤ j) → (w.setCells g (k * 9) (ruL ts[k] ap cp ab cb)).cell? ⟨b, j, none⟩ = w.cell? ⟨b, j, none⟩ := fun b j hj =>
    World.cell?_setCells_out g _ _ w ⟨b, j, none⟩ (fun e _ => by rw [hlen]; rcases hj with h | h; exact absurd e h; exact h)
  refine ⟨by rw [hz]; exact h0, fun j hj => ⟨?_, by rw [sc_frozen]; exact (h1 j hj).2⟩, fun i hi hik => ?_⟩
  · by_cases c : j < k * 9 ∨ k * 9 + 9 ≤ j
    · rw [hout g j (.inr c)]; exact (h1 j hj).1
    · obtain ⟨d, rfl⟩ : ∃ d, j = k * 9 + d := ⟨j - k * 9, by omega⟩
      rw [hin d (by rw [hlen]; omega)]; rfl
  · by_cases c : i = k
    · subst c
      refine ⟨ap, cp, ab, cb, ⟨g, 0, rfl, Nat.le_refl _, by rw [hz]; exact h0, ?_, ⟨?_, ?_, ?_, ?_⟩, ⟨?_, ?_, ?_, ?_⟩, f0, f1⟩, ?_, ?_⟩
      · rw [Nat.zero_add]; exact hin 0 (by rw [hlen]; omega)
      · rw [Nat.zero_add]; exact hin 1 (by rw [hlen]; omega)
      · rw [Nat.zero_add]; exact hin 2 (by rw [hlen]; omega)
      · rw [Nat.zero_add]; exact hin 3 (by rw [hlen]; omega)
      · rw [Nat.zero_add]; exact hin 4 (by rw [hlen]; omega)
      · rw [Nat.zero_add]; exact hin 5 (by rw [hlen]; omega)
      · rw [Nat.zero_add]; exact hin 6 (by rw [hlen]; omega)
      · rw [Nat.zero_add]; exact hin 7 (by rw [hlen]; omega)
      · rw [Nat.zero_add]; exact hin 8 (by rw [hlen]; omega)
      · exact kp.of (by rw [hz]; exact Nat.le_refl _) fun b o hb _ => ⟨hout b o (.inl (by omega)), sc_frozen ..⟩
      · exact kb.of (by rw [hz]; exact Nat.le_refl _) fun b o hb _ => ⟨hout b o (.inl (by omega)), sc_frozen ..⟩
    · obtain ⟨ap', cp', ab', cb', ⟨b, o, e, e0, e1, c0, ⟨p0, p1, p2, p3⟩, ⟨q0, q1, q2, q3⟩, g0, g1⟩, kp', kb'⟩ := h2 i hi (by omega)
      cases e
      have hq : ∀ d, d < 9 → (w.setCells g (k * 9) (ruL ts[k] ap cp ab cb)).cell? ⟨g, 0 + i * 9 + d, none⟩ = w.cell? ⟨g, 0 + i * 9 + d, none⟩ := fun d hd => hout g _ (.inr (by omega))
      refine ⟨ap', cp', ab', cb', ⟨g, 0, rfl, e0, by rw [hz]; exact e1, (hq 0 (by omega)).trans c0, ⟨(hq 1 (by omega)).trans p0, (hq 2 (by omega)).trans p1, (hq 3 (by omega)).trans p2, (hq 4 (by omega)).trans p3⟩, ⟨(hq 5 (by omega)).trans q0, (hq 6 (by omega)).trans q1, (hq 7 (by omega)).trans q2, (hq 8 (by omega)).trans q3⟩, g0, g1⟩, ?_, ?_⟩
      · exact kp'.of (by rw [hz]; exact Nat.le_refl _) fun b o hb _ => ⟨hout b o (.inl (by omega)), sc_frozen ..⟩
      · exact kb'.of (by rw [hz]; exact Nat.le_refl _) fun b o hb _ => ⟨hout b o (.inl (by omega)), sc_frozen ..⟩
theorem infoRu : (Try.prog.info? 60).map (fun i => (i.zero, i.size, i.bytes)) = some (some (.agg #[.int .i64 0, .int .i64 0, .int .i64 0, .string ⟨#[]⟩, .slice none 0 0, .int .i64 0, .int .i64 0, .string ⟨#[]⟩, .slice none 0 0]), 9, 120) := by kernel_rfl
theorem make_resR (w : World) (n : Nat) (hn : n ≤ 1048576) : ∃ cs : Array Value, cs.size = n * 9 ∧
    (Instr.makeSlice 25 (.int .i64 (n : Int)) (.int .i64 (n : Int))).run Try.prog w = .ok (.slice (some ⟨w.heap.size, 0, none⟩) n n) (w.alloc (.cells cs 60)) := by
  obtain ⟨i0, hi, hz0, hz1, hz2⟩ := info_parts infoRu
  have h := run_make (P := Try.prog) w 25 60 i0 _ Try.underlying25 hi hz0 .i64 .i64 n n (by omega) (by omega) (by rw [hz2]; omega) (by omega)
  rw [hz1] at h
  exact ⟨_, size_madeCells _ _, by simpa using h⟩
theorem RHalf.start {w : World} {n : Nat} {cs : Array Value} {e : TypeId} (hcs : cs.size = n * 9) (ts : List RuD) : RHalf w.heap.size n 0 ts (w.alloc (.cells cs e)) := by
  refine ⟨by simp, fun j hj => ⟨?_, ?_⟩, fun i hi hk => by omega⟩
  · rw [World.cell?_alloc_at _ _ _ _ rfl]
    simp [show j < cs.size by omega]
  · have hb : (w.alloc (.cells cs e)).heap[w.heap.size]? = some (.cells cs e) := heap_alloc_new w _
    simp only [World.frozen?, hb]
    simp
set_option maxRecDepth 100000 in
set_option maxHeartbeats 1000000 in
theorem toRuleS_any (ts : List RuD) (a : Option Addr) (cap : Nat) (w : World) (hk : Rules 0 w ts a) (hbill : RuD.bill ts ≤ 1048576) :
    Calls Try.prog 11 #[.slice a ts.length cap] w fun e w' => ∃ (a' : Option Addr) (cap' : Nat), e = .returned (.slice a' ts.length cap') ∧ Rules w.heap.size w' ts a' ∧ Below w.heap.size w w' := by
  have HK := Lib.hid hk
  clear hk
  have hl : ts.length ≤ 1048576 := by simp only [RuD.bill] at hbill; omega
  obtain ⟨cs, hcs, hmk⟩ := make_resR w ts.length hl
  have H0 := Lib.hid (RHalf.start (w := w) (e := 60) hcs ts)
  go_enter Try.func11, Try.ntmps11
  go_wp2_with fail
  go_loopw [4] (fun i wr => ∃ k : Nat, k ≤ ts.length ∧ i = .int .i64 (k : Int) ∧ RHalf w.heap.size ts.length k ts wr ∧ Below w.heap.size w wr) (fun i _ => ts.length - (intOf i).toNat)
  case atStart => exact ⟨0, Nat.zero_le _, rfl, H0.out, (Below.refl _ _).alloc (Nat.le_refl _) _⟩
  case round =>
    obtain ⟨k, hkl, rfl, hh, hb⟩ := hrel
    have HB := Lib.hid hb
    have HH := Lib.hid hh
    clear hb hh
    by_cases hlt : k < ts.length
    · obtain ⟨ap, cp, ab, cb, he, kp, kb⟩ := (HK.out.kept (Nat.le_refl _) HB.out) k hlt
      obtain ⟨b, o, rfl, _, hbl, e0, ⟨p0, p1, p2, p3⟩, ⟨q0, q1, q2, q3⟩, f0, f1⟩ := he
      replace p1 : wr.cell? ⟨b, o + k * 9 + 2, none⟩ = _ := p1
      replace p2 : wr.cell? ⟨b, o + k * 9 + 3, none⟩ = _ := p2
      replace p3 : wr.cell? ⟨b, o + k * 9 + 4, none⟩ = _ := p3
      replace q1 : wr.cell? ⟨b, o + k * 9 + 6, none⟩ = _ := q1
      replace q2 : wr.cell? ⟨b, o + k * 9 + 7, none⟩ = _ := q2
      replace q3 : wr.cell? ⟨b, o + k * 9 + 8, none⟩ = _ := q3
      have hcost : RuD.cost ts[k] ≤ 1048576 := by
        have h1 := RuD.costs_take ts k hlt
        have h2 := RuD.costs_le ts (k + 1)
        simp only [RuD.bill] at hbill; omega
      have HN := Lib.hid (fun W (hw : RHalf w.heap.size ts.length k ts W) ap cp ab cb kp kb => hw.store hlt rfl ap cp ab cb kp kb f0 f1)
      generalize ts[k] = t at *
      have HO := Lib.hid (toRule_any t ap cp ab cb wr kp kb hcost)
      unfold ruV at HO
      clear kp kb f0 f1
      go_wp2_with fail
      refine HO.out.mono ?_
      rintro e w1 ⟨ap2, cp2, ab2, cb2, rfl, kp2, kb2, hb1⟩
      have hh1 := HH.out.kept hb1
      have hg := HH.out.1
      have hcell : ∀ d, d < 9 → ∃ y, w1.cell? ⟨w.heap.size, k * 9 + d, none⟩ = some y := fun d hd => Option.isSome_iff_exists.1 (hh1.2.1 (k * 9 + d) (by omega)).1
      have hfrz : ∀ d, d < 9 → w1.frozen? ⟨w.heap.size, k * 9 + d, none⟩ = false := fun d hd => (hh1.2.1 (k * 9 + d) (by omega)).2
      obtain ⟨y0, c0⟩ := hcell 0 (by omega)
      obtain ⟨y1, c1⟩ := hcell 1 (by omega)
      obtain ⟨y2, c2⟩ := hcell 2 (by omega)
      obtain ⟨y3, c3⟩ := hcell 3 (by omega)
      obtain ⟨y4, c4⟩ := hcell 4 (by omega)
      obtain ⟨y5, c5⟩ := hcell 5 (by omega)
      obtain ⟨y6, c6⟩ := hcell 6 (by omega)
      obtain ⟨y7, c7⟩ := hcell 7 (by omega)
      obtain ⟨y8, c8⟩ := hcell 8 (by omega)
      replace c0 : w1.cell? ⟨w.heap.size, k * 9, none⟩ = _ := c0
      have z0 : w1.frozen? ⟨w.heap.size, k * 9, none⟩ = false := hfrz 0 (by omega)
      have z1 := hfrz 1 (by omega)
      have z2 := hfrz 2 (by omega)
      have z3 := hfrz 3 (by omega)
      have z4 := hfrz 4 (by omega)
      have z5 := hfrz 5 (by omega)
      have z6 := hfrz 6 (by omega)
      have z7 := hfrz 7 (by omega)
      have z8 := hfrz 8 (by omega)
      have hF := HN.out w1 hh1 ap2 cp2 ab2 cb2 (kp2.mono (by omega)) (kb2.mono (by omega))
      have hB1 := sc_below w.heap.size (Nat.le_refl _) (ruL t ap2 cp2 ab2 cb2) (k * 9) _ _ (HB.out.trans (hb1.mono HB.out.size))
      unfold ruL at hF hB1
      rw [sc9] at hF hB1
      have HF := Lib.hid hF
      have HB1 := Lib.hid hB1
      clear hF hB1
      clear kp2 kb2 hb1 hh1 hcell hfrz HN
      go_wp2_with fail
      go_roundw
      case rel => exact ⟨k + 1, by omega, by go_num, HF.out, HB1.out⟩
      case measure => simp [intOf]; omega
    · obtain rfl : k = ts.length := by omega
      go_wp2_with fail
      go_ret
      exact ⟨_, _, rfl, HH.out.all rfl, HB.out⟩
end Go.Proofs.Ytghmkfehohgmgaa.kit
