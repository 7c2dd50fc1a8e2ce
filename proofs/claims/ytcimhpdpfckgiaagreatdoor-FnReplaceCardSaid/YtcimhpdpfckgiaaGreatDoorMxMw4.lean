/-
  Contract of set's add over this seat's translation. Conditions: each theorem names its own.
-/
import Derived.Test.YtcimhpdpfckgiaaGreatDoorMxMw2
import Derived.StillTailTactics
import Derived.Laws.BitsLemmas
import Derived.Deep.LoopGhost
set_option linter.unusedVariables false
open Go.ChangeShapes Go.WideShapes Go.ChangeAt Go.RowKit
namespace Go.Proofs.YtcimhpdpfckgiaaGreatDoor.kit
theorem wrap_u64 (n : Int) (h0 : 0 ≤ n) (h : n < 2 ^ 64) : IntKind.u64.wrap n = n := by
 simp [IntKind.wrap, IntKind.bits, IntKind.signed]; omega
theorem bits_or64 (x y : Nat) (hx : x < 2 ^ 64) (hy : y < 2 ^ 64) : bits .or .u64 (x : Int) (y : Int) = ((x ||| y : Nat) : Int) := (bits_nat .u64 64 (by decide) (fun n h0 h => wrap_u64 n h0 h) x y hx hy).2
theorem bits_and64 (x y : Nat) (hx : x < 2 ^ 64) (hy : y < 2 ^ 64) : bits .and .u64 (x : Int) (y : Int) = ((x &&& y : Nat) : Int) := (bits_nat .u64 64 (by decide) (fun n h0 h => wrap_u64 n h0 h) x y hx hy).1
theorem OwnW.stored {B : Nat} {w : World} {g n c : Nat} {ws : List Nat} (h : OwnW B w (.slice (some ⟨g, 0, none⟩) n c) ws) (hn : n = ws.length) (k y : Nat) : OwnW B (w.setCell ⟨g, k, none⟩ (uV y)) (.slice (some ⟨g, 0, none⟩) n c) (ws.set k y) := by
 subst hn
 have h2 : w.ownsRow B 106 1 (.slice (some ⟨g, 0, none⟩) ws.length c) ws.length (ws.map uV) := h
 have := (h2.stored k (uV y)).1
 unfold OwnW
 rw [List.length_set, List.map_set]
 exact this
theorem SetAt.stored {B q o sk : Nat} {ws : List Nat} {w : World} {g n c : Nat} {r : Option Nat} (h : SetAt B q o sk ws r w) (hr : r = some g) (k y : Nat) :
 SetAt B q o sk (ws.set k y) r (w.setCell ⟨g, k, none⟩ (uV y)) ∧ SetChg q o r r w (w.setCell ⟨g, k, none⟩ (uV y)) := by
 subst hr
 obtain ⟨a, c, h1, ho, hr⟩ := h.c1
 have hne : q ≠ g := fun e => h.ne (by rw [e])
 rcases ho.row with ⟨hv, _⟩ | ⟨b, c', hv, _, _⟩
 · rw [hv] at hr; simp [Value.ownBlock] at hr
 · rw [Value.slice.injEq] at hv
   obtain ⟨rfl, _, rfl⟩ := hv
   simp only [Value.ownBlock, Option.some.injEq] at hr
   subst hr
   refine ⟨⟨?_, ⟨_, c, ?_, (by have := ho.stored rfl k y; rw [List.length_set]; exact this), rfl⟩, by rw [World.frozen?_setCell]; exact h.f0, by rw [World.frozen?_setCell]; exact h.f1, h.ne⟩, ?_⟩
   · rw [World.cell?_setCell_other w _ _ _ (by intro e; injection e; omega)]; exact h.c0
   · rw [World.cell?_setCell_other w _ _ _ (by intro e; injection e; omega), List.length_set]; exact h1
   · refine ⟨rfl, rfl, rfl, by simp [World.setCell], fun j _ hj hr => Below.heap_setCell _ _ _ _ (fun e => hr (by rw [e])), fun j _ _ => ?_, fun j => World.frozen?_setCell _ _ _ _, fun k hk => .inl hk⟩
     rw [World.cell?_setCell_other w _ _ _ (by intro e; injection e; omega)]
theorem SetAt.word {B q o sk : Nat} {ws : List Nat} {r : Option Nat} {w : World} (h : SetAt B q o sk ws r w) (k : Nat) (hk : k < ws.length) :
 ∃ g c, r = some g ∧ w.cell? ⟨q, o + 1, none⟩ = some (.slice (some ⟨g, 0, none⟩) ws.length c) ∧ w.cell? ⟨g, k, none⟩ = some (.int .u64 (ws[k] : Int)) ∧ w.frozen? ⟨g, k, none⟩ = false := by
 obtain ⟨a, c, h1, ho, hr⟩ := h.c1
 rcases ho.row with ⟨hv, he⟩ | ⟨b, c', hv, _, hrow⟩
 · rw [he] at hk; simp at hk
 · rw [Value.slice.injEq] at hv
   obtain ⟨rfl, _, rfl⟩ := hv
   refine ⟨b, c, hr.symm, h1, hrow.cell k hk, ?_⟩
   have h2 : w.ownsRow B 106 1 (.slice (some ⟨b, 0, none⟩) ws.length c) ws.length (ws.map uV) := ho
   exact h2.frozenAt k
def GrowPost (B q o sk : Nat) (ws : List Nat) (r : Option Nat) (N : Nat) (M : Nat → Prop) (w : World) (en : Ending) (w' : World) : Prop :=
 (∃ v, en = .returned v) ∧ ∃ sk' ws' r', SetAt B q o sk' ws' r' w' ∧ SetChg q o r r' w w' ∧ SetB N sk' ws' ∧ ∀ j, memS sk' ws' j ↔ M j
theorem set_bd {N sk k x : Nat} {ws : List Nat} (h : sk + ws.length ≤ N) (hl : ∀ x ∈ ws, x < 2 ^ 64) (hk : k < ws.length) (hx : x < 2 ^ 64) (hs : ∃ j, memS sk (ws.set k (ws.getD k 0 ||| x)) j) : SetB N sk (ws.set k (ws.getD k 0 ||| x)) where
 le := by rw [List.length_set]; exact h
 lt := fun y hy => by
  rcases List.mem_or_eq_of_mem_set hy with a | a
  · exact hl y a
  · rw [a]
    refine Nat.or_lt_two_pow ?_ hx
    rw [List.getD_eq_getElem?_getD, List.getElem?_eq_getElem hk]
    exact hl _ (List.getElem_mem hk)
 some := .inr hs
set_option maxRecDepth 100000 in
set_option maxHeartbeats 1000000 in
theorem add_any (B q o sk : Nat) (ws : List Nat) (r : Option Nat) (N e : Nat) (w : World) (h : SetAt B q o sk ws r w) (hb : SetB N sk ws) (hN : N ≤ 1048576) (he : e / 64 < N) (hB : B ≤ w.heap.size) :
 Calls Tryz.prog 47 #[.pointer (some ⟨q, o, none⟩), .int .i64 (e : Int)] w (GrowPost B q o sk ws r N (fun j => memS sk ws j ∨ j = e) w) := by
 obtain ⟨wd, hwd⟩ : ∃ wd, wd = e / 64 := ⟨_, rfl⟩
 obtain ⟨bt, hbt⟩ : ∃ bt, bt = e % 64 := ⟨_, rfl⟩
 have hle := hb.le
 have hcl := cov_len sk ws wd (wd + 1) (by omega)
 have HC := qd (show ∀ W, SetAt B q o sk ws r W → B ≤ W.heap.size → Calls Tryz.prog 60 #[.pointer (some ⟨q, o, none⟩), .int .i64 (wd : Int), .int .i64 ((wd + 1 : Nat) : Int)] W (fun en w' => (∃ v, en = .returned v) ∧ ∃ r', SetAt B q o (covSk sk ws wd) (covWs sk ws wd (wd + 1)) r' w' ∧ SetChg q o r r' W w') from fun W hS hB => cover_any B q o sk ws r wd (wd + 1) W hS (by omega) (by omega) (by omega) hB)
 obtain ⟨k, hk⟩ : ∃ k, k = wd - covSk sk ws wd := ⟨_, rfl⟩
 have hkl : k < (covWs sk ws wd (wd + 1)).length := by omega
 have HM := qd (fun j => (memS_or (covSk sk ws wd) (covWs sk ws wd (wd + 1)) k (2 ^ bt) hkl j).trans (by
  rw [cov_mem, show covSk sk ws wd + k = wd by omega, hbt, memS_one wd e (by omega)]))
 have hx2 : 2 ^ bt < 2 ^ 64 := Nat.pow_lt_pow_right (by omega) (by omega)
 have HSB := qd (set_bd (N := N) (x := 2 ^ bt) (by omega) (cov_lt sk ws wd (wd + 1) hb.lt) hkl hx2 ⟨e, (HM.out e).2 (.inr rfl)⟩)
 have HCL := qd (cov_lt sk ws wd (wd + 1) hb.lt)
 have hskb : covSk sk ws wd + k = wd ∧ wd ≤ 1048576 ∧ (covWs sk ws wd (wd + 1)).length ≤ 1048576 := by omega
 have hq : (e : Int) / 64 = (wd : Int) := by omega
 have hm : (e : Int) % 64 = (bt : Int) := by omega
 have hm2 : Int.tmod (e : Int) 64 = (bt : Int) := by rw [Int.tmod_eq_emod_of_nonneg (by omega)]; omega
 have HS := qd h
 have HBB := qd hB
 have HX := qd hx2
 generalize covSk sk ws wd = sk2 at *
 generalize covWs sk ws wd (wd + 1) = ws2 at *
 clear h hb hle hcl hk hB
 have hbt64 : bt < 64 := by omega
 clear hwd hbt he
 unfold GrowPost
 go_enter Tryz.func47, Tryz.ntmps47
 go_wp2_with fail
 refine (HC.out _ HS.out HBB.out).mono ?_
 rintro en w1 ⟨⟨_, rfl⟩, r1, hS1, hC1⟩
 have HS1 := qd hS1
 have HC1 := qd hC1
 clear hS1 hC1
 obtain ⟨g, c1, hr1, d1, d2, d3⟩ := HS1.out.word k hkl
 have HR1 := qd hr1
 have c0 := HS1.out.c0
 have f0 := HS1.out.f0
 have f1 := HS1.out.f1
 obtain ⟨n2, hn2⟩ : ∃ n2, n2 = ws2.length := ⟨_, rfl⟩
 have HGD := qd (show ws2.getD k 0 = ws2[k] by rw [List.getD_eq_getElem?_getD, List.getElem?_eq_getElem hkl]; rfl)
 have HXL := qd (HCL.out ws2[k] (List.getElem_mem hkl))
 generalize ws2[k] = x at *
 rw [← hn2] at d1 hkl
 have HN2 := qd hn2
 have hs1 : IntKind.i64.wrap ((wd : Int) - (sk2 : Int)) = (k : Int) := by rw [IntKind.wrap_i64]; omega
 have hs2 : (wd : Int) - (sk2 : Int) = (k : Int) := by omega
 have i0 : (0 : Int) ≤ (k : Int) := by omega
 have i1 : (k : Int) < (n2 : Int) := by omega
 obtain ⟨p, hp⟩ : ∃ p, p = 2 ^ bt := ⟨_, rfl⟩
 obtain ⟨y, hy⟩ : ∃ y, y = x ||| p := ⟨_, rfl⟩
 have hsh : IntKind.u64.wrap ((2 : Int) ^ bt) = (p : Int) := by
  have hp2 : ((2 : Int) ^ bt) = (p : Int) := by rw [hp]; simp
  rw [hp2, wrap_u64 _ (by omega) (by have := HX.out; omega)]
 have hor : bits .or .u64 (x : Int) (p : Int) = (y : Int) := by rw [hy]; exact bits_or64 x p HXL.out (by rw [hp]; exact HX.out)
 have HY := qd (show y = ws2.getD k 0 ||| 2 ^ bt by rw [hy, HGD.out, hp])
 clear hp hy
 clear hr1 hn2 hskb hkl hs2
 go_wp2_with fail
 go_still_tail 17, (by kernel_rfl)
 change wpList _ _ _ _ _ w1.drew
 have HP := qd ((HS1.out.kept (Below.refl _ w1).drew).stored (n := n2) (c := c1) HR1.out k y)
 go_wp2_with fail
 go_end0
 refine ⟨⟨_, rfl⟩, sk2, ws2.set k y, r1, HP.out.1, (HC1.out.trans (.of_below HS1.out.lt (Below.refl _ w1).drew)).trans HP.out.2, by rw [HY.out]; exact HSB.out, by rw [HY.out]; exact HM.out⟩
def OffS (q : Nat) (r : Option Nat) (a : Option Addr) : Prop := ∀ p, a = some p → p.block ≠ q ∧ r ≠ some p.block
theorem WordsAt.chg {w w' : World} {ws : List Nat} {a : Option Addr} {q o : Nat} {r r' : Option Nat} (h : WordsAt w ws a) (hc : SetChg q o r r' w w') (hf : OffS q r a) : WordsAt w' ws a := fun j hj => by
 obtain ⟨b, e, h1, h2⟩ := h j hj
 obtain ⟨x, y⟩ := hf _ e
 exact ⟨b, e, Nat.lt_of_lt_of_le h1 hc.size, (cob (a := ⟨b, j, none⟩) (hc.block b h1 x (fun e => y e.symm))).trans h2⟩
theorem memS_skip {sk : Nat} {ws : List Nat} {j : Nat} (h : ws = []) : ¬ memS sk ws j := by subst h; exact memS_nil sk j
set_option maxRecDepth 100000 in
set_option maxHeartbeats 2000000 in
theorem join_any (B q o sk : Nat) (ws : List Nat) (r : Option Nat) (N sk2 : Nat) (ws2 : List Nat) (a2 : Option Addr) (c2 : Nat) (w : World) (h : SetAt B q o sk ws r w) (hb : SetB N sk ws) (hb2 : SetB N sk2 ws2) (hN : N ≤ 1048576) (hv : WordsAt w ws2 a2) (hoff : OffS q r a2) (hB : B ≤ w.heap.size) :
 Calls Tryz.prog 95 #[.pointer (some ⟨q, o, none⟩), setV sk2 a2 ws2.length c2] w (GrowPost B q o sk ws r N (fun j => memS sk ws j ∨ memS sk2 ws2 j) w) := by
 have hle := hb.le
 have hle2 := hb2.le
 obtain ⟨n2, hn2⟩ : ∃ n2, n2 = ws2.length := ⟨_, rfl⟩
 have HN2 := qd hn2
 rw [← hn2]
 have HBX := qd (show ∀ o, Below w.heap.size w (w.alloc o) from fun o => (Below.refl _ w).alloc (Nat.le_refl _) o)
 have hq := h.lt
 by_cases c0 : ws2 = []
 · have HM := qd (fun j => (memS_skip (sk := sk2) (j := j) c0))
   have HS := qd h
   have HSB := qd hb
   have hn0 : n2 = 0 := by rw [hn2, c0]; rfl
   subst hn0
   have he0 : decide ((0 : Nat) = 0) = true := rfl
   unfold setV GrowPost
   clear h hb hb2 hv hle hle2 hn2 c0
   go_enter Tryz.func95, Tryz.ntmps95
   go_wp2_with fail
   refine (setEmpty_any sk2 a2 0 c2 _ (by omega)).mono ?_
   rintro en w1 ⟨rfl, hb1⟩
   have HB1 := qd ((HBX.out _).trans (hb1.mono (by simp)))
   clear hb1
   go_wp2_with fail
   refine bodyPost_ret (results_none rfl _ _ _) rfl ?_
   exact ⟨⟨_, rfl⟩, sk, ws, r, HS.out.kept HB1.out, .of_below hq HB1.out, HSB.out, fun j => ⟨.inl, fun h => h.elim id (fun x => absurd x (HM.out j))⟩⟩
 · obtain ⟨sk1, hsk1⟩ : ∃ sk1, sk1 = covSk sk ws sk2 := ⟨_, rfl⟩
   obtain ⟨ws1, hws1⟩ : ∃ ws1, ws1 = covWs sk ws sk2 (sk2 + n2) := ⟨_, rfl⟩
   have hcl := cov_len sk ws sk2 (sk2 + n2) (by omega)
   rw [← hsk1, ← hws1] at hcl
   have HC := qd (show ∀ W, SetAt B q o sk ws r W → B ≤ W.heap.size → Calls Tryz.prog 60 #[.pointer (some ⟨q, o, none⟩), .int .i64 (sk2 : Int), .int .i64 ((sk2 + n2 : Nat) : Int)] W (fun en w' => (∃ v, en = .returned v) ∧ ∃ r', SetAt B q o sk1 ws1 r' w' ∧ SetChg q o r r' W w') from fun W hS hB => by
    rw [hsk1, hws1]
    exact cover_any B q o sk ws r sk2 (sk2 + n2) W hS (by omega) (by omega) (by omega) hB)
   have HM0 := qd (show ∀ j, memS sk1 ws1 j ↔ memS sk ws j from fun j => by rw [hsk1, hws1]; exact cov_mem sk ws sk2 (sk2 + n2) j)
   have HL1 := qd (show ∀ x ∈ ws1, x < 2 ^ 64 from by rw [hws1]; exact cov_lt sk ws sk2 (sk2 + n2) hb.lt)
   have HSM := qd (show ∃ j, memS sk2 ws2 j from hb2.some.resolve_left c0)
   have HL2 := qd hb2.lt
   have hlen : sk1 ≤ sk2 ∧ sk2 + n2 ≤ sk1 + ws1.length ∧ sk1 + ws1.length ≤ N := by omega
   have HS := qd h
   have HV := qd hv
   have HOFF := qd hoff
   have HBB := qd hB
   have hn0 : n2 ≠ 0 := fun x => c0 (List.length_eq_zero_iff.1 (by rw [← hn2]; exact x))
   have he0 : decide (n2 = 0) = false := decide_eq_false hn0
   have hnb : n2 ≤ 1048576 := by omega
   obtain ⟨b2, ha2, hb2', hc2'⟩ := hv 0 (by omega)
   subst ha2
   clear hb2' hc2' h hb hb2 hv hle hle2 hcl hsk1 hws1 hoff hB hn2 c0
   have HLEN := qd hlen
   unfold setV GrowPost
   go_enter Tryz.func95, Tryz.ntmps95
   go_wp2_with fail
   refine (setEmpty_any sk2 (some ⟨b2, 0, none⟩) n2 c2 _ hnb).mono ?_
   rintro en w1 ⟨rfl, hb1⟩
   have e0 := (hb1.cell (p := ⟨w.heap.size, 0, none⟩) (by simp)).trans (show _ = some (Value.int .i64 (sk2 : Int)) from by rw [World.cell?_alloc_at _ _ _ _ rfl]; rfl)
   have e1 := (hb1.cell (p := ⟨w.heap.size, 1, none⟩) (by simp)).trans (show _ = some (Value.slice (some ⟨b2, 0, none⟩) n2 c2) from by rw [World.cell?_alloc_at _ _ _ _ rfl]; rfl)
   have hz1 : w.heap.size + 1 ≤ w1.heap.size := by have := hb1.size; simp at this; omega
   have HB1 := qd ((HBX.out _).trans (hb1.mono (by simp)))
   have HS1 := qd (HS.out.kept HB1.out)
   have HV1 := qd (HV.out.kept HB1.out)
   clear hb1
   have s1 : wrap64 ((sk2 : Int) + (n2 : Int)) = (sk2 : Int) + (n2 : Int) := by unfold wrap64; omega
   go_wp2_with fail
   refine (HC.out _ HS1.out (Nat.le_trans HBB.out (by omega))).mono ?_
   rintro en w2 ⟨⟨_, rfl⟩, r1, hS2, hC2⟩
   have hrz := hC2.row
   have hne : ∀ j, w2.cell? ⟨w.heap.size, j, none⟩ = w1.cell? ⟨w.heap.size, j, none⟩ := fun j => cob (a := ⟨w.heap.size, j, none⟩) (hC2.block w.heap.size (by omega) (by omega) (fun x => by have := HS.out.rlt _ x.symm; omega))
   have e0' := (hne 0).trans e0
   have e1' := (hne 1).trans e1
   have HV2 := qd (HV1.out.chg hC2 HOFF.out)
   have HOFF2 := qd (show OffS q r1 (some ⟨b2, 0, none⟩) from fun p hp => ⟨(HOFF.out p hp).1, fun x => by
    rcases hC2.row _ x with y | y
    · exact (HOFF.out p hp).2 y
    · cases hp
      obtain ⟨bb, e, hlt, _⟩ := HV1.out 0 (by have := HN2.out; omega)
      cases e
      simp only at y hlt
      omega⟩)
   have HBOX := qd (show r1 ≠ some w.heap.size ∧ q ≠ w.heap.size from ⟨fun x => by
    rcases hC2.row _ x with y | y
    · have := HS.out.rlt _ y; omega
    · omega, by omega⟩)
   have HS2 := qd hS2
   have HC2 := qd (SetChg.trans (.of_below hq HB1.out) hC2)
   have hz2 : w.heap.size + 1 ≤ w2.heap.size := Nat.le_trans hz1 hC2.size
   clear hS2 hC2 hrz hne e0 e1
   have HW0 := qd (show SetAt B q o sk1 ws1 r1 w2 ∧ SetChg q o r r1 w w2 ∧ WordsAt w2 ws2 (some ⟨b2, 0, none⟩) ∧ w.heap.size + 1 ≤ w2.heap.size ∧ w2.cell? ⟨w.heap.size, 0, none⟩ = some (.int .i64 (sk2 : Int)) ∧ w2.cell? ⟨w.heap.size, 1, none⟩ = some (.slice (some ⟨b2, 0, none⟩) n2 c2) from ⟨HS2.out, HC2.out, HV2.out, hz2, e0', e1'⟩)
   go_wp2_with fail
   go_loopw [21] (fun iv wr => ∃ (i : Nat) (ws3 : List Nat), iv = .int .i64 (i : Int) ∧ i ≤ n2 ∧ ws3.length = ws1.length ∧ (∀ x ∈ ws3, x < 2 ^ 64) ∧ (∀ j, memS sk1 ws3 j ↔ memS sk ws j ∨ memS sk2 (ws2.take i) j) ∧ SetAt B q o sk1 ws3 r1 wr ∧ SetChg q o r r1 w wr ∧ WordsAt wr ws2 (some ⟨b2, 0, none⟩) ∧ w.heap.size + 1 ≤ wr.heap.size ∧ wr.cell? ⟨w.heap.size, 0, none⟩ = some (.int .i64 (sk2 : Int)) ∧ wr.cell? ⟨w.heap.size, 1, none⟩ = some (.slice (some ⟨b2, 0, none⟩) n2 c2)) (fun iv _ => n2 - (intOf iv).toNat)
   case atStart => exact ⟨0, ws1, rfl, by omega, rfl, HL1.out, fun j => by rw [HM0.out j]; simp [memS_nil], HW0.out⟩
   case round =>
    obtain ⟨i, ws3, rfl, hi, h3, hl3, hm3, hS3, hC3, hV3, hz3, z0, z1⟩ := hrel
    have HM3 := qd hm3
    have HL3 := qd hl3
    have H3 := qd h3
    have HS3 := qd hS3
    have HC3 := qd hC3
    have HV3 := qd hV3
    clear hm3 hl3 h3 hC3 hV3 e0' e1'
    by_cases hlt : i < n2
    · obtain ⟨k, hk⟩ : ∃ k, k = sk2 + i - sk1 := ⟨_, rfl⟩
      have hkl : k < ws3.length := by rw [H3.out]; omega
      have hil : i < ws2.length := by have := HN2.out; omega
      obtain ⟨bb, hbb, _, d0⟩ := HV3.out i hil
      cases hbb
      have HX := qd (show ws2.getD i 0 = ws2[i] by rw [List.getD_eq_getElem?_getD, List.getElem?_eq_getElem hil]; rfl)
      have HXL := qd (HL2.out ws2[i] (List.getElem_mem hil))
      have HT := qd (fun j => memS_take sk2 ws2 i hil j)
      obtain ⟨g, c3, hr1, d1, d2, d3⟩ := hS3.word k hkl
      have HR1 := qd hr1
      have c0 := hS3.c0
      obtain ⟨n3, hn3⟩ : ∃ n3, n3 = ws3.length := ⟨_, rfl⟩
      have HN3 := qd hn3
      have HGD := qd (show ws3.getD k 0 = ws3[k] by rw [List.getD_eq_getElem?_getD, List.getElem?_eq_getElem hkl]; rfl)
      have HYL := qd (HL3.out ws3[k] (List.getElem_mem hkl))
      have HOR := qd (fun x j => memS_or sk1 ws3 k x hkl j)
      generalize ws3[k] = y at *
      generalize ws2[i] = x at *
      rw [← hn3] at d1 hkl
      obtain ⟨z, hz⟩ : ∃ z, z = y ||| x := ⟨_, rfl⟩
      have hor : bits .or .u64 (y : Int) (x : Int) = (z : Int) := by rw [hz]; exact bits_or64 y x HYL.out HXL.out
      have HZ := qd (show z = ws3.getD k 0 ||| ws2.getD i 0 by rw [hz, HGD.out, HX.out])
      have HZL := qd (show z < 2 ^ 64 by rw [hz]; exact Nat.or_lt_two_pow HYL.out HXL.out)
      have w1' : IntKind.i64.wrap ((sk2 : Int) + (i : Int)) = (sk2 : Int) + (i : Int) := by rw [IntKind.wrap_i64]; omega
      have w2' : IntKind.i64.wrap ((sk2 : Int) + (i : Int) - (sk1 : Int)) = (k : Int) := by rw [IntKind.wrap_i64]; omega
      have i0 : (0 : Int) ≤ (k : Int) := by omega
      have i1 : (k : Int) < (n3 : Int) := by omega
      have j0 : (0 : Int) ≤ (i : Int) := by omega
      have j1 : (i : Int) < (n2 : Int) := by omega
      have HSK := qd (show sk1 + k = sk2 + i by omega)
      have HI := qd (show i + 1 ≤ n2 by omega)
      have hi8 : (i : Int) ≤ 1048576 := by omega
      clear hn3 hz hr1 hil hk hi hS3 hlen hkl
      go_wp2_with fail
      go_still_tail 18, (by kernel_rfl)
      change wpList _ _ _ _ _ wr.drew
      have HP := qd ((HS3.out.kept (Below.refl _ wr).drew).stored (n := n3) (c := c3) HR1.out k z)
      have gb : g ≠ w.heap.size := fun e => HBOX.out.1 (by rw [HR1.out, e])
      have HK := qd (show ∀ j, (wr.drew.setCell ⟨g, k, none⟩ (uV z)).cell? ⟨w.heap.size, j, none⟩ = wr.cell? ⟨w.heap.size, j, none⟩ from fun j => World.cell?_setCell_other wr.drew _ _ _ (by intro e; injection e; omega))
      clear gb
      go_wp2_with fail
      go_roundw
      case measure => simp [intOf]; have := HI.out; omega
      case rel =>
       refine ⟨i + 1, ws3.set k z, by go_num, HI.out, by rw [List.length_set]; exact H3.out, fun v hv => ?_, fun j => ?_, HP.out.1, (HC3.out.trans (.of_below HS3.out.lt (Below.refl _ wr).drew)).trans HP.out.2, ?_, ?_, (HK.out 0).trans z0, (HK.out 1).trans z1⟩
       · rcases List.mem_or_eq_of_mem_set hv with a | a
         · exact HL3.out v a
         · rw [a]; exact HZL.out
       · rw [HZ.out, HOR.out, HT.out, HM3.out, HSK.out, or_assoc]
       · exact (WordsAt.kept HV3.out (Below.refl _ wr).drew).chg HP.out.2 HOFF2.out
       · exact Nat.le_trans hz3 HP.out.2.size
    · obtain rfl : i = n2 := by omega
      go_wp2_with fail
      go_end0
      refine ⟨⟨_, rfl⟩, sk1, ws3, r1, HS3.out, HC3.out, ⟨by rw [H3.out]; exact HLEN.out.2.2, HL3.out, .inr ?_⟩, fun j => ?_⟩
      · obtain ⟨j, hj⟩ := HSM.out
        exact ⟨j, (HM3.out j).2 (.inr (by rw [List.take_of_length_le (by have := HN2.out; omega)]; exact hj))⟩
      · rw [HM3.out j, List.take_of_length_le (by have := HN2.out; omega)]
structure SetV (w : World) (N sk : Nat) (ws : List Nat) (a : Option Addr) (V : Nat → Prop) : Prop where
 bd : SetB N sk ws
 at_ : WordsAt w ws a
 low : ∀ p, a = some p → V p.block
theorem SetV.kept {w w' : World} {N sk : Nat} {ws : List Nat} {a : Option Addr} {V : Nat → Prop} (h : SetV w N sk ws a V) (hb : Below w.heap.size w w') : SetV w' N sk ws a V := ⟨h.bd, h.at_.kept hb, h.low⟩
theorem SetAt.val {B q o sk : Nat} {ws : List Nat} {r : Option Nat} {w : World} (h : SetAt B q o sk ws r w) {N : Nat} (hb : SetB N sk ws) (V : Nat → Prop) (hV : ∀ k, B ≤ k → k < w.heap.size → V k) :
 ∃ a c, w.cell? ⟨q, o, none⟩ = some (.int .i64 (sk : Int)) ∧ w.cell? ⟨q, o + 1, none⟩ = some (.slice a ws.length c) ∧ SetV w N sk ws a V := by
 obtain ⟨a, c, h1, ho, hr⟩ := h.c1
 refine ⟨a, c, h.c0, h1, hb, ?_, fun p hp => ?_⟩
 · obtain ⟨a', c', e, hw⟩ := ho.at
   rw [Value.slice.injEq] at e
   obtain ⟨rfl, _, rfl⟩ := e
   exact hw
 · obtain ⟨h1, h2⟩ := ho.lt p.block (by rw [hp]; rfl)
   exact hV _ h1 h2
theorem SetAt.new (w : World) (T : TypeId) : SetAt (w.heap.size + 1) w.heap.size 0 0 [] none (w.alloc (.cells #[.int .i64 0, .slice none 0 0] T)) := by
 have h : ∀ j, (w.alloc (.cells #[.int .i64 0, .slice none 0 0] T)).cell? ⟨w.heap.size, j, none⟩ = #[Value.int .i64 0, .slice none 0 0][j]? := fun j => World.cell?_alloc_at _ _ _ _ rfl
 have hf : ∀ j, j < 2 → (w.alloc (.cells #[.int .i64 0, .slice none 0 0] T)).frozen? ⟨w.heap.size, j, none⟩ = false := fun j hj => by
  rw [World.frozen?_alloc_at _ _ _ _ rfl]
 exact ⟨h 0, ⟨none, 0, h 1, World.ownsRow_nil _ _ _ _, rfl⟩, hf 0 (by omega), hf 1 (by omega), by simp⟩
theorem WordsAt.set {w : World} {ws : List Nat} {a : Option Addr} (h : WordsAt w ws a) (p : Addr) (u : Value) (hne : ∀ x, a = some x → x.block ≠ p.block) : WordsAt (w.setCell p u) ws a := fun j hj => by
 obtain ⟨b, e, h1, h2⟩ := h j hj
 have := hne _ e
 exact ⟨b, e, by rw [World.size_setCell]; exact h1, by rw [World.cell?_setCell_other w _ _ _ (by intro x; apply this; rw [x])]; exact h2⟩
theorem two_put (W : World) (g : Nat) {x y : Value} (h0 : W.cell? ⟨g, 0, none⟩ = some x) (h1 : W.cell? ⟨g, 1, none⟩ = some y) (u v : Value) :
 ((W.setCell ⟨g, 0, none⟩ u).setCell ⟨g, 1, none⟩ v).cell? ⟨g, 0, none⟩ = some u ∧ ((W.setCell ⟨g, 0, none⟩ u).setCell ⟨g, 1, none⟩ v).cell? ⟨g, 1, none⟩ = some v := by
 have e0 := World.cell?_setCell_same W ⟨g, 0, none⟩ u h0
 have e1 : (W.setCell ⟨g, 0, none⟩ u).cell? ⟨g, 1, none⟩ = some y := (World.cell?_setCell_other W _ _ _ (by intro e; injection e; omega)).trans h1
 exact ⟨(World.cell?_setCell_other _ _ _ _ (by intro e; injection e; omega)).trans e0, World.cell?_setCell_same _ _ _ e1⟩
def andn (x y : Nat) : Nat := (BitVec.ofNat 64 x &&& ~~~BitVec.ofNat 64 y).toNat
theorem andn_lt (x y : Nat) : andn x y < 2 ^ 64 := (BitVec.ofNat 64 x &&& ~~~BitVec.ofNat 64 y).isLt
theorem andn_bit (x y i : Nat) (hi : i < 64) : (andn x y).testBit i = (x.testBit i && !y.testBit i) := by
 unfold andn
 rw [BitVec.testBit_toNat, BitVec.getLsbD_and, BitVec.getLsbD_not, BitVec.getLsbD_ofNat, BitVec.getLsbD_ofNat]
 simp [hi]
theorem bits_andn (x y : Nat) (hx : x < 2 ^ 64) (hy : y < 2 ^ 64) : bits .andNot .u64 (x : Int) (y : Int) = (andn x y : Int) := by
 have h := andn_lt x y
 unfold andn at *
 simp only [bits, IntKind.bits, BitVec.ofInt_natCast]
 exact wrap_u64 _ (by omega) (by omega)
theorem memS_andn (k x sk : Nat) (ws : List Nat) (j : Nat) : memS k [andn x (wordN sk ws k)] j ↔ memS k [x] j ∧ ¬ memS sk ws j := by
 have hm : j % 64 < 64 := Nat.mod_lt _ (by omega)
 unfold memS
 by_cases c : j / 64 = k
 · subst c
   rw [Nat.sub_self, List.getD_cons_zero, List.getD_cons_zero, andn_bit _ _ _ hm]
   unfold wordN
   by_cases d : sk ≤ j / 64
   · rw [if_pos d]; simp [d]
   · rw [if_neg d]; simp [d]
 · constructor
   · rintro ⟨h1, h2⟩
     obtain ⟨d, hd⟩ : ∃ d, j / 64 - k = d + 1 := ⟨j / 64 - k - 1, by omega⟩
     rw [hd] at h2; simp at h2
   · rintro ⟨⟨h1, h2⟩, _⟩
     obtain ⟨d, hd⟩ : ∃ d, j / 64 - k = d + 1 := ⟨j / 64 - k - 1, by omega⟩
     rw [hd] at h2; simp at h2
theorem wordN_lt (sk : Nat) (ws : List Nat) (k : Nat) (h : ∀ x ∈ ws, x < 2 ^ 64) : wordN sk ws k < 2 ^ 64 := by
 unfold wordN
 split
 · rw [List.getD_eq_getElem?_getD]
   by_cases c : k - sk < ws.length
   · rw [List.getElem?_eq_getElem c]; exact h _ (List.getElem_mem c)
   · rw [List.getElem?_eq_none (by omega)]; simp
 · omega
def NewSet (N : Nat) (M : Nat → Prop) (w : World) (e : Ending) (w' : World) : Prop :=
 ∃ sk ws a c, e = .returned (setV sk a ws.length c) ∧ Below w.heap.size w w' ∧ SetB N sk ws ∧ WordsAt w' ws a ∧ (∀ p, a = some p → w.heap.size ≤ p.block) ∧ ∀ j, memS sk ws j ↔ M j
theorem one_word (w : World) (x : Nat) (T : TypeId) : WordsAt (w.alloc (.cells #[.int .u64 (x : Int)] T)) [x] (some ⟨w.heap.size, 0, none⟩) := fun j hj => by
 obtain rfl : j = 0 := by simpa using hj
 exact ⟨w.heap.size, rfl, by simp, cell_one w _ T⟩
set_option maxRecDepth 100000 in
set_option maxHeartbeats 400000 in
theorem without_any (N sk : Nat) (ws : List Nat) (a : Option Addr) (c sk2 : Nat) (ws2 : List Nat) (a2 : Option Addr) (c2 : Nat) (w : World) (hN : N ≤ 1048576) (hb : SetB N sk ws) (hv : WordsAt w ws a) (hb2 : SetB N sk2 ws2) (hv2 : WordsAt w ws2 a2) :
 Calls Tryz.prog 96 #[setV sk a ws.length c, setV sk2 a2 ws2.length c2] w (NewSet N (fun j => memS sk ws j ∧ ¬ memS sk2 ws2 j) w) := by
 have hle := hb.le
 have hle2 := hb2.le
 obtain ⟨n, hn⟩ : ∃ n, n = ws.length := ⟨_, rfl⟩
 obtain ⟨n2, hn2⟩ : ∃ n2, n2 = ws2.length := ⟨_, rfl⟩
 have HN := qd hn
 have HN2 := qd hn2
 obtain ⟨w3, hw3⟩ : ∃ w3, w3 = (((w.alloc (.cells #[.int .i64 (sk : Int), .slice a n c] 68)).alloc (.cells #[.int .i64 (sk2 : Int), .slice a2 n2 c2] 68)).alloc (.cells #[.int .i64 0, .slice none 0 0] 68)).alloc (.cells #[.int .i64 0, .slice none 0 0] 68) := ⟨_, rfl⟩
 have hz3 : w3.heap.size = w.heap.size + 4 := by rw [hw3]; simp
 have hbw : Below w.heap.size w w3 := by rw [hw3]; exact ((((Below.refl _ w).alloc (Nat.le_refl _) _).alloc (by simp) _).alloc (by simp; omega) _).alloc (by simp; omega) _
 have b0 : ∀ j, w3.cell? ⟨w.heap.size, j, none⟩ = #[Value.int .i64 (sk : Int), .slice a n c][j]? := fun j => by
  rw [hw3, World.cell?_alloc_past _ _ _ (by simp; try omega), World.cell?_alloc_past _ _ _ (by simp; try omega), World.cell?_alloc_past _ _ _ (by simp; try omega), World.cell?_alloc_at _ _ _ _ rfl]
 have b1 : ∀ j, w3.cell? ⟨w.heap.size + 1, j, none⟩ = #[Value.int .i64 (sk2 : Int), .slice a2 n2 c2][j]? := fun j => by
  rw [hw3, World.cell?_alloc_past _ _ _ (by simp; try omega), World.cell?_alloc_past _ _ _ (by simp; try omega), World.cell?_alloc_at _ _ _ _ (by simp)]
 have b2 : ∀ j, w3.cell? ⟨w.heap.size + 2, j, none⟩ = #[Value.int .i64 0, .slice none 0 0][j]? := fun j => by
  rw [hw3, World.cell?_alloc_past _ _ _ (by simp; try omega), World.cell?_alloc_at _ _ _ _ (by simp)]
 have g2 : ∀ j, w3.frozen? ⟨w.heap.size + 2, j, none⟩ = false := fun j => by
  rw [hw3, World.frozen?_alloc_past _ _ _ (by simp; try omega), World.frozen?_alloc_at _ _ _ _ (by simp)]
 have hs3 : SetAt (w.heap.size + 4) (w.heap.size + 3) 0 0 [] none w3 := by
  have := SetAt.new (((w.alloc (.cells #[.int .i64 (sk : Int), .slice a n c] 68)).alloc (.cells #[.int .i64 (sk2 : Int), .slice a2 n2 c2] 68)).alloc (.cells #[.int .i64 0, .slice none 0 0] 68)) 68
  rw [← hw3] at this
  simpa using this
 have H3 := qd hw3
 have HZ3 := qd hz3
 have HBW := qd hbw
 have HV := qd hv
 have HV2 := qd hv2
 have HLT := qd hb.lt
 have HLT2 := qd hb2.lt
 have HS3 := qd hs3
 have HB0 := qd b0
 have HB1 := qd b1
 have HB2 := qd b2
 have HG2 := qd g2
 have HLE := qd (show sk + n ≤ N ∧ sk2 + n2 ≤ N by omega)
 have c0 := b0 1
 simp only [List.getElem?_toArray, List.getElem?_cons_succ, List.getElem?_cons_zero] at c0
 rw [← hn, ← hn2]
 clear hb hb2 hv hv2 hle hle2 hn hn2 hw3 hbw hs3 b0 b1 b2 g2 hz3
 unfold setV NewSet
 go_enter Tryz.func96, Tryz.ntmps96
 go_wp2_with fail
 rw [← H3.out]
 go_loopw [12] (fun iv wr => ∃ (i skL : Nat) (wsL : List Nat) (r : Option Nat), iv = .int .i64 (i : Int) ∧ i ≤ n ∧ SetB N skL wsL ∧ (∀ j, memS skL wsL j ↔ memS sk (ws.take i) j ∧ ¬ memS sk2 ws2 j) ∧ SetAt (w.heap.size + 4) (w.heap.size + 3) 0 skL wsL r wr ∧ SetChg (w.heap.size + 3) 0 none r w3 wr) (fun iv _ => n - (intOf iv).toNat)
 case atStart => exact ⟨0, 0, [], none, rfl, by omega, SetB.nil _ _ (by omega), fun j => by simp [memS_nil], HS3.out, .of_below HS3.out.lt (Below.refl _ _)⟩
 case round =>
  obtain ⟨i, skL, wsL, r, rfl, hi, hbL, hmL, hSL, hCL⟩ := hrel
  have hK : ∀ b, b < w.heap.size + 3 → wr.heap[b]? = w3.heap[b]? := fun b hb => hCL.block b (by rw [HZ3.out]; omega) (by omega) (by simp)
  have HK := qd hK
  have HBL := qd hbL
  have HML := qd hmL
  have HSL := qd hSL
  have HCL := qd hCL
  have hkc : ∀ b j, b < w.heap.size + 3 → wr.cell? ⟨b, j, none⟩ = w3.cell? ⟨b, j, none⟩ := fun b j hb => cob (a := ⟨b, j, none⟩) (hK b hb)
  have HZR := qd (show w.heap.size + 4 ≤ wr.heap.size by have := hCL.size; rw [HZ3.out] at this; exact this)
  have HBF := qd (show Below w.heap.size w wr from HBW.out.trans ⟨hCL.os, hCL.tape, hCL.output, hCL.size, fun k hk => hK k (by omega)⟩)
  have HVR := qd (HV.out.kept HBF.out)
  have HVR2 := qd (HV2.out.kept HBF.out)
  clear hK hbL hmL hSL hCL c0
  by_cases hlt : i < n
  · have hil : i < ws.length := by have := HN.out; omega
    have hskb : sk + i ≤ 4194304 := by have := HLE.out; omega
    have hskb2 : sk2 + ws2.length ≤ 4194304 := by have := HLE.out; have := HN2.out; omega
    have s1 : wrap64 ((sk : Int) + (i : Int)) = (sk : Int) + (i : Int) := by have := HLE.out; unfold wrap64; omega
    have j0 : (0 : Int) ≤ (i : Int) := by omega
    have j1 : (i : Int) < (n : Int) := by omega
    have hi8 : (i : Int) ≤ 1048576 := by have := HLE.out; omega
    have HI := qd (show i + 1 ≤ n by omega)
    obtain ⟨bb, hbb, _, d0⟩ := HVR.out i hil
    subst hbb
    have x0 := (hkc w.heap.size 0 (by omega)).trans (HB0.out 0)
    have y0 := (hkc (w.heap.size + 1) 0 (by omega)).trans (HB1.out 0)
    have y1 := (hkc (w.heap.size + 1) 1 (by omega)).trans (HB1.out 1)
    simp only [List.getElem?_toArray, List.getElem?_cons_succ, List.getElem?_cons_zero] at x0 y0 y1
    have HX := qd (show ws.getD i 0 = ws[i] by rw [List.getD_eq_getElem?_getD, List.getElem?_eq_getElem hil]; rfl)
    have HXL := qd (HLT.out ws[i] (List.getElem_mem hil))
    have HT := qd (fun j => memS_take sk ws i hil j)
    have HW := qd (fun W h => setWord_any sk2 ws2 a2 c2 (sk + i) W hskb2 hskb h)
    rw [← HN2.out] at HW
    have hyl := wordN_lt sk2 ws2 (sk + i) HLT2.out
    have HAM := qd (fun x j => memS_andn (sk + i) x sk2 ws2 j)
    generalize ws[i] = x at *
    generalize wordN sk2 ws2 (sk + i) = y at *
    have HBN := qd (bits_andn x y HXL.out hyl)
    have HZL := qd (andn_lt x y)
    obtain ⟨z, hz⟩ : ∃ z, z = andn x y := ⟨_, rfl⟩
    have hbn : bits .andNot .u64 (x : Int) (y : Int) = (z : Int) := by rw [hz]; exact HBN.out
    have HZ := qd hz
    have HZ2 := qd (show z < 2 ^ 64 by rw [hz]; exact HZL.out)
    have HZ4 := qd (show ∀ j, memS (sk + i) [z] j ↔ memS (sk + i) [x] j ∧ ¬ memS sk2 ws2 j from fun j => by rw [hz]; exact HAM.out x j)
    have HTX := qd (show ∀ j, memS sk (ws.take (i + 1)) j ∧ ¬ memS sk2 ws2 j ↔ (memS sk (ws.take i) j ∧ ¬ memS sk2 ws2 j) ∨ memS (sk + i) [z] j from fun j => by rw [HT.out, HX.out, HZ4.out, or_and_right])
    clear hil hyl hz hkc hi hskb hskb2
    by_cases hz0 : z = 0
    · have e1 : ((z : Int) != 0) = false := by rw [hz0]; rfl
      have HNO := qd (show ∀ j, ¬ memS (sk + i) [z] j from fun j => by rw [hz0]; exact memS_zero _ j)
      clear hz0
      skip
      go_wp2_with fail
      skip
      refine (HW.out _ HVR2.out).mono ?_
      rintro en w4 ⟨rfl, hb4⟩
      have HB4 := qd hb4
      clear hb4
      skip
      go_wp2_with fail
      go_roundw
      case measure => simp [intOf]; have := HI.out; omega
      case rel => exact ⟨i + 1, skL, wsL, r, by go_num, HI.out, HBL.out, fun j => by rw [HML.out, HTX.out]; exact ⟨.inl, fun h => h.elim id (fun x => absurd x (HNO.out j))⟩, HSL.out.kept HB4.out, HCL.out.trans (.of_below HSL.out.lt HB4.out)⟩
    · have e1 : ((z : Int) != 0) = true := by rw [bne_iff_ne]; omega
      have HSM := qd (memS_some (sk + i) z hz0 HZ2.out)
      have HSBZ := qd (show SetB N (sk + i) [z] from ⟨by have := HLE.out; have := HI.out; simp; omega, fun v hv => by rw [List.mem_singleton] at hv; rw [hv]; exact HZ2.out, .inr HSM.out⟩)
      clear hz0
      go_wp2_with fail
      refine (HW.out _ HVR2.out).mono ?_
      rintro en w4 ⟨rfl, hb4⟩
      have HB4 := qd hb4
      have HS4 := qd (HSL.out.kept hb4)
      have HC4 := qd (HCL.out.trans (.of_below HSL.out.lt hb4))
      have x04 := (hb4.cell (p := ⟨w.heap.size, 0, none⟩) (by have := HZR.out; simp; omega)).trans x0
      have HZ44 := qd hb4.size
      clear hb4 x0 y0 y1 d0
      go_wp2_with fail
      have HBN2 := qd (show ∀ o, Below w4.heap.size w4 (w4.alloc o) from fun o => (Below.refl _ w4).alloc (Nat.le_refl _) o)
      refine (join_any (w.heap.size + 4) (w.heap.size + 3) 0 skL wsL r N (sk + i) [z] (some ⟨w4.heap.size, 0, none⟩) 1 _ (HS4.out.kept (HBN2.out _)) HBL.out HSBZ.out hN (one_word w4 z _) (fun p hp => by cases hp; exact ⟨fun e => by have := HS4.out.lt; simp only at e; omega, fun e => by have := HS4.out.rlt _ e; simp only at this; omega⟩) (by have := HZR.out; have := HZ44.out; simp; omega)).mono ?_
      rintro en w5 ⟨⟨_, rfl⟩, sk5, ws5, r5, h5, c5, b5, m5⟩
      have H5 := qd h5
      have C5 := qd (HC4.out.trans ((SetChg.of_below HS4.out.lt (HBN2.out _)).trans c5))
      have B5 := qd b5
      have M5 := qd m5
      clear h5 c5 b5 m5 x04
      go_wp2_with fail
      go_roundw
      case measure => simp [intOf]; have := HI.out; omega
      case rel => exact ⟨i + 1, sk5, ws5, r5, by go_num, HI.out, B5.out, fun j => by rw [M5.out, HTX.out, HML.out], H5.out, C5.out⟩
  · obtain rfl : i = n := by omega
    obtain ⟨a9, c9, k0, k1, hv9⟩ := HSL.out.val HBL.out (fun b => w.heap.size + 4 ≤ b) (fun k h1 h2 => h1)
    simp only [Nat.zero_add] at k1
    have t0 := (hkc (w.heap.size + 2) 0 (by omega)).trans (HB2.out 0)
    have t1 := (hkc (w.heap.size + 2) 1 (by omega)).trans (HB2.out 1)
    have u0 := (World.frozen?_of_block (a := ⟨w.heap.size + 2, 0, none⟩) (HK.out _ (by simp))).trans (HG2.out 0)
    have u1 := (World.frozen?_of_block (a := ⟨w.heap.size + 2, 1, none⟩) (HK.out _ (by simp))).trans (HG2.out 1)
    simp only [List.getElem?_toArray, List.getElem?_cons_succ, List.getElem?_cons_zero] at t0 t1
    have HV9 := qd hv9
    clear hv9 hkc
    obtain ⟨n9, hn9⟩ : ∃ n9, n9 = wsL.length := ⟨_, rfl⟩
    rw [← hn9] at k1
    have HN9 := qd hn9
    clear hn9
    go_wp2_with fail
    obtain ⟨y0, y1⟩ := two_put wr (w.heap.size + 1 + 1) t0 t1 (.int .i64 (skL : Int)) (.slice a9 n9 c9)
    refine bodyPost_ret (v := .agg #[.int .i64 (skL : Int), .slice a9 n9 c9]) (by simp [results, Tryz.results96, go_sem, y0, y1]) rfl ⟨skL, wsL, a9, c9, by rw [HN9.out]; rfl, ?_, HV9.out.bd, ?_, fun p hp => by have h9 : w.heap.size + 4 ≤ p.block := HV9.out.low p hp; omega, fun j => ?_⟩
    · exact (HBF.out.setCell (by simp; try omega) _).setCell (by simp; try omega) _
    · exact (HV9.out.at_.set _ _ (fun p hp => by have h9 : w.heap.size + 4 ≤ p.block := HV9.out.low p hp; show p.block ≠ w.heap.size + 1 + 1; omega)).set _ _ (fun p hp => by have h9 : w.heap.size + 4 ≤ p.block := HV9.out.low p hp; show p.block ≠ w.heap.size + 1 + 1; omega)
    · rw [HML.out j, List.take_of_length_le (by have := HN.out; omega)]
theorem memS_wordN (sk : Nat) (ws : List Nat) (e : Nat) : memS sk ws e ↔ (wordN sk ws (e / 64)).testBit (e % 64) = true := by
 unfold memS wordN
 by_cases d : sk ≤ e / 64
 · rw [if_pos d]; simp [d]
 · rw [if_neg d]; simp [d]
theorem shr_bit (y bt : Nat) : y / 2 ^ bt % 2 = if y.testBit bt then 1 else 0 := by
 rw [Nat.testBit_eq_decide_div_mod_eq]
 by_cases c : y / 2 ^ bt % 2 = 1
 · simp [c]
 · simp [c]; omega
set_option maxRecDepth 100000 in
set_option maxHeartbeats 1000000 in
theorem only_any (N sk : Nat) (ws : List Nat) (a : Option Addr) (c e : Nat) (w : World) (hN : N ≤ 1048576) (hb : SetB N sk ws) (hv : WordsAt w ws a) (he : e / 64 < N) :
 Calls Tryz.prog 97 #[setV sk a ws.length c, .int .i64 (e : Int)] w (NewSet N (fun j => memS sk ws j ∧ j = e) w) := by
 have hle := hb.le
 obtain ⟨n, hn⟩ : ∃ n, n = ws.length := ⟨_, rfl⟩
 have HN := qd hn
 obtain ⟨w3, hw3⟩ : ∃ w3, w3 = ((w.alloc (.cells #[.int .i64 (sk : Int), .slice a n c] 68)).alloc (.cells #[.int .i64 0, .slice none 0 0] 68)).alloc (.cells #[.int .i64 0, .slice none 0 0] 68) := ⟨_, rfl⟩
 have hz3 : w3.heap.size = w.heap.size + 3 := by rw [hw3]; simp
 have hbw : Below w.heap.size w w3 := by rw [hw3]; exact (((Below.refl _ w).alloc (Nat.le_refl _) _).alloc (by simp) _).alloc (by simp; omega) _
 have b0 : ∀ j, w3.cell? ⟨w.heap.size, j, none⟩ = #[Value.int .i64 (sk : Int), .slice a n c][j]? := fun j => by
  rw [hw3, World.cell?_alloc_past _ _ _ (by simp; try omega), World.cell?_alloc_past _ _ _ (by simp), World.cell?_alloc_at _ _ _ _ rfl]
 have b2 : ∀ j, w3.cell? ⟨w.heap.size + 1, j, none⟩ = #[Value.int .i64 0, .slice none 0 0][j]? := fun j => by
  rw [hw3, World.cell?_alloc_past _ _ _ (by simp; try omega), World.cell?_alloc_at _ _ _ _ (by simp)]
 have g2 : ∀ j, w3.frozen? ⟨w.heap.size + 1, j, none⟩ = false := fun j => by
  rw [hw3, World.frozen?_alloc_past _ _ _ (by simp; try omega), World.frozen?_alloc_at _ _ _ _ (by simp)]
 have hs3 : SetAt (w.heap.size + 3) (w.heap.size + 2) 0 0 [] none w3 := by
  have := SetAt.new ((w.alloc (.cells #[.int .i64 (sk : Int), .slice a n c] 68)).alloc (.cells #[.int .i64 0, .slice none 0 0] 68)) 68
  rw [← hw3] at this
  simpa using this
 obtain ⟨wd, hwd⟩ : ∃ wd, wd = e / 64 := ⟨_, rfl⟩
 obtain ⟨bt, hbt⟩ : ∃ bt, bt = e % 64 := ⟨_, rfl⟩
 have hq : (e : Int) / 64 = (wd : Int) := by omega
 have hm : (e : Int) % 64 = (bt : Int) := by omega
 have hbt64 : bt < 64 := by omega
 have HWW := qd (show wrap64 (wd : Int) = (wd : Int) by unfold wrap64; omega)
 have HM := qd (memS_wordN sk ws e)
 rw [← hwd, ← hbt] at HM
 have HW := qd (fun W h => setWord_any sk ws a c wd W (by omega) (by omega) h)
 rw [← hn] at HW
 have hyl := wordN_lt sk ws wd hb.lt
 have HEN := qd he
 generalize wordN sk ws wd = y at *
 have HV := qd (hv.kept hbw)
 have H3 := qd hw3
 have HBW := qd hbw
 have HZ3 := qd hz3
 have HS3 := qd hs3
 have HB2 := qd b2
 have HG2 := qd g2
 have x0 := b0 0
 have x1 := b0 1
 simp only [List.getElem?_toArray, List.getElem?_cons_succ, List.getElem?_cons_zero] at x0 x1
 have HSH := qd (shr_bit y bt)
 have HBD := qd (show ∀ z : Nat, z = y / 2 ^ bt → bits .and .u64 (z : Int) 1 = ((z % 2 : Nat) : Int) from fun z hz => by
  have h := bits_and64 z 1 (by rw [hz]; exact Nat.lt_of_le_of_lt (Nat.div_le_self _ _) hyl) (by omega)
  rw [show ((1 : Nat) : Int) = 1 from rfl] at h
  rw [h, Nat.and_one_is_mod])
 rw [← hn]
 clear hb hv hw3 hbw hs3 b0 b2 g2 hz3 hn hle he hwd hbt hyl
 unfold setV
 have HTB := qd (show (bits .and .u64 ((y : Int) / 2 ^ bt) 1 == 1) = y.testBit bt from by
  have e1 : ((y : Int) / 2 ^ bt) = ((y / 2 ^ bt : Nat) : Int) := by rw [Int.natCast_ediv]; simp
  rw [e1, HBD.out _ rfl, HSH.out]
  cases y.testBit bt <;> rfl)
 have HBE := qd (HBW.out.size)
 cases hbit : y.testBit bt
 case false =>
  rw [hbit] at HM HTB
  have htb := HTB.out
  clear HSH HBD
  go_enter Tryz.func97, Tryz.ntmps97
  go_wp2_with fail
  rw [← H3.out, HWW.out]
  refine (HW.out _ HV.out).mono ?_
  rintro en w4 ⟨rfl, hb4⟩
  have HS4 := qd (HS3.out.kept hb4)
  have HB4 := qd (HBW.out.trans (hb4.mono HBE.out))
  have t0 := (hb4.cell (p := ⟨w.heap.size + 1, 0, none⟩) (by rw [HZ3.out]; simp)).trans (HB2.out 0)
  have t1 := (hb4.cell (p := ⟨w.heap.size + 1, 1, none⟩) (by rw [HZ3.out]; simp)).trans (HB2.out 1)
  have u0 := (hb4.frozen (p := ⟨w.heap.size + 1, 0, none⟩) (by rw [HZ3.out]; simp)).trans (HG2.out 0)
  have u1 := (hb4.frozen (p := ⟨w.heap.size + 1, 1, none⟩) (by rw [HZ3.out]; simp)).trans (HG2.out 1)
  simp only [List.getElem?_toArray, List.getElem?_cons_succ, List.getElem?_cons_zero] at t0 t1
  obtain ⟨a9, c9, k0, k1, hv9⟩ := HS4.out.val (SetB.nil N 0 (by omega)) (fun b => w.heap.size + 3 ≤ b) (fun k h1 h2 => h1)
  simp only [Nat.zero_add, List.length_nil] at k1
  have HV9 := qd hv9
  clear hv9 hb4
  go_wp2_with fail
  obtain ⟨y0, y1⟩ := two_put w4 (w.heap.size + 1) t0 t1 (.int .i64 0) (.slice a9 0 c9)
  refine bodyPost_ret (v := .agg #[.int .i64 0, .slice a9 0 c9]) (by simp [results, Tryz.results97, go_sem, y0, y1]) rfl ⟨0, [], a9, c9, rfl, ?_, HV9.out.bd, ?_, fun p hp => by have h9 : w.heap.size + 3 ≤ p.block := HV9.out.low p hp; omega, fun j => ?_⟩
  · exact (HB4.out.setCell (by simp; try omega) _).setCell (by simp; try omega) _
  · exact (HV9.out.at_.set _ _ (fun p hp => by have h9 : w.heap.size + 3 ≤ p.block := HV9.out.low p hp; show p.block ≠ w.heap.size + 1; omega)).set _ _ (fun p hp => by have h9 : w.heap.size + 3 ≤ p.block := HV9.out.low p hp; show p.block ≠ w.heap.size + 1; omega)
  · simp only [memS_nil, false_iff]
    rintro ⟨h1, rfl⟩
    have := HM.out.1 h1
    simp at this
 case true =>
  rw [hbit] at HM HTB
  have htb := HTB.out
  clear HSH HBD
  go_enter Tryz.func97, Tryz.ntmps97
  go_wp2_with fail
  rw [← H3.out, HWW.out]
  refine (HW.out _ HV.out).mono ?_
  rintro en w4 ⟨rfl, hb4⟩
  have HS4 := qd (HS3.out.kept hb4)
  have HB4 := qd hb4
  have HZ4 := qd hb4.size
  clear hb4
  go_wp2_with fail
  refine (add_any (w.heap.size + 3) (w.heap.size + 2) 0 0 [] none N e _ HS4.out (SetB.nil N 0 (by omega)) hN HEN.out (by have := HZ4.out; have := HZ3.out; omega)).mono ?_
  rintro en w5 ⟨⟨_, rfl⟩, sk5, ws5, r5, h5, c5, b5, m5⟩
  have hK : ∀ b, b < w.heap.size + 2 → w5.heap[b]? = w3.heap[b]? := fun b hb => (c5.block b (by have := HZ4.out; have := HZ3.out; omega) (by omega) (by simp)).trans (HB4.out.block b (by rw [HZ3.out]; omega))
  have HK := qd hK
  have HB5 := qd (show Below w.heap.size w w5 from (HBW.out.trans (HB4.out.mono HBE.out)).trans ⟨c5.os, c5.tape, c5.output, c5.size, fun k hk => c5.block k (by have := HZ4.out; have := HZ3.out; omega) (by omega) (by simp)⟩)
  have t0 := (cob (a := ⟨w.heap.size + 1, 0, none⟩) (hK (w.heap.size + 1) (by omega))).trans (HB2.out 0)
  have t1 := (cob (a := ⟨w.heap.size + 1, 1, none⟩) (hK (w.heap.size + 1) (by omega))).trans (HB2.out 1)
  have u0 := (World.frozen?_of_block (a := ⟨w.heap.size + 1, 0, none⟩) (hK (w.heap.size + 1) (by omega))).trans (HG2.out 0)
  have u1 := (World.frozen?_of_block (a := ⟨w.heap.size + 1, 1, none⟩) (hK (w.heap.size + 1) (by omega))).trans (HG2.out 1)
  simp only [List.getElem?_toArray, List.getElem?_cons_succ, List.getElem?_cons_zero] at t0 t1
  obtain ⟨a9, c9, k0, k1, hv9⟩ := h5.val b5 (fun b => w.heap.size + 3 ≤ b) (fun k h1 h2 => h1)
  simp only [Nat.zero_add] at k1
  obtain ⟨n9, hn9⟩ : ∃ n9, n9 = ws5.length := ⟨_, rfl⟩
  rw [← hn9] at k1
  have HN9 := qd hn9
  have HV9 := qd hv9
  have M5 := qd m5
  clear hv9 hn9 hK h5 c5 b5 m5
  go_wp2_with fail
  obtain ⟨y0, y1⟩ := two_put w5 (w.heap.size + 1) t0 t1 (.int .i64 (sk5 : Int)) (.slice a9 n9 c9)
  refine bodyPost_ret (v := .agg #[.int .i64 (sk5 : Int), .slice a9 n9 c9]) (by simp [results, Tryz.results97, go_sem, y0, y1]) rfl ⟨sk5, ws5, a9, c9, by rw [HN9.out]; rfl, ?_, HV9.out.bd, ?_, fun p hp => by have h9 : w.heap.size + 3 ≤ p.block := HV9.out.low p hp; omega, fun j => ?_⟩
  · exact (HB5.out.setCell (by simp; try omega) _).setCell (by simp; try omega) _
  · exact (HV9.out.at_.set _ _ (fun p hp => by have h9 : w.heap.size + 3 ≤ p.block := HV9.out.low p hp; show p.block ≠ w.heap.size + 1; omega)).set _ _ (fun p hp => by have h9 : w.heap.size + 3 ≤ p.block := HV9.out.low p hp; show p.block ≠ w.heap.size + 1; omega)
  · rw [M5.out]
    constructor
    · rintro (h | rfl)
      · exact absurd h (memS_nil _ _)
      · exact ⟨HM.out.2 (by first | rfl | trivial), rfl⟩
    · rintro ⟨_, h⟩; exact .inr h
theorem NewSet.of {N : Nat} {M : Nat → Prop} {w w' : World} {e : Ending} (sk : Nat) (ws : List Nat) (a : Option Addr) (c : Nat) (he : e = .returned (setV sk a ws.length c)) (hb : Below w.heap.size w w') (hs : SetB N sk ws) (hw : WordsAt w' ws a) (hl : ∀ p, a = some p → w.heap.size ≤ p.block) (hm : ∀ j, memS sk ws j ↔ M j) : NewSet N M w e w' := ⟨sk, ws, a, c, he, hb, hs, hw, hl, hm⟩
set_option maxRecDepth 100000 in
set_option maxHeartbeats 1000000 in
theorem places_any (N f l : Nat) (w : World) (hN : N ≤ 1048576) (hfl : f ≤ l + 1) (hl : l / 64 < N) :
 Calls Tryz.prog 34 #[.int .i64 (f : Int), .int .i64 (l : Int)] w (NewSet N (fun j => f ≤ j ∧ j ≤ l) w) := by
 obtain ⟨w3, hw3⟩ : ∃ w3, w3 = (w.alloc (.cells #[.int .i64 0, .slice none 0 0] 68)).alloc (.cells #[.int .i64 0, .slice none 0 0] 68) := ⟨_, rfl⟩
 have hz3 : w3.heap.size = w.heap.size + 2 := by rw [hw3]; simp
 have hbw : Below w.heap.size w w3 := by rw [hw3]; exact ((Below.refl _ w).alloc (Nat.le_refl _) _).alloc (by simp) _
 have b2 : ∀ j, w3.cell? ⟨w.heap.size, j, none⟩ = #[Value.int .i64 0, .slice none 0 0][j]? := fun j => by
  rw [hw3, World.cell?_alloc_past _ _ _ (by simp; try omega), World.cell?_alloc_at _ _ _ _ (by simp)]
 have g2 : ∀ j, w3.frozen? ⟨w.heap.size, j, none⟩ = false := fun j => by
  rw [hw3, World.frozen?_alloc_past _ _ _ (by simp; try omega), World.frozen?_alloc_at _ _ _ _ (by simp)]
 have hs3 : SetAt (w.heap.size + 2) (w.heap.size + 1) 0 0 [] none w3 := by
  have := SetAt.new (w.alloc (.cells #[.int .i64 0, .slice none 0 0] 68)) 68
  rw [← hw3] at this
  simpa using this
 have H3 := qd hw3
 have HBW := qd hbw
 have HZ3 := qd hz3
 have HS3 := qd hs3
 have HB2 := qd b2
 have HG2 := qd g2
 clear hw3 hbw hz3 hs3 b2 g2
 go_enter Tryz.func34, Tryz.ntmps34
 go_wp2_with fail
 rw [← H3.out]
 go_loopw [6] (fun iv wr => ∃ (i skL : Nat) (wsL : List Nat) (r : Option Nat), iv = .int .i64 (i : Int) ∧ f ≤ i ∧ i ≤ l + 1 ∧ SetB N skL wsL ∧ (∀ j, memS skL wsL j ↔ f ≤ j ∧ j < i) ∧ SetAt (w.heap.size + 2) (w.heap.size + 1) 0 skL wsL r wr ∧ SetChg (w.heap.size + 1) 0 none r w3 wr) (fun iv _ => l + 1 - (intOf iv).toNat)
 case atStart => exact ⟨f, 0, [], none, rfl, Nat.le_refl _, hfl, SetB.nil _ _ (by omega), fun j => by simp only [memS_nil, false_iff]; omega, HS3.out, .of_below HS3.out.lt (Below.refl _ _)⟩
 case round =>
  obtain ⟨i, skL, wsL, r, rfl, hf, hi, hbL, hmL, hSL, hCL⟩ := hrel
  have HBL := qd hbL
  have HML := qd hmL
  have HSL := qd hSL
  have HCL := qd hCL
  have HZR := qd (show w.heap.size + 2 ≤ wr.heap.size by have := hCL.size; rw [HZ3.out] at this; exact this)
  have HF := qd hf
  clear hbL hmL hSL hCL
  by_cases hlt : i ≤ l
  · have h1 : (i : Int) ≤ (l : Int) := by omega
    have h3 : (i : Int) ≤ 67108864 := by omega
    have HIN := qd (show i / 64 < N by omega)
    go_wp2_with fail
    refine (add_any (w.heap.size + 2) (w.heap.size + 1) 0 skL wsL r N i _ HSL.out HBL.out hN HIN.out HZR.out).mono ?_
    rintro en w5 ⟨⟨_, rfl⟩, sk5, ws5, r5, h5, c5, b5, m5⟩
    have H5 := qd h5
    have C5 := qd (HCL.out.trans c5)
    have B5 := qd b5
    have M5 := qd m5
    clear h5 c5 b5 m5
    go_wp2_with fail
    go_roundw
    case measure => simp [intOf]; omega
    case rel => exact ⟨i + 1, sk5, ws5, r5, by go_num, by omega, by omega, B5.out, fun j => by rw [M5.out, HML.out]; omega, H5.out, C5.out⟩
  · have h1 : ¬ (i : Int) ≤ (l : Int) := by omega
    have hK : ∀ b, b < w.heap.size + 1 → wr.heap[b]? = w3.heap[b]? := fun b hb => HCL.out.block b (by rw [HZ3.out]; omega) (by omega) (by simp)
    have HBF := qd (show Below w.heap.size w wr from HBW.out.trans ⟨HCL.out.os, HCL.out.tape, HCL.out.output, HCL.out.size, fun k hk => hK k (by omega)⟩)
    obtain ⟨a9, c9, k0, k1, hv9⟩ := HSL.out.val HBL.out (fun b => w.heap.size + 2 ≤ b) (fun k h1 h2 => h1)
    have t0 := (cob (a := ⟨w.heap.size, 0, none⟩) (hK w.heap.size (by omega))).trans (HB2.out 0)
    have t1 := (cob (a := ⟨w.heap.size, 1, none⟩) (hK w.heap.size (by omega))).trans (HB2.out 1)
    have u0 := (World.frozen?_of_block (a := ⟨w.heap.size, 0, none⟩) (hK w.heap.size (by omega))).trans (HG2.out 0)
    have u1 := (World.frozen?_of_block (a := ⟨w.heap.size, 1, none⟩) (hK w.heap.size (by omega))).trans (HG2.out 1)
    simp only [List.getElem?_toArray, List.getElem?_cons_succ, List.getElem?_cons_zero] at t0 t1
    simp only [Nat.zero_add] at k1
    obtain ⟨n9, hn9⟩ : ∃ n9, n9 = wsL.length := ⟨_, rfl⟩
    rw [← hn9] at k1
    have HN9 := qd hn9
    have HV9 := qd hv9
    clear hv9 hn9 hK
    go_wp2_with fail
    obtain ⟨y0, y1⟩ := two_put wr w.heap.size t0 t1 (.int .i64 (skL : Int)) (.slice a9 n9 c9)
    refine bodyPost_ret (v := .agg #[.int .i64 (skL : Int), .slice a9 n9 c9]) (by simp [results, Tryz.results34, go_sem, y0, y1]) rfl (NewSet.of skL wsL a9 c9 (by rw [HN9.out]; rfl) ?_ HV9.out.bd ?_ (fun p hp => by have h9 : w.heap.size + 2 ≤ p.block := HV9.out.low p hp; omega) (fun j => ?_))
    · exact (HBF.out.setCell (by simp) _).setCell (by simp) _
    · exact (HV9.out.at_.set _ _ (fun p hp => by have h9 : w.heap.size + 2 ≤ p.block := HV9.out.low p hp; show p.block ≠ w.heap.size; omega)).set _ _ (fun p hp => by have h9 : w.heap.size + 2 ≤ p.block := HV9.out.low p hp; show p.block ≠ w.heap.size; omega)
    · rw [HML.out]; have := HF.out; omega
theorem row_drop {xs : List UInt8} {i : Nat} {c : UInt8} (h : i < xs.length) : (xs.set i c).drop i = c :: xs.drop (i + 1) := by
 rw [List.drop_eq_getElem_cons (by rw [List.length_set]; exact h), List.getElem_set_self, List.drop_set_of_lt (by omega)]
theorem pow2_36 (w : World) : Calls Tryz.prog 120 #[.int .i64 36] w fun e w' => e = .returned (.bool false) ∧ w = w' := by
 have h : bits .and .i64 36 35 = 32 := by decide
 go_enter Tryz.func120, Tryz.ntmps120
 go_wp2_with fail
 go_ret
 exact ⟨rfl, rfl⟩
theorem zero65 (w : World) : Row (w.alloc (.cells Tryz.zeroCells170 170)) w.heap.size (List.replicate 65 0) := by
 intro j hj
 rw [List.length_replicate] at hj
 refine ⟨?_, World.frozen?_alloc_at _ _ _ _ rfl⟩
 rw [World.cell?_alloc_at _ _ _ _ rfl, List.getElem_replicate]
 have e : Tryz.zeroCells170 = (List.replicate 65 (Value.int .u8 0)).toArray := by kernel_rfl
 rw [e, List.getElem?_toArray, List.getElem?_replicate, if_pos hj]
 rfl
theorem add_atB (b o k : Nat) : (⟨b, o, none⟩ : Addr).add k = ⟨b, o + k, none⟩ := by unfold Addr.add; split <;> simp_all
theorem row_news {w : World} {g i : Nat} {xs : List UInt8} (h : Row w g xs) : ∀ (j : Nat) (h : j < (xs.drop i).length), w.cell? ((⟨g, i, none⟩ : Addr).add j) = some (.int .u8 ((xs.drop i)[j].toNat : Int)) := fun j hj => by
 rw [add_atB]
 rw [List.length_drop] at hj
 have := (h (i + j) (by omega)).1
 rw [List.getElem_drop]; exact this
theorem digit_at (d : Nat) (h : d < 36) (hs : d < (⟨#[48, 49, 50, 51, 52, 53, 54, 55, 56, 57, 97, 98, 99, 100, 101, 102, 103, 104, 105, 106, 107, 108, 109, 110, 111, 112, 113, 114, 115, 116, 117, 118, 119, 120, 121, 122]⟩ : ByteArray).size) : (⟨#[48, 49, 50, 51, 52, 53, 54, 55, 56, 57, 97, 98, 99, 100, 101, 102, 103, 104, 105, 106, 107, 108, 109, 110, 111, 112, 113, 114, 115, 116, 117, 118, 119, 120, 121, 122]⟩ : ByteArray)[d] = dig36 d := by
 rcases d with _|_|_|_|_|_|_|_|_|_|_|_|_|_|_|_|_|_|_|_|_|_|_|_|_|_|_|_|_|_|_|_|_|_|_|_|d
 all_goals first | omega | rfl
theorem wrap_q {u q d : Nat} (hu : u < 2 ^ 64) (hq : q = u / 36) (hd : d = u % 36) : IntKind.u64.wrap (q : Int) = (q : Int) ∧ IntKind.u64.wrap ((q : Int) * 36) = (q : Int) * 36 ∧ IntKind.u64.wrap ((u : Int) - (q : Int) * 36) = (d : Int) := by
 have hu' : (u : Int) < 2 ^ 64 := by exact_mod_cast hu
 refine ⟨wrap_u64 _ (by omega) (by omega), wrap_u64 _ (by omega) (by omega), ?_⟩
 rw [wrap_u64 _ (by omega) (by omega)]; omega
theorem slice65 (W : World) (g m : Nat) (h : m < 65) : (Instr.sliceAt 170 (.pointer (some ⟨g, 0, none⟩)) (some (.int .i64 (m : Int))) none none).run Tryz.prog W = .ok (.slice (some ⟨g, m, none⟩) (65 - m) (65 - m)) W := by
 have hlen : Tryz.prog.arrayLen 170 = 65 := by kernel_rfl
 have hsz : (sizeOf (Tryz.prog.elem 170)).run Tryz.prog W = .ok 1 W := by kernel_rfl
 have h1 := run_sliceAt_array_l (P := Tryz.prog) (w := W) (t := 170) (a := ⟨g, 0, none⟩) (by kernel_rfl) .i64 (m : Int) (by omega) (by rw [hlen]; omega)
 rw [h1, hlen, hsz]
 have hne : ¬ (65 : Nat) = m := by omega
 simp [slicedAt, hne, add_atB]
theorem room36 {u u' i : Nat} (hm : u' * 2 ^ (65 - i) ≤ u) (hu : u < 2 ^ 64) (h : i = 65 ∨ 1 ≤ u') : 1 ≤ i ∧ u' < 2 ^ 64 := by
 constructor
 · rcases h with h | h
   · omega
   · by_cases c : i = 0
     · subst c
       have h2 : 1 * 2 ^ 65 ≤ u' * 2 ^ 65 := Nat.mul_le_mul_right _ h
       simp only [Nat.sub_zero] at hm
       have : (2 : Nat) ^ 64 < 2 ^ 65 := by decide
       omega
     · omega
 · have : u' * 1 ≤ u' * 2 ^ (65 - i) := Nat.mul_le_mul_left _ (Nat.two_pow_pos _)
   omega
set_option maxRecDepth 100000 in
set_option maxHeartbeats 400000 in
theorem bits36_any (B : Nat) (v : Value) (xs : List UInt8) (u : Nat) (w : World) (hu : u < 2 ^ 64) (ho : Own 5 B w v xs) (hl : xs.length ≤ 1073741824) (hB : B ≤ w.heap.size) :
 Calls Tryz.prog 116 #[v, .int .u64 (u : Int), .int .i64 36, .bool false, .bool true] w fun e w' => ∃ v', e = .returned (.tuple #[v', .string ⟨#[]⟩]) ∧ Own 5 B w' v' (xs ++ d36 u) ∧ Below B w w' := by
 have HO := qd ho
 clear ho
 go_enter Tryz.func116, Tryz.ntmps116
 go_wp2_with fail
 refine (pow2_36 _).mono ?_
 rintro en w1 ⟨rfl, rfl⟩
 have HR0 := qd (zero65 w)
 have HBA := qd (show ∀ o, Below w.heap.size w (w.alloc o) from fun o => (Below.refl _ w).alloc (Nat.le_refl _) o)
 have HOA := qd (show ∀ o, Own 5 B (w.alloc o) v xs from fun o => HO.out.alloc o)
 obtain ⟨W1, hW1⟩ : ∃ W1, W1 = w.alloc (.cells Tryz.zeroCells170 170) := ⟨_, rfl⟩
 have HW1 := qd hW1
 have HU := qd hu
 clear hW1 hu
 go_wp2_with fail
 go_loopw [1, 13] (fun su si wr => ∃ (u' i : Nat) (zs : List UInt8), su = .int .u64 (u' : Int) ∧ si = .int .i64 (i : Int) ∧ i ≤ 65 ∧ zs.length = 65 ∧ Row wr w.heap.size zs ∧ Below w.heap.size w wr ∧ d36 u = d36 u' ++ zs.drop i ∧ u' * 2 ^ (65 - i) ≤ u ∧ (i = 65 ∨ 1 ≤ u')) (fun su _ _ => (intOf su).toNat)
 case atStart => exact ⟨u, 65, List.replicate 65 0, rfl, rfl, by omega, by simp, HR0.out, HBA.out _, by rw [List.drop_eq_nil_of_le (by simp), List.append_nil], by simp, .inl rfl⟩
 case round =>
  obtain ⟨u', i, zs, rfl, rfl, hi, hzl, hrow, hbl, hd, hm, h1⟩ := hrel
  obtain ⟨hi1, hu64⟩ := room36 hm HU.out h1
  have HBL := qd hbl
  have HROW := qd hrow
  obtain ⟨m, rfl⟩ : ∃ m, i = m + 1 := ⟨i - 1, by omega⟩
  have hml : m < zs.length := by omega
  have HZL := qd hzl
  have HM := qd hm
  have HD := qd hd
  have HH := qd h1
  have hc0 := (hrow m hml).1
  have hf0 := (hrow m hml).2
  generalize zs[m] = z0 at *
  have j0 : (0 : Int) ≤ (m : Int) := by omega
  have j1 : (m : Int) < 65 := by omega
  have hm1 : ((m + 1 : Nat) : Int) - 1 = (m : Int) := by omega
  have hww := qd (show wrap64 ((m : Int)) = (m : Int) by unfold wrap64; omega)
  have HMB := qd (show m + 1 ≤ 65 from hi)
  clear hi hzl hrow hbl hd hm h1 hi1 hml
  by_cases hlt : 36 ≤ u'
  · obtain ⟨q, hq⟩ : ∃ q, q = u' / 36 := ⟨_, rfl⟩
    obtain ⟨d, hd⟩ : ∃ d, d = u' % 36 := ⟨_, rfl⟩
    have hd36 : d < 36 := by omega
    have hdg := fun hs => digit_at d hd36 hs
    obtain ⟨e1, e2, e3⟩ := wrap_q hu64 hq hd
    have hdi : (d : Int) < 36 := by omega
    have hdi0 : (0 : Int) ≤ (d : Int) := by omega
    have HDQ := qd (show d36 u' = d36 q ++ [dig36 d] by rw [hq, hd]; exact d36_big u' hlt)
    have hqi : (u' : Int) / 36 = (q : Int) := by omega
    have hge : (36 : Int) ≤ (u' : Int) := by omega
    have HQ := qd (show q < u' ∧ 1 ≤ q ∧ q * 2 ≤ u' by omega)
    have HU64 := qd hu64
    clear hu64 hq hd hlt hm1
    have HSTR := qd (HROW.out.store m (by rw [HZL.out]; have := HMB.out; omega) (dig36 d))
    go_wp2_with fail
    go_roundw
    case measure => simp [intOf]; have := HQ.out; omega
    case rel =>
        refine ⟨q, m, zs.set m (dig36 d), rfl, rfl, by have := HMB.out; omega, by rw [List.length_set]; exact HZL.out, HSTR.out, HBL.out.setCell (Nat.le_refl _) _, ?_, ?_, .inr HQ.out.2.1⟩
        · rw [HD.out, HDQ.out, row_drop (by rw [HZL.out]; have := HMB.out; omega)]; simp
        · have h2 := HM.out
          have h3 : 2 ^ (65 - m) = 2 * 2 ^ (65 - (m + 1)) := by
           rw [show 65 - m = (65 - (m + 1)) + 1 by have := HMB.out; omega, Nat.pow_succ]; omega
          rw [h3, ← Nat.mul_assoc]
          exact Nat.le_trans (Nat.mul_le_mul_right _ HQ.out.2.2) h2
  · have hd36 : u' < 36 := by omega
    have hdg := fun hs => digit_at u' hd36 hs
    have hge : ¬ (36 : Int) ≤ (u' : Int) := by omega
    have hdi : (u' : Int) < 36 := by omega
    have hdi0 : (0 : Int) ≤ (u' : Int) := by omega
    have HDQ := qd (show d36 u' = [dig36 u'] from d36_small u' hd36)
    have HU64 := qd hu64
    have HSTR := qd (HROW.out.store m (by rw [HZL.out]; have := HMB.out; omega) (dig36 u'))
    have HBS := qd (show Below w.heap.size w (wr.setCell ⟨w.heap.size, m, none⟩ (.int .u8 ((dig36 u').toNat : Int))) from HBL.out.setCell (Nat.le_refl _) _)
    have HNEWS := qd (row_news (i := m) HSTR.out)
    have HLN := qd (show ((zs.set m (dig36 u')).drop m).length = 65 - m by rw [List.length_drop, List.length_set, HZL.out])
    have HRES := qd (show (zs.set m (dig36 u')).drop m = d36 u by rw [HD.out, HDQ.out, row_drop (by rw [HZL.out]; have := HMB.out; omega)]; simp)
    obtain ⟨nw, hnw⟩ : ∃ nw, nw = 65 - m := ⟨_, rfl⟩
    have hnw2 : (65 : Int) - (m : Int) = (nw : Int) := by have := HMB.out; omega
    have HNW := qd hnw
    have HLB := qd (show xs.length + ((zs.set m (dig36 u')).drop m).length ≤ 1099511627776 by rw [HLN.out]; omega)
    have HOS := qd (HO.out.kept (B' := 0) HBS.out)
    have HBZ := qd (Nat.le_trans hB HBS.out.size)
    clear hu64 hlt hm1 hnw
    have hsl := fun W => slice65 W w.heap.size m (by omega)
    go_wp2_with (at_builtin; refine wp_append_bytes Tryz.underlying22 Tryz.infoU8 rfl _ _ rfl B v xs rfl HOS.out ⟨w.heap.size, m, none⟩ (65 - m) (65 - m) ((zs.set m (dig36 u')).drop m) HLN.out.symm rfl HNEWS.out HLB.out HBZ.out ?_; intro v' w' ho' hb')
    have HO' := qd ho'
    have HB' := qd hb'
    clear ho' hb'
    go_wp2_with fail
    go_ret2
    refine ⟨_, rfl, ?_, (HBS.out.mono hB).trans HB'.out⟩
    have h9 := HO'.out
    rw [HRES.out] at h9
    exact h9
theorem appendUint36_any (B : Nat) (v : Value) (xs : List UInt8) (u : Nat) (w : World) (hu : u < 2 ^ 64) (ho : Own 5 B w v xs) (hl : xs.length ≤ 1073741824) (hB : B ≤ w.heap.size) :
 Calls Tryz.prog 111 #[v, .int .u64 (u : Int), .int .i64 36] w fun e w' => ∃ v', e = .returned v' ∧ Own 5 B w' v' (xs ++ d36 u) ∧ Below B w w' := by
 have HC := qd (bits36_any B v xs u w hu ho hl hB)
 clear ho hu
 go_enter Tryz.func111, Tryz.ntmps111
 go_wp2_with fail
 refine HC.out.mono ?_
 rintro en w1 ⟨v', rfl, h1, h2⟩
 go_wp2_with fail
 go_ret
 exact ⟨_, rfl, h1, h2⟩
theorem pubUint36_any (B : Nat) (v : Value) (xs : List UInt8) (u : Nat) (w : World) (hu : u < 2 ^ 64) (ho : Own 5 B w v xs) (hl : xs.length ≤ 1073741824) (hB : B ≤ w.heap.size) :
 Calls Tryz.prog 108 #[v, .int .u64 (u : Int), .int .i64 36] w fun e w' => ∃ v', e = .returned v' ∧ Own 5 B w' v' (xs ++ d36 u) ∧ Below B w w' := by
 have HC := qd (appendUint36_any B v xs u w hu ho hl hB)
 clear ho hu
 go_enter Tryz.func108, Tryz.ntmps108
 go_wp2_with fail
 refine HC.out.mono ?_
 rintro en w1 ⟨v', rfl, h1, h2⟩
 go_wp2_with fail
 go_ret
 exact ⟨_, rfl, h1, h2⟩
theorem appendInt36_any (B : Nat) (v : Value) (xs : List UInt8) (u : Nat) (w : World) (hu : u ≤ 4194304) (ho : Own 5 B w v xs) (hl : xs.length ≤ 1073741824) (hB : B ≤ w.heap.size) :
 Calls Tryz.prog 110 #[v, .int .i64 (u : Int), .int .i64 36] w fun e w' => ∃ v', e = .returned v' ∧ Own 5 B w' v' (xs ++ d36 u) ∧ Below B w w' := by
 have HC := qd (appendUint36_any B v xs u w (by omega) ho hl hB)
 have hw : IntKind.u64.wrap (u : Int) = (u : Int) := wrap_u64 _ (by omega) (by omega)
 have h0 : ¬ (u : Int) < 0 := by omega
 clear ho hu
 go_enter Tryz.func110, Tryz.ntmps110
 go_wp2_with fail
 refine HC.out.mono ?_
 rintro en w1 ⟨v', rfl, h1, h2⟩
 go_wp2_with fail
 go_ret
 exact ⟨_, rfl, h1, h2⟩
theorem pubInt36_any (B : Nat) (v : Value) (xs : List UInt8) (u : Nat) (w : World) (hu : u ≤ 4194304) (ho : Own 5 B w v xs) (hl : xs.length ≤ 1073741824) (hB : B ≤ w.heap.size) :
 Calls Tryz.prog 107 #[v, .int .i64 (u : Int), .int .i64 36] w fun e w' => ∃ v', e = .returned v' ∧ Own 5 B w' v' (xs ++ d36 u) ∧ Below B w w' := by
 have HC := qd (appendInt36_any B v xs u w hu ho hl hB)
 clear ho hu
 go_enter Tryz.func107, Tryz.ntmps107
 go_wp2_with fail
 refine HC.out.mono ?_
 rintro en w1 ⟨v', rfl, h1, h2⟩
 go_wp2_with fail
 go_ret
 exact ⟨_, rfl, h1, h2⟩
theorem keyT_len (sk : Nat) (hs : sk ≤ 4194304) : ∀ (ws : List Nat), (∀ x ∈ ws, x < 2 ^ 64) → (keyT sk ws).length ≤ 13 + ws.length * 14
 | ws, h => by
   have h1 := d36_len sk 12 (Nat.lt_of_le_of_lt hs (by decide))
   have h2 : ∀ ws : List Nat, (∀ x ∈ ws, x < 2 ^ 64) → (keyW ws).length ≤ ws.length * 14 := by
    intro ws
    induction ws with
    | nil => intro _; simp [keyW]
    | cons x ws ih =>
      intro h
      have h3 := d36_len x 12 (Nat.lt_trans (h x (by simp)) (by decide))
      have := ih (fun y hy => h y (by simp [hy]))
      simp only [keyW, List.flatMap_cons, List.length_append, List.length_cons] at this ⊢
      omega
   have := h2 ws h
   simp only [keyT, List.length_append]; omega
set_option maxRecDepth 100000 in
set_option maxHeartbeats 1000000 in
theorem key_any (N sk : Nat) (ws : List Nat) (a : Option Addr) (c : Nat) (w : World) (hN : N ≤ 1048576) (hb : SetB N sk ws) (hv : WordsAt w ws a) :
 Calls Tryz.prog 104 #[setV sk a ws.length c] w fun e w' => e = .returned (.string ⟨(keyT sk ws).toArray⟩) ∧ Below w.heap.size w w' := by
 have hle := hb.le
 obtain ⟨n, hn⟩ : ∃ n, n = ws.length := ⟨_, rfl⟩
 have HN := qd hn
 rw [← hn]
 have HLT := qd hb.lt
 have HV := qd hv
 have HBA := qd (show ∀ o, Below w.heap.size w (w.alloc o) from fun o => (Below.refl _ w).alloc (Nat.le_refl _) o)
 obtain ⟨w1, hw1⟩ : ∃ w1, w1 = w.alloc (.cells #[.int .i64 (sk : Int), .slice a n c] 68) := ⟨_, rfl⟩
 have hz1 : w1.heap.size = w.heap.size + 1 := by rw [hw1]; simp
 have HZ1 := qd hz1
 have HB1 := qd (show Below w.heap.size w w1 from by rw [hw1]; exact HBA.out _)
 have b0 : w1.cell? ⟨w.heap.size, 1, none⟩ = some (.slice a n c) := by rw [hw1, World.cell?_alloc_at _ _ _ _ rfl]; rfl
 have HB0 := qd b0
 have HC := qd (pubInt36_any (w.heap.size + 1) (.slice none 0 0) [] sk w1 (by omega) (World.ownsRow_nil _ _ _ _) (by simp) (by omega))
 have HW1 := qd hw1
 have hs4 : sk ≤ 4194304 := by omega
 have HKL := qd (fun ws h => keyT_len sk hs4 ws h)
 have HNB := qd (show n ≤ 1048576 by omega)
 clear hb hv hw1 hz1 b0 hn hle
 unfold setV
 go_enter Tryz.func104, Tryz.ntmps104
 go_wp2_with fail
 rw [← HW1.out]
 refine HC.out.mono ?_
 rintro en w2 ⟨v2, rfl, ho2, hb2⟩
 have HO2 := qd ho2
 have HB2 := qd hb2
 have e1 := (hb2.cell (p := ⟨w.heap.size, 1, none⟩) (by simp)).trans HB0.out
 clear ho2 hb2
 go_wp2_with fail
 go_loopw [12, 3] (fun iv vv wr => ∃ i : Nat, iv = .int .i64 (i : Int) ∧ i ≤ n ∧ Own 5 (w.heap.size + 1) wr vv (keyT sk (ws.take i)) ∧ Below (w.heap.size + 1) w1 wr) (fun iv _ _ => n - (intOf iv).toNat)
 case atStart => exact ⟨0, rfl, Nat.zero_le _, by have := HO2.out; rw [List.nil_append] at this; rw [List.take_zero, keyT_nil]; exact this, HB2.out⟩
 case round =>
  obtain ⟨i, rfl, hi, ho, hb⟩ := hrel
  have HO := qd ho
  have HB := qd hb
  have HBF := qd (HB1.out.trans (hb.mono (by omega)))
  have HVR := qd (HV.out.kept HBF.out)
  clear ho hb
  by_cases hlt : i < n
  · have hil : i < ws.length := by have := HN.out; omega
    have hi8 : (i : Int) ≤ 1048576 := by have := HNB.out; omega
    have j0 : (0 : Int) ≤ (i : Int) := by omega
    have j1 : (i : Int) < (n : Int) := by omega
    obtain ⟨bb, hbb, _, d0⟩ := HVR.out i hil
    have hbb' : a = some ⟨bb, 0, none⟩ := hbb
    subst hbb'
    have HT := qd (show keyT sk (ws.take (i + 1)) = keyT sk (ws.take i) ++ [32] ++ d36 ws[i] by rw [List.take_succ_eq_append_getElem hil, keyT_snoc])
    have HXL := qd (HLT.out ws[i] (List.getElem_mem hil))
    have HKB := qd (show (keyT sk (ws.take i)).length ≤ 14680077 from by
        have := HKL.out (ws.take i) (fun x hx => HLT.out x (List.mem_of_mem_take hx))
        have h2 : (ws.take i).length ≤ 1048576 := by rw [List.length_take]; have := HN.out; have := HNB.out; omega
        omega)
    generalize ws[i] = x at *
    generalize keyT sk (ws.take i) = ks at *
    have HI := qd (show i + 1 ≤ n by omega)
    have HAL := qd (show ks.length + [(32 : UInt8)].length ≤ 1099511627776 from by have := HKB.out; simp; omega)
    have HBZ := qd (show w.heap.size + 1 ≤ wr.heap.size from by have := HB.out.size; have := HZ1.out; omega)
    have HBZ3 := qd (show ∀ o, w.heap.size + 1 ≤ (wr.alloc o).heap.size from fun o => by rw [World.size_alloc]; exact Nat.le_succ_of_le HBZ.out)
    clear hil hi hbb
    go_wp2_with (at_builtin; refine wp_append_bytes Tryz.underlying22 Tryz.infoU8 rfl _ _ rfl (w.heap.size + 1) _ ks rfl (HO.out.alloc _) ⟨wr.heap.size, 0, none⟩ 1 1 [32] rfl rfl (news_lit wr _ [32] [.int .u8 32] rfl) HAL.out (HBZ3.out _) ?_; intro v3 w3 ho3 hb3; have HO3 := qd ho3; have HB3 := qd hb3; clear ho3 hb3)
    refine (pubUint36_any (w.heap.size + 1) v3 (ks ++ [32]) x w3 HXL.out HO3.out (by have := HKB.out; simp; omega) (Nat.le_trans (HBZ3.out _) HB3.out.size)).mono ?_
    rintro en w4 ⟨v4, rfl, ho4, hb4⟩
    have HO4 := qd ho4
    have HB4 := qd hb4
    clear ho4 hb4
    go_wp2_with fail
    go_roundw
    case measure => simp [intOf]; have := HI.out; omega
    case rel => exact ⟨i + 1, by go_num, HI.out, by rw [HT.out]; exact HO4.out, ((HB.out.alloc HBZ.out _).trans HB3.out).trans HB4.out⟩
  · obtain rfl : i = n := by omega
    have hbk := HO.out.back 22 9 Tryz.underlying22 Tryz.underlying5 Tryz.underlying9
    rw [List.take_of_length_le (by have := HN.out; omega)] at hbk
    go_wp2_with fail
    go_ret
    exact ⟨rfl, HBF.out⟩
end Go.Proofs.YtcimhpdpfckgiaaGreatDoor.kit
