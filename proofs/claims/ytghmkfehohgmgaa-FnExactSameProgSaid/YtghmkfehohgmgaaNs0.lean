/-
  Contract of spec.l06Same over this seat's translation: whether two trees of nodes are alike. Conditions: each theorem names its own.
-/
import Derived.Test.YtghmkfehohgmgaaNd8
namespace Go.Proofs.Ytghmkfehohgmgaa.kit
open Go.ChangeShapes Go.WideShapes Go.ChangeAt Go.RowKit
set_option linter.unusedVariables false

namespace NT
/-- Whether two nodes are alike but for their kids. -/
def top (t u : NT) : Bool := t.kind == u.kind && t.num == u.num && (t.text.toList == u.text.toList) && (t.kids.length == u.kids.length)
mutual
def same : NT → NT → Bool
  | node k n s ts, u => top (node k n s ts) u && sames ts u.kids
def sames : List NT → List NT → Bool
  | [], [] => true
  | t :: ts, u :: us => same t u && sames ts us
  | _, _ => false
end
theorem same_eq (t u : NT) : same t u = (top t u && sames t.kids u.kids) := by cases t; rw [same]; rfl
theorem sames_len : ∀ (ts us : List NT), sames ts us = true → ts.length = us.length
  | [], [], _ => rfl
  | [], _ :: _, h => by simp [sames] at h
  | _ :: _, [], h => by simp [sames] at h
  | t :: ts, u :: us, h => by simp only [sames, Bool.and_eq_true] at h; simp [sames_len ts us h.2]
/-- The first k are alike. -/
theorem sames_take_no : ∀ (ts us : List NT) (k : Nat) (h : k < ts.length) (h' : k < us.length), same ts[k] us[k] = false → sames ts us = false
  | [], _, _, h, _, _ => by simp at h
  | t :: ts, [], _, _, h, _ => by simp at h
  | t :: ts, u :: us, 0, _, _, hs => by simp only [List.getElem_cons_zero] at hs; simp [sames, hs]
  | t :: ts, u :: us, k + 1, h, h', hs => by
    simp only [List.getElem_cons_succ] at hs
    simp [sames, sames_take_no ts us k (by simpa using h) (by simpa using h') hs]
theorem sames_all : ∀ (ts us : List NT), ts.length = us.length → (∀ k (h : k < ts.length) (h' : k < us.length), same ts[k] us[k] = true) → sames ts us = true
  | [], [], _, _ => rfl
  | [], _ :: _, h, _ => by simp at h
  | _ :: _, [], h, _ => by simp at h
  | t :: ts, u :: us, h, hs => by
    have h0 := hs 0 (by simp) (by simp)
    simp only [List.getElem_cons_zero] at h0
    simp only [sames, h0, Bool.true_and]
    exact sames_all ts us (by simpa using h) fun k hk hk' => by have := hs (k + 1) (by simpa using hk) (by simpa using hk'); simpa using this
end NT
theorem nd_two (w : World) (x y : Obj) : ((w.alloc x).alloc y).heap[w.heap.size]? = some x ∧ ((w.alloc x).alloc y).heap[w.heap.size + 1]? = some y := by
  have h1 := heap_alloc_new w x
  have h2 := heap_alloc_new (w.alloc x) y
  exact ⟨(heap_alloc_old (w.alloc x) y (by simp)).trans h1, by simpa using h2⟩
/-- A box that holds a node. -/
def NBox (w : World) (g : Nat) (t : NT) (a : Option Addr) (c : Nat) : Prop := RowB w g [.int .i64 t.kind, .int .i64 t.num, .string t.text, .slice a t.kids.length c]
theorem NBox.cells {w : World} {g : Nat} {t : NT} {a : Option Addr} {c : Nat} (h : NBox w g t a c) : w.cell? ⟨g, 0, none⟩ = some (.int .i64 t.kind) ∧ w.cell? ⟨g, 1, none⟩ = some (.int .i64 t.num) ∧ w.cell? ⟨g, 2, none⟩ = some (.string t.text) ∧ w.cell? ⟨g, 3, none⟩ = some (.slice a t.kids.length c) :=
  ⟨RowB.cell h 0, RowB.cell h 1, RowB.cell h 2, RowB.cell h 3⟩
def NTen (g n n' : Nat) (a a' : Option Addr) (cap cap' b o b' o' k : Nat) (t u : NT) (a1 a2 : Option Addr) (c1 c2 : Nat) (w W : World) : Prop := (W.cell? ⟨b, o + k * 4, none⟩ = some (.int .i64 t.kind) ∧ W.cell? ⟨b, o + k * 4 + 1, none⟩ = some (.int .i64 t.num) ∧ W.cell? ⟨b, o + k * 4 + 2, none⟩ = some (.string t.text) ∧ W.cell? ⟨b, o + k * 4 + 3, none⟩ = some (.slice a1 t.kids.length c1) ∧ W.cell? ⟨b', o' + k * 4, none⟩ = some (.int .i64 u.kind) ∧ W.cell? ⟨b', o' + k * 4 + 1, none⟩ = some (.int .i64 u.num) ∧ W.cell? ⟨b', o' + k * 4 + 2, none⟩ = some (.string u.text) ∧ W.cell? ⟨b', o' + k * 4 + 3, none⟩ = some (.slice a2 u.kids.length c2) ∧ W.cell? ⟨g, 3, none⟩ = some (.slice a n cap) ∧ W.cell? ⟨g + 1, 3, none⟩ = some (.slice a' n' cap')) ∧ (b < W.heap.size ∧ b' < W.heap.size ∧ g + 1 < W.heap.size) ∧ Below w.heap.size w W
theorem NTen.start {g n n' : Nat} {a a' : Option Addr} {cap cap' b o b' o' k : Nat} {t u : NT} {a1 a2 : Option Addr} {c1 c2 : Nat} {w W : World} (h : NTen g n n' a a' cap cap' b o b' o' k t u a1 a2 c1 c2 w W) : NTen g n n' a a' cap cap' b o b' o' k t u a1 a2 c1 c2 w W.drew := ⟨h.1, h.2.1, h.2.2.drew⟩
theorem NTen.step {g n n' : Nat} {a a' : Option Addr} {cap cap' b o b' o' k : Nat} {t u : NT} {a1 a2 : Option Addr} {c1 c2 : Nat} {w W W' : World} (h : NTen g n n' a a' cap cap' b o b' o' k t u a1 a2 c1 c2 w W) (hb : Below W.heap.size W W') : NTen g n n' a a' cap cap' b o b' o' k t u a1 a2 c1 c2 w W' := by
  obtain ⟨⟨h0, h1, h2, h3, g0, g1, g2, g3, x0, x1⟩, ⟨q, q', q2⟩, hB⟩ := h
  have e : ∀ j, W'.cell? ⟨b, j, none⟩ = W.cell? ⟨b, j, none⟩ := fun j => hb.cell (p := ⟨b, j, none⟩) q
  have e' : ∀ j, W'.cell? ⟨b', j, none⟩ = W.cell? ⟨b', j, none⟩ := fun j => hb.cell (p := ⟨b', j, none⟩) q'
  have e1 : W'.cell? ⟨g, 3, none⟩ = W.cell? ⟨g, 3, none⟩ := hb.cell (p := ⟨g, 3, none⟩) (by show g < W.heap.size; omega)
  have e2 : W'.cell? ⟨g + 1, 3, none⟩ = W.cell? ⟨g + 1, 3, none⟩ := hb.cell (p := ⟨g + 1, 3, none⟩) q2
  exact ⟨⟨(e _).trans h0, (e _).trans h1, (e _).trans h2, (e _).trans h3, (e' _).trans g0, (e' _).trans g1, (e' _).trans g2, (e' _).trans g3, e1.trans x0, e2.trans x1⟩, ⟨Nat.lt_of_lt_of_le q hb.size, Nat.lt_of_lt_of_le q' hb.size, Nat.lt_of_lt_of_le q2 hb.size⟩, hB.trans (hb.mono hB.size)⟩
theorem NTen.below {g n n' : Nat} {a a' : Option Addr} {cap cap' b o b' o' k : Nat} {t u : NT} {a1 a2 : Option Addr} {c1 c2 : Nat} {w W : World} (h : NTen g n n' a a' cap cap' b o b' o' k t u a1 a2 c1 c2 w W) : Below w.heap.size w W := h.2.2
def NsOne (t : NT) : Prop := ∀ (u : NT) (a : Option Addr) (cap : Nat) (a' : Option Addr) (cap' : Nat) (w : World), NKids 0 w t.kids a → NKids 0 w u.kids a' → NT.cost t ≤ 1048576 → NT.cost u ≤ 1048576 →
  Calls Try.prog 33 #[ndV t a cap, ndV u a' cap'] w fun e w' => e = .returned (.bool (NT.same t u)) ∧ Below w.heap.size w w'
set_option maxRecDepth 100000 in
set_option maxHeartbeats 4000000 in
theorem nsOne_of {t : NT} (h : ∀ x ∈ t.kids, NsOne x) : NsOne t := by
  intro u a cap a' cap' w hk hk' hc hc'
  have HK := Lib.hid hk
  have HK' := Lib.hid hk'
  have HS := Lib.hid h
  have HE := Lib.hid (NT.same_eq t u)
  have hb1 : NT.bill t.kids ≤ 1048576 := by have := NT.cost_eq t; omega
  have hb2 : NT.bill u.kids ≤ 1048576 := by have := NT.cost_eq u; omega
  clear hk hk' h hc hc'
  generalize NT.same t u = res at *
  obtain ⟨k0, n0, s0, ts⟩ := t
  obtain ⟨k1, n1, s1, us⟩ := u
  unfold ndV
  unfold NT.top at HE
  simp only [NT.text, NT.kids, NT.kind, NT.num] at *
  have hl : ts.length ≤ 1048576 := by simp only [NT.bill] at hb1; omega
  have hl2 : us.length ≤ 1048576 := by simp only [NT.bill] at hb2; omega
  obtain ⟨t6, t7⟩ := nd_two w (.cells #[.int .i64 k0, .int .i64 n0, .string s0, .slice a ts.length cap] 58) (.cells #[.int .i64 k1, .int .i64 n1, .string s1, .slice a' us.length cap'] 58)
  have S1 : Hid (NBox ((w.alloc (.cells #[.int .i64 k0, .int .i64 n0, .string s0, .slice a ts.length cap] 58)).alloc (.cells #[.int .i64 k1, .int .i64 n1, .string s1, .slice a' us.length cap'] 58)) w.heap.size (.node k0 n0 s0 ts) a cap) := Lib.hid ⟨_, t6⟩
  have S2 : Hid (NBox ((w.alloc (.cells #[.int .i64 k0, .int .i64 n0, .string s0, .slice a ts.length cap] 58)).alloc (.cells #[.int .i64 k1, .int .i64 n1, .string s1, .slice a' us.length cap'] 58)) (w.heap.size + 1) (.node k1 n1 s1 us) a' cap') := Lib.hid ⟨_, t7⟩
  have HB := Lib.hid (show Below w.heap.size w ((w.alloc (.cells #[.int .i64 k0, .int .i64 n0, .string s0, .slice a ts.length cap] 58)).alloc (.cells #[.int .i64 k1, .int .i64 n1, .string s1, .slice a' us.length cap'] 58)) from (((Below.refl w.heap.size w).alloc (Nat.le_refl _) _).alloc (by simp) _))
  clear t6 t7
  go_enter Try.func33, Try.ntmps33
  by_cases c1 : k0 = k1
  case neg =>
    have e1 : (k0 == k1) = false := by simpa using c1
    have E : Hid (res = false) := Lib.hid (by rw [HE.out, e1]; rfl)
    go_wp2_with fail
    go_ret
    exact ⟨ret_bool E.out.symm, HB.out⟩
  subst c1
  by_cases c2 : n0 = n1
  case neg =>
    have e1 : (n0 == n1) = false := by simpa using c2
    have E : Hid (res = false) := Lib.hid (by rw [HE.out, e1]; simp)
    go_wp2_with fail
    go_ret
    exact ⟨ret_bool E.out.symm, HB.out⟩
  subst c2
  cases c3 : (s0.toList == s1.toList)
  case false =>
    have E : Hid (res = false) := Lib.hid (by rw [HE.out, c3]; simp)
    go_wp2_with fail
    go_ret
    exact ⟨ret_bool E.out.symm, HB.out⟩
  by_cases c4 : ts.length = us.length
  case neg =>
    have e1 : ((ts.length : Int) == (us.length : Int)) = false := by rw [beq_eq_false_iff_ne]; omega
    have e4 : (ts.length == us.length) = false := by simpa using c4
    have E : Hid (res = false) := Lib.hid (by rw [HE.out, e4]; simp)
    go_wp2_with fail
    go_ret
    exact ⟨ret_bool E.out.symm, HB.out⟩
  have E : Hid (res = NT.sames ts us) := Lib.hid (by
    have e4 : (ts.length == us.length) = true := by simpa using c4
    rw [HE.out, c3, e4]; simp)
  have c5 : us.length = ts.length := c4.symm
  have HL := Lib.hid c5
  rw [c5] at S1 S2 HB ⊢
  clear c4 HE hl2
  go_wp2_with fail
  go_loopw [5] (fun i wr => ∃ k : Nat, k ≤ ts.length ∧ i = .int .i64 (k : Int) ∧ (∀ j (h : j < ts.length) (h' : j < us.length), j < k → NT.same ts[j] us[j] = true) ∧ NBox wr w.heap.size (.node k0 n0 s0 ts) a cap ∧ NBox wr (w.heap.size + 1) (.node k0 n0 s1 us) a' cap' ∧ Below w.heap.size w wr) (fun i _ => ts.length - (intOf i).toNat)
  case atStart => exact ⟨0, Nat.zero_le _, rfl, fun j _ _ h => absurd h (Nat.not_lt_zero j), S1.out, S2.out, HB.out⟩
  case round =>
    clear S1 S2 HB
    obtain ⟨k, hkl, rfl, hal, s1', s2', hb⟩ := hrel
    have HB := Lib.hid hb
    have Q1 := Lib.hid s1'
    have Q2 := Lib.hid s2'
    have HA := Lib.hid hal
    clear hb s1' s2' hal
    have u1 : wr.cell? ⟨w.heap.size, 3, none⟩ = some (.slice a ts.length cap) := Q1.out.cells.2.2.2
    have u2 : wr.cell? ⟨w.heap.size + 1, 3, none⟩ = some (.slice a' ts.length cap') := by rw [← c5]; exact Q2.out.cells.2.2.2
    by_cases hlt : k < ts.length
    · have hlt2 : k < us.length := by omega
      obtain ⟨a1, c1, he, hk1⟩ := (HK.out.kept (Nat.le_refl _) HB.out).elem k hlt
      obtain ⟨a2, c2, he', hk2⟩ := (HK'.out.kept (Nat.le_refl _) HB.out).elem k hlt2
      obtain ⟨b, o, rfl, _, hbl, ⟨e0, e1, e2, e3⟩, _, _⟩ := he
      obtain ⟨b', o', rfl, _, hbl', ⟨g0, g1, g2, g3⟩, _, _⟩ := he'
      have HO := Lib.hid (HS.out ts[k] (List.getElem_mem hlt) us[k])
      have hcost : NT.cost ts[k] ≤ 1048576 := by
        have h1 := NT.costs_take ts k hlt
        have h2 := NT.costs_le ts (k + 1)
        simp only [NT.bill] at hb1; omega
      have hcost2 : NT.cost us[k] ≤ 1048576 := by
        have h1 := NT.costs_take us k hlt2
        have h2 := NT.costs_le us (k + 1)
        simp only [NT.bill] at hb2; omega
      have HN := Lib.hid (NT.sames_take_no ts us k hlt hlt2)
      have HY : Hid (NT.same ts[k] us[k] = true → ∀ j (h : j < ts.length) (h' : j < us.length), j < k + 1 → NT.same ts[j] us[j] = true) := Lib.hid (fun hy j h h' hj => by
        by_cases e : j = k
        · subst e; exact hy
        · exact HA.out j h h' (by omega))
      have HT : NTen w.heap.size ts.length ts.length (some ⟨b, o, none⟩) (some ⟨b', o', none⟩) cap cap' b o b' o' k ts[k] us[k] a1 a2 c1 c2 wr _ := ⟨⟨e0, e1, e2, e3, g0, g1, g2, g3, u1, u2⟩, ⟨hbl, hbl', RowB.lt Q2.out⟩, Below.refl _ _⟩
      generalize ts[k] = t at *
      generalize us[k] = u at *
      have HT := Lib.hid HT
      have HO := Lib.hid (HO.out a1 c1 a2 c2 wr.drew hk1.drew hk2.drew hcost hcost2)
      have i0 : (0 : Int) ≤ (k : Int) := by omega
      have i1 : (k : Int) < (ts.length : Int) := by omega
      clear hk1 hk2 e0 e1 e2 e3 g0 g1 g2 g3
      unfold ndV at HO
      cases hsm : NT.same t u
      all_goals
        rw [hsm] at HO HN HY
        clear hsm
        go_wp2_with fail
        clear u1 u2
        go_region_held3 (fun w' => (w'.cell? ⟨b, o + k * 4, none⟩ = some (.int .i64 t.kind) ∧ w'.cell? ⟨b, o + k * 4 + 1, none⟩ = some (.int .i64 t.num) ∧ w'.cell? ⟨b, o + k * 4 + 2, none⟩ = some (.string t.text) ∧ w'.cell? ⟨b, o + k * 4 + 3, none⟩ = some (.slice a1 t.kids.length c1) ∧ w'.cell? ⟨b', o' + k * 4, none⟩ = some (.int .i64 u.kind) ∧ w'.cell? ⟨b', o' + k * 4 + 1, none⟩ = some (.int .i64 u.num) ∧ w'.cell? ⟨b', o' + k * 4 + 2, none⟩ = some (.string u.text) ∧ w'.cell? ⟨b', o' + k * 4 + 3, none⟩ = some (.slice a2 u.kids.length c2) ∧ w'.cell? ⟨w.heap.size, 3, none⟩ = some (.slice (some ⟨b, o, none⟩) ts.length cap) ∧ w'.cell? ⟨w.heap.size + 1, 3, none⟩ = some (.slice (some ⟨b', o', none⟩) ts.length cap')) ∧ (b < w'.heap.size ∧ b' < w'.heap.size ∧ w.heap.size + 1 < w'.heap.size) ∧ Below wr.heap.size wr w') (first | exact HT.out.start | exact NTen.step HT.out.start (by assumption)) (first | (go_at_call 33; refine HO.out.mono ?_; rintro e w2 ⟨rfl, hb2⟩))
        have HW := NTen.below (g := w.heap.size) (n := ts.length) (n' := ts.length) (a := some ⟨b, o, none⟩) (a' := some ⟨b', o', none⟩) (cap := cap) (cap' := cap') (b := b) (o := o) (b' := b') (o' := o') (k := k) (t := t) (u := u) (a1 := a1) (a2 := a2) (c1 := c1) (c2 := c2) (w := wr) (by assumption)
        have S1 := Lib.hid (RowB.kept Q1.out HW)
        have S2 := Lib.hid (RowB.kept Q2.out HW)
        have HB2 := Lib.hid (HB.out.trans (HW.mono HB.out.size))
        clear HW
        go_wp2_with fail
      · go_ret
        exact ⟨ret_bool (by rw [E.out, HN.out (by trivial)]), HB2.out⟩
      · go_roundw
        case rel => exact ⟨k + 1, by omega, by go_num, HY.out (by trivial), S1.out, S2.out, HB2.out⟩
        case measure => simp [intOf]; omega
    · obtain rfl : k = ts.length := by omega
      go_wp2_with fail
      go_ret
      exact ⟨ret_bool (by rw [E.out]; exact (NT.sames_all ts us HL.out.symm fun j h h' => HA.out j h h' h).symm), HB.out⟩
theorem ns_all : ∀ (N : Nat) (t : NT), NT.sz t ≤ N → NsOne t := by
  intro N
  induction N with
  | zero => intro t h; have := NT.sz_pos t; omega
  | succ N ih => intro t h; exact nsOne_of fun u hu => ih u (by have := NT.sz_kid t u hu; omega)
theorem l06Same_any (t : NT) : NsOne t := ns_all _ t (Nat.le_refl _)
end Go.Proofs.Ytghmkfehohgmgaa.kit
