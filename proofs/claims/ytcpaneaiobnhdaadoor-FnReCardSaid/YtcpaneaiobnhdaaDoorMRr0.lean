/-
 Plain facts on expressions for texts, of no program: the text of a set of bytes is read as that set. Conditions: each theorem names its own.
-/
import Derived.Test.YtcpaneaiobnhdaaDoorMRt10
import Derived.Test.YtcpaneaiobnhdaaDoorMPr0
namespace Go.Proofs.YtcpaneaiobnhdaaDoor.kit
open Go.ChangeShapes Go.WideShapes Go.ChangeAt Go.RowKit
set_option linter.unusedVariables false

/-- From place i on the text is L. -/
def AtL (s : ByteArray) (i : Nat) (L : List UInt8) : Prop := i ≤ s.size ∧ s.data.toList.drop i = L
theorem AtL.len {s : ByteArray} {i : Nat} {L : List UInt8} (h : AtL s i L) : i + L.length = s.size := by
 have := congrArg List.length h.2
 rw [List.length_drop] at this
 have h2 : s.data.toList.length = s.size := by simp
 have := h.1
 omega
theorem AtL.app {s : ByteArray} {i : Nat} {L R : List UInt8} (h : AtL s i (L ++ R)) : AtL s (i + L.length) R := by
 refine ⟨by have := h.len; rw [List.length_append] at this; omega, ?_⟩
 rw [← List.drop_drop, h.2]; simp
theorem AtL.tail {s : ByteArray} {i : Nat} {c : UInt8} {R : List UInt8} (h : AtL s i (c :: R)) : AtL s (i + 1) R := AtL.app (L := [c]) h
theorem AtL.lt {s : ByteArray} {i : Nat} {c : UInt8} {R : List UInt8} (h : AtL s i (c :: R)) : i < s.size := by have := h.len; simp at this; omega
theorem AtL.at {s : ByteArray} {i : Nat} {c : UInt8} {R : List UInt8} (h : AtL s i (c :: R)) : at_ s i = c := by
 have := congrArg (fun l => l.getD 0 0) h.2
 simp only [List.getD_eq_getElem?_getD, List.getElem?_drop, Nat.add_zero] at this
 unfold at_; rw [List.getD_eq_getElem?_getD, this]; rfl
theorem AtL.is {s : ByteArray} {i : Nat} {c : UInt8} {R : List UInt8} (h : AtL s i (c :: R)) (d : UInt8) : atB s i d = (c == d) := by
 have hl := h.lt
 rw [atB, dif_pos hl, at_eq s i hl, h.at]
theorem AtL.end {s : ByteArray} {i : Nat} (h : AtL s i []) (d : UInt8) : atB s i d = false := atB_end (by have := h.len; simp at this; omega)

namespace PR
/-- Which bytes a set holds. -/
def Holds (m : Nat → Bool) (S : List UInt8) : Prop := ∀ n, n < 256 → (m n = true ↔ UInt8.ofNat n ∈ S)
theorem ofNat_inj {a b : Nat} (ha : a < 256) (hb : b < 256) (h : UInt8.ofNat a = UInt8.ofNat b) : a = b := by
 have := congrArg UInt8.toNat h
 simp at this; omega
theorem holds_one {m : Nat → Bool} {S : List UInt8} (h : Holds m S) (c : UInt8) : Holds (span m c.toNat c.toNat) (S ++ [c]) := by
 intro n hn
 unfold span
 rw [Bool.or_eq_true, h n hn, List.mem_append, List.mem_singleton, Bool.and_eq_true, decide_eq_true_eq, decide_eq_true_eq]
 refine or_congr Iff.rfl ⟨fun q => ?_, fun q => ?_⟩
 ·have : n = c.toNat := by omega
  rw [this]; simp
 ·rw [← q]; simp; omega
theorem holds_run {m : Nat → Bool} {S L : List UInt8} (h : Holds m S) (a z : Nat) (hL : ∀ n, n < 256 → (UInt8.ofNat n ∈ L ↔ a ≤ n ∧ n ≤ z)) : Holds (span m a z) (S ++ L) := by
 intro n hn
 unfold span
 rw [Bool.or_eq_true, h n hn, List.mem_append, Bool.and_eq_true, decide_eq_true_eq, decide_eq_true_eq, hL n hn]
theorem mem_asc : ∀ (n a : Nat) (l : List UInt8), RT.asc l = true → (∀ c ∈ l, a ≤ c.toNat ∧ c.toNat < a + n) → a + n ≤ 256 → ((List.range' a n).filter (fun x => decide (UInt8.ofNat x ∈ l))).map (fun n => UInt8.ofNat n) = l := by
 intro n
 induction n with
 | zero =>
  intro a l ha hl _
  cases l with
  | nil => rfl
  | cons c l => have := hl c (by simp); omega
 | succ n ih =>
  intro a l ha hl hn
  rw [List.range'_succ, List.filter_cons]
  cases l with
  | nil => simp
  | cons c l =>
   have hgt : ∀ d ∈ l, c.toNat < d.toNat := by
    clear hl ih
    induction l generalizing c with
    | nil => intro d hd; cases hd
    | cons e l ihl =>
     intro d hd
     simp only [RT.asc, Bool.and_eq_true, decide_eq_true_eq] at ha
     rcases List.mem_cons.1 hd with rfl | hd
     ·exact ha.1
     ·have := ihl e ha.2 d hd; omega
   have hal : RT.asc l = true := by
    cases l with
    | nil => rfl
    | cons e l => simp only [RT.asc, Bool.and_eq_true, decide_eq_true_eq] at ha; exact ha.2
   have hc := hl c (by simp)
   by_cases e : c.toNat = a
   ·have hca : UInt8.ofNat a = c := by rw [← e]; simp
    have hih := ih (a + 1) l hal (fun d hd => by have := hgt d hd; have := (hl d (by simp [hd])).2; omega) (by omega)
    rw [if_pos (by rw [hca]; simp), List.map_cons, hca]
    congr 1
    refine Eq.trans (congrArg _ (List.filter_congr fun x hx => ?_)) hih
    rw [List.mem_range'_1] at hx
    rw [decide_eq_decide, List.mem_cons]
    refine ⟨fun q => ?_, fun q => .inr q⟩
    rcases q with q | q
    ·rw [← hca] at q; have := ofNat_inj (by omega) (by omega) q; omega
    ·exact q
   ·have hna : ¬ UInt8.ofNat a ∈ c :: l := by
     intro q
     rcases List.mem_cons.1 q with q | q
     ·have := congrArg UInt8.toNat q; simp at this; omega
     ·have := hgt _ q; simp at this; omega
    rw [if_neg (by simpa using hna)]
    refine ih (a + 1) (c :: l) ha (fun d hd => ?_) (by omega)
    have h1 := hl d hd
    have h2 : a + 1 ≤ d.toNat := by
     rcases List.mem_cons.1 hd with q | q
     ·rw [q]; omega
     ·have := hgt d q; omega
    omega
theorem mem_holds {m : Nat → Bool} {S l : List UInt8} (h : Holds m S) (ha : RT.asc l = true) (hS : ∀ c, c ∈ S ↔ c ∈ l) : mem m = l := by
 have := mem_asc 256 0 l ha (fun c _ => by have := c.toNat_lt; omega) (by omega)
 rw [← this]
 unfold mem
 rw [List.range_eq_range']
 congr 1
 apply List.filter_congr
 intro x hx
 rw [List.mem_range'_1] at hx
 rw [Bool.eq_iff_iff, h x (by omega), decide_eq_true_eq, hS]
theorem setR_mono (s : ByteArray) : ∀ (f g i : Nat) (b : Bool) (m : Nat → Bool) (x : (Nat → Bool) × Nat), f ≤ g → setR s f i b m = some x → setR s g i b m = some x := by
 intro f
 induction f with
 | zero => intro g i b m x _ h; cases h
 | succ f ih =>
  intro g i b m x hg h
  obtain ⟨g, rfl⟩ : ∃ g', g = g' + 1 := ⟨g - 1, by omega⟩
  rw [setR] at h ⊢
  split at h
  ·rename_i h1; rw [if_pos h1]
   split at h
   ·rename_i h2; rw [if_pos h2]; exact h
   ·rename_i h2; rw [if_neg h2]
    split at h
    ·rename_i h3; rw [if_pos h3]
     split at h
     ·cases h
     ·rename_i h4; rw [if_neg h4]; exact ih _ _ _ _ _ (by omega) h
    ·rename_i h3; rw [if_neg h3]; exact ih _ _ _ _ _ (by omega) h
  ·cases h
/-- Read from place i on, with fuel n, the set holds S' and ends ahead of j, where it held S. -/
def Rd (s : ByteArray) (i : Nat) (b : Bool) (S : List UInt8) (j : Nat) (S' : List UInt8) (n : Nat) : Prop := ∀ m, Holds m S → ∃ M, Holds M S' ∧ setR s n i b m = some (M, j)
/-- No range begins with the byte ahead. -/
def Safe (R : List UInt8) : Prop := ∀ d R', R = 45 :: d :: R' → d = 93
theorem rd_end {s : ByteArray} {i : Nat} {R S : List UInt8} (h : AtL s i (93 :: R)) : Rd s i false S (i + 1) S 1 := by
 intro m hm
 refine ⟨m, hm, ?_⟩
 rw [setR, if_pos h.lt, h.is]; rfl
theorem rd_one {s : ByteArray} {i j n : Nat} {b : Bool} {c : UInt8} {R S S' : List UInt8} (h : AtL s i (c :: R)) (hc : c ≠ 93 ∨ b = true) (hR : Safe R) (hr : Rd s (i + 1) false (S ++ [c]) j S' n) : Rd s i b S j S' (n + 1) := by
 intro m hm
 obtain ⟨M, h1, h2⟩ := hr _ (holds_one hm c)
 refine ⟨M, h1, ?_⟩
 rw [setR, if_pos h.lt, h.is, if_neg (by rcases hc with hc | hc <;> simp [hc]), if_neg, h.at, h2]
 rintro ⟨g1, g2, g3⟩
 have ht := h.tail
 match R, hR, ht with
 | [], _, ht => rw [ht.end] at g2; cases g2
 | [d], _, ht => have := ht.len; simp at this; omega
 | d :: e :: R', hR, ht =>
  rw [ht.is, beq_iff_eq] at g2
  subst g2
  have := hR e R' rfl
  rw [ht.tail.is, this] at g3; cases g3
theorem rd_run {s : ByteArray} {i j n : Nat} {b : Bool} {a z : UInt8} {R S S' L : List UInt8} (h : AtL s i (a :: 45 :: z :: R)) (hc : a ≠ 93 ∨ b = true) (hz : z ≠ 93) (haz : a.toNat ≤ z.toNat) (hL : ∀ n, n < 256 → (UInt8.ofNat n ∈ L ↔ a.toNat ≤ n ∧ n ≤ z.toNat))
  (hr : Rd s (i + 3) false (S ++ L) j S' n) : Rd s i b S j S' (n + 1) := by
 intro m hm
 obtain ⟨M, h1, h2⟩ := hr _ (holds_run hm a.toNat z.toNat hL)
 refine ⟨M, h1, ?_⟩
 have t1 := h.tail
 have t2 := t1.tail
 rw [setR, if_pos h.lt, h.is, if_neg (by rcases hc with hc | hc <;> simp [hc]), if_pos ⟨t2.lt, by rw [t1.is]; rfl, by rw [t2.is]; simpa using hz⟩, h.at, t2.at, if_neg (by omega), h2]
theorem rd_opt {s : ByteArray} {i j n : Nat} {b : Bool} {c : UInt8} {l R S S' : List UInt8} (h : AtL s i (optC c l ++ R)) (hc : c ≠ 93 ∨ b = true) (hR : Safe R)
  (hr : Rd s (i + (optC c l).length) (if c ∈ l then false else b) (S ++ optC c l) j S' n) : Rd s i b S j S' (n + (optC c l).length) := by
 unfold optC at *
 by_cases g : c ∈ l
 ·have g' : l.contains c = true := by simpa using g
  rw [if_pos g'] at h hr ⊢
  rw [if_pos g] at hr
  exact rd_one h hc hR hr
 ·have g' : ¬ l.contains c = true := by simpa using g
  rw [if_neg g'] at h hr ⊢
  rw [if_neg g, List.append_nil] at hr
  exact hr
/-! Runs -/
theorem rEnd_foll (l : List UInt8) : ∀ (e k : Nat), 0 < e → e ≤ k → k < rEnd l e → k < l.length ∧ l.getD k 0 = l.getD (k - 1) 0 + 1 := by
 intro e
 induction hN : l.length - e using Nat.strongRecOn generalizing e with
 | ind N ih =>
  intro k h0 h1 h2
  by_cases c : e < l.length ∧ foll (l.getD (e - 1) 0) (l.getD e 0) = true
  ·by_cases g : k = e
   ·subst g; refine ⟨c.1, ?_⟩
    have := c.2; unfold foll at this; simpa using this
   ·rw [rEnd_go h0 c.1 c.2] at h2
    exact ih (l.length - (e + 1)) (by omega) (e + 1) rfl k (by omega) (by omega) h2
  ·rw [rEnd_stop (fun h => by cases q : foll (l.getD (e - 1) 0) (l.getD e 0); rfl; exact absurd ⟨h, q⟩ c)] at h2
   omega
theorem asc_get : ∀ (l : List UInt8), RT.asc l = true → ∀ i j, i < j → j < l.length → (l.getD i 0).toNat < (l.getD j 0).toNat
 | [], _, i, j, _, h => by simp at h
 | [a], _, i, j, h1, h2 => by simp at h2; omega
 | a :: b :: l, ha, i, j, h1, h2 => by
  simp only [RT.asc, Bool.and_eq_true, decide_eq_true_eq] at ha
  cases j with
  | zero => omega
  | succ j =>
   cases i with
   | zero =>
    cases j with
    | zero => simpa using ha.1
    | succ j =>
     have := asc_get (b :: l) ha.2 0 (j + 1) (by omega) (by simpa using h2)
     simp only [List.getD_cons_succ, List.getD_cons_zero] at this ⊢
     have h3 := ha.1
     omega
   | succ i =>
    have := asc_get (b :: l) ha.2 i j (by omega) (by simpa using h2)
    simpa using this
theorem run_nat (l : List UInt8) (ha : RT.asc l = true) (i : Nat) : ∀ k, i ≤ k → k < rEnd l (i + 1) → k < l.length ∨ k = i → (l.getD k 0).toNat = (l.getD i 0).toNat + (k - i) := by
 intro k
 induction k with
 | zero =>
  intro h _ _
  have : i = 0 := by omega
  subst this; simp
 | succ k ih =>
  intro h1 h2 h3
  by_cases e : i = k + 1
  ·subst e; simp
  ·have hf := rEnd_foll l (i + 1) (k + 1) (by omega) (by omega) h2
   have g := ih (by omega) (by omega) (.inl (by omega))
   have hlt := asc_get l ha k (k + 1) (by omega) hf.1
   have h4 := congrArg UInt8.toNat hf.2
   simp only [Nat.add_sub_cancel, UInt8.toNat_add] at h4
   have := (l.getD k 0).toNat_lt
   have h5 : (1 : UInt8).toNat = 1 := rfl
   rw [h5] at h4
   omega
theorem run_mem (l : List UInt8) (ha : RT.asc l = true) (i e : Nat) (he : e = rEnd l (i + 1)) (hi : i < l.length) (n : Nat) (hn : n < 256) : UInt8.ofNat n ∈ (l.drop i).take (e - i) ↔ (l.getD i 0).toNat ≤ n ∧ n ≤ (l.getD (e - 1) 0).toNat := by
 have h1 := rEnd_ge l (i + 1)
 have h2 := rEnd_le l (i + 1) (by omega)
 have hz := run_nat l ha i (e - 1) (by omega) (by omega) (.inl (by omega))
 have hnn : (UInt8.ofNat n).toNat = n := by simp; omega
 rw [hz]
 constructor
 ·intro h
  obtain ⟨k, hk, hg⟩ := List.mem_iff_getElem.1 h
  have hk2 := hk
  rw [List.length_take, List.length_drop] at hk2
  rw [List.getElem_take, List.getElem_drop] at hg
  have g := run_nat l ha i (i + k) (by omega) (by omega) (.inl (by omega))
  rw [List.getD_eq_getElem?_getD, List.getElem?_eq_getElem (by omega)] at g
  simp only [Option.getD_some] at g
  rw [hg, hnn] at g
  omega
 ·intro h
  have hk : n - (l.getD i 0).toNat < ((l.drop i).take (e - i)).length := by rw [List.length_take, List.length_drop]; omega
  refine List.mem_iff_getElem.2 ⟨n - (l.getD i 0).toNat, hk, ?_⟩
  rw [List.getElem_take, List.getElem_drop]
  have g := run_nat l ha i (i + (n - (l.getD i 0).toNat)) (by omega) (by omega) (.inl (by omega))
  rw [List.getD_eq_getElem?_getD, List.getElem?_eq_getElem (by omega)] at g
  simp only [Option.getD_some] at g
  apply UInt8.toNat_inj.1
  rw [g, hnn]; omega
theorem rTxt_first (l : List UInt8) (k : Nat) (h : k < l.length) : ∃ r, rTxt l k = l.getD k 0 :: r := by
 rw [rTxt_go h]
 have h2 := rEnd_ge l (k + 1)
 by_cases c : 3 ≤ rEnd l (k + 1) - k
 ·rw [piece_long c]; exact ⟨_, rfl⟩
 ·rw [piece_short c, List.drop_eq_getElem_cons h]
  obtain ⟨m, hm⟩ : ∃ m, rEnd l (k + 1) - k = m + 1 := ⟨rEnd l (k + 1) - k - 1, by omega⟩
  rw [hm, List.take_succ_cons, List.cons_append]
  rw [List.getD_eq_getElem?_getD, List.getElem?_eq_getElem h]
  exact ⟨_, rfl⟩
theorem safe_runs {l T : List UInt8} (k : Nat) (hp : ∀ c ∈ l, c ≠ 45) (hT : Safe T) : Safe (rTxt l k ++ T) := by
 by_cases h : k < l.length
 ·obtain ⟨r, hr⟩ := rTxt_first l k h
  rw [hr]
  intro d R' e
  injection e with e1 e2
  have : l.getD k 0 ∈ l := by rw [List.getD_eq_getElem?_getD, List.getElem?_eq_getElem h]; exact List.getElem_mem h
  exact absurd e1 (hp _ this)
 ·rw [rTxt_end h]; exact hT
theorem safe_cons {c : UInt8} {R : List UInt8} (h : c ≠ 45) : Safe (c :: R) := fun d R' e => by injection e with e1 _; exact absurd e1 h
theorem rd_runs {s : ByteArray} {j n : Nat} {l T S' : List UInt8} (ha : RT.asc l = true) (hp : ∀ c ∈ l, c ≠ 45 ∧ c ≠ 93) (hT : Safe T) : ∀ (N k i : Nat) (b : Bool) (S : List UInt8), l.length - k ≤ N → k ≤ l.length → AtL s i (rTxt l k ++ T) →
  Rd s (i + (rTxt l k).length) (if k < l.length then false else b) (S ++ l.drop k) j S' n → ∃ n', n' ≤ n + (rTxt l k).length ∧ Rd s i b S j S' n' := by
 intro N
 induction N with
 | zero =>
  intro k i b S hN hk hA hR
  rw [rTxt_end (by omega)] at hR ⊢
  rw [if_neg (by omega), List.drop_of_length_le (by omega), List.append_nil] at hR
  exact ⟨n, by simp, hR⟩
 | succ N ih =>
  intro k i b S hN hk hA hR
  by_cases hlt : k < l.length
  ·have h1 := rEnd_ge l (k + 1)
   have h2 := rEnd_le l (k + 1) (by omega)
   obtain ⟨e, he⟩ : ∃ e, e = rEnd l (k + 1) := ⟨_, rfl⟩
   have hgo := rTxt_go hlt
   rw [← he] at hgo h1 h2
   rw [hgo, List.append_assoc] at hA
   rw [if_pos hlt] at hR
   have hA2 := hA.app
   have hck : l.getD k 0 ∈ l := by rw [List.getD_eq_getElem?_getD, List.getElem?_eq_getElem hlt]; exact List.getElem_mem hlt
   have hce : l.getD (e - 1) 0 ∈ l := by rw [List.getD_eq_getElem?_getD, List.getElem?_eq_getElem (by omega)]; exact List.getElem_mem _
   have hsplit : (l.drop k).take (e - k) ++ l.drop e = l.drop k := by
    rw [show l.drop e = (l.drop k).drop (e - k) by rw [List.drop_drop]; congr 1; omega, List.take_append_drop]
   have hsafe := safe_runs (T := T) e (fun c hc => (hp c hc).1) hT
   obtain ⟨n', hn', hr'⟩ := ih e (i + (piece l k e).length) false (S ++ (l.drop k).take (e - k)) (by omega) h2 hA2 (by
    rw [List.append_assoc, hsplit, ite_self]
    rw [hgo, List.length_append, ← Nat.add_assoc] at hR
    exact hR)
   by_cases c3 : 3 ≤ e - k
   ·rw [piece_long c3] at hA hr'
    refine ⟨n' + 1, by rw [hgo, List.length_append, piece_long c3]; simp; omega, ?_⟩
    refine rd_run hA (.inl (hp _ hck).2) (hp _ hce).2 ?_ (fun n hn => run_mem l ha k e he hlt n hn) hr'
    exact Nat.le_of_lt (asc_get l ha k (e - 1) (by omega) (by omega))
   ·rw [piece_short c3] at hA hr'
    by_cases c2 : e - k = 1
    ·rw [c2, List.drop_eq_getElem_cons hlt] at hA hr'
     simp only [List.take_succ_cons, List.take_zero, List.length_cons, List.length_nil] at hA hr'
     have hg : l[k] = l.getD k 0 := by rw [List.getD_eq_getElem?_getD, List.getElem?_eq_getElem hlt]; rfl
     refine ⟨n' + 1, by rw [hgo, List.length_append, piece_short c3, c2, List.length_take, List.length_drop]; omega, rd_one hA (.inl ?_) hsafe hr'⟩
     rw [hg]; exact (hp _ hck).2
    ·have c4 : e - k = 2 := by omega
     have hk1 : k + 1 < l.length := by omega
     rw [c4, List.drop_eq_getElem_cons hlt, List.drop_eq_getElem_cons hk1] at hA hr'
     simp only [List.take_succ_cons, List.take_zero, List.length_cons, List.length_nil] at hA hr'
     have p1 := hp _ (List.getElem_mem hlt)
     have p2 := hp _ (List.getElem_mem hk1)
     refine ⟨n' + 1 + 1, by rw [hgo, List.length_append, piece_short c3, c4, List.length_take, List.length_drop]; omega, rd_one hA (.inl p1.2) (safe_cons p2.1) (rd_one hA.tail (.inl p2.2) hsafe ?_)⟩
     rw [List.append_assoc]; exact hr'
  ·rw [rTxt_end hlt] at hR ⊢
   rw [if_neg hlt, List.drop_of_length_le (by omega), List.append_nil] at hR
   exact ⟨n, by simp, hR⟩
end PR
end Go.Proofs.YtcpaneaiobnhdaaDoor.kit
/-
 Plain facts on expressions for texts, of no program: the text of a set is read as the set, that of how often a kid stands as that. Conditions: each theorem names its own.
-/
namespace Go.Proofs.YtcpaneaiobnhdaaDoor.kit
open Go.ChangeShapes Go.WideShapes Go.ChangeAt Go.RowKit
set_option linter.unusedVariables false
set_option linter.unusedSimpArgs false

theorem asc_iff : ∀ (l : List UInt8), RT.asc l = true ↔ l.Pairwise fun a b => a.toNat < b.toNat
 | [] => by simp [RT.asc]
 | [a] => by simp [RT.asc]
 | a :: b :: l => by
  have ih := asc_iff (b :: l)
  simp only [RT.asc, Bool.and_eq_true, decide_eq_true_eq]
  rw [ih, List.pairwise_cons (a := a)]
  constructor
  ·rintro ⟨h1, h2⟩
   refine ⟨fun x hx => ?_, h2⟩
   rcases List.mem_cons.1 hx with rfl | hx
   ·exact h1
   ·have := (List.pairwise_cons.1 h2).1 x hx; omega
  ·rintro ⟨h1, h2⟩
   exact ⟨h1 b (by simp), h2⟩
theorem others_asc {l : List UInt8} (h : RT.asc l = true) : RT.asc (others l) = true := (asc_iff _).2 (((asc_iff l).1 h).filter _)
theorem others_mem {l : List UInt8} {c : UInt8} : c ∈ others l ↔ c ∈ l ∧ c ≠ 93 ∧ c ≠ 94 ∧ c ≠ 45 := by
 unfold others plainC
 rw [List.mem_filter]
 simp [and_assoc]
theorem optC_mem {d c : UInt8} {l : List UInt8} : d ∈ optC c l ↔ d = c ∧ c ∈ l := by
 unfold optC
 by_cases h : c ∈ l
 ·rw [if_pos (by simpa using h)]; simp [h]
 ·rw [if_neg (by simpa using h)]; simp [h]
namespace PR
theorem safe_tail (l R : List UInt8) : Safe (optC 45 l ++ 93 :: R) ∧ Safe (optC 94 l ++ (optC 45 l ++ 93 :: R)) := by
 have h1 : Safe (optC 45 l ++ 93 :: R) := by
  unfold optC
  split
  ·intro d R' e; injection e with _ e; injection e with e _; exact e.symm
  ·exact safe_cons (by decide)
 refine ⟨h1, ?_⟩
 by_cases h : 94 ∈ l
 ·rw [show optC 94 l = [94] from if_pos (by simpa using h)]; exact safe_cons (by decide)
 ·rw [show optC 94 l = [] from if_neg (by simpa using h)]; exact h1
theorem rd_body {s : ByteArray} {i : Nat} {l R : List UInt8} (ha : RT.asc l = true) (hl : l ≠ []) (hA : AtL s i (setBody l ++ 93 :: R)) :
  ∃ S' N, (∀ c, c ∈ S' ↔ c ∈ l) ∧ N ≤ (setBody l).length + 1 ∧ Rd s i true [] (i + (setBody l).length + 1) S' N := by
 obtain ⟨T1, T2⟩ := safe_tail l R
 unfold setBody at hA ⊢
 rw [List.append_assoc, List.append_assoc, List.append_assoc] at hA
 have A2 := hA.app
 have A3 := A2.app
 have A4 := A3.app
 have A5 := A4.app
 have hne : ¬ (93 ∉ l ∧ 94 ∉ l ∧ 45 ∉ l ∧ ¬ 0 < (others l).length) := by
  rintro ⟨h1, h2, h3, h4⟩
  obtain ⟨c, l', e⟩ := List.exists_cons_of_ne_nil hl
  have hc : c ∈ l := by rw [e]; simp
  have : c ∈ others l := others_mem.2 ⟨hc, fun q => h1 (q ▸ hc), fun q => h2 (q ▸ hc), fun q => h3 (q ▸ hc)⟩
  exact h4 (List.length_pos_of_mem this)
 have R5 := rd_end (S := (([] ++ optC 93 l ++ others l) ++ optC 94 l) ++ optC 45 l) A5
 have R4 := rd_opt (b := if 94 ∈ l then false else if 0 < (others l).length then false else if 93 ∈ l then false else true) (S := ([] ++ optC 93 l ++ others l) ++ optC 94 l) A4 (.inl (by decide)) (safe_cons (by decide)) (by
  have hb : (if (45 : UInt8) ∈ l then false else if (94 : UInt8) ∈ l then false else if 0 < (others l).length then false else if (93 : UInt8) ∈ l then false else true) = false := by
   by_cases g1 : (45 : UInt8) ∈ l
   ·rw [if_pos g1]
   ·rw [if_neg g1]
    by_cases g2 : (94 : UInt8) ∈ l
    ·rw [if_pos g2]
    ·rw [if_neg g2]
     by_cases g3 : 0 < (others l).length
     ·rw [if_pos g3]
     ·rw [if_neg g3]
      by_cases g4 : (93 : UInt8) ∈ l
      ·rw [if_pos g4]
      ·exact absurd ⟨g4, g2, g1, g3⟩ hne
  rw [hb]; exact R5)
 have R3 := rd_opt (b := if 0 < (others l).length then false else if 93 ∈ l then false else true) (S := [] ++ optC 93 l ++ others l) A3 (.inl (by decide)) T1 R4
 obtain ⟨n', hn', R2⟩ := rd_runs (b := if 93 ∈ l then false else true) (S := [] ++ optC 93 l) (others_asc ha) (fun c hc => ⟨(others_mem.1 hc).2.2.2, (others_mem.1 hc).2.1⟩) T2 _ 0 _ (Nat.le_refl _) (Nat.zero_le _) A2 (by
  rw [List.drop_zero]; exact R3)
 have R1 := rd_opt (b := true) (S := []) hA (.inr rfl) (safe_runs 0 (fun c hc => (others_mem.1 hc).2.2.2) T2) R2
 refine ⟨[] ++ optC 93 l ++ others l ++ optC 94 l ++ optC 45 l, n' + (optC 93 l).length, fun c => ?_, ?_, ?_⟩
 rotate_left 2
 ·have e : i + (optC 93 l ++ rTxt (others l) 0 ++ optC 94 l ++ optC 45 l).length + 1 = i + (optC 93 l).length + (rTxt (others l) 0).length + (optC 94 l).length + (optC 45 l).length + 1 := by
   simp only [List.length_append]; omega
  rw [e]; exact R1
 ·simp only [List.nil_append, List.mem_append, optC_mem, others_mem]
  constructor
  ·rintro (((⟨rfl, h⟩ | ⟨h, _⟩) | ⟨rfl, h⟩) | ⟨rfl, h⟩) <;> exact h
  ·intro h
   by_cases g1 : c = 93
   ·subst g1; exact .inl (.inl (.inl ⟨rfl, h⟩))
   ·by_cases g2 : c = 94
    ·subst g2; exact .inl (.inr ⟨rfl, h⟩)
    ·by_cases g3 : c = 45
     ·subst g3; exact .inr ⟨rfl, h⟩
     ·exact .inl (.inl (.inr ⟨h, g1, g2, g3⟩))
 ·have hn := hn'
  simp only [List.length_append]; omega
theorem setT_of {s : ByteArray} {i i' j N : Nat} {n : Bool} {l S' : List UInt8} (ha : RT.asc l = true) (hn : atB s i 94 = n) (hi : i' = if n = true then i + 1 else i) (hS : ∀ c, c ∈ S' ↔ c ∈ l) (hN : N ≤ s.size + 1) (hR : Rd s i' true [] j S' N) :
  setT s i = some (.node 2 ⟨l.toArray⟩ n 0 0 [], j) := by
 obtain ⟨M, hM, hr⟩ := hR (fun _ => false) (fun n hn => by simp)
 have := setR_mono s _ _ _ _ _ _ hN hr
 unfold setT
 rw [hn, ← hi, this]
 simp only [Option.map_some]
 rw [mem_holds hM ha hS]
theorem setBody_ne {l : List UInt8} (ha : RT.asc l = true) (hl : l ≠ []) (h1 : l.length ≠ 1) (h2 : l ≠ [45, 94]) : ∃ c r, setBody l = c :: r ∧ c ≠ 94 := by
 unfold setBody
 by_cases g : (93 : UInt8) ∈ l
 ·rw [show optC 93 l = [93] from if_pos (by simpa using g)]; exact ⟨93, _, rfl, by decide⟩
 ·rw [show optC 93 l = [] from if_neg (by simpa using g), List.nil_append]
  by_cases g2 : 0 < (others l).length
  ·obtain ⟨r, hr⟩ := rTxt_first (others l) 0 g2
   rw [hr]
   have : (others l).getD 0 0 ∈ others l := by rw [List.getD_eq_getElem?_getD, List.getElem?_eq_getElem g2]; exact List.getElem_mem g2
   exact ⟨_, _, rfl, (others_mem.1 this).2.2.1⟩
  ·exfalso
   refine h2 (asc_two ha (fun c hc => ?_) hl h1)
   by_cases q1 : c = 45
   ·exact .inl q1
   ·right
    by_cases q2 : c = 94
    ·exact q2
    ·have : c ∈ others l := others_mem.2 ⟨hc, fun e => g (e ▸ hc), q2, q1⟩
     exact absurd (List.length_pos_of_mem this) g2
/-- The head of an item's text. -/
def HdOk (L : List UInt8) : Prop := ∃ c R, L = c :: R ∧ c ≠ 124 ∧ c ≠ 41 ∧ c ≠ 42 ∧ c ≠ 43 ∧ c ≠ 63 ∧ c ≠ 123
theorem needs_not {c : UInt8} (h : needs c = false) : ∀ d ∈ signs, c ≠ d := by
 intro d hd e
 subst e
 unfold needs at h
 rw [show signs.contains c = true by simpa using hd] at h
 simp at h
theorem byTxt_hd (c : UInt8) : HdOk (byTxt c) := by
 cases h : needs c
 ·rw [byTxt_no h]
  have := needs_not h
  exact ⟨c, [], rfl, this _ (by decide), this _ (by decide), this _ (by decide), this _ (by decide), this _ (by decide), this _ (by decide)⟩
 ·rw [byTxt_yes h]; exact ⟨92, [c], rfl, by decide, by decide, by decide, by decide, by decide, by decide⟩
theorem hd_lit {c : UInt8} (R : List UInt8) (h : c = 91 ∨ c = 40 ∨ c = 46 ∨ c = 94 ∨ c = 36) : HdOk (c :: R) := by
 refine ⟨c, R, rfl, ?_⟩
 rcases h with rfl | rfl | rfl | rfl | rfl <;> decide
theorem setTxt_hd (l : List UInt8) (n : Bool) : HdOk (setTxt l n) := by
 unfold setTxt
 split
 ·exact byTxt_hd _
 ·split
  ·exact hd_lit _ (.inl rfl)
  ·split
   ·exact hd_lit _ (.inl rfl)
   ·exact hd_lit _ (.inl rfl)
theorem item_set {s : ByteArray} {i f d : Nat} {st : ByteArray} {n : Bool} {R : List UInt8} (ha : RT.asc st.data.toList = true) (hne : st.data.toList ≠ []) (hA : AtL s i (setTxt st.data.toList n ++ R)) :
  item s (f + 1) d i = some (.node 2 st n 0 0 [], i + (setTxt st.data.toList n).length) := by
 have hst : st = ⟨st.data.toList.toArray⟩ := by simp
 generalize st.data.toList = l at *
 subst hst
 by_cases c1 : l.length = 1 ∧ n = false
 ·obtain ⟨h1, rfl⟩ := c1
  obtain ⟨c, rfl⟩ : ∃ c, l = [c] := by
   match l, h1 with
   | [c], _ => exact ⟨c, rfl⟩
  have e : setTxt [c] false = byTxt c := by rw [setTxt, if_pos ⟨rfl, rfl⟩]; rfl
  rw [e] at hA ⊢
  cases h : needs c
  ·rw [byTxt_no h] at hA ⊢
   have hn := needs_not h
   have q : ∀ d ∈ signs, (c == d) = false := fun d hd => by simpa using hn d hd
   simp only [List.cons_append, List.nil_append] at hA
   rw [item]
   simp only [hA.is, q 46 (by decide), q 94 (by decide), q 36 (by decide), q 91 (by decide), q 42 (by decide), q 43 (by decide), q 63 (by decide), q 123 (by decide), q 40 (by decide), q 92 (by decide), hA.at]
   rfl
  ·rw [byTxt_yes h] at hA ⊢
   simp only [List.cons_append, List.nil_append] at hA
   rw [item]
   simp only [hA.is]
   have ht := hA.tail
   have hl := ht.lt
   simp only [show ((92 : UInt8) == 46) = false from rfl, show ((92 : UInt8) == 94) = false from rfl, show ((92 : UInt8) == 36) = false from rfl, show ((92 : UInt8) == 91) = false from rfl, show ((92 : UInt8) == 42) = false from rfl, show ((92 : UInt8) == 43) = false from rfl, show ((92 : UInt8) == 63) = false from rfl, show ((92 : UInt8) == 123) = false from rfl, show ((92 : UInt8) == 40) = false from rfl, show ((92 : UInt8) == 92) = true from rfl]
   simp only [Bool.false_eq_true, if_false, Bool.or_false, if_true]
   unfold escT
   rw [if_pos hl, ht.at]
   rfl
 ·have go : ∀ {L : List UInt8}, AtL s i (91 :: L) → item s (f + 1) d i = setT s (i + 1) := by
   intro L h
   rw [item]
   simp only [h.is, show ((91 : UInt8) == 46) = false from rfl, show ((91 : UInt8) == 94) = false from rfl, show ((91 : UInt8) == 36) = false from rfl, show ((91 : UInt8) == 91) = true from rfl]
   simp only [Bool.false_eq_true, if_false, if_true]
  by_cases c2 : l = [45, 94] ∧ n = false
  ·obtain ⟨rfl, rfl⟩ := c2
   have e : setTxt [45, 94] false = [91, 45, 94, 93] := by decide
   rw [e] at hA ⊢
   simp only [List.cons_append, List.nil_append] at hA
   have A1 := hA.tail
   have A2 := A1.tail
   have A3 := A2.tail
   rw [go hA]
   refine setT_of (i' := i + 1) (N := 3) (S' := [] ++ [45] ++ [94]) (by decide) ?_ rfl (by simp) (by have := hA.lt; have := A3.lt; omega) ?_
   ·rw [A1.is]; rfl
   ·exact rd_one A1 (.inl (by decide)) (safe_cons (by decide)) (rd_one A2 (.inl (by decide)) (safe_cons (by decide)) (rd_end A3))
  ·have e : setTxt l n = (if n = true then [91, 94] else [91]) ++ setBody l ++ [93] := by rw [setTxt, if_neg c1, if_neg c2]
   rw [e] at hA ⊢
   cases n with
   | true =>
    simp only [if_true, List.cons_append, List.nil_append, List.append_assoc] at hA ⊢
    have A1 := hA.tail
    have A2 := A1.tail
    obtain ⟨S', N, h1, h2, h3⟩ := rd_body ha hne A2
    have hz := A2.len
    rw [List.length_append, List.length_cons] at hz
    rw [go hA, setT_of (s := s) (i := i + 1) (n := true) ha (by simp [A1.is]) rfl h1 (by omega) h3]
    simp only [List.length_cons, List.length_append, List.length_nil]
    congr 2
    omega
   | false =>
    simp only [Bool.false_eq_true, if_false, List.cons_append, List.nil_append, List.append_assoc] at hA ⊢
    have A1 := hA.tail
    obtain ⟨S', N, h1, h2, h3⟩ := rd_body ha hne A1
    obtain ⟨c, r, hb, hc⟩ := setBody_ne ha hne (fun q => c1 ⟨q, rfl⟩) (fun q => c2 ⟨q, rfl⟩)
    have hz := A1.len
    rw [List.length_append, List.length_cons] at hz
    have h94 : atB s (i + 1) 94 = false := by
     rw [hb, List.cons_append] at A1; rw [A1.is]; simpa using hc
    rw [go hA, setT_of (s := s) (i := i + 1) (n := false) ha h94 rfl h1 (by omega) h3]
    simp only [List.length_cons, List.length_append, List.length_nil]
    congr 2
    omega
/-! How often -/
theorem itoa_byte : ∀ n : Fin 10, Lib.itoa ((n : Nat) : Int) = [UInt8.ofNat (48 + n)] := by decide +kernel
theorem itoa_dig {n : Int} (h0 : 0 ≤ n) (h1 : n ≤ 9) : ∃ c : UInt8, Lib.itoa n = [c] ∧ (c.toNat : Int) = 48 + n ∧ c ≠ 44 ∧ c ≠ 125 := by
 have h := itoa_byte ⟨n.toNat, by omega⟩
 rw [show (((⟨n.toNat, by omega⟩ : Fin 10) : Nat) : Int) = n by simp; omega] at h
 have ht : (UInt8.ofNat (48 + n.toNat)).toNat = 48 + n.toNat := by simp; omega
 refine ⟨_, h, by simp only; rw [ht]; omega, fun e => ?_, fun e => ?_⟩
 ·have := congrArg UInt8.toNat e; simp only at this; rw [ht] at this; simp at this; omega
 ·have := congrArg UInt8.toNat e; simp only at this; rw [ht] at this; simp at this; omega
theorem digAt_of {s : ByteArray} {i : Nat} {c : UInt8} {R : List UInt8} {n : Int} (hA : AtL s i (c :: R)) (h : (c.toNat : Int) = 48 + n) (h0 : 0 ≤ n) (h1 : n ≤ 9) : digAt s i = some n := by
 unfold digAt
 rw [if_pos ⟨hA.lt, by rw [hA.at]; omega, by rw [hA.at]; omega⟩, hA.at]
 congr 1; omega
theorem digAt_no {s : ByteArray} {i : Nat} {R : List UInt8} (hA : AtL s i (125 :: R)) : digAt s i = none := by
 unfold digAt
 rw [if_neg]
 rintro ⟨_, _, h⟩
 rw [hA.at] at h; exact absurd h (by decide)
theorem times_tim {s : ByteArray} {i : Nat} {t : RT} {lo hi : Int} {R : List UInt8} (h : TimOk lo hi) (hA : AtL s i (timT lo hi ++ R)) : times s t i = some (manyT t lo hi, i + (timT lo hi).length) := by
 obtain ⟨h0, h1, h2⟩ := h
 unfold timT at hA ⊢
 by_cases c1 : lo = 0 ∧ hi = -1
 ·rw [if_pos c1] at hA ⊢
  obtain ⟨rfl, rfl⟩ := c1
  rw [times]; simp only [hA.is]; rfl
 ·rw [if_neg c1] at hA ⊢
  by_cases c2 : lo = 1 ∧ hi = -1
  ·rw [if_pos c2] at hA ⊢
   obtain ⟨rfl, rfl⟩ := c2
   rw [times]; simp only [hA.is]; rfl
  ·rw [if_neg c2] at hA ⊢
   by_cases c3 : lo = 0 ∧ hi = 1
   ·rw [if_pos c3] at hA ⊢
    obtain ⟨rfl, rfl⟩ := c3
    rw [times]; simp only [hA.is]; rfl
   ·rw [if_neg c3] at hA ⊢
    obtain ⟨c, e, hc, hc44, hc125⟩ := itoa_dig h0 h1
    rw [e] at hA ⊢
    have q44 : (c == 44) = false := by simpa using hc44
    have key : ∀ (L : List UInt8) (x : Int × Int × Nat), AtL s i (123 :: L) → braces s (i + 1) = some x → times s t i = some (manyT t x.1 x.2.1, x.2.2) := by
     intro L x hL hb
     rw [times]; simp only [hL.is, hb]; rfl
    by_cases c4 : hi = -1
    ·rw [if_pos c4] at hA ⊢
     subst c4
     simp only [List.cons_append, List.nil_append] at hA
     have A1 := hA.tail
     have A2 := A1.tail
     have A3 := A2.tail
     rw [key _ (lo, -1, i + 1 + 3) hA (by
      unfold braces
      rw [digAt_of A1 hc h0 h1]
      simp only [A2.is, show i + 1 + 2 = i + 1 + 1 + 1 by omega, digAt_no A3, A3.is]
      rfl)]
     rfl
    ·rw [if_neg c4] at hA ⊢
     by_cases c5 : lo = hi
     ·rw [if_pos c5] at hA ⊢
      subst c5
      simp only [List.cons_append, List.nil_append] at hA
      have A1 := hA.tail
      have A2 := A1.tail
      rw [key _ (lo, lo, i + 1 + 2) hA (by
       unfold braces
       rw [digAt_of A1 hc h0 h1]
       simp only [A2.is]
       rfl)]
      rfl
     ·rw [if_neg c5] at hA ⊢
      obtain ⟨c', e', hc', _⟩ := itoa_dig (n := hi) (by omega) (by omega)
      rw [e'] at hA ⊢
      simp only [List.cons_append, List.nil_append] at hA
      have A1 := hA.tail
      have A2 := A1.tail
      have A3 := A2.tail
      have A4 := A3.tail
      rw [key _ (lo, hi, i + 1 + 4) hA (by
       unfold braces
       rw [digAt_of A1 hc h0 h1]
       simp only [A2.is, show i + 1 + 2 = i + 1 + 1 + 1 by omega, digAt_of A3 hc' (by omega) (by omega), show i + 1 + 3 = i + 1 + 1 + 1 + 1 by omega, A4.is]
       rfl)]
      rfl
/-- Nothing ahead tells how often. -/
def NoT (R : List UInt8) : Prop := ∀ c R', R = c :: R' → c ≠ 42 ∧ c ≠ 43 ∧ c ≠ 63 ∧ c ≠ 123
theorem times_none {s : ByteArray} {i : Nat} {t : RT} {R : List UInt8} (hA : AtL s i R) (hR : NoT R) : times s t i = some (t, i) := by
 have q : ∀ d : UInt8, d = 42 ∨ d = 43 ∨ d = 63 ∨ d = 123 → atB s i d = false := by
  intro d hd
  cases R with
  | nil => exact hA.end d
  | cons c R' =>
   have := hR c R' rfl
   rw [hA.is, beq_eq_false_iff_ne]
   rcases hd with rfl | rfl | rfl | rfl
   ·exact this.1
   ·exact this.2.1
   ·exact this.2.2.1
   ·exact this.2.2.2
 rw [times, q 42 (by simp), q 43 (by simp), q 63 (by simp), q 123 (by simp)]; rfl
theorem HdOk.noT {L R : List UInt8} (h : HdOk L) : NoT (L ++ R) := by
 obtain ⟨c, L', rfl, h1, h2, h3, h4, h5, h6⟩ := h
 intro c' R' e
 injection e with e _; subst e
 exact ⟨h3, h4, h5, h6⟩
end PR
end Go.Proofs.YtcpaneaiobnhdaaDoor.kit
