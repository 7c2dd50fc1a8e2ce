/-
  Contract of impl.FindRe over this seat's translation. Conditions: a text of at most 1048576 bytes, a tree that costs at most so much; the table by which bits are told is there.
-/
import Derived.Test.YtcimhpdpfckgiaaGreatDoorMxMi15
import Derived.Test.YtcimhpdpfckgiaaGreatDoorMxMx1
import Derived.Test.YtcimhpdpfckgiaaGreatDoorMxMs8
set_option linter.unusedVariables false
set_option linter.unusedSimpArgs false
namespace Go.Proofs.YtcimhpdpfckgiaaGreatDoor.kit
open Go.ChangeShapes Go.WideShapes Go.ChangeAt Go.RowKit
attribute [local go_sem] Oper.semAt_some
theorem lastZ_pos {P : Nat → Prop} {L : Nat} (h : ∃ k, P k) (hb : ∀ k, P k → k ≤ L) : 0 ≤ lastZ P := by
 obtain ⟨k, hk⟩ := h
 obtain ⟨m, ⟨hm1, hm2⟩, hmin⟩ := least_ex (R := fun m => P (L - m) ∧ m ≤ L) ⟨L - k, by have := hb k hk; rw [show L - (L - k) = k by omega]; exact hk, by omega⟩
 rw [lastZ_of hm1 (fun i hi => by
  have h1 := hb i hi
  have h2 := hmin (L - i) ⟨by rw [show L - (L - i) = i by omega]; exact hi, by omega⟩
  omega)]
 omega
theorem begs_iff {s : ByteArray} {t : RT} (j : Nat) : (RT.ok t = true ∧ ∃ k, k ≤ s.size ∧ RT.M s.data.toList t j k) ↔ j ≤ s.size ∧ 0 ≤ matchZ s.data.toList t (j : Int) := by
 have hel : s.data.toList.length = s.size := by simp
 constructor
 · rintro ⟨ho, k, hk, hm⟩
   have hjk := RT.M_le s.data.toList t j k hm
   refine ⟨by omega, ?_⟩
   rw [matchZ_in (by omega) ho]
   exact lastZ_pos (L := s.size) ⟨k, hm⟩ (fun q hq => by have := (RT.M_bd s.data.toList t j q hq (by omega)).2; omega)
 · rintro ⟨hj, hz⟩
   cases ho : RT.ok t
   · rw [matchZ_bad ho] at hz; omega
   · refine ⟨rfl, ?_⟩
     rw [matchZ_in (by omega) ho] at hz
     by_cases c : ∃ k, RT.M s.data.toList t j k
     · obtain ⟨k, hk⟩ := c
       exact ⟨k, by have := (RT.M_bd s.data.toList t j k hk (by omega)).2; omega, hk⟩
     · rw [lastZ_none (fun k hk => c ⟨k, hk⟩)] at hz; omega
theorem findZ_first {Z : Int → Int} {n x : Int} (hxn : x ≤ n) (hz : 0 ≤ Z x) : ∀ (d : Nat) (i : Int), 0 ≤ i → i ≤ x → (x - i).toNat = d → (∀ j, i ≤ j → j < x → ¬ 0 ≤ Z j) → findZ Z n i = (x, Z x)
 | 0, i, h0, hix, hd, hno => by
   obtain rfl : i = x := by omega
   exact findZ_hit h0 hxn hz
 | d + 1, i, h0, hix, hd, hno => by
   rw [findZ_next h0 (by omega) (hno i (by omega) (by omega))]
   exact findZ_first hxn hz d (i + 1) (by omega) (by omega) (by omega) (fun j h1 h2 => hno j (by omega) h2)
theorem findZ_none {Z : Int → Int} {n : Int} : ∀ (d : Nat) (i : Int), 0 ≤ i → (n + 1 - i).toNat = d → (∀ j, i ≤ j → j ≤ n → ¬ 0 ≤ Z j) → findZ Z n i = (-1, -1)
 | 0, i, h0, hd, hno => findZ_out (by omega)
 | d + 1, i, h0, hd, hno => by
   rw [findZ_next h0 (by omega) (hno i (by omega) (by omega))]
   exact findZ_none d (i + 1) (by omega) (by omega) (fun j h1 h2 => hno j (by omega) h2)
def FirstP (Z : Int → Int) (i : Int) (l : List Nat) (x z : Int) : Prop := ∃ (m : Nat) (l0 : List Nat), l = l0 ++ [m] ∧ (∀ y ∈ l0, (y : Int) < i) ∧ i ≤ (m : Int) ∧ x = (m : Int) ∧ z = Z (m : Int)
end Go.Proofs.YtcimhpdpfckgiaaGreatDoor.kit
namespace Go.Proofs.YtcimhpdpfckgiaaGreatDoor.kit
theorem lastZ_cases {P : Nat → Prop} {L : Nat} (hb : ∀ k, P k → k ≤ L) : (lastZ P = -1 ∧ ∀ k, ¬ P k) ∨ ∃ m, P m ∧ (∀ k, P k → k ≤ m) ∧ lastZ P = (m : Int) := by
 by_cases h : ∃ k, P k
 · obtain ⟨k, hk⟩ := h
   obtain ⟨m, ⟨hm1, hm2⟩, hmin⟩ := least_ex (R := fun m => P (L - m) ∧ m ≤ L) ⟨L - k, by have := hb k hk; rw [show L - (L - k) = k by omega]; exact hk, by omega⟩
   have hmax : ∀ i, P i → i ≤ L - m := fun i hi => by
    have h1 := hb i hi
    have h2 := hmin (L - i) ⟨by rw [show L - (L - i) = i by omega]; exact hi, by omega⟩
    omega
   exact .inr ⟨L - m, hm1, hmax, lastZ_of hm1 hmax⟩
 · exact .inl ⟨lastZ_none (fun j hj => h ⟨j, hj⟩), fun k hk => h ⟨k, hk⟩⟩
theorem M_le_len {l : List UInt8} {t : RT} {i k : Nat} (hi : i ≤ l.length) (h : RT.M l t i k) : k ≤ l.length := (RT.M_bd l t i k h hi).2
def foundStep (en : Nat → Nat) (s : List (Nat × Nat) × Nat) (b : Nat) : List (Nat × Nat) × Nat := if b < s.2 then s else (s.1 ++ [(b, en b)], en b)
def foundSt (en : Nat → Nat) (bs : List Nat) (f : Nat) : List (Nat × Nat) × Nat := bs.foldl (foundStep en) ([], f)
def foundF (en : Nat → Nat) (bs : List Nat) (f : Nat) : List (Nat × Nat) := (foundSt en bs f).1
theorem foundSt_snoc (en : Nat → Nat) (bs : List Nat) (b f : Nat) : foundSt en (bs ++ [b]) f = foundStep en (foundSt en bs f) b := by
 unfold foundSt; rw [List.foldl_append]; rfl
theorem foundStep_acc (en : Nat → Nat) : ∀ (bs : List Nat) (acc : List (Nat × Nat)) (f : Nat), bs.foldl (foundStep en) (acc, f) = (acc ++ (foundSt en bs f).1, (foundSt en bs f).2)
 | [], acc, f => by simp [foundSt]
 | b :: bs, acc, f => by
   have h1 := foundStep_acc en bs
   unfold foundSt
   simp only [List.foldl_cons, foundStep]
   by_cases c : b < f
   · rw [if_pos c, if_pos c, h1 acc f]; rfl
   · rw [if_neg c, if_neg c, h1 (acc ++ [(b, en b)]) (en b), h1 ([] ++ [(b, en b)]) (en b)]
     simp
theorem foundF_nil (en : Nat → Nat) (f : Nat) : foundF en [] f = [] := rfl
theorem foundF_lt {en : Nat → Nat} {b f : Nat} (bs : List Nat) (h : b < f) : foundF en (b :: bs) f = foundF en bs f := by
 unfold foundF foundSt; simp only [List.foldl_cons, foundStep]; rw [if_pos h]
theorem foundF_ge {en : Nat → Nat} {b f : Nat} (bs : List Nat) (h : f ≤ b) : foundF en (b :: bs) f = (b, en b) :: foundF en bs (en b) := by
 unfold foundF foundSt; simp only [List.foldl_cons, foundStep]; rw [if_neg (by omega), foundStep_acc]; simp [foundSt]
theorem foundF_from (en : Nat → Nat) : ∀ (bs : List Nat) (f g : Nat), (∀ b ∈ bs, b < f ↔ b < g) → foundF en bs f = foundF en bs g
 | [], f, g, _ => rfl
 | b :: bs, f, g, h => by
   have h1 := h b (by simp)
   by_cases c : b < f
   · rw [foundF_lt bs c, foundF_lt bs (h1.1 c)]
     exact foundF_from en bs f g (fun x hx => h x (List.mem_cons_of_mem _ hx))
   · rw [foundF_ge bs (by omega), foundF_ge bs (by have := mt h1.2 c; omega)]
theorem foundF_none (en : Nat → Nat) : ∀ (bs : List Nat) (f : Nat), (∀ b ∈ bs, b < f) → foundF en bs f = []
 | [], f, _ => rfl
 | b :: bs, f, h => by
   rw [foundF_lt bs (h b (by simp))]
   exact foundF_none en bs f (fun x hx => h x (List.mem_cons_of_mem _ hx))
theorem foundF_next (en : Nat → Nat) (bs : List Nat) (h : List.Pairwise (· < ·) bs) (hen : ∀ b ∈ bs, b ≤ en b) (f : Nat) :
 ((∀ b ∈ bs, b < f) ∧ foundF en bs f = []) ∨ ∃ b, b ∈ bs ∧ f ≤ b ∧ (∀ x ∈ bs, f ≤ x → b ≤ x) ∧ foundF en bs f = (b, en b) :: foundF en bs (if en b = b then b + 1 else en b) := by
 induction bs with
 | nil => exact .inl ⟨by simp, rfl⟩
 | cons b bs ih =>
   obtain ⟨h1, h2⟩ := List.pairwise_cons.1 h
   have hb := hen b (by simp)
   by_cases c : b < f
   · rcases ih h2 (fun x hx => hen x (List.mem_cons_of_mem _ hx)) with ⟨a, e⟩ | ⟨x, hx, a2, a3, a4⟩
     · refine .inl ⟨fun y hy => ?_, ?_⟩
       · rcases List.mem_cons.1 hy with q | q
         · subst q; exact c
         · exact a y q
       · rw [foundF_lt bs c]; exact e
     · refine .inr ⟨x, List.mem_cons_of_mem _ hx, a2, fun y hy hf => ?_, ?_⟩
       · rcases List.mem_cons.1 hy with q | q
         · subst q; omega
         · exact a3 y q hf
       · have hbx := h1 x hx
         have hex := hen x (List.mem_cons_of_mem _ hx)
         rw [foundF_lt bs c, a4, foundF_lt bs (by split <;> omega)]
   · refine .inr ⟨b, by simp, by omega, fun y hy hf => ?_, ?_⟩
     · rcases List.mem_cons.1 hy with q | q
       · subst q; omega
       · have := h1 y q; omega
     · rw [foundF_ge bs (by omega)]
       by_cases q : en b = b
       · rw [if_pos q, foundF_lt bs (by omega), q]
         congr 1
         exact foundF_from en bs b (b + 1) (fun x hx => by have := h1 x hx; omega)
       · rw [if_neg q, foundF_lt bs (by omega)]
theorem foundF_len (en : Nat → Nat) : ∀ (bs : List Nat) (f : Nat), (foundF en bs f).length ≤ bs.length
 | [], f => by simp [foundF_nil]
 | b :: bs, f => by
   by_cases c : b < f
   · rw [foundF_lt bs c]; have := foundF_len en bs f; simp; omega
   · rw [foundF_ge bs (by omega)]; have := foundF_len en bs (en b); simp; omega
theorem asc_ext : ∀ {xs ys : List Nat}, List.Pairwise (· < ·) xs → List.Pairwise (· < ·) ys → (∀ j, j ∈ xs ↔ j ∈ ys) → xs = ys
 | [], [], _, _, _ => rfl
 | [], y :: ys, _, _, h => absurd ((h y).2 (by simp)) (by simp)
 | x :: xs, [], _, _, h => absurd ((h x).1 (by simp)) (by simp)
 | x :: xs, y :: ys, hx, hy, h => by
   obtain ⟨x1, x2⟩ := List.pairwise_cons.1 hx
   obtain ⟨y1, y2⟩ := List.pairwise_cons.1 hy
   have e : x = y := by
     rcases List.mem_cons.1 ((h x).1 (by simp)) with q | q
     · exact q
     · rcases List.mem_cons.1 ((h y).2 (by simp)) with p | p
       · exact p.symm
       · have a := y1 x q; have b := x1 y p; omega
   subst e
   congr 1
   refine asc_ext x2 y2 (fun j => ⟨fun hj => ?_, fun hj => ?_⟩)
   · rcases List.mem_cons.1 ((h j).1 (List.mem_cons_of_mem _ hj)) with q | q
     · have := x1 j hj; omega
     · exact q
   · rcases List.mem_cons.1 ((h j).2 (List.mem_cons_of_mem _ hj)) with q | q
     · have := y1 j hj; omega
     · exact q
def begsL (Z : Int → Int) (n : Nat) : List Nat := (List.range (n + 1)).filter (fun j => decide (0 ≤ Z (j : Int)))
theorem begsL_mem (Z : Int → Int) (n j : Nat) : j ∈ begsL Z n ↔ j ≤ n ∧ 0 ≤ Z (j : Int) := by
 unfold begsL; simp [Nat.lt_succ_iff]
theorem begsL_asc (Z : Int → Int) (n : Nat) : List.Pairwise (· < ·) (begsL Z n) := List.Pairwise.filter _ List.pairwise_lt_range
theorem begsL_len (Z : Int → Int) (n : Nat) : (begsL Z n).length ≤ n + 1 := by
 unfold begsL; refine Nat.le_trans (List.length_filter_le _ _) ?_; simp
theorem begsL_of {Z : Int → Int} {n : Nat} {xs : List Nat} (h : PlN xs (fun j => j ≤ n ∧ 0 ≤ Z (j : Int))) : xs = begsL Z n :=
 asc_ext h.1 (begsL_asc Z n) (fun j => (h.2 j).trans (begsL_mem Z n j).symm)
def foundZ (Z : Int → Int) (n f : Nat) : List (Nat × Nat) := foundF (fun b => (Z (b : Int)).toNat) (begsL Z n) f
theorem foundZ_next {Z : Int → Int} {n : Nat} (hZ : ∀ j : Nat, j ≤ n → 0 ≤ Z (j : Int) → (j : Int) ≤ Z (j : Int)) (i : Nat) :
 (findZ Z (n : Int) (i : Int) = (-1, -1) ∧ foundZ Z n i = []) ∨ ∃ b : Nat, i ≤ b ∧ b ≤ n ∧ findZ Z (n : Int) (i : Int) = ((b : Int), Z (b : Int)) ∧ 0 ≤ Z (b : Int) ∧
   foundZ Z n i = (b, (Z (b : Int)).toNat) :: foundZ Z n (if (Z (b : Int)).toNat = b then b + 1 else (Z (b : Int)).toNat) := by
 rcases foundF_next (fun b => (Z (b : Int)).toNat) (begsL Z n) (begsL_asc Z n) (fun b hb => by
  have h := (begsL_mem Z n b).1 hb
  have := hZ b h.1 h.2
  show b ≤ (Z (b : Int)).toNat
  omega) i with ⟨h1, h2⟩ | ⟨b, hb, h1, h2, h3⟩
 · refine .inl ⟨findZ_none _ _ (by omega) rfl (fun j hj1 hj2 hz => ?_), h2⟩
   obtain ⟨k, rfl⟩ : ∃ k : Nat, j = (k : Int) := ⟨j.toNat, by omega⟩
   have := h1 k ((begsL_mem Z n k).2 ⟨by omega, hz⟩)
   omega
 · have hm := (begsL_mem Z n b).1 hb
   refine .inr ⟨b, h1, hm.1, findZ_first (by omega) hm.2 _ _ (by omega) (by omega) rfl (fun j hj1 hj2 hz => ?_), hm.2, h3⟩
   obtain ⟨k, rfl⟩ : ∃ k : Nat, j = (k : Int) := ⟨j.toNat, by omega⟩
   have := h2 k ((begsL_mem Z n k).2 ⟨by omega, hz⟩) (by omega)
   omega
theorem matchZ_bd {s : ByteArray} {t : RT} (j : Nat) (hj : j ≤ s.size) (hz : 0 ≤ matchZ s.data.toList t (j : Int)) : (j : Int) ≤ matchZ s.data.toList t (j : Int) ∧ matchZ s.data.toList t (j : Int) ≤ s.size := by
 have hl : s.data.toList.length = s.size := by simp
 cases ho : RT.ok t with
 | false => rw [matchZ_bad ho] at hz; omega
 | true =>
   rw [matchZ_in (by omega) ho] at hz ⊢
   rcases lastZ_cases (P := fun k => RT.M s.data.toList t j k) (fun k hk => M_le_len (by omega) hk) with ⟨e, _⟩ | ⟨m, hm, _, e⟩
   · rw [e] at hz; omega
   · have b := (RT.M_bd s.data.toList t j m hm (by omega)).1
     have c := M_le_len (by omega) hm
     rw [e]; omega
def matchStep (s : List (Nat × Nat) × Int) (p : Nat × Nat) : List (Nat × Nat) × Int := if p.1 = p.2 ∧ (p.1 : Int) = s.2 then s else (s.1 ++ [p], (p.2 : Int))
def matchSt (ps : List (Nat × Nat)) : List (Nat × Nat) × Int := ps.foldl matchStep ([], -1)
theorem matchSt_snoc (ps : List (Nat × Nat)) (p : Nat × Nat) : matchSt (ps ++ [p]) = matchStep (matchSt ps) p := by
 unfold matchSt; rw [List.foldl_append]; rfl
theorem matchStep_fst (s : List (Nat × Nat) × Int) : ∀ (ps : List (Nat × Nat)), ∃ r, (ps.foldl matchStep s).1 = s.1 ++ r ∧ r.length ≤ ps.length
 | [] => ⟨[], by simp, Nat.le_refl _⟩
 | p :: ps => by
   simp only [List.foldl_cons]
   by_cases c : p.1 = p.2 ∧ (p.1 : Int) = s.2
   · obtain ⟨r, h, hl⟩ := matchStep_fst s ps
     rw [show matchStep s p = s from by unfold matchStep; rw [if_pos c]]
     exact ⟨r, h, by simp; omega⟩
   · obtain ⟨r, h, hl⟩ := matchStep_fst (s.1 ++ [p], (p.2 : Int)) ps
     rw [show matchStep s p = (s.1 ++ [p], (p.2 : Int)) from by unfold matchStep; rw [if_neg c]]
     exact ⟨p :: r, by rw [h]; simp, by simp; omega⟩
theorem matchSt_pre (ps qs : List (Nat × Nat)) : ∃ r, (matchSt (ps ++ qs)).1 = (matchSt ps).1 ++ r := by
 unfold matchSt; rw [List.foldl_append]
 obtain ⟨r, h, _⟩ := matchStep_fst (ps.foldl matchStep ([], -1)) qs
 exact ⟨r, h⟩
theorem matchSt_len (ps : List (Nat × Nat)) : (matchSt ps).1.length ≤ ps.length := by
 obtain ⟨r, h, hl⟩ := matchStep_fst ([], -1) ps
 unfold matchSt; rw [h]; simpa using hl
def matchesZ (Z : Int → Int) (n : Nat) : List (Nat × Nat) := (matchSt (foundZ Z n 0)).1
theorem foundZ_len (Z : Int → Int) (n f : Nat) : (foundZ Z n f).length ≤ n + 1 := Nat.le_trans (foundF_len _ _ _) (begsL_len Z n)
theorem matchesZ_len (Z : Int → Int) (n : Nat) : (matchesZ Z n).length ≤ n + 1 := Nat.le_trans (matchSt_len _) (foundZ_len Z n 0)
theorem foundFold_ends (en : Nat → Nat) : ∀ (bs : List Nat) (st : List (Nat × Nat) × Nat), (∀ y ∈ st.1, y.2 ≤ st.2) → (∀ b ∈ bs, b ≤ en b) → ∀ y ∈ (bs.foldl (foundStep en) st).1, y.2 ≤ (bs.foldl (foundStep en) st).2
 | [], st, h, _ => h
 | b :: bs, st, h, hb => by
   have h1 := hb b (by simp)
   refine foundFold_ends en bs (foundStep en st b) (fun y hy => ?_) (fun x hx => hb x (List.mem_cons_of_mem _ hx))
   unfold foundStep at hy ⊢
   by_cases c : b < st.2
   · rw [if_pos c] at hy ⊢; exact h y hy
   · rw [if_neg c] at hy ⊢
     rcases List.mem_append.1 hy with hy | hy
     · have := h y hy; show y.2 ≤ en b; omega
     · simp at hy; subst hy; exact Nat.le_refl _
theorem foundSt_ends (en : Nat → Nat) (bs : List Nat) (h : ∀ b ∈ bs, b ≤ en b) : ∀ y ∈ (foundSt en bs 0).1, y.2 ≤ (foundSt en bs 0).2 :=
 foundFold_ends en bs ([], 0) (by simp) h
theorem foundSt_len (en : Nat → Nat) (bs : List Nat) : (foundSt en bs 0).1.length ≤ bs.length := foundF_len en bs 0
theorem matchStep_mem {s : List (Nat × Nat) × Int} {p y : Nat × Nat} (h : y ∈ (matchStep s p).1) : y ∈ s.1 ∨ y = p := by
 unfold matchStep at h
 split at h
 · exact .inl h
 · rcases List.mem_append.1 h with h | h
   · exact .inl h
   · simp at h; exact .inr h
theorem matchFold_mem : ∀ (ps : List (Nat × Nat)) (st : List (Nat × Nat) × Int) (y : Nat × Nat), y ∈ (ps.foldl matchStep st).1 → y ∈ st.1 ∨ y ∈ ps
 | [], st, y, h => .inl h
 | p :: ps, st, y, h => by
   rcases matchFold_mem ps (matchStep st p) y h with h | h
   · rcases matchStep_mem h with h | h
     · exact .inl h
     · exact .inr (by simp [h])
   · exact .inr (List.mem_cons_of_mem _ h)
theorem matchSt_mem (ps : List (Nat × Nat)) (y : Nat × Nat) (h : y ∈ (matchSt ps).1) : y ∈ ps := by
 rcases matchFold_mem ps ([], -1) y h with h | h
 · simp at h
 · exact h
def NxP (n N : Nat) (pre : List (Nat × Nat)) (x : Nat × Nat) : Prop := (∀ y ∈ pre, y.2 ≤ x.1) ∧ x.1 ≤ x.2 ∧ x.2 ≤ n ∧ pre.length < N
theorem NxP.matches {n N : Nat} {pre : List (Nat × Nat)} {x : Nat × Nat} (h : NxP n N pre x) : NxP n N (matchSt pre).1 x :=
 ⟨fun y hy => h.1 y (matchSt_mem pre y hy), h.2.1, h.2.2.1, Nat.lt_of_le_of_lt (matchSt_len pre) h.2.2.2⟩
theorem foundF_pre (en : Nat → Nat) (xs bs : List Nat) : ∃ r, (foundSt en (xs ++ bs) 0).1 = (foundSt en xs 0).1 ++ r := by
 refine ⟨(foundSt en bs (foundSt en xs 0).2).1, ?_⟩
 have h : foundSt en (xs ++ bs) 0 = bs.foldl (foundStep en) ((foundSt en xs 0).1, (foundSt en xs 0).2) := by unfold foundSt; rw [List.foldl_append]
 rw [h, foundStep_acc]
end Go.Proofs.YtcimhpdpfckgiaaGreatDoor.kit
