/-
  What is meant is never shorter than the least: plain facts, of no program. Conditions: each theorem names its own.
-/
import Derived.Test.YtppfnaenamcnpaaDoorMfMi17
import Derived.Test.YtppfnaenamcnpaaDoorMfRe11
set_option linter.unusedVariables false
namespace Go.Proofs.YtppfnaenamcnpaaDoor.kit
theorem rpow_far {T : Nat → Nat → Prop} {q : Nat} (h : ∀ i j, T i j → i + q ≤ j) : ∀ (n i j : Nat), rpow T n i j → i + n * q ≤ j
 | 0, i, j, hp => by
   have e : i = j := hp
   subst e; simp
 | n + 1, i, j, hp => by
   obtain ⟨k, a, b⟩ := hp
   have h1 := rpow_far h n i k a
   have h2 := h k j b
   rw [Nat.succ_mul]; omega
theorem wrap_small {x : Int} (h0 : 0 ≤ x) (h : x ≤ 4000000000000000000) : IntKind.i64.wrap x = x := by rw [IntKind.wrap_i64]; omega
theorem pow13 (d : Nat) (h : d ≤ 12) : 9 ^ (13 - d) = 9 * 9 ^ (13 - (d + 1)) := by
 rw [show 13 - d = (13 - (d + 1)) + 1 by omega, Nat.pow_succ, Nat.mul_comm]
theorem pow_le13 (d : Nat) : 9 ^ (13 - d) ≤ 2541865828329 := by
 have : 9 ^ (13 - d) ≤ 9 ^ 13 := Nat.pow_le_pow_right (by omega) (by omega)
 have e : (9 : Nat) ^ 13 = 2541865828329 := by decide
 omega
theorem lst_far : ∀ (M : Nat) (t : RT), RT.sz t ≤ M → ∀ (d : Nat) (left : Int), 0 ≤ left → 0 ≤ RT.pl t (d : Int) left → RT.sz t ≤ 200 →
 ∃ q : Nat, RT.lst t = (q : Int) ∧ q ≤ RT.sz t * 9 ^ (13 - d) ∧ ∀ (l : List UInt8) (i j : Nat), RT.M l t i j → i + q ≤ j := by
 intro M
 induction M with
 | zero => intro t h; have := RT.sz_pos t; omega
 | succ M ih =>
   intro t hM d left h0 hp h2
   have hgd : RT.good t := ⟨d, left, h0, hp⟩
   have ho := RT.good_own hgd
   have hc : ¬ (left = 0 ∨ 12 < (d : Int) ∨ RT.own t = false) := by
    intro c; rw [RT.pl_no t d left c] at hp; omega
   have hd : d ≤ 12 := by
    have : ¬ 12 < (d : Int) := fun x => hc (.inr (.inl x))
    omega
   have hl : 0 ≤ left - 1 := by
    have : left ≠ 0 := fun x => hc (.inl x)
    omega
   rw [RT.pl_go t d left hc] at hp
   have hP := pow13 d hd
   have hPb := pow_le13 d
   have hPb' := pow_le13 (d + 1)
   obtain ⟨P', hP'⟩ : ∃ P', P' = 9 ^ (13 - (d + 1)) := ⟨_, rfl⟩
   obtain ⟨P, hPP⟩ : ∃ P, P = 9 ^ (13 - d) := ⟨_, rfl⟩
   rw [← hP', ← hPP] at hP
   rw [← hPP] at hPb ⊢
   have hP1 : 1 ≤ P := by
    rw [hPP]; exact Nat.pow_pos (by omega)
   obtain ⟨k, ss, n, lo, hi, ts⟩ := t
   rcases RT.own_shape ho with ⟨hk0, rfl⟩ | ⟨hk0, x, y, rfl⟩ | ⟨rfl, x, rfl⟩
   · have e1 : RT.sz (.node k ss n lo hi []) = 1 := by simp [RT.sz, RT.szs]
     rw [e1, Nat.one_mul]
     rcases hk0 with rfl | rfl | rfl | rfl | rfl
     · exact ⟨0, by simp [RT.lst], by omega, fun l i j h => by rw [RT.M_none] at h; omega⟩
     · exact ⟨1, by simp [RT.lst], hP1, fun l i j h => by rw [RT.M_one l 1 (.inl rfl)] at h; omega⟩
     · exact ⟨0, by simp [RT.lst], by omega, fun l i j h => by rw [RT.M_head] at h; omega⟩
     · exact ⟨0, by simp [RT.lst], by omega, fun l i j h => by rw [RT.M_tail] at h; omega⟩
     · exact ⟨1, by simp [RT.lst], hP1, fun l i j h => by rw [RT.M_one l 2 (.inr rfl)] at h; omega⟩
   · have hs : RT.sz (.node k ss n lo hi [x, y]) = 1 + (RT.sz x + RT.sz y) := by simp [RT.sz, RT.szs]
     simp only [RT.kids, RT.pls, if_true] at hp
     have e1 : ((0 : Nat) + 1 = 0) = False := by simp
     simp only [e1, if_false] at hp
     by_cases c1 : RT.pl x ((d : Int) + 1) (left - 1) < 0
     · rw [if_pos c1] at hp; omega
     · rw [if_neg c1] at hp
       by_cases c2 : RT.pl y (d : Int) (RT.pl x ((d : Int) + 1) (left - 1)) < 0
       · rw [if_pos c2] at hp; omega
       · obtain ⟨qx, x1, x2, x3⟩ := ih x (by omega) (d + 1) (left - 1) hl (by rw [show ((d + 1 : Nat) : Int) = (d : Int) + 1 by omega]; omega) (by omega)
         obtain ⟨qy, y1, y2, y3⟩ := ih y (by omega) d (RT.pl x ((d : Int) + 1) (left - 1)) (by omega) (by omega) (by omega)
         rw [← hP'] at x2
         rw [← hPP] at y2
         have hxP : RT.sz x * P' ≤ RT.sz x * P := Nat.mul_le_mul_left _ (by omega)
         have hxb : RT.sz x * P ≤ 200 * P := Nat.mul_le_mul_right _ (by omega)
         have hyb : RT.sz y * P ≤ 200 * P := Nat.mul_le_mul_right _ (by omega)
         have htot : (1 + (RT.sz x + RT.sz y)) * P = P + (RT.sz x * P + RT.sz y * P) := by rw [Nat.add_mul, Nat.add_mul, Nat.one_mul]
         rcases hk0 with rfl | rfl
         · refine ⟨qx + qy, ?_, by rw [hs, htot]; omega, fun l i j h => ?_⟩
           · have e : RT.lst (.node 3 ss n lo hi [x, y]) = IntKind.i64.wrap (RT.lst x + RT.lst y) := by simp [RT.lst, RT.lsts]
             rw [e, x1, y1, wrap_small (by omega) (by omega)]; omega
           · rw [RT.M_cat] at h
             obtain ⟨m, a, b⟩ := h
             have := x3 l i m a
             have := y3 l m j b
             omega
         · refine ⟨min qx qy, ?_, by rw [hs, htot]; omega, fun l i j h => ?_⟩
           · have e : RT.lst (.node 4 ss n lo hi [x, y]) = min (RT.lst x) (RT.lst y) := by simp [RT.lst, RT.lsts]
             rw [e, x1, y1]; omega
           · rw [RT.M_alt] at h
             rcases h with h | h
             · have := x3 l i j h; omega
             · have := y3 l i j h; omega
   · have hs : RT.sz (.node 5 ss n lo hi [x]) = 1 + RT.sz x := by simp [RT.sz, RT.szs]
     have hm := RT.own_many ho
     simp only [RT.kids, RT.pls, if_true] at hp
     by_cases c1 : RT.pl x ((d : Int) + 1) (left - 1) < 0
     · rw [if_pos c1] at hp; omega
     · obtain ⟨qx, x1, x2, x3⟩ := ih x (by omega) (d + 1) (left - 1) hl (by rw [show ((d + 1 : Nat) : Int) = (d : Int) + 1 by omega]; omega) (by omega)
       rw [← hP'] at x2
       obtain ⟨w, rfl⟩ : ∃ w : Nat, lo = (w : Int) := ⟨lo.toNat, by omega⟩
       have hw9 : w ≤ 9 := by omega
       have h9 : w * qx ≤ 9 * qx := Nat.mul_le_mul_right _ hw9
       have h9b : 9 * (RT.sz x * P') = RT.sz x * P := by rw [hP, Nat.mul_left_comm]
       have hxb : RT.sz x * P ≤ 200 * P := Nat.mul_le_mul_right _ (by omega)
       have htot : (1 + RT.sz x) * P = P + RT.sz x * P := by rw [Nat.add_mul, Nat.one_mul]
       refine ⟨w * qx, ?_, by rw [hs, htot]; omega, fun l i j h => ?_⟩
       · have e : RT.lst (.node 5 ss n (w : Int) hi [x]) = IntKind.i64.wrap ((w : Int) * RT.lst x) := by simp [RT.lst, RT.lsts]
         rw [e, x1, show (w : Int) * (qx : Int) = ((w * qx : Nat) : Int) by simp, wrap_small (by omega) (by omega)]
       · rw [RT.M_many] at h
         obtain ⟨m, a, _, b⟩ := h
         have h1 := rpow_far (x3 l) m i j b
         have h2 : w * qx ≤ m * qx := Nat.mul_le_mul_right _ (by omega)
         omega
theorem lst_le {l : List UInt8} {t : RT} {i j : Nat} (ho : RT.ok t = true) (h : RT.M l t i j) : RT.lst t ≤ (j : Int) - (i : Int) := by
 obtain ⟨q, e, _, hq⟩ := lst_far _ t (Nat.le_refl _) 0 200 (by omega) (by simpa [RT.ok] using ho) (RT.ok_sz ho)
 have := hq l i j h
 rw [e]; omega
end Go.Proofs.YtppfnaenamcnpaaDoor.kit
