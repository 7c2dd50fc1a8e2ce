/-
  The numbers of a set, one after the other, as the program goes over a word's bits: plain facts, of no program. Conditions: each theorem names its own.
-/
import Derived.Test.YtcimhpdpfckgiaaGreatDoorMxKit
import Derived.Lib.TrailingZeros
set_option linter.unusedVariables false
namespace Go.Proofs.YtcimhpdpfckgiaaGreatDoor.kit
theorem low_gone (y t : Nat) : ∀ i, ((2 ^ t * (2 * y + 1)) &&& (2 ^ t * (2 * y + 1) - 1)).testBit i = ((2 ^ t * (2 * y + 1)).testBit i && !decide (i = t)) := by
 intro i
 have e1 : 2 ^ t * (2 * y + 1) = 2 ^ t * (2 * y + 1) + 0 := by omega
 have hp : 0 < 2 ^ t := Nat.two_pow_pos t
 have e2 : 2 ^ t * (2 * y + 1) - 1 = 2 ^ t * (2 * y) + (2 ^ t - 1) := by rw [Nat.mul_add]; omega
 rw [Nat.testBit_and, e2, Nat.testBit_two_pow_mul_add _ (by omega)]
 have e3 : ∀ i, (2 ^ t * (2 * y + 1)).testBit i = if i < t then false else (2 * y + 1).testBit (i - t) := by
  intro i
  have := Nat.testBit_two_pow_mul_add (2 * y + 1) (i := t) (b := 0) hp i
  simpa using this
 rw [e3]
 by_cases h : i < t
 · rw [if_pos h]; simp
 · rw [if_neg h, if_neg h]
   by_cases h2 : i = t
   · subst h2; simp
   · have : ∃ k, i - t = k + 1 := ⟨i - t - 1, by omega⟩
     obtain ⟨k, hk⟩ := this
     rw [hk, Nat.testBit_succ, Nat.testBit_succ]
     have a : (2 * y + 1) / 2 = y := by omega
     have b : 2 * y / 2 = y := by omega
     rw [a, b]; simp [h2]
theorem ctz_form (x : Nat) (h0 : x ≠ 0) (h : x < 2 ^ 64) : ∃ y, x = 2 ^ Lib.ctz 64 x * (2 * y + 1) ∧ Lib.ctz 64 x < 64 := by
 have := Lib.ctzFrom_spec 64 x (by omega) h
 unfold Lib.ctz; rw [if_neg h0]; exact this
theorem and_pred_lt (x : Nat) (h : x ≠ 0) : x &&& (x - 1) < x := Nat.lt_of_le_of_lt Nat.and_le_right (by omega)
def bitsN (x : Nat) : List Nat := if h : x = 0 then [] else Lib.ctz 64 x :: bitsN (x &&& (x - 1))
termination_by x
decreasing_by exact and_pred_lt x h
theorem bitsN_zero : bitsN 0 = [] := by rw [bitsN, dif_pos rfl]
theorem bitsN_next (x : Nat) (h : x ≠ 0) : bitsN x = Lib.ctz 64 x :: bitsN (x &&& (x - 1)) := by rw [bitsN, dif_neg h]
theorem bits_mem (x : Nat) (hx : x < 2 ^ 64) : (∀ i, i ∈ bitsN x ↔ x.testBit i = true) ∧ (bitsN x).Pairwise (· < ·) := by
 induction x using Nat.strongRecOn with
 | _ x ih =>
   by_cases h0 : x = 0
   · subst h0
     rw [bitsN_zero]
     exact ⟨by simp, List.Pairwise.nil⟩
   · obtain ⟨y, hy, ht⟩ := ctz_form x h0 hx
     have hb : ∀ i, (x &&& (x - 1)).testBit i = (x.testBit i && !decide (i = Lib.ctz 64 x)) := by
       intro i
       have := low_gone y (Lib.ctz 64 x) i
       rw [← hy] at this
       exact this
     have hbit : ∀ i, x.testBit i = (2 ^ Lib.ctz 64 x * (2 * y + 1)).testBit i := fun i => by rw [← hy]
     have hform : ∀ i, (2 ^ Lib.ctz 64 x * (2 * y + 1)).testBit i = if i < Lib.ctz 64 x then false else (2 * y + 1).testBit (i - Lib.ctz 64 x) := by
       intro i
       have := Nat.testBit_two_pow_mul_add (2 * y + 1) (i := Lib.ctz 64 x) (b := 0) (Nat.two_pow_pos _) i
       simpa using this
     have hlow : ∀ i, i < Lib.ctz 64 x → x.testBit i = false := by
       intro i hi
       rw [hbit, hform, if_pos hi]
     have hat : x.testBit (Lib.ctz 64 x) = true := by
       rw [hbit, hform]; simp
     obtain ⟨ih1, ih2⟩ := ih (x &&& (x - 1)) (and_pred_lt x h0) (Nat.lt_trans (and_pred_lt x h0) hx)
     rw [bitsN_next x h0]
     refine ⟨fun i => ?_, ?_⟩
     · rw [List.mem_cons, ih1, hb]
       by_cases c : i = Lib.ctz 64 x
       · rw [c, hat]; simp
       · simp [c]
     · rw [List.pairwise_cons]
       refine ⟨fun i hi => ?_, ih2⟩
       have h2 := (ih1 i).1 hi
       rw [hb] at h2
       simp only [Bool.and_eq_true, Bool.not_eq_true', decide_eq_false_iff_not] at h2
       by_cases c : i < Lib.ctz 64 x
       · rw [hlow i c] at h2; simp at h2
       · omega
theorem bitsN_mem (x : Nat) (hx : x < 2 ^ 64) (i : Nat) : i ∈ bitsN x ↔ x.testBit i = true := (bits_mem x hx).1 i
theorem bitsN_asc (x : Nat) (hx : x < 2 ^ 64) : (bitsN x).Pairwise (· < ·) := (bits_mem x hx).2
theorem bitsN_lt (x : Nat) (hx : x < 2 ^ 64) (i : Nat) (h : i ∈ bitsN x) : i < 64 := by
 by_cases c : i < 64
 · exact c
 · have := (bitsN_mem x hx i).1 h
   rw [Nat.testBit_lt_two_pow (Nat.lt_of_lt_of_le hx (Nat.pow_le_pow_right (by omega) (by omega)))] at this
   cases this
def memL : Nat → List Nat → List Nat
 | _, [] => []
 | sk, x :: ws => (bitsN x).map (fun i => sk * 64 + i) ++ memL (sk + 1) ws
theorem memL_append (sk : Nat) : ∀ (ws vs : List Nat), memL sk (ws ++ vs) = memL sk ws ++ memL (sk + ws.length) vs
 | [], vs => by simp [memL]
 | x :: ws, vs => by
   simp only [List.cons_append, memL, List.append_assoc, List.length_cons]
   rw [memL_append (sk + 1) ws vs, show sk + 1 + ws.length = sk + (ws.length + 1) by omega]
theorem memL_mem : ∀ (ws : List Nat) (sk j : Nat), (∀ x ∈ ws, x < 2 ^ 64) → (j ∈ memL sk ws ↔ memS sk ws j)
 | [], sk, j, _ => by simp [memL, memS]
 | x :: ws, sk, j, h => by
   have hx := h x (by simp)
   have ih := memL_mem ws (sk + 1) j (fun y hy => h y (by simp [hy]))
   simp only [memL, List.mem_append, ih, List.mem_map]
   unfold memS
   constructor
   · rintro (⟨i, hi, rfl⟩ | ⟨h1, h2⟩)
     · have hl := bitsN_lt x hx i hi
       have hm := (bitsN_mem x hx i).1 hi
       have e1 : (sk * 64 + i) / 64 = sk := by omega
       have e2 : (sk * 64 + i) % 64 = i := by omega
       rw [e1, e2]
       exact ⟨Nat.le_refl _, by simpa using hm⟩
     · refine ⟨by omega, ?_⟩
       rw [show j / 64 - sk = (j / 64 - (sk + 1)) + 1 by omega, List.getD_cons_succ]
       exact h2
   · rintro ⟨h1, h2⟩
     by_cases c : j / 64 = sk
     · refine .inl ⟨j % 64, (bitsN_mem x hx _).2 ?_, by omega⟩
       rw [c, Nat.sub_self, List.getD_cons_zero] at h2
       exact h2
     · refine .inr ⟨by omega, ?_⟩
       rw [show j / 64 - sk = (j / 64 - (sk + 1)) + 1 by omega, List.getD_cons_succ] at h2
       exact h2
theorem memL_ge : ∀ (ws : List Nat) (sk : Nat), (∀ x ∈ ws, x < 2 ^ 64) → ∀ j ∈ memL sk ws, sk * 64 ≤ j
 | ws, sk, h, j, hj => by
   have := ((memL_mem ws sk j h).1 hj).1
   omega
theorem memL_asc : ∀ (ws : List Nat) (sk : Nat), (∀ x ∈ ws, x < 2 ^ 64) → AscN (memL sk ws)
 | [], sk, _ => List.Pairwise.nil
 | x :: ws, sk, h => by
   have hx := h x (by simp)
   have hr : ∀ y ∈ ws, y < 2 ^ 64 := fun y hy => h y (by simp [hy])
   unfold AscN
   simp only [memL]
   rw [List.pairwise_append]
   refine ⟨?_, memL_asc ws (sk + 1) hr, ?_⟩
   · rw [List.pairwise_map]
     exact (bitsN_asc x hx).imp (fun h => by omega)
   · intro a ha b hb
     rw [List.mem_map] at ha
     obtain ⟨i, hi, rfl⟩ := ha
     have := bitsN_lt x hx i hi
     have := memL_ge ws (sk + 1) hr b hb
     omega
theorem memL_pl (ws : List Nat) (sk : Nat) (h : ∀ x ∈ ws, x < 2 ^ 64) : PlN (memL sk ws) (memS sk ws) := ⟨memL_asc ws sk h, fun j => memL_mem ws sk j h⟩
theorem memL_snoc (sk : Nat) (ws : List Nat) (i : Nat) (h : i < ws.length) : memL sk (ws.take (i + 1)) = memL sk (ws.take i) ++ (bitsN ws[i]).map (fun b => (sk + i) * 64 + b) := by
 rw [List.take_succ_eq_append_getElem h, memL_append]
 simp only [memL, List.append_nil]
 rw [List.length_take, Nat.min_eq_left (by omega)]
theorem memL_cut (sk : Nat) (ws : List Nat) (i : Nat) : ∃ r, memL sk ws = memL sk (ws.take i) ++ r := by
 have h := memL_append sk (ws.take i) (ws.drop i)
 rw [List.take_append_drop] at h
 exact ⟨_, h⟩
structure SetB (N sk : Nat) (ws : List Nat) : Prop where
 le : sk + ws.length ≤ N
 lt : ∀ x ∈ ws, x < 2 ^ 64
 some : ws = [] ∨ ∃ j, memS sk ws j
theorem SetB.nil (N sk : Nat) (h : sk ≤ N) : SetB N sk [] := ⟨by simpa using h, by simp, .inl rfl⟩
theorem SetB.none {N sk : Nat} {ws : List Nat} (h : SetB N sk ws) (hn : ∀ j, ¬ memS sk ws j) : ws = [] := by
 rcases h.some with e | ⟨j, e⟩
 · exact e
 · exact absurd e (hn j)
def covSk (sk : Nat) (ws : List Nat) (b : Nat) : Nat := if ws = [] then b else min b sk
def covWs (sk : Nat) (ws : List Nat) (b e : Nat) : List Nat := (if ws = [] then [] else List.replicate (sk - b) 0 ++ ws) ++ List.replicate (e - (covSk sk ws b + (if ws = [] then 0 else sk - b + ws.length))) 0
theorem cov_mem (sk : Nat) (ws : List Nat) (b e j : Nat) : memS (covSk sk ws b) (covWs sk ws b e) j ↔ memS sk ws j := by
 unfold covWs
 rw [memS_behind]
 unfold covSk
 by_cases h : ws = []
 · subst h; simp [memS]
 · rw [if_neg h, if_neg h]
   by_cases c : b ≤ sk
   · rw [Nat.min_eq_left c]; exact memS_ahead sk b ws c j
   · rw [Nat.min_eq_right (by omega), show sk - b = 0 by omega]; simp
theorem cov_len (sk : Nat) (ws : List Nat) (b e : Nat) (h : b ≤ e) : covSk sk ws b ≤ b ∧ e ≤ covSk sk ws b + (covWs sk ws b e).length ∧ covSk sk ws b + (covWs sk ws b e).length ≤ max e (sk + ws.length) := by
 unfold covWs covSk
 by_cases hw : ws = []
 · subst hw; simp; omega
 · rw [if_neg hw, if_neg hw]
   simp only [List.length_append, List.length_replicate, if_neg hw]
   by_cases c : b ≤ sk
   · rw [Nat.min_eq_left c]; omega
   · rw [Nat.min_eq_right (by omega)]; omega
theorem cov_lt (sk : Nat) (ws : List Nat) (b e : Nat) (h : ∀ x ∈ ws, x < 2 ^ 64) : ∀ x ∈ covWs sk ws b e, x < 2 ^ 64 := by
 intro x hx
 unfold covWs at hx
 rcases List.mem_append.1 hx with hx | hx
 · split at hx
   · simp at hx
   · rcases List.mem_append.1 hx with hx | hx
     · rw [List.mem_replicate] at hx; omega
     · exact h x hx
 · rw [List.mem_replicate] at hx; omega
end Go.Proofs.YtcimhpdpfckgiaaGreatDoor.kit
