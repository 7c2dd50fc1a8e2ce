/-
  Matches lie one behind the other; a text with others in their place: plain facts, of no program. Conditions: each theorem names its own.
-/
import Derived.Test.YtppfnaenamcnpaaDoorMrMi17
import Derived.Test.YtppfnaenamcnpaaDoorMrEp0
set_option linter.unusedVariables false
namespace Go.Proofs.YtppfnaenamcnpaaDoor.kit
def ChainP (n : Nat) : Nat → List (Nat × Nat) → Prop
 | f, [] => f ≤ n
 | f, p :: ps => f ≤ p.1 ∧ p.1 ≤ p.2 ∧ ChainP n p.2 ps
theorem ChainP.le {n : Nat} : ∀ {f : Nat} {ps : List (Nat × Nat)}, ChainP n f ps → f ≤ n
 | f, [], h => h
 | f, p :: ps, h => by have := ChainP.le h.2.2; have := h.1; have := h.2.1; omega
theorem ChainP.weak {n f f' : Nat} {ps : List (Nat × Nat)} (h : ChainP n f ps) (hf : f' ≤ f) : ChainP n f' ps := by
 cases ps with
 | nil => exact Nat.le_trans hf h
 | cons p ps => exact ⟨Nat.le_trans hf h.1, h.2⟩
theorem ChainP.take {n : Nat} : ∀ {f : Nat} {ps : List (Nat × Nat)} (k : Nat), ChainP n f ps → ChainP n f (ps.take k)
 | f, [], k, h => by simpa using h
 | f, p :: ps, 0, h => ChainP.le h
 | f, p :: ps, k + 1, h => ⟨h.1, h.2.1, ChainP.take k h.2.2⟩
theorem foundF_chain {en : Nat → Nat} {n : Nat} : ∀ (bs : List Nat) (f : Nat), f ≤ n → (∀ b ∈ bs, b ≤ en b ∧ en b ≤ n) → ChainP n f (foundF en bs f)
 | [], f, hf, _ => hf
 | b :: bs, f, hf, h => by
   have hb := h b (by simp)
   have ht : ∀ x ∈ bs, x ≤ en x ∧ en x ≤ n := fun x hx => h x (List.mem_cons_of_mem _ hx)
   by_cases c : b < f
   · rw [foundF_lt bs c]; exact foundF_chain bs f hf ht
   · rw [foundF_ge bs (by omega)]
     exact ⟨by show f ≤ b; omega, hb.1, foundF_chain bs (en b) hb.2 ht⟩
theorem matchFold_chain {n : Nat} : ∀ (ps : List (Nat × Nat)) (acc : List (Nat × Nat)) (last : Int) (f : Nat), ChainP n f ps → ∃ r, (ps.foldl matchStep (acc, last)).1 = acc ++ r ∧ ChainP n f r
 | [], acc, last, f, h => ⟨[], by simp, h⟩
 | p :: ps, acc, last, f, h => by
   simp only [List.foldl_cons]
   by_cases c : p.1 = p.2 ∧ (p.1 : Int) = last
   · rw [show matchStep (acc, last) p = (acc, last) from by unfold matchStep; rw [if_pos c]]
     exact matchFold_chain ps acc last f (h.2.2.weak (by have := h.1; have := h.2.1; omega))
   · rw [show matchStep (acc, last) p = (acc ++ [p], (p.2 : Int)) from by unfold matchStep; rw [if_neg c]]
     obtain ⟨r, h1, h2⟩ := matchFold_chain ps (acc ++ [p]) (p.2 : Int) p.2 h.2.2
     exact ⟨p :: r, by rw [h1]; simp, h.1, h.2.1, h2⟩
theorem matchesZ_chain {Z : Int → Int} {n : Nat} (hZ : ∀ j : Nat, j ≤ n → 0 ≤ Z (j : Int) → (j : Int) ≤ Z (j : Int) ∧ Z (j : Int) ≤ n) : ChainP n 0 (matchesZ Z n) := by
 have hf : ChainP n 0 (foundZ Z n 0) := foundF_chain _ 0 (Nat.zero_le _) (fun b hb => by
  have h := (begsL_mem Z n b).1 hb
  have := hZ b h.1 h.2
  constructor
  · show b ≤ (Z (b : Int)).toNat; omega
  · show (Z (b : Int)).toNat ≤ n; omega)
 obtain ⟨r, h1, h2⟩ := matchFold_chain (foundZ Z n 0) [] (-1) 0 hf
 have e : matchesZ Z n = r := by unfold matchesZ matchSt; rw [h1]; simp
 rw [e]; exact h2
theorem repFold_snd (s r : List UInt8) (n : Nat) : ∀ (ps : List (Nat × Nat)) (T : List UInt8) (f i : Nat), ChainP n f ps → (hi : i < ps.length) →
 ((ps.take i).foldl (repStep s r) (T, f)).2 ≤ (ps[i]).1 ∧ (ps[i]).1 ≤ (ps[i]).2 ∧ (ps[i]).2 ≤ n
 | [], T, f, i, h, hi => by simp at hi
 | p :: ps, T, f, 0, h, hi => ⟨h.1, h.2.1, h.2.2.le⟩
 | p :: ps, T, f, i + 1, h, hi => by
   simp only [List.take_succ_cons, List.foldl_cons, List.getElem_cons_succ]
   exact repFold_snd s r n ps _ p.2 i h.2.2 (by simpa using hi)
theorem repFold_end (s r : List UInt8) (n : Nat) : ∀ (ps : List (Nat × Nat)) (T : List UInt8) (f : Nat), ChainP n f ps → (ps.foldl (repStep s r) (T, f)).2 ≤ n
 | [], T, f, h => h
 | p :: ps, T, f, h => repFold_end s r n ps _ p.2 h.2.2
theorem ChainP.at {n : Nat} {ps : List (Nat × Nat)} (h : ChainP n 0 ps) (s r : List UInt8) (i : Nat) (hi : i < ps.length) : (repSt s r (ps.take i)).2 ≤ (ps[i]).1 ∧ (ps[i]).1 ≤ (ps[i]).2 ∧ (ps[i]).2 ≤ n := repFold_snd s r n ps [] 0 i h hi
theorem ChainP.fin {n : Nat} {ps : List (Nat × Nat)} (h : ChainP n 0 ps) (s r : List UInt8) : (repSt s r ps).2 ≤ n := repFold_end s r n ps [] 0 h
def repPs (all : Bool) (ps : List (Nat × Nat)) : List (Nat × Nat) := if all then ps else ps.take 1
def repRes (r s : ByteArray) (all : Bool) (ps : List (Nat × Nat)) : Go.Value :=
 if (repL s.data.toList r.data.toList (repPs all ps)).length ≤ 4000 then .tuple #[.string ⟨(repL s.data.toList r.data.toList (repPs all ps)).toArray⟩, .int .i64 ((repPs all ps).length : Int), .bool true] else .tuple #[.string s, .int .i64 0, .bool false]
theorem putL_len (f : List UInt8) : ∀ (k : Nat) (r : List UInt8), r.length ≤ k → (putL f r).length ≤ r.length * (f.length + 1)
 | 0, r, h => by
   have : r = [] := List.length_eq_zero_iff.1 (by omega)
   subst this; simp [putL]
 | k + 1, [], h => by simp [putL]
 | k + 1, [c], h => by
   simp only [putL]; split <;> simp
 | k + 1, c :: d :: u, h => by
   rw [putL]
   have h1 := putL_len f k (d :: u) (by simp at h ⊢; omega)
   have h2 := putL_len f k u (by simp at h ⊢; omega)
   simp only [List.length_cons, Nat.add_mul, Nat.one_mul] at h1 h2 ⊢
   split
   · rw [List.length_append]; omega
   · split
     · rw [List.length_cons]; omega
     · rw [List.length_cons]; omega
end Go.Proofs.YtppfnaenamcnpaaDoor.kit
