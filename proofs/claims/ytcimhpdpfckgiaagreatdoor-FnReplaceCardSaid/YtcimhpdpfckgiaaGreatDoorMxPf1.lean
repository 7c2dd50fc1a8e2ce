/-
  Matches lie one behind the other; a text with others in their place: plain facts, of no program. Conditions: each theorem names its own.
-/
import Derived.Test.YtcimhpdpfckgiaaGreatDoorMxMi17
import Derived.Test.YtcimhpdpfckgiaaGreatDoorMxEp0
set_option linter.unusedVariables false
namespace Go.Proofs.YtcimhpdpfckgiaaGreatDoor.kit
def ChainP (n : Nat) : Nat → List (Nat × Nat) → Prop
 | f, [] => f ≤ n
 | f, p :: ps => f ≤ p.1 ∧ p.1 ≤ p.2 ∧ ChainP n p.2 ps
theorem ChainP.le {n : Nat} : ∀ {f : Nat} {ps : List (Nat × Nat)}, ChainP n f ps → f ≤ n
 | f, [], h => h
 | f, p :: ps, h => by have := ChainP.le h.2.2; have := h.1; have := h.2.1; omega
theorem ChainP.weak {n f f' : Nat} {ps : List (Nat × Nat)} (h : ChainP n f ps) (hf : f' ≤ f) : ChainP n f' ps := by
 cases ps with
 | nil => exact Nat.le_trans hf h
 | cons p ps => exact ⟨Nat.le_trans hf h.1, h.2⟩
theorem ChainP.take {n : Nat} : ∀ {f : Nat} {ps : List (Nat × Nat)} (k : Nat), ChainP n f ps → ChainP n f (ps.take k)
 | f, [], k, h => by simpa using h
 | f, p :: ps, 0, h => ChainP.le h
 | f, p :: ps, k + 1, h => ⟨h.1, h.2.1, ChainP.take k h.2.2⟩
theorem foundF_chain {en : Nat → Nat} {n : Nat} : ∀ (bs : List Nat) (f : Nat), f ≤ n → (∀ b ∈ bs, b ≤ en b ∧ en b ≤ n) → ChainP n f (foundF en bs f)
 | [], f, hf, _ => hf
 | b :: bs, f, hf, h => by
   have hb := h b (by simp)
   have ht : ∀ x ∈ bs, x ≤ en x ∧ en x ≤ n := fun x hx => h x (List.mem_cons_of_mem _ hx)
   by_cases c : b < f
   · rw [foundF_lt bs c]; exact foundF_chain bs f hf ht
   · rw [foundF_ge bs (by omega)]
     exact ⟨by show f ≤ b; omega, hb.1, foundF_chain bs (en b) hb.2 ht⟩
theorem matchFold_chain {n : Nat} : ∀ (ps : List (Nat × Nat)) (acc : List (Nat × Nat)) (last : Int) (f : Nat), ChainP n f ps → ∃ r, (ps.foldl matchStep (acc, last)).1 = acc ++ r ∧ ChainP n f r
 | [], acc, last, f, h => ⟨[], by simp, h⟩
 | p :: ps, acc, last, f, h => by
   simp only [List.foldl_cons]
   by_cases c : p.1 = p.2 ∧ (p.1 : Int) = last
   · rw [show matchStep (acc, last) p = (acc, last) from by unfold matchStep; rw [if_pos c]]
     exact matchFold_chain ps acc last f (h.2.2.weak (by have := h.1; have := h.2.1; omega))
   · rw [show matchStep (acc, last) p = (acc ++ [p], (p.2 : Int)) from by unfold matchStep; rw [if_neg c]]
     obtain ⟨r, h1, h2⟩ := matchFold_chain ps (acc ++ [p]) (p.2 : Int) p.2 h.2.2
     exact ⟨p :: r, by rw [h1]; simp, h.1, h.2.1, h2⟩
theorem matchesZ_chain {Z : Int → Int} {n : Nat} (hZ : ∀ j : Nat, j ≤ n → 0 ≤ Z (j : Int) → (j : Int) ≤ Z (j : Int) ∧ Z (j : Int) ≤ n) : ChainP n 0 (matchesZ Z n) := by
 have hf : ChainP n 0 (foundZ Z n 0) := foundF_chain _ 0 (Nat.zero_le _) (fun b hb => by
  have h := (begsL_mem Z n b).1 hb
  have := hZ b h.1 h.2
  constructor
  · show b ≤ (Z (b : Int)).toNat; omega
  · show (Z (b : Int)).toNat ≤ n; omega)
 obtain ⟨r, h1, h2⟩ := matchFold_chain (foundZ Z n 0) [] (-1) 0 hf
 have e : matchesZ Z n = r := by unfold matchesZ matchSt; rw [h1]; simp
 rw [e]; exact h2
theorem repFold_snd (s r : List UInt8) (n : Nat) : ∀ (ps : List (Nat × Nat)) (T : List UInt8) (f i : Nat), ChainP n f ps → (hi : i < ps.length) →
 ((ps.take i).foldl (repStep s r) (T, f)).2 ≤ (ps[i]).1 ∧ (ps[i]).1 ≤ (ps[i]).2 ∧ (ps[i]).2 ≤ n
 | [], T, f, i, h, hi => by simp at hi
 | p :: ps, T, f, 0, h, hi => ⟨h.1, h.2.1, h.2.2.le⟩
 | p :: ps, T, f, i + 1, h, hi => by
   simp only [List.take_succ_cons, List.foldl_cons, List.getElem_cons_succ]
   exact repFold_snd s r n ps _ p.2 i h.2.2 (by simpa using hi)
theorem repFold_end (s r : List UInt8) (n : Nat) : ∀ (ps : List (Nat × Nat)) (T : List UInt8) (f : Nat), ChainP n f ps → (ps.foldl (repStep s r) (T, f)).2 ≤ n
 | [], T, f, h => h
 | p :: ps, T, f, h => repFold_end s r n ps _ p.2 h.2.2
theorem ChainP.at {n : Nat} {ps : List (Nat × Nat)} (h : ChainP n 0 ps) (s r : List UInt8) (i : Nat) (hi : i < ps.length) : (repSt s r (ps.take i)).2 ≤ (ps[i]).1 ∧ (ps[i]).1 ≤ (ps[i]).2 ∧ (ps[i]).2 ≤ n := repFold_snd s r n ps [] 0 i h hi
theorem ChainP.fin {n : Nat} {ps : List (Nat × Nat)} (h : ChainP n 0 ps) (s r : List UInt8) : (repSt s r ps).2 ≤ n := repFold_end s r n ps [] 0 h
def repPs (all : Bool) (ps : List (Nat × Nat)) : List (Nat × Nat) := if all then ps else ps.take 1
def repRes (r s : ByteArray) (all : Bool) (ps : List (Nat × Nat)) : Go.Value :=
 if (repL s.data.toList r.data.toList (repPs all ps)).length ≤ 4000 then .tuple #[.string ⟨(repL s.data.toList r.data.toList (repPs all ps)).toArray⟩, .int .i64 ((repPs all ps).length : Int), .bool true] else .tuple #[.string s, .int .i64 0, .bool false]
theorem putL_len (f : List UInt8) : ∀ (k : Nat) (r : List UInt8), r.length ≤ k → (putL f r).length ≤ r.length * (f.length + 1)
 | 0, r, h => by
   have : r = [] := List.length_eq_zero_iff.1 (by omega)
   subst this; simp [putL]
 | k + 1, [], h => by simp [putL]
 | k + 1, [c], h => by
   simp only [putL]; split <;> simp
 | k + 1, c :: d :: u, h => by
   rw [putL]
   have h1 := putL_len f k (d :: u) (by simp at h ⊢; omega)
   have h2 := putL_len f k u (by simp at h ⊢; omega)
   simp only [List.length_cons, Nat.add_mul, Nat.one_mul] at h1 h2 ⊢
   split
   · rw [List.length_append]; omega
   · split
     · rw [List.length_cons]; omega
     · rw [List.length_cons]; omega
theorem putL_nilP (f : List UInt8) : putL f [] = [] := by simp [putL]
theorem putL_sole (f : List UInt8) : putL f [38] = f := by rw [putL_amp, putL_nilP, List.append_nil]
theorem putL_escL (f : List UInt8) : ∀ (e : List UInt8), putL f (escL e) = e
 | [] => putL_nilP f
 | c :: e => by
   have ih := putL_escL f e
   show putL f (escB c ++ escL e) = c :: e
   unfold escB
   split
   · rename_i h
     show putL f (92 :: c :: escL e) = _
     rw [putL_esc f c _ h, ih]
   · rename_i h
     show putL f (c :: escL e) = _
     have h38 : c ≠ 38 := fun q => h (by subst q; rfl)
     have h92 : c ≠ 92 := fun q => h (by subst q; rfl)
     rw [putL_one f c _ h38 (fun q => absurd q h92), ih]
theorem take_mid (s : List UInt8) (f p : Nat) (h : f ≤ p) : s.take f ++ (s.take p).drop f = s.take p := by
 have h1 := List.take_append_drop f (s.take p)
 rw [List.take_take, Nat.min_eq_left h] at h1
 exact h1
theorem repFold_self (s : List UInt8) : ∀ (ps : List (Nat × Nat)) (f : Nat), ChainP s.length f ps → ∃ g, ps.foldl (repStep s [38]) (s.take f, f) = (s.take g, g)
 | [], f, h => ⟨f, rfl⟩
 | p :: ps, f, h => by
   obtain ⟨h1, h2, h3⟩ := h
   have e : repStep s [38] (s.take f, f) p = (s.take p.2, p.2) := by
     unfold repStep
     simp only
     rw [putL_sole, ← List.append_assoc, take_mid s f p.1 h1, take_mid s p.1 p.2 h2]
   rw [List.foldl_cons, e]
   exact repFold_self s ps p.2 h3
theorem repL_self (s : List UInt8) (ps : List (Nat × Nat)) (h : ChainP s.length 0 ps) : repL s [38] ps = s := by
 obtain ⟨g, hg⟩ := repFold_self s ps 0 h
 have e : repSt s [38] ps = (s.take g, g) := by unfold repSt; simpa using hg
 unfold repL
 rw [e]
 exact List.take_append_drop g s
theorem repRes_self (s : ByteArray) (ps : List (Nat × Nat)) (h : ChainP s.data.toList.length 0 ps) (hs : s.size ≤ 4000) : repRes ⟨#[38]⟩ s true ps = .tuple #[.string s, .int .i64 (ps.length : Int), .bool true] := by
 have e := repL_self s.data.toList ps h
 have e2 : (ByteArray.mk #[38]).data.toList = [38] := rfl
 have hl : s.data.toList.length ≤ 4000 := by rw [Array.length_toList]; exact hs
 unfold repRes repPs
 rw [e2]
 simp only [if_true, e, if_pos hl]
theorem repPs_len (all : Bool) (ps : List (Nat × Nat)) : (repPs all ps).length ≤ ps.length := by
 unfold repPs; split
 · exact Nat.le_refl _
 · rw [List.length_take]; omega
theorem repRes_ends (r s : ByteArray) (all : Bool) (ps : List (Nat × Nat)) : ∃ (x : ByteArray) (n : Nat) (ok : Bool), repRes r s all ps = .tuple #[.string x, .int .i64 (n : Int), .bool ok] ∧ (ok = false → x = s ∧ n = 0) ∧ (ok = true → n ≤ ps.length) := by
 unfold repRes
 split
 · exact ⟨_, _, true, rfl, ⟨fun h => Bool.noConfusion h, fun _ => repPs_len all ps⟩⟩
 · exact ⟨_, 0, false, rfl, ⟨fun _ => ⟨rfl, rfl⟩, fun h => Bool.noConfusion h⟩⟩
theorem foundF_mem (en : Nat → Nat) : ∀ (bs : List Nat) (f : Nat) (y : Nat × Nat), y ∈ foundF en bs f → y.1 ∈ bs ∧ y.2 = en y.1
 | [], f, y, h => by rw [foundF_nil] at h; cases h
 | b :: bs, f, y, h => by
   by_cases c : b < f
   · rw [foundF_lt bs c] at h
     have := foundF_mem en bs f y h
     exact ⟨List.mem_cons_of_mem _ this.1, this.2⟩
   · rw [foundF_ge bs (by omega)] at h
     rcases List.mem_cons.1 h with rfl | h
     · exact ⟨List.mem_cons_self, rfl⟩
     · have := foundF_mem en bs (en b) y h
       exact ⟨List.mem_cons_of_mem _ this.1, this.2⟩
theorem matchesZ_mem {Z : Int → Int} {n : Nat} {y : Nat × Nat} (h : y ∈ matchesZ Z n) : y.1 ≤ n ∧ Z (y.1 : Int) = (y.2 : Int) := by
 have h1 := foundF_mem _ _ _ y (matchSt_mem _ y h)
 have h2 := (begsL_mem Z n y.1).1 h1.1
 refine ⟨h2.1, ?_⟩
 have h3 := h1.2
 rw [h3]
 have := h2.2
 omega
theorem ChainP.next {n : Nat} : ∀ {f : Nat} {ps : List (Nat × Nat)} (h : ChainP n f ps) (i : Nat) (hi : i < ps.length), (if i = 0 then f else (ps.getD (i - 1) (0, 0)).2) ≤ (ps[i]).1 ∧ (ps[i]).1 ≤ (ps[i]).2 ∧ (ps[i]).2 ≤ n
 | f, [], h, i, hi => by simp at hi
 | f, p :: ps, h, 0, hi => ⟨by simpa using h.1, h.2.1, h.2.2.le⟩
 | f, p :: ps, h, i + 1, hi => by
   have h1 := ChainP.next h.2.2 i (by simpa using hi)
   refine ⟨?_, h1.2.1, h1.2.2⟩
   rw [if_neg (by omega)]
   have h2 := h1.1
   cases i with
   | zero => simpa using h2
   | succ i => simpa using h2
end Go.Proofs.YtcimhpdpfckgiaaGreatDoor.kit
