/-
  Plain facts on texts that are cut and found, of no program, and the contract of laws.sameTexts over this seat's translation. Conditions: each theorem names its own.
-/
import Derived.Test.YtalobgebdpaecaaIdx
import Derived.Test.YtalobgebdpaecaaLin
import Derived.Test.YtalobgebdpaecaaWrdS
import Derived.Test.YtalobgebdpaecaaMark
import Derived.Test.YtalobgebdpaecaaShf
namespace Go.Proofs.Ytalobgebdpaecaa.kit
open Go.ChangeShapes Go.WideShapes Go.ChangeAt Go.RowKit
set_option linter.unusedVariables false

/-- Parts, put together with a text between. -/
def jn (sep : List UInt8) : List (List UInt8) → List UInt8
  | [] => []
  | x :: r => x ++ r.flatMap fun y => sep ++ y
theorem jn_snoc (sep : List UInt8) (xs : List (List UInt8)) (x : List UInt8) : jn sep (xs ++ [x]) = if xs = [] then x else (jn sep xs ++ sep) ++ x := by
  cases xs with
  | nil => simp [jn]
  | cons a r => simp [jn, List.flatMap_append]
theorem jn_cons (sep x : List UInt8) (xs : List (List UInt8)) (h : xs ≠ []) : jn sep (x :: xs) = x ++ sep ++ jn sep xs := by
  cases xs with
  | nil => exact absurd rfl h
  | cons a r => simp [jn]
theorem jn_glue (sep : List UInt8) (c : UInt8) (xs : List (List UInt8)) (h : xs ≠ []) : jn sep (glue [c] xs) = c :: jn sep xs := by
  cases xs with
  | nil => exact absurd rfl h
  | cons a r => simp [jn, glue]
theorem jn_pr (b : UInt8) (l : List UInt8) : jn [b] (pr (isB b) l) = l := by
  induction l with
  | nil => rfl
  | cons c r ih =>
    simp only [pr]
    cases hc : isB b c
    · simp only [Bool.false_eq_true, if_false]
      rw [jn_glue _ _ _ (pr_ne _ _), ih]
    · simp only [if_true]
      have e : c = b := UInt8.toNat_inj.1 (by simpa [isB] using hc)
      rw [jn_cons _ _ _ (pr_ne _ _), ih, e]; rfl
theorem jn_parts (b : UInt8) (l : List UInt8) : jn [b] (parts (isB b) l) = l := by rw [parts_eq_pr, jn_pr]
/-- Lines, each with a newline behind it. -/
def al (xs : List (List UInt8)) : List UInt8 := xs.flatMap fun x => x ++ [10]
theorem al_snoc (xs : List (List UInt8)) (x : List UInt8) : al (xs ++ [x]) = al xs ++ x ++ [10] := by simp [al, List.flatMap_append]
theorem al_jn (xs : List (List UInt8)) (h : xs ≠ []) : al xs = jn [10] xs ++ [10] := by
  induction xs with
  | nil => exact absurd rfl h
  | cons a r ih =>
    cases r with
    | nil => simp [al, jn]
    | cons b r =>
      have := ih (by simp)
      rw [jn_cons _ _ _ (by simp), show al (a :: b :: r) = (a ++ [10]) ++ al (b :: r) by simp [al], this]; simp
theorem lines_all (l : List UInt8) : al (trimLast (parts (isB 10) l)) = l ∨ al (trimLast (parts (isB 10) l)) = l ++ [10] := by
  have hj := jn_parts 10 l
  have hn : parts (isB 10) l ≠ [] := by rw [parts_eq_pr]; exact pr_ne _ _
  generalize parts (isB 10) l = xs at *
  unfold trimLast
  by_cases h : xs.getLast? = some []
  · rw [if_pos h]
    left
    have e : xs = xs.dropLast ++ [[]] := by
      have h1 := List.dropLast_concat_getLast hn
      rw [List.getLast?_eq_some_getLast hn] at h
      have h2 : xs.getLast hn = [] := Option.some.inj h
      rw [h2] at h1; exact h1.symm
    by_cases hd : xs.dropLast = []
    · rw [hd] at e ⊢
      rw [e] at hj
      rw [← hj]; rfl
    · rw [al_jn _ hd]
      rw [e, jn_snoc, if_neg hd] at hj
      simpa using hj
  · rw [if_neg h]
    right
    rw [al_jn _ hn, hj]
theorem pr_mem (p : UInt8 → Bool) (l : List UInt8) : ∀ x ∈ pr p l, ∀ c ∈ x, p c = false := by
  induction l with
  | nil => intro x hx c hc; simp [pr] at hx; subst hx; cases hc
  | cons d r ih =>
    intro x hx c hc
    simp only [pr] at hx
    cases hd : p d
    · rw [hd] at hx
      simp only [Bool.false_eq_true, if_false] at hx
      cases hp : pr p r with
      | nil => exact absurd hp (pr_ne p r)
      | cons y ys =>
        rw [hp] at hx ih
        simp only [glue, List.mem_cons] at hx
        rcases hx with rfl | hx
        · simp at hc
          rcases hc with rfl | hc
          · exact hd
          · exact ih y (by simp) c hc
        · exact ih x (by simp [hx]) c hc
    · rw [hd] at hx
      simp only [if_true, List.mem_cons] at hx
      rcases hx with rfl | hx
      · cases hc
      · exact ih x hx c hc
theorem words_mem (l x : List UInt8) (h : x ∈ wordsOf l) : x ≠ [] ∧ ∀ c ∈ x, c ≠ 32 := by
  simp only [wordsOf, keepNe, List.mem_filter] at h
  refine ⟨fun e => by rw [e] at h; simp at h, fun c hc e => ?_⟩
  have := pr_mem blankB l x h.1 c hc
  rw [e] at this; exact absurd this (by decide)
theorem occ_prefix {s t : List UInt8} {i : Nat} : Lib.occAt s t i = true ↔ t <+: s.drop i := by rw [Lib.occAt, List.isPrefixOf_iff_prefix]
theorem idx_blank (s : ByteArray) (h : ∀ c ∈ s.data.toList, c ≠ 32) : idxOf s ⟨#[32]⟩ = 0 := by
  unfold idxOf
  split
  · rfl
  · rcases Lib.index_spec s.data.toList [32] with ⟨e, _⟩ | ⟨i, e, _, ho, _⟩
    · rw [show (⟨#[32]⟩ : ByteArray).data.toList = [32] from rfl, e]; rfl
    · exfalso
      obtain ⟨r, hr⟩ := occ_prefix.1 ho
      have : (32 : UInt8) ∈ s.data.toList.drop i := by rw [← hr]; simp
      exact h 32 (List.mem_of_mem_drop this) rfl
theorem idx_sub (t : ByteArray) (A H : Nat) (h : (t.data.toList.take H).drop A ≠ []) : idxOf t ⟨((t.data.toList.take H).drop A).toArray⟩ ≠ 0 := by
  have hA : A < t.data.toList.length := by
    rcases Nat.lt_or_ge A t.data.toList.length with g | g
    · exact g
    · exact absurd (List.drop_eq_nil_of_le (by simp at g ⊢; omega)) h
  have hz : t.size ≠ 0 := by have : t.data.toList.length = t.size := by simp
                             omega
  unfold idxOf
  rw [if_neg hz]
  have hd : (⟨((t.data.toList.take H).drop A).toArray⟩ : ByteArray).data.toList = (t.data.toList.take H).drop A := by simp
  rw [hd]
  rcases Lib.index_spec t.data.toList ((t.data.toList.take H).drop A) with ⟨e, hno⟩ | ⟨i, e, _, _, _⟩
  · exfalso
    have := hno A (by omega)
    rw [← Bool.not_eq_true, occ_prefix] at this
    refine this ?_
    rw [List.drop_take]
    exact List.take_prefix _ _
  · rw [e]; omega
/-- What is found stands there, and nowhere ahead. -/
theorem idx_found (x y : ByteArray) (n : Int) (hn : idxOf x y = n) (hp : 0 < n) : ∃ i : Nat, n = (i : Int) + 1 ∧ i + y.size ≤ x.size ∧ x.extract i (i + y.size) = y ∧ idxOf (x.extract 0 i) y = 0 := by
  unfold idxOf at hn
  by_cases hz : x.size = 0
  · rw [if_pos hz] at hn; omega
  rw [if_neg hz] at hn
  have lx : x.data.toList.length = x.size := by simp
  have ly : y.data.toList.length = y.size := by simp
  rcases Lib.index_spec x.data.toList y.data.toList with ⟨e, _⟩ | ⟨i, e, hi, ho, hno⟩
  · rw [e] at hn; omega
  · obtain ⟨r, hr⟩ := occ_prefix.1 ho
    have hlen := congrArg List.length hr
    simp only [List.length_append, List.length_drop, lx, ly] at hlen
    refine ⟨i, by rw [← hn, e], by omega, ?_, ?_⟩
    · rw [extract_drop, List.drop_take, ← hr, show i + y.size - i = y.data.toList.length by omega, List.take_left]
    · have hx : (x.extract 0 i).data.toList = x.data.toList.take i := by rw [extract_drop]; simp
      unfold idxOf
      split
      · rfl
      · rename_i hz2
        rw [hx]
        rcases Lib.index_spec (x.data.toList.take i) y.data.toList with ⟨e2, _⟩ | ⟨j, e2, hj, ho2, _⟩
        · rw [e2]; rfl
        · exfalso
          have hi0 : 0 < i := by
            rcases Nat.eq_zero_or_pos i with g | g
            · subst g; rw [ByteArray.size_extract] at hz2; omega
            · exact g
          obtain ⟨r2, hr2⟩ := occ_prefix.1 ho2
          have hj2 : j < i ∨ j = i := by simp at hj; omega
          have hyp : y.data.toList <+: x.data.toList.drop j := by
            refine ⟨r2 ++ x.data.toList.drop (max i j), ?_⟩
            rw [← List.append_assoc, hr2, List.drop_take]
            rw [show max i j = j + (i - j) by simp at hj; omega, ← List.drop_drop, List.take_append_drop]
          rcases hj2 with g | g
          · have := hno j g
            rw [← Bool.not_eq_true, occ_prefix] at this
            exact this hyp
          · have h0 := hno 0 hi0
            rw [← Bool.not_eq_true, occ_prefix] at h0
            have hl2 := congrArg List.length hr2
            simp only [List.length_append, List.length_drop, List.length_take, lx, ly] at hl2
            have : y.data.toList = [] := List.length_eq_zero_iff.1 (by omega)
            rw [this] at h0
            exact h0 (List.nil_prefix)
theorem low_up (l : List UInt8) : (l.map (shiftB 97 122 (-32))).map (shiftB 65 90 32) = l.map (shiftB 65 90 32) := by
  have key : ∀ i : Fin 256, shiftB 65 90 32 (shiftB 97 122 (-32) (UInt8.ofNat i.val)) = shiftB 65 90 32 (UInt8.ofNat i.val) := by decide +kernel
  rw [List.map_map]
  apply List.map_congr_left
  intro c _
  have := key ⟨c.toNat, c.toNat_lt⟩
  simpa using this

set_option maxHeartbeats 400000 in
theorem same_any (B C : Nat) (a b : Option Addr) (cap cap' n : Nat) (f : Nat → List UInt8) (w : World) (hn : n ≤ 2000000) (h1 : SlF B w a n f) (h2 : SlF C w b n f) :
    Calls Try.prog 20 #[.slice a n cap, .slice b n cap'] w fun e w' => e = .returned (.bool true) ∧ Below w.heap.size w w' := by
  have H1 := Lib.hid h1
  have H2 := Lib.hid h2
  clear h1 h2
  go_enter Try.func20, Try.ntmps20
  go_wp2
  go_loopw [5] (fun i wr => ∃ k : Nat, k ≤ n ∧ i = .int .i64 (k : Int) ∧ Below w.heap.size w wr) (fun i _ => n - (intOf i).toNat)
  case atStart => exact ⟨0, Nat.zero_le _, rfl, Below.refl _ _⟩
  case round =>
    obtain ⟨k, hk, rfl, hbel⟩ := hrel
    have HB := Lib.hid hbel
    clear hbel
    by_cases hlt : k < n
    · obtain ⟨g, rfl, hg1, hg2, hg3, hg4⟩ := (H1.out.kept HB.out) k hlt
      obtain ⟨g', rfl, hg1', hg2', hg3', hg4'⟩ := (H2.out.kept HB.out) k hlt
      clear hg4 hg4'
      unfold eS at hg3 hg3'
      generalize f k = x at *
      have i0 : (0 : Int) ≤ (k : Int) := by omega
      have i1 : (k : Int) < (n : Int) := by omega
      go_wp2
      go_quiet (fail)
      go_wp2
      go_roundw
      case rel => exact ⟨k + 1, by omega, by go_num, HB.out.trans ⟨rfl, rfl, rfl, Nat.le_refl _, fun _ _ => rfl⟩⟩
      case measure => simp [intOf]; omega
    · go_wp2
      go_ret
      exact ⟨rfl, HB.out⟩
end Go.Proofs.Ytalobgebdpaecaa.kit
