/-
  Plain facts, of no program: the text of a word, with a blank behind it, is read as that word again. Conditions: each theorem names its own.
-/
import Derived.Test.YtebeoijoljlhiaaGreatDoorMLx9
import Derived.Test.YtebeoijoljlhiaaGreatDoorMTt0
import Derived.Test.YtebeoijoljlhiaaGreatDoorMRk0
import Derived.Test.YtebeoijoljlhiaaGreatDoorMQk0
namespace Go.Proofs.YtebeoijoljlhiaaGreatDoor.kit
open Go.ChangeShapes Go.WideShapes Go.ChangeAt Go.RowKit
set_option linter.unusedVariables false

/-- A text with a blank and more behind it. -/
def zt (S post : List UInt8) : ByteArray := ⟨(S ++ 32 :: post).toArray⟩
theorem zt_list (S post : List UInt8) : (zt S post).data.toList = S ++ 32 :: post := by simp [zt]
theorem zt_size (S post : List UInt8) : (zt S post).size = S.length + 1 + post.length := by
  have : (zt S post).data.toList.length = (zt S post).size := by simp
  rw [← this, zt_list]; simp; omega
theorem zt_in (S post : List UInt8) (j : Nat) (h : j < S.length) (h' : j < (zt S post).size) : (zt S post)[j] = S[j] := by
  have e := byte_of (zt_list S post) j h'
  rw [List.getElem?_append_left h, List.getElem?_eq_getElem h] at e
  exact (Option.some.inj e).symm
theorem zt_at (S post : List UInt8) (h' : S.length < (zt S post).size) : (zt S post)[S.length] = 32 := by
  have e := byte_of (zt_list S post) S.length h'
  rw [List.getElem?_append_right (Nat.le_refl _), Nat.sub_self] at e
  exact (Option.some.inj e).symm
theorem zt_head (S post : List UInt8) : (zt S post).extract 0 S.length = ⟨S.toArray⟩ := by
  rw [extract_drop, zt_list, List.take_left]; rfl
theorem zt_ext (S post : List UInt8) (a b : Nat) (hb : b ≤ S.length) : (zt S post).extract a b = ⟨((S.take b).drop a).toArray⟩ := by
  rw [extract_drop, zt_list, List.take_append_of_le_length hb]
/-- The word's text, with a blank behind it, is read as the word. -/
def Reads (t : Tok) (div : Bool) : Prop :=
  (ttx t).data.toList ≠ [] ∧ (∀ c, (ttx t).data.toList.head? = some c → c ≠ 32 ∧ c ≠ 9 ∧ c ≠ 35) ∧ ∀ post, wd (zt (ttx t).data.toList post) 0 div = some (⟨t.k, t.s, t.n, 0⟩, (ttx t).size)
theorem zt_wd (S post : List UInt8) (div : Bool) (hS : S ≠ []) (c : UInt8) (hc : S.head? = some c) : wd (zt S post) 0 div = wdc (zt S post) 0 c div := by
  have hz := zt_size S post
  have hl : 0 < S.length := List.length_pos_iff.2 hS
  rw [wd_in (by omega)]
  congr 1
  rw [zt_in S post 0 hl (by omega)]
  cases S with
  | nil => exact absurd rfl hS
  | cons a r => simpa using hc
theorem zt_run (p : Int → Bool) (S post : List UInt8) (h : ∀ c ∈ S, p (c.toNat : Int) = true) (h32 : p 32 = false) : runEnd p (zt S post) 0 = S.length := by
  have hz := zt_size S post
  refine runEnd_is (by omega) (by omega) (fun j hj _ h2 => ?_) (fun hj => ?_)
  · rw [zt_in S post j h2 hj]; exact h _ (List.getElem_mem h2)
  · rw [zt_at S post hj]; exact h32

-- a word of letters
theorem reads_name (S : List UInt8) (k : Int) (div : Bool) (hS : S ≠ []) (hall : ∀ c ∈ S, signB (c.toNat : Int) = true) (hl : ∀ c, S.head? = some c → letB c.toNat = true)
    (hk : k = 4 ∧ keyB S = true ∨ k = 3 ∧ keyB S = false ∧ nameB ⟨S.toArray⟩ = true) : Reads ⟨k, ⟨S.toArray⟩, 0, 0⟩ div := by
  have ht : ttx ⟨k, ⟨S.toArray⟩, 0, 0⟩ = ⟨S.toArray⟩ := by
    rcases hk with ⟨rfl, _⟩ | ⟨rfl, _⟩ <;> simp [ttx]
  have hd : (⟨S.toArray⟩ : ByteArray).data.toList = S := by simp
  have hz : (⟨S.toArray⟩ : ByteArray).size = S.length := by simp [ByteArray.size]
  have htl : (⟨S.toArray⟩ : ByteArray).toList = S := ByteArray.toList_mk S
  refine ⟨by rw [ht, hd]; exact hS, fun c hc => ?_, fun post => ?_⟩
  · rw [ht, hd] at hc
    have := hl c hc
    refine ⟨?_, ?_, ?_⟩ <;> (rintro rfl; exact absurd this (by decide))
  · rw [ht, hd, hz]
    obtain ⟨c, hc⟩ : ∃ c, S.head? = some c := by cases S with
      | nil => exact absurd rfl hS
      | cons a r => exact ⟨a, rfl⟩
    have hlc := hl c hc
    rw [zt_wd S post div hS c hc, wdc_name (let_far hlc) hlc, zt_run signB S post hall (by decide), zt_head, htl]
    rcases hk with ⟨rfl, h1⟩ | ⟨rfl, h1, h2⟩
    · rw [if_pos h1]
    · rw [if_neg (by rw [h1]; decide), if_pos h2]
theorem reads_end (div : Bool) : Reads ⟨6, ⟨#[]⟩, 0, 0⟩ div := by
  have ht : ttx ⟨6, ⟨#[]⟩, 0, 0⟩ = ⟨#[10]⟩ := rfl
  refine ⟨by rw [ht]; simp, fun c hc => ?_, fun post => ?_⟩
  · rw [ht] at hc
    have : c = 10 := by simpa using hc.symm
    subst this; decide
  · rw [ht, show (⟨#[10]⟩ : ByteArray).data.toList = [10] from rfl, zt_wd [10] post div (by simp) 10 rfl, wdc_end (.inr rfl)]
    rfl
theorem reads_str (x : List UInt8) (div : Bool) : Reads ⟨1, ⟨x.toArray⟩, 0, 0⟩ div := by
  have ht : ttx ⟨1, ⟨x.toArray⟩, 0, 0⟩ = ⟨(qbs x ++ [34]).toArray⟩ := by simp [ttx]
  have hd : (⟨(qbs x ++ [34]).toArray⟩ : ByteArray).data.toList = qbs x ++ [34] := by simp
  have hz : (⟨(qbs x ++ [34]).toArray⟩ : ByteArray).size = (qbs x ++ [34]).length := by simp [ByteArray.size]
  refine ⟨by rw [ht, hd]; simp, fun c hc => ?_, fun post => ?_⟩
  · rw [ht, hd] at hc
    have : c = 34 := by simpa [qbs] using hc.symm
    subst this; decide
  · rw [ht, hd, hz, zt_wd _ post div (by simp) 34 (by simp [qbs]), wdc_str (by decide) (by decide) (by decide) rfl]
    have hu : unq (zt (qbs x ++ [34]) post) ((0 : Nat) : Int) = some (x, (qbs x ++ [34]).length) := by
      have hzs := zt_size (qbs x ++ [34]) post
      have hql : (qbs x ++ [34]).length = (x.flatMap qb).length + 2 := by simp [qbs]
      have ha : (at_ (zt (qbs x ++ [34]) post) 0).toNat = 34 := by
        unfold at_; rw [zt_list]; simp [qbs]
      have hxl := flat_ge x
      unfold unq
      rw [if_pos ⟨by omega, by omega, by simpa using ha⟩]
      have hdr : (zt (qbs x ++ [34]) post).data.toList.drop (((0 : Nat) : Int).toNat + 1) = x.flatMap qb ++ 34 :: (32 :: post) := by
        rw [zt_list]; simp [qbs]
      rw [hdr, scanS_quote x (32 :: post) _ (by omega)]
      simp [qbs]; omega
    rw [hu]; rfl
theorem two_blank (a : UInt8) : twoS.contains [a, 32] = false := by
  rw [Bool.eq_false_iff]; intro h
  have h1 : [a, 32] ∈ twoS := by simpa using h
  have key : ∀ x ∈ twoS, x.getLast? ≠ some 32 := by decide
  exact key _ h1 rfl
theorem sgn_again (l post : List UInt8) (h : sgn l ≠ []) : sgn (sgn l ++ 32 :: post) = sgn l ∧ (sgn l).head? = l.head? := by
  match l, h with
  | [], h => exact absurd rfl h
  | [a], h =>
    cases c : oneS.contains a
    · simp only [sgn, c] at h; exact absurd rfl h
    · have e : sgn [a] = [a] := by simp only [sgn, c, if_true]
      rw [e]
      refine ⟨?_, rfl⟩
      show sgn (a :: 32 :: post) = [a]
      simp only [sgn, two_blank, c, if_true]; rfl
  | a :: b :: r, h =>
    cases c2 : twoS.contains [a, b]
    · cases c : oneS.contains a
      · simp only [sgn, c2, c] at h; exact absurd rfl h
      · have e : sgn (a :: b :: r) = [a] := by simp only [sgn, c2, c, if_true]; rfl
        rw [e]
        refine ⟨?_, rfl⟩
        show sgn (a :: 32 :: post) = [a]
        simp only [sgn, two_blank, c, if_true]; rfl
    · have e : sgn (a :: b :: r) = [a, b] := by simp only [sgn, c2, if_true]
      rw [e]
      refine ⟨?_, rfl⟩
      show sgn (a :: b :: 32 :: post) = [a, b]
      simp only [sgn, c2, if_true]
theorem reads_sign (l : List UInt8) (c : UInt8) (div : Bool) (hl : l.head? = some c) (h0 : ¬ (c = 59 ∨ c = 10)) (h1 : letB c.toNat = false) (h2 : digB c.toNat = false) (h3 : c ≠ 34) (h4 : ¬ (c = 47 ∧ div = false)) (hb : c ≠ 32 ∧ c ≠ 9 ∧ c ≠ 35) (hg : sgn l ≠ []) :
    Reads ⟨5, ⟨(sgn l).toArray⟩, 0, 0⟩ div := by
  obtain ⟨_, hh⟩ := sgn_again l [] hg
  have hs := fun post => (sgn_again l post hg).1
  generalize sgn l = g at *
  have ht : ttx ⟨5, ⟨g.toArray⟩, 0, 0⟩ = ⟨g.toArray⟩ := by simp [ttx]
  have hd : (⟨g.toArray⟩ : ByteArray).data.toList = g := by simp
  have hz : (⟨g.toArray⟩ : ByteArray).size = g.length := by simp [ByteArray.size]
  rw [hl] at hh
  refine ⟨by rw [ht, hd]; exact hg, fun d hd2 => ?_, fun post => ?_⟩
  · rw [ht, hd, hh] at hd2; cases hd2; exact hb
  · rw [ht, hd, hz, zt_wd g post div hg c hh, wdc_sign h0 h1 h2 h3 h4, List.drop_zero, zt_list, hs post, if_neg hg, Nat.zero_add]
/-- No stroke ends an expression ahead of its end. -/
def NoEnd (x : List UInt8) : Prop := (∀ j (h : j < x.length), x[j] ≠ 10 ∧ ¬ (x[j] = 47 ∧ (j = 0 ∨ x.getD (j - 1) 0 ≠ 92))) ∧ (x = [] ∨ x.getD (x.length - 1) 0 ≠ 92)
theorem stroke_of {s : ByteArray} {b m : Nat} (hm : m < s.size) (h1 : s[m] ≠ 10) (h2 : s[m] = 47 ∧ (m = b ∨ atB s (m - 1) 92 = false)) (n k : Nat) (hn : n = m - k) (hk : k ≤ m)
    (ha : ∀ j (h : j < s.size), k ≤ j → j < m → s[j] ≠ 10 ∧ ¬ (s[j] = 47 ∧ (j = b ∨ atB s (j - 1) 92 = false))) : stroke s b k = some m := by
  induction n generalizing k with
  | zero =>
    obtain rfl : k = m := by omega
    exact stroke_hit hm h1 h2
  | succ n ih =>
    have hks : k < s.size := by omega
    obtain ⟨a1, a2⟩ := ha k hks (Nat.le_refl _) (by omega)
    rw [← stroke_on hks a1 a2]
    exact ih (k + 1) (by omega) (by omega) (fun j h g1 g2 => ha j h (by omega) g2)
theorem stroke_all {s : ByteArray} {b m : Nat} (n k : Nat) (hn : n = s.size - k) (h : stroke s b k = some m) :
    (∀ j (hj : j < s.size), k ≤ j → j < m → s[j] ≠ 10 ∧ ¬ (s[j] = 47 ∧ (j = b ∨ atB s (j - 1) 92 = false))) ∧ (m = b ∨ atB s (m - 1) 92 = false) := by
  induction n generalizing k with
  | zero => rw [stroke_end (by omega)] at h; cases h
  | succ n ih =>
    have hk : k < s.size := by omega
    by_cases h1 : s[k] = 10
    · rw [stroke_nl hk h1] at h; cases h
    · by_cases h2 : s[k] = 47 ∧ (k = b ∨ atB s (k - 1) 92 = false)
      · rw [stroke_hit hk h1 h2] at h; cases h
        exact ⟨fun j _ g1 g2 => by omega, h2.2⟩
      · rw [← stroke_on hk h1 h2] at h
        obtain ⟨a1, a2⟩ := ih (k + 1) (by omega) h
        refine ⟨fun j hj g1 g2 => ?_, a2⟩
        by_cases e : j = k
        · subst e; exact ⟨h1, h2⟩
        · exact a1 j hj (by omega) g2
theorem atB_getD (s : ByteArray) (L : List UInt8) (e : s.data.toList = L) (j : Nat) (hj : j < L.length) (c : UInt8) : (atB s j c = false) ↔ L.getD j 0 ≠ c := by
  subst e
  have h : j < s.size := by simpa using hj
  rw [atB, dif_pos h, getD_at s j h, beq_eq_false_iff_ne]
theorem noEnd_of {s : ByteArray} {b m : Nat} (hb : 1 ≤ b) (hm : m < s.size) (h : stroke s b b = some m) : NoEnd (s.extract b m).data.toList := by
  obtain ⟨a1, a2⟩ := stroke_all _ b rfl h
  have hbm := (stroke_le s b _ b rfl m h).1
  have hx : (s.extract b m).data.toList = (s.data.toList.take m).drop b := by rw [extract_drop]
  have hlen : (s.extract b m).data.toList.length = m - b := by rw [hx]; simp; omega
  have hget : ∀ j, j < m - b → (s.extract b m).data.toList.getD j 0 = s.data.toList.getD (b + j) 0 := by
    intro j hj
    rw [hx, List.getD_eq_getElem?_getD, List.getD_eq_getElem?_getD, List.getElem?_drop, List.getElem?_take, if_pos (by omega)]
  refine ⟨fun j hj => ?_, ?_⟩
  · have hj2 : j < m - b := by omega
    have h3 := a1 (b + j) (by omega) (by omega) (by omega)
    have e : (s.extract b m).data.toList[j] = s[b + j]'(by omega) := by
      have := hget j hj2
      rw [List.getD_eq_getElem?_getD, List.getElem?_eq_getElem hj, ← getD_at s (b + j) (by omega)] at this
      exact this
    rw [e]
    refine ⟨h3.1, fun g => h3.2 ⟨g.1, ?_⟩⟩
    rcases g.2 with g | g
    · left; omega
    · by_cases hj0 : j = 0
      · left; omega
      · right
        rw [atB_getD s _ rfl (b + j - 1) (by simp; omega) 92]
        rw [hget (j - 1) (by omega), show b + (j - 1) = b + j - 1 by omega] at g
        exact g
  · rcases a2 with g | g
    · left; rw [← List.length_eq_zero_iff, hlen]; omega
    · by_cases hz : m = b
      · left; rw [← List.length_eq_zero_iff, hlen]; omega
      · right
        rw [hlen, hget (m - b - 1) (by omega), show b + (m - b - 1) = m - 1 by omega]
        exact (atB_getD s _ rfl (m - 1) (by simp; omega) 92).1 g
theorem reads_re (x : List UInt8) (hx : NoEnd x) : Reads ⟨2, ⟨x.toArray⟩, 0, 0⟩ false := by
  have ht : ttx ⟨2, ⟨x.toArray⟩, 0, 0⟩ = ⟨(47 :: x ++ [47]).toArray⟩ := by
    have : ttx ⟨2, ⟨x.toArray⟩, 0, 0⟩ = (⟨#[47]⟩ ++ ⟨x.toArray⟩) ++ ⟨#[47]⟩ := by simp [ttx]
    rw [this]; apply ByteArray.ext; simp
  have hd : (⟨(47 :: x ++ [47]).toArray⟩ : ByteArray).data.toList = 47 :: x ++ [47] := by simp
  have hz : (⟨(47 :: x ++ [47]).toArray⟩ : ByteArray).size = x.length + 2 := by simp [ByteArray.size]
  refine ⟨by rw [ht, hd]; simp, fun c hc => ?_, fun post => ?_⟩
  · rw [ht, hd] at hc
    have : c = 47 := by simpa using hc.symm
    subst this; decide
  · rw [ht, hd, hz, zt_wd _ post false (by simp) 47 (by simp), wdc_re (by decide) (by decide) (by decide) (by decide) ⟨rfl, rfl⟩]
    have hzs := zt_size (47 :: x ++ [47]) post
    have hS : (47 :: x ++ [47]).length = x.length + 2 := by simp
    have get : ∀ j (h : j < (zt (47 :: x ++ [47]) post).size) (hj : j < x.length + 2), (zt (47 :: x ++ [47]) post)[j] = (47 :: x ++ [47])[j]'(by rw [hS]; omega) := fun j h hj => zt_in (47 :: x ++ [47]) post j (by rw [hS]; omega) h
    have inx : ∀ j (h : j < x.length) (h' : j + 1 < (47 :: x ++ [47]).length), (47 :: x ++ [47])[j + 1] = x[j] := fun j h h' => by
      simp only [List.cons_append, List.getElem_cons_succ]
      rw [List.getElem_append_left h]
    have lst : ∀ (h' : x.length + 1 < (47 :: x ++ [47]).length), (47 :: x ++ [47])[x.length + 1] = 47 := fun h' => by
      simp only [List.cons_append, List.getElem_cons_succ]
      rw [List.getElem_append_right (Nat.le_refl _)]; simp
    have at92 : ∀ j, j < x.length → ((atB (zt (47 :: x ++ [47]) post) (j + 1) 92 = false) ↔ x.getD j 0 ≠ 92) := fun j hj => by
      rw [atB_getD _ _ (zt_list _ post) (j + 1) (by simp; omega) 92]
      have : (47 :: x ++ [47] ++ 32 :: post).getD (j + 1) 0 = x.getD j 0 := by
        simp only [List.cons_append, List.append_assoc, List.getD_cons_succ]
        rw [List.getD_eq_getElem?_getD, List.getD_eq_getElem?_getD, List.getElem?_append_left hj]
      rw [this]
    have hst : stroke (zt (47 :: x ++ [47]) post) (0 + 1) (0 + 1) = some (x.length + 1) := by
      have hm : x.length + 1 < (zt (47 :: x ++ [47]) post).size := by omega
      have e47 : (zt (47 :: x ++ [47]) post)[x.length + 1] = 47 := by rw [get _ hm (by omega)]; exact lst _
      refine stroke_of hm (by rw [e47]; decide) ⟨e47, ?_⟩ _ 1 rfl (by omega) (fun j h g1 g2 => ?_)
      · rcases Nat.eq_zero_or_pos x.length with hp | hp
        · left; omega
        · right
          have e : x.getD (x.length - 1) 0 ≠ 92 := by
            rcases hx.2 with e | e
            · rw [e] at hp; simp at hp
            · exact e
          have := (at92 (x.length - 1) (by omega)).2 e
          rwa [show x.length - 1 + 1 = x.length + 1 - 1 by omega] at this
      · obtain ⟨i, rfl⟩ : ∃ i, j = i + 1 := ⟨j - 1, by omega⟩
        have hi : i < x.length := by omega
        rw [get _ h (by omega), inx i hi]
        obtain ⟨c1, c2⟩ := hx.1 i hi
        refine ⟨c1, fun g => c2 ⟨g.1, ?_⟩⟩
        rcases g.2 with q | q
        · left; omega
        · by_cases hi0 : i = 0
          · left; exact hi0
          · right
            have := (at92 (i - 1) (by omega)).1 (by rwa [show i - 1 + 1 = i + 1 - 1 by omega])
            exact this
    rw [hst]
    simp only [Option.map_some]
    rw [zt_ext _ post _ _ (by rw [hS]; omega)]
    have : ((47 :: x ++ [47]).take (x.length + 1)).drop (0 + 1) = x := by simp
    rw [this]
end Go.Proofs.YtebeoijoljlhiaaGreatDoor.kit
/-
  Plain facts, of no program: each word of a text, and all of them with blanks between, are read again. Conditions: each theorem names its own.
-/
namespace Go.Proofs.YtebeoijoljlhiaaGreatDoor.kit
open Go.ChangeShapes Go.WideShapes Go.ChangeAt Go.RowKit
set_option linter.unusedVariables false

theorem reads_num (N : Nat) (hN : N ≤ 1000000000000) (div : Bool) : Reads ⟨0, ⟨#[]⟩, (N : Int), 0⟩ div := by
  have hb : numB (N : Int) = true := by simp [numB, inB]; omega
  have hnt : ntA (N : Int) = ntP N := by
    unfold ntA
    rw [if_pos hb, if_neg (by omega)]; congr 1
  have ht : ttx ⟨0, ⟨#[]⟩, (N : Int), 0⟩ = ntP N := by
    have : ttx ⟨0, ⟨#[]⟩, (N : Int), 0⟩ = ntA (N : Int) := by simp [ttx]
    rw [this, hnt]
  obtain ⟨r1, r2, _⟩ := reads_back (N : Int) hb
  rw [hnt] at r1 r2
  obtain ⟨D, T, F, hp⟩ : ∃ D T F, Parts (ntP N) [] D T F := by
    have := parts_of N hN [] (.inl rfl) (ntP N) (by simp)
    obtain ⟨D, T, F, h, _⟩ := this
    exact ⟨D, T, F, h⟩
  have he : (ntP N).data.toList = D ++ T := by have := hp.eq; exact this
  obtain ⟨S, hS⟩ : ∃ S, S = (ntP N).data.toList := ⟨_, rfl⟩
  have hsz : (ntP N).size = S.length := by rw [hS]; simp
  have hSa : (⟨S.toArray⟩ : ByteArray) = ntP N := by rw [hS]
  have hD0 : 0 < D.length := hp.d0
  have hne : S ≠ [] := by rw [hS, he]; intro e; have := congrArg List.length e; rw [List.length_append, List.length_nil] at this; omega
  obtain ⟨c, hc, hcd⟩ : ∃ c, S.head? = some c ∧ isDig c := by
    rw [hS, he]
    cases D with
    | nil => simp at hD0
    | cons a r => exact ⟨a, rfl, hp.dig a (by simp)⟩
  have hdg := isDig_digB hcd
  obtain ⟨h0, h1⟩ := dig_far hdg
  unfold Reads
  rw [ht, ← hS, hsz]
  refine ⟨hne, fun d hd => ?_, fun post => ?_⟩
  · rw [hc] at hd; cases hd
    unfold isDig at hcd
    refine ⟨?_, ?_, ?_⟩ <;> (rintro rfl; revert hcd; decide)
  · rw [zt_wd S post div hne c hc, wdc_num h0 h1 hdg]
    have hz := zt_size S post
    have hSL : S = D ++ T := by rw [hS, he]
    have hlen : S.length = D.length + T.length := by rw [hSL]; simp
    have inD : ∀ j (h : j < (zt S post).size), j < D.length → isDig (zt S post)[j] := fun j h hj => by
      rw [zt_in S post j (by omega) h]
      have e : S[j]'(by omega) = D[j] := by simp only [hSL]; exact List.getElem_append_left hj
      rw [e]; exact hp.dig _ (List.getElem_mem hj)
    have hE : numEnd (zt S post) 0 = S.length := by
      rcases hp.tl with ⟨hF, hT⟩ | ⟨hF, hT⟩
      · have hSD : S.length = D.length := by rw [hlen, hT]; simp
        have hr : runEnd digB (zt S post) 0 = S.length := runEnd_is (by omega) (by omega) (fun j h _ h2 => isDig_digB (inD j h (by omega))) (fun h => by rw [zt_at S post h]; decide)
        unfold numEnd
        rw [hr, if_neg]
        rintro ⟨g, _⟩
        obtain ⟨g1, g2⟩ := atB_eq g
        rw [zt_at S post g1] at g2; exact absurd g2 (by decide)
      · have hTl : T.length = F.length + 1 := by rw [hT]; simp
        have hF0 : 0 < F.length := List.length_pos_iff.2 hF
        have atT : ∀ j (h : D.length + j < (zt S post).size), (hj : j < T.length) → (zt S post)[D.length + j] = T[j] := fun j h hj => by
          rw [zt_in S post (D.length + j) (by omega) h]
          simp only [hSL]
          rw [List.getElem_append_right (by omega)]
          simp
        have h46 : (zt S post)[D.length]'(by omega) = 46 := by
          have := atT 0 (by omega) (by omega)
          simp only [Nat.add_zero] at this
          rw [this]; simp [hT]
        have hr : runEnd digB (zt S post) 0 = D.length := runEnd_is (by omega) (by omega) (fun j h _ h2 => isDig_digB (inD j h h2)) (fun h => by rw [h46]; decide)
        have hr2 : runEnd digB (zt S post) (D.length + 1) = S.length := runEnd_is (by omega) (by omega) (fun j h g1 g2 => by
            obtain ⟨q, rfl⟩ : ∃ q, j = D.length + (q + 1) := ⟨j - D.length - 1, by omega⟩
            rw [atT (q + 1) h (by omega)]
            have e : T[q + 1]'(by omega) = F[q]'(by omega) := by simp [hT]
            rw [e]; exact isDig_digB (hp.fdig _ (List.getElem_mem _))) (fun h => by rw [zt_at S post h]; decide)
        unfold numEnd
        rw [hr, hr2, if_pos]
        refine ⟨?_, by omega⟩
        rw [atB, dif_pos (by omega), h46]; rfl
    rw [hE, zt_head, hSa, r1, r2, if_neg (by omega)]
theorem num_pos (s : ByteArray) (i : Nat) (hi : i < s.size) (hd : digB (s[i].toNat : Int) = true) : 0 ≤ rnNum (s.extract i (numEnd s i)) ∧ rnNum (s.extract i (numEnd s i)) ≤ 1000000000000 := by
  have hl := numEnd_le s i (by omega)
  have hg := runEnd_gt hi hd
  obtain ⟨t, ht⟩ : ∃ t, t = s.extract i (numEnd s i) := ⟨_, rfl⟩
  have hz : t.size = numEnd s i - i := by rw [ht, ByteArray.size_extract]; omega
  have h0 : t[0]'(by omega) = s[i] := by
    simp only [ht]
    exact ext_get s i (numEnd s i) 0 (by rw [← ht]; omega) (by omega)
  have hI : rnI t = 0 := runEnd_out (by omega) (by rw [h0]; exact (dig_not_bln hd).1)
  have h45 : atB t 0 45 = false := atB_ne fun g => by rw [h0]; exact (dig_not_bln hd).2.1
  rw [← ht]
  unfold rnNum
  rw [hI, h45]
  cases hG : rnG t
  · simp
  · have : mill (rnW t) (rnB t) ≤ 1000000000000 := by
      unfold rnG at hG
      simp only [Bool.and_eq_true] at hG
      simpa [capB] using hG.2
    simp; omega
/-- What is read at a place is read of its own text. -/
theorem reads_of {s : ByteArray} {i k : Nat} {div : Bool} {t : Tok} (hi : i < s.size) (hb : s[i] ≠ 32 ∧ s[i] ≠ 9 ∧ s[i] ≠ 35) (h : wd s i div = some (t, k)) (l : Int) : Reads ⟨t.k, t.s, t.n, 0⟩ div := by
  rw [wd_in hi] at h
  have hle : i ≤ s.size := by omega
  obtain ⟨c, hc⟩ : ∃ c, c = s[i] := ⟨_, rfl⟩
  rw [← hc] at h hb
  have hhead : ∀ e, i < e → e ≤ s.size → (s.extract i e).data.toList.head? = some c := fun e h1 h2 => by
    rw [extract_drop, List.head?_drop, List.getElem?_take, if_pos h1]
    have hl : i < s.data.toList.length := by simpa using hi
    rw [List.getElem?_eq_getElem hl, hc]; rfl
  have ext : ∀ e, s.extract i e = ⟨(s.extract i e).data.toList.toArray⟩ := fun e => by generalize s.extract i e = z; rfl
  by_cases h0 : c = 59 ∨ c = 10
  · rw [wdc_end h0] at h; cases h; exact reads_end div
  · cases h1 : letB c.toNat
    · cases h2 : digB c.toNat
      · by_cases h3 : c = 34
        · rw [wdc_str h0 h1 h2 h3] at h
          cases hu : unq s (i : Int) with
          | none => rw [hu] at h; cases h
          | some x => rw [hu] at h; cases h; exact reads_str x.1 div
        · by_cases h4 : c = 47 ∧ div = false
          · rw [wdc_re h0 h1 h2 h3 h4] at h
            cases hk : stroke s (i + 1) (i + 1) with
            | none => rw [hk] at h; cases h
            | some m =>
              rw [hk] at h
              cases h
              have hm := stroke_le s (i + 1) _ (i + 1) rfl m hk
              have hn := noEnd_of (by omega) hm.2 hk
              rw [h4.2]
              have := reads_re _ hn
              exact this
          · rw [wdc_sign h0 h1 h2 h3 h4] at h
            by_cases hg : sgn (s.data.toList.drop i) = []
            · rw [if_pos hg] at h; cases h
            · rw [if_neg hg] at h
              cases h
              have hl : i < s.data.toList.length := by simpa using hi
              refine reads_sign (s.data.toList.drop i) c div ?_ h0 h1 h2 h3 h4 hb hg
              rw [List.head?_drop, List.getElem?_eq_getElem hl, hc]; rfl
      · rw [wdc_num h0 h1 h2] at h
        by_cases hp : rnPlace (s.extract i (numEnd s i)) = 0
        · rw [if_pos hp] at h; cases h
        · rw [if_neg hp] at h
          cases h
          have hneg : 0 ≤ rnNum (s.extract i (numEnd s i)) ∧ rnNum (s.extract i (numEnd s i)) ≤ 1000000000000 := by
            exact num_pos s i hi (by rw [← hc]; exact h2)
          obtain ⟨N, hN⟩ : ∃ N : Nat, rnNum (s.extract i (numEnd s i)) = (N : Int) := ⟨(rnNum (s.extract i (numEnd s i))).toNat, by omega⟩
          rw [hN] at hneg
          have := reads_num N (by omega) div
          simp only
          rw [hN]; exact this
    · rw [wdc_name h0 h1] at h
      have hg : i < runEnd signB s i := runEnd_gt hi (by rw [← hc]; simp [signB, h1])
      have hr := runEnd_le signB s i hle
      have hall := runEnd_all signB s i hle
      have hx : ∀ c ∈ (s.extract i (runEnd signB s i)).data.toList, signB (c.toNat : Int) = true := fun d hd => by
        obtain ⟨j, hj, rfl⟩ := List.getElem_of_mem hd
        have hj2 : j < (s.extract i (runEnd signB s i)).size := by have h9 := hj; rw [Array.length_toList] at h9; exact h9
        have hj3 : j < runEnd signB s i - i := by rw [ByteArray.size_extract] at hj2; omega
        have e : (s.extract i (runEnd signB s i)).data.toList[j] = s[i + j]'(by omega) := by
          have := ext_get s i (runEnd signB s i) j hj2 (by omega)
          rw [← this]; rfl
        rw [e]; exact hall (i + j) (by omega) (by omega) (by omega)
      have hnn : (s.extract i (runEnd signB s i)).data.toList ≠ [] := fun e => by
        have := hhead _ hg hr.2
        rw [e] at this; cases this
      have hhd : ∀ d, (s.extract i (runEnd signB s i)).data.toList.head? = some d → letB d.toNat = true := fun d hd => by
        rw [hhead _ hg hr.2] at hd; cases hd; exact h1
      have htl : (s.extract i (runEnd signB s i)).toList = (s.extract i (runEnd signB s i)).data.toList := ByteArray.toList_eq _
      rw [htl] at h
      by_cases hk1 : keyB (s.extract i (runEnd signB s i)).data.toList = true
      · rw [if_pos hk1] at h
        cases h
        have := reads_name _ 4 div hnn hx hhd (.inl ⟨rfl, hk1⟩)
        exact this
      · rw [if_neg hk1] at h
        by_cases hk2 : nameB (s.extract i (runEnd signB s i)) = true
        · rw [if_pos hk2] at h
          cases h
          have := reads_name _ 3 div hnn hx hhd (.inr ⟨rfl, by simpa using hk1, by rw [← ext]; exact hk2⟩)
          exact this
        · rw [if_neg hk2] at h; cases h
end Go.Proofs.YtebeoijoljlhiaaGreatDoor.kit
/-
  Plain facts, of no program: the words of a text, with blanks between, are those words again. Conditions: each theorem names its own.
-/
namespace Go.Proofs.YtebeoijoljlhiaaGreatDoor.kit
open Go.ChangeShapes Go.WideShapes Go.ChangeAt Go.RowKit
set_option linter.unusedVariables false

/-- A word without its line. -/
def core (t : Tok) : Tok := ⟨t.k, t.s, t.n, 0⟩
theorem ttx_core (t : Tok) : ttx (core t) = ttx t := rfl
theorem divT_core (t : Tok) : divT (core t) = divT t := rfl
theorem divs_core {us ts : List Tok} (h : us.map core = ts.map core) : divs us = divs ts := by
  have h1 := congrArg List.getLast? h
  rw [List.getLast?_map, List.getLast?_map] at h1
  unfold divs
  cases hu : us.getLast? with
  | none => cases ht : ts.getLast? with
    | none => rfl
    | some b => rw [hu, ht] at h1; cases h1
  | some a => cases ht : ts.getLast? with
    | none => rw [hu, ht] at h1; cases h1
    | some b =>
      rw [hu, ht] at h1
      have := Option.some.inj h1
      show divT a = divT b
      rw [← divT_core a, ← divT_core b, this]
/-- Words with a blank behind each. -/
def TX (ts : List Tok) : List UInt8 := ts.flatMap fun t => (ttx t).data.toList ++ [32]
theorem TX_cons (t : Tok) (ts : List Tok) : TX (t :: ts) = (ttx t).data.toList ++ 32 :: TX ts := by simp [TX]
theorem TX_append (a b : List Tok) : TX (a ++ b) = TX a ++ TX b := by simp [TX, List.flatMap_append]
theorem skip_byte (s : ByteArray) (i : Nat) (hi : i ≤ s.size) (h : skipB s i < s.size) : s[skipB s i] ≠ 32 ∧ s[skipB s i] ≠ 9 ∧ s[skipB s i] ≠ 35 := by
  have h1 := runEnd_le blkI s i hi
  have key : ∀ (m : Nat) (hm : m < s.size), m = skipB s i → s[m] ≠ 32 ∧ s[m] ≠ 9 ∧ s[m] ≠ 35 := by
    intro m hm e
    unfold skipB at e
    by_cases c : atB s (runEnd blkI s i) 35 = true
    · rw [if_pos c] at e
      have hs := runEnd_stop nnlI s (runEnd blkI s i) h1.2 (by omega)
      have e2 : s[m] = s[runEnd nnlI s (runEnd blkI s i)]'(by omega) := by simp only [e]
      rw [e2]
      simp only [nnlI, Bool.not_eq_false', beq_iff_eq] at hs
      refine ⟨?_, ?_, ?_⟩ <;> (intro g; rw [g] at hs; exact absurd hs (by decide))
    · rw [if_neg c] at e
      have hs := runEnd_stop blkI s i hi (by omega)
      have e2 : s[m] = s[runEnd blkI s i]'(by omega) := by simp only [e]
      rw [e2]
      refine ⟨?_, ?_, ?_⟩
      · intro g; rw [g] at hs; exact absurd hs (by decide)
      · intro g; rw [g] at hs; exact absurd hs (by decide)
      · intro g; refine c ?_; rw [atB, dif_pos (by omega), g]; rfl
  exact key _ h rfl
def GoodL (ts : List Tok) : Prop := ∀ j (h : j < ts.length), Reads (core ts[j]) (divs (ts.take j))
theorem good_snoc {ts : List Tok} {t : Tok} (h : GoodL ts) (ht : Reads (core t) (divs ts)) : GoodL (ts ++ [t]) := by
  intro j hj
  by_cases e : j < ts.length
  · rw [List.getElem_append_left e, List.take_append_of_le_length (by omega)]
    exact h j e
  · have : j = ts.length := by simp at hj; omega
    subst this
    rw [List.getElem_append_right (Nat.le_refl _), List.take_left]
    simpa using ht
theorem lx_good (s : ByteArray) : ∀ (f i : Nat) (line : Int) (acc : List Tok), i ≤ s.size → 0 < line → GoodL acc → ((lx s f i line acc).2 = 0 → GoodL (lx s f i line acc).1) ∧ ((lx s f i line acc).2 ≠ 0 → (lx s f i line acc).1 = []) := by
  intro f
  induction f with
  | zero => intro i line acc hi hl ha; exact ⟨fun _ => ha, fun h => absurd rfl h⟩
  | succ f ih =>
    intro i line acc hi hl ha
    by_cases h : skipB s i < s.size
    · cases hw : wd s (skipB s i) (divs acc) with
      | none => rw [lx_none h (by omega) hw]; exact ⟨fun e => by simp only at e; omega, fun _ => rfl⟩
      | some x =>
        have hp := wd_pair h hw
        rw [lx_some h (by omega) hw]
        refine ih _ _ _ hp.2 (by split <;> omega) (good_snoc ha ?_)
        exact reads_of h (skip_byte s i hi h) (t := x.1) (k := x.2) hw 0
    · rw [lx_end (by omega) (by omega)]; exact ⟨fun _ => ha, fun h => absurd rfl h⟩
theorem lexB_good (s : ByteArray) : ((lexB s).2 = 0 → GoodL (lexB s).1) ∧ ((lexB s).2 ≠ 0 → (lexB s).1 = []) := by
  by_cases hb : 4000 < s.size
  · rw [lexB, if_pos hb]; exact ⟨fun e => by simp at e, fun _ => rfl⟩
  · rw [lexB, if_neg hb]
    exact lx_good s _ 0 1 [] (by omega) (by omega) (fun j h => absurd h (by simp))
theorem lx_again (ts : List Tok) (hg : GoodL ts) (T : ByteArray) (hT : T.data.toList = TX ts) : ∀ (n j : Nat) (f : Nat) (line : Int) (acc : List Tok), n = ts.length - j → j ≤ ts.length → T.size - (TX (ts.take j)).length < f → acc.map core = (ts.take j).map core →
    (lx T f (TX (ts.take j)).length line acc).2 = 0 ∧ (lx T f (TX (ts.take j)).length line acc).1.map core = ts.map core := by
  have hsz : T.size = (TX ts).length := by rw [← hT]; simp
  intro n
  induction n with
  | zero =>
    intro j f line acc hn hj hf ha
    obtain rfl : j = ts.length := by omega
    rw [List.take_length] at *
    rw [lx_end (by rw [skip_end (by omega)]; omega) (by omega)]
    exact ⟨rfl, ha⟩
  | succ n ih =>
    intro j f line acc hn hj hf ha
    have hjl : j < ts.length := by omega
    have hsplit : ts = ts.take j ++ ts[j] :: ts.drop (j + 1) := by rw [← List.drop_eq_getElem_cons hjl, List.take_append_drop]
    obtain ⟨p, hp⟩ : ∃ p, p = (TX (ts.take j)).length := ⟨_, rfl⟩
    rw [← hp] at hf ⊢
    obtain ⟨r1, r2, r3⟩ := hg j hjl
    rw [ttx_core] at r1 r2 r3
    obtain ⟨S, hS⟩ : ∃ S, S = (ttx ts[j]).data.toList := ⟨_, rfl⟩
    rw [← hS] at r1 r2 r3
    have hSz : (ttx ts[j]).size = S.length := by rw [hS]; simp
    have hTX : TX ts = TX (ts.take j) ++ (S ++ 32 :: TX (ts.drop (j + 1))) := by
      have h9 := congrArg TX hsplit
      rw [TX_append, TX_cons, ← hS] at h9
      exact h9
    have hlen : T.size = p + (S.length + 1 + (TX (ts.drop (j + 1))).length) := by rw [hsz, hTX, hp]; simp; omega
    have hS0 : 0 < S.length := List.length_pos_iff.2 r1
    have hpT : p < T.size := by omega
    have hsuf : sufB T p = zt S (TX (ts.drop (j + 1))) := by
      have : (sufB T p).data.toList = (zt S (TX (ts.drop (j + 1)))).data.toList := by
        have h1 := suf_drop T p 0
        rw [List.drop_zero, Nat.add_zero] at h1
        rw [h1, zt_list, hT, hTX, hp, List.drop_left]
      have h2 := congrArg (fun l => (⟨l.toArray⟩ : ByteArray)) this
      exact h2
    have hnext : (TX (ts.take (j + 1))).length = p + S.length + 1 := by
      have : ts.take (j + 1) = ts.take j ++ [ts[j]] := by rw [List.take_add_one, List.getElem?_eq_getElem hjl]; rfl
      rw [this, TX_append, hp, hS]; simp [TX]; omega
    have hby : T[p] = S[0] := by
      have h1 := suf_get T p 0 (by rw [suf_size (by omega)]; omega) (by omega)
      simp only [Nat.add_zero] at h1
      rw [← h1]
      simp only [hsuf]
      exact zt_in S _ 0 hS0 _
    have hhd : S.head? = some S[0] := by cases S with
      | nil => exact absurd rfl r1
      | cons a r => rfl
    obtain ⟨b1, b2, b3⟩ := r2 _ hhd
    have hsk : skipB T p = p := by
      refine skip_word hpT ?_ ?_
      · rw [hby, Bool.eq_false_iff]
        simp only [blkI, ne_eq, Bool.or_eq_true, beq_iff_eq]
        rintro (g | g)
        · exact b1 (UInt8.toNat_inj.1 (by have : (32 : UInt8).toNat = 32 := rfl
                                          omega))
        · exact b2 (UInt8.toNat_inj.1 (by have : (9 : UInt8).toNat = 9 := rfl
                                          omega))
      · exact atB_ne fun g => by
          rw [hby]; intro e
          exact b3 (UInt8.toNat_inj.1 (by omega))
    have hdv : divs acc = divs (ts.take j) := divs_core ha
    have hwd : wd T p (divs acc) = some (core ts[j], p + S.length) := by
      rw [hdv, ← wd_suf T p _ hpT, hsuf, r3, hSz]; rfl
    have hf0 : 0 < f := by omega
    have hstep := lx_some (s := T) (f := f) (i := p) (line := line) (acc := acc) (x := (core ts[j], p + S.length)) (by rw [hsk]; exact hpT) hf0 (by rw [hsk]; exact hwd)
    rw [hstep]
    have hblank : skipB T (p + S.length) = skipB T (p + S.length + 1) := by
      refine skip_blank (by omega) ?_
      have h1 := suf_get T p S.length (by rw [suf_size (by omega)]; omega) (by omega)
      have h2 : T[p + S.length]'(by omega) = 32 := by
        rw [← h1]
        simp only [hsuf]
        exact zt_at S _ _
      rw [h2]; decide
    rw [lx_skip hblank (by omega), ← hnext]
    refine ih (j + 1) (f - 1) _ _ (by omega) (by omega) (by rw [hnext]; omega) ?_
    have : ts.take (j + 1) = ts.take j ++ [ts[j]] := by rw [List.take_add_one, List.getElem?_eq_getElem hjl]; rfl
    rw [this, List.map_append, List.map_append, ha]; rfl
/-- The words of a text, with blanks between, are those words again. -/
theorem lex_again (s : ByteArray) (h0 : (lexB s).2 = 0) (T : ByteArray) (hT : T.data.toList = TX (lexB s).1) (hl : T.size ≤ 4000) :
    (lexB T).2 = 0 ∧ (lexB T).1.map core = (lexB s).1.map core := by
  have hg := (lexB_good s).1 h0
  generalize (lexB s).1 = ts at *
  have h := lx_again ts hg T hT ts.length 0 (T.size + 1) 1 [] (by omega) (by omega) (by simp [TX]) (by simp)
  rw [show lexB T = lx T (T.size + 1) 0 1 [] from if_neg (by omega)]
  simpa [TX] using h
end Go.Proofs.YtebeoijoljlhiaaGreatDoor.kit
