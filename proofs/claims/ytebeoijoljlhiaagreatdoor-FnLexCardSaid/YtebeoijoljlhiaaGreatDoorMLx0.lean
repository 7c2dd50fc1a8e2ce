/-
  Plain facts on the words of a text, of no program: the word that begins at a place, the same over what is left of a text, and the list of all words. Conditions: each theorem names its own.
-/
import Derived.Test.YtebeoijoljlhiaaGreatDoorMRn2
import Derived.Test.YtebeoijoljlhiaaGreatDoorMParts0
import Derived.Test.YtebeoijoljlhiaaGreatDoorMDig
import Derived.Test.YtebeoijoljlhiaaGreatDoorMKey
import Derived.Test.YtebeoijoljlhiaaGreatDoorMUn4
import Derived.Test.YtebeoijoljlhiaaGreatDoorMTok0
namespace Go.Proofs.YtebeoijoljlhiaaGreatDoor.kit
open Go.ChangeShapes Go.WideShapes Go.ChangeAt Go.RowKit
set_option linter.unusedVariables false

/-- What is left of a text from a place on. -/
def sufB (s : ByteArray) (i : Nat) : ByteArray := s.extract i s.size
theorem suf_size {s : ByteArray} {i : Nat} (hi : i ≤ s.size) : (sufB s i).size = s.size - i := by unfold sufB; rw [ByteArray.size_extract]; omega
theorem ext_get (s : ByteArray) (i k j : Nat) (h : j < (s.extract i k).size) (h' : i + j < s.size) : (s.extract i k)[j] = s[i + j] := by
  rw [ByteArray.getElem_extract]
theorem suf_get (s : ByteArray) (i j : Nat) (h : j < (sufB s i).size) (h' : i + j < s.size) : (sufB s i)[j] = s[i + j] := ext_get s i s.size j h h'
theorem runEnd_suf (p : Int → Bool) (s : ByteArray) (i j : Nat) (h : i + j ≤ s.size) : i + runEnd p (sufB s i) j = runEnd p s (i + j) := by
  obtain ⟨n, hn⟩ : ∃ n, n = s.size - (i + j) := ⟨_, rfl⟩
  have hz := suf_size (s := s) (i := i) (by omega)
  induction n generalizing j with
  | zero => rw [runEnd_end (by omega), runEnd_end (by omega)]
  | succ n ih =>
    have h1 : i + j < s.size := by omega
    have h2 : j < (sufB s i).size := by omega
    have he := suf_get s i j h2 h1
    cases hp : p (s[i + j].toNat : Int)
    · rw [runEnd_out h1 hp, runEnd_out h2 (by rw [he]; exact hp)]
    · rw [← runEnd_in h1 hp, ← runEnd_in h2 (by rw [he]; exact hp)]
      exact ih (j + 1) (by omega) (by omega)
theorem atB_suf (s : ByteArray) (i j : Nat) (c : UInt8) (h : i ≤ s.size) : atB (sufB s i) j c = atB s (i + j) c := by
  have hz := suf_size h
  by_cases h1 : i + j < s.size
  · rw [atB, atB, dif_pos h1, dif_pos (by omega), suf_get s i j (by omega) h1]
  · rw [atB_end (by omega), atB_end (by omega)]
theorem suf_extract (s : ByteArray) (i a b : Nat) (h : i + b ≤ s.size) : (sufB s i).extract a b = s.extract (i + a) (i + b) := by
  unfold sufB
  rw [ByteArray.extract_extract]
  congr 1
  omega
theorem suf_drop (s : ByteArray) (i j : Nat) : (sufB s i).data.toList.drop j = s.data.toList.drop (i + j) := by
  unfold sufB
  rw [extract_drop]
  simp only [List.take_of_length_le (show s.data.toList.length ≤ s.size by simp), List.drop_drop]
/-- Where a run ends. -/
theorem runEnd_is {p : Int → Bool} {s : ByteArray} {i m : Nat} (hm : m ≤ s.size) (hi : i ≤ m) (ha : ∀ (j : Nat) (h : j < s.size), i ≤ j → j < m → p (s[j].toNat : Int) = true) (he : ∀ (h : m < s.size), p (s[m].toNat : Int) = false) : runEnd p s i = m := by
  obtain ⟨n, hn⟩ : ∃ n, n = m - i := ⟨_, rfl⟩
  induction n generalizing i with
  | zero =>
    obtain rfl : i = m := by omega
    by_cases h : i < s.size
    · exact runEnd_out h (he h)
    · exact runEnd_end (by omega)
  | succ n ih =>
    rw [← runEnd_in (show i < s.size by omega) (ha i (by omega) (Nat.le_refl _) (by omega))]
    exact ih (by omega) (fun j h h1 h2 => ha j h (by omega) h2) (by omega)
theorem runEnd_stop (p : Int → Bool) (s : ByteArray) (i : Nat) (hi : i ≤ s.size) : ∀ (h : runEnd p s i < s.size), p (s[runEnd p s i].toNat : Int) = false := by
  obtain ⟨n, hn⟩ : ∃ n, n = s.size - i := ⟨_, rfl⟩
  induction n generalizing i with
  | zero => intro h; rw [runEnd_end (by omega)] at h; omega
  | succ n ih =>
    have h : i < s.size := by omega
    cases hp : p (s[i].toNat : Int)
    · intro h'
      have := runEnd_out h hp
      simp only [this]; exact hp
    · have := runEnd_in h hp
      intro h'
      simp only [← this]
      exact ih (i + 1) (by omega) (by omega) (by rw [this]; exact h')

/-- The place behind a number. -/
def numEnd (s : ByteArray) (i : Nat) : Nat :=
  if atB s (runEnd digB s i) 46 = true ∧ runEnd digB s i + 1 < runEnd digB s (runEnd digB s i + 1) then runEnd digB s (runEnd digB s i + 1) else runEnd digB s i
theorem numEnd_suf (s : ByteArray) (i : Nat) (h : i ≤ s.size) : i + numEnd (sufB s i) 0 = numEnd s i := by
  have e := runEnd_suf digB s i 0 (by omega)
  have hl := runEnd_le digB s i h
  simp only [Nat.add_zero] at e
  unfold numEnd
  rw [atB_suf _ _ _ _ h, e]
  by_cases ha : atB s (runEnd digB s i) 46 = true
  · have hlt := atB_lt ha
    have e2 := runEnd_suf digB s i (runEnd digB (sufB s i) 0 + 1) (by omega)
    rw [← Nat.add_assoc, e] at e2
    by_cases hb : runEnd digB s i + 1 < runEnd digB s (runEnd digB s i + 1)
    · rw [if_pos ⟨ha, by omega⟩, if_pos ⟨ha, hb⟩]; exact e2
    · rw [if_neg (fun g => hb (by have := g.2; omega)), if_neg (fun g => hb g.2)]; exact e
  · rw [if_neg (fun g => ha g.1), if_neg (fun g => ha g.1)]; exact e
theorem numEnd_le (s : ByteArray) (i : Nat) (h : i ≤ s.size) : runEnd digB s i ≤ numEnd s i ∧ numEnd s i ≤ s.size := by
  have hl := runEnd_le digB s i h
  unfold numEnd
  by_cases hc : atB s (runEnd digB s i) 46 = true ∧ runEnd digB s i + 1 < runEnd digB s (runEnd digB s i + 1)
  · rw [if_pos hc]
    have := runEnd_le digB s (runEnd digB s i + 1) (by have := atB_lt hc.1; omega)
    omega
  · rw [if_neg hc]; omega
theorem runEnd_gt {p : Int → Bool} {s : ByteArray} {i : Nat} (h : i < s.size) (hp : p (s[i].toNat : Int) = true) : i < runEnd p s i := by
  rw [← runEnd_in h hp]; have := runEnd_le p s (i + 1) (by omega); omega
theorem dig_not_bln {c : Int} (h : digB c = true) : blnB c = false ∧ c ≠ 45 ∧ c ≠ 43 := by
  simp only [digB, inB, decide_eq_true_eq] at h
  refine ⟨?_, by omega, by omega⟩
  rw [Bool.eq_false_iff]; simp only [blnB, ne_eq, Bool.or_eq_true, beq_iff_eq]; omega
theorem atB_ne {s : ByteArray} {i : Nat} {c : UInt8} (h : ∀ (g : i < s.size), (s[i].toNat : Int) ≠ c.toNat) : atB s i c = false := by
  by_cases g : i < s.size
  · rw [atB, dif_pos g, beq_eq_false_iff_ne]; intro e; exact h g (by rw [e])
  · exact atB_end (by omega)
theorem atB_eq {s : ByteArray} {i : Nat} {c : UInt8} (h : atB s i c = true) : ∃ g : i < s.size, s[i] = c := by
  have g := atB_lt h
  rw [atB, dif_pos g, beq_iff_eq] at h
  exact ⟨g, h⟩
/-- All of a number's text is read. -/
theorem num_all (s : ByteArray) (i : Nat) (h : i < s.size) (hd : digB (s[i].toNat : Int) = true) : rnE (s.extract i (numEnd s i)) = numEnd s i - i := by
  obtain ⟨k, hk⟩ : ∃ k, k = numEnd s i := ⟨_, rfl⟩
  rw [← hk]
  obtain ⟨e, he⟩ : ∃ e, e = runEnd digB s i := ⟨_, rfl⟩
  have hl := numEnd_le s i (by omega)
  have hg := runEnd_gt h hd
  have hall := runEnd_all digB s i (by omega)
  rw [← he] at hg hall
  rw [← hk, ← he] at hl
  have hz : (s.extract i k).size = k - i := by rw [ByteArray.size_extract]; omega
  have get : ∀ j (g : j < (s.extract i k).size), (s.extract i k)[j] = s[i + j]'(by omega) := fun j g => ext_get s i k j g (by omega)
  have hI : rnI (s.extract i k) = 0 := by
    unfold rnI
    exact runEnd_out (by omega) (by rw [get 0 (by omega)]; exact (dig_not_bln hd).1)
  have hF : rnF (s.extract i k) = 0 := by
    unfold rnF
    rw [hI]
    have a1 : atB (s.extract i k) 0 45 = false := atB_ne fun g => by rw [get 0 g]; exact (dig_not_bln hd).2.1
    have a2 : atB (s.extract i k) 0 43 = false := atB_ne fun g => by rw [get 0 g]; exact (dig_not_bln hd).2.2
    rw [a1, a2]; rfl
  have hstop := runEnd_stop digB s i (by omega)
  rw [← he] at hstop
  have hM : rnM (s.extract i k) = e - i := by
    unfold rnM
    rw [hF]
    refine runEnd_is (by omega) (by omega) (fun j g _ g2 => ?_) (fun g => ?_)
    · rw [get j g]; exact hall (i + j) (by omega) (by omega) (by omega)
    · rw [get (e - i) g]
      have := hstop (by omega)
      simpa [show i + (e - i) = e by omega] using this
  unfold rnE
  rw [hM]
  have hke : k = if atB s e 46 = true ∧ e + 1 < runEnd digB s (e + 1) then runEnd digB s (e + 1) else e := by rw [hk, numEnd, ← he]
  by_cases hc : atB s e 46 = true ∧ e + 1 < runEnd digB s (e + 1)
  · rw [if_pos hc] at hke
    obtain ⟨g46, e46⟩ := atB_eq hc.1
    have h2 := runEnd_le digB s (e + 1) (by omega)
    have a1 : atB (s.extract i k) (e - i) 46 = true := by
      rw [atB, dif_pos (by omega), get (e - i) (by omega), beq_iff_eq]
      simpa [show i + (e - i) = e by omega] using e46
    rw [if_pos a1]
    refine runEnd_is (by omega) (by omega) (fun j g g1 g2 => ?_) (fun g => by omega)
    rw [get j g]
    exact runEnd_all digB s (e + 1) (by omega) (i + j) (by omega) (by omega) (by omega)
  · rw [if_neg hc] at hke
    rw [atB_end (by omega), if_neg (by decide)]; omega
theorem place_all {t : ByteArray} (h : rnPlace t ≠ 0) : rnPlace t = rnE t := by
  unfold rnPlace at h ⊢
  cases c : rnG t
  · rw [c] at h; exact absurd rfl h
  · rw [if_pos rfl]
theorem num_zero {t : ByteArray} (h : rnPlace t = 0) (hE : 0 < rnE t) : rnNum t = 0 := by
  unfold rnPlace at h
  unfold rnNum
  cases c : rnG t
  · rfl
  · rw [c, if_pos rfl] at h; omega

/-- The place of the stroke that ends an expression which begins at b, from k on. -/
def stroke (s : ByteArray) (b k : Nat) : Option Nat :=
  if h : k < s.size then (if s[k] = 10 then none else if s[k] = 47 ∧ (k = b ∨ atB s (k - 1) 92 = false) then some k else stroke s b (k + 1)) else none
  termination_by s.size - k
theorem stroke_nl {s : ByteArray} {b k : Nat} (h : k < s.size) (h1 : s[k] = 10) : stroke s b k = none := by rw [stroke, dif_pos h, if_pos h1]
theorem stroke_hit {s : ByteArray} {b k : Nat} (h : k < s.size) (h1 : s[k] ≠ 10) (h2 : s[k] = 47 ∧ (k = b ∨ atB s (k - 1) 92 = false)) : stroke s b k = some k := by rw [stroke, dif_pos h, if_neg h1, if_pos h2]
theorem stroke_on {s : ByteArray} {b k : Nat} (h : k < s.size) (h1 : s[k] ≠ 10) (h2 : ¬ (s[k] = 47 ∧ (k = b ∨ atB s (k - 1) 92 = false))) : stroke s b (k + 1) = stroke s b k := by rw [stroke.eq_1 s b k, dif_pos h, if_neg h1, if_neg h2]
theorem stroke_end {s : ByteArray} {b k : Nat} (h : s.size ≤ k) : stroke s b k = none := by rw [stroke, dif_neg (by omega)]
theorem stroke_le (s : ByteArray) (b : Nat) (n k : Nat) (hn : n = s.size - k) (m : Nat) (h : stroke s b k = some m) : k ≤ m ∧ m < s.size := by
  induction n generalizing k with
  | zero => rw [stroke_end (by omega)] at h; cases h
  | succ n ih =>
    have hk : k < s.size := by omega
    by_cases h1 : s[k] = 10
    · rw [stroke_nl hk h1] at h; cases h
    · by_cases h2 : s[k] = 47 ∧ (k = b ∨ atB s (k - 1) 92 = false)
      · rw [stroke_hit hk h1 h2] at h; cases h; omega
      · rw [← stroke_on hk h1 h2] at h
        have := ih (k + 1) (by omega) h; omega
theorem stroke_suf (s : ByteArray) (i b : Nat) (n j : Nat) (hn : n = s.size - (i + j)) (hi : i ≤ s.size) (hj : 1 ≤ j) : (stroke (sufB s i) b j).map (i + ·) = stroke s (i + b) (i + j) := by
  have hz := suf_size hi
  induction n generalizing j with
  | zero => rw [stroke_end (by omega), stroke_end (by omega)]; rfl
  | succ n ih =>
    have h1 : i + j < s.size := by omega
    have h2 : j < (sufB s i).size := by omega
    have he := suf_get s i j h2 h1
    have ha := atB_suf s i (j - 1) 92 hi
    rw [show i + (j - 1) = i + j - 1 by omega] at ha
    by_cases c1 : s[i + j] = 10
    · rw [stroke_nl h1 c1, stroke_nl h2 (by rw [he]; exact c1)]; rfl
    · by_cases c2 : s[i + j] = 47 ∧ (i + j = i + b ∨ atB s (i + j - 1) 92 = false)
      · rw [stroke_hit h1 c1 c2, stroke_hit h2 (by rw [he]; exact c1) (by rw [he, ha]; exact ⟨c2.1, c2.2.imp (fun e => by omega) id⟩)]; rfl
      · rw [← stroke_on h1 c1 c2, ← stroke_on h2 (by rw [he]; exact c1) (by rw [he, ha]; exact fun g => c2 ⟨g.1, g.2.imp (fun e => by omega) id⟩)]
        exact ih (j + 1) (by omega) (by omega)

def twoS : List (List UInt8) := [[43, 43], [45, 45], [43, 61], [45, 61], [42, 61], [47, 61], [37, 61], [61, 61], [60, 61], [62, 61], [33, 61], [38, 38], [124, 124], [33, 126]]
def oneS : List UInt8 := [123, 125, 40, 41, 91, 93, 44, 43, 45, 42, 47, 37, 94, 33, 60, 62, 126, 63, 58, 61, 36]
/-- The sign that a text begins with. -/
def sgn : List UInt8 → List UInt8
  | [] => []
  | [a] => if oneS.contains a then [a] else []
  | a :: b :: _ => if twoS.contains [a, b] then [a, b] else if oneS.contains a then [a] else []
def signL : List (List UInt8) := [[43, 43], [45, 45], [43, 61], [45, 61], [42, 61], [47, 61], [37, 61], [61, 61], [60, 61], [62, 61], [33, 61], [38, 38], [124, 124], [33, 126], [123], [125], [40], [41], [91], [93], [44], [43], [45], [42], [47], [37], [94], [33], [60], [62], [126], [63], [58], [61], [36]]
theorem signL_mem {g : List UInt8} (h : g ∈ signL) : ∃ j, j < 35 ∧ signL.getD j [] = g := by
  obtain ⟨j, hj, e⟩ := List.getElem_of_mem h
  exact ⟨j, hj, by rw [List.getD_eq_getElem?_getD, List.getElem?_eq_getElem hj]; exact e⟩
theorem two_in {g : List UInt8} (h : twoS.contains g = true) : ∃ j, j < 14 ∧ signL.getD j [] = g := by
  have h1 : g ∈ twoS := by simpa using h
  obtain ⟨j, hj, e⟩ := List.getElem_of_mem h1
  have hj' : j < 14 := hj
  have key : ∀ j : Fin 14, signL.getD j.val [] = twoS.getD j.val [] := by decide
  refine ⟨j, hj', ?_⟩
  rw [key ⟨j, hj'⟩, List.getD_eq_getElem?_getD, List.getElem?_eq_getElem hj]; exact e
theorem one_in {a : UInt8} (h : oneS.contains a = true) : [a] ∈ signL := by
  have h1 : a ∈ oneS := by simpa using h
  have key : ∀ x ∈ oneS, [x] ∈ signL := by decide
  exact key a h1
theorem sgn_none {l : List UInt8} (hno : ∀ j, j < 35 → (signL.getD j []).isPrefixOf l = false) : sgn l = [] := by
  have no : ∀ g ∈ signL, g.isPrefixOf l = false := fun g hg => by obtain ⟨j, hj, e⟩ := signL_mem hg; rw [← e]; exact hno j hj
  match l with
  | [] => rfl
  | [a] =>
    cases c : oneS.contains a
    · simp [sgn, c, -List.contains_eq_mem]
    · have := no _ (one_in c); simp [List.isPrefixOf] at this
  | a :: b :: r =>
    cases c2 : twoS.contains [a, b]
    · cases c : oneS.contains a
      · simp only [sgn, c, c2]; rfl
      · have := no _ (one_in c); simp [List.isPrefixOf] at this
    · obtain ⟨j, hj, e⟩ := two_in c2
      have := hno j (by omega)
      rw [e] at this; simp [List.isPrefixOf] at this
theorem sgn_hit {l : List UInt8} {k : Nat} (hk : k < 35) (hno : ∀ j, j < k → (signL.getD j []).isPrefixOf l = false) (hp : (signL.getD k []).isPrefixOf l = true) : sgn l = signL.getD k [] := by
  by_cases h14 : k < 14
  · have key : ∀ j : Fin 14, (signL.getD j.val []).length = 2 ∧ twoS.contains (signL.getD j.val []) = true := by decide
    obtain ⟨k1, k2⟩ := key ⟨k, h14⟩
    simp only at k1 k2
    generalize signL.getD k [] = g at *
    match g, k1 with
    | [x, y], _ =>
      match l, hp with
      | [], hp => simp [List.isPrefixOf] at hp
      | [a], hp => simp [List.isPrefixOf] at hp
      | a :: b :: r, hp =>
        simp only [List.isPrefixOf, Bool.and_true, Bool.and_eq_true, beq_iff_eq] at hp
        obtain ⟨rfl, rfl⟩ := hp
        simp only [sgn, k2, if_true]
  · have key : ∀ j : Fin 35, 14 ≤ j.val → (signL.getD j.val []).length = 1 ∧ oneS.contains ((signL.getD j.val []).headD 0) = true := by decide
    obtain ⟨k1, k2⟩ := key ⟨k, hk⟩ (by simp only; omega)
    simp only at k1 k2
    have hno2 : ∀ j, j < 14 → (signL.getD j []).isPrefixOf l = false := fun j hj => hno j (by omega)
    generalize signL.getD k [] = g at *
    match g, k1 with
    | [x], _ =>
      simp only [List.headD_cons] at k2
      match l, hp with
      | [], hp => simp [List.isPrefixOf] at hp
      | [a], hp =>
        simp only [List.isPrefixOf, Bool.and_true, beq_iff_eq] at hp
        subst hp
        simp only [sgn, k2, if_true]
      | a :: b :: r, hp =>
        simp only [List.isPrefixOf, Bool.and_true, beq_iff_eq] at hp
        subst hp
        cases c2 : twoS.contains [x, b]
        · simp only [sgn, c2, k2, if_true]; rfl
        · obtain ⟨j, hj, e⟩ := two_in c2
          have := hno2 j hj
          rw [e] at this; simp [List.isPrefixOf] at this
theorem sgn_len (l : List UInt8) : (sgn l).length ≤ l.length := by
  match l with
  | [] => simp [sgn]
  | [a] => simp only [sgn]; split <;> simp
  | a :: b :: r => simp only [sgn]; split; · simp
                   · split <;> simp

theorem scanS_fuel (n : Nat) : ∀ (m : Nat) (l : List UInt8), l.length < n → l.length < m → scanS n l = scanS m l := by
  induction n with
  | zero => intro m l h; omega
  | succ n ih =>
    intro m l h1 h2
    match m, h2 with
    | m + 1, h2 =>
      simp only [scanS]
      split
      · rfl
      · cases hr : rd l with
        | none => rfl
        | some x =>
          obtain ⟨b, k⟩ := x
          have hp := rd_pos hr
          simp only
          rw [ih m (l.drop k) (by simp; omega) (by simp; omega)]
theorem scanS_bounds (n : Nat) : ∀ (l o : List UInt8) (m : Nat), scanS n l = some (o, m) → 1 ≤ m ∧ m ≤ l.length := by
  induction n with
  | zero => intro l o m h; cases h
  | succ n ih =>
    intro l o m h
    simp only [scanS] at h
    split at h
    · rename_i hh
      cases h
      cases l with
      | nil => simp at hh
      | cons a l => simp
    · cases hr : rd l with
      | none => rw [hr] at h; cases h
      | some x =>
        obtain ⟨b, k⟩ := x
        have hp := rd_pos hr
        rw [hr] at h
        simp only at h
        split at h
        · cases hs : scanS n (l.drop k) with
          | none => rw [hs] at h; cases h
          | some y =>
            obtain ⟨o2, m2⟩ := y
            rw [hs] at h
            cases h
            have := ih _ _ _ hs
            simp at this; omega
        · cases h
theorem at_suf (s : ByteArray) (i j : Nat) (hi : i ≤ s.size) : at_ (sufB s i) j = at_ s (i + j) := by
  have h := congrArg (fun l => l.getD 0 0) (suf_drop s i j)
  simp only [List.getD_eq_getElem?_getD, List.getElem?_drop, Nat.add_zero] at h
  simpa [at_, List.getD_eq_getElem?_getD] using h
theorem unq_suf (s : ByteArray) (i : Nat) (hi : i < s.size) : (unq (sufB s i) 0).map (fun x => (x.1, i + x.2)) = unq s (i : Int) := by
  have hz := suf_size (s := s) (i := i) (by omega)
  have ha := at_suf s i 0 (by omega)
  rw [Nat.add_zero] at ha
  unfold unq
  simp only [Int.toNat_natCast, Int.toNat_zero, Nat.zero_add, ha]
  by_cases c : (at_ s i).toNat = 34
  · rw [if_pos ⟨by omega, by omega, c⟩, if_pos ⟨by omega, by omega, c⟩, suf_drop, scanS_fuel (sufB s i).size s.size _ (by simp; omega) (by simp; omega)]
    cases scanS s.size (s.data.toList.drop (i + 1)) with
    | none => rfl
    | some x => simp; omega
  · rw [if_neg (fun g => c g.2.2), if_neg (fun g => c g.2.2)]; rfl
theorem unq_bounds {s : ByteArray} {i : Nat} {l : List UInt8} {n : Nat} (h : unq s (i : Int) = some (l, n)) : i < n ∧ n ≤ s.size := by
  unfold unq at h
  split at h
  · rename_i hc
    simp only [Int.toNat_natCast] at h
    cases hs : scanS s.size (s.data.toList.drop (i + 1)) with
    | none => rw [hs] at h; cases h
    | some x =>
      rw [hs] at h
      cases h
      have := scanS_bounds _ _ _ _ hs
      simp at this; omega
  · cases h
end Go.Proofs.YtebeoijoljlhiaaGreatDoor.kit
