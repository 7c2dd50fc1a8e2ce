/-
  Plain facts: what is read from the text of a number is that number, and the whole text is read. Of no program. Conditions: each theorem names its own.
-/
import Derived.Test.YtebeoijoljlhiaaGreatDoorMRn4
import Derived.Test.YtebeoijoljlhiaaGreatDoorMNt1
namespace Go.Proofs.YtebeoijoljlhiaaGreatDoor.kit
set_option linter.unusedVariables false

theorem runEnd_eq {p : Int → Bool} {s : ByteArray} (n i e : Nat) (hn : e - i = n) (hie : i ≤ e) (he : e ≤ s.size) (hin : ∀ (j : Nat) (h : j < s.size), i ≤ j → j < e → p (s[j].toNat : Int) = true) (hout : ∀ h : e < s.size, p (s[e].toNat : Int) = false) : runEnd p s i = e := by
  induction n generalizing i with
  | zero =>
    obtain rfl : i = e := by omega
    by_cases h : i < s.size
    · exact runEnd_out h (hout h)
    · exact runEnd_end (by omega)
  | succ n ih =>
    have h : i < s.size := by omega
    rw [← runEnd_in h (hin i h (by omega) (by omega))]
    exact ih (i + 1) (by omega) (by omega) (fun j hj h1 h2 => hin j hj (by omega) h2)
theorem byte_of {s : ByteArray} {L : List UInt8} (e : s.data.toList = L) (j : Nat) (h : j < s.size) : L[j]? = some s[j] := by
  subst e
  rw [List.getElem?_eq_getElem (by simpa using h)]; rfl
theorem isDig_digB {c : UInt8} (h : isDig c) : digB (c.toNat : Int) = true := by
  unfold isDig at h; simp [digB, inB]; omega
theorem isDig_blnB {c : UInt8} (h : isDig c) : blnB (c.toNat : Int) = false := by
  unfold isDig at h; simp [blnB]; omega
/-- The parts of the text of a number: a sign, digits, a point and digits. -/
structure Parts (s : ByteArray) (A D T F : List UInt8) : Prop where
  eq : s.data.toList = A ++ D ++ T
  sg : A = [] ∨ A = [45]
  dig : ∀ c ∈ D, isDig c
  fdig : ∀ c ∈ F, isDig c
  ne : D ≠ []
  len : D.length ≤ 20
  flen : F.length ≤ 6
  tl : F = [] ∧ T = [] ∨ F ≠ [] ∧ T = 46 :: F
theorem Parts.size {s : ByteArray} {A D T F : List UInt8} (h : Parts s A D T F) : s.size = A.length + D.length + T.length := by
  have := congrArg List.length h.eq
  simp at this; omega
theorem Parts.d0 {s : ByteArray} {A D T F : List UInt8} (h : Parts s A D T F) : 0 < D.length := List.length_pos_iff.2 h.ne
theorem Parts.inA {s : ByteArray} {A D T F : List UInt8} (h : Parts s A D T F) (j : Nat) (hj : j < s.size) (h1 : j < A.length) : s[j] = 45 := by
  have e := byte_of h.eq j hj
  rw [List.getElem?_append_left (by simp; omega), List.getElem?_append_left h1] at e
  rcases h.sg with r | r
  · rw [r] at h1; simp at h1
  · rw [r] at e h1
    have : j = 0 := by simp at h1; omega
    subst this
    simpa using e.symm
theorem Parts.inD {s : ByteArray} {A D T F : List UInt8} (h : Parts s A D T F) (j : Nat) (hj : j < s.size) (h1 : A.length ≤ j) (h2 : j < A.length + D.length) : isDig s[j] := by
  have e := byte_of h.eq j hj
  rw [List.getElem?_append_left (by simp; omega), List.getElem?_append_right h1, List.getElem?_eq_getElem (by omega)] at e
  have := Option.some.inj e
  rw [← this]
  exact h.dig _ (List.getElem_mem _)
theorem Parts.inT {s : ByteArray} {A D T F : List UInt8} (h : Parts s A D T F) (j : Nat) (hj : j < s.size) (h1 : A.length + D.length ≤ j) : T[j - (A.length + D.length)]? = some s[j] := by
  have e := byte_of h.eq j hj
  rwa [List.getElem?_append_right (by simpa using h1), List.length_append] at e
theorem Parts.first {s : ByteArray} {A D T F : List UInt8} (h : Parts s A D T F) : blnB (s[0]'(by have := h.size; have := h.d0; omega)).toNat = false := by
  have hs := h.size
  have hd := h.d0
  rcases h.sg with r | r
  · exact isDig_blnB (h.inD 0 (by omega) (by rw [r]; simp) (by omega))
  · rw [h.inA 0 (by omega) (by rw [r]; simp)]; rfl
theorem Parts.I {s : ByteArray} {A D T F : List UInt8} (h : Parts s A D T F) : rnI s = 0 := by
  have hs := h.size
  have hd := h.d0
  exact runEnd_eq 0 0 0 rfl (by omega) (by omega) (fun j _ _ h2 => absurd h2 (by omega)) (fun _ => h.first)
theorem Parts.F0 {s : ByteArray} {A D T F : List UInt8} (h : Parts s A D T F) : rnF s = A.length := by
  have hs := h.size
  have hd := h.d0
  unfold rnF
  rw [h.I]
  rcases h.sg with r | r
  · have hg := h.inD 0 (by omega) (by rw [r]; simp) (by omega)
    unfold isDig at hg
    have e1 : atB s 0 45 = false := by
      rw [atB, dif_pos (by omega), beq_eq_false_iff_ne]; intro e; rw [e] at hg; simp at hg
    have e2 : atB s 0 43 = false := by
      rw [atB, dif_pos (by omega), beq_eq_false_iff_ne]; intro e; rw [e] at hg; simp at hg
    rw [e1, e2, r]; rfl
  · have hg := h.inA 0 (by omega) (by rw [r]; simp)
    have e1 : atB s 0 45 = true := by rw [atB, dif_pos (by omega), hg]; rfl
    rw [e1, r]; rfl
theorem Parts.sign {s : ByteArray} {A D T F : List UInt8} (h : Parts s A D T F) : atB s (rnI s) 45 = decide (A = [45]) := by
  have hs := h.size
  have hd := h.d0
  rw [h.I]
  rcases h.sg with r | r
  · have hg := h.inD 0 (by omega) (by rw [r]; simp) (by omega)
    unfold isDig at hg
    have e1 : decide (A = [45]) = false := by simp [r]
    rw [e1, atB, dif_pos (by omega), beq_eq_false_iff_ne]
    intro e; rw [e] at hg; simp at hg
  · have hg := h.inA 0 (by omega) (by rw [r]; simp)
    have e1 : decide (A = [45]) = true := by simp [r]
    rw [e1, atB, dif_pos (by omega), hg]; rfl
theorem Parts.M {s : ByteArray} {A D T F : List UInt8} (h : Parts s A D T F) : rnM s = A.length + D.length := by
  have hs := h.size
  unfold rnM
  rw [h.F0]
  refine runEnd_eq _ _ _ rfl (by omega) (by omega) (fun j hj h1 h2 => isDig_digB (h.inD j hj h1 h2)) (fun hl => ?_)
  have e := h.inT (A.length + D.length) hl (by omega)
  rcases h.tl with ⟨_, r⟩ | ⟨_, r⟩
  · rw [r] at hs; simp at hs; omega
  · rw [r] at e
    simp at e
    rw [← e]; rfl
theorem Parts.point {s : ByteArray} {A D T F : List UInt8} (h : Parts s A D T F) : atB s (rnM s) 46 = decide (F ≠ []) := by
  have hs := h.size
  rw [h.M]
  rcases h.tl with ⟨r0, r⟩ | ⟨r0, r⟩
  · rw [r] at hs; simp at hs
    rw [atB_end (by omega), r0]; rfl
  · have hl : A.length + D.length < s.size := by rw [hs, r]; simp
    have e := h.inT (A.length + D.length) hl (by omega)
    rw [r] at e
    simp at e
    rw [atB, dif_pos hl, ← e]; simp [r0]
theorem Parts.E {s : ByteArray} {A D T F : List UInt8} (h : Parts s A D T F) : rnE s = s.size := by
  have hs := h.size
  unfold rnE
  rw [h.point, h.M]
  rcases h.tl with ⟨r0, r⟩ | ⟨r0, r⟩
  · rw [if_neg (by simp [r0]), hs, r]; simp
  · rw [if_pos (by simp [r0])]
    have hl : A.length + D.length < s.size := by rw [hs, r]; simp
    refine runEnd_eq _ _ _ rfl (by omega) (by omega) (fun j hj h1 h2 => ?_) (fun hl => absurd hl (by omega))
    have e := h.inT j hj (by omega)
    rw [r, List.getElem?_cons, if_neg (by omega)] at e
    exact isDig_digB (h.fdig _ (List.mem_of_getElem? e))
theorem Parts.W {s : ByteArray} {A D T F : List UInt8} (h : Parts s A D T F) : (rnW s).data.toList = D := by
  unfold rnW
  rw [h.F0, h.M]
  simp only [ByteArray.data_extract, Array.toList_extract, List.extract]
  rw [h.eq, List.append_assoc, List.drop_append_of_le_length (by omega), List.drop_length, List.nil_append, show A.length + D.length - A.length = D.length by omega, List.take_append_of_le_length (by omega), List.take_length]
theorem Parts.B {s : ByteArray} {A D T F : List UInt8} (h : Parts s A D T F) : (rnB s).data.toList = F := by
  unfold rnB
  rw [h.point, h.M, h.E]
  rcases h.tl with ⟨r0, r⟩ | ⟨r0, r⟩
  · rw [if_neg (by simp [r0]), r0]
  · rw [if_pos (by simp [r0])]
    have hs := h.size
    simp only [ByteArray.data_extract, Array.toList_extract, List.extract]
    rw [h.eq, r, show A ++ D ++ 46 :: F = (A ++ D ++ [46]) ++ F by simp, List.drop_append_of_le_length (by simp; omega), List.drop_eq_nil_of_le (by simp; omega), List.nil_append, List.take_of_length_le (by rw [hs, r]; simp; omega)]
theorem Parts.reads {s : ByteArray} {A D T F : List UInt8} (h : Parts s A D T F) (N : Nat) (hN : N ≤ 1000000000000) (hv : valN (D ++ six F) = N) : rnNum s = (if A = [45] then -(N : Int) else (N : Int)) ∧ rnPlace s = s.size ∧ lkB s = true := by
  have hs := h.size
  have hd := h.d0
  have hm : mill (rnW s) (rnB s) = N := by unfold mill; rw [h.W, h.B, hv]
  have hw : (rnW s).size = D.length := by rw [← h.W]; simp
  have hsz : s.size ≤ 60 := by
    have := h.len; have := h.flen
    have hA : A.length ≤ 1 := by rcases h.sg with r | r <;> rw [r] <;> simp
    have hT : T.length ≤ 7 := by rcases h.tl with ⟨_, r⟩ | ⟨_, r⟩ <;> rw [r] <;> simp; omega
    omega
  have hG : rnG s = true := by
    unfold rnG
    have e1 : decide (s.size ≤ 60) = true := by simpa using hsz
    have e2 : ((rnW s).size + (rnB s).size == 0) = false := by rw [beq_eq_false_iff_ne]; omega
    have e3 : capB N = true := by simpa [capB] using hN
    rw [hm, h.E, e1, e2, e3]; rfl
  refine ⟨?_, ?_, ?_⟩
  · unfold rnNum
    rw [hG, h.sign, hm]
    by_cases e : A = [45] <;> simp [e]
  · unfold rnPlace; rw [hG, h.E]; rfl
  · unfold lkB rnP
    rw [hG, h.E]
    simp only [if_true]
    rw [runEnd_end (Nat.le_refl _)]
    simp; omega
theorem valN_dec (n u : Nat) : u ≤ n → valN (Lib.decDigits u) = u ∧ ∀ c ∈ Lib.decDigits u, isDig c := by
  induction n generalizing u with
  | zero =>
    intro h
    obtain rfl : u = 0 := by omega
    rw [Lib.decDigits_one (by omega)]
    exact ⟨rfl, by intro c hc; simp at hc; subst hc; exact ⟨by decide, by decide⟩⟩
  | succ n ih =>
    intro h
    have hb : (UInt8.ofNat (48 + u % 10)).toNat = 48 + u % 10 := by rw [UInt8.toNat_ofNat']; omega
    by_cases h1 : u < 10
    · rw [Lib.decDigits_one h1]
      have hb : (UInt8.ofNat (48 + u)).toNat = 48 + u := by rw [UInt8.toNat_ofNat']; omega
      refine ⟨by simp only [valN, List.foldl_cons, List.foldl_nil, hb]; omega, ?_⟩
      intro c hc; simp only [List.mem_singleton] at hc; subst hc
      unfold isDig; rw [hb]; omega
    · rw [Lib.decDigits, dif_neg h1]
      obtain ⟨g1, g2⟩ := ih (u / 10) (by omega)
      refine ⟨by rw [valN_snoc, g1, hb]; omega, ?_⟩
      intro c hc
      rw [List.mem_append] at hc
      rcases hc with hc | hc
      · exact g2 c hc
      · simp only [List.mem_singleton] at hc; subst hc
        unfold isDig; rw [hb]; omega
theorem cutZ_rep (n : Nat) (t : ByteArray) (hn : t.size = n) : ∃ k, t.data.toList = (cutZ t).data.toList ++ List.replicate k 48 := by
  induction n generalizing t with
  | zero => exact ⟨0, by rw [cutZ_none hn]; simp⟩
  | succ n ih =>
    by_cases e : t[t.size - 1]'(by omega) = 48
    · rw [cutZ_in (by omega) e]
      obtain ⟨k, hk⟩ := ih (t.extract 0 (t.size - 1)) (by rw [ByteArray.size_extract]; omega)
      refine ⟨k + 1, ?_⟩
      rw [List.replicate_succ', ← List.append_assoc, ← hk]
      have h1 : (t.extract 0 (t.size - 1)).data.toList = t.data.toList.take (t.size - 1) := by
        simp only [ByteArray.data_extract, Array.toList_extract, List.extract, List.drop_zero, Nat.sub_zero]
      rw [h1]
      have h2 := List.take_append_getElem (l := t.data.toList) (i := t.size - 1) (by simp; omega)
      have h3 : t.data.toList[t.size - 1]'(by simp; omega) = 48 := e
      rw [h3, show t.size - 1 + 1 = t.size by omega, show List.take t.size t.data.toList = t.data.toList from List.take_of_length_le (by simp)] at h2
      exact h2.symm
    · exact ⟨0, by rw [cutZ_out (by omega) e]; simp⟩
theorem milT_six (m : Nat) (h : m < 1000000) : valN (sixT m).data.toList = m ∧ ∀ c ∈ (sixT m).data.toList, isDig c := by
  have hs := milT_size m h
  obtain ⟨g1, g2⟩ := valN_dec _ (1000000 + m) (Nat.le_refl _)
  have e0 : (milT m).data.toList = Lib.decDigits (1000000 + m) := by rw [milT_dec]
  have e1 : (sixT m).data.toList = (milT m).data.toList.drop 1 := by
    unfold sixT
    simp only [ByteArray.data_extract, Array.toList_extract, List.extract]
    rw [List.take_of_length_le (by simp)]
  rw [e1, e0]
  cases hd : Lib.decDigits (1000000 + m) with
  | nil => exact absurd hd (decDigits_ne _)
  | cons c l =>
    rw [hd] at g1 g2
    have hl : l.length = 6 := by
      have := congrArg List.length hd
      rw [Lib.decDigits_length, Lib.nDigits_unique 6 _ (by omega) (by omega)] at this
      simp at this; omega
    have hlt := valN_lt l fun x hx => g2 x (by simp [hx])
    have hc := g2 c (by simp)
    rw [show c :: l = [c] ++ l from rfl, valN_append, hl] at g1
    have hv : valN [c] = c.toNat - 48 := by simp [valN]
    rw [hv] at g1
    rw [hl] at hlt
    unfold isDig at hc
    refine ⟨?_, fun x hx => g2 x (by simpa using Or.inr hx)⟩
    show valN l = m
    simp at g1 hlt
    omega
theorem six_cut (m : Nat) (h : m < 1000000) : six (cutZ (sixT m)).data.toList = (sixT m).data.toList := by
  obtain ⟨k, hk⟩ := cutZ_rep 6 (sixT m) (sixT_size m h)
  have hl := congrArg List.length hk
  have h6 : (sixT m).data.toList.length = 6 := by have := sixT_size m h; simpa using this
  rw [h6, List.length_append, List.length_replicate] at hl
  rw [hk]
  unfold six
  have e : ([48, 48, 48, 48, 48, 48] : List UInt8) = List.replicate 6 48 := rfl
  rw [e, List.take_append, List.take_of_length_le (by omega), List.take_replicate]
  congr 2
  omega
theorem ntP_list (N : Nat) : (ntP N).data.toList = Lib.decDigits (N / 1000000) ++ (ptT (N % 1000000)).data.toList := by
  unfold ntP
  rw [ByteArray.data_append, Array.toList_append]
  have e : Lib.itoa ((N : Int) / 1000000) = Lib.decDigits (N / 1000000) := by
    unfold Lib.itoa
    rw [if_neg (by omega), show ((N : Int) / 1000000).toNat = N / 1000000 by omega]
  rw [e]
theorem parts_of (N : Nat) (hN : N ≤ 1000000000000) (A : List UInt8) (hA : A = [] ∨ A = [45]) (s : ByteArray) (hs : s.data.toList = A ++ (ntP N).data.toList) :
    ∃ D T F, Parts s A D T F ∧ valN (D ++ six F) = N := by
  have hm : N % 1000000 < 1000000 := Nat.mod_lt _ (by omega)
  generalize hM : N % 1000000 = m at hm
  obtain ⟨g1, g2⟩ := valN_dec _ (N / 1000000) (Nat.le_refl _)
  obtain ⟨g3, g4⟩ := milT_six m hm
  have hsix := six_cut m hm
  obtain ⟨k, hk⟩ := cutZ_rep 6 (sixT m) (sixT_size m hm)
  have hF : ∀ c ∈ (cutZ (sixT m)).data.toList, isDig c := fun c hc => g4 c (by rw [hk]; simp [hc])
  have hle := cutZ_le 6 (sixT m) (sixT_size m hm)
  refine ⟨Lib.decDigits (N / 1000000), (ptT m).data.toList, (cutZ (sixT m)).data.toList, ⟨by rw [hs, ntP_list, hM, List.append_assoc], hA, g2, hF, decDigits_ne _, ?_, by simpa using hle, ?_⟩, ?_⟩
  · rw [Lib.decDigits_length]; exact Lib.nDigits_le20 _ (by omega)
  · by_cases h0 : m = 0
    · subst h0
      left
      rw [sixT_zero]; simp [ptT]
    · right
      have := sixT_cut m hm (by omega)
      refine ⟨fun e => this (by have := congrArg List.length e; simpa using this), ?_⟩
      simp only [ptT, if_neg h0]
      rw [ByteArray.data_append, Array.toList_append]; rfl
  · rw [hsix, valN_append, g1, g3]
    have h6 : (sixT m).data.toList.length = 6 := by have := sixT_size m hm; simpa using this
    rw [h6]; omega
/-- The text of a number is read as that number, as far as it goes. -/
theorem reads_back (a : Int) (hb : numB a = true) : rnNum (ntA a) = a ∧ rnPlace (ntA a) = (ntA a).size ∧ lkB (ntA a) = true := by
  have h2 : -1000000000000 ≤ a ∧ a ≤ 1000000000000 := by simpa [numB, inB] using hb
  by_cases hn : a < 0
  · obtain ⟨N, rfl⟩ : ∃ N : Nat, a = -(N : Int) := ⟨a.natAbs, by omega⟩
    have e : ntA (-(N : Int)) = ⟨#[45]⟩ ++ ntP N := by simp only [ntA, hb, hn, if_true]; rw [show (-(N : Int)).natAbs = N by omega]
    obtain ⟨D, T, F, hp, hv⟩ := parts_of N (by omega) [45] (Or.inr rfl) (ntA (-(N : Int))) (by rw [e, ByteArray.data_append, Array.toList_append])
    simpa using hp.reads N (by omega) hv
  · obtain ⟨N, rfl⟩ : ∃ N : Nat, a = (N : Int) := ⟨a.toNat, by omega⟩
    have e : ntA (N : Int) = ntP N := by simp only [ntA, hb, hn, if_true, if_false]; rw [Int.toNat_natCast]
    obtain ⟨D, T, F, hp, hv⟩ := parts_of N (by omega) [] (Or.inl rfl) (ntA (N : Int)) (by rw [e]; rfl)
    simpa using hp.reads N (by omega) hv
end Go.Proofs.YtebeoijoljlhiaaGreatDoor.kit
