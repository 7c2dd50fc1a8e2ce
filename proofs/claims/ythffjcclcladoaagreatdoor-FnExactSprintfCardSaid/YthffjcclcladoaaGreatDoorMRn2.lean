/-
  What ReadNum of both sides answers, as plain functions of a text, and what stands at a place of a text. Conditions: each theorem names its own.
-/
import Derived.Test.YthffjcclcladoaaGreatDoorMRn1
import Derived.Test.YthffjcclcladoaaGreatDoorShelf
import Derived.Lib.Strings
import Derived.WalkMore
import Derived.ScopeJumps
namespace Go.Proofs.YthffjcclcladoaaGreatDoor.kit
open Go.ChangeShapes Go.WideShapes Go.ChangeAt Go.RowKit
set_option linter.unusedVariables false

/-- Whether a byte stands at a place. -/
def atB (s : ByteArray) (i : Nat) (c : UInt8) : Bool := if h : i < s.size then s[i] == c else false
theorem atB_in {s : ByteArray} {i : Nat} {c : UInt8} (h : i < s.size) : ((s[i].toNat : Int) == (c.toNat : Int)) = atB s i c := by
  rw [atB, dif_pos h, Bool.eq_iff_iff, beq_iff_eq, beq_iff_eq]
  constructor
  · intro e; exact UInt8.toNat_inj.1 (by omega)
  · intro e; rw [e]
theorem atB_lt {s : ByteArray} {i : Nat} {c : UInt8} (h : atB s i c = true) : i < s.size := by
  unfold atB at h
  by_cases e : i < s.size
  · exact e
  · rw [dif_neg e] at h; cases h
theorem atB_end {s : ByteArray} {i : Nat} {c : UInt8} (h : s.size ≤ i) : atB s i c = false := by rw [atB, dif_neg (by omega)]
theorem atB_not {s : ByteArray} {i : Nat} (h : atB s i 45 = true) : atB s i 43 = false := by
  have hl := atB_lt h
  rw [atB, dif_pos hl] at h ⊢
  have : s[i] = 45 := by simpa using h
  rw [this]; rfl
theorem hasPrefix_one (l : List UInt8) (c : UInt8) : Lib.hasPrefix l [c] = (match l with | [] => false | a :: _ => a == c) := by
  cases l with
  | nil => simp [Lib.hasPrefix]
  | cons a l =>
    show ([c].isPrefixOf (a :: l)) = (a == c)
    simp only [List.isPrefixOf, Bool.and_true]
    rw [Bool.eq_iff_iff, beq_iff_eq, beq_iff_eq]
    exact eq_comm
theorem prefix_at (s : ByteArray) (i : Nat) (c : UInt8) (hi : i ≤ s.size) : Lib.hasPrefix (s.extract i s.size).data.toList [c] = atB s i c := by
  rw [hasPrefix_one]
  have e : (s.extract i s.size).data.toList = s.data.toList.drop i := by simp; rw [List.take_of_length_le (by simp)]
  rw [e]
  by_cases h : i < s.size
  · rw [List.drop_eq_getElem_cons (by simpa using h), atB, dif_pos h]; rfl
  · rw [List.drop_eq_nil_of_le (by simp; omega), atB, dif_neg h]
theorem pre_any (s : ByteArray) (i : Nat) (c : UInt8) (w : World) (hi : i ≤ s.size) :
    Calls Tryz.prog 62 #[.string (s.extract i s.size), .string ⟨#[c]⟩] w fun e w' => e = .returned (.bool (atB s i c)) ∧ w = w' := by
  refine (Tryz.strings_HasPrefix _ _ _).mono ?_
  rintro e w' ⟨rfl, rfl⟩
  exact ⟨ret_bool (prefix_at s i c hi), rfl⟩

def rnI (s : ByteArray) : Nat := runEnd blnB s 0
def rnF (s : ByteArray) : Nat := if atB s (rnI s) 45 || atB s (rnI s) 43 then rnI s + 1 else rnI s
def rnM (s : ByteArray) : Nat := runEnd digB s (rnF s)
def rnE (s : ByteArray) : Nat := if atB s (rnM s) 46 then runEnd digB s (rnM s + 1) else rnM s
def rnW (s : ByteArray) : ByteArray := s.extract (rnF s) (rnM s)
def rnB (s : ByteArray) : ByteArray := if atB s (rnM s) 46 then s.extract (rnM s + 1) (rnE s) else ⟨#[]⟩
def rnG (s : ByteArray) : Bool := decide (rnE s ≤ 60) && !((rnW s).size + (rnB s).size == 0) && capB (mill (rnW s) (rnB s))
def rnNum (s : ByteArray) : Int := if rnG s then (if atB s (rnI s) 45 then -(mill (rnW s) (rnB s) : Int) else (mill (rnW s) (rnB s) : Int)) else 0
def rnPlace (s : ByteArray) : Int := if rnG s then (rnE s : Int) else 0
theorem rnI_le (s : ByteArray) : rnI s ≤ s.size := (runEnd_le _ s 0 (by omega)).2
theorem rnF_le (s : ByteArray) : rnI s ≤ rnF s ∧ rnF s ≤ s.size := by
  have := rnI_le s
  unfold rnF
  split
  · rename_i h
    simp only [Bool.or_eq_true] at h
    rcases h with h | h <;> (have := atB_lt h; omega)
  · omega
theorem rnM_le (s : ByteArray) : rnF s ≤ rnM s ∧ rnM s ≤ s.size := runEnd_le _ s _ (rnF_le s).2
theorem rnE_le (s : ByteArray) : rnM s ≤ rnE s ∧ rnE s ≤ s.size := by
  have h := rnM_le s
  unfold rnE
  split
  · rename_i hp
    have := runEnd_le digB s (rnM s + 1) (by have := atB_lt hp; omega)
    omega
  · omega
theorem dig_extract (s : ByteArray) (i : Nat) (hi : i ≤ s.size) : DigAll (s.extract i (runEnd digB s i)) := by
  intro j h
  have hl := runEnd_le digB s i hi
  have hsz : (s.extract i (runEnd digB s i)).size = runEnd digB s i - i := by rw [ByteArray.size_extract]; omega
  have hj : i + j < s.size := by omega
  have e : (s.extract i (runEnd digB s i))[j] = s[i + j] := ByteArray.getElem_extract ..
  rw [e]
  exact runEnd_all digB s i hi (i + j) hj (by omega) (by omega)
theorem dig_W (s : ByteArray) : DigAll (rnW s) := dig_extract s _ (rnF_le s).2
theorem dig_B (s : ByteArray) : DigAll (rnB s) := by
  unfold rnB
  split
  · rename_i hp
    have e : rnE s = runEnd digB s (rnM s + 1) := by unfold rnE; rw [if_pos hp]
    rw [e]
    exact dig_extract s _ (by have := atB_lt hp; omega)
  · intro j h; have h' : j < 0 := h; omega
theorem size_W (s : ByteArray) : (rnW s).size = rnM s - rnF s := by
  have := rnM_le s
  rw [rnW, ByteArray.size_extract]; omega
theorem size_B (s : ByteArray) (h : atB s (rnM s) 46 = true) : (rnB s).size = rnE s - (rnM s + 1) := by
  have := rnE_le s
  rw [rnB, if_pos h, ByteArray.size_extract]; omega
theorem rn_no {s : ByteArray} (h : rnG s = false) : rnNum s = 0 ∧ rnPlace s = 0 := by simp [rnNum, rnPlace, h]
theorem rn_far {s : ByteArray} (h : 60 < rnE s) : rnG s = false := by
  have : decide (rnE s ≤ 60) = false := by simp; omega
  simp [rnG, this]
theorem rn_none {s : ByteArray} (h : (rnW s).size + (rnB s).size = 0) : rnG s = false := by simp [rnG, h]
theorem rn_great {s : ByteArray} (h : capB (mill (rnW s) (rnB s)) = false) : rnG s = false := by simp [rnG, h]
theorem rn_yes {s : ByteArray} (h1 : rnE s ≤ 60) (h2 : ¬ (rnW s).size + (rnB s).size = 0) (h3 : capB (mill (rnW s) (rnB s)) = true) : rnNum s = (if atB s (rnI s) 45 then -(mill (rnW s) (rnB s) : Int) else (mill (rnW s) (rnB s) : Int)) ∧ rnPlace s = (rnE s : Int) := by
  have : rnG s = true := by simp only [rnG, Bool.and_eq_true, h3, decide_eq_true_eq, Bool.not_eq_true', beq_eq_false_iff_ne, ne_eq]; exact ⟨⟨h1, h2⟩, trivial⟩
  simp [rnNum, rnPlace, this]
end Go.Proofs.YthffjcclcladoaaGreatDoor.kit
/-
  Contract of impl.ReadNum over this seat's translation: for every text it gives the number that the text begins with and the place behind it. Conditions: the text has at most a million bytes (1048576).
-/
namespace Go.Proofs.YthffjcclcladoaaGreatDoor.kit
open Go.ChangeShapes Go.WideShapes Go.ChangeAt Go.RowKit
set_option linter.unusedVariables false

theorem ret_two2 {a a' b b' : Int} (h : a = a') (h' : b = b') : Ending.returned (.tuple #[.int .i64 a, .int .i64 b]) = .returned (.tuple #[.int .i64 a', .int .i64 b']) := by rw [h, h']

theorem sl_eq {P : Program} {t : TypeId} (ht : P.underlying t = some .string) (s : ByteArray) (i j : Int) (A B : Nat) (hA : i = (A : Int)) (hB : j = (B : Int)) (h1 : A ≤ B) (h2 : B ≤ s.size) (W : World) :
    (Instr.slice t (.string s) (some (.int .i64 i)) (some (.int .i64 j)) none).run P W = .ok (.string (s.extract A B)) W := by
  subst hA hB
  rw [run_slice_string W t s .i64 .i64 (A : Int) (B : Int) ht (by omega) (by omega) (by omega)]; rfl

/-- A scope whose only jumps go ahead to one label. -/
theorem wp_scope_ahead {P : Program} {a : Act} {w : World} {Q : Exit → Act → World → Prop} {c rest : Code} (l : Nat) (hf : findLabel c l = some rest)
    (first : c.wp P (Exit.jump l (fun a w => rest.wp P (Exit.noGoto Q) a w) Q) a w) : (Code.scope c).wp P Q a w :=
  wp_scope_jumps l (fun a w => rest.wp P (Exit.noGoto Q) a w) (fun _ _ => 0) hf first (fun a w h => wp_mono h (fun e a w hq => by cases e <;> first | exact hq | exact hq.elim))
theorem jump_ret {l : Nat} {J : Act → World → Prop} {Q : Exit → Act → World → Prop} {a : Act} {w : World} : Exit.jump l J Q .ret a w = Q .ret a w := rfl
theorem jump_goto {l : Nat} {J K : Act → World → Prop} {Q : Exit → Act → World → Prop} {a : Act} {w : World} (h : J a w) : Exit.then K (Exit.jump l J Q) (.goto l) a w := ⟨rfl, h⟩

set_option maxHeartbeats 1000000 in
theorem rnI_neg_p_far (s : ByteArray) (I M E : Nat) (w : World)
    (hs : s.size ≤ 1048576) (hI : I ≤ s.size) (hF : (I + 1) ≤ M) (hM : M ≤ s.size)
    (C0 : Hid (∀ W, Calls Tryz.prog 61 #[.string s, .int .i64 0] W fun e w' => e = .returned (.int .i64 (I : Int)) ∧ W = w'))
    (C1 : Hid (∀ W, Calls Tryz.prog 63 #[.string s, .int .i64 ((I : Int) + 1)] W fun e w' => e = .returned (.int .i64 (M : Int)) ∧ W = w'))
    (hE : M + 1 ≤ E) (hE2 : E ≤ s.size) (C2 : Hid (∀ W, Calls Tryz.prog 63 #[.string s, .int .i64 ((M : Int) + 1)] W fun e w' => e = .returned (.int .i64 (E : Int)) ∧ W = w'))
    (n1 : atB s I 45 = true) (n2 : atB s I 43 = false) (n3 : atB s M 46 = true)
    (hf : 60 < E) :
    Calls Tryz.prog 23 #[.string s] w fun e w' => e = .returned (.tuple #[.int .i64 0, .int .i64 0]) ∧ Below w.heap.size w w' := by
  have hsl := sl_eq (P := Tryz.prog) Tryz.underlying9 s ((I : Int) + 1) (M : Int) (I + 1) M (by omega) rfl (by omega) (by omega)
  have hsl2 := sl_eq (P := Tryz.prog) Tryz.underlying9 s ((M : Int) + 1) (E : Int) (M + 1) E (by omega) rfl (by omega) (by omega)
  go_enter Tryz.func23, Tryz.ntmps23
  go_wp2_with fail
  refine wp_scope_ahead 0 rfl ?_
  go_wp2_with (first | (go_at_call 61; refine (C0.out _).mono ?_; rintro e w' ⟨rfl, rfl⟩) | (go_at_call 62; refine (pre_any _ _ _ _ (by omega)).mono ?_; rintro e w' ⟨rfl, rfl⟩) | (go_at_call 63; ((with_reducible refine (C1.out _).mono ?_); rintro e w' ⟨rfl, rfl⟩)) | (go_at_call 63; ((with_reducible refine (C2.out _).mono ?_); rintro e w' ⟨rfl, rfl⟩)))
  go_step3
  refine jump_goto ?_
  go_wp2_with fail
  rw [Exit.noGoto_ret]
  go_ret2
  exact ⟨rfl, Below.refl _ _⟩

set_option maxHeartbeats 1000000 in
theorem rnI_neg_p_empty (s : ByteArray) (I M E : Nat) (w : World)
    (hs : s.size ≤ 1048576) (hI : I ≤ s.size) (hF : (I + 1) ≤ M) (hM : M ≤ s.size)
    (C0 : Hid (∀ W, Calls Tryz.prog 61 #[.string s, .int .i64 0] W fun e w' => e = .returned (.int .i64 (I : Int)) ∧ W = w'))
    (C1 : Hid (∀ W, Calls Tryz.prog 63 #[.string s, .int .i64 ((I : Int) + 1)] W fun e w' => e = .returned (.int .i64 (M : Int)) ∧ W = w'))
    (hE : M + 1 ≤ E) (hE2 : E ≤ s.size) (C2 : Hid (∀ W, Calls Tryz.prog 63 #[.string s, .int .i64 ((M : Int) + 1)] W fun e w' => e = .returned (.int .i64 (E : Int)) ∧ W = w'))
    (n1 : atB s I 45 = true) (n2 : atB s I 43 = false) (n3 : atB s M 46 = true)
    (hf : E ≤ 60) (hem : (s.extract (I + 1) M ++ s.extract (M + 1) E).toList.isEmpty = true) :
    Calls Tryz.prog 23 #[.string s] w fun e w' => e = .returned (.tuple #[.int .i64 0, .int .i64 0]) ∧ Below w.heap.size w w' := by
  have hsl := sl_eq (P := Tryz.prog) Tryz.underlying9 s ((I : Int) + 1) (M : Int) (I + 1) M (by omega) rfl (by omega) (by omega)
  have hsl2 := sl_eq (P := Tryz.prog) Tryz.underlying9 s ((M : Int) + 1) (E : Int) (M + 1) E (by omega) rfl (by omega) (by omega)
  go_enter Tryz.func23, Tryz.ntmps23
  go_wp2_with fail
  refine wp_scope_ahead 0 rfl ?_
  go_wp2_with (first | (go_at_call 61; refine (C0.out _).mono ?_; rintro e w' ⟨rfl, rfl⟩) | (go_at_call 62; refine (pre_any _ _ _ _ (by omega)).mono ?_; rintro e w' ⟨rfl, rfl⟩) | (go_at_call 63; ((with_reducible refine (C1.out _).mono ?_); rintro e w' ⟨rfl, rfl⟩)) | (go_at_call 63; ((with_reducible refine (C2.out _).mono ?_); rintro e w' ⟨rfl, rfl⟩)))
  go_step3
  refine jump_goto ?_
  go_wp2_with fail
  rw [Exit.noGoto_ret]
  go_ret2
  exact ⟨rfl, Below.refl _ _⟩

set_option maxHeartbeats 1000000 in
theorem rnI_neg_p_great (s : ByteArray) (I M E v : Nat) (w : World)
    (hs : s.size ≤ 1048576) (hI : I ≤ s.size) (hF : (I + 1) ≤ M) (hM : M ≤ s.size)
    (C0 : Hid (∀ W, Calls Tryz.prog 61 #[.string s, .int .i64 0] W fun e w' => e = .returned (.int .i64 (I : Int)) ∧ W = w'))
    (C1 : Hid (∀ W, Calls Tryz.prog 63 #[.string s, .int .i64 ((I : Int) + 1)] W fun e w' => e = .returned (.int .i64 (M : Int)) ∧ W = w'))
    (hE : M + 1 ≤ E) (hE2 : E ≤ s.size) (C2 : Hid (∀ W, Calls Tryz.prog 63 #[.string s, .int .i64 ((M : Int) + 1)] W fun e w' => e = .returned (.int .i64 (E : Int)) ∧ W = w'))
    (n1 : atB s I 45 = true) (n2 : atB s I 43 = false) (n3 : atB s M 46 = true)
    (hf : E ≤ 60) (hem : (s.extract (I + 1) M ++ s.extract (M + 1) E).toList.isEmpty = false)
    (CC : Hid (∀ W, Calls Tryz.prog 64 #[.string (s.extract (I + 1) M), .string (s.extract (M + 1) E)] W fun e w' => e = .returned (.int .i64 (v : Int)) ∧ Below W.heap.size W w')) (hv : 1000000000000 < v ∧ v ≤ 2000000000000) :
    Calls Tryz.prog 23 #[.string s] w fun e w' => e = .returned (.tuple #[.int .i64 0, .int .i64 0]) ∧ Below w.heap.size w w' := by
  obtain ⟨hv, hv2⟩ := hv
  have hsl := sl_eq (P := Tryz.prog) Tryz.underlying9 s ((I : Int) + 1) (M : Int) (I + 1) M (by omega) rfl (by omega) (by omega)
  have hsl2 := sl_eq (P := Tryz.prog) Tryz.underlying9 s ((M : Int) + 1) (E : Int) (M + 1) E (by omega) rfl (by omega) (by omega)
  go_enter Tryz.func23, Tryz.ntmps23
  go_wp2_with fail
  refine wp_scope_ahead 0 rfl ?_
  go_wp2_with (first | (go_at_call 61; refine (C0.out _).mono ?_; rintro e w' ⟨rfl, rfl⟩) | (go_at_call 62; refine (pre_any _ _ _ _ (by omega)).mono ?_; rintro e w' ⟨rfl, rfl⟩) | (go_at_call 63; ((with_reducible refine (C1.out _).mono ?_); rintro e w' ⟨rfl, rfl⟩)) | (go_at_call 63; ((with_reducible refine (C2.out _).mono ?_); rintro e w' ⟨rfl, rfl⟩)) | (go_at_call 64; refine (CC.out _).mono ?_; rintro e w1 ⟨rfl, hb⟩))
  go_step3
  refine jump_goto ?_
  go_wp2_with fail
  rw [Exit.noGoto_ret]
  go_ret2
  exact ⟨rfl, hb⟩

set_option maxHeartbeats 1000000 in
theorem rnI_neg_p_yes (s : ByteArray) (I M E v : Nat) (w : World)
    (hs : s.size ≤ 1048576) (hI : I ≤ s.size) (hF : (I + 1) ≤ M) (hM : M ≤ s.size)
    (C0 : Hid (∀ W, Calls Tryz.prog 61 #[.string s, .int .i64 0] W fun e w' => e = .returned (.int .i64 (I : Int)) ∧ W = w'))
    (C1 : Hid (∀ W, Calls Tryz.prog 63 #[.string s, .int .i64 ((I : Int) + 1)] W fun e w' => e = .returned (.int .i64 (M : Int)) ∧ W = w'))
    (hE : M + 1 ≤ E) (hE2 : E ≤ s.size) (C2 : Hid (∀ W, Calls Tryz.prog 63 #[.string s, .int .i64 ((M : Int) + 1)] W fun e w' => e = .returned (.int .i64 (E : Int)) ∧ W = w'))
    (n1 : atB s I 45 = true) (n2 : atB s I 43 = false) (n3 : atB s M 46 = true)
    (hf : E ≤ 60) (hem : (s.extract (I + 1) M ++ s.extract (M + 1) E).toList.isEmpty = false)
    (CC : Hid (∀ W, Calls Tryz.prog 64 #[.string (s.extract (I + 1) M), .string (s.extract (M + 1) E)] W fun e w' => e = .returned (.int .i64 (v : Int)) ∧ Below W.heap.size W w')) (hv : v ≤ 1000000000000) :
    Calls Tryz.prog 23 #[.string s] w fun e w' => e = .returned (.tuple #[.int .i64 (-(v : Int)), .int .i64 (E : Int)]) ∧ Below w.heap.size w w' := by
  have hsl := sl_eq (P := Tryz.prog) Tryz.underlying9 s ((I : Int) + 1) (M : Int) (I + 1) M (by omega) rfl (by omega) (by omega)
  have hsl2 := sl_eq (P := Tryz.prog) Tryz.underlying9 s ((M : Int) + 1) (E : Int) (M + 1) E (by omega) rfl (by omega) (by omega)
  go_enter Tryz.func23, Tryz.ntmps23
  go_wp2_with fail
  refine wp_scope_ahead 0 rfl ?_
  go_wp2_with (first | (go_at_call 61; refine (C0.out _).mono ?_; rintro e w' ⟨rfl, rfl⟩) | (go_at_call 62; refine (pre_any _ _ _ _ (by omega)).mono ?_; rintro e w' ⟨rfl, rfl⟩) | (go_at_call 63; ((with_reducible refine (C1.out _).mono ?_); rintro e w' ⟨rfl, rfl⟩)) | (go_at_call 63; ((with_reducible refine (C2.out _).mono ?_); rintro e w' ⟨rfl, rfl⟩)) | (go_at_call 64; refine (CC.out _).mono ?_; rintro e w1 ⟨rfl, hb⟩))
  rw [jump_ret]
  go_ret2
  exact ⟨rfl, hb⟩

set_option maxHeartbeats 1000000 in
theorem rnI_neg_q_far (s : ByteArray) (I M : Nat) (w : World)
    (hs : s.size ≤ 1048576) (hI : I ≤ s.size) (hF : (I + 1) ≤ M) (hM : M ≤ s.size)
    (C0 : Hid (∀ W, Calls Tryz.prog 61 #[.string s, .int .i64 0] W fun e w' => e = .returned (.int .i64 (I : Int)) ∧ W = w'))
    (C1 : Hid (∀ W, Calls Tryz.prog 63 #[.string s, .int .i64 ((I : Int) + 1)] W fun e w' => e = .returned (.int .i64 (M : Int)) ∧ W = w'))
    (n1 : atB s I 45 = true) (n2 : atB s I 43 = false) (n3 : atB s M 46 = false)
    (hf : 60 < M) :
    Calls Tryz.prog 23 #[.string s] w fun e w' => e = .returned (.tuple #[.int .i64 0, .int .i64 0]) ∧ Below w.heap.size w w' := by
  have hsl := sl_eq (P := Tryz.prog) Tryz.underlying9 s ((I : Int) + 1) (M : Int) (I + 1) M (by omega) rfl (by omega) (by omega)
  go_enter Tryz.func23, Tryz.ntmps23
  go_wp2_with fail
  refine wp_scope_ahead 0 rfl ?_
  go_wp2_with (first | (go_at_call 61; refine (C0.out _).mono ?_; rintro e w' ⟨rfl, rfl⟩) | (go_at_call 62; refine (pre_any _ _ _ _ (by omega)).mono ?_; rintro e w' ⟨rfl, rfl⟩) | (go_at_call 63; ((with_reducible refine (C1.out _).mono ?_); rintro e w' ⟨rfl, rfl⟩)))
  go_step3
  refine jump_goto ?_
  go_wp2_with fail
  rw [Exit.noGoto_ret]
  go_ret2
  exact ⟨rfl, Below.refl _ _⟩

set_option maxHeartbeats 1000000 in
theorem rnI_neg_q_empty (s : ByteArray) (I M : Nat) (w : World)
    (hs : s.size ≤ 1048576) (hI : I ≤ s.size) (hF : (I + 1) ≤ M) (hM : M ≤ s.size)
    (C0 : Hid (∀ W, Calls Tryz.prog 61 #[.string s, .int .i64 0] W fun e w' => e = .returned (.int .i64 (I : Int)) ∧ W = w'))
    (C1 : Hid (∀ W, Calls Tryz.prog 63 #[.string s, .int .i64 ((I : Int) + 1)] W fun e w' => e = .returned (.int .i64 (M : Int)) ∧ W = w'))
    (n1 : atB s I 45 = true) (n2 : atB s I 43 = false) (n3 : atB s M 46 = false)
    (hf : M ≤ 60) (hem : (s.extract (I + 1) M ++ ByteArray.mk #[]).toList.isEmpty = true) :
    Calls Tryz.prog 23 #[.string s] w fun e w' => e = .returned (.tuple #[.int .i64 0, .int .i64 0]) ∧ Below w.heap.size w w' := by
  have hsl := sl_eq (P := Tryz.prog) Tryz.underlying9 s ((I : Int) + 1) (M : Int) (I + 1) M (by omega) rfl (by omega) (by omega)
  go_enter Tryz.func23, Tryz.ntmps23
  go_wp2_with fail
  refine wp_scope_ahead 0 rfl ?_
  go_wp2_with (first | (go_at_call 61; refine (C0.out _).mono ?_; rintro e w' ⟨rfl, rfl⟩) | (go_at_call 62; refine (pre_any _ _ _ _ (by omega)).mono ?_; rintro e w' ⟨rfl, rfl⟩) | (go_at_call 63; ((with_reducible refine (C1.out _).mono ?_); rintro e w' ⟨rfl, rfl⟩)))
  go_step3
  refine jump_goto ?_
  go_wp2_with fail
  rw [Exit.noGoto_ret]
  go_ret2
  exact ⟨rfl, Below.refl _ _⟩

set_option maxHeartbeats 1000000 in
theorem rnI_neg_q_great (s : ByteArray) (I M v : Nat) (w : World)
    (hs : s.size ≤ 1048576) (hI : I ≤ s.size) (hF : (I + 1) ≤ M) (hM : M ≤ s.size)
    (C0 : Hid (∀ W, Calls Tryz.prog 61 #[.string s, .int .i64 0] W fun e w' => e = .returned (.int .i64 (I : Int)) ∧ W = w'))
    (C1 : Hid (∀ W, Calls Tryz.prog 63 #[.string s, .int .i64 ((I : Int) + 1)] W fun e w' => e = .returned (.int .i64 (M : Int)) ∧ W = w'))
    (n1 : atB s I 45 = true) (n2 : atB s I 43 = false) (n3 : atB s M 46 = false)
    (hf : M ≤ 60) (hem : (s.extract (I + 1) M ++ ByteArray.mk #[]).toList.isEmpty = false)
    (CC : Hid (∀ W, Calls Tryz.prog 64 #[.string (s.extract (I + 1) M), .string (ByteArray.mk #[])] W fun e w' => e = .returned (.int .i64 (v : Int)) ∧ Below W.heap.size W w')) (hv : 1000000000000 < v ∧ v ≤ 2000000000000) :
    Calls Tryz.prog 23 #[.string s] w fun e w' => e = .returned (.tuple #[.int .i64 0, .int .i64 0]) ∧ Below w.heap.size w w' := by
  obtain ⟨hv, hv2⟩ := hv
  have hsl := sl_eq (P := Tryz.prog) Tryz.underlying9 s ((I : Int) + 1) (M : Int) (I + 1) M (by omega) rfl (by omega) (by omega)
  go_enter Tryz.func23, Tryz.ntmps23
  go_wp2_with fail
  refine wp_scope_ahead 0 rfl ?_
  go_wp2_with (first | (go_at_call 61; refine (C0.out _).mono ?_; rintro e w' ⟨rfl, rfl⟩) | (go_at_call 62; refine (pre_any _ _ _ _ (by omega)).mono ?_; rintro e w' ⟨rfl, rfl⟩) | (go_at_call 63; ((with_reducible refine (C1.out _).mono ?_); rintro e w' ⟨rfl, rfl⟩)) | (go_at_call 64; refine (CC.out _).mono ?_; rintro e w1 ⟨rfl, hb⟩))
  go_step3
  refine jump_goto ?_
  go_wp2_with fail
  rw [Exit.noGoto_ret]
  go_ret2
  exact ⟨rfl, hb⟩

set_option maxHeartbeats 1000000 in
theorem rnI_neg_q_yes (s : ByteArray) (I M v : Nat) (w : World)
    (hs : s.size ≤ 1048576) (hI : I ≤ s.size) (hF : (I + 1) ≤ M) (hM : M ≤ s.size)
    (C0 : Hid (∀ W, Calls Tryz.prog 61 #[.string s, .int .i64 0] W fun e w' => e = .returned (.int .i64 (I : Int)) ∧ W = w'))
    (C1 : Hid (∀ W, Calls Tryz.prog 63 #[.string s, .int .i64 ((I : Int) + 1)] W fun e w' => e = .returned (.int .i64 (M : Int)) ∧ W = w'))
    (n1 : atB s I 45 = true) (n2 : atB s I 43 = false) (n3 : atB s M 46 = false)
    (hf : M ≤ 60) (hem : (s.extract (I + 1) M ++ ByteArray.mk #[]).toList.isEmpty = false)
    (CC : Hid (∀ W, Calls Tryz.prog 64 #[.string (s.extract (I + 1) M), .string (ByteArray.mk #[])] W fun e w' => e = .returned (.int .i64 (v : Int)) ∧ Below W.heap.size W w')) (hv : v ≤ 1000000000000) :
    Calls Tryz.prog 23 #[.string s] w fun e w' => e = .returned (.tuple #[.int .i64 (-(v : Int)), .int .i64 (M : Int)]) ∧ Below w.heap.size w w' := by
  have hsl := sl_eq (P := Tryz.prog) Tryz.underlying9 s ((I : Int) + 1) (M : Int) (I + 1) M (by omega) rfl (by omega) (by omega)
  go_enter Tryz.func23, Tryz.ntmps23
  go_wp2_with fail
  refine wp_scope_ahead 0 rfl ?_
  go_wp2_with (first | (go_at_call 61; refine (C0.out _).mono ?_; rintro e w' ⟨rfl, rfl⟩) | (go_at_call 62; refine (pre_any _ _ _ _ (by omega)).mono ?_; rintro e w' ⟨rfl, rfl⟩) | (go_at_call 63; ((with_reducible refine (C1.out _).mono ?_); rintro e w' ⟨rfl, rfl⟩)) | (go_at_call 64; refine (CC.out _).mono ?_; rintro e w1 ⟨rfl, hb⟩))
  rw [jump_ret]
  go_ret2
  exact ⟨rfl, hb⟩

set_option maxHeartbeats 1000000 in
theorem rnI_plus_p_far (s : ByteArray) (I M E : Nat) (w : World)
    (hs : s.size ≤ 1048576) (hI : I ≤ s.size) (hF : (I + 1) ≤ M) (hM : M ≤ s.size)
    (C0 : Hid (∀ W, Calls Tryz.prog 61 #[.string s, .int .i64 0] W fun e w' => e = .returned (.int .i64 (I : Int)) ∧ W = w'))
    (C1 : Hid (∀ W, Calls Tryz.prog 63 #[.string s, .int .i64 ((I : Int) + 1)] W fun e w' => e = .returned (.int .i64 (M : Int)) ∧ W = w'))
    (hE : M + 1 ≤ E) (hE2 : E ≤ s.size) (C2 : Hid (∀ W, Calls Tryz.prog 63 #[.string s, .int .i64 ((M : Int) + 1)] W fun e w' => e = .returned (.int .i64 (E : Int)) ∧ W = w'))
    (n1 : atB s I 45 = false) (n2 : atB s I 43 = true) (n3 : atB s M 46 = true)
    (hf : 60 < E) :
    Calls Tryz.prog 23 #[.string s] w fun e w' => e = .returned (.tuple #[.int .i64 0, .int .i64 0]) ∧ Below w.heap.size w w' := by
  have hsl := sl_eq (P := Tryz.prog) Tryz.underlying9 s ((I : Int) + 1) (M : Int) (I + 1) M (by omega) rfl (by omega) (by omega)
  have hsl2 := sl_eq (P := Tryz.prog) Tryz.underlying9 s ((M : Int) + 1) (E : Int) (M + 1) E (by omega) rfl (by omega) (by omega)
  go_enter Tryz.func23, Tryz.ntmps23
  go_wp2_with fail
  refine wp_scope_ahead 0 rfl ?_
  go_wp2_with (first | (go_at_call 61; refine (C0.out _).mono ?_; rintro e w' ⟨rfl, rfl⟩) | (go_at_call 62; refine (pre_any _ _ _ _ (by omega)).mono ?_; rintro e w' ⟨rfl, rfl⟩) | (go_at_call 63; ((with_reducible refine (C1.out _).mono ?_); rintro e w' ⟨rfl, rfl⟩)) | (go_at_call 63; ((with_reducible refine (C2.out _).mono ?_); rintro e w' ⟨rfl, rfl⟩)))
  go_step3
  refine jump_goto ?_
  go_wp2_with fail
  rw [Exit.noGoto_ret]
  go_ret2
  exact ⟨rfl, Below.refl _ _⟩

set_option maxHeartbeats 1000000 in
theorem rnI_plus_p_empty (s : ByteArray) (I M E : Nat) (w : World)
    (hs : s.size ≤ 1048576) (hI : I ≤ s.size) (hF : (I + 1) ≤ M) (hM : M ≤ s.size)
    (C0 : Hid (∀ W, Calls Tryz.prog 61 #[.string s, .int .i64 0] W fun e w' => e = .returned (.int .i64 (I : Int)) ∧ W = w'))
    (C1 : Hid (∀ W, Calls Tryz.prog 63 #[.string s, .int .i64 ((I : Int) + 1)] W fun e w' => e = .returned (.int .i64 (M : Int)) ∧ W = w'))
    (hE : M + 1 ≤ E) (hE2 : E ≤ s.size) (C2 : Hid (∀ W, Calls Tryz.prog 63 #[.string s, .int .i64 ((M : Int) + 1)] W fun e w' => e = .returned (.int .i64 (E : Int)) ∧ W = w'))
    (n1 : atB s I 45 = false) (n2 : atB s I 43 = true) (n3 : atB s M 46 = true)
    (hf : E ≤ 60) (hem : (s.extract (I + 1) M ++ s.extract (M + 1) E).toList.isEmpty = true) :
    Calls Tryz.prog 23 #[.string s] w fun e w' => e = .returned (.tuple #[.int .i64 0, .int .i64 0]) ∧ Below w.heap.size w w' := by
  have hsl := sl_eq (P := Tryz.prog) Tryz.underlying9 s ((I : Int) + 1) (M : Int) (I + 1) M (by omega) rfl (by omega) (by omega)
  have hsl2 := sl_eq (P := Tryz.prog) Tryz.underlying9 s ((M : Int) + 1) (E : Int) (M + 1) E (by omega) rfl (by omega) (by omega)
  go_enter Tryz.func23, Tryz.ntmps23
  go_wp2_with fail
  refine wp_scope_ahead 0 rfl ?_
  go_wp2_with (first | (go_at_call 61; refine (C0.out _).mono ?_; rintro e w' ⟨rfl, rfl⟩) | (go_at_call 62; refine (pre_any _ _ _ _ (by omega)).mono ?_; rintro e w' ⟨rfl, rfl⟩) | (go_at_call 63; ((with_reducible refine (C1.out _).mono ?_); rintro e w' ⟨rfl, rfl⟩)) | (go_at_call 63; ((with_reducible refine (C2.out _).mono ?_); rintro e w' ⟨rfl, rfl⟩)))
  go_step3
  refine jump_goto ?_
  go_wp2_with fail
  rw [Exit.noGoto_ret]
  go_ret2
  exact ⟨rfl, Below.refl _ _⟩

set_option maxHeartbeats 1000000 in
theorem rnI_plus_p_great (s : ByteArray) (I M E v : Nat) (w : World)
    (hs : s.size ≤ 1048576) (hI : I ≤ s.size) (hF : (I + 1) ≤ M) (hM : M ≤ s.size)
    (C0 : Hid (∀ W, Calls Tryz.prog 61 #[.string s, .int .i64 0] W fun e w' => e = .returned (.int .i64 (I : Int)) ∧ W = w'))
    (C1 : Hid (∀ W, Calls Tryz.prog 63 #[.string s, .int .i64 ((I : Int) + 1)] W fun e w' => e = .returned (.int .i64 (M : Int)) ∧ W = w'))
    (hE : M + 1 ≤ E) (hE2 : E ≤ s.size) (C2 : Hid (∀ W, Calls Tryz.prog 63 #[.string s, .int .i64 ((M : Int) + 1)] W fun e w' => e = .returned (.int .i64 (E : Int)) ∧ W = w'))
    (n1 : atB s I 45 = false) (n2 : atB s I 43 = true) (n3 : atB s M 46 = true)
    (hf : E ≤ 60) (hem : (s.extract (I + 1) M ++ s.extract (M + 1) E).toList.isEmpty = false)
    (CC : Hid (∀ W, Calls Tryz.prog 64 #[.string (s.extract (I + 1) M), .string (s.extract (M + 1) E)] W fun e w' => e = .returned (.int .i64 (v : Int)) ∧ Below W.heap.size W w')) (hv : 1000000000000 < v ∧ v ≤ 2000000000000) :
    Calls Tryz.prog 23 #[.string s] w fun e w' => e = .returned (.tuple #[.int .i64 0, .int .i64 0]) ∧ Below w.heap.size w w' := by
  obtain ⟨hv, hv2⟩ := hv
  have hsl := sl_eq (P := Tryz.prog) Tryz.underlying9 s ((I : Int) + 1) (M : Int) (I + 1) M (by omega) rfl (by omega) (by omega)
  have hsl2 := sl_eq (P := Tryz.prog) Tryz.underlying9 s ((M : Int) + 1) (E : Int) (M + 1) E (by omega) rfl (by omega) (by omega)
  go_enter Tryz.func23, Tryz.ntmps23
  go_wp2_with fail
  refine wp_scope_ahead 0 rfl ?_
  go_wp2_with (first | (go_at_call 61; refine (C0.out _).mono ?_; rintro e w' ⟨rfl, rfl⟩) | (go_at_call 62; refine (pre_any _ _ _ _ (by omega)).mono ?_; rintro e w' ⟨rfl, rfl⟩) | (go_at_call 63; ((with_reducible refine (C1.out _).mono ?_); rintro e w' ⟨rfl, rfl⟩)) | (go_at_call 63; ((with_reducible refine (C2.out _).mono ?_); rintro e w' ⟨rfl, rfl⟩)) | (go_at_call 64; refine (CC.out _).mono ?_; rintro e w1 ⟨rfl, hb⟩))
  go_step3
  refine jump_goto ?_
  go_wp2_with fail
  rw [Exit.noGoto_ret]
  go_ret2
  exact ⟨rfl, hb⟩

set_option maxHeartbeats 1000000 in
theorem rnI_plus_p_yes (s : ByteArray) (I M E v : Nat) (w : World)
    (hs : s.size ≤ 1048576) (hI : I ≤ s.size) (hF : (I + 1) ≤ M) (hM : M ≤ s.size)
    (C0 : Hid (∀ W, Calls Tryz.prog 61 #[.string s, .int .i64 0] W fun e w' => e = .returned (.int .i64 (I : Int)) ∧ W = w'))
    (C1 : Hid (∀ W, Calls Tryz.prog 63 #[.string s, .int .i64 ((I : Int) + 1)] W fun e w' => e = .returned (.int .i64 (M : Int)) ∧ W = w'))
    (hE : M + 1 ≤ E) (hE2 : E ≤ s.size) (C2 : Hid (∀ W, Calls Tryz.prog 63 #[.string s, .int .i64 ((M : Int) + 1)] W fun e w' => e = .returned (.int .i64 (E : Int)) ∧ W = w'))
    (n1 : atB s I 45 = false) (n2 : atB s I 43 = true) (n3 : atB s M 46 = true)
    (hf : E ≤ 60) (hem : (s.extract (I + 1) M ++ s.extract (M + 1) E).toList.isEmpty = false)
    (CC : Hid (∀ W, Calls Tryz.prog 64 #[.string (s.extract (I + 1) M), .string (s.extract (M + 1) E)] W fun e w' => e = .returned (.int .i64 (v : Int)) ∧ Below W.heap.size W w')) (hv : v ≤ 1000000000000) :
    Calls Tryz.prog 23 #[.string s] w fun e w' => e = .returned (.tuple #[.int .i64 (v : Int), .int .i64 (E : Int)]) ∧ Below w.heap.size w w' := by
  have hsl := sl_eq (P := Tryz.prog) Tryz.underlying9 s ((I : Int) + 1) (M : Int) (I + 1) M (by omega) rfl (by omega) (by omega)
  have hsl2 := sl_eq (P := Tryz.prog) Tryz.underlying9 s ((M : Int) + 1) (E : Int) (M + 1) E (by omega) rfl (by omega) (by omega)
  go_enter Tryz.func23, Tryz.ntmps23
  go_wp2_with fail
  refine wp_scope_ahead 0 rfl ?_
  go_wp2_with (first | (go_at_call 61; refine (C0.out _).mono ?_; rintro e w' ⟨rfl, rfl⟩) | (go_at_call 62; refine (pre_any _ _ _ _ (by omega)).mono ?_; rintro e w' ⟨rfl, rfl⟩) | (go_at_call 63; ((with_reducible refine (C1.out _).mono ?_); rintro e w' ⟨rfl, rfl⟩)) | (go_at_call 63; ((with_reducible refine (C2.out _).mono ?_); rintro e w' ⟨rfl, rfl⟩)) | (go_at_call 64; refine (CC.out _).mono ?_; rintro e w1 ⟨rfl, hb⟩))
  rw [jump_ret]
  go_ret2
  exact ⟨rfl, hb⟩

set_option maxHeartbeats 1000000 in
theorem rnI_plus_q_far (s : ByteArray) (I M : Nat) (w : World)
    (hs : s.size ≤ 1048576) (hI : I ≤ s.size) (hF : (I + 1) ≤ M) (hM : M ≤ s.size)
    (C0 : Hid (∀ W, Calls Tryz.prog 61 #[.string s, .int .i64 0] W fun e w' => e = .returned (.int .i64 (I : Int)) ∧ W = w'))
    (C1 : Hid (∀ W, Calls Tryz.prog 63 #[.string s, .int .i64 ((I : Int) + 1)] W fun e w' => e = .returned (.int .i64 (M : Int)) ∧ W = w'))
    (n1 : atB s I 45 = false) (n2 : atB s I 43 = true) (n3 : atB s M 46 = false)
    (hf : 60 < M) :
    Calls Tryz.prog 23 #[.string s] w fun e w' => e = .returned (.tuple #[.int .i64 0, .int .i64 0]) ∧ Below w.heap.size w w' := by
  have hsl := sl_eq (P := Tryz.prog) Tryz.underlying9 s ((I : Int) + 1) (M : Int) (I + 1) M (by omega) rfl (by omega) (by omega)
  go_enter Tryz.func23, Tryz.ntmps23
  go_wp2_with fail
  refine wp_scope_ahead 0 rfl ?_
  go_wp2_with (first | (go_at_call 61; refine (C0.out _).mono ?_; rintro e w' ⟨rfl, rfl⟩) | (go_at_call 62; refine (pre_any _ _ _ _ (by omega)).mono ?_; rintro e w' ⟨rfl, rfl⟩) | (go_at_call 63; ((with_reducible refine (C1.out _).mono ?_); rintro e w' ⟨rfl, rfl⟩)))
  go_step3
  refine jump_goto ?_
  go_wp2_with fail
  rw [Exit.noGoto_ret]
  go_ret2
  exact ⟨rfl, Below.refl _ _⟩

set_option maxHeartbeats 1000000 in
theorem rnI_plus_q_empty (s : ByteArray) (I M : Nat) (w : World)
    (hs : s.size ≤ 1048576) (hI : I ≤ s.size) (hF : (I + 1) ≤ M) (hM : M ≤ s.size)
    (C0 : Hid (∀ W, Calls Tryz.prog 61 #[.string s, .int .i64 0] W fun e w' => e = .returned (.int .i64 (I : Int)) ∧ W = w'))
    (C1 : Hid (∀ W, Calls Tryz.prog 63 #[.string s, .int .i64 ((I : Int) + 1)] W fun e w' => e = .returned (.int .i64 (M : Int)) ∧ W = w'))
    (n1 : atB s I 45 = false) (n2 : atB s I 43 = true) (n3 : atB s M 46 = false)
    (hf : M ≤ 60) (hem : (s.extract (I + 1) M ++ ByteArray.mk #[]).toList.isEmpty = true) :
    Calls Tryz.prog 23 #[.string s] w fun e w' => e = .returned (.tuple #[.int .i64 0, .int .i64 0]) ∧ Below w.heap.size w w' := by
  have hsl := sl_eq (P := Tryz.prog) Tryz.underlying9 s ((I : Int) + 1) (M : Int) (I + 1) M (by omega) rfl (by omega) (by omega)
  go_enter Tryz.func23, Tryz.ntmps23
  go_wp2_with fail
  refine wp_scope_ahead 0 rfl ?_
  go_wp2_with (first | (go_at_call 61; refine (C0.out _).mono ?_; rintro e w' ⟨rfl, rfl⟩) | (go_at_call 62; refine (pre_any _ _ _ _ (by omega)).mono ?_; rintro e w' ⟨rfl, rfl⟩) | (go_at_call 63; ((with_reducible refine (C1.out _).mono ?_); rintro e w' ⟨rfl, rfl⟩)))
  go_step3
  refine jump_goto ?_
  go_wp2_with fail
  rw [Exit.noGoto_ret]
  go_ret2
  exact ⟨rfl, Below.refl _ _⟩

set_option maxHeartbeats 1000000 in
theorem rnI_plus_q_great (s : ByteArray) (I M v : Nat) (w : World)
    (hs : s.size ≤ 1048576) (hI : I ≤ s.size) (hF : (I + 1) ≤ M) (hM : M ≤ s.size)
    (C0 : Hid (∀ W, Calls Tryz.prog 61 #[.string s, .int .i64 0] W fun e w' => e = .returned (.int .i64 (I : Int)) ∧ W = w'))
    (C1 : Hid (∀ W, Calls Tryz.prog 63 #[.string s, .int .i64 ((I : Int) + 1)] W fun e w' => e = .returned (.int .i64 (M : Int)) ∧ W = w'))
    (n1 : atB s I 45 = false) (n2 : atB s I 43 = true) (n3 : atB s M 46 = false)
    (hf : M ≤ 60) (hem : (s.extract (I + 1) M ++ ByteArray.mk #[]).toList.isEmpty = false)
    (CC : Hid (∀ W, Calls Tryz.prog 64 #[.string (s.extract (I + 1) M), .string (ByteArray.mk #[])] W fun e w' => e = .returned (.int .i64 (v : Int)) ∧ Below W.heap.size W w')) (hv : 1000000000000 < v ∧ v ≤ 2000000000000) :
    Calls Tryz.prog 23 #[.string s] w fun e w' => e = .returned (.tuple #[.int .i64 0, .int .i64 0]) ∧ Below w.heap.size w w' := by
  obtain ⟨hv, hv2⟩ := hv
  have hsl := sl_eq (P := Tryz.prog) Tryz.underlying9 s ((I : Int) + 1) (M : Int) (I + 1) M (by omega) rfl (by omega) (by omega)
  go_enter Tryz.func23, Tryz.ntmps23
  go_wp2_with fail
  refine wp_scope_ahead 0 rfl ?_
  go_wp2_with (first | (go_at_call 61; refine (C0.out _).mono ?_; rintro e w' ⟨rfl, rfl⟩) | (go_at_call 62; refine (pre_any _ _ _ _ (by omega)).mono ?_; rintro e w' ⟨rfl, rfl⟩) | (go_at_call 63; ((with_reducible refine (C1.out _).mono ?_); rintro e w' ⟨rfl, rfl⟩)) | (go_at_call 64; refine (CC.out _).mono ?_; rintro e w1 ⟨rfl, hb⟩))
  go_step3
  refine jump_goto ?_
  go_wp2_with fail
  rw [Exit.noGoto_ret]
  go_ret2
  exact ⟨rfl, hb⟩

set_option maxHeartbeats 1000000 in
theorem rnI_plus_q_yes (s : ByteArray) (I M v : Nat) (w : World)
    (hs : s.size ≤ 1048576) (hI : I ≤ s.size) (hF : (I + 1) ≤ M) (hM : M ≤ s.size)
    (C0 : Hid (∀ W, Calls Tryz.prog 61 #[.string s, .int .i64 0] W fun e w' => e = .returned (.int .i64 (I : Int)) ∧ W = w'))
    (C1 : Hid (∀ W, Calls Tryz.prog 63 #[.string s, .int .i64 ((I : Int) + 1)] W fun e w' => e = .returned (.int .i64 (M : Int)) ∧ W = w'))
    (n1 : atB s I 45 = false) (n2 : atB s I 43 = true) (n3 : atB s M 46 = false)
    (hf : M ≤ 60) (hem : (s.extract (I + 1) M ++ ByteArray.mk #[]).toList.isEmpty = false)
    (CC : Hid (∀ W, Calls Tryz.prog 64 #[.string (s.extract (I + 1) M), .string (ByteArray.mk #[])] W fun e w' => e = .returned (.int .i64 (v : Int)) ∧ Below W.heap.size W w')) (hv : v ≤ 1000000000000) :
    Calls Tryz.prog 23 #[.string s] w fun e w' => e = .returned (.tuple #[.int .i64 (v : Int), .int .i64 (M : Int)]) ∧ Below w.heap.size w w' := by
  have hsl := sl_eq (P := Tryz.prog) Tryz.underlying9 s ((I : Int) + 1) (M : Int) (I + 1) M (by omega) rfl (by omega) (by omega)
  go_enter Tryz.func23, Tryz.ntmps23
  go_wp2_with fail
  refine wp_scope_ahead 0 rfl ?_
  go_wp2_with (first | (go_at_call 61; refine (C0.out _).mono ?_; rintro e w' ⟨rfl, rfl⟩) | (go_at_call 62; refine (pre_any _ _ _ _ (by omega)).mono ?_; rintro e w' ⟨rfl, rfl⟩) | (go_at_call 63; ((with_reducible refine (C1.out _).mono ?_); rintro e w' ⟨rfl, rfl⟩)) | (go_at_call 64; refine (CC.out _).mono ?_; rintro e w1 ⟨rfl, hb⟩))
  rw [jump_ret]
  go_ret2
  exact ⟨rfl, hb⟩

set_option maxHeartbeats 1000000 in
theorem rnI_none_p_far (s : ByteArray) (I M E : Nat) (w : World)
    (hs : s.size ≤ 1048576) (hI : I ≤ s.size) (hF : I ≤ M) (hM : M ≤ s.size)
    (C0 : Hid (∀ W, Calls Tryz.prog 61 #[.string s, .int .i64 0] W fun e w' => e = .returned (.int .i64 (I : Int)) ∧ W = w'))
    (C1 : Hid (∀ W, Calls Tryz.prog 63 #[.string s, .int .i64 (I : Int)] W fun e w' => e = .returned (.int .i64 (M : Int)) ∧ W = w'))
    (hE : M + 1 ≤ E) (hE2 : E ≤ s.size) (C2 : Hid (∀ W, Calls Tryz.prog 63 #[.string s, .int .i64 ((M : Int) + 1)] W fun e w' => e = .returned (.int .i64 (E : Int)) ∧ W = w'))
    (n1 : atB s I 45 = false) (n2 : atB s I 43 = false) (n3 : atB s M 46 = true)
    (hf : 60 < E) :
    Calls Tryz.prog 23 #[.string s] w fun e w' => e = .returned (.tuple #[.int .i64 0, .int .i64 0]) ∧ Below w.heap.size w w' := by
  have hsl := sl_eq (P := Tryz.prog) Tryz.underlying9 s (I : Int) (M : Int) I M (by omega) rfl (by omega) (by omega)
  have hsl2 := sl_eq (P := Tryz.prog) Tryz.underlying9 s ((M : Int) + 1) (E : Int) (M + 1) E (by omega) rfl (by omega) (by omega)
  go_enter Tryz.func23, Tryz.ntmps23
  go_wp2_with fail
  refine wp_scope_ahead 0 rfl ?_
  go_wp2_with (first | (go_at_call 61; refine (C0.out _).mono ?_; rintro e w' ⟨rfl, rfl⟩) | (go_at_call 62; refine (pre_any _ _ _ _ (by omega)).mono ?_; rintro e w' ⟨rfl, rfl⟩) | (go_at_call 63; ((with_reducible refine (C1.out _).mono ?_); rintro e w' ⟨rfl, rfl⟩)) | (go_at_call 63; ((with_reducible refine (C2.out _).mono ?_); rintro e w' ⟨rfl, rfl⟩)))
  go_step3
  refine jump_goto ?_
  go_wp2_with fail
  rw [Exit.noGoto_ret]
  go_ret2
  exact ⟨rfl, Below.refl _ _⟩

set_option maxHeartbeats 1000000 in
theorem rnI_none_p_empty (s : ByteArray) (I M E : Nat) (w : World)
    (hs : s.size ≤ 1048576) (hI : I ≤ s.size) (hF : I ≤ M) (hM : M ≤ s.size)
    (C0 : Hid (∀ W, Calls Tryz.prog 61 #[.string s, .int .i64 0] W fun e w' => e = .returned (.int .i64 (I : Int)) ∧ W = w'))
    (C1 : Hid (∀ W, Calls Tryz.prog 63 #[.string s, .int .i64 (I : Int)] W fun e w' => e = .returned (.int .i64 (M : Int)) ∧ W = w'))
    (hE : M + 1 ≤ E) (hE2 : E ≤ s.size) (C2 : Hid (∀ W, Calls Tryz.prog 63 #[.string s, .int .i64 ((M : Int) + 1)] W fun e w' => e = .returned (.int .i64 (E : Int)) ∧ W = w'))
    (n1 : atB s I 45 = false) (n2 : atB s I 43 = false) (n3 : atB s M 46 = true)
    (hf : E ≤ 60) (hem : (s.extract I M ++ s.extract (M + 1) E).toList.isEmpty = true) :
    Calls Tryz.prog 23 #[.string s] w fun e w' => e = .returned (.tuple #[.int .i64 0, .int .i64 0]) ∧ Below w.heap.size w w' := by
  have hsl := sl_eq (P := Tryz.prog) Tryz.underlying9 s (I : Int) (M : Int) I M (by omega) rfl (by omega) (by omega)
  have hsl2 := sl_eq (P := Tryz.prog) Tryz.underlying9 s ((M : Int) + 1) (E : Int) (M + 1) E (by omega) rfl (by omega) (by omega)
  go_enter Tryz.func23, Tryz.ntmps23
  go_wp2_with fail
  refine wp_scope_ahead 0 rfl ?_
  go_wp2_with (first | (go_at_call 61; refine (C0.out _).mono ?_; rintro e w' ⟨rfl, rfl⟩) | (go_at_call 62; refine (pre_any _ _ _ _ (by omega)).mono ?_; rintro e w' ⟨rfl, rfl⟩) | (go_at_call 63; ((with_reducible refine (C1.out _).mono ?_); rintro e w' ⟨rfl, rfl⟩)) | (go_at_call 63; ((with_reducible refine (C2.out _).mono ?_); rintro e w' ⟨rfl, rfl⟩)))
  go_step3
  refine jump_goto ?_
  go_wp2_with fail
  rw [Exit.noGoto_ret]
  go_ret2
  exact ⟨rfl, Below.refl _ _⟩

set_option maxHeartbeats 1000000 in
theorem rnI_none_p_great (s : ByteArray) (I M E v : Nat) (w : World)
    (hs : s.size ≤ 1048576) (hI : I ≤ s.size) (hF : I ≤ M) (hM : M ≤ s.size)
    (C0 : Hid (∀ W, Calls Tryz.prog 61 #[.string s, .int .i64 0] W fun e w' => e = .returned (.int .i64 (I : Int)) ∧ W = w'))
    (C1 : Hid (∀ W, Calls Tryz.prog 63 #[.string s, .int .i64 (I : Int)] W fun e w' => e = .returned (.int .i64 (M : Int)) ∧ W = w'))
    (hE : M + 1 ≤ E) (hE2 : E ≤ s.size) (C2 : Hid (∀ W, Calls Tryz.prog 63 #[.string s, .int .i64 ((M : Int) + 1)] W fun e w' => e = .returned (.int .i64 (E : Int)) ∧ W = w'))
    (n1 : atB s I 45 = false) (n2 : atB s I 43 = false) (n3 : atB s M 46 = true)
    (hf : E ≤ 60) (hem : (s.extract I M ++ s.extract (M + 1) E).toList.isEmpty = false)
    (CC : Hid (∀ W, Calls Tryz.prog 64 #[.string (s.extract I M), .string (s.extract (M + 1) E)] W fun e w' => e = .returned (.int .i64 (v : Int)) ∧ Below W.heap.size W w')) (hv : 1000000000000 < v ∧ v ≤ 2000000000000) :
    Calls Tryz.prog 23 #[.string s] w fun e w' => e = .returned (.tuple #[.int .i64 0, .int .i64 0]) ∧ Below w.heap.size w w' := by
  obtain ⟨hv, hv2⟩ := hv
  have hsl := sl_eq (P := Tryz.prog) Tryz.underlying9 s (I : Int) (M : Int) I M (by omega) rfl (by omega) (by omega)
  have hsl2 := sl_eq (P := Tryz.prog) Tryz.underlying9 s ((M : Int) + 1) (E : Int) (M + 1) E (by omega) rfl (by omega) (by omega)
  go_enter Tryz.func23, Tryz.ntmps23
  go_wp2_with fail
  refine wp_scope_ahead 0 rfl ?_
  go_wp2_with (first | (go_at_call 61; refine (C0.out _).mono ?_; rintro e w' ⟨rfl, rfl⟩) | (go_at_call 62; refine (pre_any _ _ _ _ (by omega)).mono ?_; rintro e w' ⟨rfl, rfl⟩) | (go_at_call 63; ((with_reducible refine (C1.out _).mono ?_); rintro e w' ⟨rfl, rfl⟩)) | (go_at_call 63; ((with_reducible refine (C2.out _).mono ?_); rintro e w' ⟨rfl, rfl⟩)) | (go_at_call 64; refine (CC.out _).mono ?_; rintro e w1 ⟨rfl, hb⟩))
  go_step3
  refine jump_goto ?_
  go_wp2_with fail
  rw [Exit.noGoto_ret]
  go_ret2
  exact ⟨rfl, hb⟩

set_option maxHeartbeats 1000000 in
theorem rnI_none_p_yes (s : ByteArray) (I M E v : Nat) (w : World)
    (hs : s.size ≤ 1048576) (hI : I ≤ s.size) (hF : I ≤ M) (hM : M ≤ s.size)
    (C0 : Hid (∀ W, Calls Tryz.prog 61 #[.string s, .int .i64 0] W fun e w' => e = .returned (.int .i64 (I : Int)) ∧ W = w'))
    (C1 : Hid (∀ W, Calls Tryz.prog 63 #[.string s, .int .i64 (I : Int)] W fun e w' => e = .returned (.int .i64 (M : Int)) ∧ W = w'))
    (hE : M + 1 ≤ E) (hE2 : E ≤ s.size) (C2 : Hid (∀ W, Calls Tryz.prog 63 #[.string s, .int .i64 ((M : Int) + 1)] W fun e w' => e = .returned (.int .i64 (E : Int)) ∧ W = w'))
    (n1 : atB s I 45 = false) (n2 : atB s I 43 = false) (n3 : atB s M 46 = true)
    (hf : E ≤ 60) (hem : (s.extract I M ++ s.extract (M + 1) E).toList.isEmpty = false)
    (CC : Hid (∀ W, Calls Tryz.prog 64 #[.string (s.extract I M), .string (s.extract (M + 1) E)] W fun e w' => e = .returned (.int .i64 (v : Int)) ∧ Below W.heap.size W w')) (hv : v ≤ 1000000000000) :
    Calls Tryz.prog 23 #[.string s] w fun e w' => e = .returned (.tuple #[.int .i64 (v : Int), .int .i64 (E : Int)]) ∧ Below w.heap.size w w' := by
  have hsl := sl_eq (P := Tryz.prog) Tryz.underlying9 s (I : Int) (M : Int) I M (by omega) rfl (by omega) (by omega)
  have hsl2 := sl_eq (P := Tryz.prog) Tryz.underlying9 s ((M : Int) + 1) (E : Int) (M + 1) E (by omega) rfl (by omega) (by omega)
  go_enter Tryz.func23, Tryz.ntmps23
  go_wp2_with fail
  refine wp_scope_ahead 0 rfl ?_
  go_wp2_with (first | (go_at_call 61; refine (C0.out _).mono ?_; rintro e w' ⟨rfl, rfl⟩) | (go_at_call 62; refine (pre_any _ _ _ _ (by omega)).mono ?_; rintro e w' ⟨rfl, rfl⟩) | (go_at_call 63; ((with_reducible refine (C1.out _).mono ?_); rintro e w' ⟨rfl, rfl⟩)) | (go_at_call 63; ((with_reducible refine (C2.out _).mono ?_); rintro e w' ⟨rfl, rfl⟩)) | (go_at_call 64; refine (CC.out _).mono ?_; rintro e w1 ⟨rfl, hb⟩))
  rw [jump_ret]
  go_ret2
  exact ⟨rfl, hb⟩

set_option maxHeartbeats 1000000 in
theorem rnI_none_q_far (s : ByteArray) (I M : Nat) (w : World)
    (hs : s.size ≤ 1048576) (hI : I ≤ s.size) (hF : I ≤ M) (hM : M ≤ s.size)
    (C0 : Hid (∀ W, Calls Tryz.prog 61 #[.string s, .int .i64 0] W fun e w' => e = .returned (.int .i64 (I : Int)) ∧ W = w'))
    (C1 : Hid (∀ W, Calls Tryz.prog 63 #[.string s, .int .i64 (I : Int)] W fun e w' => e = .returned (.int .i64 (M : Int)) ∧ W = w'))
    (n1 : atB s I 45 = false) (n2 : atB s I 43 = false) (n3 : atB s M 46 = false)
    (hf : 60 < M) :
    Calls Tryz.prog 23 #[.string s] w fun e w' => e = .returned (.tuple #[.int .i64 0, .int .i64 0]) ∧ Below w.heap.size w w' := by
  have hsl := sl_eq (P := Tryz.prog) Tryz.underlying9 s (I : Int) (M : Int) I M (by omega) rfl (by omega) (by omega)
  go_enter Tryz.func23, Tryz.ntmps23
  go_wp2_with fail
  refine wp_scope_ahead 0 rfl ?_
  go_wp2_with (first | (go_at_call 61; refine (C0.out _).mono ?_; rintro e w' ⟨rfl, rfl⟩) | (go_at_call 62; refine (pre_any _ _ _ _ (by omega)).mono ?_; rintro e w' ⟨rfl, rfl⟩) | (go_at_call 63; ((with_reducible refine (C1.out _).mono ?_); rintro e w' ⟨rfl, rfl⟩)))
  go_step3
  refine jump_goto ?_
  go_wp2_with fail
  rw [Exit.noGoto_ret]
  go_ret2
  exact ⟨rfl, Below.refl _ _⟩

set_option maxHeartbeats 1000000 in
theorem rnI_none_q_empty (s : ByteArray) (I M : Nat) (w : World)
    (hs : s.size ≤ 1048576) (hI : I ≤ s.size) (hF : I ≤ M) (hM : M ≤ s.size)
    (C0 : Hid (∀ W, Calls Tryz.prog 61 #[.string s, .int .i64 0] W fun e w' => e = .returned (.int .i64 (I : Int)) ∧ W = w'))
    (C1 : Hid (∀ W, Calls Tryz.prog 63 #[.string s, .int .i64 (I : Int)] W fun e w' => e = .returned (.int .i64 (M : Int)) ∧ W = w'))
    (n1 : atB s I 45 = false) (n2 : atB s I 43 = false) (n3 : atB s M 46 = false)
    (hf : M ≤ 60) (hem : (s.extract I M ++ ByteArray.mk #[]).toList.isEmpty = true) :
    Calls Tryz.prog 23 #[.string s] w fun e w' => e = .returned (.tuple #[.int .i64 0, .int .i64 0]) ∧ Below w.heap.size w w' := by
  have hsl := sl_eq (P := Tryz.prog) Tryz.underlying9 s (I : Int) (M : Int) I M (by omega) rfl (by omega) (by omega)
  go_enter Tryz.func23, Tryz.ntmps23
  go_wp2_with fail
  refine wp_scope_ahead 0 rfl ?_
  go_wp2_with (first | (go_at_call 61; refine (C0.out _).mono ?_; rintro e w' ⟨rfl, rfl⟩) | (go_at_call 62; refine (pre_any _ _ _ _ (by omega)).mono ?_; rintro e w' ⟨rfl, rfl⟩) | (go_at_call 63; ((with_reducible refine (C1.out _).mono ?_); rintro e w' ⟨rfl, rfl⟩)))
  go_step3
  refine jump_goto ?_
  go_wp2_with fail
  rw [Exit.noGoto_ret]
  go_ret2
  exact ⟨rfl, Below.refl _ _⟩

set_option maxHeartbeats 1000000 in
theorem rnI_none_q_great (s : ByteArray) (I M v : Nat) (w : World)
    (hs : s.size ≤ 1048576) (hI : I ≤ s.size) (hF : I ≤ M) (hM : M ≤ s.size)
    (C0 : Hid (∀ W, Calls Tryz.prog 61 #[.string s, .int .i64 0] W fun e w' => e = .returned (.int .i64 (I : Int)) ∧ W = w'))
    (C1 : Hid (∀ W, Calls Tryz.prog 63 #[.string s, .int .i64 (I : Int)] W fun e w' => e = .returned (.int .i64 (M : Int)) ∧ W = w'))
    (n1 : atB s I 45 = false) (n2 : atB s I 43 = false) (n3 : atB s M 46 = false)
    (hf : M ≤ 60) (hem : (s.extract I M ++ ByteArray.mk #[]).toList.isEmpty = false)
    (CC : Hid (∀ W, Calls Tryz.prog 64 #[.string (s.extract I M), .string (ByteArray.mk #[])] W fun e w' => e = .returned (.int .i64 (v : Int)) ∧ Below W.heap.size W w')) (hv : 1000000000000 < v ∧ v ≤ 2000000000000) :
    Calls Tryz.prog 23 #[.string s] w fun e w' => e = .returned (.tuple #[.int .i64 0, .int .i64 0]) ∧ Below w.heap.size w w' := by
  obtain ⟨hv, hv2⟩ := hv
  have hsl := sl_eq (P := Tryz.prog) Tryz.underlying9 s (I : Int) (M : Int) I M (by omega) rfl (by omega) (by omega)
  go_enter Tryz.func23, Tryz.ntmps23
  go_wp2_with fail
  refine wp_scope_ahead 0 rfl ?_
  go_wp2_with (first | (go_at_call 61; refine (C0.out _).mono ?_; rintro e w' ⟨rfl, rfl⟩) | (go_at_call 62; refine (pre_any _ _ _ _ (by omega)).mono ?_; rintro e w' ⟨rfl, rfl⟩) | (go_at_call 63; ((with_reducible refine (C1.out _).mono ?_); rintro e w' ⟨rfl, rfl⟩)) | (go_at_call 64; refine (CC.out _).mono ?_; rintro e w1 ⟨rfl, hb⟩))
  go_step3
  refine jump_goto ?_
  go_wp2_with fail
  rw [Exit.noGoto_ret]
  go_ret2
  exact ⟨rfl, hb⟩

set_option maxHeartbeats 1000000 in
theorem rnI_none_q_yes (s : ByteArray) (I M v : Nat) (w : World)
    (hs : s.size ≤ 1048576) (hI : I ≤ s.size) (hF : I ≤ M) (hM : M ≤ s.size)
    (C0 : Hid (∀ W, Calls Tryz.prog 61 #[.string s, .int .i64 0] W fun e w' => e = .returned (.int .i64 (I : Int)) ∧ W = w'))
    (C1 : Hid (∀ W, Calls Tryz.prog 63 #[.string s, .int .i64 (I : Int)] W fun e w' => e = .returned (.int .i64 (M : Int)) ∧ W = w'))
    (n1 : atB s I 45 = false) (n2 : atB s I 43 = false) (n3 : atB s M 46 = false)
    (hf : M ≤ 60) (hem : (s.extract I M ++ ByteArray.mk #[]).toList.isEmpty = false)
    (CC : Hid (∀ W, Calls Tryz.prog 64 #[.string (s.extract I M), .string (ByteArray.mk #[])] W fun e w' => e = .returned (.int .i64 (v : Int)) ∧ Below W.heap.size W w')) (hv : v ≤ 1000000000000) :
    Calls Tryz.prog 23 #[.string s] w fun e w' => e = .returned (.tuple #[.int .i64 (v : Int), .int .i64 (M : Int)]) ∧ Below w.heap.size w w' := by
  have hsl := sl_eq (P := Tryz.prog) Tryz.underlying9 s (I : Int) (M : Int) I M (by omega) rfl (by omega) (by omega)
  go_enter Tryz.func23, Tryz.ntmps23
  go_wp2_with fail
  refine wp_scope_ahead 0 rfl ?_
  go_wp2_with (first | (go_at_call 61; refine (C0.out _).mono ?_; rintro e w' ⟨rfl, rfl⟩) | (go_at_call 62; refine (pre_any _ _ _ _ (by omega)).mono ?_; rintro e w' ⟨rfl, rfl⟩) | (go_at_call 63; ((with_reducible refine (C1.out _).mono ?_); rintro e w' ⟨rfl, rfl⟩)) | (go_at_call 64; refine (CC.out _).mono ?_; rintro e w1 ⟨rfl, hb⟩))
  rw [jump_ret]
  go_ret2
  exact ⟨rfl, hb⟩

end Go.Proofs.YthffjcclcladoaaGreatDoor.kit
/-
  spec.ReadNum over this seat's translation, case by case (part 0). Conditions: each theorem names its own.
-/
namespace Go.Proofs.YthffjcclcladoaaGreatDoor.kit
open Go.ChangeShapes Go.WideShapes Go.ChangeAt Go.RowKit
set_option linter.unusedVariables false
set_option maxRecDepth 1000000

set_option maxHeartbeats 2000000 in
theorem rnS_neg_p_far (s : ByteArray) (I M E : Nat) (x : Int) (ok : Bool) (w : World)
    (hs : s.size ≤ 1048576) (hF : (I + 1) ≤ M) (hM : M ≤ s.size)
    (HB : Hid (∀ (j : Nat) (h : j < s.size), j < I → blnB (s[j].toNat : Int) = true))
    (hI : I < s.size) (hnb : blnB (s[I].toNat : Int) = false) (c45 : ((s[I].toNat : Int) == 45) = true)
    (hM2 : M < s.size) (c46 : ((s[M].toNat : Int) == 46) = true)
    (C1 : Hid (∀ W, Calls Tryz.prog 152 #[.string s, .int .i64 ((I : Int) + 1)] W fun e w' => e = .returned (.int .i64 (M : Int)) ∧ W = w'))
    (hE : M + 1 ≤ E) (hE2 : E ≤ s.size) (C2 : Hid (∀ W, Calls Tryz.prog 152 #[.string s, .int .i64 ((M : Int) + 1)] W fun e w' => e = .returned (.int .i64 (E : Int)) ∧ W = w'))
    (CC : Hid (∀ W, Calls Tryz.prog 153 #[.string (s.extract (I + 1) M), .string (s.extract (M + 1) E)] W fun e w' => e = .returned (.tuple #[.int .i64 x, .bool ok]) ∧ W = w'))
    (hf : 60 < E)
    (hne : (I + 1) < M ∨ M + 1 < E) :
    Calls Tryz.prog 121 #[.string s] w fun e w' => e = .returned (.tuple #[.int .i64 0, .int .i64 0]) ∧ w = w' := by
  have hsl := sl_eq (P := Tryz.prog) Tryz.underlying9 s ((I : Int) + 1) (M : Int) (I + 1) M (by omega) rfl (by omega) (by omega)
  have hsl2 := sl_eq (P := Tryz.prog) Tryz.underlying9 s ((M : Int) + 1) (E : Int) (M + 1) E (by omega) rfl (by omega) (by omega)
  have hsz : (s.extract (M + 1) E).size = E - (M + 1) := by rw [ByteArray.size_extract]; omega
  have hz : ((M : Int) - ((I : Int) + 1) + ((E - (M + 1) : Nat) : Int) == 0) = false := by simp; omega
  have hb : s[I].toNat < 256 := s[I].toNat_lt
  clear hne
  go_enter Tryz.func121, Tryz.ntmps121
  go_wp2_with fail
  go_loop [4] (fun i => ∃ k : Nat, k ≤ I ∧ i = .int .i64 k) (fun i => I - (intOf i).toNat)
  case atStart => exact ⟨0, by omega, rfl⟩
  case round =>
    obtain ⟨k, hk, rfl⟩ := hrel
    by_cases hlt : k < I
    · have a1 := HB.out k (by omega) hlt
      have hb2 : s[k].toNat < 256 := s[k].toNat_lt
      go_wp2_with (go_at_call 151; refine (space_any _ _).mono ?_; rintro e w' ⟨rfl, rfl⟩)
      go_round
      case rel => exact ⟨k + 1, by omega, by go_num⟩
      case measure => simp [intOf]; omega
    · obtain rfl : k = I := by omega
      go_wp2_with (first | (go_at_call 151; refine (space_any _ _).mono ?_; rintro e w' ⟨rfl, rfl⟩) | (go_at_call 152; ((with_reducible refine (C1.out _).mono ?_); rintro e w' ⟨rfl, rfl⟩)) | (go_at_call 152; ((with_reducible refine (C2.out _).mono ?_); rintro e w' ⟨rfl, rfl⟩)) | (go_at_call 153; refine (CC.out _).mono ?_; rintro e w' ⟨rfl, rfl⟩))
      go_ret2
      exact ⟨rfl, rfl⟩
set_option maxHeartbeats 2000000 in
theorem rnS_neg_p_empty (s : ByteArray) (I M E : Nat) (x : Int) (ok : Bool) (w : World)
    (hs : s.size ≤ 1048576) (hF : (I + 1) ≤ M) (hM : M ≤ s.size)
    (HB : Hid (∀ (j : Nat) (h : j < s.size), j < I → blnB (s[j].toNat : Int) = true))
    (hI : I < s.size) (hnb : blnB (s[I].toNat : Int) = false) (c45 : ((s[I].toNat : Int) == 45) = true)
    (hM2 : M < s.size) (c46 : ((s[M].toNat : Int) == 46) = true)
    (C1 : Hid (∀ W, Calls Tryz.prog 152 #[.string s, .int .i64 ((I : Int) + 1)] W fun e w' => e = .returned (.int .i64 (M : Int)) ∧ W = w'))
    (hE : M + 1 ≤ E) (hE2 : E ≤ s.size) (C2 : Hid (∀ W, Calls Tryz.prog 152 #[.string s, .int .i64 ((M : Int) + 1)] W fun e w' => e = .returned (.int .i64 (E : Int)) ∧ W = w'))
    (CC : Hid (∀ W, Calls Tryz.prog 153 #[.string (s.extract (I + 1) M), .string (s.extract (M + 1) E)] W fun e w' => e = .returned (.tuple #[.int .i64 x, .bool ok]) ∧ W = w'))
    (hne : (I + 1) = M ∧ M + 1 = E) :
    Calls Tryz.prog 121 #[.string s] w fun e w' => e = .returned (.tuple #[.int .i64 0, .int .i64 0]) ∧ w = w' := by
  have hsl := sl_eq (P := Tryz.prog) Tryz.underlying9 s ((I : Int) + 1) (M : Int) (I + 1) M (by omega) rfl (by omega) (by omega)
  have hsl2 := sl_eq (P := Tryz.prog) Tryz.underlying9 s ((M : Int) + 1) (E : Int) (M + 1) E (by omega) rfl (by omega) (by omega)
  have hsz : (s.extract (M + 1) E).size = E - (M + 1) := by rw [ByteArray.size_extract]; omega
  have hz : ((M : Int) - ((I : Int) + 1) + ((E - (M + 1) : Nat) : Int) == 0) = true := by simp; omega
  have hb : s[I].toNat < 256 := s[I].toNat_lt
  clear hne
  go_enter Tryz.func121, Tryz.ntmps121
  go_wp2_with fail
  go_loop [4] (fun i => ∃ k : Nat, k ≤ I ∧ i = .int .i64 k) (fun i => I - (intOf i).toNat)
  case atStart => exact ⟨0, by omega, rfl⟩
  case round =>
    obtain ⟨k, hk, rfl⟩ := hrel
    by_cases hlt : k < I
    · have a1 := HB.out k (by omega) hlt
      have hb2 : s[k].toNat < 256 := s[k].toNat_lt
      go_wp2_with (go_at_call 151; refine (space_any _ _).mono ?_; rintro e w' ⟨rfl, rfl⟩)
      go_round
      case rel => exact ⟨k + 1, by omega, by go_num⟩
      case measure => simp [intOf]; omega
    · obtain rfl : k = I := by omega
      go_wp2_with (first | (go_at_call 151; refine (space_any _ _).mono ?_; rintro e w' ⟨rfl, rfl⟩) | (go_at_call 152; ((with_reducible refine (C1.out _).mono ?_); rintro e w' ⟨rfl, rfl⟩)) | (go_at_call 152; ((with_reducible refine (C2.out _).mono ?_); rintro e w' ⟨rfl, rfl⟩)) | (go_at_call 153; refine (CC.out _).mono ?_; rintro e w' ⟨rfl, rfl⟩))
      go_ret2
      exact ⟨rfl, rfl⟩
set_option maxHeartbeats 2000000 in
theorem rnS_neg_p_great (s : ByteArray) (I M E : Nat) (w : World)
    (hs : s.size ≤ 1048576) (hF : (I + 1) ≤ M) (hM : M ≤ s.size)
    (HB : Hid (∀ (j : Nat) (h : j < s.size), j < I → blnB (s[j].toNat : Int) = true))
    (hI : I < s.size) (hnb : blnB (s[I].toNat : Int) = false) (c45 : ((s[I].toNat : Int) == 45) = true)
    (hM2 : M < s.size) (c46 : ((s[M].toNat : Int) == 46) = true)
    (C1 : Hid (∀ W, Calls Tryz.prog 152 #[.string s, .int .i64 ((I : Int) + 1)] W fun e w' => e = .returned (.int .i64 (M : Int)) ∧ W = w'))
    (hE : M + 1 ≤ E) (hE2 : E ≤ s.size) (C2 : Hid (∀ W, Calls Tryz.prog 152 #[.string s, .int .i64 ((M : Int) + 1)] W fun e w' => e = .returned (.int .i64 (E : Int)) ∧ W = w'))
    (CC : Hid (∀ W, Calls Tryz.prog 153 #[.string (s.extract (I + 1) M), .string (s.extract (M + 1) E)] W fun e w' => e = .returned (.tuple #[.int .i64 0, .bool false]) ∧ W = w'))
    (hf : E ≤ 60)
    (hne : (I + 1) < M ∨ M + 1 < E) :
    Calls Tryz.prog 121 #[.string s] w fun e w' => e = .returned (.tuple #[.int .i64 0, .int .i64 0]) ∧ w = w' := by
  have hsl := sl_eq (P := Tryz.prog) Tryz.underlying9 s ((I : Int) + 1) (M : Int) (I + 1) M (by omega) rfl (by omega) (by omega)
  have hsl2 := sl_eq (P := Tryz.prog) Tryz.underlying9 s ((M : Int) + 1) (E : Int) (M + 1) E (by omega) rfl (by omega) (by omega)
  have hsz : (s.extract (M + 1) E).size = E - (M + 1) := by rw [ByteArray.size_extract]; omega
  have hz : ((M : Int) - ((I : Int) + 1) + ((E - (M + 1) : Nat) : Int) == 0) = false := by simp; omega
  have hb : s[I].toNat < 256 := s[I].toNat_lt
  clear hne
  go_enter Tryz.func121, Tryz.ntmps121
  go_wp2_with fail
  go_loop [4] (fun i => ∃ k : Nat, k ≤ I ∧ i = .int .i64 k) (fun i => I - (intOf i).toNat)
  case atStart => exact ⟨0, by omega, rfl⟩
  case round =>
    obtain ⟨k, hk, rfl⟩ := hrel
    by_cases hlt : k < I
    · have a1 := HB.out k (by omega) hlt
      have hb2 : s[k].toNat < 256 := s[k].toNat_lt
      go_wp2_with (go_at_call 151; refine (space_any _ _).mono ?_; rintro e w' ⟨rfl, rfl⟩)
      go_round
      case rel => exact ⟨k + 1, by omega, by go_num⟩
      case measure => simp [intOf]; omega
    · obtain rfl : k = I := by omega
      go_wp2_with (first | (go_at_call 151; refine (space_any _ _).mono ?_; rintro e w' ⟨rfl, rfl⟩) | (go_at_call 152; ((with_reducible refine (C1.out _).mono ?_); rintro e w' ⟨rfl, rfl⟩)) | (go_at_call 152; ((with_reducible refine (C2.out _).mono ?_); rintro e w' ⟨rfl, rfl⟩)) | (go_at_call 153; refine (CC.out _).mono ?_; rintro e w' ⟨rfl, rfl⟩))
      go_ret2
      exact ⟨rfl, rfl⟩
set_option maxHeartbeats 2000000 in
theorem rnS_neg_p_yes (s : ByteArray) (I M E : Nat) (v : Nat) (w : World)
    (hs : s.size ≤ 1048576) (hF : (I + 1) ≤ M) (hM : M ≤ s.size)
    (HB : Hid (∀ (j : Nat) (h : j < s.size), j < I → blnB (s[j].toNat : Int) = true))
    (hI : I < s.size) (hnb : blnB (s[I].toNat : Int) = false) (c45 : ((s[I].toNat : Int) == 45) = true)
    (hM2 : M < s.size) (c46 : ((s[M].toNat : Int) == 46) = true)
    (C1 : Hid (∀ W, Calls Tryz.prog 152 #[.string s, .int .i64 ((I : Int) + 1)] W fun e w' => e = .returned (.int .i64 (M : Int)) ∧ W = w'))
    (hE : M + 1 ≤ E) (hE2 : E ≤ s.size) (C2 : Hid (∀ W, Calls Tryz.prog 152 #[.string s, .int .i64 ((M : Int) + 1)] W fun e w' => e = .returned (.int .i64 (E : Int)) ∧ W = w'))
    (CC : Hid (∀ W, Calls Tryz.prog 153 #[.string (s.extract (I + 1) M), .string (s.extract (M + 1) E)] W fun e w' => e = .returned (.tuple #[.int .i64 (v : Int), .bool true]) ∧ W = w'))
    (hv : v ≤ 1000000000000)
    (hf : E ≤ 60)
    (hne : (I + 1) < M ∨ M + 1 < E) :
    Calls Tryz.prog 121 #[.string s] w fun e w' => e = .returned (.tuple #[.int .i64 (-(v : Int)), .int .i64 (E : Int)]) ∧ w = w' := by
  have hsl := sl_eq (P := Tryz.prog) Tryz.underlying9 s ((I : Int) + 1) (M : Int) (I + 1) M (by omega) rfl (by omega) (by omega)
  have hsl2 := sl_eq (P := Tryz.prog) Tryz.underlying9 s ((M : Int) + 1) (E : Int) (M + 1) E (by omega) rfl (by omega) (by omega)
  have hsz : (s.extract (M + 1) E).size = E - (M + 1) := by rw [ByteArray.size_extract]; omega
  have hz : ((M : Int) - ((I : Int) + 1) + ((E - (M + 1) : Nat) : Int) == 0) = false := by simp; omega
  have hb : s[I].toNat < 256 := s[I].toNat_lt
  clear hne
  go_enter Tryz.func121, Tryz.ntmps121
  go_wp2_with fail
  go_loop [4] (fun i => ∃ k : Nat, k ≤ I ∧ i = .int .i64 k) (fun i => I - (intOf i).toNat)
  case atStart => exact ⟨0, by omega, rfl⟩
  case round =>
    obtain ⟨k, hk, rfl⟩ := hrel
    by_cases hlt : k < I
    · have a1 := HB.out k (by omega) hlt
      have hb2 : s[k].toNat < 256 := s[k].toNat_lt
      go_wp2_with (go_at_call 151; refine (space_any _ _).mono ?_; rintro e w' ⟨rfl, rfl⟩)
      go_round
      case rel => exact ⟨k + 1, by omega, by go_num⟩
      case measure => simp [intOf]; omega
    · obtain rfl : k = I := by omega
      go_wp2_with (first | (go_at_call 151; refine (space_any _ _).mono ?_; rintro e w' ⟨rfl, rfl⟩) | (go_at_call 152; ((with_reducible refine (C1.out _).mono ?_); rintro e w' ⟨rfl, rfl⟩)) | (go_at_call 152; ((with_reducible refine (C2.out _).mono ?_); rintro e w' ⟨rfl, rfl⟩)) | (go_at_call 153; refine (CC.out _).mono ?_; rintro e w' ⟨rfl, rfl⟩))
      go_ret2
      exact ⟨rfl, rfl⟩
set_option maxHeartbeats 2000000 in
theorem rnS_neg_qin_far (s : ByteArray) (I M : Nat) (x : Int) (ok : Bool) (w : World)
    (hs : s.size ≤ 1048576) (hF : (I + 1) ≤ M) (hM : M ≤ s.size)
    (HB : Hid (∀ (j : Nat) (h : j < s.size), j < I → blnB (s[j].toNat : Int) = true))
    (hI : I < s.size) (hnb : blnB (s[I].toNat : Int) = false) (c45 : ((s[I].toNat : Int) == 45) = true)
    (hM2 : M < s.size) (c46 : ((s[M].toNat : Int) == 46) = false)
    (C1 : Hid (∀ W, Calls Tryz.prog 152 #[.string s, .int .i64 ((I : Int) + 1)] W fun e w' => e = .returned (.int .i64 (M : Int)) ∧ W = w'))
    (CC : Hid (∀ W, Calls Tryz.prog 153 #[.string (s.extract (I + 1) M), .string (ByteArray.mk #[])] W fun e w' => e = .returned (.tuple #[.int .i64 x, .bool ok]) ∧ W = w'))
    (hf : 60 < M)
    (hne : (I + 1) < M) :
    Calls Tryz.prog 121 #[.string s] w fun e w' => e = .returned (.tuple #[.int .i64 0, .int .i64 0]) ∧ w = w' := by
  have hsl := sl_eq (P := Tryz.prog) Tryz.underlying9 s ((I : Int) + 1) (M : Int) (I + 1) M (by omega) rfl (by omega) (by omega)
  have hz : ((M : Int) - ((I : Int) + 1) == 0) = false := by simp; omega
  have hb : s[I].toNat < 256 := s[I].toNat_lt
  clear hne
  go_enter Tryz.func121, Tryz.ntmps121
  go_wp2_with fail
  go_loop [4] (fun i => ∃ k : Nat, k ≤ I ∧ i = .int .i64 k) (fun i => I - (intOf i).toNat)
  case atStart => exact ⟨0, by omega, rfl⟩
  case round =>
    obtain ⟨k, hk, rfl⟩ := hrel
    by_cases hlt : k < I
    · have a1 := HB.out k (by omega) hlt
      have hb2 : s[k].toNat < 256 := s[k].toNat_lt
      go_wp2_with (go_at_call 151; refine (space_any _ _).mono ?_; rintro e w' ⟨rfl, rfl⟩)
      go_round
      case rel => exact ⟨k + 1, by omega, by go_num⟩
      case measure => simp [intOf]; omega
    · obtain rfl : k = I := by omega
      go_wp2_with (first | (go_at_call 151; refine (space_any _ _).mono ?_; rintro e w' ⟨rfl, rfl⟩) | (go_at_call 152; ((with_reducible refine (C1.out _).mono ?_); rintro e w' ⟨rfl, rfl⟩)) | (go_at_call 153; refine (CC.out _).mono ?_; rintro e w' ⟨rfl, rfl⟩))
      go_ret2
      exact ⟨rfl, rfl⟩
set_option maxHeartbeats 2000000 in
theorem rnS_neg_qin_empty (s : ByteArray) (I M : Nat) (x : Int) (ok : Bool) (w : World)
    (hs : s.size ≤ 1048576) (hF : (I + 1) ≤ M) (hM : M ≤ s.size)
    (HB : Hid (∀ (j : Nat) (h : j < s.size), j < I → blnB (s[j].toNat : Int) = true))
    (hI : I < s.size) (hnb : blnB (s[I].toNat : Int) = false) (c45 : ((s[I].toNat : Int) == 45) = true)
    (hM2 : M < s.size) (c46 : ((s[M].toNat : Int) == 46) = false)
    (C1 : Hid (∀ W, Calls Tryz.prog 152 #[.string s, .int .i64 ((I : Int) + 1)] W fun e w' => e = .returned (.int .i64 (M : Int)) ∧ W = w'))
    (CC : Hid (∀ W, Calls Tryz.prog 153 #[.string (s.extract (I + 1) M), .string (ByteArray.mk #[])] W fun e w' => e = .returned (.tuple #[.int .i64 x, .bool ok]) ∧ W = w'))
    (hne : (I + 1) = M) :
    Calls Tryz.prog 121 #[.string s] w fun e w' => e = .returned (.tuple #[.int .i64 0, .int .i64 0]) ∧ w = w' := by
  have hsl := sl_eq (P := Tryz.prog) Tryz.underlying9 s ((I : Int) + 1) (M : Int) (I + 1) M (by omega) rfl (by omega) (by omega)
  have hz : ((M : Int) - ((I : Int) + 1) == 0) = true := by simp; omega
  have hb : s[I].toNat < 256 := s[I].toNat_lt
  clear hne
  go_enter Tryz.func121, Tryz.ntmps121
  go_wp2_with fail
  go_loop [4] (fun i => ∃ k : Nat, k ≤ I ∧ i = .int .i64 k) (fun i => I - (intOf i).toNat)
  case atStart => exact ⟨0, by omega, rfl⟩
  case round =>
    obtain ⟨k, hk, rfl⟩ := hrel
    by_cases hlt : k < I
    · have a1 := HB.out k (by omega) hlt
      have hb2 : s[k].toNat < 256 := s[k].toNat_lt
      go_wp2_with (go_at_call 151; refine (space_any _ _).mono ?_; rintro e w' ⟨rfl, rfl⟩)
      go_round
      case rel => exact ⟨k + 1, by omega, by go_num⟩
      case measure => simp [intOf]; omega
    · obtain rfl : k = I := by omega
      go_wp2_with (first | (go_at_call 151; refine (space_any _ _).mono ?_; rintro e w' ⟨rfl, rfl⟩) | (go_at_call 152; ((with_reducible refine (C1.out _).mono ?_); rintro e w' ⟨rfl, rfl⟩)) | (go_at_call 153; refine (CC.out _).mono ?_; rintro e w' ⟨rfl, rfl⟩))
      go_ret2
      exact ⟨rfl, rfl⟩
set_option maxHeartbeats 2000000 in
theorem rnS_neg_qin_great (s : ByteArray) (I M : Nat) (w : World)
    (hs : s.size ≤ 1048576) (hF : (I + 1) ≤ M) (hM : M ≤ s.size)
    (HB : Hid (∀ (j : Nat) (h : j < s.size), j < I → blnB (s[j].toNat : Int) = true))
    (hI : I < s.size) (hnb : blnB (s[I].toNat : Int) = false) (c45 : ((s[I].toNat : Int) == 45) = true)
    (hM2 : M < s.size) (c46 : ((s[M].toNat : Int) == 46) = false)
    (C1 : Hid (∀ W, Calls Tryz.prog 152 #[.string s, .int .i64 ((I : Int) + 1)] W fun e w' => e = .returned (.int .i64 (M : Int)) ∧ W = w'))
    (CC : Hid (∀ W, Calls Tryz.prog 153 #[.string (s.extract (I + 1) M), .string (ByteArray.mk #[])] W fun e w' => e = .returned (.tuple #[.int .i64 0, .bool false]) ∧ W = w'))
    (hf : M ≤ 60)
    (hne : (I + 1) < M) :
    Calls Tryz.prog 121 #[.string s] w fun e w' => e = .returned (.tuple #[.int .i64 0, .int .i64 0]) ∧ w = w' := by
  have hsl := sl_eq (P := Tryz.prog) Tryz.underlying9 s ((I : Int) + 1) (M : Int) (I + 1) M (by omega) rfl (by omega) (by omega)
  have hz : ((M : Int) - ((I : Int) + 1) == 0) = false := by simp; omega
  have hb : s[I].toNat < 256 := s[I].toNat_lt
  clear hne
  go_enter Tryz.func121, Tryz.ntmps121
  go_wp2_with fail
  go_loop [4] (fun i => ∃ k : Nat, k ≤ I ∧ i = .int .i64 k) (fun i => I - (intOf i).toNat)
  case atStart => exact ⟨0, by omega, rfl⟩
  case round =>
    obtain ⟨k, hk, rfl⟩ := hrel
    by_cases hlt : k < I
    · have a1 := HB.out k (by omega) hlt
      have hb2 : s[k].toNat < 256 := s[k].toNat_lt
      go_wp2_with (go_at_call 151; refine (space_any _ _).mono ?_; rintro e w' ⟨rfl, rfl⟩)
      go_round
      case rel => exact ⟨k + 1, by omega, by go_num⟩
      case measure => simp [intOf]; omega
    · obtain rfl : k = I := by omega
      go_wp2_with (first | (go_at_call 151; refine (space_any _ _).mono ?_; rintro e w' ⟨rfl, rfl⟩) | (go_at_call 152; ((with_reducible refine (C1.out _).mono ?_); rintro e w' ⟨rfl, rfl⟩)) | (go_at_call 153; refine (CC.out _).mono ?_; rintro e w' ⟨rfl, rfl⟩))
      go_ret2
      exact ⟨rfl, rfl⟩
set_option maxHeartbeats 2000000 in
theorem rnS_neg_qin_yes (s : ByteArray) (I M : Nat) (v : Nat) (w : World)
    (hs : s.size ≤ 1048576) (hF : (I + 1) ≤ M) (hM : M ≤ s.size)
    (HB : Hid (∀ (j : Nat) (h : j < s.size), j < I → blnB (s[j].toNat : Int) = true))
    (hI : I < s.size) (hnb : blnB (s[I].toNat : Int) = false) (c45 : ((s[I].toNat : Int) == 45) = true)
    (hM2 : M < s.size) (c46 : ((s[M].toNat : Int) == 46) = false)
    (C1 : Hid (∀ W, Calls Tryz.prog 152 #[.string s, .int .i64 ((I : Int) + 1)] W fun e w' => e = .returned (.int .i64 (M : Int)) ∧ W = w'))
    (CC : Hid (∀ W, Calls Tryz.prog 153 #[.string (s.extract (I + 1) M), .string (ByteArray.mk #[])] W fun e w' => e = .returned (.tuple #[.int .i64 (v : Int), .bool true]) ∧ W = w'))
    (hv : v ≤ 1000000000000)
    (hf : M ≤ 60)
    (hne : (I + 1) < M) :
    Calls Tryz.prog 121 #[.string s] w fun e w' => e = .returned (.tuple #[.int .i64 (-(v : Int)), .int .i64 (M : Int)]) ∧ w = w' := by
  have hsl := sl_eq (P := Tryz.prog) Tryz.underlying9 s ((I : Int) + 1) (M : Int) (I + 1) M (by omega) rfl (by omega) (by omega)
  have hz : ((M : Int) - ((I : Int) + 1) == 0) = false := by simp; omega
  have hb : s[I].toNat < 256 := s[I].toNat_lt
  clear hne
  go_enter Tryz.func121, Tryz.ntmps121
  go_wp2_with fail
  go_loop [4] (fun i => ∃ k : Nat, k ≤ I ∧ i = .int .i64 k) (fun i => I - (intOf i).toNat)
  case atStart => exact ⟨0, by omega, rfl⟩
  case round =>
    obtain ⟨k, hk, rfl⟩ := hrel
    by_cases hlt : k < I
    · have a1 := HB.out k (by omega) hlt
      have hb2 : s[k].toNat < 256 := s[k].toNat_lt
      go_wp2_with (go_at_call 151; refine (space_any _ _).mono ?_; rintro e w' ⟨rfl, rfl⟩)
      go_round
      case rel => exact ⟨k + 1, by omega, by go_num⟩
      case measure => simp [intOf]; omega
    · obtain rfl : k = I := by omega
      go_wp2_with (first | (go_at_call 151; refine (space_any _ _).mono ?_; rintro e w' ⟨rfl, rfl⟩) | (go_at_call 152; ((with_reducible refine (C1.out _).mono ?_); rintro e w' ⟨rfl, rfl⟩)) | (go_at_call 153; refine (CC.out _).mono ?_; rintro e w' ⟨rfl, rfl⟩))
      go_ret2
      exact ⟨rfl, rfl⟩
set_option maxHeartbeats 2000000 in
theorem rnS_neg_qend_far (s : ByteArray) (I M : Nat) (x : Int) (ok : Bool) (w : World)
    (hs : s.size ≤ 1048576) (hF : (I + 1) ≤ M) (hM : M ≤ s.size)
    (HB : Hid (∀ (j : Nat) (h : j < s.size), j < I → blnB (s[j].toNat : Int) = true))
    (hI : I < s.size) (hnb : blnB (s[I].toNat : Int) = false) (c45 : ((s[I].toNat : Int) == 45) = true)
    (hM2 : s.size ≤ M)
    (C1 : Hid (∀ W, Calls Tryz.prog 152 #[.string s, .int .i64 ((I : Int) + 1)] W fun e w' => e = .returned (.int .i64 (M : Int)) ∧ W = w'))
    (CC : Hid (∀ W, Calls Tryz.prog 153 #[.string (s.extract (I + 1) M), .string (ByteArray.mk #[])] W fun e w' => e = .returned (.tuple #[.int .i64 x, .bool ok]) ∧ W = w'))
    (hf : 60 < M)
    (hne : (I + 1) < M) :
    Calls Tryz.prog 121 #[.string s] w fun e w' => e = .returned (.tuple #[.int .i64 0, .int .i64 0]) ∧ w = w' := by
  have hsl := sl_eq (P := Tryz.prog) Tryz.underlying9 s ((I : Int) + 1) (M : Int) (I + 1) M (by omega) rfl (by omega) (by omega)
  have hz : ((M : Int) - ((I : Int) + 1) == 0) = false := by simp; omega
  have hb : s[I].toNat < 256 := s[I].toNat_lt
  clear hne
  go_enter Tryz.func121, Tryz.ntmps121
  go_wp2_with fail
  go_loop [4] (fun i => ∃ k : Nat, k ≤ I ∧ i = .int .i64 k) (fun i => I - (intOf i).toNat)
  case atStart => exact ⟨0, by omega, rfl⟩
  case round =>
    obtain ⟨k, hk, rfl⟩ := hrel
    by_cases hlt : k < I
    · have a1 := HB.out k (by omega) hlt
      have hb2 : s[k].toNat < 256 := s[k].toNat_lt
      go_wp2_with (go_at_call 151; refine (space_any _ _).mono ?_; rintro e w' ⟨rfl, rfl⟩)
      go_round
      case rel => exact ⟨k + 1, by omega, by go_num⟩
      case measure => simp [intOf]; omega
    · obtain rfl : k = I := by omega
      go_wp2_with (first | (go_at_call 151; refine (space_any _ _).mono ?_; rintro e w' ⟨rfl, rfl⟩) | (go_at_call 152; ((with_reducible refine (C1.out _).mono ?_); rintro e w' ⟨rfl, rfl⟩)) | (go_at_call 153; refine (CC.out _).mono ?_; rintro e w' ⟨rfl, rfl⟩))
      go_ret2
      exact ⟨rfl, rfl⟩
set_option maxHeartbeats 2000000 in
theorem rnS_neg_qend_empty (s : ByteArray) (I M : Nat) (x : Int) (ok : Bool) (w : World)
    (hs : s.size ≤ 1048576) (hF : (I + 1) ≤ M) (hM : M ≤ s.size)
    (HB : Hid (∀ (j : Nat) (h : j < s.size), j < I → blnB (s[j].toNat : Int) = true))
    (hI : I < s.size) (hnb : blnB (s[I].toNat : Int) = false) (c45 : ((s[I].toNat : Int) == 45) = true)
    (hM2 : s.size ≤ M)
    (C1 : Hid (∀ W, Calls Tryz.prog 152 #[.string s, .int .i64 ((I : Int) + 1)] W fun e w' => e = .returned (.int .i64 (M : Int)) ∧ W = w'))
    (CC : Hid (∀ W, Calls Tryz.prog 153 #[.string (s.extract (I + 1) M), .string (ByteArray.mk #[])] W fun e w' => e = .returned (.tuple #[.int .i64 x, .bool ok]) ∧ W = w'))
    (hne : (I + 1) = M) :
    Calls Tryz.prog 121 #[.string s] w fun e w' => e = .returned (.tuple #[.int .i64 0, .int .i64 0]) ∧ w = w' := by
  have hsl := sl_eq (P := Tryz.prog) Tryz.underlying9 s ((I : Int) + 1) (M : Int) (I + 1) M (by omega) rfl (by omega) (by omega)
  have hz : ((M : Int) - ((I : Int) + 1) == 0) = true := by simp; omega
  have hb : s[I].toNat < 256 := s[I].toNat_lt
  clear hne
  go_enter Tryz.func121, Tryz.ntmps121
  go_wp2_with fail
  go_loop [4] (fun i => ∃ k : Nat, k ≤ I ∧ i = .int .i64 k) (fun i => I - (intOf i).toNat)
  case atStart => exact ⟨0, by omega, rfl⟩
  case round =>
    obtain ⟨k, hk, rfl⟩ := hrel
    by_cases hlt : k < I
    · have a1 := HB.out k (by omega) hlt
      have hb2 : s[k].toNat < 256 := s[k].toNat_lt
      go_wp2_with (go_at_call 151; refine (space_any _ _).mono ?_; rintro e w' ⟨rfl, rfl⟩)
      go_round
      case rel => exact ⟨k + 1, by omega, by go_num⟩
      case measure => simp [intOf]; omega
    · obtain rfl : k = I := by omega
      go_wp2_with (first | (go_at_call 151; refine (space_any _ _).mono ?_; rintro e w' ⟨rfl, rfl⟩) | (go_at_call 152; ((with_reducible refine (C1.out _).mono ?_); rintro e w' ⟨rfl, rfl⟩)) | (go_at_call 153; refine (CC.out _).mono ?_; rintro e w' ⟨rfl, rfl⟩))
      go_ret2
      exact ⟨rfl, rfl⟩
set_option maxHeartbeats 2000000 in
theorem rnS_neg_qend_great (s : ByteArray) (I M : Nat) (w : World)
    (hs : s.size ≤ 1048576) (hF : (I + 1) ≤ M) (hM : M ≤ s.size)
    (HB : Hid (∀ (j : Nat) (h : j < s.size), j < I → blnB (s[j].toNat : Int) = true))
    (hI : I < s.size) (hnb : blnB (s[I].toNat : Int) = false) (c45 : ((s[I].toNat : Int) == 45) = true)
    (hM2 : s.size ≤ M)
    (C1 : Hid (∀ W, Calls Tryz.prog 152 #[.string s, .int .i64 ((I : Int) + 1)] W fun e w' => e = .returned (.int .i64 (M : Int)) ∧ W = w'))
    (CC : Hid (∀ W, Calls Tryz.prog 153 #[.string (s.extract (I + 1) M), .string (ByteArray.mk #[])] W fun e w' => e = .returned (.tuple #[.int .i64 0, .bool false]) ∧ W = w'))
    (hf : M ≤ 60)
    (hne : (I + 1) < M) :
    Calls Tryz.prog 121 #[.string s] w fun e w' => e = .returned (.tuple #[.int .i64 0, .int .i64 0]) ∧ w = w' := by
  have hsl := sl_eq (P := Tryz.prog) Tryz.underlying9 s ((I : Int) + 1) (M : Int) (I + 1) M (by omega) rfl (by omega) (by omega)
  have hz : ((M : Int) - ((I : Int) + 1) == 0) = false := by simp; omega
  have hb : s[I].toNat < 256 := s[I].toNat_lt
  clear hne
  go_enter Tryz.func121, Tryz.ntmps121
  go_wp2_with fail
  go_loop [4] (fun i => ∃ k : Nat, k ≤ I ∧ i = .int .i64 k) (fun i => I - (intOf i).toNat)
  case atStart => exact ⟨0, by omega, rfl⟩
  case round =>
    obtain ⟨k, hk, rfl⟩ := hrel
    by_cases hlt : k < I
    · have a1 := HB.out k (by omega) hlt
      have hb2 : s[k].toNat < 256 := s[k].toNat_lt
      go_wp2_with (go_at_call 151; refine (space_any _ _).mono ?_; rintro e w' ⟨rfl, rfl⟩)
      go_round
      case rel => exact ⟨k + 1, by omega, by go_num⟩
      case measure => simp [intOf]; omega
    · obtain rfl : k = I := by omega
      go_wp2_with (first | (go_at_call 151; refine (space_any _ _).mono ?_; rintro e w' ⟨rfl, rfl⟩) | (go_at_call 152; ((with_reducible refine (C1.out _).mono ?_); rintro e w' ⟨rfl, rfl⟩)) | (go_at_call 153; refine (CC.out _).mono ?_; rintro e w' ⟨rfl, rfl⟩))
      go_ret2
      exact ⟨rfl, rfl⟩
set_option maxHeartbeats 2000000 in
theorem rnS_neg_qend_yes (s : ByteArray) (I M : Nat) (v : Nat) (w : World)
    (hs : s.size ≤ 1048576) (hF : (I + 1) ≤ M) (hM : M ≤ s.size)
    (HB : Hid (∀ (j : Nat) (h : j < s.size), j < I → blnB (s[j].toNat : Int) = true))
    (hI : I < s.size) (hnb : blnB (s[I].toNat : Int) = false) (c45 : ((s[I].toNat : Int) == 45) = true)
    (hM2 : s.size ≤ M)
    (C1 : Hid (∀ W, Calls Tryz.prog 152 #[.string s, .int .i64 ((I : Int) + 1)] W fun e w' => e = .returned (.int .i64 (M : Int)) ∧ W = w'))
    (CC : Hid (∀ W, Calls Tryz.prog 153 #[.string (s.extract (I + 1) M), .string (ByteArray.mk #[])] W fun e w' => e = .returned (.tuple #[.int .i64 (v : Int), .bool true]) ∧ W = w'))
    (hv : v ≤ 1000000000000)
    (hf : M ≤ 60)
    (hne : (I + 1) < M) :
    Calls Tryz.prog 121 #[.string s] w fun e w' => e = .returned (.tuple #[.int .i64 (-(v : Int)), .int .i64 (M : Int)]) ∧ w = w' := by
  have hsl := sl_eq (P := Tryz.prog) Tryz.underlying9 s ((I : Int) + 1) (M : Int) (I + 1) M (by omega) rfl (by omega) (by omega)
  have hz : ((M : Int) - ((I : Int) + 1) == 0) = false := by simp; omega
  have hb : s[I].toNat < 256 := s[I].toNat_lt
  clear hne
  go_enter Tryz.func121, Tryz.ntmps121
  go_wp2_with fail
  go_loop [4] (fun i => ∃ k : Nat, k ≤ I ∧ i = .int .i64 k) (fun i => I - (intOf i).toNat)
  case atStart => exact ⟨0, by omega, rfl⟩
  case round =>
    obtain ⟨k, hk, rfl⟩ := hrel
    by_cases hlt : k < I
    · have a1 := HB.out k (by omega) hlt
      have hb2 : s[k].toNat < 256 := s[k].toNat_lt
      go_wp2_with (go_at_call 151; refine (space_any _ _).mono ?_; rintro e w' ⟨rfl, rfl⟩)
      go_round
      case rel => exact ⟨k + 1, by omega, by go_num⟩
      case measure => simp [intOf]; omega
    · obtain rfl : k = I := by omega
      go_wp2_with (first | (go_at_call 151; refine (space_any _ _).mono ?_; rintro e w' ⟨rfl, rfl⟩) | (go_at_call 152; ((with_reducible refine (C1.out _).mono ?_); rintro e w' ⟨rfl, rfl⟩)) | (go_at_call 153; refine (CC.out _).mono ?_; rintro e w' ⟨rfl, rfl⟩))
      go_ret2
      exact ⟨rfl, rfl⟩
end Go.Proofs.YthffjcclcladoaaGreatDoor.kit
