/-
  Contract of impl.ReadNum over this seat's translation: for every text it gives the number that the text begins with and the place behind it. Conditions: the text has at most a million bytes (1048576).
-/
import Derived.Test.YtalobgebdpaecaaDoorRn2
import Derived.WalkMore
import Derived.ScopeJumps
namespace Go.Proofs.YtalobgebdpaecaaDoor.kit
open Go.ChangeShapes Go.WideShapes Go.ChangeAt Go.RowKit
set_option linter.unusedVariables false

theorem ret_two2 {a a' b b' : Int} (h : a = a') (h' : b = b') : Ending.returned (.tuple #[.int .i64 a, .int .i64 b]) = .returned (.tuple #[.int .i64 a', .int .i64 b']) := by rw [h, h']

theorem sl_eq {P : Program} {t : TypeId} (ht : P.underlying t = some .string) (s : ByteArray) (i j : Int) (A B : Nat) (hA : i = (A : Int)) (hB : j = (B : Int)) (h1 : A ≤ B) (h2 : B ≤ s.size) (W : World) :
    (Instr.slice t (.string s) (some (.int .i64 i)) (some (.int .i64 j)) none).run P W = .ok (.string (s.extract A B)) W := by
  subst hA hB
  rw [run_slice_string W t s .i64 .i64 (A : Int) (B : Int) ht (by omega) (by omega) (by omega)]; rfl

/-- A scope whose only jumps go ahead to one label. -/
theorem wp_scope_ahead {P : Program} {a : Act} {w : World} {Q : Exit → Act → World → Prop} {c rest : Code} (l : Nat) (hf : findLabel c l = some rest)
    (first : c.wp P (Exit.jump l (fun a w => rest.wp P (Exit.noGoto Q) a w) Q) a w) : (Code.scope c).wp P Q a w :=
  wp_scope_jumps l (fun a w => rest.wp P (Exit.noGoto Q) a w) (fun _ _ => 0) hf first (fun a w h => wp_mono h (fun e a w hq => by cases e <;> first | exact hq | exact hq.elim))
theorem jump_ret {l : Nat} {J : Act → World → Prop} {Q : Exit → Act → World → Prop} {a : Act} {w : World} : Exit.jump l J Q .ret a w = Q .ret a w := rfl
theorem jump_goto {l : Nat} {J K : Act → World → Prop} {Q : Exit → Act → World → Prop} {a : Act} {w : World} (h : J a w) : Exit.then K (Exit.jump l J Q) (.goto l) a w := ⟨rfl, h⟩

set_option maxHeartbeats 1000000 in
theorem rnI_neg_p_far (s : ByteArray) (I M E : Nat) (w : World)
    (hs : s.size ≤ 1048576) (hI : I ≤ s.size) (hF : (I + 1) ≤ M) (hM : M ≤ s.size)
    (C0 : Hid (∀ W, Calls Tryd.prog 133 #[.string s, .int .i64 0] W fun e w' => e = .returned (.int .i64 (I : Int)) ∧ W = w'))
    (C1 : Hid (∀ W, Calls Tryd.prog 115 #[.string s, .int .i64 ((I : Int) + 1)] W fun e w' => e = .returned (.int .i64 (M : Int)) ∧ W = w'))
    (hE : M + 1 ≤ E) (hE2 : E ≤ s.size) (C2 : Hid (∀ W, Calls Tryd.prog 115 #[.string s, .int .i64 ((M : Int) + 1)] W fun e w' => e = .returned (.int .i64 (E : Int)) ∧ W = w'))
    (n1 : atB s I 45 = true) (n2 : atB s I 43 = false) (n3 : atB s M 46 = true)
    (hf : 60 < E) :
    Calls Tryd.prog 117 #[.string s] w fun e w' => e = .returned (.tuple #[.int .i64 0, .int .i64 0]) ∧ Below w.heap.size w w' := by
  have hsl := sl_eq (P := Tryd.prog) Tryd.underlying9 s ((I : Int) + 1) (M : Int) (I + 1) M (by omega) rfl (by omega) (by omega)
  have hsl2 := sl_eq (P := Tryd.prog) Tryd.underlying9 s ((M : Int) + 1) (E : Int) (M + 1) E (by omega) rfl (by omega) (by omega)
  go_enter Tryd.func117, Tryd.ntmps117
  go_wp2_with fail
  refine wp_scope_ahead 0 rfl ?_
  go_wp2_with (first | (go_at_call 133; refine (C0.out _).mono ?_; rintro e w' ⟨rfl, rfl⟩) | (go_at_call 116; refine (pre_any _ _ _ _ (by omega)).mono ?_; rintro e w' ⟨rfl, rfl⟩) | (go_at_call 115; ((with_reducible refine (C1.out _).mono ?_); rintro e w' ⟨rfl, rfl⟩)) | (go_at_call 115; ((with_reducible refine (C2.out _).mono ?_); rintro e w' ⟨rfl, rfl⟩)))
  go_step3
  refine jump_goto ?_
  go_wp2_with fail
  rw [Exit.noGoto_ret]
  go_ret2
  exact ⟨rfl, Below.refl _ _⟩

set_option maxHeartbeats 1000000 in
theorem rnI_neg_p_empty (s : ByteArray) (I M E : Nat) (w : World)
    (hs : s.size ≤ 1048576) (hI : I ≤ s.size) (hF : (I + 1) ≤ M) (hM : M ≤ s.size)
    (C0 : Hid (∀ W, Calls Tryd.prog 133 #[.string s, .int .i64 0] W fun e w' => e = .returned (.int .i64 (I : Int)) ∧ W = w'))
    (C1 : Hid (∀ W, Calls Tryd.prog 115 #[.string s, .int .i64 ((I : Int) + 1)] W fun e w' => e = .returned (.int .i64 (M : Int)) ∧ W = w'))
    (hE : M + 1 ≤ E) (hE2 : E ≤ s.size) (C2 : Hid (∀ W, Calls Tryd.prog 115 #[.string s, .int .i64 ((M : Int) + 1)] W fun e w' => e = .returned (.int .i64 (E : Int)) ∧ W = w'))
    (n1 : atB s I 45 = true) (n2 : atB s I 43 = false) (n3 : atB s M 46 = true)
    (hf : E ≤ 60) (hem : (s.extract (I + 1) M ++ s.extract (M + 1) E).toList.isEmpty = true) :
    Calls Tryd.prog 117 #[.string s] w fun e w' => e = .returned (.tuple #[.int .i64 0, .int .i64 0]) ∧ Below w.heap.size w w' := by
  have hsl := sl_eq (P := Tryd.prog) Tryd.underlying9 s ((I : Int) + 1) (M : Int) (I + 1) M (by omega) rfl (by omega) (by omega)
  have hsl2 := sl_eq (P := Tryd.prog) Tryd.underlying9 s ((M : Int) + 1) (E : Int) (M + 1) E (by omega) rfl (by omega) (by omega)
  go_enter Tryd.func117, Tryd.ntmps117
  go_wp2_with fail
  refine wp_scope_ahead 0 rfl ?_
  go_wp2_with (first | (go_at_call 133; refine (C0.out _).mono ?_; rintro e w' ⟨rfl, rfl⟩) | (go_at_call 116; refine (pre_any _ _ _ _ (by omega)).mono ?_; rintro e w' ⟨rfl, rfl⟩) | (go_at_call 115; ((with_reducible refine (C1.out _).mono ?_); rintro e w' ⟨rfl, rfl⟩)) | (go_at_call 115; ((with_reducible refine (C2.out _).mono ?_); rintro e w' ⟨rfl, rfl⟩)))
  go_step3
  refine jump_goto ?_
  go_wp2_with fail
  rw [Exit.noGoto_ret]
  go_ret2
  exact ⟨rfl, Below.refl _ _⟩

set_option maxHeartbeats 1000000 in
theorem rnI_neg_p_great (s : ByteArray) (I M E v : Nat) (w : World)
    (hs : s.size ≤ 1048576) (hI : I ≤ s.size) (hF : (I + 1) ≤ M) (hM : M ≤ s.size)
    (C0 : Hid (∀ W, Calls Tryd.prog 133 #[.string s, .int .i64 0] W fun e w' => e = .returned (.int .i64 (I : Int)) ∧ W = w'))
    (C1 : Hid (∀ W, Calls Tryd.prog 115 #[.string s, .int .i64 ((I : Int) + 1)] W fun e w' => e = .returned (.int .i64 (M : Int)) ∧ W = w'))
    (hE : M + 1 ≤ E) (hE2 : E ≤ s.size) (C2 : Hid (∀ W, Calls Tryd.prog 115 #[.string s, .int .i64 ((M : Int) + 1)] W fun e w' => e = .returned (.int .i64 (E : Int)) ∧ W = w'))
    (n1 : atB s I 45 = true) (n2 : atB s I 43 = false) (n3 : atB s M 46 = true)
    (hf : E ≤ 60) (hem : (s.extract (I + 1) M ++ s.extract (M + 1) E).toList.isEmpty = false)
    (CC : Hid (∀ W, Calls Tryd.prog 134 #[.string (s.extract (I + 1) M), .string (s.extract (M + 1) E)] W fun e w' => e = .returned (.int .i64 (v : Int)) ∧ Below W.heap.size W w')) (hv : 1000000000000 < v ∧ v ≤ 2000000000000) :
    Calls Tryd.prog 117 #[.string s] w fun e w' => e = .returned (.tuple #[.int .i64 0, .int .i64 0]) ∧ Below w.heap.size w w' := by
  obtain ⟨hv, hv2⟩ := hv
  have hsl := sl_eq (P := Tryd.prog) Tryd.underlying9 s ((I : Int) + 1) (M : Int) (I + 1) M (by omega) rfl (by omega) (by omega)
  have hsl2 := sl_eq (P := Tryd.prog) Tryd.underlying9 s ((M : Int) + 1) (E : Int) (M + 1) E (by omega) rfl (by omega) (by omega)
  go_enter Tryd.func117, Tryd.ntmps117
  go_wp2_with fail
  refine wp_scope_ahead 0 rfl ?_
  go_wp2_with (first | (go_at_call 133; refine (C0.out _).mono ?_; rintro e w' ⟨rfl, rfl⟩) | (go_at_call 116; refine (pre_any _ _ _ _ (by omega)).mono ?_; rintro e w' ⟨rfl, rfl⟩) | (go_at_call 115; ((with_reducible refine (C1.out _).mono ?_); rintro e w' ⟨rfl, rfl⟩)) | (go_at_call 115; ((with_reducible refine (C2.out _).mono ?_); rintro e w' ⟨rfl, rfl⟩)) | (go_at_call 134; refine (CC.out _).mono ?_; rintro e w1 ⟨rfl, hb⟩))
  go_step3
  refine jump_goto ?_
  go_wp2_with fail
  rw [Exit.noGoto_ret]
  go_ret2
  exact ⟨rfl, hb⟩

set_option maxHeartbeats 1000000 in
theorem rnI_neg_p_yes (s : ByteArray) (I M E v : Nat) (w : World)
    (hs : s.size ≤ 1048576) (hI : I ≤ s.size) (hF : (I + 1) ≤ M) (hM : M ≤ s.size)
    (C0 : Hid (∀ W, Calls Tryd.prog 133 #[.string s, .int .i64 0] W fun e w' => e = .returned (.int .i64 (I : Int)) ∧ W = w'))
    (C1 : Hid (∀ W, Calls Tryd.prog 115 #[.string s, .int .i64 ((I : Int) + 1)] W fun e w' => e = .returned (.int .i64 (M : Int)) ∧ W = w'))
    (hE : M + 1 ≤ E) (hE2 : E ≤ s.size) (C2 : Hid (∀ W, Calls Tryd.prog 115 #[.string s, .int .i64 ((M : Int) + 1)] W fun e w' => e = .returned (.int .i64 (E : Int)) ∧ W = w'))
    (n1 : atB s I 45 = true) (n2 : atB s I 43 = false) (n3 : atB s M 46 = true)
    (hf : E ≤ 60) (hem : (s.extract (I + 1) M ++ s.extract (M + 1) E).toList.isEmpty = false)
    (CC : Hid (∀ W, Calls Tryd.prog 134 #[.string (s.extract (I + 1) M), .string (s.extract (M + 1) E)] W fun e w' => e = .returned (.int .i64 (v : Int)) ∧ Below W.heap.size W w')) (hv : v ≤ 1000000000000) :
    Calls Tryd.prog 117 #[.string s] w fun e w' => e = .returned (.tuple #[.int .i64 (-(v : Int)), .int .i64 (E : Int)]) ∧ Below w.heap.size w w' := by
  have hsl := sl_eq (P := Tryd.prog) Tryd.underlying9 s ((I : Int) + 1) (M : Int) (I + 1) M (by omega) rfl (by omega) (by omega)
  have hsl2 := sl_eq (P := Tryd.prog) Tryd.underlying9 s ((M : Int) + 1) (E : Int) (M + 1) E (by omega) rfl (by omega) (by omega)
  go_enter Tryd.func117, Tryd.ntmps117
  go_wp2_with fail
  refine wp_scope_ahead 0 rfl ?_
  go_wp2_with (first | (go_at_call 133; refine (C0.out _).mono ?_; rintro e w' ⟨rfl, rfl⟩) | (go_at_call 116; refine (pre_any _ _ _ _ (by omega)).mono ?_; rintro e w' ⟨rfl, rfl⟩) | (go_at_call 115; ((with_reducible refine (C1.out _).mono ?_); rintro e w' ⟨rfl, rfl⟩)) | (go_at_call 115; ((with_reducible refine (C2.out _).mono ?_); rintro e w' ⟨rfl, rfl⟩)) | (go_at_call 134; refine (CC.out _).mono ?_; rintro e w1 ⟨rfl, hb⟩))
  rw [jump_ret]
  go_ret2
  exact ⟨rfl, hb⟩

set_option maxHeartbeats 1000000 in
theorem rnI_neg_q_far (s : ByteArray) (I M : Nat) (w : World)
    (hs : s.size ≤ 1048576) (hI : I ≤ s.size) (hF : (I + 1) ≤ M) (hM : M ≤ s.size)
    (C0 : Hid (∀ W, Calls Tryd.prog 133 #[.string s, .int .i64 0] W fun e w' => e = .returned (.int .i64 (I : Int)) ∧ W = w'))
    (C1 : Hid (∀ W, Calls Tryd.prog 115 #[.string s, .int .i64 ((I : Int) + 1)] W fun e w' => e = .returned (.int .i64 (M : Int)) ∧ W = w'))
    (n1 : atB s I 45 = true) (n2 : atB s I 43 = false) (n3 : atB s M 46 = false)
    (hf : 60 < M) :
    Calls Tryd.prog 117 #[.string s] w fun e w' => e = .returned (.tuple #[.int .i64 0, .int .i64 0]) ∧ Below w.heap.size w w' := by
  have hsl := sl_eq (P := Tryd.prog) Tryd.underlying9 s ((I : Int) + 1) (M : Int) (I + 1) M (by omega) rfl (by omega) (by omega)
  go_enter Tryd.func117, Tryd.ntmps117
  go_wp2_with fail
  refine wp_scope_ahead 0 rfl ?_
  go_wp2_with (first | (go_at_call 133; refine (C0.out _).mono ?_; rintro e w' ⟨rfl, rfl⟩) | (go_at_call 116; refine (pre_any _ _ _ _ (by omega)).mono ?_; rintro e w' ⟨rfl, rfl⟩) | (go_at_call 115; ((with_reducible refine (C1.out _).mono ?_); rintro e w' ⟨rfl, rfl⟩)))
  go_step3
  refine jump_goto ?_
  go_wp2_with fail
  rw [Exit.noGoto_ret]
  go_ret2
  exact ⟨rfl, Below.refl _ _⟩

set_option maxHeartbeats 1000000 in
theorem rnI_neg_q_empty (s : ByteArray) (I M : Nat) (w : World)
    (hs : s.size ≤ 1048576) (hI : I ≤ s.size) (hF : (I + 1) ≤ M) (hM : M ≤ s.size)
    (C0 : Hid (∀ W, Calls Tryd.prog 133 #[.string s, .int .i64 0] W fun e w' => e = .returned (.int .i64 (I : Int)) ∧ W = w'))
    (C1 : Hid (∀ W, Calls Tryd.prog 115 #[.string s, .int .i64 ((I : Int) + 1)] W fun e w' => e = .returned (.int .i64 (M : Int)) ∧ W = w'))
    (n1 : atB s I 45 = true) (n2 : atB s I 43 = false) (n3 : atB s M 46 = false)
    (hf : M ≤ 60) (hem : (s.extract (I + 1) M ++ ByteArray.mk #[]).toList.isEmpty = true) :
    Calls Tryd.prog 117 #[.string s] w fun e w' => e = .returned (.tuple #[.int .i64 0, .int .i64 0]) ∧ Below w.heap.size w w' := by
  have hsl := sl_eq (P := Tryd.prog) Tryd.underlying9 s ((I : Int) + 1) (M : Int) (I + 1) M (by omega) rfl (by omega) (by omega)
  go_enter Tryd.func117, Tryd.ntmps117
  go_wp2_with fail
  refine wp_scope_ahead 0 rfl ?_
  go_wp2_with (first | (go_at_call 133; refine (C0.out _).mono ?_; rintro e w' ⟨rfl, rfl⟩) | (go_at_call 116; refine (pre_any _ _ _ _ (by omega)).mono ?_; rintro e w' ⟨rfl, rfl⟩) | (go_at_call 115; ((with_reducible refine (C1.out _).mono ?_); rintro e w' ⟨rfl, rfl⟩)))
  go_step3
  refine jump_goto ?_
  go_wp2_with fail
  rw [Exit.noGoto_ret]
  go_ret2
  exact ⟨rfl, Below.refl _ _⟩

set_option maxHeartbeats 1000000 in
theorem rnI_neg_q_great (s : ByteArray) (I M v : Nat) (w : World)
    (hs : s.size ≤ 1048576) (hI : I ≤ s.size) (hF : (I + 1) ≤ M) (hM : M ≤ s.size)
    (C0 : Hid (∀ W, Calls Tryd.prog 133 #[.string s, .int .i64 0] W fun e w' => e = .returned (.int .i64 (I : Int)) ∧ W = w'))
    (C1 : Hid (∀ W, Calls Tryd.prog 115 #[.string s, .int .i64 ((I : Int) + 1)] W fun e w' => e = .returned (.int .i64 (M : Int)) ∧ W = w'))
    (n1 : atB s I 45 = true) (n2 : atB s I 43 = false) (n3 : atB s M 46 = false)
    (hf : M ≤ 60) (hem : (s.extract (I + 1) M ++ ByteArray.mk #[]).toList.isEmpty = false)
    (CC : Hid (∀ W, Calls Tryd.prog 134 #[.string (s.extract (I + 1) M), .string (ByteArray.mk #[])] W fun e w' => e = .returned (.int .i64 (v : Int)) ∧ Below W.heap.size W w')) (hv : 1000000000000 < v ∧ v ≤ 2000000000000) :
    Calls Tryd.prog 117 #[.string s] w fun e w' => e = .returned (.tuple #[.int .i64 0, .int .i64 0]) ∧ Below w.heap.size w w' := by
  obtain ⟨hv, hv2⟩ := hv
  have hsl := sl_eq (P := Tryd.prog) Tryd.underlying9 s ((I : Int) + 1) (M : Int) (I + 1) M (by omega) rfl (by omega) (by omega)
  go_enter Tryd.func117, Tryd.ntmps117
  go_wp2_with fail
  refine wp_scope_ahead 0 rfl ?_
  go_wp2_with (first | (go_at_call 133; refine (C0.out _).mono ?_; rintro e w' ⟨rfl, rfl⟩) | (go_at_call 116; refine (pre_any _ _ _ _ (by omega)).mono ?_; rintro e w' ⟨rfl, rfl⟩) | (go_at_call 115; ((with_reducible refine (C1.out _).mono ?_); rintro e w' ⟨rfl, rfl⟩)) | (go_at_call 134; refine (CC.out _).mono ?_; rintro e w1 ⟨rfl, hb⟩))
  go_step3
  refine jump_goto ?_
  go_wp2_with fail
  rw [Exit.noGoto_ret]
  go_ret2
  exact ⟨rfl, hb⟩

set_option maxHeartbeats 1000000 in
theorem rnI_neg_q_yes (s : ByteArray) (I M v : Nat) (w : World)
    (hs : s.size ≤ 1048576) (hI : I ≤ s.size) (hF : (I + 1) ≤ M) (hM : M ≤ s.size)
    (C0 : Hid (∀ W, Calls Tryd.prog 133 #[.string s, .int .i64 0] W fun e w' => e = .returned (.int .i64 (I : Int)) ∧ W = w'))
    (C1 : Hid (∀ W, Calls Tryd.prog 115 #[.string s, .int .i64 ((I : Int) + 1)] W fun e w' => e = .returned (.int .i64 (M : Int)) ∧ W = w'))
    (n1 : atB s I 45 = true) (n2 : atB s I 43 = false) (n3 : atB s M 46 = false)
    (hf : M ≤ 60) (hem : (s.extract (I + 1) M ++ ByteArray.mk #[]).toList.isEmpty = false)
    (CC : Hid (∀ W, Calls Tryd.prog 134 #[.string (s.extract (I + 1) M), .string (ByteArray.mk #[])] W fun e w' => e = .returned (.int .i64 (v : Int)) ∧ Below W.heap.size W w')) (hv : v ≤ 1000000000000) :
    Calls Tryd.prog 117 #[.string s] w fun e w' => e = .returned (.tuple #[.int .i64 (-(v : Int)), .int .i64 (M : Int)]) ∧ Below w.heap.size w w' := by
  have hsl := sl_eq (P := Tryd.prog) Tryd.underlying9 s ((I : Int) + 1) (M : Int) (I + 1) M (by omega) rfl (by omega) (by omega)
  go_enter Tryd.func117, Tryd.ntmps117
  go_wp2_with fail
  refine wp_scope_ahead 0 rfl ?_
  go_wp2_with (first | (go_at_call 133; refine (C0.out _).mono ?_; rintro e w' ⟨rfl, rfl⟩) | (go_at_call 116; refine (pre_any _ _ _ _ (by omega)).mono ?_; rintro e w' ⟨rfl, rfl⟩) | (go_at_call 115; ((with_reducible refine (C1.out _).mono ?_); rintro e w' ⟨rfl, rfl⟩)) | (go_at_call 134; refine (CC.out _).mono ?_; rintro e w1 ⟨rfl, hb⟩))
  rw [jump_ret]
  go_ret2
  exact ⟨rfl, hb⟩

set_option maxHeartbeats 1000000 in
theorem rnI_plus_p_far (s : ByteArray) (I M E : Nat) (w : World)
    (hs : s.size ≤ 1048576) (hI : I ≤ s.size) (hF : (I + 1) ≤ M) (hM : M ≤ s.size)
    (C0 : Hid (∀ W, Calls Tryd.prog 133 #[.string s, .int .i64 0] W fun e w' => e = .returned (.int .i64 (I : Int)) ∧ W = w'))
    (C1 : Hid (∀ W, Calls Tryd.prog 115 #[.string s, .int .i64 ((I : Int) + 1)] W fun e w' => e = .returned (.int .i64 (M : Int)) ∧ W = w'))
    (hE : M + 1 ≤ E) (hE2 : E ≤ s.size) (C2 : Hid (∀ W, Calls Tryd.prog 115 #[.string s, .int .i64 ((M : Int) + 1)] W fun e w' => e = .returned (.int .i64 (E : Int)) ∧ W = w'))
    (n1 : atB s I 45 = false) (n2 : atB s I 43 = true) (n3 : atB s M 46 = true)
    (hf : 60 < E) :
    Calls Tryd.prog 117 #[.string s] w fun e w' => e = .returned (.tuple #[.int .i64 0, .int .i64 0]) ∧ Below w.heap.size w w' := by
  have hsl := sl_eq (P := Tryd.prog) Tryd.underlying9 s ((I : Int) + 1) (M : Int) (I + 1) M (by omega) rfl (by omega) (by omega)
  have hsl2 := sl_eq (P := Tryd.prog) Tryd.underlying9 s ((M : Int) + 1) (E : Int) (M + 1) E (by omega) rfl (by omega) (by omega)
  go_enter Tryd.func117, Tryd.ntmps117
  go_wp2_with fail
  refine wp_scope_ahead 0 rfl ?_
  go_wp2_with (first | (go_at_call 133; refine (C0.out _).mono ?_; rintro e w' ⟨rfl, rfl⟩) | (go_at_call 116; refine (pre_any _ _ _ _ (by omega)).mono ?_; rintro e w' ⟨rfl, rfl⟩) | (go_at_call 115; ((with_reducible refine (C1.out _).mono ?_); rintro e w' ⟨rfl, rfl⟩)) | (go_at_call 115; ((with_reducible refine (C2.out _).mono ?_); rintro e w' ⟨rfl, rfl⟩)))
  go_step3
  refine jump_goto ?_
  go_wp2_with fail
  rw [Exit.noGoto_ret]
  go_ret2
  exact ⟨rfl, Below.refl _ _⟩

set_option maxHeartbeats 1000000 in
theorem rnI_plus_p_empty (s : ByteArray) (I M E : Nat) (w : World)
    (hs : s.size ≤ 1048576) (hI : I ≤ s.size) (hF : (I + 1) ≤ M) (hM : M ≤ s.size)
    (C0 : Hid (∀ W, Calls Tryd.prog 133 #[.string s, .int .i64 0] W fun e w' => e = .returned (.int .i64 (I : Int)) ∧ W = w'))
    (C1 : Hid (∀ W, Calls Tryd.prog 115 #[.string s, .int .i64 ((I : Int) + 1)] W fun e w' => e = .returned (.int .i64 (M : Int)) ∧ W = w'))
    (hE : M + 1 ≤ E) (hE2 : E ≤ s.size) (C2 : Hid (∀ W, Calls Tryd.prog 115 #[.string s, .int .i64 ((M : Int) + 1)] W fun e w' => e = .returned (.int .i64 (E : Int)) ∧ W = w'))
    (n1 : atB s I 45 = false) (n2 : atB s I 43 = true) (n3 : atB s M 46 = true)
    (hf : E ≤ 60) (hem : (s.extract (I + 1) M ++ s.extract (M + 1) E).toList.isEmpty = true) :
    Calls Tryd.prog 117 #[.string s] w fun e w' => e = .returned (.tuple #[.int .i64 0, .int .i64 0]) ∧ Below w.heap.size w w' := by
  have hsl := sl_eq (P := Tryd.prog) Tryd.underlying9 s ((I : Int) + 1) (M : Int) (I + 1) M (by omega) rfl (by omega) (by omega)
  have hsl2 := sl_eq (P := Tryd.prog) Tryd.underlying9 s ((M : Int) + 1) (E : Int) (M + 1) E (by omega) rfl (by omega) (by omega)
  go_enter Tryd.func117, Tryd.ntmps117
  go_wp2_with fail
  refine wp_scope_ahead 0 rfl ?_
  go_wp2_with (first | (go_at_call 133; refine (C0.out _).mono ?_; rintro e w' ⟨rfl, rfl⟩) | (go_at_call 116; refine (pre_any _ _ _ _ (by omega)).mono ?_; rintro e w' ⟨rfl, rfl⟩) | (go_at_call 115; ((with_reducible refine (C1.out _).mono ?_); rintro e w' ⟨rfl, rfl⟩)) | (go_at_call 115; ((with_reducible refine (C2.out _).mono ?_); rintro e w' ⟨rfl, rfl⟩)))
  go_step3
  refine jump_goto ?_
  go_wp2_with fail
  rw [Exit.noGoto_ret]
  go_ret2
  exact ⟨rfl, Below.refl _ _⟩

set_option maxHeartbeats 1000000 in
theorem rnI_plus_p_great (s : ByteArray) (I M E v : Nat) (w : World)
    (hs : s.size ≤ 1048576) (hI : I ≤ s.size) (hF : (I + 1) ≤ M) (hM : M ≤ s.size)
    (C0 : Hid (∀ W, Calls Tryd.prog 133 #[.string s, .int .i64 0] W fun e w' => e = .returned (.int .i64 (I : Int)) ∧ W = w'))
    (C1 : Hid (∀ W, Calls Tryd.prog 115 #[.string s, .int .i64 ((I : Int) + 1)] W fun e w' => e = .returned (.int .i64 (M : Int)) ∧ W = w'))
    (hE : M + 1 ≤ E) (hE2 : E ≤ s.size) (C2 : Hid (∀ W, Calls Tryd.prog 115 #[.string s, .int .i64 ((M : Int) + 1)] W fun e w' => e = .returned (.int .i64 (E : Int)) ∧ W = w'))
    (n1 : atB s I 45 = false) (n2 : atB s I 43 = true) (n3 : atB s M 46 = true)
    (hf : E ≤ 60) (hem : (s.extract (I + 1) M ++ s.extract (M + 1) E).toList.isEmpty = false)
    (CC : Hid (∀ W, Calls Tryd.prog 134 #[.string (s.extract (I + 1) M), .string (s.extract (M + 1) E)] W fun e w' => e = .returned (.int .i64 (v : Int)) ∧ Below W.heap.size W w')) (hv : 1000000000000 < v ∧ v ≤ 2000000000000) :
    Calls Tryd.prog 117 #[.string s] w fun e w' => e = .returned (.tuple #[.int .i64 0, .int .i64 0]) ∧ Below w.heap.size w w' := by
  obtain ⟨hv, hv2⟩ := hv
  have hsl := sl_eq (P := Tryd.prog) Tryd.underlying9 s ((I : Int) + 1) (M : Int) (I + 1) M (by omega) rfl (by omega) (by omega)
  have hsl2 := sl_eq (P := Tryd.prog) Tryd.underlying9 s ((M : Int) + 1) (E : Int) (M + 1) E (by omega) rfl (by omega) (by omega)
  go_enter Tryd.func117, Tryd.ntmps117
  go_wp2_with fail
  refine wp_scope_ahead 0 rfl ?_
  go_wp2_with (first | (go_at_call 133; refine (C0.out _).mono ?_; rintro e w' ⟨rfl, rfl⟩) | (go_at_call 116; refine (pre_any _ _ _ _ (by omega)).mono ?_; rintro e w' ⟨rfl, rfl⟩) | (go_at_call 115; ((with_reducible refine (C1.out _).mono ?_); rintro e w' ⟨rfl, rfl⟩)) | (go_at_call 115; ((with_reducible refine (C2.out _).mono ?_); rintro e w' ⟨rfl, rfl⟩)) | (go_at_call 134; refine (CC.out _).mono ?_; rintro e w1 ⟨rfl, hb⟩))
  go_step3
  refine jump_goto ?_
  go_wp2_with fail
  rw [Exit.noGoto_ret]
  go_ret2
  exact ⟨rfl, hb⟩

set_option maxHeartbeats 1000000 in
theorem rnI_plus_p_yes (s : ByteArray) (I M E v : Nat) (w : World)
    (hs : s.size ≤ 1048576) (hI : I ≤ s.size) (hF : (I + 1) ≤ M) (hM : M ≤ s.size)
    (C0 : Hid (∀ W, Calls Tryd.prog 133 #[.string s, .int .i64 0] W fun e w' => e = .returned (.int .i64 (I : Int)) ∧ W = w'))
    (C1 : Hid (∀ W, Calls Tryd.prog 115 #[.string s, .int .i64 ((I : Int) + 1)] W fun e w' => e = .returned (.int .i64 (M : Int)) ∧ W = w'))
    (hE : M + 1 ≤ E) (hE2 : E ≤ s.size) (C2 : Hid (∀ W, Calls Tryd.prog 115 #[.string s, .int .i64 ((M : Int) + 1)] W fun e w' => e = .returned (.int .i64 (E : Int)) ∧ W = w'))
    (n1 : atB s I 45 = false) (n2 : atB s I 43 = true) (n3 : atB s M 46 = true)
    (hf : E ≤ 60) (hem : (s.extract (I + 1) M ++ s.extract (M + 1) E).toList.isEmpty = false)
    (CC : Hid (∀ W, Calls Tryd.prog 134 #[.string (s.extract (I + 1) M), .string (s.extract (M + 1) E)] W fun e w' => e = .returned (.int .i64 (v : Int)) ∧ Below W.heap.size W w')) (hv : v ≤ 1000000000000) :
    Calls Tryd.prog 117 #[.string s] w fun e w' => e = .returned (.tuple #[.int .i64 (v : Int), .int .i64 (E : Int)]) ∧ Below w.heap.size w w' := by
  have hsl := sl_eq (P := Tryd.prog) Tryd.underlying9 s ((I : Int) + 1) (M : Int) (I + 1) M (by omega) rfl (by omega) (by omega)
  have hsl2 := sl_eq (P := Tryd.prog) Tryd.underlying9 s ((M : Int) + 1) (E : Int) (M + 1) E (by omega) rfl (by omega) (by omega)
  go_enter Tryd.func117, Tryd.ntmps117
  go_wp2_with fail
  refine wp_scope_ahead 0 rfl ?_
  go_wp2_with (first | (go_at_call 133; refine (C0.out _).mono ?_; rintro e w' ⟨rfl, rfl⟩) | (go_at_call 116; refine (pre_any _ _ _ _ (by omega)).mono ?_; rintro e w' ⟨rfl, rfl⟩) | (go_at_call 115; ((with_reducible refine (C1.out _).mono ?_); rintro e w' ⟨rfl, rfl⟩)) | (go_at_call 115; ((with_reducible refine (C2.out _).mono ?_); rintro e w' ⟨rfl, rfl⟩)) | (go_at_call 134; refine (CC.out _).mono ?_; rintro e w1 ⟨rfl, hb⟩))
  rw [jump_ret]
  go_ret2
  exact ⟨rfl, hb⟩

set_option maxHeartbeats 1000000 in
theorem rnI_plus_q_far (s : ByteArray) (I M : Nat) (w : World)
    (hs : s.size ≤ 1048576) (hI : I ≤ s.size) (hF : (I + 1) ≤ M) (hM : M ≤ s.size)
    (C0 : Hid (∀ W, Calls Tryd.prog 133 #[.string s, .int .i64 0] W fun e w' => e = .returned (.int .i64 (I : Int)) ∧ W = w'))
    (C1 : Hid (∀ W, Calls Tryd.prog 115 #[.string s, .int .i64 ((I : Int) + 1)] W fun e w' => e = .returned (.int .i64 (M : Int)) ∧ W = w'))
    (n1 : atB s I 45 = false) (n2 : atB s I 43 = true) (n3 : atB s M 46 = false)
    (hf : 60 < M) :
    Calls Tryd.prog 117 #[.string s] w fun e w' => e = .returned (.tuple #[.int .i64 0, .int .i64 0]) ∧ Below w.heap.size w w' := by
  have hsl := sl_eq (P := Tryd.prog) Tryd.underlying9 s ((I : Int) + 1) (M : Int) (I + 1) M (by omega) rfl (by omega) (by omega)
  go_enter Tryd.func117, Tryd.ntmps117
  go_wp2_with fail
  refine wp_scope_ahead 0 rfl ?_
  go_wp2_with (first | (go_at_call 133; refine (C0.out _).mono ?_; rintro e w' ⟨rfl, rfl⟩) | (go_at_call 116; refine (pre_any _ _ _ _ (by omega)).mono ?_; rintro e w' ⟨rfl, rfl⟩) | (go_at_call 115; ((with_reducible refine (C1.out _).mono ?_); rintro e w' ⟨rfl, rfl⟩)))
  go_step3
  refine jump_goto ?_
  go_wp2_with fail
  rw [Exit.noGoto_ret]
  go_ret2
  exact ⟨rfl, Below.refl _ _⟩

set_option maxHeartbeats 1000000 in
theorem rnI_plus_q_empty (s : ByteArray) (I M : Nat) (w : World)
    (hs : s.size ≤ 1048576) (hI : I ≤ s.size) (hF : (I + 1) ≤ M) (hM : M ≤ s.size)
    (C0 : Hid (∀ W, Calls Tryd.prog 133 #[.string s, .int .i64 0] W fun e w' => e = .returned (.int .i64 (I : Int)) ∧ W = w'))
    (C1 : Hid (∀ W, Calls Tryd.prog 115 #[.string s, .int .i64 ((I : Int) + 1)] W fun e w' => e = .returned (.int .i64 (M : Int)) ∧ W = w'))
    (n1 : atB s I 45 = false) (n2 : atB s I 43 = true) (n3 : atB s M 46 = false)
    (hf : M ≤ 60) (hem : (s.extract (I + 1) M ++ ByteArray.mk #[]).toList.isEmpty = true) :
    Calls Tryd.prog 117 #[.string s] w fun e w' => e = .returned (.tuple #[.int .i64 0, .int .i64 0]) ∧ Below w.heap.size w w' := by
  have hsl := sl_eq (P := Tryd.prog) Tryd.underlying9 s ((I : Int) + 1) (M : Int) (I + 1) M (by omega) rfl (by omega) (by omega)
  go_enter Tryd.func117, Tryd.ntmps117
  go_wp2_with fail
  refine wp_scope_ahead 0 rfl ?_
  go_wp2_with (first | (go_at_call 133; refine (C0.out _).mono ?_; rintro e w' ⟨rfl, rfl⟩) | (go_at_call 116; refine (pre_any _ _ _ _ (by omega)).mono ?_; rintro e w' ⟨rfl, rfl⟩) | (go_at_call 115; ((with_reducible refine (C1.out _).mono ?_); rintro e w' ⟨rfl, rfl⟩)))
  go_step3
  refine jump_goto ?_
  go_wp2_with fail
  rw [Exit.noGoto_ret]
  go_ret2
  exact ⟨rfl, Below.refl _ _⟩

set_option maxHeartbeats 1000000 in
theorem rnI_plus_q_great (s : ByteArray) (I M v : Nat) (w : World)
    (hs : s.size ≤ 1048576) (hI : I ≤ s.size) (hF : (I + 1) ≤ M) (hM : M ≤ s.size)
    (C0 : Hid (∀ W, Calls Tryd.prog 133 #[.string s, .int .i64 0] W fun e w' => e = .returned (.int .i64 (I : Int)) ∧ W = w'))
    (C1 : Hid (∀ W, Calls Tryd.prog 115 #[.string s, .int .i64 ((I : Int) + 1)] W fun e w' => e = .returned (.int .i64 (M : Int)) ∧ W = w'))
    (n1 : atB s I 45 = false) (n2 : atB s I 43 = true) (n3 : atB s M 46 = false)
    (hf : M ≤ 60) (hem : (s.extract (I + 1) M ++ ByteArray.mk #[]).toList.isEmpty = false)
    (CC : Hid (∀ W, Calls Tryd.prog 134 #[.string (s.extract (I + 1) M), .string (ByteArray.mk #[])] W fun e w' => e = .returned (.int .i64 (v : Int)) ∧ Below W.heap.size W w')) (hv : 1000000000000 < v ∧ v ≤ 2000000000000) :
    Calls Tryd.prog 117 #[.string s] w fun e w' => e = .returned (.tuple #[.int .i64 0, .int .i64 0]) ∧ Below w.heap.size w w' := by
  obtain ⟨hv, hv2⟩ := hv
  have hsl := sl_eq (P := Tryd.prog) Tryd.underlying9 s ((I : Int) + 1) (M : Int) (I + 1) M (by omega) rfl (by omega) (by omega)
  go_enter Tryd.func117, Tryd.ntmps117
  go_wp2_with fail
  refine wp_scope_ahead 0 rfl ?_
  go_wp2_with (first | (go_at_call 133; refine (C0.out _).mono ?_; rintro e w' ⟨rfl, rfl⟩) | (go_at_call 116; refine (pre_any _ _ _ _ (by omega)).mono ?_; rintro e w' ⟨rfl, rfl⟩) | (go_at_call 115; ((with_reducible refine (C1.out _).mono ?_); rintro e w' ⟨rfl, rfl⟩)) | (go_at_call 134; refine (CC.out _).mono ?_; rintro e w1 ⟨rfl, hb⟩))
  go_step3
  refine jump_goto ?_
  go_wp2_with fail
  rw [Exit.noGoto_ret]
  go_ret2
  exact ⟨rfl, hb⟩

set_option maxHeartbeats 1000000 in
theorem rnI_plus_q_yes (s : ByteArray) (I M v : Nat) (w : World)
    (hs : s.size ≤ 1048576) (hI : I ≤ s.size) (hF : (I + 1) ≤ M) (hM : M ≤ s.size)
    (C0 : Hid (∀ W, Calls Tryd.prog 133 #[.string s, .int .i64 0] W fun e w' => e = .returned (.int .i64 (I : Int)) ∧ W = w'))
    (C1 : Hid (∀ W, Calls Tryd.prog 115 #[.string s, .int .i64 ((I : Int) + 1)] W fun e w' => e = .returned (.int .i64 (M : Int)) ∧ W = w'))
    (n1 : atB s I 45 = false) (n2 : atB s I 43 = true) (n3 : atB s M 46 = false)
    (hf : M ≤ 60) (hem : (s.extract (I + 1) M ++ ByteArray.mk #[]).toList.isEmpty = false)
    (CC : Hid (∀ W, Calls Tryd.prog 134 #[.string (s.extract (I + 1) M), .string (ByteArray.mk #[])] W fun e w' => e = .returned (.int .i64 (v : Int)) ∧ Below W.heap.size W w')) (hv : v ≤ 1000000000000) :
    Calls Tryd.prog 117 #[.string s] w fun e w' => e = .returned (.tuple #[.int .i64 (v : Int), .int .i64 (M : Int)]) ∧ Below w.heap.size w w' := by
  have hsl := sl_eq (P := Tryd.prog) Tryd.underlying9 s ((I : Int) + 1) (M : Int) (I + 1) M (by omega) rfl (by omega) (by omega)
  go_enter Tryd.func117, Tryd.ntmps117
  go_wp2_with fail
  refine wp_scope_ahead 0 rfl ?_
  go_wp2_with (first | (go_at_call 133; refine (C0.out _).mono ?_; rintro e w' ⟨rfl, rfl⟩) | (go_at_call 116; refine (pre_any _ _ _ _ (by omega)).mono ?_; rintro e w' ⟨rfl, rfl⟩) | (go_at_call 115; ((with_reducible refine (C1.out _).mono ?_); rintro e w' ⟨rfl, rfl⟩)) | (go_at_call 134; refine (CC.out _).mono ?_; rintro e w1 ⟨rfl, hb⟩))
  rw [jump_ret]
  go_ret2
  exact ⟨rfl, hb⟩

set_option maxHeartbeats 1000000 in
theorem rnI_none_p_far (s : ByteArray) (I M E : Nat) (w : World)
    (hs : s.size ≤ 1048576) (hI : I ≤ s.size) (hF : I ≤ M) (hM : M ≤ s.size)
    (C0 : Hid (∀ W, Calls Tryd.prog 133 #[.string s, .int .i64 0] W fun e w' => e = .returned (.int .i64 (I : Int)) ∧ W = w'))
    (C1 : Hid (∀ W, Calls Tryd.prog 115 #[.string s, .int .i64 (I : Int)] W fun e w' => e = .returned (.int .i64 (M : Int)) ∧ W = w'))
    (hE : M + 1 ≤ E) (hE2 : E ≤ s.size) (C2 : Hid (∀ W, Calls Tryd.prog 115 #[.string s, .int .i64 ((M : Int) + 1)] W fun e w' => e = .returned (.int .i64 (E : Int)) ∧ W = w'))
    (n1 : atB s I 45 = false) (n2 : atB s I 43 = false) (n3 : atB s M 46 = true)
    (hf : 60 < E) :
    Calls Tryd.prog 117 #[.string s] w fun e w' => e = .returned (.tuple #[.int .i64 0, .int .i64 0]) ∧ Below w.heap.size w w' := by
  have hsl := sl_eq (P := Tryd.prog) Tryd.underlying9 s (I : Int) (M : Int) I M (by omega) rfl (by omega) (by omega)
  have hsl2 := sl_eq (P := Tryd.prog) Tryd.underlying9 s ((M : Int) + 1) (E : Int) (M + 1) E (by omega) rfl (by omega) (by omega)
  go_enter Tryd.func117, Tryd.ntmps117
  go_wp2_with fail
  refine wp_scope_ahead 0 rfl ?_
  go_wp2_with (first | (go_at_call 133; refine (C0.out _).mono ?_; rintro e w' ⟨rfl, rfl⟩) | (go_at_call 116; refine (pre_any _ _ _ _ (by omega)).mono ?_; rintro e w' ⟨rfl, rfl⟩) | (go_at_call 115; ((with_reducible refine (C1.out _).mono ?_); rintro e w' ⟨rfl, rfl⟩)) | (go_at_call 115; ((with_reducible refine (C2.out _).mono ?_); rintro e w' ⟨rfl, rfl⟩)))
  go_step3
  refine jump_goto ?_
  go_wp2_with fail
  rw [Exit.noGoto_ret]
  go_ret2
  exact ⟨rfl, Below.refl _ _⟩

set_option maxHeartbeats 1000000 in
theorem rnI_none_p_empty (s : ByteArray) (I M E : Nat) (w : World)
    (hs : s.size ≤ 1048576) (hI : I ≤ s.size) (hF : I ≤ M) (hM : M ≤ s.size)
    (C0 : Hid (∀ W, Calls Tryd.prog 133 #[.string s, .int .i64 0] W fun e w' => e = .returned (.int .i64 (I : Int)) ∧ W = w'))
    (C1 : Hid (∀ W, Calls Tryd.prog 115 #[.string s, .int .i64 (I : Int)] W fun e w' => e = .returned (.int .i64 (M : Int)) ∧ W = w'))
    (hE : M + 1 ≤ E) (hE2 : E ≤ s.size) (C2 : Hid (∀ W, Calls Tryd.prog 115 #[.string s, .int .i64 ((M : Int) + 1)] W fun e w' => e = .returned (.int .i64 (E : Int)) ∧ W = w'))
    (n1 : atB s I 45 = false) (n2 : atB s I 43 = false) (n3 : atB s M 46 = true)
    (hf : E ≤ 60) (hem : (s.extract I M ++ s.extract (M + 1) E).toList.isEmpty = true) :
    Calls Tryd.prog 117 #[.string s] w fun e w' => e = .returned (.tuple #[.int .i64 0, .int .i64 0]) ∧ Below w.heap.size w w' := by
  have hsl := sl_eq (P := Tryd.prog) Tryd.underlying9 s (I : Int) (M : Int) I M (by omega) rfl (by omega) (by omega)
  have hsl2 := sl_eq (P := Tryd.prog) Tryd.underlying9 s ((M : Int) + 1) (E : Int) (M + 1) E (by omega) rfl (by omega) (by omega)
  go_enter Tryd.func117, Tryd.ntmps117
  go_wp2_with fail
  refine wp_scope_ahead 0 rfl ?_
  go_wp2_with (first | (go_at_call 133; refine (C0.out _).mono ?_; rintro e w' ⟨rfl, rfl⟩) | (go_at_call 116; refine (pre_any _ _ _ _ (by omega)).mono ?_; rintro e w' ⟨rfl, rfl⟩) | (go_at_call 115; ((with_reducible refine (C1.out _).mono ?_); rintro e w' ⟨rfl, rfl⟩)) | (go_at_call 115; ((with_reducible refine (C2.out _).mono ?_); rintro e w' ⟨rfl, rfl⟩)))
  go_step3
  refine jump_goto ?_
  go_wp2_with fail
  rw [Exit.noGoto_ret]
  go_ret2
  exact ⟨rfl, Below.refl _ _⟩

set_option maxHeartbeats 1000000 in
theorem rnI_none_p_great (s : ByteArray) (I M E v : Nat) (w : World)
    (hs : s.size ≤ 1048576) (hI : I ≤ s.size) (hF : I ≤ M) (hM : M ≤ s.size)
    (C0 : Hid (∀ W, Calls Tryd.prog 133 #[.string s, .int .i64 0] W fun e w' => e = .returned (.int .i64 (I : Int)) ∧ W = w'))
    (C1 : Hid (∀ W, Calls Tryd.prog 115 #[.string s, .int .i64 (I : Int)] W fun e w' => e = .returned (.int .i64 (M : Int)) ∧ W = w'))
    (hE : M + 1 ≤ E) (hE2 : E ≤ s.size) (C2 : Hid (∀ W, Calls Tryd.prog 115 #[.string s, .int .i64 ((M : Int) + 1)] W fun e w' => e = .returned (.int .i64 (E : Int)) ∧ W = w'))
    (n1 : atB s I 45 = false) (n2 : atB s I 43 = false) (n3 : atB s M 46 = true)
    (hf : E ≤ 60) (hem : (s.extract I M ++ s.extract (M + 1) E).toList.isEmpty = false)
    (CC : Hid (∀ W, Calls Tryd.prog 134 #[.string (s.extract I M), .string (s.extract (M + 1) E)] W fun e w' => e = .returned (.int .i64 (v : Int)) ∧ Below W.heap.size W w')) (hv : 1000000000000 < v ∧ v ≤ 2000000000000) :
    Calls Tryd.prog 117 #[.string s] w fun e w' => e = .returned (.tuple #[.int .i64 0, .int .i64 0]) ∧ Below w.heap.size w w' := by
  obtain ⟨hv, hv2⟩ := hv
  have hsl := sl_eq (P := Tryd.prog) Tryd.underlying9 s (I : Int) (M : Int) I M (by omega) rfl (by omega) (by omega)
  have hsl2 := sl_eq (P := Tryd.prog) Tryd.underlying9 s ((M : Int) + 1) (E : Int) (M + 1) E (by omega) rfl (by omega) (by omega)
  go_enter Tryd.func117, Tryd.ntmps117
  go_wp2_with fail
  refine wp_scope_ahead 0 rfl ?_
  go_wp2_with (first | (go_at_call 133; refine (C0.out _).mono ?_; rintro e w' ⟨rfl, rfl⟩) | (go_at_call 116; refine (pre_any _ _ _ _ (by omega)).mono ?_; rintro e w' ⟨rfl, rfl⟩) | (go_at_call 115; ((with_reducible refine (C1.out _).mono ?_); rintro e w' ⟨rfl, rfl⟩)) | (go_at_call 115; ((with_reducible refine (C2.out _).mono ?_); rintro e w' ⟨rfl, rfl⟩)) | (go_at_call 134; refine (CC.out _).mono ?_; rintro e w1 ⟨rfl, hb⟩))
  go_step3
  refine jump_goto ?_
  go_wp2_with fail
  rw [Exit.noGoto_ret]
  go_ret2
  exact ⟨rfl, hb⟩

set_option maxHeartbeats 1000000 in
theorem rnI_none_p_yes (s : ByteArray) (I M E v : Nat) (w : World)
    (hs : s.size ≤ 1048576) (hI : I ≤ s.size) (hF : I ≤ M) (hM : M ≤ s.size)
    (C0 : Hid (∀ W, Calls Tryd.prog 133 #[.string s, .int .i64 0] W fun e w' => e = .returned (.int .i64 (I : Int)) ∧ W = w'))
    (C1 : Hid (∀ W, Calls Tryd.prog 115 #[.string s, .int .i64 (I : Int)] W fun e w' => e = .returned (.int .i64 (M : Int)) ∧ W = w'))
    (hE : M + 1 ≤ E) (hE2 : E ≤ s.size) (C2 : Hid (∀ W, Calls Tryd.prog 115 #[.string s, .int .i64 ((M : Int) + 1)] W fun e w' => e = .returned (.int .i64 (E : Int)) ∧ W = w'))
    (n1 : atB s I 45 = false) (n2 : atB s I 43 = false) (n3 : atB s M 46 = true)
    (hf : E ≤ 60) (hem : (s.extract I M ++ s.extract (M + 1) E).toList.isEmpty = false)
    (CC : Hid (∀ W, Calls Tryd.prog 134 #[.string (s.extract I M), .string (s.extract (M + 1) E)] W fun e w' => e = .returned (.int .i64 (v : Int)) ∧ Below W.heap.size W w')) (hv : v ≤ 1000000000000) :
    Calls Tryd.prog 117 #[.string s] w fun e w' => e = .returned (.tuple #[.int .i64 (v : Int), .int .i64 (E : Int)]) ∧ Below w.heap.size w w' := by
  have hsl := sl_eq (P := Tryd.prog) Tryd.underlying9 s (I : Int) (M : Int) I M (by omega) rfl (by omega) (by omega)
  have hsl2 := sl_eq (P := Tryd.prog) Tryd.underlying9 s ((M : Int) + 1) (E : Int) (M + 1) E (by omega) rfl (by omega) (by omega)
  go_enter Tryd.func117, Tryd.ntmps117
  go_wp2_with fail
  refine wp_scope_ahead 0 rfl ?_
  go_wp2_with (first | (go_at_call 133; refine (C0.out _).mono ?_; rintro e w' ⟨rfl, rfl⟩) | (go_at_call 116; refine (pre_any _ _ _ _ (by omega)).mono ?_; rintro e w' ⟨rfl, rfl⟩) | (go_at_call 115; ((with_reducible refine (C1.out _).mono ?_); rintro e w' ⟨rfl, rfl⟩)) | (go_at_call 115; ((with_reducible refine (C2.out _).mono ?_); rintro e w' ⟨rfl, rfl⟩)) | (go_at_call 134; refine (CC.out _).mono ?_; rintro e w1 ⟨rfl, hb⟩))
  rw [jump_ret]
  go_ret2
  exact ⟨rfl, hb⟩

set_option maxHeartbeats 1000000 in
theorem rnI_none_q_far (s : ByteArray) (I M : Nat) (w : World)
    (hs : s.size ≤ 1048576) (hI : I ≤ s.size) (hF : I ≤ M) (hM : M ≤ s.size)
    (C0 : Hid (∀ W, Calls Tryd.prog 133 #[.string s, .int .i64 0] W fun e w' => e = .returned (.int .i64 (I : Int)) ∧ W = w'))
    (C1 : Hid (∀ W, Calls Tryd.prog 115 #[.string s, .int .i64 (I : Int)] W fun e w' => e = .returned (.int .i64 (M : Int)) ∧ W = w'))
    (n1 : atB s I 45 = false) (n2 : atB s I 43 = false) (n3 : atB s M 46 = false)
    (hf : 60 < M) :
    Calls Tryd.prog 117 #[.string s] w fun e w' => e = .returned (.tuple #[.int .i64 0, .int .i64 0]) ∧ Below w.heap.size w w' := by
  have hsl := sl_eq (P := Tryd.prog) Tryd.underlying9 s (I : Int) (M : Int) I M (by omega) rfl (by omega) (by omega)
  go_enter Tryd.func117, Tryd.ntmps117
  go_wp2_with fail
  refine wp_scope_ahead 0 rfl ?_
  go_wp2_with (first | (go_at_call 133; refine (C0.out _).mono ?_; rintro e w' ⟨rfl, rfl⟩) | (go_at_call 116; refine (pre_any _ _ _ _ (by omega)).mono ?_; rintro e w' ⟨rfl, rfl⟩) | (go_at_call 115; ((with_reducible refine (C1.out _).mono ?_); rintro e w' ⟨rfl, rfl⟩)))
  go_step3
  refine jump_goto ?_
  go_wp2_with fail
  rw [Exit.noGoto_ret]
  go_ret2
  exact ⟨rfl, Below.refl _ _⟩

set_option maxHeartbeats 1000000 in
theorem rnI_none_q_empty (s : ByteArray) (I M : Nat) (w : World)
    (hs : s.size ≤ 1048576) (hI : I ≤ s.size) (hF : I ≤ M) (hM : M ≤ s.size)
    (C0 : Hid (∀ W, Calls Tryd.prog 133 #[.string s, .int .i64 0] W fun e w' => e = .returned (.int .i64 (I : Int)) ∧ W = w'))
    (C1 : Hid (∀ W, Calls Tryd.prog 115 #[.string s, .int .i64 (I : Int)] W fun e w' => e = .returned (.int .i64 (M : Int)) ∧ W = w'))
    (n1 : atB s I 45 = false) (n2 : atB s I 43 = false) (n3 : atB s M 46 = false)
    (hf : M ≤ 60) (hem : (s.extract I M ++ ByteArray.mk #[]).toList.isEmpty = true) :
    Calls Tryd.prog 117 #[.string s] w fun e w' => e = .returned (.tuple #[.int .i64 0, .int .i64 0]) ∧ Below w.heap.size w w' := by
  have hsl := sl_eq (P := Tryd.prog) Tryd.underlying9 s (I : Int) (M : Int) I M (by omega) rfl (by omega) (by omega)
  go_enter Tryd.func117, Tryd.ntmps117
  go_wp2_with fail
  refine wp_scope_ahead 0 rfl ?_
  go_wp2_with (first | (go_at_call 133; refine (C0.out _).mono ?_; rintro e w' ⟨rfl, rfl⟩) | (go_at_call 116; refine (pre_any _ _ _ _ (by omega)).mono ?_; rintro e w' ⟨rfl, rfl⟩) | (go_at_call 115; ((with_reducible refine (C1.out _).mono ?_); rintro e w' ⟨rfl, rfl⟩)))
  go_step3
  refine jump_goto ?_
  go_wp2_with fail
  rw [Exit.noGoto_ret]
  go_ret2
  exact ⟨rfl, Below.refl _ _⟩

set_option maxHeartbeats 1000000 in
theorem rnI_none_q_great (s : ByteArray) (I M v : Nat) (w : World)
    (hs : s.size ≤ 1048576) (hI : I ≤ s.size) (hF : I ≤ M) (hM : M ≤ s.size)
    (C0 : Hid (∀ W, Calls Tryd.prog 133 #[.string s, .int .i64 0] W fun e w' => e = .returned (.int .i64 (I : Int)) ∧ W = w'))
    (C1 : Hid (∀ W, Calls Tryd.prog 115 #[.string s, .int .i64 (I : Int)] W fun e w' => e = .returned (.int .i64 (M : Int)) ∧ W = w'))
    (n1 : atB s I 45 = false) (n2 : atB s I 43 = false) (n3 : atB s M 46 = false)
    (hf : M ≤ 60) (hem : (s.extract I M ++ ByteArray.mk #[]).toList.isEmpty = false)
    (CC : Hid (∀ W, Calls Tryd.prog 134 #[.string (s.extract I M), .string (ByteArray.mk #[])] W fun e w' => e = .returned (.int .i64 (v : Int)) ∧ Below W.heap.size W w')) (hv : 1000000000000 < v ∧ v ≤ 2000000000000) :
    Calls Tryd.prog 117 #[.string s] w fun e w' => e = .returned (.tuple #[.int .i64 0, .int .i64 0]) ∧ Below w.heap.size w w' := by
  obtain ⟨hv, hv2⟩ := hv
  have hsl := sl_eq (P := Tryd.prog) Tryd.underlying9 s (I : Int) (M : Int) I M (by omega) rfl (by omega) (by omega)
  go_enter Tryd.func117, Tryd.ntmps117
  go_wp2_with fail
  refine wp_scope_ahead 0 rfl ?_
  go_wp2_with (first | (go_at_call 133; refine (C0.out _).mono ?_; rintro e w' ⟨rfl, rfl⟩) | (go_at_call 116; refine (pre_any _ _ _ _ (by omega)).mono ?_; rintro e w' ⟨rfl, rfl⟩) | (go_at_call 115; ((with_reducible refine (C1.out _).mono ?_); rintro e w' ⟨rfl, rfl⟩)) | (go_at_call 134; refine (CC.out _).mono ?_; rintro e w1 ⟨rfl, hb⟩))
  go_step3
  refine jump_goto ?_
  go_wp2_with fail
  rw [Exit.noGoto_ret]
  go_ret2
  exact ⟨rfl, hb⟩

set_option maxHeartbeats 1000000 in
theorem rnI_none_q_yes (s : ByteArray) (I M v : Nat) (w : World)
    (hs : s.size ≤ 1048576) (hI : I ≤ s.size) (hF : I ≤ M) (hM : M ≤ s.size)
    (C0 : Hid (∀ W, Calls Tryd.prog 133 #[.string s, .int .i64 0] W fun e w' => e = .returned (.int .i64 (I : Int)) ∧ W = w'))
    (C1 : Hid (∀ W, Calls Tryd.prog 115 #[.string s, .int .i64 (I : Int)] W fun e w' => e = .returned (.int .i64 (M : Int)) ∧ W = w'))
    (n1 : atB s I 45 = false) (n2 : atB s I 43 = false) (n3 : atB s M 46 = false)
    (hf : M ≤ 60) (hem : (s.extract I M ++ ByteArray.mk #[]).toList.isEmpty = false)
    (CC : Hid (∀ W, Calls Tryd.prog 134 #[.string (s.extract I M), .string (ByteArray.mk #[])] W fun e w' => e = .returned (.int .i64 (v : Int)) ∧ Below W.heap.size W w')) (hv : v ≤ 1000000000000) :
    Calls Tryd.prog 117 #[.string s] w fun e w' => e = .returned (.tuple #[.int .i64 (v : Int), .int .i64 (M : Int)]) ∧ Below w.heap.size w w' := by
  have hsl := sl_eq (P := Tryd.prog) Tryd.underlying9 s (I : Int) (M : Int) I M (by omega) rfl (by omega) (by omega)
  go_enter Tryd.func117, Tryd.ntmps117
  go_wp2_with fail
  refine wp_scope_ahead 0 rfl ?_
  go_wp2_with (first | (go_at_call 133; refine (C0.out _).mono ?_; rintro e w' ⟨rfl, rfl⟩) | (go_at_call 116; refine (pre_any _ _ _ _ (by omega)).mono ?_; rintro e w' ⟨rfl, rfl⟩) | (go_at_call 115; ((with_reducible refine (C1.out _).mono ?_); rintro e w' ⟨rfl, rfl⟩)) | (go_at_call 134; refine (CC.out _).mono ?_; rintro e w1 ⟨rfl, hb⟩))
  rw [jump_ret]
  go_ret2
  exact ⟨rfl, hb⟩

end Go.Proofs.YtalobgebdpaecaaDoor.kit
