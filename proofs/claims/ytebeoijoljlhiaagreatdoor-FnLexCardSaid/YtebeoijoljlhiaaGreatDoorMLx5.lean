/-
  Contract of spec.l05One over this seat's translation: the word that begins at a place. Conditions: the text has at most 1048576 bytes, the place is one of it, the words ahead are known.
-/
import Derived.Test.YtebeoijoljlhiaaGreatDoorMLx3
import Derived.Test.YtebeoijoljlhiaaGreatDoorMUn5
import Derived.Test.YtebeoijoljlhiaaGreatDoorMRn2
import Derived.Test.YtebeoijoljlhiaaGreatDoorMRn4
namespace Go.Proofs.YtebeoijoljlhiaaGreatDoor.kit
open Go.ChangeShapes Go.WideShapes Go.ChangeAt Go.RowKit
set_option linter.unusedVariables false

theorem u8_eq (c : UInt8) (m : UInt8) (n : Int) (hn : (m.toNat : Int) = n) : ((c.toNat : Int) == n) = decide (c = m) := by
  rw [Bool.eq_iff_iff, beq_iff_eq, decide_eq_true_eq, ← hn]
  constructor
  · intro h; exact UInt8.toNat_inj.1 (by omega)
  · rintro rfl; rfl
set_option maxRecDepth 100000 in
set_option maxHeartbeats 1000000 in
theorem one_end (s : ByteArray) (i : Nat) (c : UInt8) (v : Value) (w : World) (hs : s.size ≤ 1048576) (hi : i < s.size) (hc : s[i] = c) (div : Bool) (h : c = 59 ∨ c = 10) :
    Calls Tryz.prog 75 #[.string s, .int .i64 (i : Int), v] w (WPost (-1) (wdc s i c div) w) := by
  have hb : c.toNat < 256 := c.toNat_lt
  have i0 : (0 : Int) ≤ (i : Int) := by omega
  have i1 : (i : Int) < (s.size : Int) := by omega
  have b59 := u8_eq c 59 59 rfl
  have b10 := u8_eq c 10 10 rfl
  have b34 := u8_eq c 34 34 rfl
  have b47 := u8_eq c 47 47 rfl
  have HB := Lib.hid (show ∀ o, Below w.heap.size w (w.alloc o) from fun o => (Below.refl w.heap.size w).alloc (Nat.le_refl _) _)
  have E := Lib.hid (wdc_end (s := s) (i := i) (div := div) h)
  rcases h with rfl | rfl
  all_goals
    go_enter Tryz.func75, Tryz.ntmps75
    go_wp2_with fail
    exact bodyPost_ret (v := .tuple #[.agg #[.int .i64 6, .string ⟨#[]⟩, .int .i64 0, .int .i64 0], .int .i64 ((i : Int) + 1)]) (by simp [results, Tryz.results75, go_sem]) rfl ⟨⟨6, ⟨#[]⟩, 0, 0⟩, _, rfl, .inr ⟨_, E.out, rfl, by go_num⟩, HB.out _⟩
set_option maxRecDepth 100000 in
set_option maxHeartbeats 1000000 in
theorem one_name (s : ByteArray) (i : Nat) (c : UInt8) (v : Value) (w : World) (hs : s.size ≤ 1048576) (hi : i < s.size) (hc : s[i] = c) (div : Bool) (h0 : ¬ (c = 59 ∨ c = 10)) (h1 : letB c.toNat = true) :
    Calls Tryz.prog 75 #[.string s, .int .i64 (i : Int), v] w (WPost (-1) (wdc s i c div) w) := by
  have hb : c.toNat < 256 := c.toNat_lt
  have i0 : (0 : Int) ≤ (i : Int) := by omega
  have i1 : (i : Int) < (s.size : Int) := by omega
  have b59 := u8_eq c 59 59 rfl
  have b10 := u8_eq c 10 10 rfl
  have b34 := u8_eq c 34 34 rfl
  have b47 := u8_eq c 47 47 rfl
  have HB := Lib.hid (show ∀ o, Below w.heap.size w (w.alloc o) from fun o => (Below.refl w.heap.size w).alloc (Nat.le_refl _) _)
  have n59 : ((c.toNat : Int) == 59) = false := by rw [b59, decide_eq_false_iff_not]; exact fun e => h0 (.inl e)
  have n10 : ((c.toNat : Int) == 10) = false := by rw [b10, decide_eq_false_iff_not]; exact fun e => h0 (.inr e)
  clear b59 b10
  have W := wdc_name (s := s) (i := i) (div := div) h0 h1
  have hk := runEnd_le signB s i (by omega)
  have HN := Lib.hid (fun W => name05_any s i W hs (by omega))
  have hsl : ∀ (W : World), (Instr.slice 9 (.string s) (some (.int .i64 (i : Int))) (some (.int .i64 (runEnd signB s i : Int))) none).run Tryz.prog W = .ok (.string (s.extract i (runEnd signB s i))) W := by
    intro W
    rw [run_slice_string W _ s .i64 .i64 _ _ Tryz.underlying9 (by omega) (by omega) (by omega)]; rfl
  have ht : (s.extract i (runEnd signB s i)).size ≤ maxLen := by rw [ByteArray.size_extract]; unfold maxLen; omega
  generalize runEnd signB s i = k at *
  generalize s.extract i k = t at *
  have HK := Lib.hid (fun W => specIsKey_any t W)
  have HM := Lib.hid (fun W => specName_any t W ht)
  clear ht
  have k0 : (0 : Int) ≤ (k : Int) := by omega
  cases d1 : keyB t.toList
  · rw [d1] at HK W
    cases d2 : nameB t
    · rw [d2] at HM W
      have E := Lib.hid W
      clear W
      go_enter Tryz.func75, Tryz.ntmps75
      go_wp2_with (first | (go_at_call 121; refine (let_any _ _ (by omega) (by omega)).mono ?_; rintro e w' ⟨rfl, rfl⟩) | (go_at_call 122; refine (HN.out _).mono ?_; rintro e w' ⟨rfl, rfl⟩))
      refine (HK.out _).mono ?_
      rintro e w1 ⟨rfl, hb1⟩
      obtain ⟨hc1, hf1⟩ := bcell hb1
      have z1 : w.heap.size < w1.heap.size := by have := hb1.size; simp at this; omega
      have HB1 := Lib.hid ((HB.out _).trans (hb1.mono (HB.out _).size))
      clear hb1
      go_wp2_with fail
      refine (HM.out _).mono ?_
      rintro e w2 ⟨rfl, rfl⟩
      go_wp2_with fail
      exact bodyPost_ret (v := .tuple #[.agg #[.int .i64 0, .string ⟨#[]⟩, .int .i64 0, .int .i64 0], .int .i64 (-1)]) (by simp [results, Tryz.results75, go_sem, *]) rfl ⟨⟨0, ⟨#[]⟩, 0, 0⟩, _, rfl, .inl ⟨E.out, rfl⟩, (by first | exact HB1.out | exact ((((HB1.out).setCell (p := ⟨w.heap.size, 0, none⟩) (Nat.le_refl _) _).setCell (p := ⟨w.heap.size, 1, none⟩) (Nat.le_refl _) _).setCell (p := ⟨w.heap.size, 2, none⟩) (Nat.le_refl _) _).setCell (p := ⟨w.heap.size, 3, none⟩) (Nat.le_refl _) _)⟩
    · rw [d2] at HM W
      have E := Lib.hid W
      clear W
      go_enter Tryz.func75, Tryz.ntmps75
      go_wp2_with (first | (go_at_call 121; refine (let_any _ _ (by omega) (by omega)).mono ?_; rintro e w' ⟨rfl, rfl⟩) | (go_at_call 122; refine (HN.out _).mono ?_; rintro e w' ⟨rfl, rfl⟩))
      refine (HK.out _).mono ?_
      rintro e w1 ⟨rfl, hb1⟩
      obtain ⟨hc1, hf1⟩ := bcell hb1
      have z1 : w.heap.size < w1.heap.size := by have := hb1.size; simp at this; omega
      have HB1 := Lib.hid ((HB.out _).trans (hb1.mono (HB.out _).size))
      clear hb1
      go_wp2_with fail
      refine (HM.out _).mono ?_
      rintro e w2 ⟨rfl, rfl⟩
      go_wp2_with fail
      exact bodyPost_ret (v := .tuple #[.agg #[.int .i64 3, .string t, .int .i64 0, .int .i64 0], .int .i64 (k : Int)]) (by simp [results, Tryz.results75, go_sem, *]) rfl ⟨⟨3, t, 0, 0⟩, _, rfl, .inr ⟨_, E.out, rfl, by first | rfl | go_num⟩, (by first | exact HB1.out | exact ((((HB1.out).setCell (p := ⟨w.heap.size, 0, none⟩) (Nat.le_refl _) _).setCell (p := ⟨w.heap.size, 1, none⟩) (Nat.le_refl _) _).setCell (p := ⟨w.heap.size, 2, none⟩) (Nat.le_refl _) _).setCell (p := ⟨w.heap.size, 3, none⟩) (Nat.le_refl _) _)⟩
  · rw [d1] at HK W
    have E := Lib.hid W
    clear W
    go_enter Tryz.func75, Tryz.ntmps75
    go_wp2_with (first | (go_at_call 121; refine (let_any _ _ (by omega) (by omega)).mono ?_; rintro e w' ⟨rfl, rfl⟩) | (go_at_call 122; refine (HN.out _).mono ?_; rintro e w' ⟨rfl, rfl⟩))
    refine (HK.out _).mono ?_
    rintro e w1 ⟨rfl, hb1⟩
    obtain ⟨hc1, hf1⟩ := bcell hb1
    have z1 : w.heap.size < w1.heap.size := by have := hb1.size; simp at this; omega
    have HB1 := Lib.hid ((HB.out _).trans (hb1.mono (HB.out _).size))
    clear hb1
    go_wp2_with fail
    exact bodyPost_ret (v := .tuple #[.agg #[.int .i64 4, .string t, .int .i64 0, .int .i64 0], .int .i64 (k : Int)]) (by simp [results, Tryz.results75, go_sem, *]) rfl ⟨⟨4, t, 0, 0⟩, _, rfl, .inr ⟨_, E.out, rfl, by first | rfl | go_num⟩, (by first | exact HB1.out | exact ((((HB1.out).setCell (p := ⟨w.heap.size, 0, none⟩) (Nat.le_refl _) _).setCell (p := ⟨w.heap.size, 1, none⟩) (Nat.le_refl _) _).setCell (p := ⟨w.heap.size, 2, none⟩) (Nat.le_refl _) _).setCell (p := ⟨w.heap.size, 3, none⟩) (Nat.le_refl _) _)⟩
set_option maxRecDepth 100000 in
set_option maxHeartbeats 1000000 in
theorem one_num (s : ByteArray) (i : Nat) (c : UInt8) (v : Value) (w : World) (hs : s.size ≤ 1048576) (hi : i < s.size) (hc : s[i] = c) (div : Bool) (h0 : ¬ (c = 59 ∨ c = 10)) (h1 : letB c.toNat = false) (h2 : digB c.toNat = true) :
    Calls Tryz.prog 75 #[.string s, .int .i64 (i : Int), v] w (WPost (-1) (wdc s i c div) w) := by
  have hb : c.toNat < 256 := c.toNat_lt
  have i0 : (0 : Int) ≤ (i : Int) := by omega
  have i1 : (i : Int) < (s.size : Int) := by omega
  have b59 := u8_eq c 59 59 rfl
  have b10 := u8_eq c 10 10 rfl
  have b34 := u8_eq c 34 34 rfl
  have b47 := u8_eq c 47 47 rfl
  have HB := Lib.hid (show ∀ o, Below w.heap.size w (w.alloc o) from fun o => (Below.refl w.heap.size w).alloc (Nat.le_refl _) _)
  have n59 : ((c.toNat : Int) == 59) = false := by rw [b59, decide_eq_false_iff_not]; exact fun e => h0 (.inl e)
  have n10 : ((c.toNat : Int) == 10) = false := by rw [b10, decide_eq_false_iff_not]; exact fun e => h0 (.inr e)
  clear b59 b10
  have W := wdc_num (s := s) (i := i) (div := div) h0 h1 h2
  have hk := numEnd_le s i (by omega)
  have hl := runEnd_le digB s i (by omega)
  have HN := Lib.hid (fun W => number05_any s i W hs (by omega))
  have hsl : ∀ (W : World), (Instr.slice 9 (.string s) (some (.int .i64 (i : Int))) (some (.int .i64 (numEnd s i : Int))) none).run Tryz.prog W = .ok (.string (s.extract i (numEnd s i))) W := by
    intro W
    rw [run_slice_string W _ s .i64 .i64 _ _ Tryz.underlying9 (by omega) (by omega) (by omega)]; rfl
  have ht : (s.extract i (numEnd s i)).size ≤ 1048576 := by rw [ByteArray.size_extract]; omega
  generalize numEnd s i = k at *
  generalize s.extract i k = t at *
  have HR := Lib.hid (fun W => specRn_any t W ht)
  clear ht hl
  have k0 : (0 : Int) ≤ (k : Int) := by omega
  by_cases d1 : rnPlace t = 0
  · rw [if_pos d1] at W
    have E := Lib.hid W
    clear W
    rw [d1] at HR
    generalize rnNum t = q at *
    go_enter Tryz.func75, Tryz.ntmps75
    go_wp2_with (first | (go_at_call 121; refine (let_any _ _ (by omega) (by omega)).mono ?_; rintro e w' ⟨rfl, rfl⟩) | (go_at_call 124; refine (dig_any _ _ (by omega) (by omega)).mono ?_; rintro e w' ⟨rfl, rfl⟩) | (go_at_call 125; refine (HN.out _).mono ?_; rintro e w' ⟨rfl, rfl⟩) | (go_at_call 126; refine (HR.out _).mono ?_; rintro e w' ⟨rfl, rfl⟩))
    exact bodyPost_ret (v := .tuple #[.agg #[.int .i64 0, .string ⟨#[]⟩, .int .i64 0, .int .i64 0], .int .i64 (-1)]) (by simp [results, Tryz.results75, go_sem, *]) rfl ⟨⟨0, ⟨#[]⟩, 0, 0⟩, _, rfl, .inl ⟨E.out, rfl⟩, (by first | exact HB.out _ | exact ((((HB.out _).setCell (p := ⟨w.heap.size, 0, none⟩) (Nat.le_refl _) _).setCell (p := ⟨w.heap.size, 1, none⟩) (Nat.le_refl _) _).setCell (p := ⟨w.heap.size, 2, none⟩) (Nat.le_refl _) _).setCell (p := ⟨w.heap.size, 3, none⟩) (Nat.le_refl _) _)⟩
  · rw [if_neg d1] at W
    have E := Lib.hid W
    clear W
    have d2 : (rnPlace t == 0) = false := by simpa using d1
    clear d1
    generalize rnNum t = q at *
    generalize rnPlace t = pl at *
    go_enter Tryz.func75, Tryz.ntmps75
    go_wp2_with (first | (go_at_call 121; refine (let_any _ _ (by omega) (by omega)).mono ?_; rintro e w' ⟨rfl, rfl⟩) | (go_at_call 124; refine (dig_any _ _ (by omega) (by omega)).mono ?_; rintro e w' ⟨rfl, rfl⟩) | (go_at_call 125; refine (HN.out _).mono ?_; rintro e w' ⟨rfl, rfl⟩) | (go_at_call 126; refine (HR.out _).mono ?_; rintro e w' ⟨rfl, rfl⟩))
    exact bodyPost_ret (v := .tuple #[.agg #[.int .i64 0, .string ⟨#[]⟩, .int .i64 q, .int .i64 0], .int .i64 (k : Int)]) (by simp [results, Tryz.results75, go_sem, *]) rfl ⟨⟨0, ⟨#[]⟩, q, 0⟩, _, rfl, .inr ⟨_, E.out, rfl, by first | rfl | go_num⟩, (by first | exact HB.out _ | exact ((((HB.out _).setCell (p := ⟨w.heap.size, 0, none⟩) (Nat.le_refl _) _).setCell (p := ⟨w.heap.size, 1, none⟩) (Nat.le_refl _) _).setCell (p := ⟨w.heap.size, 2, none⟩) (Nat.le_refl _) _).setCell (p := ⟨w.heap.size, 3, none⟩) (Nat.le_refl _) _)⟩
set_option maxRecDepth 100000 in
set_option maxHeartbeats 1000000 in
theorem one_str (s : ByteArray) (i : Nat) (c : UInt8) (v : Value) (w : World) (hs : s.size ≤ 1048576) (hi : i < s.size) (hc : s[i] = c) (div : Bool) (h0 : ¬ (c = 59 ∨ c = 10)) (h1 : letB c.toNat = false) (h2 : digB c.toNat = false) (h3 : c = 34) :
    Calls Tryz.prog 75 #[.string s, .int .i64 (i : Int), v] w (WPost (-1) (wdc s i c div) w) := by
  have hb : c.toNat < 256 := c.toNat_lt
  have i0 : (0 : Int) ≤ (i : Int) := by omega
  have i1 : (i : Int) < (s.size : Int) := by omega
  have b59 := u8_eq c 59 59 rfl
  have b10 := u8_eq c 10 10 rfl
  have b34 := u8_eq c 34 34 rfl
  have b47 := u8_eq c 47 47 rfl
  have HB := Lib.hid (show ∀ o, Below w.heap.size w (w.alloc o) from fun o => (Below.refl w.heap.size w).alloc (Nat.le_refl _) _)
  have n59 : ((c.toNat : Int) == 59) = false := by rw [b59, decide_eq_false_iff_not]; exact fun e => h0 (.inl e)
  have n10 : ((c.toNat : Int) == 10) = false := by rw [b10, decide_eq_false_iff_not]; exact fun e => h0 (.inr e)
  clear b59 b10
  have n34 : ((c.toNat : Int) == 34) = true := by rw [b34, decide_eq_true_eq]; exact h3
  have W := wdc_str (s := s) (i := i) (div := div) h0 h1 h2 h3
  have HK := Lib.hid (fun W => specUn_any s i W hs (by omega) (by omega))
  clear b34 b47 h3
  cases hu : unq s (i : Int) with
  | none =>
    rw [hu] at HK W
    have E := Lib.hid W
    clear W
    unfold tupU at HK
    go_enter Tryz.func75, Tryz.ntmps75
    go_wp2_with (first | (go_at_call 121; refine (let_any _ _ (by omega) (by omega)).mono ?_; rintro e w' ⟨rfl, rfl⟩) | (go_at_call 124; refine (dig_any _ _ (by omega) (by omega)).mono ?_; rintro e w' ⟨rfl, rfl⟩))
    refine (HK.out _).mono ?_
    rintro e w1 ⟨rfl, hb1⟩
    obtain ⟨hc1, hf1⟩ := bcell hb1
    have z1 : w.heap.size < w1.heap.size := by have := hb1.size; simp at this; omega
    have HB1 := Lib.hid ((HB.out _).trans (hb1.mono (HB.out _).size))
    clear hb1
    go_wp2_with fail
    exact bodyPost_ret (v := .tuple #[.agg #[.int .i64 1, .string ⟨#[]⟩, .int .i64 0, .int .i64 0], .int .i64 (-1)]) (by simp [results, Tryz.results75, go_sem, *]) rfl ⟨⟨1, ⟨#[]⟩, 0, 0⟩, _, rfl, .inl ⟨E.out, rfl⟩, (by first | exact HB1.out | exact ((((HB1.out).setCell (p := ⟨w.heap.size, 0, none⟩) (Nat.le_refl _) _).setCell (p := ⟨w.heap.size, 1, none⟩) (Nat.le_refl _) _).setCell (p := ⟨w.heap.size, 2, none⟩) (Nat.le_refl _) _).setCell (p := ⟨w.heap.size, 3, none⟩) (Nat.le_refl _) _)⟩
  | some x =>
    obtain ⟨l, n⟩ := x
    rw [hu] at HK W
    have E := Lib.hid W
    clear W
    unfold tupU at HK
    simp only at HK
    go_enter Tryz.func75, Tryz.ntmps75
    go_wp2_with (first | (go_at_call 121; refine (let_any _ _ (by omega) (by omega)).mono ?_; rintro e w' ⟨rfl, rfl⟩) | (go_at_call 124; refine (dig_any _ _ (by omega) (by omega)).mono ?_; rintro e w' ⟨rfl, rfl⟩))
    refine (HK.out _).mono ?_
    rintro e w1 ⟨rfl, hb1⟩
    obtain ⟨hc1, hf1⟩ := bcell hb1
    have z1 : w.heap.size < w1.heap.size := by have := hb1.size; simp at this; omega
    have HB1 := Lib.hid ((HB.out _).trans (hb1.mono (HB.out _).size))
    clear hb1
    go_wp2_with fail
    exact bodyPost_ret (v := .tuple #[.agg #[.int .i64 1, .string ⟨l.toArray⟩, .int .i64 0, .int .i64 0], .int .i64 (n : Int)]) (by simp [results, Tryz.results75, go_sem, *]) rfl ⟨⟨1, ⟨l.toArray⟩, 0, 0⟩, _, rfl, .inr ⟨_, E.out, rfl, by first | rfl | go_num⟩, (by first | exact HB1.out | exact ((((HB1.out).setCell (p := ⟨w.heap.size, 0, none⟩) (Nat.le_refl _) _).setCell (p := ⟨w.heap.size, 1, none⟩) (Nat.le_refl _) _).setCell (p := ⟨w.heap.size, 2, none⟩) (Nat.le_refl _) _).setCell (p := ⟨w.heap.size, 3, none⟩) (Nat.le_refl _) _)⟩
set_option maxRecDepth 100000 in
set_option maxHeartbeats 1000000 in
theorem one_re (s : ByteArray) (i : Nat) (c : UInt8) (v : Value) (w : World) (hs : s.size ≤ 1048576) (hi : i < s.size) (hc : s[i] = c) (div : Bool) (h0 : ¬ (c = 59 ∨ c = 10)) (h1 : letB c.toNat = false) (h2 : digB c.toNat = false) (h3 : c ≠ 34) (h4 : c = 47 ∧ div = false) (F0 : Hid (∀ W, Below w.heap.size w W → Calls Tryz.prog 128 #[v] W fun e w' => e = .returned (.bool div) ∧ Below W.heap.size W w')) :
    Calls Tryz.prog 75 #[.string s, .int .i64 (i : Int), v] w (WPost (-1) (wdc s i c div) w) := by
  have hb : c.toNat < 256 := c.toNat_lt
  have i0 : (0 : Int) ≤ (i : Int) := by omega
  have i1 : (i : Int) < (s.size : Int) := by omega
  have b59 := u8_eq c 59 59 rfl
  have b10 := u8_eq c 10 10 rfl
  have b34 := u8_eq c 34 34 rfl
  have b47 := u8_eq c 47 47 rfl
  have HB := Lib.hid (show ∀ o, Below w.heap.size w (w.alloc o) from fun o => (Below.refl w.heap.size w).alloc (Nat.le_refl _) _)
  have n59 : ((c.toNat : Int) == 59) = false := by rw [b59, decide_eq_false_iff_not]; exact fun e => h0 (.inl e)
  have n10 : ((c.toNat : Int) == 10) = false := by rw [b10, decide_eq_false_iff_not]; exact fun e => h0 (.inr e)
  clear b59 b10
  have n34 : ((c.toNat : Int) == 34) = false := by rw [b34, decide_eq_false_iff_not]; exact h3
  have n47 : ((c.toNat : Int) == 47) = true := by rw [b47, decide_eq_true_eq]; exact h4.1
  have W := wdc_re (s := s) (i := i) (div := div) h0 h1 h2 h3 h4
  obtain ⟨_, rfl⟩ := h4
  have HR := Lib.hid (fun W => re05_any s (i + 1) W hs (by omega) (by omega))
  rw [show ((i + 1 : Nat) : Int) = (i : Int) + 1 by omega] at HR
  have HK := Lib.hid (fun o => F0.out (w.alloc o) (HB.out o))
  have hst := stroke_le s (i + 1) _ (i + 1) rfl
  clear b34 b47 h3
  have j1 : (i : Int) + 1 ≤ (s.size : Int) := by omega
  cases hu : stroke s (i + 1) (i + 1) with
  | none =>
    rw [hu] at HR W
    have E := Lib.hid W
    clear W hst
    unfold noneI at HR
    simp only at HR
    go_enter Tryz.func75, Tryz.ntmps75
    go_wp2_with (first | (go_at_call 121; refine (let_any _ _ (by omega) (by omega)).mono ?_; rintro e w' ⟨rfl, rfl⟩) | (go_at_call 124; refine (dig_any _ _ (by omega) (by omega)).mono ?_; rintro e w' ⟨rfl, rfl⟩))
    refine (HK.out _).mono ?_
    rintro e w1 ⟨rfl, hb1⟩
    obtain ⟨hc1, hf1⟩ := bcell hb1
    have z1 : w.heap.size < w1.heap.size := by have := hb1.size; simp at this; omega
    have HB1 := Lib.hid ((HB.out _).trans (hb1.mono (HB.out _).size))
    clear hb1
    go_wp2_with fail
    refine (HR.out _).mono ?_
    rintro e w2 ⟨rfl, rfl⟩
    go_wp2_with fail
    exact bodyPost_ret (v := .tuple #[.agg #[.int .i64 0, .string ⟨#[]⟩, .int .i64 0, .int .i64 0], .int .i64 (-1)]) (by simp [results, Tryz.results75, go_sem, *]) rfl ⟨⟨0, ⟨#[]⟩, 0, 0⟩, _, rfl, .inl ⟨E.out, rfl⟩, (by first | exact HB1.out | exact ((((HB1.out).setCell (p := ⟨w.heap.size, 0, none⟩) (Nat.le_refl _) _).setCell (p := ⟨w.heap.size, 1, none⟩) (Nat.le_refl _) _).setCell (p := ⟨w.heap.size, 2, none⟩) (Nat.le_refl _) _).setCell (p := ⟨w.heap.size, 3, none⟩) (Nat.le_refl _) _)⟩
  | some k =>
    rw [hu] at HR W
    simp only [Option.map_some] at W
    have hk := hst k hu
    have E := Lib.hid W
    clear W hst
    unfold noneI at HR
    simp only at HR
    have hsl : ∀ (W : World), (Instr.slice 9 (.string s) (some (.int .i64 ((i : Int) + 1))) (some (.int .i64 (k : Int))) none).run Tryz.prog W = .ok (.string (s.extract (i + 1) k)) W := by
      intro W
      rw [run_slice_string W _ s .i64 .i64 _ _ Tryz.underlying9 (by omega) (by omega) (by omega)]
      congr 2 <;> omega
    generalize s.extract (i + 1) k = t at *
    have k0 : ¬ (k : Int) < 0 := by omega
    have k1 : (k : Int) < (s.size : Int) := by omega
    go_enter Tryz.func75, Tryz.ntmps75
    go_wp2_with (first | (go_at_call 121; refine (let_any _ _ (by omega) (by omega)).mono ?_; rintro e w' ⟨rfl, rfl⟩) | (go_at_call 124; refine (dig_any _ _ (by omega) (by omega)).mono ?_; rintro e w' ⟨rfl, rfl⟩))
    refine (HK.out _).mono ?_
    rintro e w1 ⟨rfl, hb1⟩
    obtain ⟨hc1, hf1⟩ := bcell hb1
    have z1 : w.heap.size < w1.heap.size := by have := hb1.size; simp at this; omega
    have HB1 := Lib.hid ((HB.out _).trans (hb1.mono (HB.out _).size))
    clear hb1
    go_wp2_with fail
    refine (HR.out _).mono ?_
    rintro e w2 ⟨rfl, rfl⟩
    go_wp2_with fail
    exact bodyPost_ret (v := .tuple #[.agg #[.int .i64 2, .string t, .int .i64 0, .int .i64 0], .int .i64 ((k : Int) + 1)]) (by simp [results, Tryz.results75, go_sem, *]) rfl ⟨⟨2, t, 0, 0⟩, _, rfl, .inr ⟨_, E.out, rfl, by first | rfl | go_num⟩, (by first | exact HB1.out | exact ((((HB1.out).setCell (p := ⟨w.heap.size, 0, none⟩) (Nat.le_refl _) _).setCell (p := ⟨w.heap.size, 1, none⟩) (Nat.le_refl _) _).setCell (p := ⟨w.heap.size, 2, none⟩) (Nat.le_refl _) _).setCell (p := ⟨w.heap.size, 3, none⟩) (Nat.le_refl _) _)⟩
set_option maxRecDepth 100000 in
set_option maxHeartbeats 1000000 in
theorem one_sign1 (s : ByteArray) (i : Nat) (c : UInt8) (v : Value) (w : World) (hs : s.size ≤ 1048576) (hi : i < s.size) (hc : s[i] = c) (div : Bool) (h0 : ¬ (c = 59 ∨ c = 10)) (h1 : letB c.toNat = false) (h2 : digB c.toNat = false) (h3 : c ≠ 34) (h4 : c = 47) (h5 : div = true) (F0 : Hid (∀ W, Below w.heap.size w W → Calls Tryz.prog 128 #[v] W fun e w' => e = .returned (.bool div) ∧ Below W.heap.size W w')) :
    Calls Tryz.prog 75 #[.string s, .int .i64 (i : Int), v] w (WPost (-1) (wdc s i c div) w) := by
  have hb : c.toNat < 256 := c.toNat_lt
  have i0 : (0 : Int) ≤ (i : Int) := by omega
  have i1 : (i : Int) < (s.size : Int) := by omega
  have b59 := u8_eq c 59 59 rfl
  have b10 := u8_eq c 10 10 rfl
  have b34 := u8_eq c 34 34 rfl
  have b47 := u8_eq c 47 47 rfl
  have HB := Lib.hid (show ∀ o, Below w.heap.size w (w.alloc o) from fun o => (Below.refl w.heap.size w).alloc (Nat.le_refl _) _)
  have n59 : ((c.toNat : Int) == 59) = false := by rw [b59, decide_eq_false_iff_not]; exact fun e => h0 (.inl e)
  have n10 : ((c.toNat : Int) == 10) = false := by rw [b10, decide_eq_false_iff_not]; exact fun e => h0 (.inr e)
  clear b59 b10
  have n34 : ((c.toNat : Int) == 34) = false := by rw [b34, decide_eq_false_iff_not]; exact h3
  have n47 : ((c.toNat : Int) == 47) = true := by rw [b47, decide_eq_true_eq]; exact h4
  have W := wdc_sign (s := s) (i := i) (div := div) h0 h1 h2 h3 (by rw [h5]; simp)
  subst h5
  have HK := Lib.hid (fun o => F0.out (w.alloc o) (HB.out o))
  have hln := sgn_len (s.data.toList.drop i)
  have HS := Lib.hid (fun W => sign05_any s i W hs hi)
  have hl2 : (sgn (s.data.toList.drop i)).length ≤ 1048576 := by simp at hln; omega
  clear b34 b47 h3 hln
  generalize sgn (s.data.toList.drop i) = g at *
  cases g with
  | nil =>
    rw [if_pos rfl] at W
    have E := Lib.hid W
    clear W
    go_enter Tryz.func75, Tryz.ntmps75
    go_wp2_with (first | (go_at_call 121; refine (let_any _ _ (by omega) (by omega)).mono ?_; rintro e w' ⟨rfl, rfl⟩) | (go_at_call 124; refine (dig_any _ _ (by omega) (by omega)).mono ?_; rintro e w' ⟨rfl, rfl⟩))
    refine (HK.out _).mono ?_
    rintro e w1 ⟨rfl, hb1⟩
    obtain ⟨hc1, hf1⟩ := bcell hb1
    have z1 : w.heap.size < w1.heap.size := by have := hb1.size; simp at this; omega
    have HB1 := Lib.hid ((HB.out _).trans (hb1.mono (HB.out _).size))
    clear hb1
    go_wp2_with fail
    refine (HS.out _).mono ?_
    rintro e w2 ⟨rfl, hb2⟩
    obtain ⟨hc2, hf2⟩ := bcell hb2
    have z2 : w.heap.size < w2.heap.size := by have := hb2.size; omega
    have HB2 := Lib.hid (HB1.out.trans (hb2.mono HB1.out.size))
    clear hb2
    go_wp2_with fail
    exact bodyPost_ret (v := .tuple #[.agg #[.int .i64 0, .string ⟨#[]⟩, .int .i64 0, .int .i64 0], .int .i64 (-1)]) (by simp [results, Tryz.results75, go_sem, *]) rfl ⟨⟨0, ⟨#[]⟩, 0, 0⟩, _, rfl, .inl ⟨E.out, rfl⟩, (by first | exact HB2.out | exact ((((HB2.out).setCell (p := ⟨w.heap.size, 0, none⟩) (Nat.le_refl _) _).setCell (p := ⟨w.heap.size, 1, none⟩) (Nat.le_refl _) _).setCell (p := ⟨w.heap.size, 2, none⟩) (Nat.le_refl _) _).setCell (p := ⟨w.heap.size, 3, none⟩) (Nat.le_refl _) _)⟩
  | cons g0 gs =>
    rw [if_neg (by simp)] at W
    have hwr : wrap64 ((i : Int) + ((gs.length : Int) + 1)) = (i : Int) + ((gs.length : Int) + 1) := by simp only [List.length_cons] at hl2; unfold wrap64; omega
    have E := Lib.hid W
    clear W
    go_enter Tryz.func75, Tryz.ntmps75
    go_wp2_with (first | (go_at_call 121; refine (let_any _ _ (by omega) (by omega)).mono ?_; rintro e w' ⟨rfl, rfl⟩) | (go_at_call 124; refine (dig_any _ _ (by omega) (by omega)).mono ?_; rintro e w' ⟨rfl, rfl⟩))
    refine (HK.out _).mono ?_
    rintro e w1 ⟨rfl, hb1⟩
    obtain ⟨hc1, hf1⟩ := bcell hb1
    have z1 : w.heap.size < w1.heap.size := by have := hb1.size; simp at this; omega
    have HB1 := Lib.hid ((HB.out _).trans (hb1.mono (HB.out _).size))
    clear hb1
    go_wp2_with fail
    refine (HS.out _).mono ?_
    rintro e w2 ⟨rfl, hb2⟩
    obtain ⟨hc2, hf2⟩ := bcell hb2
    have z2 : w.heap.size < w2.heap.size := by have := hb2.size; omega
    have HB2 := Lib.hid (HB1.out.trans (hb2.mono HB1.out.size))
    clear hb2
    go_wp2_with fail
    exact bodyPost_ret (v := .tuple #[.agg #[.int .i64 5, .string ⟨(g0 :: gs).toArray⟩, .int .i64 0, .int .i64 0], .int .i64 ((i : Int) + ((g0 :: gs).length : Int))]) (by simp [results, Tryz.results75, go_sem, *]) rfl ⟨⟨5, ⟨(g0 :: gs).toArray⟩, 0, 0⟩, _, rfl, .inr ⟨_, E.out, rfl, by first | rfl | go_num⟩, (by first | exact HB2.out | exact ((((HB2.out).setCell (p := ⟨w.heap.size, 0, none⟩) (Nat.le_refl _) _).setCell (p := ⟨w.heap.size, 1, none⟩) (Nat.le_refl _) _).setCell (p := ⟨w.heap.size, 2, none⟩) (Nat.le_refl _) _).setCell (p := ⟨w.heap.size, 3, none⟩) (Nat.le_refl _) _)⟩
set_option maxRecDepth 100000 in
set_option maxHeartbeats 1000000 in
theorem one_sign2 (s : ByteArray) (i : Nat) (c : UInt8) (v : Value) (w : World) (hs : s.size ≤ 1048576) (hi : i < s.size) (hc : s[i] = c) (div : Bool) (h0 : ¬ (c = 59 ∨ c = 10)) (h1 : letB c.toNat = false) (h2 : digB c.toNat = false) (h3 : c ≠ 34) (h4 : c ≠ 47) :
    Calls Tryz.prog 75 #[.string s, .int .i64 (i : Int), v] w (WPost (-1) (wdc s i c div) w) := by
  have hb : c.toNat < 256 := c.toNat_lt
  have i0 : (0 : Int) ≤ (i : Int) := by omega
  have i1 : (i : Int) < (s.size : Int) := by omega
  have b59 := u8_eq c 59 59 rfl
  have b10 := u8_eq c 10 10 rfl
  have b34 := u8_eq c 34 34 rfl
  have b47 := u8_eq c 47 47 rfl
  have HB := Lib.hid (show ∀ o, Below w.heap.size w (w.alloc o) from fun o => (Below.refl w.heap.size w).alloc (Nat.le_refl _) _)
  have n59 : ((c.toNat : Int) == 59) = false := by rw [b59, decide_eq_false_iff_not]; exact fun e => h0 (.inl e)
  have n10 : ((c.toNat : Int) == 10) = false := by rw [b10, decide_eq_false_iff_not]; exact fun e => h0 (.inr e)
  clear b59 b10
  have n34 : ((c.toNat : Int) == 34) = false := by rw [b34, decide_eq_false_iff_not]; exact h3
  have n47 : ((c.toNat : Int) == 47) = false := by rw [b47, decide_eq_false_iff_not]; exact h4
  have W := wdc_sign (s := s) (i := i) (div := div) h0 h1 h2 h3 (fun g => h4 g.1)
  have hln := sgn_len (s.data.toList.drop i)
  have HS := Lib.hid (fun W => sign05_any s i W hs hi)
  have hl2 : (sgn (s.data.toList.drop i)).length ≤ 1048576 := by simp at hln; omega
  clear b34 b47 h3 hln
  generalize sgn (s.data.toList.drop i) = g at *
  cases g with
  | nil =>
    rw [if_pos rfl] at W
    have E := Lib.hid W
    clear W
    go_enter Tryz.func75, Tryz.ntmps75
    go_wp2_with (first | (go_at_call 121; refine (let_any _ _ (by omega) (by omega)).mono ?_; rintro e w' ⟨rfl, rfl⟩) | (go_at_call 124; refine (dig_any _ _ (by omega) (by omega)).mono ?_; rintro e w' ⟨rfl, rfl⟩))
    refine (HS.out _).mono ?_
    rintro e w1 ⟨rfl, hb1⟩
    obtain ⟨hc1, hf1⟩ := bcell hb1
    have z1 : w.heap.size < w1.heap.size := by have := hb1.size; simp at this; omega
    have HB1 := Lib.hid ((HB.out _).trans (hb1.mono (HB.out _).size))
    clear hb1
    go_wp2_with fail
    exact bodyPost_ret (v := .tuple #[.agg #[.int .i64 0, .string ⟨#[]⟩, .int .i64 0, .int .i64 0], .int .i64 (-1)]) (by simp [results, Tryz.results75, go_sem, *]) rfl ⟨⟨0, ⟨#[]⟩, 0, 0⟩, _, rfl, .inl ⟨E.out, rfl⟩, (by first | exact HB1.out | exact ((((HB1.out).setCell (p := ⟨w.heap.size, 0, none⟩) (Nat.le_refl _) _).setCell (p := ⟨w.heap.size, 1, none⟩) (Nat.le_refl _) _).setCell (p := ⟨w.heap.size, 2, none⟩) (Nat.le_refl _) _).setCell (p := ⟨w.heap.size, 3, none⟩) (Nat.le_refl _) _)⟩
  | cons g0 gs =>
    rw [if_neg (by simp)] at W
    have hwr : wrap64 ((i : Int) + ((gs.length : Int) + 1)) = (i : Int) + ((gs.length : Int) + 1) := by simp only [List.length_cons] at hl2; unfold wrap64; omega
    have E := Lib.hid W
    clear W
    go_enter Tryz.func75, Tryz.ntmps75
    go_wp2_with (first | (go_at_call 121; refine (let_any _ _ (by omega) (by omega)).mono ?_; rintro e w' ⟨rfl, rfl⟩) | (go_at_call 124; refine (dig_any _ _ (by omega) (by omega)).mono ?_; rintro e w' ⟨rfl, rfl⟩))
    refine (HS.out _).mono ?_
    rintro e w1 ⟨rfl, hb1⟩
    obtain ⟨hc1, hf1⟩ := bcell hb1
    have z1 : w.heap.size < w1.heap.size := by have := hb1.size; simp at this; omega
    have HB1 := Lib.hid ((HB.out _).trans (hb1.mono (HB.out _).size))
    clear hb1
    go_wp2_with fail
    exact bodyPost_ret (v := .tuple #[.agg #[.int .i64 5, .string ⟨(g0 :: gs).toArray⟩, .int .i64 0, .int .i64 0], .int .i64 ((i : Int) + ((g0 :: gs).length : Int))]) (by simp [results, Tryz.results75, go_sem, *]) rfl ⟨⟨5, ⟨(g0 :: gs).toArray⟩, 0, 0⟩, _, rfl, .inr ⟨_, E.out, rfl, by first | rfl | go_num⟩, (by first | exact HB1.out | exact ((((HB1.out).setCell (p := ⟨w.heap.size, 0, none⟩) (Nat.le_refl _) _).setCell (p := ⟨w.heap.size, 1, none⟩) (Nat.le_refl _) _).setCell (p := ⟨w.heap.size, 2, none⟩) (Nat.le_refl _) _).setCell (p := ⟨w.heap.size, 3, none⟩) (Nat.le_refl _) _)⟩
theorem one05_any (s : ByteArray) (i : Nat) (div : Bool) (v : Value) (w : World) (hs : s.size ≤ 1048576) (hi : i < s.size)
    (F0 : ∀ W, Below w.heap.size w W → Calls Tryz.prog 128 #[v] W fun e w' => e = .returned (.bool div) ∧ Below W.heap.size W w') :
    Calls Tryz.prog 75 #[.string s, .int .i64 (i : Int), v] w (WPost (-1) (wd s i div) w) := by
  rw [wd_in hi]
  by_cases h0 : s[i] = 59 ∨ s[i] = 10
  · exact one_end s i _ v w hs hi rfl div h0
  · cases h1 : letB s[i].toNat
    · cases h2 : digB s[i].toNat
      · by_cases h3 : s[i] = 34
        · exact one_str s i _ v w hs hi rfl div h0 h1 h2 h3
        · by_cases h4 : s[i] = 47
          · cases h5 : div
            · subst h5; exact one_re s i _ v w hs hi rfl false h0 h1 h2 h3 ⟨h4, rfl⟩ (Lib.hid F0)
            · subst h5; exact one_sign1 s i _ v w hs hi rfl true h0 h1 h2 h3 h4 rfl (Lib.hid F0)
          · exact one_sign2 s i _ v w hs hi rfl div h0 h1 h2 h3 h4
      · exact one_num s i _ v w hs hi rfl div h0 h1 h2
    · exact one_name s i _ v w hs hi rfl div h0 h1
end Go.Proofs.YtebeoijoljlhiaaGreatDoor.kit
