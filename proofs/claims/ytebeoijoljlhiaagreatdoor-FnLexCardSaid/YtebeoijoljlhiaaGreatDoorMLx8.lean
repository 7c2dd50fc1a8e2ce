/-
  Contracts of impl.readWord and impl.wordBegin over this seat's translation: the word that a text begins with, and the place where the next word begins. Conditions: the text has at most 1048576 bytes; readWord's is not empty; the table of signs is as listed.
-/
import Derived.Test.YtebeoijoljlhiaaGreatDoorMLx6
import Derived.Test.YtebeoijoljlhiaaGreatDoorMLx7
namespace Go.Proofs.YtebeoijoljlhiaaGreatDoor.kit
open Go.ChangeShapes Go.WideShapes Go.ChangeAt Go.RowKit
set_option linter.unusedVariables false

theorem wdc_sgnO {z : ByteArray} {c : UInt8} {div : Bool} (h : ¬ (c = 59 ∨ c = 10)) (h1 : letB c.toNat = false) (h2 : digB c.toNat = false) (h3 : c ≠ 34) (h4 : ¬ (c = 47 ∧ div = false)) : wdc z 0 c div = sgnO z := by
  rw [wdc_sign h h1 h2 h3 h4, sgnO, List.drop_zero]
  by_cases e : sgn z.data.toList = []
  · rw [if_pos e, if_pos e]
  · rw [if_neg e, if_neg e, Nat.zero_add]
theorem u8_is (c : UInt8) (m : UInt8) (n : Int) (hn : (m.toNat : Int) = n) : ((c.toNat : Int) == n) = decide (c = m) := by
  rw [Bool.eq_iff_iff, beq_iff_eq, decide_eq_true_eq, ← hn]
  constructor
  · intro h; exact UInt8.toNat_inj.1 (by omega)
  · rintro rfl; rfl
theorem sign_parts {c : Int} (h : signB c = true) (hd : digB c = false) : letB c = true := by simpa [signB, hd] using h
theorem let_far {c : UInt8} (h : letB c.toNat = true) : ¬ (c = 59 ∨ c = 10) := by
  rintro (rfl | rfl) <;> exact absurd h (by decide)
theorem dig_far {c : UInt8} (h : digB c.toNat = true) : ¬ (c = 59 ∨ c = 10) ∧ letB c.toNat = false := by
  refine ⟨?_, ?_⟩
  · rintro (rfl | rfl) <;> exact absurd h (by decide)
  · rw [Bool.eq_false_iff]; intro g
    simp only [digB, letB, inB, Bool.or_eq_true, decide_eq_true_eq] at h g; omega
set_option maxRecDepth 100000 in
set_option maxHeartbeats 1000000 in
theorem rw_num (z : ByteArray) (c : UInt8) (div : Bool) (w : World) (hs : z.size ≤ 1048576) (hi : 0 < z.size) (hc : z[0] = c) (h2 : digB c.toNat = true) :
    Calls Tryz.prog 72 #[.string z, .bool div] w (WPost 0 (numO z) w) := by
  have hb : c.toNat < 256 := c.toNat_lt
  have cv : wrap32 (c.toNat : Int) = (c.toNat : Int) := by unfold wrap32; omega
  have b59 := u8_is c 59 59 rfl
  have b10 := u8_is c 10 10 rfl
  have b34 := u8_is c 34 34 rfl
  have b47 := u8_is c 47 47 rfl
  have HB := Lib.hid (show ∀ o, Below w.heap.size w (w.alloc o) from fun o => (Below.refl w.heap.size w).alloc (Nat.le_refl _) _)
  have CC := Lib.hid (fun W => readNum_any z W hs hi (by rw [hc]; exact h2))
  clear b59 b10 b34 b47
  go_enter Tryz.func72, Tryz.ntmps72
  go_wp2_with (first | (go_at_call 114; refine (isDigit_any _ _).mono ?_; rintro e w' ⟨rfl, rfl⟩) | (go_at_call 116; refine (isNameSign_any _ _).mono ?_; rintro e w' ⟨rfl, rfl⟩))
  refine (CC.out _).mono ?_
  rintro e w1 ⟨t, n, rfl, ho, hb1⟩
  obtain ⟨tk, ts, tn, tl⟩ := t
  unfold Tok.v
  have HO := Lib.hid ho
  clear ho
  obtain ⟨hc1, hf1⟩ := bcell hb1
  have z1 : w.heap.size < w1.heap.size := by have := hb1.size; simp at this; omega
  have HB1 := Lib.hid ((HB.out _).trans (hb1.mono (HB.out _).size))
  clear hb1
  simp only
  go_wp2_with fail
  exact bodyPost_ret (v := .tuple #[.agg #[.int .i64 tk, .string ts, .int .i64 tn, .int .i64 tl], .int .i64 n]) (by simp [results, Tryz.results72, go_sem, *]) rfl ⟨⟨tk, ts, tn, tl⟩, n, rfl, HO.out, (by first | exact HB1.out | exact ((((HB1.out).setCell (p := ⟨w.heap.size, 0, none⟩) (Nat.le_refl _) _).setCell (p := ⟨w.heap.size, 1, none⟩) (Nat.le_refl _) _).setCell (p := ⟨w.heap.size, 2, none⟩) (Nat.le_refl _) _).setCell (p := ⟨w.heap.size, 3, none⟩) (Nat.le_refl _) _)⟩
set_option maxRecDepth 100000 in
set_option maxHeartbeats 1000000 in
theorem rw_name (z : ByteArray) (c : UInt8) (div : Bool) (w : World) (hs : z.size ≤ 1048576) (hi : 0 < z.size) (hc : z[0] = c) (h2 : digB c.toNat = false) (h1 : letB c.toNat = true) :
    Calls Tryz.prog 72 #[.string z, .bool div] w (WPost 0 (nameO z) w) := by
  have hb : c.toNat < 256 := c.toNat_lt
  have cv : wrap32 (c.toNat : Int) = (c.toNat : Int) := by unfold wrap32; omega
  have b59 := u8_is c 59 59 rfl
  have b10 := u8_is c 10 10 rfl
  have b34 := u8_is c 34 34 rfl
  have b47 := u8_is c 47 47 rfl
  have HB := Lib.hid (show ∀ o, Below w.heap.size w (w.alloc o) from fun o => (Below.refl w.heap.size w).alloc (Nat.le_refl _) _)
  have CC := Lib.hid (fun W => readName_any z W hs hi)
  have hsg : signB c.toNat = true := by simp [signB, h1]
  clear b59 b10 b34 b47
  go_enter Tryz.func72, Tryz.ntmps72
  go_wp2_with (first | (go_at_call 114; refine (isDigit_any _ _).mono ?_; rintro e w' ⟨rfl, rfl⟩) | (go_at_call 116; refine (isNameSign_any _ _).mono ?_; rintro e w' ⟨rfl, rfl⟩))
  refine (CC.out _).mono ?_
  rintro e w1 ⟨t, n, rfl, ho, hb1⟩
  obtain ⟨tk, ts, tn, tl⟩ := t
  unfold Tok.v
  have HO := Lib.hid ho
  clear ho
  obtain ⟨hc1, hf1⟩ := bcell hb1
  have z1 : w.heap.size < w1.heap.size := by have := hb1.size; simp at this; omega
  have HB1 := Lib.hid ((HB.out _).trans (hb1.mono (HB.out _).size))
  clear hb1
  simp only
  go_wp2_with fail
  exact bodyPost_ret (v := .tuple #[.agg #[.int .i64 tk, .string ts, .int .i64 tn, .int .i64 tl], .int .i64 n]) (by simp [results, Tryz.results72, go_sem, *]) rfl ⟨⟨tk, ts, tn, tl⟩, n, rfl, HO.out, (by first | exact HB1.out | exact ((((HB1.out).setCell (p := ⟨w.heap.size, 0, none⟩) (Nat.le_refl _) _).setCell (p := ⟨w.heap.size, 1, none⟩) (Nat.le_refl _) _).setCell (p := ⟨w.heap.size, 2, none⟩) (Nat.le_refl _) _).setCell (p := ⟨w.heap.size, 3, none⟩) (Nat.le_refl _) _)⟩
set_option maxRecDepth 100000 in
set_option maxHeartbeats 1000000 in
theorem rw_str (z : ByteArray) (c : UInt8) (div : Bool) (w : World) (hs : z.size ≤ 1048576) (hi : 0 < z.size) (hc : z[0] = c) (h2 : digB c.toNat = false) (h1 : letB c.toNat = false) (h3 : c = 34) :
    Calls Tryz.prog 72 #[.string z, .bool div] w (WPost 0 (strO z) w) := by
  have hb : c.toNat < 256 := c.toNat_lt
  have cv : wrap32 (c.toNat : Int) = (c.toNat : Int) := by unfold wrap32; omega
  have b59 := u8_is c 59 59 rfl
  have b10 := u8_is c 10 10 rfl
  have b34 := u8_is c 34 34 rfl
  have b47 := u8_is c 47 47 rfl
  have HB := Lib.hid (show ∀ o, Below w.heap.size w (w.alloc o) from fun o => (Below.refl w.heap.size w).alloc (Nat.le_refl _) _)
  have hsg : signB c.toNat = false := by simp [signB, h1, h2]
  have CC := Lib.hid (fun W => readStr_any z W hs hi)
  have n34 : ((c.toNat : Int) == 34) = true := by rw [b34, decide_eq_true_eq]; exact h3
  clear b59 b10 b34 b47 h3
  go_enter Tryz.func72, Tryz.ntmps72
  go_wp2_with (first | (go_at_call 114; refine (isDigit_any _ _).mono ?_; rintro e w' ⟨rfl, rfl⟩) | (go_at_call 116; refine (isNameSign_any _ _).mono ?_; rintro e w' ⟨rfl, rfl⟩))
  refine (CC.out _).mono ?_
  rintro e w1 ⟨t, n, rfl, ho, hb1⟩
  obtain ⟨tk, ts, tn, tl⟩ := t
  unfold Tok.v
  have HO := Lib.hid ho
  clear ho
  obtain ⟨hc1, hf1⟩ := bcell hb1
  have z1 : w.heap.size < w1.heap.size := by have := hb1.size; simp at this; omega
  have HB1 := Lib.hid ((HB.out _).trans (hb1.mono (HB.out _).size))
  clear hb1
  simp only
  go_wp2_with fail
  exact bodyPost_ret (v := .tuple #[.agg #[.int .i64 tk, .string ts, .int .i64 tn, .int .i64 tl], .int .i64 n]) (by simp [results, Tryz.results72, go_sem, *]) rfl ⟨⟨tk, ts, tn, tl⟩, n, rfl, HO.out, (by first | exact HB1.out | exact ((((HB1.out).setCell (p := ⟨w.heap.size, 0, none⟩) (Nat.le_refl _) _).setCell (p := ⟨w.heap.size, 1, none⟩) (Nat.le_refl _) _).setCell (p := ⟨w.heap.size, 2, none⟩) (Nat.le_refl _) _).setCell (p := ⟨w.heap.size, 3, none⟩) (Nat.le_refl _) _)⟩
set_option maxRecDepth 100000 in
set_option maxHeartbeats 1000000 in
theorem rw_re (z : ByteArray) (c : UInt8) (div : Bool) (w : World) (hs : z.size ≤ 1048576) (hi : 0 < z.size) (hc : z[0] = c) (h2 : digB c.toNat = false) (h1 : letB c.toNat = false) (h3 : c ≠ 34) (h4 : c = 47) (h5 : div = false) :
    Calls Tryz.prog 72 #[.string z, .bool div] w (WPost 0 (reO z) w) := by
  have hb : c.toNat < 256 := c.toNat_lt
  have cv : wrap32 (c.toNat : Int) = (c.toNat : Int) := by unfold wrap32; omega
  have b59 := u8_is c 59 59 rfl
  have b10 := u8_is c 10 10 rfl
  have b34 := u8_is c 34 34 rfl
  have b47 := u8_is c 47 47 rfl
  have HB := Lib.hid (show ∀ o, Below w.heap.size w (w.alloc o) from fun o => (Below.refl w.heap.size w).alloc (Nat.le_refl _) _)
  have hsg : signB c.toNat = false := by simp [signB, h1, h2]
  have n34 : ((c.toNat : Int) == 34) = false := by rw [b34, decide_eq_false_iff_not]; exact h3
  have CC := Lib.hid (fun W => readRe_any z W hs hi (by rw [hc]; exact h4))
  have n47 : ((c.toNat : Int) == 47) = true := by rw [b47, decide_eq_true_eq]; exact h4
  clear b59 b10 b34 b47 h3 h4
  subst h5
  go_enter Tryz.func72, Tryz.ntmps72
  go_wp2_with (first | (go_at_call 114; refine (isDigit_any _ _).mono ?_; rintro e w' ⟨rfl, rfl⟩) | (go_at_call 116; refine (isNameSign_any _ _).mono ?_; rintro e w' ⟨rfl, rfl⟩))
  refine (CC.out _).mono ?_
  rintro e w1 ⟨t, n, rfl, ho, hb1⟩
  obtain ⟨tk, ts, tn, tl⟩ := t
  unfold Tok.v
  have HO := Lib.hid ho
  clear ho
  obtain ⟨hc1, hf1⟩ := bcell hb1
  have z1 : w.heap.size < w1.heap.size := by have := hb1.size; simp at this; omega
  have HB1 := Lib.hid ((HB.out _).trans (hb1.mono (HB.out _).size))
  clear hb1
  simp only
  go_wp2_with fail
  exact bodyPost_ret (v := .tuple #[.agg #[.int .i64 tk, .string ts, .int .i64 tn, .int .i64 tl], .int .i64 n]) (by simp [results, Tryz.results72, go_sem, *]) rfl ⟨⟨tk, ts, tn, tl⟩, n, rfl, HO.out, (by first | exact HB1.out | exact ((((HB1.out).setCell (p := ⟨w.heap.size, 0, none⟩) (Nat.le_refl _) _).setCell (p := ⟨w.heap.size, 1, none⟩) (Nat.le_refl _) _).setCell (p := ⟨w.heap.size, 2, none⟩) (Nat.le_refl _) _).setCell (p := ⟨w.heap.size, 3, none⟩) (Nat.le_refl _) _)⟩
set_option maxRecDepth 100000 in
set_option maxHeartbeats 1000000 in
theorem rw_sign1 (z : ByteArray) (c : UInt8) (div : Bool) (w : World) (hs : z.size ≤ 1048576) (hi : 0 < z.size) (hc : z[0] = c) (ht : Sig w) (h2 : digB c.toNat = false) (h1 : letB c.toNat = false) (h3 : c ≠ 34) (h0 : ¬ (c = 59 ∨ c = 10)) (h4 : c = 47) (h5 : div = true) :
    Calls Tryz.prog 72 #[.string z, .bool div] w (WPost 0 (sgnO z) w) := by
  have hb : c.toNat < 256 := c.toNat_lt
  have cv : wrap32 (c.toNat : Int) = (c.toNat : Int) := by unfold wrap32; omega
  have b59 := u8_is c 59 59 rfl
  have b10 := u8_is c 10 10 rfl
  have b34 := u8_is c 34 34 rfl
  have b47 := u8_is c 47 47 rfl
  have HB := Lib.hid (show ∀ o, Below w.heap.size w (w.alloc o) from fun o => (Below.refl w.heap.size w).alloc (Nat.le_refl _) _)
  have hsg : signB c.toNat = false := by simp [signB, h1, h2]
  have n34 : ((c.toNat : Int) == 34) = false := by rw [b34, decide_eq_false_iff_not]; exact h3
  have n59 : ((c.toNat : Int) == 59) = false := by rw [b59, decide_eq_false_iff_not]; exact fun e => h0 (.inl e)
  have n10 : ((c.toNat : Int) == 10) = false := by rw [b10, decide_eq_false_iff_not]; exact fun e => h0 (.inr e)
  have CC := Lib.hid (fun o => readSign_any z (w.alloc o) hs (ht.on (HB.out o)))
  have n47 : ((c.toNat : Int) == 47) = true := by rw [b47, decide_eq_true_eq]; exact h4
  clear b59 b10 b34 b47 h3 h4 ht
  subst h5
  go_enter Tryz.func72, Tryz.ntmps72
  go_wp2_with (first | (go_at_call 114; refine (isDigit_any _ _).mono ?_; rintro e w' ⟨rfl, rfl⟩) | (go_at_call 116; refine (isNameSign_any _ _).mono ?_; rintro e w' ⟨rfl, rfl⟩))
  refine (CC.out _).mono ?_
  rintro e w1 ⟨t, n, rfl, ho, hb1⟩
  obtain ⟨tk, ts, tn, tl⟩ := t
  unfold Tok.v
  have HO := Lib.hid ho
  clear ho
  obtain ⟨hc1, hf1⟩ := bcell hb1
  have z1 : w.heap.size < w1.heap.size := by have := hb1.size; simp at this; omega
  have HB1 := Lib.hid ((HB.out _).trans (hb1.mono (HB.out _).size))
  clear hb1
  simp only
  go_wp2_with fail
  exact bodyPost_ret (v := .tuple #[.agg #[.int .i64 tk, .string ts, .int .i64 tn, .int .i64 tl], .int .i64 n]) (by simp [results, Tryz.results72, go_sem, *]) rfl ⟨⟨tk, ts, tn, tl⟩, n, rfl, HO.out, (by first | exact HB1.out | exact ((((HB1.out).setCell (p := ⟨w.heap.size, 0, none⟩) (Nat.le_refl _) _).setCell (p := ⟨w.heap.size, 1, none⟩) (Nat.le_refl _) _).setCell (p := ⟨w.heap.size, 2, none⟩) (Nat.le_refl _) _).setCell (p := ⟨w.heap.size, 3, none⟩) (Nat.le_refl _) _)⟩
set_option maxRecDepth 100000 in
set_option maxHeartbeats 1000000 in
theorem rw_sign2 (z : ByteArray) (c : UInt8) (div : Bool) (w : World) (hs : z.size ≤ 1048576) (hi : 0 < z.size) (hc : z[0] = c) (ht : Sig w) (h2 : digB c.toNat = false) (h1 : letB c.toNat = false) (h3 : c ≠ 34) (h0 : ¬ (c = 59 ∨ c = 10)) (h4 : c ≠ 47) :
    Calls Tryz.prog 72 #[.string z, .bool div] w (WPost 0 (sgnO z) w) := by
  have hb : c.toNat < 256 := c.toNat_lt
  have cv : wrap32 (c.toNat : Int) = (c.toNat : Int) := by unfold wrap32; omega
  have b59 := u8_is c 59 59 rfl
  have b10 := u8_is c 10 10 rfl
  have b34 := u8_is c 34 34 rfl
  have b47 := u8_is c 47 47 rfl
  have HB := Lib.hid (show ∀ o, Below w.heap.size w (w.alloc o) from fun o => (Below.refl w.heap.size w).alloc (Nat.le_refl _) _)
  have hsg : signB c.toNat = false := by simp [signB, h1, h2]
  have n34 : ((c.toNat : Int) == 34) = false := by rw [b34, decide_eq_false_iff_not]; exact h3
  have n59 : ((c.toNat : Int) == 59) = false := by rw [b59, decide_eq_false_iff_not]; exact fun e => h0 (.inl e)
  have n10 : ((c.toNat : Int) == 10) = false := by rw [b10, decide_eq_false_iff_not]; exact fun e => h0 (.inr e)
  have CC := Lib.hid (fun o => readSign_any z (w.alloc o) hs (ht.on (HB.out o)))
  have n47 : ((c.toNat : Int) == 47) = false := by rw [b47, decide_eq_false_iff_not]; exact h4
  clear b59 b10 b34 b47 h3 h4 ht
  go_enter Tryz.func72, Tryz.ntmps72
  go_wp2_with (first | (go_at_call 114; refine (isDigit_any _ _).mono ?_; rintro e w' ⟨rfl, rfl⟩) | (go_at_call 116; refine (isNameSign_any _ _).mono ?_; rintro e w' ⟨rfl, rfl⟩))
  refine (CC.out _).mono ?_
  rintro e w1 ⟨t, n, rfl, ho, hb1⟩
  obtain ⟨tk, ts, tn, tl⟩ := t
  unfold Tok.v
  have HO := Lib.hid ho
  clear ho
  obtain ⟨hc1, hf1⟩ := bcell hb1
  have z1 : w.heap.size < w1.heap.size := by have := hb1.size; simp at this; omega
  have HB1 := Lib.hid ((HB.out _).trans (hb1.mono (HB.out _).size))
  clear hb1
  simp only
  go_wp2_with fail
  exact bodyPost_ret (v := .tuple #[.agg #[.int .i64 tk, .string ts, .int .i64 tn, .int .i64 tl], .int .i64 n]) (by simp [results, Tryz.results72, go_sem, *]) rfl ⟨⟨tk, ts, tn, tl⟩, n, rfl, HO.out, (by first | exact HB1.out | exact ((((HB1.out).setCell (p := ⟨w.heap.size, 0, none⟩) (Nat.le_refl _) _).setCell (p := ⟨w.heap.size, 1, none⟩) (Nat.le_refl _) _).setCell (p := ⟨w.heap.size, 2, none⟩) (Nat.le_refl _) _).setCell (p := ⟨w.heap.size, 3, none⟩) (Nat.le_refl _) _)⟩
set_option maxRecDepth 100000 in
set_option maxHeartbeats 1000000 in
theorem rw_end (z : ByteArray) (c : UInt8) (div : Bool) (w : World) (hs : z.size ≤ 1048576) (hi : 0 < z.size) (hc : z[0] = c) (h : c = 59 ∨ c = 10) :
    Calls Tryz.prog 72 #[.string z, .bool div] w (WPost 0 (some (⟨6, ⟨#[]⟩, 0, 0⟩, 0 + 1)) w) := by
  have hb : c.toNat < 256 := c.toNat_lt
  have cv : wrap32 (c.toNat : Int) = (c.toNat : Int) := by unfold wrap32; omega
  have b59 := u8_is c 59 59 rfl
  have b10 := u8_is c 10 10 rfl
  have b34 := u8_is c 34 34 rfl
  have b47 := u8_is c 47 47 rfl
  have HB := Lib.hid (show ∀ o, Below w.heap.size w (w.alloc o) from fun o => (Below.refl w.heap.size w).alloc (Nat.le_refl _) _)
  rcases h with rfl | rfl
  all_goals
    go_enter Tryz.func72, Tryz.ntmps72
    go_wp2_with (first | (go_at_call 114; refine (isDigit_any _ _).mono ?_; rintro e w' ⟨rfl, rfl⟩) | (go_at_call 116; refine (isNameSign_any _ _).mono ?_; rintro e w' ⟨rfl, rfl⟩))
    exact bodyPost_ret (v := .tuple #[.agg #[.int .i64 6, .string ⟨#[]⟩, .int .i64 0, .int .i64 0], .int .i64 1]) (by simp [results, Tryz.results72, go_sem]) rfl ⟨⟨6, ⟨#[]⟩, 0, 0⟩, _, rfl, .inr ⟨_, rfl, rfl, rfl⟩, HB.out _⟩
theorem readWord_any (z : ByteArray) (div : Bool) (w : World) (hs : z.size ≤ 1048576) (hi : 0 < z.size) (ht : Sig w) :
    Calls Tryz.prog 72 #[.string z, .bool div] w (WPost 0 (wd z 0 div) w) := by
  rw [wd_in hi]
  cases h2 : digB z[0].toNat
  · cases h1 : letB z[0].toNat
    · by_cases h3 : z[0] = 34
      · have h0 : ¬ (z[0] = 59 ∨ z[0] = 10) := by rw [h3]; decide
        rw [wdc_str h0 h1 h2 h3]
        exact rw_str z _ div w hs hi rfl h2 h1 h3
      · by_cases h0 : z[0] = 59 ∨ z[0] = 10
        · rw [wdc_end h0]
          exact rw_end z _ div w hs hi rfl h0
        · by_cases h4 : z[0] = 47
          · cases h5 : div
            · subst h5
              rw [wdc_re h0 h1 h2 h3 ⟨h4, rfl⟩]
              exact rw_re z _ false w hs hi rfl h2 h1 h3 h4 rfl
            · subst h5
              rw [wdc_sgnO h0 h1 h2 h3 (fun g => by cases g.2)]
              exact rw_sign1 z _ true w hs hi rfl ht h2 h1 h3 h0 h4 rfl
          · rw [wdc_sgnO h0 h1 h2 h3 (fun g => h4 g.1)]
            exact rw_sign2 z _ div w hs hi rfl ht h2 h1 h3 h0 h4
    · rw [wdc_name (let_far h1) h1]
      exact rw_name z _ div w hs hi rfl h2 h1
  · obtain ⟨h0, h1⟩ := dig_far h2
    rw [wdc_num h0 h1 h2]
    exact rw_num z _ div w hs hi rfl h2

def blkI (c : Int) : Bool := c == 32 || c == 9
def nnlI (c : Int) : Bool := !(c == 10)
/-- The place where the next word begins. -/
def skipB (s : ByteArray) (i : Nat) : Nat := if atB s (runEnd blkI s i) 35 = true then runEnd nnlI s (runEnd blkI s i) else runEnd blkI s i
theorem skip_le (s : ByteArray) (i : Nat) (hi : i ≤ s.size) : i ≤ skipB s i ∧ skipB s i ≤ s.size := by
  have h1 := runEnd_le blkI s i hi
  have h2 := runEnd_le nnlI s (runEnd blkI s i) h1.2
  unfold skipB
  split <;> omega
set_option maxRecDepth 100000 in
set_option maxHeartbeats 1000000 in
theorem wordBegin_any (s : ByteArray) (i : Nat) (w : World) (hs : s.size ≤ 1048576) (hi : i ≤ s.size) :
    Calls Tryz.prog 71 #[.string s, .int .i64 (i : Int)] w fun e w' => e = .returned (.int .i64 (skipB s i : Int)) ∧ w = w' := by
  have HSK : Hid (skipB s i = if atB s (runEnd blkI s i) 35 = true then runEnd nnlI s (runEnd blkI s i) else runEnd blkI s i) := Lib.hid rfl
  go_enter Tryz.func71, Tryz.ntmps71
  go_wp2
  go_loop [1] (fun v => ∃ k : Nat, k ≤ s.size ∧ v = .int .i64 k ∧ runEnd blkI s k = runEnd blkI s i) (fun v => s.size - (intOf v).toNat)
  case atStart => exact ⟨i, hi, rfl, rfl⟩
  case round =>
    obtain ⟨k, hk, rfl, hr⟩ := hrel
    have HR := Lib.hid hr; clear hr
    by_cases hlt : k < s.size
    · have i0 : (0 : Int) ≤ (k : Int) := by omega
      have i1 : (k : Int) < (s.size : Int) := by omega
      have i2 : ((k : Int) == (s.size : Int)) = false := by simp; omega
      have hb : s[k].toNat < 256 := s[k].toNat_lt
      cases c32 : ((s[k].toNat : Int) == 32)
      · cases c9 : ((s[k].toNat : Int) == 9)
        · have HE := Lib.hid (runEnd_out hlt (p := blkI) (by simp [blkI, c32, c9]))
          have a35 := atB_is 35 35 rfl hlt
          cases c35 : atB s k 35
          · rw [c35] at a35
            have E : Hid (skipB s i = k) := Lib.hid (by rw [HSK.out, ← HR.out, HE.out, c35]; rfl)
            go_wp2
            go_ret
            exact ⟨ret_int (by rw [E.out]), rfl⟩
          · rw [c35] at a35
            have FIN : Hid (skipB s i = runEnd nnlI s k) := Lib.hid (by rw [HSK.out, ← HR.out, HE.out, c35]; rfl)
            go_wp2_with fail
            obtain ⟨wo, hwo⟩ : ∃ wo : World, wo = w := ⟨_, rfl⟩
            go_loop [1] (fun v => ∃ m : Nat, m ≤ s.size ∧ v = .int .i64 m ∧ runEnd nnlI s m = runEnd nnlI s k) (fun v => s.size - (intOf v).toNat)
            case atStart => exact ⟨k, hk, rfl, rfl⟩
            case round =>
              obtain ⟨m, hm, rfl, hr2⟩ := hrel
              have HR2 := Lib.hid hr2; clear hr2
              by_cases hml : m < s.size
              · have m0 : (0 : Int) ≤ (m : Int) := by omega
                have m1 : (m : Int) < (s.size : Int) := by omega
                have hb2 : s[m].toNat < 256 := s[m].toNat_lt
                cases c10 : ((s[m].toNat : Int) == 10)
                · have E := Lib.hid (runEnd_in hml (p := nnlI) (by simp [nnlI, c10]))
                  go_wp2
                  go_round
                  case rel => exact ⟨m + 1, by omega, by go_num, E.out.trans HR2.out⟩
                  case measure => simp [intOf]; omega
                · have E := Lib.hid (runEnd_out hml (p := nnlI) (by simp [nnlI, c10]))
                  go_wp2
                  go_ret
                  exact ⟨ret_int (by rw [FIN.out, ← HR2.out, E.out]), rfl⟩
              · have E := Lib.hid (runEnd_end (p := nnlI) (s := s) (i := m) (by omega))
                go_wp2
                go_ret
                exact ⟨ret_int (by rw [FIN.out, ← HR2.out, E.out]), rfl⟩
        · have E := Lib.hid (runEnd_in hlt (p := blkI) (by simp [blkI, c9]))
          go_wp2
          go_round
          case rel => exact ⟨k + 1, by omega, by go_num, E.out.trans HR.out⟩
          case measure => simp [intOf]; omega
      · have E := Lib.hid (runEnd_in hlt (p := blkI) (by simp [blkI, c32]))
        go_wp2
        go_round
        case rel => exact ⟨k + 1, by omega, by go_num, E.out.trans HR.out⟩
        case measure => simp [intOf]; omega
    · have HE := Lib.hid (runEnd_end (p := blkI) (s := s) (i := k) (by omega))
      have E : Hid (skipB s i = k) := Lib.hid (by rw [HSK.out, ← HR.out, HE.out, atB_end (by omega)]; rfl)
      have i2 : ((k : Int) == (s.size : Int)) = true := by simp; omega
      go_wp2
      go_ret
      exact ⟨ret_int (by rw [E.out]), rfl⟩
end Go.Proofs.YtebeoijoljlhiaaGreatDoor.kit
