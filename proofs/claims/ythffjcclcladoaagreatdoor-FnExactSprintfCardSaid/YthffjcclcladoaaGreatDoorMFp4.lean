/-
  Contracts of impl.flagsEnd, impl.readPrecision and impl.readPlace over this seat's translation. Conditions: a text of at most 1048576 bytes.
-/
import Derived.Test.YthffjcclcladoaaGreatDoorMFp1
import Derived.Test.YthffjcclcladoaaGreatDoorMRn2
import Derived.Test.YthffjcclcladoaaGreatDoorShelf
namespace Go.Proofs.YthffjcclcladoaaGreatDoor.kit
open Go.ChangeShapes Go.WideShapes Go.ChangeAt Go.RowKit
set_option linter.unusedVariables false

/-- Five cells that hold what impl tells of a place, and may be written. -/
structure Fp5 (w : World) (g : Nat) (fl : ByteArray) (n : Int) (b : Bool) (p kd : Int) : Prop where
  lt : g < w.heap.size
  c0 : w.cell? ⟨g, 0, none⟩ = some (.string fl)
  c1 : w.cell? ⟨g, 1, none⟩ = some (.int .i64 n)
  c2 : w.cell? ⟨g, 2, none⟩ = some (.bool b)
  c3 : w.cell? ⟨g, 3, none⟩ = some (.int .i64 p)
  c4 : w.cell? ⟨g, 4, none⟩ = some (.int .u8 kd)
  f0 : w.frozen? ⟨g, 0, none⟩ = false
  f1 : w.frozen? ⟨g, 1, none⟩ = false
  f2 : w.frozen? ⟨g, 2, none⟩ = false
  f3 : w.frozen? ⟨g, 3, none⟩ = false
  f4 : w.frozen? ⟨g, 4, none⟩ = false
theorem Fp5.drew {w : World} {g : Nat} {fl : ByteArray} {n : Int} {b : Bool} {p kd : Int} (h : Fp5 w g fl n b p kd) : Fp5 w.drew g fl n b p kd :=
  ⟨h.lt, h.c0, h.c1, h.c2, h.c3, h.c4, h.f0, h.f1, h.f2, h.f3, h.f4⟩
theorem Fp5.kept {w w' : World} {g : Nat} {fl : ByteArray} {n : Int} {b : Bool} {p kd : Int} (h : Fp5 w g fl n b p kd) (hb : Below w.heap.size w w') : Fp5 w' g fl n b p kd := by
  have e : ∀ j, w'.cell? ⟨g, j, none⟩ = w.cell? ⟨g, j, none⟩ := fun j => hb.cell (p := ⟨g, j, none⟩) h.lt
  have f : ∀ j, w'.frozen? ⟨g, j, none⟩ = w.frozen? ⟨g, j, none⟩ := fun j => hb.frozen (p := ⟨g, j, none⟩) h.lt
  exact ⟨Nat.lt_of_lt_of_le h.lt hb.size, (e 0).trans h.c0, (e 1).trans h.c1, (e 2).trans h.c2, (e 3).trans h.c3, (e 4).trans h.c4, (f 0).trans h.f0, (f 1).trans h.f1, (f 2).trans h.f2, (f 3).trans h.f3, (f 4).trans h.f4⟩
theorem Fp5.off {w : World} {g : Nat} {fl : ByteArray} {n : Int} {b : Bool} {p kd : Int} (h : Fp5 w g fl n b p kd) {g' j : Nat} (hg : g' ≠ g) (v : Value) : Fp5 (w.setCell ⟨g', j, none⟩ v) g fl n b p kd := by
  have e : ∀ i, (w.setCell ⟨g', j, none⟩ v).cell? ⟨g, i, none⟩ = w.cell? ⟨g, i, none⟩ := fun i => cset_off _ _ _ _ _ _ (.inl hg)
  have f : ∀ i, (w.setCell ⟨g', j, none⟩ v).frozen? ⟨g, i, none⟩ = w.frozen? ⟨g, i, none⟩ := fun i => World.frozen?_setCell _ _ _ _
  exact ⟨by simpa using h.lt, (e 0).trans h.c0, (e 1).trans h.c1, (e 2).trans h.c2, (e 3).trans h.c3, (e 4).trans h.c4, (f 0).trans h.f0, (f 1).trans h.f1, (f 2).trans h.f2, (f 3).trans h.f3, (f 4).trans h.f4⟩
theorem Fp5.at_ {w : World} {g : Nat} {fl fl' : ByteArray} {b b' : Bool} {n p kd n' p' kd' : Int} (h : Fp5 w g fl n b p kd) {j : Nat} (v : Value) (hj : j < 5)
    (hv : v = (match j with | 0 => .string fl' | 1 => .int .i64 n' | 2 => .bool b' | 3 => .int .i64 p' | _ => .int .u8 kd'))
    (e0 : j ≠ 0 → fl' = fl) (e1 : j ≠ 1 → n' = n) (e2 : j ≠ 2 → b' = b) (e3 : j ≠ 3 → p' = p) (e4 : j ≠ 4 → kd' = kd) : Fp5 (w.setCell ⟨g, j, none⟩ v) g fl' n' b' p' kd' := by
  have e : ∀ i, j ≠ i → (w.setCell ⟨g, j, none⟩ v).cell? ⟨g, i, none⟩ = w.cell? ⟨g, i, none⟩ := fun i hi => cset_off _ _ _ _ _ _ (.inr hi)
  have f : ∀ i, (w.setCell ⟨g, j, none⟩ v).frozen? ⟨g, i, none⟩ = w.frozen? ⟨g, i, none⟩ := fun i => World.frozen?_setCell _ _ _ _
  subst hv
  refine ⟨by simpa using h.lt, ?_, ?_, ?_, ?_, ?_, (f 0).trans h.f0, (f 1).trans h.f1, (f 2).trans h.f2, (f 3).trans h.f3, (f 4).trans h.f4⟩
  · by_cases c : j = 0
    · subst c; exact cset_same _ _ _ _ _ h.c0
    · rw [e 0 c, e0 c]; exact h.c0
  · by_cases c : j = 1
    · subst c; exact cset_same _ _ _ _ _ h.c1
    · rw [e 1 c, e1 c]; exact h.c1
  · by_cases c : j = 2
    · subst c; exact cset_same _ _ _ _ _ h.c2
    · rw [e 2 c, e2 c]; exact h.c2
  · by_cases c : j = 3
    · subst c; exact cset_same _ _ _ _ _ h.c3
    · rw [e 3 c, e3 c]; exact h.c3
  · by_cases c : j = 4
    · subst c; exact cset_same _ _ _ _ _ h.c4
    · rw [e 4 c, e4 c]; exact h.c4
theorem Fp5.set0 {w : World} {g : Nat} {fl : ByteArray} {n : Int} {b : Bool} {p kd : Int} (h : Fp5 w g fl n b p kd) (x : ByteArray) : Fp5 (w.setCell ⟨g, 0, none⟩ (.string x)) g x n b p kd := h.at_ _ (by omega) rfl (by simp) (by simp) (by simp) (by simp) (by simp)
theorem Fp5.set1 {w : World} {g : Nat} {fl : ByteArray} {n : Int} {b : Bool} {p kd : Int} (h : Fp5 w g fl n b p kd) (x : Int) : Fp5 (w.setCell ⟨g, 1, none⟩ (.int .i64 x)) g fl x b p kd := h.at_ _ (by omega) rfl (by simp) (by simp) (by simp) (by simp) (by simp)
theorem Fp5.set2 {w : World} {g : Nat} {fl : ByteArray} {n : Int} {b : Bool} {p kd : Int} (h : Fp5 w g fl n b p kd) (x : Bool) : Fp5 (w.setCell ⟨g, 2, none⟩ (.bool x)) g fl n x p kd := h.at_ _ (by omega) rfl (by simp) (by simp) (by simp) (by simp) (by simp)
theorem Fp5.set3 {w : World} {g : Nat} {fl : ByteArray} {n : Int} {b : Bool} {p kd : Int} (h : Fp5 w g fl n b p kd) (x : Int) : Fp5 (w.setCell ⟨g, 3, none⟩ (.int .i64 x)) g fl n b x kd := h.at_ _ (by omega) rfl (by simp) (by simp) (by simp) (by simp) (by simp)
theorem Fp5.set4 {w : World} {g : Nat} {fl : ByteArray} {n : Int} {b : Bool} {p kd : Int} (h : Fp5 w g fl n b p kd) (x : Int) : Fp5 (w.setCell ⟨g, 4, none⟩ (.int .u8 x)) g fl n b p x := h.at_ _ (by omega) rfl (by simp) (by simp) (by simp) (by simp) (by simp)
theorem Fp5.fin {W : World} {B : Nat} {fl fl' : ByteArray} {b b' : Bool} {n p kd n' p' kd' : Int} (h : Fp5 W B fl n b p kd) : Fp5 (((((W.setCell ⟨B, 0, none⟩ (.string fl')).setCell ⟨B, 1, none⟩ (.int .i64 n')).setCell ⟨B, 2, none⟩ (.bool b')).setCell ⟨B, 3, none⟩ (.int .i64 p')).setCell ⟨B, 4, none⟩ (.int .u8 kd')) B fl' n' b' p' kd' :=
  ((((h.set0 fl').set1 n').set2 b').set3 p').set4 kd'
theorem fpfin_below {W w : World} {B : Nat} {fl' : ByteArray} {b' : Bool} {n' p' kd' : Int} (h : Below B w W) : Below B w (((((W.setCell ⟨B, 0, none⟩ (.string fl')).setCell ⟨B, 1, none⟩ (.int .i64 n')).setCell ⟨B, 2, none⟩ (.bool b')).setCell ⟨B, 3, none⟩ (.int .i64 p')).setCell ⟨B, 4, none⟩ (.int .u8 kd')) :=
  ((((h.setCell (p := ⟨B, 0, none⟩) (Nat.le_refl _) _).setCell (p := ⟨B, 1, none⟩) (Nat.le_refl _) _).setCell (p := ⟨B, 2, none⟩) (Nat.le_refl _) _).setCell (p := ⟨B, 3, none⟩) (Nat.le_refl _) _).setCell (p := ⟨B, 4, none⟩) (Nat.le_refl _) _
theorem fp5_zero (w : World) (t : TypeId) (fl : ByteArray) (n : Int) (b : Bool) (p kd : Int) : Fp5 (w.alloc (.cells #[.string fl, .int .i64 n, .bool b, .int .i64 p, .int .u8 kd] t)) w.heap.size fl n b p kd := by
  have e : ∀ j, (w.alloc (.cells #[.string fl, .int .i64 n, .bool b, .int .i64 p, .int .u8 kd] t)).cell? ⟨w.heap.size, j, none⟩ = (#[Value.string fl, .int .i64 n, .bool b, .int .i64 p, .int .u8 kd] : Array Value)[j]? := fun j => World.cell?_alloc_at _ _ _ _ rfl
  have f : ∀ j, (w.alloc (.cells #[.string fl, .int .i64 n, .bool b, .int .i64 p, .int .u8 kd] t)).frozen? ⟨w.heap.size, j, none⟩ = false := fun j => World.frozen?_alloc_at _ _ _ _ rfl
  exact ⟨by simp, e 0, e 1, e 2, e 3, e 4, f 0, f 1, f 2, f 3, f 4⟩
theorem isFl_45' (c : UInt8) (h : c = 45) : isFl c = true := by rw [h]; rfl
theorem isFl_48' (c : UInt8) (h : c = 48) : isFl c = true := by rw [h]; rfl
theorem isFl_no' (c : UInt8) (h : c ≠ 45) (h2 : c ≠ 48) : isFl c = false := by simp [isFl, h, h2]
theorem ne_int' (c : UInt8) (n : Nat) (hn : n < 256) (h : c ≠ UInt8.ofNat n) : ((c.toNat : Int) == (n : Int)) = false := by rw [u8_int c n hn]; simpa using h
theorem flN_yes {c : UInt8} {l : List UInt8} (h : isFl c = true) : flN (c :: l) = flN l + 1 := by rw [flN, if_pos h]
theorem flN_no {c : UInt8} {l : List UInt8} (h : isFl c = false) : flN (c :: l) = 0 := by rw [flN, if_neg (by simp [h])]
set_option maxHeartbeats 400000 in
theorem flEnd_any (s : ByteArray) (w : World) (hs : s.size ≤ 1048576) :
    Calls Tryz.prog 88 #[.string s] w fun e w' => e = .returned (.int .i64 (flN s.data.toList : Int)) ∧ w = w' := by
  go_enter Tryz.func88, Tryz.ntmps88
  go_wp2
  go_loop [3] (fun v => ∃ k : Nat, k ≤ s.size ∧ v = .int .i64 (k : Int) ∧ flN s.data.toList = k + flN (s.data.toList.drop k)) (fun v => s.size - (intOf v).toNat)
  case atStart => exact ⟨0, Nat.zero_le _, rfl, by simp⟩
  case round =>
    obtain ⟨k, hk, rfl, hf⟩ := hrel
    have HF := Lib.hid hf; clear hf
    by_cases hlt : k < s.size
    · have j0 : (0 : Int) ≤ (k : Int) := by omega
      have j1 : (k : Int) < (s.size : Int) := by omega
      by_cases h1 : s[k] = 45
      · have HN := Lib.hid (show flN s.data.toList = (k + 1) + flN (s.data.toList.drop (k + 1)) by rw [HF.out, drop_atL s k hlt, flN_yes (isFl_45' _ h1)]; omega)
        have x1 : ((s[k].toNat : Int) == 45) = true := by rw [h1]; rfl
        clear h1
        go_wp2
        go_round
        case rel => exact ⟨k + 1, by omega, by go_num, HN.out⟩
        case measure => simp [intOf]; omega
      · by_cases h2 : s[k] = 48
        · have HN := Lib.hid (show flN s.data.toList = (k + 1) + flN (s.data.toList.drop (k + 1)) by rw [HF.out, drop_atL s k hlt, flN_yes (isFl_48' _ h2)]; omega)
          have x1 : ((s[k].toNat : Int) == 45) = false := by rw [h2]; rfl
          have x2 : ((s[k].toNat : Int) == 48) = true := by rw [h2]; rfl
          clear h1 h2
          go_wp2
          go_round
          case rel => exact ⟨k + 1, by omega, by go_num, HN.out⟩
          case measure => simp [intOf]; omega
        · have HN := Lib.hid (show flN s.data.toList = k by rw [HF.out, drop_atL s k hlt, flN_no (isFl_no' _ h1 h2)]; rfl)
          have x1 : ((s[k].toNat : Int) == 45) = false := ne_int' s[k] 45 (by omega) h1
          have x2 : ((s[k].toNat : Int) == 48) = false := ne_int' s[k] 48 (by omega) h2
          clear h1 h2
          go_wp2
          go_ret
          exact ⟨ret_int (by rw [HN.out]), rfl⟩
    · have HN := Lib.hid (show flN s.data.toList = k by rw [HF.out, drop_endL s k (by omega)]; rfl)
      go_wp2
      go_ret
      exact ⟨ret_int (by rw [HN.out]), rfl⟩
theorem isDg_digB (c : UInt8) : digB (c.toNat : Int) = isDg c := by
  rw [Bool.eq_iff_iff]
  simp [digB, inB, isDg]
  omega
theorem run_dg (s : ByteArray) (i : Nat) (hi : i ≤ s.size) : runEnd digB s i = i + dgN (s.data.toList.drop i) := by
  obtain ⟨n, hn⟩ : ∃ n, n = s.size - i := ⟨_, rfl⟩
  induction n generalizing i with
  | zero => rw [runEnd_end (by omega), drop_endL s i (by omega)]; rfl
  | succ n ih =>
    have h : i < s.size := by omega
    rw [drop_atL s i h, dgN]
    cases hp : isDg s[i]
    · rw [runEnd_out h (by rw [isDg_digB]; exact hp)]; simp
    · rw [← runEnd_in h (by rw [isDg_digB]; exact hp), ih (i + 1) (by omega) (by omega)]; simp; omega
/-- What a precision's digit tells. -/
def prT (l : List UInt8) : Int :=
  match l with
  | [] => -1
  | c :: _ => if 48 ≤ c.toNat ∧ c.toNat ≤ 54 then (c.toNat : Int) - 48 else -1
theorem wrap_u8s (n : Int) (h0 : 0 ≤ n) (h : n < 256) : IntKind.u8.wrap n = n := by
  unfold IntKind.wrap
  simp [IntKind.signed, IntKind.bits]
  omega
theorem prec_any (t : ByteArray) (w : World) (ht : t.size ≤ 1048576) :
    Calls Tryz.prog 90 #[.string t] w fun e w' => e = .returned (.int .i64 (prT t.data.toList)) ∧ w = w' := by
  by_cases h0 : t.size = 0
  · have E := Lib.hid (show prT t.data.toList = -1 by have := drop_endL t 0 (by omega); rw [List.drop_zero] at this; rw [this]; rfl)
    have he := empty_of_size h0
    clear h0
    go_enter Tryz.func90, Tryz.ntmps90
    go_wp2
    go_ret
    exact ⟨ret_int E.out.symm, rfl⟩
  · have hp : 0 < t.size := by omega
    have he := not_empty_of_size h0
    have HL := Lib.hid (show t.data.toList = t[0] :: t.data.toList.drop 1 by have := drop_atL t 0 hp; rwa [List.drop_zero] at this)
    by_cases h : 48 ≤ t[0].toNat ∧ t[0].toNat ≤ 54
    · have E := Lib.hid (show prT t.data.toList = (t[0].toNat : Int) - 48 by rw [HL.out, prT, if_pos h])
      have x1 : ¬ (t[0].toNat : Int) < 48 := by omega
      have x2 : ¬ 54 < (t[0].toNat : Int) := by omega
      have hw : IntKind.u8.wrap ((t[0].toNat : Int) - 48) = (t[0].toNat : Int) - 48 := wrap_u8s _ (by omega) (by omega)
      clear h h0
      go_enter Tryz.func90, Tryz.ntmps90
      go_wp2
      go_ret
      exact ⟨ret_int E.out.symm, rfl⟩
    · have E := Lib.hid (show prT t.data.toList = -1 by rw [HL.out, prT, if_neg h])
      by_cases x1 : (t[0].toNat : Int) < 48
      · clear h h0
        go_enter Tryz.func90, Tryz.ntmps90
        go_wp2
        go_ret
        exact ⟨ret_int E.out.symm, rfl⟩
      · have x2 : 54 < (t[0].toNat : Int) := by omega
        clear h h0
        go_enter Tryz.func90, Tryz.ntmps90
        go_wp2
        go_ret
        exact ⟨ret_int E.out.symm, rfl⟩
theorem kind_ib : ∀ n : Fin 256, decide (Lib.indexByte [100, 105, 115, 99, 102, 120, 111] (UInt8.ofNat n.val) < 0) = !kindB (UInt8.ofNat n.val) := by decide +kernel
theorem kind_any (c : UInt8) (w : World) :
    Calls Tryz.prog 91 #[.string ⟨#[100, 105, 115, 99, 102, 120, 111]⟩, .int .u8 (c.toNat : Int)] w fun e w' => (∃ z : Int, e = .returned (.int .i64 z) ∧ decide (z < 0) = !kindB c) ∧ w = w' := by
  refine (Tryz.strings_IndexByte ⟨#[100, 105, 115, 99, 102, 120, 111]⟩ (c.toNat : Int) w).mono ?_
  rintro e w' ⟨rfl, rfl⟩
  refine ⟨⟨_, rfl, ?_⟩, rfl⟩
  have := kind_ib ⟨c.toNat, c.toNat_lt⟩
  have e : (c.toNat : Int).toNat.toUInt8 = c := by rw [Int.toNat_natCast]; exact UInt8.ofNat_toNat
  rw [e]
  simpa using this
end Go.Proofs.YthffjcclcladoaaGreatDoor.kit
