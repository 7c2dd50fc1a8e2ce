/-
  Contracts of spec.l01Has, spec.IsKey and impl.IsKey over this seat's translation: whether a text is among texts; both of the last give the same Bool 'keyB' of its bytes. Conditions: the list has at most 1000 texts, whose cells are known.
-/
import Derived.Test.YtebeoijoljlhiaaGreatDoorMParts0
import Derived.Test.YtebeoijoljlhiaaGreatDoorMInfo
namespace Go.Proofs.YtebeoijoljlhiaaGreatDoor.kit
open Go.ChangeShapes Go.WideShapes Go.ChangeAt Go.RowKit
set_option linter.unusedVariables false

/-- The cells of a slice of texts. -/
def TextsAt (w : World) (a : Option Addr) (n : Nat) (f : Nat → List UInt8) : Prop := ∀ j, j < n → ∃ g, a = some ⟨g, 0, none⟩ ∧ w.cell? ⟨g, j, none⟩ = some (eS (f j))
def anyTo (f : Nat → List UInt8) (n : Nat) (l : List UInt8) : Bool := (List.range n).any fun j => f j == l
theorem anyTo_no {f : Nat → List UInt8} {n : Nat} {l : List UInt8} (h : ∀ j, j < n → (f j == l) = false) : anyTo f n l = false := by
  rw [Bool.eq_false_iff]; intro g
  simp only [anyTo, List.any_eq_true, List.mem_range] at g
  obtain ⟨j, hj, e⟩ := g
  rw [h j hj] at e; cases e
theorem anyTo_yes {f : Nat → List UInt8} {n k : Nat} {l : List UInt8} (hk : k < n) (h : (f k == l) = true) : anyTo f n l = true := by
  simp only [anyTo, List.any_eq_true, List.mem_range]
  exact ⟨k, hk, h⟩

set_option maxHeartbeats 400000 in
theorem has01_any (a : Option Addr) (cap n : Nat) (f : Nat → List UInt8) (s : ByteArray) (w : World) (hn : n ≤ 1000) (h : TextsAt w a n f) :
    Calls Tryz.prog 65 #[.slice a n cap, .string s] w fun e w' => e = .returned (.bool (anyTo f n s.toList)) ∧ w = w' := by
  have H := Lib.hid h; clear h
  go_enter Tryz.func65, Tryz.ntmps65
  go_wp2
  go_loop [5] (fun i => ∃ k : Nat, k ≤ n ∧ i = .int .i64 k ∧ ∀ j, j < k → (f j == s.toList) = false) (fun i => n - (intOf i).toNat)
  case atStart => exact ⟨0, Nat.zero_le _, rfl, fun j hj => by omega⟩
  case round =>
    obtain ⟨k, hk, rfl, hno⟩ := hrel
    have HN := Lib.hid hno; clear hno
    by_cases hlt : k < n
    · obtain ⟨g, rfl, hg⟩ := H.out k hlt
      unfold eS at hg
      cases e : (f k == s.toList)
      · have HN2 : Hid (∀ j, j < k + 1 → (f j == s.toList) = false) := Lib.hid (fun j hj => by
          by_cases e2 : j = k
          · subst e2; exact e
          · exact HN.out j (by omega))
        generalize f k = x at *
        go_wp2
        go_round
        case rel => exact ⟨k + 1, by omega, by go_num, HN2.out⟩
        case measure => simp [intOf]; omega
      · have E := Lib.hid (anyTo_yes hlt e)
        generalize f k = x at *
        go_wp2
        go_ret
        exact ⟨ret_bool E.out.symm, rfl⟩
    · have E := Lib.hid (anyTo_no (f := f) (n := n) (l := s.toList) (fun j hj => HN.out j (by omega)))
      go_wp2
      go_ret
      exact ⟨ret_bool E.out.symm, rfl⟩

def keyList : List (List UInt8) := [[66, 69, 71, 73, 78], [69, 78, 68], [105, 102], [101, 108, 115, 101], [119, 104, 105, 108, 101], [102, 111, 114], [105, 110], [110, 101, 120, 116], [101, 120, 105, 116], [100, 101, 108, 101, 116, 101], [112, 114, 105, 110, 116], [112, 114, 105, 110, 116, 102]]
def keyB (l : List UInt8) : Bool := keyList.any fun x => x == l
theorem keyB_any (l : List UInt8) : anyTo (fun j => keyList.getD j []) 12 l = keyB l := by
  simp [anyTo, keyB, keyList, List.range, List.range.loop]
set_option maxHeartbeats 400000 in
theorem specIsKey_any (s : ByteArray) (w : World) :
    Calls Tryz.prog 31 #[.string s] w fun e w' => e = .returned (.bool (keyB s.toList)) ∧ Below w.heap.size w w' := by
  have E := Lib.hid (keyB_any s.toList)
  go_enter Tryz.func31, Tryz.ntmps31
  go_wp2_with fail
  refine (has01_any _ _ 12 (fun j => keyList.getD j []) s _ (by decide) ?_).mono ?_
  · intro j hj
    refine ⟨_, rfl, ?_⟩
    rw [World.cell?_alloc_at _ _ _ _ (by simp)]
    match j, hj with
    | 0, _ => rfl
    | 1, _ => rfl
    | 2, _ => rfl
    | 3, _ => rfl
    | 4, _ => rfl
    | 5, _ => rfl
    | 6, _ => rfl
    | 7, _ => rfl
    | 8, _ => rfl
    | 9, _ => rfl
    | 10, _ => rfl
    | 11, _ => rfl
  · rintro e w' ⟨rfl, rfl⟩
    go_wp2
    go_ret
    exact ⟨ret_bool E.out, (Below.refl _ _).alloc (Nat.le_refl _) _⟩

set_option maxHeartbeats 1000000 in
theorem implIsKey_any (s : ByteArray) (w : World) :
    Calls Tryz.prog 30 #[.string s] w fun e w' => e = .returned (.bool (keyB s.toList)) ∧ w = w' := by
  cases a0 : (s.toList == [66, 69, 71, 73, 78])
  case true =>
    have E : Hid (keyB s.toList = true) := Lib.hid (by simp only [keyB, List.any_eq_true]; exact ⟨[66, 69, 71, 73, 78], by decide, by rw [beq_iff_eq] at a0 ⊢; exact a0.symm⟩)
    go_enter Tryz.func30, Tryz.ntmps30
    go_wp2
    go_ret
    exact ⟨ret_bool E.out.symm, rfl⟩
  cases a1 : (s.toList == [69, 78, 68])
  case true =>
    have E : Hid (keyB s.toList = true) := Lib.hid (by simp only [keyB, List.any_eq_true]; exact ⟨[69, 78, 68], by decide, by rw [beq_iff_eq] at a1 ⊢; exact a1.symm⟩)
    go_enter Tryz.func30, Tryz.ntmps30
    go_wp2
    go_ret
    exact ⟨ret_bool E.out.symm, rfl⟩
  cases a2 : (s.toList == [105, 102])
  case true =>
    have E : Hid (keyB s.toList = true) := Lib.hid (by simp only [keyB, List.any_eq_true]; exact ⟨[105, 102], by decide, by rw [beq_iff_eq] at a2 ⊢; exact a2.symm⟩)
    go_enter Tryz.func30, Tryz.ntmps30
    go_wp2
    go_ret
    exact ⟨ret_bool E.out.symm, rfl⟩
  cases a3 : (s.toList == [101, 108, 115, 101])
  case true =>
    have E : Hid (keyB s.toList = true) := Lib.hid (by simp only [keyB, List.any_eq_true]; exact ⟨[101, 108, 115, 101], by decide, by rw [beq_iff_eq] at a3 ⊢; exact a3.symm⟩)
    go_enter Tryz.func30, Tryz.ntmps30
    go_wp2
    go_ret
    exact ⟨ret_bool E.out.symm, rfl⟩
  cases a4 : (s.toList == [119, 104, 105, 108, 101])
  case true =>
    have E : Hid (keyB s.toList = true) := Lib.hid (by simp only [keyB, List.any_eq_true]; exact ⟨[119, 104, 105, 108, 101], by decide, by rw [beq_iff_eq] at a4 ⊢; exact a4.symm⟩)
    go_enter Tryz.func30, Tryz.ntmps30
    go_wp2
    go_ret
    exact ⟨ret_bool E.out.symm, rfl⟩
  cases a5 : (s.toList == [102, 111, 114])
  case true =>
    have E : Hid (keyB s.toList = true) := Lib.hid (by simp only [keyB, List.any_eq_true]; exact ⟨[102, 111, 114], by decide, by rw [beq_iff_eq] at a5 ⊢; exact a5.symm⟩)
    go_enter Tryz.func30, Tryz.ntmps30
    go_wp2
    go_ret
    exact ⟨ret_bool E.out.symm, rfl⟩
  cases a6 : (s.toList == [105, 110])
  case true =>
    have E : Hid (keyB s.toList = true) := Lib.hid (by simp only [keyB, List.any_eq_true]; exact ⟨[105, 110], by decide, by rw [beq_iff_eq] at a6 ⊢; exact a6.symm⟩)
    go_enter Tryz.func30, Tryz.ntmps30
    go_wp2
    go_ret
    exact ⟨ret_bool E.out.symm, rfl⟩
  cases a7 : (s.toList == [110, 101, 120, 116])
  case true =>
    have E : Hid (keyB s.toList = true) := Lib.hid (by simp only [keyB, List.any_eq_true]; exact ⟨[110, 101, 120, 116], by decide, by rw [beq_iff_eq] at a7 ⊢; exact a7.symm⟩)
    go_enter Tryz.func30, Tryz.ntmps30
    go_wp2
    go_ret
    exact ⟨ret_bool E.out.symm, rfl⟩
  cases a8 : (s.toList == [101, 120, 105, 116])
  case true =>
    have E : Hid (keyB s.toList = true) := Lib.hid (by simp only [keyB, List.any_eq_true]; exact ⟨[101, 120, 105, 116], by decide, by rw [beq_iff_eq] at a8 ⊢; exact a8.symm⟩)
    go_enter Tryz.func30, Tryz.ntmps30
    go_wp2
    go_ret
    exact ⟨ret_bool E.out.symm, rfl⟩
  cases a9 : (s.toList == [100, 101, 108, 101, 116, 101])
  case true =>
    have E : Hid (keyB s.toList = true) := Lib.hid (by simp only [keyB, List.any_eq_true]; exact ⟨[100, 101, 108, 101, 116, 101], by decide, by rw [beq_iff_eq] at a9 ⊢; exact a9.symm⟩)
    go_enter Tryz.func30, Tryz.ntmps30
    go_wp2
    go_ret
    exact ⟨ret_bool E.out.symm, rfl⟩
  cases a10 : (s.toList == [112, 114, 105, 110, 116])
  case true =>
    have E : Hid (keyB s.toList = true) := Lib.hid (by simp only [keyB, List.any_eq_true]; exact ⟨[112, 114, 105, 110, 116], by decide, by rw [beq_iff_eq] at a10 ⊢; exact a10.symm⟩)
    go_enter Tryz.func30, Tryz.ntmps30
    go_wp2
    go_ret
    exact ⟨ret_bool E.out.symm, rfl⟩
  cases a11 : (s.toList == [112, 114, 105, 110, 116, 102])
  case true =>
    have E : Hid (keyB s.toList = true) := Lib.hid (by simp only [keyB, List.any_eq_true]; exact ⟨[112, 114, 105, 110, 116, 102], by decide, by rw [beq_iff_eq] at a11 ⊢; exact a11.symm⟩)
    go_enter Tryz.func30, Tryz.ntmps30
    go_wp2
    go_ret
    exact ⟨ret_bool E.out.symm, rfl⟩
  have E : Hid (keyB s.toList = false) := Lib.hid (by
    rw [Bool.eq_false_iff]; intro g
    simp only [keyB, keyList, List.any_eq_true, List.mem_cons, List.not_mem_nil, or_false, beq_iff_eq] at g
    obtain ⟨x, hx, rfl⟩ := g
    simp_all)
  go_enter Tryz.func30, Tryz.ntmps30
  go_wp2
  go_ret
  exact ⟨ret_bool E.out.symm, rfl⟩
end Go.Proofs.YtebeoijoljlhiaaGreatDoor.kit
