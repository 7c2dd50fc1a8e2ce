/-
  Contracts of spec.TokenText and impl.TokenText over this seat's translation: both give the same text 'ttx' of a word. Conditions: its text has at most 1048576 bytes, and the table of the powers of ten is as listed, where the program's own is made.
-/
import Derived.Test.YtebeoijoljlhiaaGreatDoorMNt1
import Derived.Test.YtebeoijoljlhiaaGreatDoorMQuoI
import Derived.Test.YtebeoijoljlhiaaGreatDoorMQb
import Derived.Test.YtebeoijoljlhiaaGreatDoorMTok0
namespace Go.Proofs.YtebeoijoljlhiaaGreatDoor.kit
open Go.ChangeShapes Go.WideShapes Go.ChangeAt Go.RowKit
set_option linter.unusedVariables false

def ttx (t : Tok) : ByteArray :=
  if t.k = 0 then ntA t.n else if t.k = 1 then ⟨(qbs t.s.data.toList ++ [34]).toArray⟩ else if t.k = 2 then (⟨#[47]⟩ ++ t.s) ++ ⟨#[47]⟩ else if t.k = 6 then ⟨#[10]⟩ else t.s
theorem ret_str' {a b : ByteArray} (h : a = b) : Ending.returned (.string a) = Ending.returned (.string b) := by rw [h]
set_option maxRecDepth 100000 in
set_option maxHeartbeats 400000 in
theorem specTt_any (t : Tok) (w : World) (hs : t.s.size ≤ 1048576) :
    Calls Tryz.prog 33 #[t.v] w fun e w' => e = .returned (.string (ttx t)) ∧ Below w.heap.size w w' := by
  obtain ⟨k, s, n, l⟩ := t
  unfold Tok.v
  simp only at *
  by_cases c0 : k = 0
  · subst c0
    have E : Hid (ttx ⟨0, s, n, l⟩ = ntA n) := Lib.hid (by simp [ttx])
    have HB := Lib.hid (show ∀ o, Below w.heap.size w (w.alloc o) from fun o => (Below.refl w.heap.size w).alloc (Nat.le_refl _) _)
    have HC := Lib.hid (fun o => specNt_any n (w.alloc o))
    go_enter Tryz.func33, Tryz.ntmps33
    go_wp2_with fail
    refine (HC.out _).mono ?_
    rintro e w1 ⟨rfl, rfl⟩
    go_wp2
    go_ret
    exact ⟨ret_str' E.out.symm, HB.out _⟩
  · by_cases c1 : k = 1
    · subst c1
      have E : Hid (ttx ⟨1, s, n, l⟩ = ⟨(qbs s.data.toList ++ [34]).toArray⟩) := Lib.hid (by simp [ttx])
      have HB := Lib.hid (show ∀ o, Below w.heap.size w (w.alloc o) from fun o => (Below.refl w.heap.size w).alloc (Nat.le_refl _) _)
      have HC := Lib.hid (fun W => specQuote_any s W hs)
      go_enter Tryz.func33, Tryz.ntmps33
      go_wp2_with fail
      refine (HC.out _).mono ?_
      rintro e w1 ⟨rfl, hb1⟩
      go_wp2
      go_ret
      exact ⟨ret_str' E.out.symm, (HB.out _).trans (hb1.mono (HB.out _).size)⟩
    · by_cases c2 : k = 2
      · subst c2
        have E : Hid (ttx ⟨2, s, n, l⟩ = (⟨#[47]⟩ ++ s) ++ ⟨#[47]⟩) := Lib.hid (by simp [ttx])
        go_enter Tryz.func33, Tryz.ntmps33
        go_wp2
        go_ret
        exact ⟨ret_str' E.out.symm, (Below.refl w.heap.size w).alloc (Nat.le_refl _) _⟩
      · by_cases c6 : k = 6
        · subst c6
          have E : Hid (ttx ⟨6, s, n, l⟩ = ⟨#[10]⟩) := Lib.hid (by simp [ttx])
          go_enter Tryz.func33, Tryz.ntmps33
          go_wp2
          go_ret
          exact ⟨ret_str' E.out.symm, (Below.refl w.heap.size w).alloc (Nat.le_refl _) _⟩
        · have E : Hid (ttx ⟨k, s, n, l⟩ = s) := Lib.hid (by simp [ttx, c0, c1, c2, c6])
          have b0 : (k == 0) = false := by simpa using c0
          have b1 : (k == 1) = false := by simpa using c1
          have b2 : (k == 2) = false := by simpa using c2
          have b6 : (k == 6) = false := by simpa using c6
          go_enter Tryz.func33, Tryz.ntmps33
          go_wp2
          go_ret
          exact ⟨ret_str' E.out.symm, (Below.refl w.heap.size w).alloc (Nat.le_refl _) _⟩
set_option maxRecDepth 100000 in
set_option maxHeartbeats 400000 in
theorem implTt_any (t : Tok) (w : World) (hs : t.s.size ≤ 1048576) (ht : Tab w) :
    Calls Tryz.prog 32 #[t.v] w fun e w' => e = .returned (.string (ttx t)) ∧ Below w.heap.size w w' := by
  obtain ⟨k, s, n, l⟩ := t
  unfold Tok.v
  simp only at *
  by_cases c0 : k = 0
  · subst c0
    have E : Hid (ttx ⟨0, s, n, l⟩ = ntA n) := Lib.hid (by simp [ttx])
    have HB := Lib.hid (show ∀ o, Below w.heap.size w (w.alloc o) from fun o => (Below.refl w.heap.size w).alloc (Nat.le_refl _) _)
    have HC := Lib.hid (fun o => implNt_any n (w.alloc o) (ht.on (HB.out o)))
    go_enter Tryz.func32, Tryz.ntmps32
    go_wp2_with fail
    refine (HC.out _).mono ?_
    rintro e w1 ⟨rfl, hb1⟩
    go_wp2
    go_ret
    exact ⟨ret_str' E.out.symm, (HB.out _).trans (hb1.mono (HB.out _).size)⟩
  · by_cases c1 : k = 1
    · subst c1
      have E : Hid (ttx ⟨1, s, n, l⟩ = ⟨(qbs s.data.toList ++ [34]).toArray⟩) := Lib.hid (by simp [ttx])
      have HB := Lib.hid (show ∀ o, Below w.heap.size w (w.alloc o) from fun o => (Below.refl w.heap.size w).alloc (Nat.le_refl _) _)
      have HC := Lib.hid (fun W => implQuote_any s W hs)
      go_enter Tryz.func32, Tryz.ntmps32
      go_wp2_with fail
      refine (HC.out _).mono ?_
      rintro e w1 ⟨rfl, hb1⟩
      go_wp2
      go_ret
      exact ⟨ret_str' E.out.symm, (HB.out _).trans (hb1.mono (HB.out _).size)⟩
    · by_cases c2 : k = 2
      · subst c2
        have E : Hid (ttx ⟨2, s, n, l⟩ = (⟨#[47]⟩ ++ s) ++ ⟨#[47]⟩) := Lib.hid (by simp [ttx])
        go_enter Tryz.func32, Tryz.ntmps32
        go_wp2
        go_ret
        exact ⟨ret_str' E.out.symm, (Below.refl w.heap.size w).alloc (Nat.le_refl _) _⟩
      · by_cases c6 : k = 6
        · subst c6
          have E : Hid (ttx ⟨6, s, n, l⟩ = ⟨#[10]⟩) := Lib.hid (by simp [ttx])
          go_enter Tryz.func32, Tryz.ntmps32
          go_wp2
          go_ret
          exact ⟨ret_str' E.out.symm, (Below.refl w.heap.size w).alloc (Nat.le_refl _) _⟩
        · have E : Hid (ttx ⟨k, s, n, l⟩ = s) := Lib.hid (by simp [ttx, c0, c1, c2, c6])
          have b0 : (k == 0) = false := by simpa using c0
          have b1 : (k == 1) = false := by simpa using c1
          have b2 : (k == 2) = false := by simpa using c2
          have b6 : (k == 6) = false := by simpa using c6
          go_enter Tryz.func32, Tryz.ntmps32
          go_wp2
          go_ret
          exact ⟨ret_str' E.out.symm, (Below.refl w.heap.size w).alloc (Nat.le_refl _) _⟩
end Go.Proofs.YtebeoijoljlhiaaGreatDoor.kit
