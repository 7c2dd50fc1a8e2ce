/-
  Contracts of laws.eqRec, laws.markRec, laws.heldRec, spec.Field, impl.Field, spec.RecOk, impl.RecOk over this seat's translation. Conditions: each theorem names its own.
-/
import Derived.Test.YtghmkfehohgmgaaFd1
namespace Go.Proofs.Ytghmkfehohgmgaa.kit
open Go.ChangeShapes Go.WideShapes Go.ChangeAt Go.RowKit
set_option linter.unusedVariables false

set_option maxRecDepth 100000 in
set_option maxHeartbeats 400000 in
theorem eqRec_any (B C : Nat) (l : List UInt8) (a b : Option Addr) (cap cap' n : Nat) (f : Nat → List UInt8) (w : World) (hn : n ≤ 2000000) (h1 : SlF B w a n f) (h2 : SlF C w b n f) :
    Calls Try.prog 18 #[recV l a n cap, recV l b n cap'] w fun e w' => e = .returned (.bool true) ∧ Below w.heap.size w w' := by
  unfold recV eS
  have HB := Lib.hid (show ∀ o1 o2, Below w.heap.size w ((w.alloc o1).alloc o2) from fun o1 o2 => (((Below.refl w.heap.size w).alloc (Nat.le_refl _) _).alloc (by simp) _))
  have HE := Lib.hid (fun (W : World) (hb : Below w.heap.size w W) => eq_any B C a b cap cap' n f W hn (h1.kept hb) (h2.kept hb))
  clear h1 h2
  generalize (⟨l.toArray⟩ : ByteArray) = s
  go_enter Try.func18, Try.ntmps18
  go_wp2_with fail
  refine (HE.out _ (HB.out _ _)).mono ?_
  rintro e w1 ⟨rfl, hb1⟩
  go_wp2_with fail
  go_ret
  exact ⟨rfl, (HB.out _ _).trans (hb1.mono (HB.out _ _).size)⟩
set_option maxRecDepth 100000 in
theorem markRec_any (B : Nat) (l : List UInt8) (a : Option Addr) (cap n m : Nat) (f : Nat → List UInt8) (w : World) (hB : B ≤ w.heap.size) (hn : n ≤ 2000000) (hm0 : 0 < m) (hm : m ≤ 10000000) (hsl : SlF B w a n f) :
    Calls Try.prog 28 #[recV l a n cap, .int .i64 (m : Int)] w fun e w' => e = .returned (.int .i64 ((m : Int) + n)) ∧ SlF B w' a n (fun j => mt (m + j)) ∧ Below B w w' := by
  unfold recV eS
  have HB := Lib.hid (show ∀ o1, Below w.heap.size w (w.alloc o1) from fun o1 => (Below.refl w.heap.size w).alloc (Nat.le_refl _) _)
  have HE := Lib.hid (fun (W : World) (hb : Below w.heap.size w W) => mark_any B a cap n m f W (Nat.le_trans hB hb.size) hn hm0 hm (hsl.kept hb))
  clear hsl
  generalize (⟨l.toArray⟩ : ByteArray) = s
  go_enter Try.func28, Try.ntmps28
  go_wp2_with fail
  refine (HE.out _ (HB.out _)).mono ?_
  rintro e w1 ⟨rfl, hs1, hb1⟩
  have HS := Lib.hid hs1
  go_wp2_with fail
  go_ret
  exact ⟨rfl, HS.out, ((HB.out _).mono hB).trans hb1⟩
set_option maxRecDepth 100000 in
theorem heldRec_any (B : Nat) (l : List UInt8) (a : Option Addr) (cap n m : Nat) (w : World) (hn : n ≤ 2000000) (hm0 : 0 < m) (hm : m ≤ 10000000) (hsl : SlF B w a n (fun j => mt (m + j))) :
    Calls Try.prog 29 #[recV l a n cap, .int .i64 (m : Int)] w fun e w' => e = .returned (.int .i64 ((m : Int) + n)) ∧ Below w.heap.size w w' := by
  unfold recV eS
  have HB := Lib.hid (show ∀ o1, Below w.heap.size w (w.alloc o1) from fun o1 => (Below.refl w.heap.size w).alloc (Nat.le_refl _) _)
  have HE := Lib.hid (fun (W : World) (hb : Below w.heap.size w W) => held_any B a cap n m W hn hm0 hm (hsl.kept hb))
  clear hsl
  generalize (⟨l.toArray⟩ : ByteArray) = s
  go_enter Try.func29, Try.ntmps29
  go_wp2_with fail
  refine (HE.out _ (HB.out _)).mono ?_
  rintro e w1 ⟨rfl, hb1⟩
  have h0 : 0 ≤ (m : Int) + (n : Int) := by omega
  go_wp2_with fail
  go_ret
  exact ⟨rfl, (HB.out _).trans (hb1.mono (HB.out _).size)⟩

/-- What a record tells of a number. -/
def fieldOf (l : List UInt8) (n : Nat) (f : Nat → List UInt8) (i : Int) : List UInt8 := if i = 0 then l else if 1 ≤ i ∧ i ≤ n then f (i - 1).toNat else []
set_option maxRecDepth 100000 in
theorem specField_any (B : Nat) (l : List UInt8) (a : Option Addr) (cap n : Nat) (f : Nat → List UInt8) (i : Int) (w : World) (hn : n ≤ 2000000) (wi : (Lit.int .i64 i).wf = true) (hsl : SlF B w a n f) :
    Calls Try.prog 24 #[recV l a n cap, .int .i64 i] w fun e w' => e = .returned (eS (fieldOf l n f i)) ∧ Below w.heap.size w w' := by
  unfold recV
  have HB := Lib.hid (show ∀ o1, Below w.heap.size w (w.alloc o1) from fun o1 => (Below.refl w.heap.size w).alloc (Nat.le_refl _) _)
  have HS := Lib.hid (fun (W : World) (hb : Below w.heap.size w W) => hsl.kept hb)
  have HI := Lib.hid (fun W => in_any i 1 n W)
  clear hsl
  by_cases c0 : i = 0
  · subst c0
    have e1 : fieldOf l n f 0 = l := by simp [fieldOf]
    rw [e1]
    unfold eS
    go_enter Try.func24, Try.ntmps24
    go_wp2_with fail
    go_ret
    exact ⟨rfl, HB.out _⟩
  · by_cases c1 : 1 ≤ i ∧ i ≤ n
    · have e1 : fieldOf l n f i = f (i - 1).toNat := by simp only [fieldOf, if_neg c0, if_pos c1]
      obtain ⟨k, hki⟩ : ∃ k : Nat, (i - 1).toNat = k := ⟨_, rfl⟩
      have hk : k < n := by omega
      rw [e1, hki]
      clear e1
      have hw : wrap64 (i - 1) = (k : Int) := by unfold wrap64; omega
      have i0 : (0 : Int) ≤ (k : Int) := by omega
      have i1 : (k : Int) < (n : Int) := by omega
      have i2 : ¬ (i < 0) := by omega
      have i3 : ¬ ((n : Int) < i) := by omega
      have ht : i.toNat - 1 = k := by omega
      have KI := Lib.hid hki
      have C1 := Lib.hid c1
      clear hki
      obtain ⟨g, rfl, hg1, hg2, hg3, hg4⟩ := (HS.out _ (Below.refl _ _)) k hk
      generalize f k = x at *
      unfold eS at hg3 ⊢
      clear hg4 hg1
      have hin : inB i 1 n = true := by simp only [inB, decide_eq_true_eq]; exact C1.out
      rw [hin] at HI
      clear c1
      go_enter Try.func24, Try.ntmps24
      go_wp2_with fail
      refine (HI.out _).mono ?_
      rintro e w1 ⟨rfl, rfl⟩
      go_wp2_with fail
      go_ret
      exact ⟨rfl, HB.out _⟩
    · have e1 : fieldOf l n f i = [] := by simp only [fieldOf, if_neg c0, if_neg c1]
      rw [e1]
      clear e1
      unfold eS
      have hin : inB i 1 n = false := by rw [← Bool.not_eq_true]; simp only [inB, decide_eq_true_eq]; exact c1
      rw [hin] at HI
      go_enter Try.func24, Try.ntmps24
      go_wp2_with fail
      refine (HI.out _).mono ?_
      rintro e w1 ⟨rfl, rfl⟩
      go_wp2_with fail
      go_ret
      exact ⟨rfl, HB.out _⟩
set_option maxRecDepth 100000 in
theorem implField_any (B : Nat) (l : List UInt8) (a : Option Addr) (cap n : Nat) (f : Nat → List UInt8) (i : Int) (w : World) (hn : n ≤ 2000000) (wi : (Lit.int .i64 i).wf = true) (hsl : SlF B w a n f) :
    Calls Try.prog 25 #[recV l a n cap, .int .i64 i] w fun e w' => e = .returned (eS (fieldOf l n f i)) ∧ Below w.heap.size w w' := by
  unfold recV
  have HB := Lib.hid (show ∀ o1, Below w.heap.size w (w.alloc o1) from fun o1 => (Below.refl w.heap.size w).alloc (Nat.le_refl _) _)
  have HS := Lib.hid (fun (W : World) (hb : Below w.heap.size w W) => hsl.kept hb)
  clear hsl
  by_cases c0 : i = 0
  · subst c0
    have e1 : fieldOf l n f 0 = l := by simp [fieldOf]
    rw [e1]
    unfold eS
    go_enter Try.func25, Try.ntmps25
    go_wp2_with fail
    go_ret
    exact ⟨rfl, HB.out _⟩
  · by_cases c1 : 1 ≤ i ∧ i ≤ n
    · have e1 : fieldOf l n f i = f (i - 1).toNat := by simp only [fieldOf, if_neg c0, if_pos c1]
      obtain ⟨k, hki⟩ : ∃ k : Nat, (i - 1).toNat = k := ⟨_, rfl⟩
      have hk : k < n := by omega
      rw [e1, hki]
      clear e1
      have hw : wrap64 (i - 1) = (k : Int) := by unfold wrap64; omega
      have i0 : (0 : Int) ≤ (k : Int) := by omega
      have i1 : (k : Int) < (n : Int) := by omega
      have i2 : ¬ (i < 0) := by omega
      have i3 : ¬ ((n : Int) < i) := by omega
      have ht : i.toNat - 1 = k := by omega
      have KI := Lib.hid hki
      have C1 := Lib.hid c1
      clear hki
      obtain ⟨g, rfl, hg1, hg2, hg3, hg4⟩ := (HS.out _ (Below.refl _ _)) k hk
      generalize f k = x at *
      unfold eS at hg3 ⊢
      clear hg4 hg1
      go_enter Try.func25, Try.ntmps25
      go_wp2_with fail
      go_ret
      exact ⟨rfl, HB.out _⟩
    · have e1 : fieldOf l n f i = [] := by simp only [fieldOf, if_neg c0, if_neg c1]
      rw [e1]
      clear e1
      unfold eS
      by_cases c2 : i < 0
      · go_enter Try.func25, Try.ntmps25
        go_wp2_with fail
        go_ret
        exact ⟨rfl, HB.out _⟩
      · have c3 : (n : Int) < i := by omega
        go_enter Try.func25, Try.ntmps25
        go_wp2_with fail
        go_ret
        exact ⟨rfl, HB.out _⟩
end Go.Proofs.Ytghmkfehohgmgaa.kit
