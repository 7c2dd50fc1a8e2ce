/-
  Contracts of spec.RecOk, impl.tooLong, slices.IndexFunc, slices.ContainsFunc, impl.RecOk over this seat's translation. Conditions: each theorem names its own.
-/
import Derived.Test.YtghmkfehohgmgaaFdB
import Derived.Deep.LoopGhost
namespace Go.Proofs.Ytghmkfehohgmgaa.kit
open Go.ChangeShapes Go.WideShapes Go.ChangeAt Go.RowKit
set_option linter.unusedVariables false

/-- Whether no text is longer than a line may be. -/
def fitsF (n : Nat) (f : Nat → List UInt8) : Bool := decide (∀ j, j < n → (f j).length ≤ 2000)
def recOk (l : List UInt8) (n : Nat) (f : Nat → List UInt8) : Bool := decide (l.length ≤ 2000) && (decide (n ≤ 60) && fitsF n f)
theorem size_text (x : List UInt8) : (⟨x.toArray⟩ : ByteArray).size = x.length := by simp [ByteArray.size]
set_option maxRecDepth 100000 in
set_option maxHeartbeats 400000 in
theorem specRecOk_any (B : Nat) (l : List UInt8) (a : Option Addr) (cap n : Nat) (f : Nat → List UInt8) (w : World) (hn : n ≤ 2000000) (hsl : SlF B w a n f) :
    Calls Try.prog 15 #[recV l a n cap] w fun e w' => e = .returned (.bool (recOk l n f)) ∧ Below w.heap.size w w' := by
  unfold recV
  have HB := Lib.hid (show ∀ o1, Below w.heap.size w (w.alloc o1) from fun o1 => (Below.refl w.heap.size w).alloc (Nat.le_refl _) _)
  have HS := Lib.hid (fun (W : World) (hb : Below w.heap.size w W) => hsl.kept hb)
  clear hsl
  have HX := Lib.hid (Bx2.start (s := (⟨l.toArray⟩ : ByteArray)) (a := a) (n := n) (c := cap) w 33)
  unfold eS
  go_enter Try.func15, Try.ntmps15
  go_wp2_with fail
  go_loopw [3] (fun i wr => ∃ k : Nat, k ≤ n ∧ i = .int .i64 (k : Int) ∧ Bx2 w.heap.size (⟨l.toArray⟩ : ByteArray) a n cap wr ∧ Below w.heap.size w wr ∧ ∀ j, j < k → (f j).length ≤ 2000) (fun i _ => n - (intOf i).toNat)
  case atStart => exact ⟨0, Nat.zero_le _, rfl, HX.out, HB.out _, fun j hj => absurd hj (Nat.not_lt_zero _)⟩
  case round =>
    obtain ⟨k, hk, rfl, ⟨⟨x0, x1⟩, x2⟩, hbel, hall⟩ := hrel
    have HB1 := Lib.hid hbel
    have HA := Lib.hid hall
    have HX1 := Lib.hid (show Bx2 w.heap.size (⟨l.toArray⟩ : ByteArray) a n cap wr from ⟨⟨x0, x1⟩, x2⟩)
    clear hbel hall x2
    by_cases hlt : k < n
    · obtain ⟨g, rfl, hg1, hg2, hg3, hg4⟩ := (HS.out _ HB1.out) k hlt
      unfold eS at hg3
      have i0 : (0 : Int) ≤ (k : Int) := by omega
      have i1 : (k : Int) < (n : Int) := by omega
      clear hg1 hg4
      by_cases c : (f k).length ≤ 2000
      · have hsz := size_text (f k)
        have c2 : ¬ (2000 : Int) < ((⟨(f k).toArray⟩ : ByteArray).size : Int) := by omega
        have C := Lib.hid c
        generalize (⟨(f k).toArray⟩ : ByteArray) = y at hg3 c2
        clear hsz c
        go_wp2_with fail
        go_roundw
        case rel => exact ⟨k + 1, by omega, by go_num, HX1.out, HB1.out, fun j hj => by
            by_cases e : j = k
            · subst e; exact C.out
            · exact HA.out j (by omega)⟩
        case measure => simp [intOf]; omega
      · have hsz := size_text (f k)
        have c2 : (2000 : Int) < ((⟨(f k).toArray⟩ : ByteArray).size : Int) := by omega
        have hf : recOk l n f = false := by
          have : fitsF n f = false := decide_eq_false fun h => c (h k hlt)
          simp [recOk, this]
        have HF := Lib.hid hf
        generalize (⟨(f k).toArray⟩ : ByteArray) = y at hg3 c2
        clear hsz c hf
        go_wp2_with fail
        go_ret
        exact ⟨ret_bool HF.out.symm, HB1.out⟩
    · obtain rfl : k = n := by omega
      have hf : recOk l k f = (decide (l.length ≤ 2000) && decide (k ≤ 60)) := by
        have : fitsF k f = true := decide_eq_true HA.out
        simp [recOk, this]
      have hsz := size_text l
      by_cases c1 : l.length ≤ 2000
      · by_cases c2 : k ≤ 60
        · have e1 : (decide (l.length ≤ 2000) && decide (k ≤ 60)) = true := by simp [c1, c2]
          have c3 : ((⟨l.toArray⟩ : ByteArray).size : Int) ≤ 2000 := by omega
          have c4 : (k : Int) ≤ 60 := by omega
          have HF := Lib.hid (hf.trans e1)
          generalize (⟨l.toArray⟩ : ByteArray) = s at *
          clear hf e1 hsz c1 c2
          go_wp2_with fail
          go_ret
          exact ⟨ret_bool HF.out.symm, HB1.out⟩
        · have e1 : (decide (l.length ≤ 2000) && decide (k ≤ 60)) = false := by simp [c2]
          have c3 : ((⟨l.toArray⟩ : ByteArray).size : Int) ≤ 2000 := by omega
          have c4 : ¬ (k : Int) ≤ 60 := by omega
          have HF := Lib.hid (hf.trans e1)
          generalize (⟨l.toArray⟩ : ByteArray) = s at *
          clear hf e1 hsz c1 c2
          go_wp2_with fail
          go_ret
          exact ⟨ret_bool HF.out.symm, HB1.out⟩
      · have e1 : (decide (l.length ≤ 2000) && decide (k ≤ 60)) = false := by simp [c1]
        have c3 : ¬ ((⟨l.toArray⟩ : ByteArray).size : Int) ≤ 2000 := by omega
        have HF := Lib.hid (hf.trans e1)
        generalize (⟨l.toArray⟩ : ByteArray) = s at *
        clear hf e1 hsz c1
        go_wp2_with fail
        go_ret
        exact ⟨ret_bool HF.out.symm, HB1.out⟩
theorem tooLong_any (x : List UInt8) (w : World) :
    Calls Try.prog 38 #[eS x] w fun e w' => e = .returned (.bool (!decide (x.length ≤ 2000))) ∧ w' = w := by
  have hsz := size_text x
  have e : (!decide (x.length ≤ 2000)) = decide ((2000 : Int) < ((⟨x.toArray⟩ : ByteArray).size : Int)) := by
    by_cases c : x.length ≤ 2000
    · rw [decide_eq_true c, decide_eq_false (by omega)]; rfl
    · rw [decide_eq_false c, decide_eq_true (by omega)]; rfl
  rw [e]
  clear hsz e
  unfold eS
  generalize (⟨x.toArray⟩ : ByteArray) = s
  go_enter Try.func38, Try.ntmps38
  go_wp2
  go_ret
  exact ⟨rfl, rfl⟩
set_option maxRecDepth 100000 in
set_option maxHeartbeats 400000 in
theorem indexFunc_any (B : Nat) (a : Option Addr) (cap n : Nat) (f : Nat → List UInt8) (w : World) (hn : n ≤ 2000000) (hsl : SlF B w a n f) :
    Calls Try.prog 53 #[.slice a n cap, .func (.func 38) #[] #[]] w fun e w' => (∃ r : Int, e = .returned (.int .i64 r) ∧ (decide (0 ≤ r) = !fitsF n f)) ∧ w' = w := by
  have HS := Lib.hid hsl
  clear hsl
  go_enter Try.func53, Try.ntmps53
  go_wp2_with fail
  go_loopg [5, 8] n (fun gg _ s8 wr => ∃ k : Nat, k ≤ n ∧ k + gg = n ∧ s8 = .int .i64 (k : Int) ∧ wr = w ∧ ∀ j, j < k → (f j).length ≤ 2000)
  case atStart => exact ⟨0, Nat.zero_le _, by omega, rfl, rfl, fun j hj => absurd hj (Nat.not_lt_zero _)⟩
  case round =>
    obtain ⟨k, hk, hg, rfl, rfl, hall⟩ := hrel
    have HA := Lib.hid hall
    clear hall
    by_cases hlt : k < n
    · obtain ⟨g, rfl, hg1, hg2, hg3, hg4⟩ := HS.out k hlt
      have HT := Lib.hid (fun W => tooLong_any (f k) W)
      have i0 : (0 : Int) ≤ (k : Int) := by omega
      have i1 : (k : Int) < (n : Int) := by omega
      clear hg1 hg4
      by_cases c : (f k).length ≤ 2000
      · rw [decide_eq_true c] at HT
        have C := Lib.hid c
        clear c
        generalize eS (f k) = y at hg3 HT
        go_wp2_with fail
        refine (HT.out _).mono ?_
        rintro e w1 ⟨rfl, rfl⟩
        go_wp2_with fail
        go_roundg (n - (k + 1))
        case measure => omega
        case rel => exact ⟨k + 1, by omega, by omega, by go_num, rfl, fun j hj => by
            by_cases e : j = k
            · subst e; exact C.out
            · exact HA.out j (by omega)⟩
      · rw [decide_eq_false c] at HT
        have HF := Lib.hid (show fitsF n f = false from decide_eq_false fun h => c (h k hlt))
        clear c
        generalize eS (f k) = y at hg3 HT
        go_wp2_with fail
        refine (HT.out _).mono ?_
        rintro e w1 ⟨rfl, rfl⟩
        go_wp2_with fail
        go_ret
        exact ⟨⟨_, rfl, by rw [HF.out]; simp⟩, rfl⟩
    · obtain rfl : k = n := by omega
      have HF := Lib.hid (show fitsF k f = true from decide_eq_true HA.out)
      go_wp2_with fail
      go_ret
      exact ⟨⟨_, rfl, by rw [HF.out]; rfl⟩, rfl⟩
theorem containsFunc_any (B : Nat) (a : Option Addr) (cap n : Nat) (f : Nat → List UInt8) (w : World) (hn : n ≤ 2000000) (hsl : SlF B w a n f) :
    Calls Try.prog 39 #[.slice a n cap, .func (.func 38) #[] #[]] w fun e w' => e = .returned (.bool (!fitsF n f)) ∧ w' = w := by
  have HI := Lib.hid (indexFunc_any B a cap n f w hn hsl)
  clear hsl
  generalize fitsF n f = q at *
  go_enter Try.func39, Try.ntmps39
  go_wp2_with fail
  refine HI.out.mono ?_
  rintro e w1 ⟨⟨r, rfl, hr⟩, rfl⟩
  have HR := Lib.hid hr
  clear hr
  go_wp2_with fail
  go_ret
  exact ⟨ret_bool HR.out, rfl⟩
set_option maxRecDepth 100000 in
set_option maxHeartbeats 400000 in
theorem implRecOk_any (B : Nat) (l : List UInt8) (a : Option Addr) (cap n : Nat) (f : Nat → List UInt8) (w : World) (hn : n ≤ 2000000) (hsl : SlF B w a n f) :
    Calls Try.prog 17 #[recV l a n cap] w fun e w' => e = .returned (.bool (recOk l n f)) ∧ Below w.heap.size w w' := by
  unfold recV
  have HB := Lib.hid (show ∀ o1, Below w.heap.size w (w.alloc o1) from fun o1 => (Below.refl w.heap.size w).alloc (Nat.le_refl _) _)
  have HC := Lib.hid (fun W (h : SlF B W a n f) => containsFunc_any B a cap n f W hn h)
  have HT := Lib.hid (fun W => tooLong_any l W)
  have HS := Lib.hid hsl
  clear hsl
  have HV := Lib.hid (show recOk l n f = (decide (l.length ≤ 2000) && (decide (n ≤ 60) && fitsF n f)) from rfl)
  generalize recOk l n f = R at *
  generalize fitsF n f = q at *
  by_cases c1 : l.length ≤ 2000
  · rw [decide_eq_true c1] at HT HV
    by_cases c2 : n ≤ 60
    · rw [decide_eq_true c2] at HV
      have c4 : (n : Int) ≤ 60 := by omega
      clear c1 c2
      generalize eS l = y at *
      go_enter Try.func17, Try.ntmps17
      go_wp2_with fail
      refine (HT.out _).mono ?_
      rintro e w1 ⟨rfl, rfl⟩
      go_wp2_with fail
      refine (HC.out _ (HS.out.kept (HB.out _))).mono ?_
      rintro e w1 ⟨rfl, rfl⟩
      go_wp2_with fail
      go_ret
      exact ⟨ret_bool (by rw [HV.out]; simp), HB.out _⟩
    · rw [decide_eq_false c2] at HV
      have c4 : ¬ (n : Int) ≤ 60 := by omega
      clear c1 c2
      generalize eS l = y at *
      go_enter Try.func17, Try.ntmps17
      go_wp2_with fail
      refine (HT.out _).mono ?_
      rintro e w1 ⟨rfl, rfl⟩
      go_wp2_with fail
      go_ret
      exact ⟨ret_bool (by rw [HV.out]; simp), HB.out _⟩
  · rw [decide_eq_false c1] at HT HV
    clear c1
    generalize eS l = y at *
    go_enter Try.func17, Try.ntmps17
    go_wp2_with fail
    refine (HT.out _).mono ?_
    rintro e w1 ⟨rfl, rfl⟩
    go_wp2_with fail
    go_ret
    exact ⟨ret_bool (by rw [HV.out]; simp), HB.out _⟩
end Go.Proofs.Ytghmkfehohgmgaa.kit
