/-
  Contracts of laws.eqToken and laws.eqTokenS over this seat's translation: two copies of the same words are told to be the same. Conditions: each theorem names its own.
-/
import Derived.Test.YtebeoijoljlhiaaGreatDoorMTok0
import Derived.Deep.RegionHeld3
namespace Go.Proofs.YtebeoijoljlhiaaGreatDoor.kit
open Go.ChangeShapes Go.WideShapes Go.ChangeAt Go.RowKit
set_option linter.unusedVariables false

def Eight (b o b' o' : Nat) (t : Tok) (w W : World) : Prop := (TokC W b o t ∧ TokC W b' o' t) ∧ (b < W.heap.size ∧ b' < W.heap.size) ∧ Below w.heap.size w W
theorem Eight.start {b o b' o' : Nat} {t : Tok} {w W : World} (h : Eight b o b' o' t w W) : Eight b o b' o' t w W.drew := ⟨h.1, h.2.1, h.2.2.drew⟩
theorem Eight.step {b o b' o' : Nat} {t : Tok} {w W W' : World} (h : Eight b o b' o' t w W) (hb : Below W.heap.size W W') : Eight b o b' o' t w W' := by
  obtain ⟨⟨h0, h1⟩, ⟨q, q'⟩, hB⟩ := h
  exact ⟨⟨h0.of fun j => hb.cell (p := ⟨b, j, none⟩) q, h1.of fun j => hb.cell (p := ⟨b', j, none⟩) q'⟩, ⟨Nat.lt_of_lt_of_le q hb.size, Nat.lt_of_lt_of_le q' hb.size⟩, hB.trans (hb.mono hB.size)⟩
theorem Eight.below {b o b' o' : Nat} {t : Tok} {w W : World} (h : Eight b o b' o' t w W) : Below w.heap.size w W := h.2.2
end Go.Proofs.YtebeoijoljlhiaaGreatDoor.kit
/-
  Contracts of spec.Count and impl.Count over this seat's translation: how many words are of a kind. Conditions: at most 2000000 words, whose cells are known.
-/
namespace Go.Proofs.YtebeoijoljlhiaaGreatDoor.kit
open Go.ChangeShapes Go.WideShapes Go.ChangeAt Go.RowKit
set_option linter.unusedVariables false

def cntTo (f : Nat → Tok) (kind : Int) : Nat → Nat
  | 0 => 0
  | n + 1 => cntTo f kind n + (if ((f n).k == kind) = true then 1 else 0)
theorem cntTo_le (f : Nat → Tok) (kind : Int) (n : Nat) : cntTo f kind n ≤ n := by
  induction n with
  | zero => simp [cntTo]
  | succ n ih => simp only [cntTo]; split <;> omega
theorem cntTo_yes {f : Nat → Tok} {kind : Int} {n : Nat} (h : ((f n).k == kind) = true) : cntTo f kind (n + 1) = cntTo f kind n + 1 := by simp only [cntTo, h, if_true]
theorem cntTo_no {f : Nat → Tok} {kind : Int} {n : Nat} (h : ((f n).k == kind) = false) : cntTo f kind (n + 1) = cntTo f kind n := by simp [cntTo, h]
set_option maxRecDepth 100000 in
set_option maxHeartbeats 1000000 in
theorem specCount_any (B : Nat) (a : Option Addr) (cap n : Nat) (f : Nat → Tok) (kind : Int) (w : World) (hn : n ≤ 2000000) (h1 : TokF B w a n f) :
    Calls Tryz.prog 35 #[.slice a n cap, .int .i64 kind] w fun e w' => e = .returned (.int .i64 (cntTo f kind n : Int)) ∧ Below w.heap.size w w' := by
  have H1 := Lib.hid h1
  clear h1
  go_enter Tryz.func35, Tryz.ntmps35
  go_wp2_with fail
  go_loopw [5, 6] (fun q i wr => ∃ k : Nat, k ≤ n ∧ i = .int .i64 (k : Int) ∧ q = .int .i64 (cntTo f kind k : Int) ∧ Below w.heap.size w wr) (fun _ i _ => n - (intOf i).toNat)
  case atStart => exact ⟨0, Nat.zero_le _, rfl, rfl, Below.refl _ _⟩
  case round =>
    obtain ⟨k, hkl, rfl, rfl, hb⟩ := hrel
    have HB := Lib.hid hb
    have hc := cntTo_le f kind k
    clear hb
    by_cases hlt : k < n
    · obtain ⟨g, rfl, hg1, hg2, ⟨e0, e1, e2, e3⟩, hg4⟩ := (H1.out.kept HB.out) k hlt
      have HY := Lib.hid (@cntTo_yes f kind k)
      have HN := Lib.hid (@cntTo_no f kind k)
      generalize f k = t at *
      clear hg4
      cases c : (t.k == kind)
      · have E := Lib.hid (HN.out c)
        go_wp2_with fail
        go_roundw
        case rel => exact ⟨k + 1, by omega, by go_num, by rw [E.out], HB.out⟩
        case measure => simp [intOf]; omega
      · have E := Lib.hid (HY.out c)
        go_wp2_with fail
        go_roundw
        case rel => exact ⟨k + 1, by omega, by go_num, by rw [E.out]; go_num, HB.out⟩
        case measure => simp [intOf]; omega
    · obtain rfl : k = n := by omega
      go_wp2_with fail
      go_ret
      exact ⟨rfl, HB.out⟩
set_option maxRecDepth 100000 in
set_option maxHeartbeats 1000000 in
theorem implCount_any (B : Nat) (a : Option Addr) (cap n : Nat) (f : Nat → Tok) (kind : Int) (w : World) (hn : n ≤ 2000000) (h1 : TokF B w a n f) :
    Calls Tryz.prog 34 #[.slice a n cap, .int .i64 kind] w fun e w' => e = .returned (.int .i64 (cntTo f kind n : Int)) ∧ Below w.heap.size w w' := by
  have H1 := Lib.hid h1
  clear h1
  go_enter Tryz.func34, Tryz.ntmps34
  go_wp2_with fail
  go_loopw [5, 7, 10] (fun q v i wr => ∃ k : Nat, k ≤ n ∧ i = .int .i64 (k : Int) ∧ q = .int .i64 (cntTo f kind k : Int) ∧ Below w.heap.size w wr) (fun _ _ i _ => n - (intOf i).toNat)
  case atStart => exact ⟨0, Nat.zero_le _, rfl, rfl, Below.refl _ _⟩
  case round =>
    obtain ⟨k, hkl, rfl, rfl, hb⟩ := hrel
    have HB := Lib.hid hb
    have hc := cntTo_le f kind k
    clear hb
    by_cases hlt : k < n
    · obtain ⟨g, rfl, hg1, hg2, ⟨e0, e1, e2, e3⟩, hg4⟩ := (H1.out.kept HB.out) k hlt
      have HY := Lib.hid (@cntTo_yes f kind k)
      have HN := Lib.hid (@cntTo_no f kind k)
      generalize f k = t at *
      clear hg4
      cases c : (t.k == kind)
      · have E := Lib.hid (HN.out c)
        go_wp2_with fail
        go_roundw
        case rel => exact ⟨k + 1, by omega, by go_num, by rw [E.out], HB.out.alloc HB.out.size _⟩
        case measure => simp [intOf]; omega
      · have E := Lib.hid (HY.out c)
        go_wp2_with fail
        go_roundw
        case rel => exact ⟨k + 1, by omega, by go_num, by rw [E.out]; go_num, HB.out.alloc HB.out.size _⟩
        case measure => simp [intOf]; omega
    · obtain rfl : k = n := by omega
      go_wp2_with fail
      go_ret
      exact ⟨rfl, HB.out⟩
end Go.Proofs.YtebeoijoljlhiaaGreatDoor.kit
