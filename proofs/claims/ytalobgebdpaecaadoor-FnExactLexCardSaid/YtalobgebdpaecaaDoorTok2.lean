/-
  Contracts of laws.eqToken and laws.eqTokenS over this seat's translation: two copies of the same words are told to be the same. Conditions: each theorem names its own.
-/
import Derived.Test.YtalobgebdpaecaaDoorTok1
import Derived.Deep.RegionHeld3
namespace Go.Proofs.YtalobgebdpaecaaDoor.kit
open Go.ChangeShapes Go.WideShapes Go.ChangeAt Go.RowKit
set_option linter.unusedVariables false

set_option maxRecDepth 100000 in
theorem eqTok_any (t : Tok) (w : World) :
    Calls Tryd.prog 47 #[t.v, t.v] w fun e w' => e = .returned (.bool true) ∧ Below w.heap.size w w' := by
  obtain ⟨k, s, n, l⟩ := t
  unfold Tok.v
  simp only at *
  go_enter Tryd.func47, Tryd.ntmps47
  go_wp2
  go_ret
  exact ⟨rfl, ((Below.refl _ _).alloc (Nat.le_refl _) _).alloc (by simp) _⟩
def Eight (b o b' o' : Nat) (t : Tok) (w W : World) : Prop := (TokC W b o t ∧ TokC W b' o' t) ∧ (b < W.heap.size ∧ b' < W.heap.size) ∧ Below w.heap.size w W
theorem Eight.start {b o b' o' : Nat} {t : Tok} {w W : World} (h : Eight b o b' o' t w W) : Eight b o b' o' t w W.drew := ⟨h.1, h.2.1, h.2.2.drew⟩
theorem Eight.step {b o b' o' : Nat} {t : Tok} {w W W' : World} (h : Eight b o b' o' t w W) (hb : Below W.heap.size W W') : Eight b o b' o' t w W' := by
  obtain ⟨⟨h0, h1⟩, ⟨q, q'⟩, hB⟩ := h
  exact ⟨⟨h0.of fun j => hb.cell (p := ⟨b, j, none⟩) q, h1.of fun j => hb.cell (p := ⟨b', j, none⟩) q'⟩, ⟨Nat.lt_of_lt_of_le q hb.size, Nat.lt_of_lt_of_le q' hb.size⟩, hB.trans (hb.mono hB.size)⟩
theorem Eight.below {b o b' o' : Nat} {t : Tok} {w W : World} (h : Eight b o b' o' t w W) : Below w.heap.size w W := h.2.2
set_option maxRecDepth 100000 in
set_option maxHeartbeats 1000000 in
theorem eqToks_any (B C : Nat) (a a' : Option Addr) (cap cap' n : Nat) (f : Nat → Tok) (w : World) (hn : n ≤ 2000000) (h1 : TokF B w a n f) (h2 : TokF C w a' n f) :
    Calls Tryd.prog 22 #[.slice a n cap, .slice a' n cap'] w fun e w' => e = .returned (.bool true) ∧ Below w.heap.size w w' := by
  have H1 := Lib.hid h1
  have H2 := Lib.hid h2
  clear h1 h2
  go_enter Tryd.func22, Tryd.ntmps22
  go_wp2_with fail
  go_loopw [5] (fun i wr => ∃ k : Nat, k ≤ n ∧ i = .int .i64 (k : Int) ∧ Below w.heap.size w wr) (fun i _ => n - (intOf i).toNat)
  case atStart => exact ⟨0, Nat.zero_le _, rfl, Below.refl _ _⟩
  case round =>
    obtain ⟨k, hkl, rfl, hb⟩ := hrel
    have HB := Lib.hid hb
    clear hb
    by_cases hlt : k < n
    · obtain ⟨g, rfl, hg1, hg2, hg3, hg4⟩ := (H1.out.kept HB.out) k hlt
      obtain ⟨g', rfl, hg1', hg2', hg3', hg4'⟩ := (H2.out.kept HB.out) k hlt
      have HO := Lib.hid (fun W => eqTok_any (f k) W)
      generalize f k = t at *
      have HT : Eight g (k * 4) g' (k * 4) t w _ := ⟨⟨hg3, hg3'⟩, ⟨hg2, hg2'⟩, HB.out⟩
      have HT := Lib.hid HT
      clear hg3 hg3' hg4 hg4' HB
      obtain ⟨kk, s, nn, l⟩ := t
      unfold Tok.v at HO
      have i0 : (0 : Int) ≤ (k : Int) := by omega
      have i1 : (k : Int) < (n : Int) := by omega
      go_wp2_with fail
      go_region_held3 (fun w' => ((w'.cell? ⟨g, k * 4, none⟩ = some (.int .i64 kk) ∧ w'.cell? ⟨g, k * 4 + 1, none⟩ = some (.string s) ∧ w'.cell? ⟨g, k * 4 + 2, none⟩ = some (.int .i64 nn) ∧ w'.cell? ⟨g, k * 4 + 3, none⟩ = some (.int .i64 l)) ∧ (w'.cell? ⟨g', k * 4, none⟩ = some (.int .i64 kk) ∧ w'.cell? ⟨g', k * 4 + 1, none⟩ = some (.string s) ∧ w'.cell? ⟨g', k * 4 + 2, none⟩ = some (.int .i64 nn) ∧ w'.cell? ⟨g', k * 4 + 3, none⟩ = some (.int .i64 l))) ∧ (g < w'.heap.size ∧ g' < w'.heap.size) ∧ Below w.heap.size w w') (first | exact HT.out.start | exact Eight.step HT.out.start (by assumption)) (first | (go_at_call 47; refine (HO.out _).mono ?_; rintro e w2 ⟨rfl, hb2⟩))
      go_wp2_with fail
      go_roundw
      case rel => exact ⟨k + 1, by omega, by go_num, Eight.below (b := g) (o := k * 4) (b' := g') (o' := k * 4) (t := ⟨kk, s, nn, l⟩) (by assumption)⟩
      case measure => simp [intOf]; omega
    · obtain rfl : k = n := by omega
      go_wp2_with fail
      go_ret
      exact ⟨rfl, HB.out⟩
end Go.Proofs.YtalobgebdpaecaaDoor.kit
