/-
  What FnQuote needs of quotes, digits and names, with nameless answers. Conditions: each theorem names its own.
-/
import Derived.Test.YtiggdpckjmellaaDoorQk0
import Derived.Test.YtiggdpckjmellaaDoorQuoI
import Derived.Test.YtiggdpckjmellaaDoorName
import Derived.Test.YtiggdpckjmellaaDoorRk0
import Derived.Test.YtiggdpckjmellaaDoorQd0
import Derived.Test.YtiggdpckjmellaaDoorBg0
import Derived.Deep.RegionHeld3
namespace Go.Proofs.YtiggdpckjmellaaDoor.kit
open Go.ChangeShapes Go.WideShapes Go.ChangeAt Go.RowKit
set_option linter.unusedVariables false

theorem arr_eta (s : ByteArray) : (⟨s.data.toList.toArray⟩ : ByteArray) = s := by cases s; simp
theorem quoteF (q : ByteArray) (hq : q.size ≤ 200) : ∃ s : ByteArray, (∀ W, Calls Tryd.prog 11 #[.string q] W fun e w' => e = .returned (.string s) ∧ Below W.heap.size W w') ∧
    (∀ W, Calls Tryd.prog 18 #[.string q] W fun e w' => e = .returned (.string s) ∧ Below W.heap.size W w') ∧
    (∀ W, Calls Tryd.prog 13 #[.string s, .int .i64 0] W fun e w' => e = .returned (.tuple #[.string q, .int .i64 (s.size : Int)]) ∧ Below W.heap.size W w') := by
  refine ⟨_, fun W => implQuote_any q W (by omega), fun W => specQuote_any q W (by omega), fun W => ?_⟩
  have hsz : (ByteArray.mk (qbs q.data.toList ++ [34]).toArray).size = (qbs q.data.toList ++ [34]).length := by simp [ByteArray.size]
  have hle : (qbs q.data.toList ++ [34]).length ≤ 1000 := by
    have h := qbs_len q.data.toList q.data.toList.length
    rw [List.take_length] at h
    have hl : q.data.toList.length = q.size := Array.length_toList
    rw [List.length_append, List.length_singleton]
    omega
  have h := implUn_any ⟨(qbs q.data.toList ++ [34]).toArray⟩ 0 W (by rw [hsz]; omega) (by omega) (by omega)
  rw [unq_quote] at h
  simp only [tupU, arr_eta] at h
  rw [hsz]
  exact h
/-- What the law asks of what was read as a quote. -/
def QuoteBack (u x : ByteArray) (i next : Int) : Prop := 0 ≤ i ∧ i ≤ next ∧ next ≤ (u.size : Int) ∧ ∀ W, Calls Tryd.prog 11 #[.string x] W fun e w' => e = .returned (.string (u.extract i.toNat next.toNat)) ∧ Below W.heap.size W w'
theorem unqF (u : ByteArray) (i : Int) (hu : u.size ≤ 1000) (hi : I64 i) : ∃ (x : ByteArray) (next : Int), (∀ W, Calls Tryd.prog 13 #[.string u, .int .i64 i] W fun e w' => e = .returned (.tuple #[.string x, .int .i64 next]) ∧ Below W.heap.size W w') ∧
    (∀ W, Calls Tryd.prog 14 #[.string u, .int .i64 i] W fun e w' => e = .returned (.tuple #[.string x, .int .i64 next]) ∧ Below W.heap.size W w') ∧ (next < 0 ∨ 0 ≤ next ∧ QuoteBack u x i next) := by
  have HI := fun W => implUn_any u i W (by omega) hi.1 hi.2
  have HS := fun W => specUn_any u i W (by omega) hi.1 hi.2
  cases h : unq u i with
  | none =>
    rw [h] at HI HS
    exact ⟨_, _, HI, HS, .inl (by omega)⟩
  | some y =>
    obtain ⟨o, m⟩ := y
    rw [h] at HI HS
    obtain ⟨h0, h1, h2, h3⟩ := unq_sound u i o m h
    have hl := congrArg List.length h3
    have ho := flat_ge o
    have hol : o.length ≤ 1000 := by
      have e1 : (u.extract i.toNat m).data.toList.length = (u.extract i.toNat m).size := Array.length_toList
      rw [e1, ByteArray.size_extract, qbs, List.length_append, List.length_cons] at hl
      omega
    refine ⟨_, _, HI, HS, .inr ⟨by omega, h0, h1, by omega, fun W => ?_⟩⟩
    have hq := implQuote_any ⟨o.toArray⟩ W (by show o.toArray.size ≤ 1048576; rw [List.size_toArray]; omega)
    have e2 : (ByteArray.mk (qbs (ByteArray.mk o.toArray).data.toList ++ [34]).toArray) = u.extract i.toNat ((m : Int)).toNat := by
      rw [Int.toNat_natCast, ← arr_eta (u.extract i.toNat m), h3]
    rw [e2] at hq
    exact hq
theorem nDigits_nine (u : Nat) (h : u ≤ 999999999) : Lib.nDigits u ≤ 9 := by
  by_cases h1 : u < 10
  · rw [Lib.nDigits_small h1]; omega
  by_cases h2 : u < 100
  · rw [Lib.nDigits_unique 1 u (by omega) (by omega)]; omega
  by_cases h3 : u < 1000
  · rw [Lib.nDigits_unique 2 u (by omega) (by omega)]; omega
  by_cases h4 : u < 10000
  · rw [Lib.nDigits_unique 3 u (by omega) (by omega)]; omega
  by_cases h5 : u < 100000
  · rw [Lib.nDigits_unique 4 u (by omega) (by omega)]; omega
  by_cases h6 : u < 1000000
  · rw [Lib.nDigits_unique 5 u (by omega) (by omega)]; omega
  by_cases h7 : u < 10000000
  · rw [Lib.nDigits_unique 6 u (by omega) (by omega)]; omega
  by_cases h8 : u < 100000000
  · rw [Lib.nDigits_unique 7 u (by omega) (by omega)]; omega
  · rw [Lib.nDigits_unique 8 u (by omega) (by omega)]; omega
theorem decF (d : Int) (hd : I64 d) : ∃ t : ByteArray, (∀ W, Tab W → Calls Tryd.prog 19 #[.int .i64 d] W fun e w' => e = .returned (.string t) ∧ Below W.heap.size W w') ∧
    (∀ W, Calls Tryd.prog 20 #[.int .i64 d] W fun e w' => e = .returned (.string t) ∧ W = w') ∧
    (0 ≤ d → d ≤ 999999999 → ∀ W, Calls Tryd.prog 21 #[.string t] W fun e w' => e = .returned (.int .i64 d) ∧ Below W.heap.size W w') := by
  refine ⟨_, fun W hW => implDec_any d W hd.1 hd.2 hW, fun W => specDec_any d W hd.1 hd.2, fun h0 h1 W => ?_⟩
  obtain ⟨u, rfl⟩ : ∃ u : Nat, d = (u : Int) := ⟨d.toNat, by omega⟩
  have e : Lib.itoa (u : Int) = Lib.decDigits u := by unfold Lib.itoa; rw [if_neg (by omega), Int.toNat_natCast]
  rw [e]
  obtain ⟨v1, v2⟩ := valN_dec u u (Nat.le_refl _)
  have hsz : (ByteArray.mk (Lib.decDigits u).toArray).size = (Lib.decDigits u).length := by simp [ByteArray.size]
  have h9 : (ByteArray.mk (Lib.decDigits u).toArray).size ≤ 9 := by rw [hsz, Lib.decDigits_length]; exact nDigits_nine u (by omega)
  have hr : rdv ⟨(Lib.decDigits u).toArray⟩ = (u : Int) := by
    unfold rdv
    rw [if_pos ⟨h9, fun j hj _ => isDig_digB (v2 _ (List.getElem_mem _)), by simp [v1]⟩]
    simp [v1]
  have h := implRd_any ⟨(Lib.decDigits u).toArray⟩ W (by unfold maxLen; omega)
  rw [hr] at h
  exact h
theorem rdF (r : ByteArray) (hr : r.size ≤ 200) : ∃ v : Int, (∀ W, Calls Tryd.prog 21 #[.string r] W fun e w' => e = .returned (.int .i64 v) ∧ Below W.heap.size W w') ∧
    (∀ W, Calls Tryd.prog 22 #[.string r] W fun e w' => e = .returned (.int .i64 v) ∧ W = w') :=
  ⟨_, fun W => implRd_any r W (by unfold maxLen; omega), fun W => specRd_any r W (by unfold maxLen; omega)⟩
theorem nmF (r : ByteArray) (hr : r.size ≤ 200) : ∃ v : Bool, (∀ W, Calls Tryd.prog 23 #[.string r] W fun e w' => e = .returned (.bool v) ∧ Below W.heap.size W w') ∧
    (∀ W, Calls Tryd.prog 24 #[.string r] W fun e w' => e = .returned (.bool v) ∧ W = w') :=
  ⟨_, fun W => implName_any r W, fun W => specName_any r W (by unfold maxLen; omega)⟩
/-- Nothing that was has turned. -/
def Bel (w w' : World) : Prop := Below w.heap.size w w'
theorem Bel.step {w x y : World} (h : Bel w x) (hb : Below x.heap.size x y) : Bel w y := Below.trans h (hb.mono (Below.size h))
theorem Bel.drew {w x : World} (h : Bel w x) : Bel w x.drew := Below.drew h
end Go.Proofs.YtiggdpckjmellaaDoor.kit
