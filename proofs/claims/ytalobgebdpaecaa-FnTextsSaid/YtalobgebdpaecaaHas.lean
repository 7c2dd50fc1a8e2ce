/-
  Contracts of slices.Index and slices.Contains at bytes over this seat's translation: whether a byte is among the bytes of a slice. Conditions: the slice has at most 1000 elements, and its cells are known.
-/
import Derived.Test.YtalobgebdpaecaaInfo
namespace Go.Proofs.Ytalobgebdpaecaa.kit
open Go.ChangeShapes Go.WideShapes Go.ChangeAt Go.RowKit
set_option linter.unusedVariables false

def hasB (m : List UInt8) (c : UInt8) : Bool := m.any fun x => x.toNat == c.toNat
def CellsAt (w : World) (mb : Nat) (m : List UInt8) : Prop := ∀ (j : Nat) (h : j < m.length), w.cell? ⟨mb, j, none⟩ = some (.int .u8 (m[j].toNat : Int))
def NoneTo (m : List UInt8) (c : UInt8) (k : Nat) : Prop := ∀ (j : Nat) (h : j < m.length), j < k → m[j].toNat ≠ c.toNat
theorem has_no {m : List UInt8} {c : UInt8} {k : Nat} (h : NoneTo m c k) (hk : m.length ≤ k) : hasB m c = false := by
  rw [Bool.eq_false_iff]; intro g
  simp only [hasB, List.any_eq_true, beq_iff_eq] at g
  obtain ⟨x, hx, e⟩ := g
  obtain ⟨j, hj, rfl⟩ := List.getElem_of_mem hx
  exact h j hj (by omega) e
theorem has_yes {m : List UInt8} {c : UInt8} {k : Nat} (hk : k < m.length) (h : m[k].toNat = c.toNat) : hasB m c = true := by
  simp only [hasB, List.any_eq_true, beq_iff_eq]
  exact ⟨m[k], List.getElem_mem hk, h⟩
theorem none_snoc {m : List UInt8} {c : UInt8} {k : Nat} (h : NoneTo m c k) (hk : ∀ (g : k < m.length), m[k].toNat ≠ c.toNat) : NoneTo m c (k + 1) := by
  intro j hj hjk
  by_cases e : j = k
  · subst e; exact hk hj
  · exact h j hj (by omega)
def IdxPost (m : List UInt8) (c : UInt8) (w : World) (e : Ending) (w' : World) : Prop :=
  ∃ i : Int, (0 ≤ i ∧ hasB m c = true ∨ i = -1 ∧ hasB m c = false) ∧ e = .returned (.int .i64 i) ∧ w = w'

set_option maxHeartbeats 400000 in
theorem index_any (m : List UInt8) (c : UInt8) (mb cap n : Nat) (w : World) (hc : CellsAt w mb m) (hn : n = m.length) (hl : m.length ≤ 1000) :
    Calls Try.prog 80 #[.slice (some ⟨mb, 0, none⟩) n cap, .int .u8 (c.toNat : Int)] w (IdxPost m c w) := by
  have HC := Lib.hid hc
  have hn1 : n ≤ m.length := by omega
  have hn2 : m.length ≤ n := by omega
  have hcb : c.toNat < 256 := c.toNat_lt
  clear hc hn
  go_enter Try.func80, Try.ntmps80
  go_wp2
  go_loop [8] (fun i => ∃ k : Nat, k ≤ n ∧ i = .int .i64 k ∧ NoneTo m c k) (fun i => n - (intOf i).toNat)
  case atStart => exact ⟨0, Nat.zero_le _, rfl, fun j _ h => by omega⟩
  case round =>
    obtain ⟨k, hk, rfl, hno⟩ := hrel
    have HN := Lib.hid hno; clear hno
    by_cases hlt : k < n
    · have hcell := HC.out k (by omega)
      have hm : k < m.length := by omega
      have hxb : m[k].toNat < 256 := m[k].toNat_lt
      by_cases he : m[k].toNat = c.toNat
      · have E := Lib.hid (has_yes hm he)
        have e1 : ((c.toNat : Int) == (m[k].toNat : Int)) = true := by rw [beq_iff_eq]; omega
        clear he
        generalize m[k] = x at *
        go_wp2
        go_ret
        exact ⟨k, .inl ⟨by omega, E.out⟩, rfl, rfl⟩
      · have E := Lib.hid (none_snoc HN.out (fun _ => he))
        have e1 : ((c.toNat : Int) == (m[k].toNat : Int)) = false := by rw [beq_eq_false_iff_ne]; omega
        clear he
        generalize m[k] = x at *
        go_wp2
        go_round
        case rel => exact ⟨k + 1, by omega, by go_num, E.out⟩
        case measure => simp [intOf]; omega
    · have E := Lib.hid (has_no HN.out (by omega))
      go_wp2
      go_ret
      exact ⟨-1, .inr ⟨rfl, E.out⟩, rfl, rfl⟩

theorem contains_any (m : List UInt8) (c : UInt8) (mb cap n : Nat) (w : World) (hc : CellsAt w mb m) (hn : n = m.length) (hl : m.length ≤ 1000) :
    Calls Try.prog 68 #[.slice (some ⟨mb, 0, none⟩) n cap, .int .u8 (c.toNat : Int)] w fun e w' => e = .returned (.bool (hasB m c)) ∧ w = w' := by
  have HC := Lib.hid (index_any m c mb cap n w hc hn hl)
  clear hc hn
  go_enter Try.func68, Try.ntmps68
  go_wp2_with fail
  refine HC.out.mono ?_
  rintro e w' ⟨i, hi, rfl, rfl⟩
  rcases hi with ⟨h0, h1⟩ | ⟨rfl, h1⟩
  · have E := Lib.hid h1; clear h1
    go_wp2
    go_ret
    exact ⟨ret_bool E.out.symm, rfl⟩
  · have E := Lib.hid h1; clear h1
    go_wp2
    go_ret
    exact ⟨ret_bool E.out.symm, rfl⟩
end Go.Proofs.Ytalobgebdpaecaa.kit
