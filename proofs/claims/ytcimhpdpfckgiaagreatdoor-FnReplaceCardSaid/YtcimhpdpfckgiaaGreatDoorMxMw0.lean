/-
  Sets of places in memory; contracts of set's empty and wordAt over this seat's translation. Conditions: each theorem names its own.
-/
import Derived.Test.YtcimhpdpfckgiaaGreatDoorMxKit
import Derived.Test.YtcimhpdpfckgiaaGreatDoorMxInfo
set_option linter.unusedVariables false
namespace Go.Proofs.YtcimhpdpfckgiaaGreatDoor.kit
open Go.ChangeShapes Go.WideShapes Go.ChangeAt Go.RowKit
def WordsAt (w : World) (ws : List Nat) (a : Option Addr) : Prop := ∀ j (h : j < ws.length), ∃ b, a = some ⟨b, 0, none⟩ ∧ b < w.heap.size ∧ w.cell? ⟨b, j, none⟩ = some (.int .u64 (ws[j] : Int))
theorem WordsAt.kept {w w' : World} {ws : List Nat} {a : Option Addr} (h : WordsAt w ws a) (hb : Below w.heap.size w w') : WordsAt w' ws a := fun j hj => by
 obtain ⟨b, e, h1, h2⟩ := h j hj
 exact ⟨b, e, Nat.lt_of_lt_of_le h1 hb.size, (hb.cell (p := ⟨b, j, none⟩) h1).trans h2⟩
def setV (sk : Nat) (a : Option Addr) (n c : Nat) : Value := .agg #[.int .i64 (sk : Int), .slice a n c]
set_option maxRecDepth 100000 in
theorem setEmpty_any (sk : Nat) (a : Option Addr) (n c : Nat) (w : World) (hn : n ≤ 1048576) :
 Calls Tryz.prog 68 #[setV sk a n c] w fun e w' => e = .returned (.bool (decide (n = 0))) ∧ Below w.heap.size w w' := by
 unfold setV
 have HB := qd (show ∀ o, Below w.heap.size w (w.alloc o) from fun o => (Below.refl w.heap.size w).alloc (Nat.le_refl _) _)
 by_cases c0 : n = 0
 · subst c0
   go_enter Tryz.func68, Tryz.ntmps68
   go_wp2_with fail
   go_ret
   exact ⟨rfl, HB.out _⟩
 · have e1 : ((n : Int) == 0) = false := by rw [beq_eq_false_iff_ne]; omega
   have e2 := qd (show decide (n = 0) = false from decide_eq_false c0)
   go_enter Tryz.func68, Tryz.ntmps68
   go_wp2_with fail
   go_ret
   exact ⟨ret_bool e2.out.symm, HB.out _⟩
def wordN (sk : Nat) (ws : List Nat) (i : Nat) : Nat := if sk ≤ i then ws.getD (i - sk) 0 else 0
set_option maxRecDepth 100000 in
theorem setWord_any (sk : Nat) (ws : List Nat) (a : Option Addr) (c i : Nat) (w : World) (hs : sk + ws.length ≤ 4194304) (hi : i ≤ 4194304) (hk : WordsAt w ws a) :
 Calls Tryz.prog 98 #[setV sk a ws.length c, .int .i64 (i : Int)] w fun e w' => e = .returned (.int .u64 (wordN sk ws i : Int)) ∧ Below w.heap.size w w' := by
 unfold setV
 have HB := qd (show ∀ o, Below w.heap.size w (w.alloc o) from fun o => (Below.refl w.heap.size w).alloc (Nat.le_refl _) _)
 by_cases c1 : i < sk
 · have e := qd (show wordN sk ws i = 0 by unfold wordN; rw [if_neg (by omega)])
   have h1 : (i : Int) < (sk : Int) := by omega
   go_enter Tryz.func98, Tryz.ntmps98
   go_wp2_with fail
   go_ret
   exact ⟨ret_int (by rw [e.out]; rfl), HB.out _⟩
 · by_cases c2 : sk + ws.length ≤ i
   · have e := qd (show wordN sk ws i = 0 by unfold wordN; rw [if_pos (by omega), List.getD_eq_getElem?_getD, List.getElem?_eq_none (by omega)]; rfl)
     have h1 : ¬ (i : Int) < (sk : Int) := by omega
     have h2 : (sk : Int) + (ws.length : Int) ≤ (i : Int) := by omega
     go_enter Tryz.func98, Tryz.ntmps98
     go_wp2_with fail
     go_ret
     exact ⟨ret_int (by rw [e.out]; rfl), HB.out _⟩
   · obtain ⟨k, rfl⟩ : ∃ k, i = sk + k := ⟨i - sk, by omega⟩
     have hkl : k < ws.length := by omega
     obtain ⟨b, rfl, hb, hc⟩ := hk k hkl
     have e := qd (show wordN sk ws (sk + k) = ws[k] by unfold wordN; rw [if_pos (by omega), show sk + k - sk = k by omega, List.getD_eq_getElem?_getD, List.getElem?_eq_getElem hkl]; rfl)
     generalize ws[k] = x at *
     have h1 : ¬ ((sk : Int) + (k : Int) < (sk : Int)) := by omega
     have h2 : ¬ ((sk : Int) + (ws.length : Int) ≤ (sk : Int) + (k : Int)) := by omega
     have h3 : (sk : Int) + (k : Int) - (sk : Int) = (k : Int) := by omega
     have h4 : wrap64 (k : Int) = (k : Int) := by unfold wrap64; omega
     have i0 : (0 : Int) ≤ (k : Int) := by omega
     have i1 : (k : Int) < (ws.length : Int) := by omega
     have e5 : ((sk + k : Nat) : Int) = (sk : Int) + (k : Int) := by omega
     rw [e5]
     clear c1 c2 hkl e5
     go_enter Tryz.func98, Tryz.ntmps98
     go_wp2_with fail
     go_ret
     exact ⟨ret_int (by rw [e.out]), HB.out _⟩
end Go.Proofs.YtcimhpdpfckgiaaGreatDoor.kit
