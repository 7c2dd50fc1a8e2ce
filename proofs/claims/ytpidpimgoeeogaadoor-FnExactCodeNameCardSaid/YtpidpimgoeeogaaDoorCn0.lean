/-
  The program's table of the names of codes, as this seat's rows list it; contracts of impl.CodeName and spec.CodeName under it. Conditions: the table's cells are as listed.
-/
import Derived.Test.YtpidpimgoeeogaaDoorKit
import Derived.Test.YtpidpimgoeeogaaDoorInfo
import Derived.Lib.LaidTab
import Derived.Lib.SmallJoins
import Derived.Laws.Rows
import Derived.LaidSub
import Derived.Deep.QuietTactic
import Derived.BigQuiet
namespace Go.Proofs.YtpidpimgoeeogaaDoor.kit
open Go.ChangeShapes Go.WideShapes Go.ChangeAt Go.RowKit
set_option linter.unusedVariables false
set_option linter.unusedSimpArgs false

def cnData {H : Type} (zs : List (List UInt8)) : DataW H := .agg (zs.map fun z => .lit (.string z))
def cS (z : List UInt8) : Value := .string ⟨z.toArray⟩
theorem cells_of_cn {H : Type} {enc : TypeId × Value → H} {P : Program} {w : World} {base : Nat} {sp : Nat → Bool} {held : Bool} {fuel : Nat} {t e : TypeId} {n : Nat} {cs : List Value} {zs : List (List UInt8)} {p : List MemPlace}
    (ht : P.underlying t = some (.array n e)) (he : P.underlying e = some .string) (hce : P.cellsOf e = 1) (hct : P.cellsOf t = n)
    (h : DataW.trod enc P w base sp held fuel t cs = some (cnData zs, p)) : cs = zs.map cS := by
  cases fuel with
  | zero => simp [DataW.trod] at h
  | succ fuel =>
    simp only [DataW.trod, ht, hce, hct, Nat.mul_one] at h
    split at h
    · rename_i hl
      obtain ⟨xs, hm, hx⟩ := Option.map_eq_some_iff.1 h
      have hxs : xs.map (·.1) = zs.map fun z => (DataW.lit (.string z) : DataW H) := by
        have := congrArg Prod.fst hx
        simpa [cnData] using this
      have hxl : xs.length = n := by simpa using Lib.mapM_length hm
      have hzl : zs.length = n := by
        have := congrArg List.length hxs
        simp at this
        omega
      apply List.ext_getElem?
      intro i
      by_cases hi : i < n
      · obtain ⟨b, hb, hf⟩ := Lib.mapM_at hm i i (by simp [hi])
        obtain ⟨z, hc, rfl, _⟩ := DataW.trod_string he hf
        have h1 : cs[i]? = some (.string z) := by
          have := congrArg (·[0]?) hc
          simpa [List.getElem?_take, List.getElem?_drop] using this
        have h2 : (xs.map (·.1))[i]? = some (DataW.lit (.string z.data.toList) : DataW H) := by simp [hb]
        rw [hxs] at h2
        simp only [List.getElem?_map, Option.map_eq_some_iff, DataW.lit.injEq, Lit.string.injEq] at h2
        obtain ⟨z', hz', e⟩ := h2
        subst e
        simp [h1, hz', cS]
      · rw [List.getElem?_eq_none (by omega), List.getElem?_eq_none (by simp; omega)]
    · cases h
/-- The names of the codes. -/
def codeL : List (List UInt8) := [[111, 107], [110, 111, 110, 101], [102, 117, 101, 108], [110, 117, 109], [114, 101], [102, 117, 108, 108]]
theorem gCn : Tryd.prog.globalNamed "loop.example/g00560/impl.codeNames" = some 0 := by kernel_rfl
theorem gCnType : (Tryd.prog.globals[0]?).map (·.type) = some 98 := by kernel_rfl
theorem cellsCn : Tryd.prog.cellsOf 98 = 6 := by kernel_rfl
theorem cellsCs : Tryd.prog.cellsOf 9 = 1 := by kernel_rfl
/-- The table's cells hold the names. -/
def CnT (w : World) : Prop := w.var? Tryd.prog "loop.example/g00560/impl.codeNames" = some (codeL.map cS).toArray
theorem CnT.on {w w' : World} (h : CnT w) (hb : Below w.heap.size w w') : CnT w' := Joins.var_stays gCn h hb (Nat.le_refl _)
theorem cn_of {laid : List (String × DataW Unit)} {W : World} (h : laidMet Tryd.prog laid W) (e : laid.filter (fun x => x.1 == "loop.example/g00560/impl.codeNames") = [("loop.example/g00560/impl.codeNames", cnData codeL)]) : CnT W := by
  have h2 := h.filter (fun x => x.1 == "loop.example/g00560/impl.codeNames")
  rw [e] at h2
  obtain ⟨ps, ⟨g', t', cs, fuel, p, q, hg', ht', hvar, hd, _, _⟩, _⟩ := h2
  obtain rfl := Option.some.inj (gCn.symm.trans hg')
  obtain rfl := Option.some.inj (gCnType.symm.trans ht')
  unfold CnT
  rw [hvar, ← cells_of_cn Tryd.underlying98 Tryd.underlying9 cellsCs cellsCn hd]
theorem CnT.row {w : World} (h : CnT w) : ∃ (t : TypeId) (fr : Nat × Nat), w.heap[0]? = some (.cells (codeL.map cS).toArray t fr) := by
  unfold CnT World.var? at h
  rw [gCn] at h
  simp only [Option.bind_some] at h
  split at h
  · rename_i cs t fr hh
    cases h
    exact ⟨t, fr, hh⟩
  · cases h
theorem CnT.cell {w : World} (h : CnT w) (k : Nat) : w.cell? ⟨0, k, none⟩ = (codeL.map cS)[k]? := by
  obtain ⟨t, fr, hh⟩ := h.row
  simp [World.cell?, hh]
/-- The name of a code. -/
def codeZ (a : Int) : ByteArray := if 0 ≤ a ∧ a < 6 then ⟨(codeL.getD a.toNat []).toArray⟩ else ⟨#[]⟩
set_option maxRecDepth 100000 in
set_option maxHeartbeats 2000000 in
theorem specCodeName_any (a : Int) (w : World) :
    Calls Tryd.prog 33 #[.int .i64 a] w fun e w' => e = .returned (.string (codeZ a)) ∧ Below w.heap.size w w' := by
  have HI := Lib.hid (fun W => in_any a 0 5 W)
  by_cases h : 0 ≤ a ∧ a < 6
  · rw [show inB a 0 5 = true by simp [inB]; omega] at HI
    have HB := Lib.hid (show ∀ o, Below w.heap.size w (w.alloc o) from fun o => (Below.refl w.heap.size w).alloc (Nat.le_refl _) _)
    rcases (show a = 0 ∨ a = 1 ∨ a = 2 ∨ a = 3 ∨ a = 4 ∨ a = 5 by omega) with rfl | rfl | rfl | rfl | rfl | rfl <;> clear h
    all_goals
      go_enter Tryd.func33, Tryd.ntmps33
      go_wp2_with (go_at_call 44; refine (HI.out _).mono ?_; rintro e w1 ⟨rfl, rfl⟩)
      go_ret
      exact ⟨by rfl, HB.out _⟩
  · rw [show inB a 0 5 = false by simp [inB]; omega] at HI
    have HZ := Lib.hid (show codeZ a = ⟨#[]⟩ from if_neg h)
    clear h
    go_enter Tryd.func33, Tryd.ntmps33
    go_wp2_with (go_at_call 44; refine (HI.out _).mono ?_; rintro e w1 ⟨rfl, rfl⟩)
    go_ret
    exact ⟨by rw [HZ.out]; rfl, Below.refl _ _⟩
set_option maxRecDepth 100000 in
set_option maxHeartbeats 2000000 in
theorem implCodeName_any (a : Int) (w : World) (ht : CnT w) :
    Calls Tryd.prog 34 #[.int .i64 a] w fun e w' => e = .returned (.string (codeZ a)) ∧ w = w' := by
  by_cases h : 0 ≤ a ∧ a < 6
  · have c0 := ht.cell 0
    have c1 := ht.cell 1
    have c2 := ht.cell 2
    have c3 := ht.cell 3
    have c4 := ht.cell 4
    have c5 := ht.cell 5
    simp only [codeL, List.map_cons, List.map_nil, List.getElem?_cons_succ, List.getElem?_cons_zero] at c0 c1 c2 c3 c4 c5
    clear ht
    rcases (show a = 0 ∨ a = 1 ∨ a = 2 ∨ a = 3 ∨ a = 4 ∨ a = 5 by omega) with rfl | rfl | rfl | rfl | rfl | rfl <;> clear h
    all_goals
      go_enter Tryd.func34, Tryd.ntmps34
      go_wp2
      go_ret
      exact ⟨by rfl, rfl⟩
  · have HZ := Lib.hid (show codeZ a = ⟨#[]⟩ from if_neg h)
    by_cases h0 : a < 0
    · clear h ht
      go_enter Tryd.func34, Tryd.ntmps34
      go_wp2
      go_ret
      exact ⟨by rw [HZ.out]; rfl, rfl⟩
    · have h6 : 6 ≤ a := by omega
      clear h ht
      go_enter Tryd.func34, Tryd.ntmps34
      go_wp2
      go_ret
      exact ⟨by rw [HZ.out]; rfl, rfl⟩
end Go.Proofs.YtpidpimgoeeogaaDoor.kit
