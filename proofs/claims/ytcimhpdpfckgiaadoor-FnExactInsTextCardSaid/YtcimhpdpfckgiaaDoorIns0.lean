/-
  How a step of the laws (a struct of three ints and two texts) is read as data; the program's table of the words of steps, as this seat's rows list it. Conditions: the table's cells are as listed; each theorem names its own.
-/
import Derived.Test.YtcimhpdpfckgiaaDoorInfo
import Derived.Test.YtcimhpdpfckgiaaDoorKit
import Derived.Deep.Slices
import Derived.Deep.Fields
import Derived.ChangeSame
import Derived.Lib.SmallJoins
import Derived.Lib.LaidTab
import Derived.Laws.Rows
import Derived.LaidSub
import Derived.Deep.QuietTactic
import Derived.BigQuiet
namespace Go.Proofs.YtcimhpdpfckgiaaDoor.kit
open Go.Joins Go.ChangeShapes Go.WideShapes Go.ChangeAt Go.RowKit Go.Deep
set_option linter.unusedVariables false
set_option linter.unusedSimpArgs false

theorem laidOutN : laidOutB Tryd.pinned.checked.prog = true := by kernel_rfl
structure InD where
  op : Int
  n : Int
  kd : Int
  s : ByteArray
  nm : ByteArray
def InD.v (t : InD) : Value := .agg #[.int .i64 t.op, .int .i64 t.n, .int .i64 t.kd, .string t.s, .string t.nm]
theorem open_agg5 {H : Type} {enc : TypeId × Value → H} {P : Program} {w : World} {base : Nat} {spare : Nat → Bool} {held : Bool} {r : Reach} {b0 : Nat} {t : TypeId} {f0 f1 f2 f3 f4 : Field} {v : Value} {d : DataW H} {p : List MemPlace} (hs : P.underlying t = some (.struct #[f0, f1, f2, f3, f4])) (hone : oneCellFields P #[f0, f1, f2, f3, f4] = true) (hC : P.cellsOf t = 5)
    (hv : Value.okWide P w r b0 t v) (h : DataW.Trod enc P w base spare held t v d p) :
    ∃ (v0 v1 v2 v3 v4 : Value) (y0 y1 y2 y3 y4 : DataW H × List MemPlace) (n : Nat), v = .agg #[v0, v1, v2, v3, v4] ∧ d = .agg [y0.1, y1.1, y2.1, y3.1, y4.1] ∧ p = y0.2 ++ (y1.2 ++ (y2.2 ++ (y3.2 ++ y4.2))) ∧
      DataW.trod enc P w base spare held n f0.type [v0] = some y0 ∧ DataW.trod enc P w base spare held n f1.type [v1] = some y1 ∧ DataW.trod enc P w base spare held n f2.type [v2] = some y2 ∧ DataW.trod enc P w base spare held n f3.type [v3] = some y3 ∧ DataW.trod enc P w base spare held n f4.type [v4] = some y4 := by
  obtain ⟨cs, rfl, hsz⟩ := okWide_struct hs hv
  obtain ⟨l⟩ := cs
  match l, hsz.trans hC with
  | [c0, c1, c2, c3, c4], _ =>
    obtain ⟨fuel, hf⟩ := h
    obtain ⟨xs, n, _, hx, _, hlen, hg⟩ := DataW.trod_struct hs hf
    obtain ⟨o0, k0⟩ := hone_of hone 0 f0 rfl
    obtain ⟨o1, k1⟩ := hone_of hone 1 f1 rfl
    obtain ⟨o2, k2⟩ := hone_of hone 2 f2 rfl
    obtain ⟨o3, k3⟩ := hone_of hone 3 f3 rfl
    obtain ⟨o4, k4⟩ := hone_of hone 4 f4 rfl
    match xs, hlen with
    | [y0, y1, y2, y3, y4], _ =>
      simp only [Prod.mk.injEq] at hx
      exact ⟨c0, c1, c2, c3, c4, y0, y1, y2, y3, y4, n, rfl, by simpa using hx.1, by simpa using hx.2, by simpa [Value.cells, o0, k0] using hg 0 f0 rfl, by simpa [Value.cells, o1, k1] using hg 1 f1 rfl, by simpa [Value.cells, o2, k2] using hg 2 f2 rfl, by simpa [Value.cells, o3, k3] using hg 3 f3 rfl, by simpa [Value.cells, o4, k4] using hg 4 f4 rfl⟩
theorem cellsIns : Tryd.prog.cellsOf 23 = 5 := by kernel_rfl
set_option maxRecDepth 100000 in
theorem open_ins {H : Type} {enc : TypeId × Value → H} {W : World} {b : Nat} {sp : Nat → Bool} {hd : Bool} {r : Reach} {b0 : Nat} {v : Value} {d : DataW H} {p : List MemPlace} (hv : Value.okWide Tryd.prog W r b0 23 v) (h : DataW.Trod enc Tryd.prog W b sp hd 23 v d p) :
    ∃ t : InD, v = t.v ∧ t.s.size ≤ maxLen ∧ t.nm.size ≤ maxLen ∧ (Lit.int .i64 t.op).wf = true ∧ (Lit.int .i64 t.n).wf = true := by
  obtain ⟨c0, c1, c2, c3, c4, y0, y1, y2, y3, y4, m, rfl, rfl, rfl, hy0, hy1, hy2, hy3, hy4⟩ := open_agg5 (enc := enc) (P := Tryd.prog) (w := W) (base := b) (spare := sp) (held := hd) (r := r) (b0 := b0) (t := 23) (v := v) (d := d) (p := p) Tryd.underlying23 (by kernel_rfl) cellsIns hv h
  obtain ⟨op, e0, _, w0⟩ := DataW.trod_int Tryd.underlying3 hy0
  obtain ⟨n, e1, _, w1⟩ := DataW.trod_int Tryd.underlying3 hy1
  obtain ⟨kd, e2, _, w2⟩ := DataW.trod_int Tryd.underlying3 hy2
  obtain ⟨s, e3, _, w3⟩ := DataW.trod_string Tryd.underlying9 hy3
  obtain ⟨nm, e4, _, w4⟩ := DataW.trod_string Tryd.underlying9 hy4
  simp at e0 e1 e2 e3 e4
  subst e0 e1 e2 e3 e4
  exact ⟨⟨op, n, kd, s, nm⟩, rfl, w3, w4, w0, w1⟩

def cnData {H : Type} (zs : List (List UInt8)) : DataW H := .agg (zs.map fun z => .lit (.string z))
def cS (z : List UInt8) : Value := .string ⟨z.toArray⟩
theorem cells_of_cn {H : Type} {enc : TypeId × Value → H} {P : Program} {w : World} {base : Nat} {sp : Nat → Bool} {held : Bool} {fuel : Nat} {t e : TypeId} {n : Nat} {cs : List Value} {zs : List (List UInt8)} {p : List MemPlace}
    (ht : P.underlying t = some (.array n e)) (he : P.underlying e = some .string) (hce : P.cellsOf e = 1) (hct : P.cellsOf t = n)
    (h : DataW.trod enc P w base sp held fuel t cs = some (cnData zs, p)) : cs = zs.map cS := by
  cases fuel with
  | zero => simp [DataW.trod] at h
  | succ fuel =>
    simp only [DataW.trod, ht, hce, hct, Nat.mul_one] at h
    split at h
    · rename_i hl
      obtain ⟨xs, hm, hx⟩ := Option.map_eq_some_iff.1 h
      have hxs : xs.map (·.1) = zs.map fun z => (DataW.lit (.string z) : DataW H) := by
        have := congrArg Prod.fst hx
        simpa [cnData] using this
      have hxl : xs.length = n := by simpa using Lib.mapM_length hm
      have hzl : zs.length = n := by
        have := congrArg List.length hxs
        simp at this
        omega
      apply List.ext_getElem?
      intro i
      by_cases hi : i < n
      · obtain ⟨b, hb, hf⟩ := Lib.mapM_at hm i i (by simp [hi])
        obtain ⟨z, hc, rfl, _⟩ := DataW.trod_string he hf
        have h1 : cs[i]? = some (.string z) := by
          have := congrArg (·[0]?) hc
          simpa [List.getElem?_take, List.getElem?_drop] using this
        have h2 : (xs.map (·.1))[i]? = some (DataW.lit (.string z.data.toList) : DataW H) := by simp [hb]
        rw [hxs] at h2
        simp only [List.getElem?_map, Option.map_eq_some_iff, DataW.lit.injEq, Lit.string.injEq] at h2
        obtain ⟨z', hz', e⟩ := h2
        subst e
        simp [h1, hz', cS]
      · rw [List.getElem?_eq_none (by omega), List.getElem?_eq_none (by simp; omega)]
    · cases h
/-- The words of the steps. -/
def opL : List (List UInt8) := [[110, 117, 109], [115, 116, 114], [114, 101], [108, 111, 97, 100], [115, 101, 116], [115, 116, 101, 112], [112, 111, 112], [106, 117, 109, 112], [122, 101, 114, 111], [98, 111, 111, 108], [105, 110], [116, 119, 111], [110, 111, 116], [110, 101, 103], [99, 97, 108, 108], [115, 112, 108, 105, 116], [115, 117, 98], [112, 114, 105, 110, 116], [102, 111, 114, 109], [107, 101, 121, 115], [107, 101, 121], [100, 101, 108], [110, 101, 120, 116], [101, 120, 105, 116]]
theorem gOw : Tryd.prog.globalNamed "loop.example/g00560/impl.opWords" = some 0 := by kernel_rfl
theorem gOwType : (Tryd.prog.globals[0]?).map (·.type) = some 33 := by kernel_rfl
theorem cellsOw : Tryd.prog.cellsOf 33 = 24 := by kernel_rfl
theorem cellsOs : Tryd.prog.cellsOf 9 = 1 := by kernel_rfl
/-- The table's cells hold the words. -/
def OwT (w : World) : Prop := w.var? Tryd.prog "loop.example/g00560/impl.opWords" = some (opL.map cS).toArray
theorem OwT.on {w w' : World} (h : OwT w) (hb : Below w.heap.size w w') : OwT w' := Joins.var_stays gOw h hb (Nat.le_refl _)
theorem ow_of {laid : List (String × DataW Unit)} {W : World} (h : laidMet Tryd.prog laid W) (e : laid.filter (fun x => x.1 == "loop.example/g00560/impl.opWords") = [("loop.example/g00560/impl.opWords", cnData opL)]) : OwT W := by
  have h2 := h.filter (fun x => x.1 == "loop.example/g00560/impl.opWords")
  rw [e] at h2
  obtain ⟨ps, ⟨g', t', cs, fuel, p, q, hg', ht', hvar, hd, _, _⟩, _⟩ := h2
  obtain rfl := Option.some.inj (gOw.symm.trans hg')
  obtain rfl := Option.some.inj (gOwType.symm.trans ht')
  unfold OwT
  rw [hvar, ← cells_of_cn Tryd.underlying33 Tryd.underlying9 cellsOs cellsOw hd]
theorem OwT.row {w : World} (h : OwT w) : ∃ (t : TypeId) (fr : Nat × Nat), w.heap[0]? = some (.cells (opL.map cS).toArray t fr) := by
  unfold OwT World.var? at h
  rw [gOw] at h
  simp only [Option.bind_some] at h
  split at h
  · rename_i cs t fr hh
    cases h
    exact ⟨t, fr, hh⟩
  · cases h
theorem OwT.cell {w : World} (h : OwT w) (k : Nat) : w.cell? ⟨0, k, none⟩ = (opL.map cS)[k]? := by
  obtain ⟨t, fr, hh⟩ := h.row
  simp [World.cell?, hh]
/-- The word of a step. -/
def opW (k : Nat) : ByteArray := ⟨(opL.getD k []).toArray⟩
theorem opL_at (k : Nat) (h : k < 24) : (opL.map cS)[k]? = some (.string (opW k)) := by
  have h1 : k < opL.length := h
  simp [List.getElem?_eq_getElem h1, cS, opW, List.getD_eq_getElem?_getD]
theorem opW_short (k : Nat) : (opW k).size ≤ 5 := by
  by_cases h : k < 24
  · have : ∀ k : Fin 24, (opW k.val).size ≤ 5 := by decide +kernel
    exact this ⟨k, h⟩
  · have h1 : opL.length ≤ k := by show 24 ≤ k; omega
    rw [opW, List.getD_eq_getElem?_getD, List.getElem?_eq_none h1]
    exact Nat.zero_le _
end Go.Proofs.YtcimhpdpfckgiaaDoor.kit
