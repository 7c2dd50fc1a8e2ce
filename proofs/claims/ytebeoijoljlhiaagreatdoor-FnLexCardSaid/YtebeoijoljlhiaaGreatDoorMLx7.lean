/-
  The program's table of signs, as this seat's rows list it, and the contract of impl.readSignWord under it. Conditions: the table's cells are as listed; the text has at most 1048576 bytes.
-/
import Derived.Test.YtebeoijoljlhiaaGreatDoorMLx3
import Derived.Lib.LaidTab
import Derived.Lib.SmallJoins
import Derived.Laws.Rows
import Derived.LaidSub
import Derived.Deep.QuietTactic
import Derived.Deep.LoopGhost
import Derived.BigQuiet
namespace Go.Proofs.YtebeoijoljlhiaaGreatDoor.kit
open Go.ChangeShapes Go.WideShapes Go.ChangeAt Go.RowKit
set_option linter.unusedVariables false

def strData {H : Type} (zs : List (List UInt8)) : DataW H := .agg (zs.map fun z => .lit (.string z))
theorem cells_of_strs {H : Type} {enc : TypeId × Value → H} {P : Program} {w : World} {base : Nat} {sp : Nat → Bool} {held : Bool} {fuel : Nat} {t e : TypeId} {n : Nat} {cs : List Value} {zs : List (List UInt8)} {p : List MemPlace}
    (ht : P.underlying t = some (.array n e)) (he : P.underlying e = some .string) (hce : P.cellsOf e = 1) (hct : P.cellsOf t = n)
    (h : DataW.trod enc P w base sp held fuel t cs = some (strData zs, p)) : cs = zs.map eS := by
  cases fuel with
  | zero => simp [DataW.trod] at h
  | succ fuel =>
    simp only [DataW.trod, ht, hce, hct, Nat.mul_one] at h
    split at h
    · rename_i hl
      obtain ⟨xs, hm, hx⟩ := Option.map_eq_some_iff.1 h
      have hxs : xs.map (·.1) = zs.map fun z => (DataW.lit (.string z) : DataW H) := by
        have := congrArg Prod.fst hx
        simpa [strData] using this
      have hxl : xs.length = n := by simpa using Lib.mapM_length hm
      have hzl : zs.length = n := by
        have := congrArg List.length hxs
        simp at this
        omega
      apply List.ext_getElem?
      intro i
      by_cases hi : i < n
      · obtain ⟨b, hb, hf⟩ := Lib.mapM_at hm i i (by simp [hi])
        obtain ⟨z, hc, rfl, _⟩ := DataW.trod_string he hf
        have h1 : cs[i]? = some (.string z) := by
          have := congrArg (·[0]?) hc
          simpa [List.getElem?_take, List.getElem?_drop] using this
        have h2 : (xs.map (·.1))[i]? = some (DataW.lit (.string z.data.toList) : DataW H) := by simp [hb]
        rw [hxs] at h2
        simp only [List.getElem?_map, Option.map_eq_some_iff, DataW.lit.injEq, Lit.string.injEq] at h2
        obtain ⟨z', hz', e⟩ := h2
        subst e
        simp [h1, hz', eS]
      · rw [List.getElem?_eq_none (by omega), List.getElem?_eq_none (by simp; omega)]
    · cases h
theorem gSig : Tryz.prog.globalNamed "loop.example/g00560/impl.signs" = some 0 := by kernel_rfl
theorem gSigType : (Tryz.prog.globals[0]?).map (·.type) = some 170 := by kernel_rfl
theorem cellsSig : Tryz.prog.cellsOf 170 = 35 := by kernel_rfl
theorem cellsStr : Tryz.prog.cellsOf 9 = 1 := by kernel_rfl
theorem infoSig : (Tryz.prog.info? 170).map (·.size) = some 35 := by kernel_rfl
/-- The table's cells hold the signs. -/
def Sig (w : World) : Prop := w.var? Tryz.prog "loop.example/g00560/impl.signs" = some (signL.map eS).toArray
theorem Sig.on {w w' : World} (h : Sig w) (hb : Below w.heap.size w w') : Sig w' := Joins.var_stays gSig h hb (Nat.le_refl _)
theorem sig_of {laid : List (String × DataW Unit)} {W : World} (h : laidMet Tryz.prog laid W) (e : laid.filter (fun x => x.1 == "loop.example/g00560/impl.signs") = [("loop.example/g00560/impl.signs", strData signL)]) : Sig W := by
  have h2 := h.filter (fun x => x.1 == "loop.example/g00560/impl.signs")
  rw [e] at h2
  obtain ⟨ps, ⟨g', t', cs, fuel, p, q, hg', ht', hvar, hd, _, _⟩, _⟩ := h2
  obtain rfl := Option.some.inj (gSig.symm.trans hg')
  obtain rfl := Option.some.inj (gSigType.symm.trans ht')
  unfold Sig
  rw [hvar, ← cells_of_strs Tryz.underlying170 Tryz.underlying9 cellsStr cellsSig hd]
theorem Sig.row {w : World} (h : Sig w) : ∃ (t : TypeId) (fr : Nat × Nat), w.heap[0]? = some (.cells (signL.map eS).toArray t fr) := by
  unfold Sig World.var? at h
  rw [gSig] at h
  simp only [Option.bind_some] at h
  split at h
  · rename_i cs t fr hh
    cases h
    exact ⟨t, fr, hh⟩
  · cases h
theorem sig_index (A : Array Value) (k : Nat) (hk : k < 35) (x : Value) (hA : A.size = 35) (hx : A[k]? = some x) (w : World) :
    (Instr.index 170 (.agg A) (.int .i64 (k : Int))).run Tryz.prog w = .ok x w := by
  have h0 : (0 : Int) ≤ (k : Int) ∧ (k : Int) < ((35 : Nat) : Int) := by omega
  simp [Instr.index, run_underlying Tryz.underlying170, asIntOf, go_sem, hx]
  intro h; omega
/-- The sign that a text begins with, as a word. -/
def sgnO (z : ByteArray) : Option (Tok × Nat) := if sgn z.data.toList = [] then none else some (⟨5, ⟨(sgn z.data.toList).toArray⟩, 0, 0⟩, (sgn z.data.toList).length)
/-- The first j bytes of a sign stand at the text's beginning. -/
def PreTo (z : ByteArray) (g : List UInt8) (j : Nat) : Prop := j ≤ z.size ∧ j ≤ g.length ∧ ∀ i, i < j → z.data.toList.getD i 0 = g.getD i 0
theorem preTo_all {z : ByteArray} {g : List UInt8} (h : PreTo z g g.length) : g.isPrefixOf z.data.toList = true := by
  rw [List.isPrefixOf_iff_prefix, List.prefix_iff_eq_take]
  apply List.ext_getElem?
  intro i
  by_cases hi : i < g.length
  · have := h.2.2 i hi
    have hz : i < z.data.toList.length := by have := h.1; simp; omega
    rw [List.getD_eq_getElem?_getD, List.getD_eq_getElem?_getD, List.getElem?_eq_getElem hz, List.getElem?_eq_getElem hi] at this
    rw [List.getElem?_take, if_pos hi, List.getElem?_eq_getElem hz, List.getElem?_eq_getElem hi]
    simpa using this.symm
  · rw [List.getElem?_eq_none (by omega), List.getElem?_eq_none (by simp; omega)]
theorem prefix_get {z : ByteArray} {g : List UInt8} (h : g.isPrefixOf z.data.toList = true) : g.length ≤ z.size ∧ ∀ i, i < g.length → z.data.toList.getD i 0 = g.getD i 0 := by
  rw [List.isPrefixOf_iff_prefix] at h
  obtain ⟨r, hr⟩ := h
  have hl := congrArg List.length hr
  simp at hl
  refine ⟨by omega, fun i hi => ?_⟩
  rw [← hr, List.getD_eq_getElem?_getD, List.getD_eq_getElem?_getD, List.getElem?_append_left hi]
/-- A box of the call's own, which holds a word without anything. -/
def BoxT (p : Nat) (w : World) : Prop := (w.cell? ⟨p, 0, none⟩ = some (.int .i64 0) ∧ w.cell? ⟨p, 1, none⟩ = some (.string ⟨#[]⟩) ∧ w.cell? ⟨p, 2, none⟩ = some (.int .i64 0) ∧ w.cell? ⟨p, 3, none⟩ = some (.int .i64 0)) ∧
  (w.frozen? ⟨p, 0, none⟩ = false ∧ w.frozen? ⟨p, 1, none⟩ = false ∧ w.frozen? ⟨p, 2, none⟩ = false ∧ w.frozen? ⟨p, 3, none⟩ = false)
theorem BoxT.new (w : World) (ty : TypeId) : BoxT w.heap.size (w.alloc (.cells #[.int .i64 0, .string ⟨#[]⟩, .int .i64 0, .int .i64 0] ty)) := by
  refine ⟨⟨?_, ?_, ?_, ?_⟩, ⟨?_, ?_, ?_, ?_⟩⟩
  all_goals first | (rw [World.cell?_alloc_at _ _ _ _ rfl]; rfl) | (simp only [World.frozen?, heap_alloc_new w _]; simp)
def PreB (z G : ByteArray) (j : Nat) : Prop := j ≤ z.size ∧ j ≤ G.size ∧ ∀ i, i < j → z.data.toList.getD i 0 = G.data.toList.getD i 0
theorem preB_all {z G : ByteArray} (h : PreB z G G.size) : G.data.toList.isPrefixOf z.data.toList = true :=
  preTo_all ⟨by have := h.1; simpa using this, by simp, fun i hi => h.2.2 i (by simpa using hi)⟩
theorem preB_end {z G : ByteArray} (h : z.size < G.size) : G.data.toList.isPrefixOf z.data.toList = false := by
  rw [Bool.eq_false_iff]; intro g; have := (prefix_get g).1; simp at this; omega
theorem preB_ne {z G : ByteArray} {j : Nat} (hz : j < z.size) (hG : j < G.size) (h : z[j] ≠ G[j]) : G.data.toList.isPrefixOf z.data.toList = false := by
  rw [Bool.eq_false_iff]; intro g
  have := (prefix_get g).2 j (by simpa using hG)
  rw [← getD_at z j hz, ← getD_at G j hG] at this
  exact h this
theorem preB_snoc {z G : ByteArray} {j : Nat} (h : PreB z G j) (hz : j < z.size) (hG : j < G.size) (he : z[j] = G[j]) : PreB z G (j + 1) := by
  refine ⟨by omega, by omega, fun i hi => ?_⟩
  by_cases e : i = j
  · subst e; rw [← getD_at z i hz, ← getD_at G i hG]; exact he
  · exact h.2.2 i (by omega)
theorem none_snoc35 {l : List UInt8} {k : Nat} (h : ∀ j, j < k → (signL.getD j []).isPrefixOf l = false) (hk : (signL.getD k []).isPrefixOf l = false) : ∀ j, j < k + 1 → (signL.getD j []).isPrefixOf l = false := by
  intro j hj
  by_cases e : j = k
  · subst e; exact hk
  · exact h j (by omega)
set_option maxRecDepth 100000 in
set_option maxHeartbeats 4000000 in
theorem readSign_any (z : ByteArray) (w : World) (hs : z.size ≤ 1048576) (ht : Sig w) :
    Calls Tryz.prog 120 #[.string z] w (WPost 0 (sgnO z) w) := by
  have HB := Lib.hid (show ∀ o, Below w.heap.size w (w.alloc o) from fun o => (Below.refl w.heap.size w).alloc (Nat.le_refl _) _)
  have hsg := Lib.hid (fun o => (ht.on (HB.out o)).row)
  obtain ⟨A, hA⟩ : ∃ A, A = (signL.map eS).toArray := ⟨_, rfl⟩
  rw [← hA] at hsg
  have hAs : A.size = 35 := by rw [hA]; rfl
  have HG : Hid (∀ k, k < 35 → A[k]? = some (eS (signL.getD k []))) := Lib.hid (fun k hk => by
    rw [hA]
    have hl : k < signL.length := hk
    simp [List.getElem?_map, List.getElem?_eq_getElem hl])
  clear hA ht
  go_enter Tryz.func120, Tryz.ntmps120
  obtain ⟨t, fr, hrow⟩ := hsg.out (.cells #[.int .i64 0, .string ⟨#[]⟩, .int .i64 0, .int .i64 0] 39)
  go_wp2
  go_step3
  go_wp2
  go_step3
  go_wp2_with (refine wpList_load_row rfl 170 _ rfl 0 rfl t A fr _ hrow Tryz.underlying170 rfl (by rw [infoSig, hAs]) ?_)
  clear hrow
  go_loopg [8] 35 (fun g s8 wx => ∃ k : Nat, k + g = 35 ∧ s8 = .int .i64 (k : Int) ∧ (∀ j, j < k → (signL.getD j []).isPrefixOf z.data.toList = false) ∧ BoxT w.heap.size wx ∧ Below w.heap.size w wx)
  case atStart => exact ⟨0, rfl, rfl, fun j hj => by omega, BoxT.new _ _, HB.out _⟩
  case round =>
    obtain ⟨k, hkg, rfl, hno, hbx, hbel⟩ := hrel
    have HN := Lib.hid hno
    have HX := Lib.hid hbx
    have HBL := Lib.hid hbel
    clear hno hbx hbel
    cases gk with
    | zero =>
      obtain rfl : k = 35 := by omega
      have E : Hid (sgnO z = none) := Lib.hid (if_pos (sgn_none HN.out))
      obtain ⟨⟨q0, q1, q2, q3⟩, ⟨p0, p1, p2, p3⟩⟩ := HX.out
      have hz0 : w.heap.size < wr.heap.size := World.block_lt_of_cell? wr _ q0
      go_wp2_with fail
      try rw [Exit.noGoto_ret]
      exact bodyPost_ret (v := .tuple #[.agg #[.int .i64 0, .string ⟨#[]⟩, .int .i64 0, .int .i64 0], .int .i64 (0)]) (by simp [results, Tryz.results120, go_sem, *]) rfl ⟨⟨0, ⟨#[]⟩, 0, 0⟩, _, rfl, .inl ⟨E.out, rfl⟩, by first | exact HBL.out | exact ((((HBL.out).setCell (p := ⟨w.heap.size, 0, none⟩) (Nat.le_refl _) _).setCell (p := ⟨w.heap.size, 1, none⟩) (Nat.le_refl _) _).setCell (p := ⟨w.heap.size, 2, none⟩) (Nat.le_refl _) _).setCell (p := ⟨w.heap.size, 3, none⟩) (Nat.le_refl _) _⟩
    | succ g =>
      have hk35 : k < 35 := by omega
      have hix := sig_index A k hk35 _ hAs (HG.out k hk35)
      have HH := Lib.hid (fun hp => sgn_hit hk35 HN.out hp)
      have HS := Lib.hid (fun hp => none_snoc35 HN.out (k := k) hp)
      have hne : signL.getD k [] ≠ [] := by
        have key : ∀ j : Fin 35, signL.getD j.val [] ≠ [] := by decide
        exact key ⟨k, hk35⟩
      have hle : (signL.getD k []).length ≤ 2 := by
        have key : ∀ j : Fin 35, (signL.getD j.val []).length ≤ 2 := by decide
        exact key ⟨k, hk35⟩
      obtain ⟨l, hl⟩ : ∃ l, l = signL.getD k [] := ⟨_, rfl⟩
      rw [← hl] at HH HS hix hne hle
      clear hl
      obtain ⟨G, hG⟩ : ∃ G : ByteArray, G = ⟨l.toArray⟩ := ⟨_, rfl⟩
      have hGl : G.data.toList = l := by rw [hG]
      unfold eS at hix
      rw [← hG] at hix
      rw [← hGl] at HH HS hne hle
      have hGs : G.size ≤ 2 := by simpa using hle
      clear hG hGl hle l
      have HNE := Lib.hid hne
      clear hne
      have k0 : (0 : Int) ≤ (k : Int) := by omega
      have k1 : (k : Int) < 35 := by omega
      go_wp2_with fail
      go_loopg [13] (G.size) (fun g2 s13 wy => ∃ j : Nat, j + g2 = G.size ∧ s13 = .int .i64 (j : Int) ∧ PreB z G j ∧ BoxT w.heap.size wy ∧ Below w.heap.size w wy)
      case atStart => exact ⟨0, by omega, rfl, ⟨by omega, by omega, fun i hi => by omega⟩, HX.out, HBL.out⟩
      case round =>
        obtain ⟨j, hjg, rfl, hpre, hbx2, hbel2⟩ := hrel
        have HP := Lib.hid hpre
        have HX2 := Lib.hid hbx2
        have HBL2 := Lib.hid hbel2
        have hjz := hpre.1
        clear hpre hbx2 hbel2
        cases gk with
        | zero =>
          obtain rfl : j = G.size := by omega
          have E0 := Lib.hid (HH.out (preB_all HP.out))
          have E : Hid (sgnO z = some (⟨5, G, 0, 0⟩, G.size)) := Lib.hid (by
            unfold sgnO
            rw [E0.out, if_neg HNE.out]
            simp)
          obtain ⟨⟨q0, q1, q2, q3⟩, ⟨p0, p1, p2, p3⟩⟩ := HX2.out
          have hz0 := World.block_lt_of_cell? _ _ q0
          simp only at hz0
          go_wp2_with fail
          try rw [Exit.noGoto_ret]
          exact bodyPost_ret (v := .tuple #[.agg #[.int .i64 5, .string G, .int .i64 0, .int .i64 0], .int .i64 (G.size : Int)]) (by simp [results, Tryz.results120, go_sem, *]) rfl ⟨⟨5, G, 0, 0⟩, _, rfl, .inr ⟨_, E.out, rfl, rfl⟩, by first | exact HBL2.out | exact ((((HBL2.out).setCell (p := ⟨w.heap.size, 0, none⟩) (Nat.le_refl _) _).setCell (p := ⟨w.heap.size, 1, none⟩) (Nat.le_refl _) _).setCell (p := ⟨w.heap.size, 2, none⟩) (Nat.le_refl _) _).setCell (p := ⟨w.heap.size, 3, none⟩) (Nat.le_refl _) _⟩
        | succ g2 =>
          have hjG : j < G.size := by omega
          have j0 : (0 : Int) ≤ (j : Int) := by omega
          have j1 : (j : Int) < (G.size : Int) := by omega
          by_cases hjz2 : j < z.size
          · have j2 : (j : Int) < (z.size : Int) := by omega
            have j3 : ((j : Int) == (z.size : Int)) = false := by simp; omega
            by_cases he : z[j] = G[j]
            · have HP2 := Lib.hid (preB_snoc HP.out hjz2 hjG he)
              have hq : ((z[j].toNat : Int) == (G[j].toNat : Int)) = true := by rw [he]; simp
              go_wp2_with fail
              go_quiet (fail)
              go_wp2_with fail
              go_roundg g2
              case measure => omega
              case rel => exact ⟨j + 1, by omega, by go_num, HP2.out, HX2.out, HBL2.out.trans ⟨rfl, rfl, rfl, Nat.le_refl _, fun _ _ => rfl⟩⟩
            · have HS2 := Lib.hid (HS.out (preB_ne hjz2 hjG he))
              have hq : ((z[j].toNat : Int) == (G[j].toNat : Int)) = false := by
                rw [beq_eq_false_iff_ne]; intro e; exact he (UInt8.toNat_inj.1 (by omega))
              go_wp2_with fail
              go_quiet (fail)
              go_wp2_with fail
              go_roundg g
              case measure => omega
              case rel => exact ⟨k + 1, by omega, by go_num, HS2.out, HX2.out, HBL2.out.trans ⟨rfl, rfl, rfl, Nat.le_refl _, fun _ _ => rfl⟩⟩
          · have HS2 := Lib.hid (HS.out (preB_end (by omega)))
            have j3 : ((j : Int) == (z.size : Int)) = true := by simp; omega
            go_wp2_with fail
            go_quiet (fail)
            go_wp2_with fail
            go_roundg g
            case measure => omega
            case rel => exact ⟨k + 1, by omega, by go_num, HS2.out, HX2.out, HBL2.out.trans ⟨rfl, rfl, rfl, Nat.le_refl _, fun _ _ => rfl⟩⟩
end Go.Proofs.YtebeoijoljlhiaaGreatDoor.kit
