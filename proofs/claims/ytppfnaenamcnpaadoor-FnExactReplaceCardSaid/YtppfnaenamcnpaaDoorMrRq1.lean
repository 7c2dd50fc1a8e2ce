/-
  A region that draws its order, within a round of a loop over an iterator, by a condition on the world that is kept: plain facts, of no program. Conditions: each theorem names its own.
-/
import Derived.Test.YtppfnaenamcnpaaDoorMrMx1
import Derived.Deep.RegionHeld
import Derived.OwnWalkIn
set_option linter.unusedVariables false
namespace Go.Proofs.YtppfnaenamcnpaaDoor.kit
open Go.ChangeShapes Go.WideShapes Go.ChangeAt Go.RowKit
section
variable {P : Program}
theorem rows_wide {n : Nat} {row : String} {args : Array Value} {w : World} {R : Value → World → Prop} (h : Rows P row args w R) : RowsIn Fence.wide n P row args w R := fun c cs _ => by
 obtain ⟨v, w', h1, h2⟩ := h c cs
 exact ⟨v, w', h1, stepsIn_wide.2 h2⟩
theorem oper_wide {n : Nat} {o : Oper} {a : Act} {w : World} {K : Act → World → Prop} {Q : Exit → Act → World → Prop} (hd : ∀ c, o.op ≠ .defer c) (h : o.wp P a w K Q) : o.wpIn Fence.wide n P a w K Q := by
 unfold Oper.wpIn
 refine ⟨fun _ _ => trivial, ?_⟩
 rw [Oper.semAt_plain Fence.wide _ _ hd]
 unfold Oper.wp at h
 generalize (execOp a.eval o).run P w = r at *
 cases r with
 | ok nx w' =>
   cases nx with
   | value v => exact h
   | skip => exact h
   | defer d => exact h
   | enter f args => exact ⟨fun e => by simp [Fence.wide] at e, callsIn_wide.2 h⟩
   | row rw_ args => exact ⟨fun e => by simp [Fence.wide] at e, rows_wide h⟩
   | _ => exact False.elim h
 | halt hl w' => cases hl <;> exact h
theorem wpAnyIn_of_plain {n : Nat} {ops : Array Oper} {md : Region.Mode} {Q : Exit → Act → World → Prop} (hL : ¬ LetsOut Q) (hnd : ∀ (i : Nat) (o : Oper), ops[i]? = some o → ∀ c, o.op ≠ .defer c) :
 ∀ (fuel : Nat) (listed : Array Bool) (a : Act) (w : World), wpAny P md ops Q fuel listed a w → wpAnyIn Fence.wide n P md ops Q fuel listed a w
 | 0, _, _, _, h => h
 | fuel + 1, listed, a, w, h => by
   refine ⟨h.1, fun i hi => ?_⟩
   have h2 := h.2 i hi
   unfold wpOp at h2
   unfold wpOpIn
   cases ho : ops[i]? with
   | none => simp only [ho] at h2 ⊢; exact wpAnyIn_of_plain hL hnd fuel _ _ _ h2
   | some o =>
     simp only [ho] at h2 ⊢
     by_cases c : Region.wanted o (yielded ops a.tmps) = true
     · simp only [c, if_true] at h2 ⊢
       rcases h2 with h2 | h2
       · exact oper_wide (hnd i o ho) (Oper.wp_mono (fun a' w' h => wpAnyIn_of_plain hL hnd fuel _ a' w' h) h2)
       · exact absurd h2.2 hL
     · simp only [c] at h2 ⊢
       exact ⟨fun _ _ => trivial, wpAnyIn_of_plain hL hnd fuel _ _ _ h2⟩
theorem wpIn_region_held_round {n id : Nat} {S : World → Prop} {Q : Exit → Act → World → Prop} {a : Act} {w : World} {l : List Oper} (k : Nat) (hm : P.follows .mixedOrders = true) (hL : ¬ LetsOut Q) (hd : noDefer l = true) (hS : S w.drew)
 (h : S w.drew → wpAnyH P .any l.toArray Q S l.toArray.size (Array.replicate l.toArray.size false) a w.drew) : (Code.region id l.toArray true).wpIn (Fence.wide.inRound k) n P Q a w := by
 have hnd : ∀ (i : Nat) (o : Oper), l.toArray[i]? = some o → ∀ c, o.op ≠ .defer c := by
  intro i o ho c e
  have hmem : o ∈ l := by
   rw [List.getElem?_toArray] at ho
   exact List.mem_of_getElem? ho
  have := List.all_eq_true.1 hd o hmem
  rw [e] at this
  cases this
 exact wpIn_region_any hm (wpAnyIn_inRound rfl k hnd _ _ _ _ (wpAnyIn_of_plain hL hnd _ _ _ _ (wpAny_of_held _ _ _ _ (h hS))))
end
end Go.Proofs.YtppfnaenamcnpaaDoor.kit
