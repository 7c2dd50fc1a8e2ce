/-
 A region that draws its order, within a round of a loop over an iterator, and only reads: one walk of the lexical order serves every order there, too: plain facts, of no program. Conditions: each theorem names its own.
-/
import Derived.Test.YtpidpimgoeeogaaDoorMaMx1
import Derived.Sort.QuietIn
namespace Go.Proofs.YtpidpimgoeeogaaDoor.kit
open Go.ChangeShapes Go.WideShapes Go.ChangeAt Go.RowKit
set_option linter.unusedVariables false

section
variable {F : Fence} {n : Nat} {P : Program}
theorem wpIn_inRound {o : Oper} (hro : F.round = none) (ho : ∀ c, o.op ≠ .defer c) (l : Nat) {a : Act} {w : World} {K : Act → World → Prop} {Q : Exit → Act → World → Prop} (h : o.wpIn F n P a w K Q) : o.wpIn (F.inRound l) n P a w K Q := by
 unfold Oper.wpIn at *
 refine ⟨h.1, ?_⟩
 have h2 := h.2
 rw [Oper.semAt_eq _ _ _ ho] at h2 ⊢
 exact h2
theorem wpAnyIn_inRound {ops : Array Oper} {md : Region.Mode} {Q : Exit → Act → World → Prop} (hro : F.round = none) (l : Nat) (hnd : ∀ (i : Nat) (o : Oper), ops[i]? = some o → ∀ c, o.op ≠ .defer c) :
  ∀ (fuel : Nat) (listed : Array Bool) (a : Act) (w : World), wpAnyIn F n P md ops Q fuel listed a w → wpAnyIn (F.inRound l) n P md ops Q fuel listed a w
 | 0, _, _, _, h => h
 | fuel + 1, listed, a, w, h => by
  refine ⟨h.1, fun i hi => ?_⟩
  have h2 := h.2 i hi
  have h3 := wpOpIn_mono (K' := wpAnyIn (F.inRound l) n P md ops Q fuel (listed.setIfInBounds i true)) (fun a' w' h => wpAnyIn_inRound hro l hnd fuel _ a' w' h) h2
  unfold wpOpIn at h3 ⊢
  cases ho : ops[i]? with
  | none => simpa [ho] using h3
  | some o =>
   simp only [ho] at h3 ⊢
   by_cases c : Region.wanted o (yielded ops a.tmps) = true
   ·simp only [c, if_true] at h3 ⊢
    exact wpIn_inRound hro (hnd i o ho) l h3
   ·simp only [c] at h3 ⊢
    exact h3
def noDefer (l : List Oper) : Bool := l.all fun o => match o.op with | .defer _ => false | _ => true
theorem wpIn_region_quiet_round {id : Nat} {Q : Exit → Act → World → Prop} {a : Act} {w : World} {l : List Oper} (k : Nat) (hro : F.round = none) (hm : P.follows .mixedOrders = true) (hB : Region.lexB .any l.toArray = true) (hd : noDefer l = true)
  (h : wpQuietIn F n P l.toArray (fun w' => ∃ n, w' = w.drewN n) (fun a' => ∀ w', (∃ n, w' = w.drewN n) → Q .normal a' w') l a) : (Code.region id l.toArray true).wpIn (F.inRound k) n P Q a w := by
 have hnd : ∀ (i : Nat) (o : Oper), l.toArray[i]? = some o → ∀ c, o.op ≠ .defer c := by
  intro i o ho c e
  have hmem : o ∈ l := by
   rw [List.getElem?_toArray] at ho
   exact List.mem_of_getElem? ho
  have := List.all_eq_true.1 hd o hmem
  rw [e] at this
  cases this
 simp only [Region.lexB, Bool.and_eq_true] at hB
 refine wpIn_region_any hm (wpAnyIn_inRound hro k hnd _ _ _ _ (wpAnyIn_of_quiet (C := fun w' => ∃ n, w' = w.drewN n) (Q := fun a' => ∀ w', (∃ n, w' = w.drewN n) → Q .normal a' w') hro (fun _ w' hw' h => h w' hw') _ _ _ _ ⟨1, rfl⟩ ?_))
 have := wpAnyQIn_lex (F := F) (n := n) (C := fun w' => ∃ n, w' = w.drewN n) (md := .any) hB.1 l.toArray.toList 0 (Array.replicate l.toArray.size false) a (by simp) (by simpa using hB.2) (by simpa using h)
 simpa using this
end
end Go.Proofs.YtpidpimgoeeogaaDoor.kit
