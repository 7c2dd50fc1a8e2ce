/-
 Plain facts on the parts of a text between bytes that a test picks, and on slices of texts that a call owns; of no program. Conditions: each theorem names its own.
-/
import Derived.Test.YtpidpimgoeeogaaDoorMaKit
namespace Go.Proofs.YtpidpimgoeeogaaDoor.kit
open Go.ChangeShapes Go.WideShapes Go.ChangeAt Go.RowKit
set_option linter.unusedVariables false

/-- The parts that have ended ahead of place k, and where the next one begins. -/
def cs (p : UInt8 → Bool) (l : List UInt8) : Nat → List (List UInt8) × Nat
 | 0 => ([], 0)
 | k + 1 => if p (l.getD k 0) then ((cs p l k).1 ++ [(l.take k).drop (cs p l k).2], k + 1) else cs p l k
def parts (p : UInt8 → Bool) (l : List UInt8) : List (List UInt8) := (cs p l l.length).1 ++ [l.drop (cs p l l.length).2]
theorem cs_yes {p : UInt8 → Bool} {l : List UInt8} {k : Nat} (h : p (l.getD k 0) = true) : cs p l (k + 1) = ((cs p l k).1 ++ [(l.take k).drop (cs p l k).2], k + 1) := by simp only [cs, h, if_true]
theorem cs_no {p : UInt8 → Bool} {l : List UInt8} {k : Nat} (h : p (l.getD k 0) = false) : cs p l (k + 1) = cs p l k := by simp only [cs, h, Bool.false_eq_true, if_false]
theorem cs_bd (p : UInt8 → Bool) (l : List UInt8) (k : Nat) : (cs p l k).2 ≤ k ∧ (cs p l k).1.length ≤ k := by
 induction k with
 | zero => simp [cs]
 | succ k ih =>
  cases h : p (l.getD k 0)
  ·rw [cs_no h]; omega
  ·rw [cs_yes h]; simp; omega
theorem parts_len (p : UInt8 → Bool) (l : List UInt8) : (parts p l).length ≤ l.length + 1 := by
 have := cs_bd p l l.length
 simp [parts]; omega
theorem parts_ne (p : UInt8 → Bool) (l : List UInt8) : 1 ≤ (parts p l).length := by simp [parts]

def eS (l : List UInt8) : Value := .string ⟨l.toArray⟩
/-- A slice value that owns a row of texts in a block from B on. -/
def OwnS (e : TypeId) (B : Nat) (w : World) (v : Value) (xs : List (List UInt8)) : Prop := w.ownsRow B e 1 v xs.length (xs.map eS)
theorem ownS_start {e : TypeId} {B : Nat} {w : World} (hB : B ≤ w.heap.size) : OwnS e B (w.alloc (.cells #[] e)) (.slice (some ⟨w.heap.size, 0, none⟩) 0 0) [] :=
 World.ownsRow_made w #[] 0 hB (by simp [maxLen]) rfl
theorem OwnS.alloc {e : TypeId} {B : Nat} {w : World} {v : Value} {xs : List (List UInt8)} (h : OwnS e B w v xs) (o : Obj) : OwnS e B (w.alloc o) v xs := World.ownsRow.alloc h o
theorem OwnS.drew {e : TypeId} {B : Nat} {w : World} {v : Value} {xs : List (List UInt8)} (h : OwnS e B w v xs) : OwnS e B w.drew v xs := World.ownsRow.drew h
theorem OwnS.kept {e : TypeId} {B : Nat} {w w' : World} {v : Value} {xs : List (List UInt8)} (h : OwnS e B w v xs) (hb : Below w.heap.size w w') : OwnS e B w' v xs :=
 World.ownsRow.kept h ⟨hb.os, hb.tape, hb.output, hb.size, fun k hk _ => hb.block k hk⟩ (row := none) (by cases v.ownBlock <;> simp)
theorem OwnS.mono {e : TypeId} {B B' : Nat} {w : World} {v : Value} {xs : List (List UInt8)} (h : OwnS e B w v xs) (hB : B' ≤ B) : OwnS e B' w v xs := by
 refine ⟨h.1, ?_⟩
 rcases h.2 with h0 | ⟨g, cap, cur, a, b, c⟩
 ·exact .inl h0
 ·exact .inr ⟨g, cap, cur, a, Nat.le_trans hB b, c⟩
/-- append of one text to such a slice. -/
theorem wp_append_str1 {P : Program} {t e : TypeId} (ht : P.underlying t = some (.slice e)) (hinfo : (P.info? e).map (fun i => (i.zero, i.size, i.bytes)) = some (some (.string ⟨#[]⟩), 1, 16))
  {w : World} {ops : Array Oper} {rest : List Oper} {o : Oper} {a : Act} {Q : Exit → Act → World → Prop} (hgd : o.guard = none) (s x : Operand)
  (ho : o.op = .call { callee := .builtin .append, args := #[s, x], argTypes := #[t, t] }) (B : Nat) (v : Value) (xs : List (List UInt8)) (hs : a.eval s = v) (hown : OwnS e B w v xs)
  (ad : Addr) (c : Nat) (new : List UInt8) (hx : a.eval x = .slice (some ad) 1 c) (hnew : w.cell? ad = some (eS new))
  (hl : xs.length + 1 ≤ 1099511627776) (hB : B ≤ w.heap.size)
  (h : ∀ v' w', OwnS e B w' v' (xs ++ [new]) → Below B w w' → wpList P ops Q rest (a.put o.dst v') w') : wpList P ops Q (o :: rest) a w := by
 obtain ⟨i0, hi, hz0, hz1, hz2⟩ := info_parts hinfo
 refine wpList_append_own _ hgd s x t ho B e i0 (.string ⟨#[]⟩) 1 16 ht hi hz0 hz1 hz2 rfl (by decide) v xs.length _ hs hown ad 1 c [eS new] hx (by simp) ?_ ?_ ?_ ?_ hB ?_
 ·intro j u hu
  have hj : j = 0 := by
   have := (List.getElem?_eq_some_iff.1 hu).1
   simpa using this
  subst hj
  have : ad.add 0 = ad := by unfold Addr.add; split <;> simp_all
  rw [this, hnew]; simpa using hu
 ·intro u hu; simp at hu; subst hu; rfl
 ·simp only [maxLen]; omega
 ·omega
 ·intro v' w' h1 h2 h3
  refine h v' w' ?_ (Below.grown (Below.refl _ _) h2 hB (fun k hk => (World.ownsRow.lt hown k hk).1))
  simpa [OwnS, List.map_append] using h1
theorem extract_drop (s : ByteArray) (i j : Nat) : s.extract i j = ⟨((s.data.toList.take j).drop i).toArray⟩ := by
 obtain ⟨⟨l⟩⟩ := s
 rw [show (⟨⟨l⟩⟩ : ByteArray) = ByteArray.mk l.toArray from rfl, ByteArray.extract_mk, List.take_drop, List.drop_take, List.drop_take]
 congr 3
 omega
theorem getD_at (s : ByteArray) (k : Nat) (h : k < s.size) : s[k] = s.data.toList.getD k 0 := by
 have hl : k < s.data.toList.length := by simpa using h
 show s.data.toList[k] = _
 rw [List.getD_eq_getElem?_getD, List.getElem?_eq_getElem hl]; rfl
end Go.Proofs.YtpidpimgoeeogaaDoor.kit
