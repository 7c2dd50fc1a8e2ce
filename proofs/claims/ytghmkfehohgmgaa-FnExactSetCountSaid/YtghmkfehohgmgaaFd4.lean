/-
  Rows of texts: where a row lies (SlR); marking turns one row alone (Out). Contracts of spec.JoinLine, impl.JoinLine, laws.markRec over this seat's translation. Conditions: each theorem names its own.
-/
import Derived.Test.YtghmkfehohgmgaaFd3
import Derived.Test.YtghmkfehohgmgaaShelf
namespace Go.Proofs.Ytghmkfehohgmgaa.kit
open Go.ChangeShapes Go.WideShapes Go.ChangeAt Go.RowKit
set_option linter.unusedVariables false

/-- The texts of a row as a list. -/
def rowF (n : Nat) (f : Nat → List UInt8) : List (List UInt8) := (List.range n).map f
theorem rowF_length (n : Nat) (f : Nat → List UInt8) : (rowF n f).length = n := by simp [rowF]
theorem rowF_get (n : Nat) (f : Nat → List UInt8) (j : Nat) (h : j < n) : (rowF n f)[j]? = some (f j) := by simp [rowF, h]
theorem rowF_succ (n : Nat) (f : Nat → List UInt8) : rowF (n + 1) f = rowF n f ++ [f n] := by simp [rowF, List.range_succ]
theorem rowF_list (ts : List (List UInt8)) : rowF ts.length (fun j => ts.getD j []) = ts := by
  apply List.ext_getElem?
  intro j
  by_cases h : j < ts.length
  · rw [rowF_get _ _ _ h]; simp [h]
  · rw [List.getElem?_eq_none (by rw [rowF_length]; omega), List.getElem?_eq_none (by omega)]
theorem rowF_congr {n : Nat} {f f' : Nat → List UInt8} (h : ∀ j, j < n → f j = f' j) : rowF n f = rowF n f' := by
  unfold rowF
  exact List.map_congr_left fun j hj => h j (by simpa using hj)
def joinF (n : Nat) (f : Nat → List UInt8) (o : List UInt8) : List UInt8 := Lib.join (rowF n f) o
theorem joinF_zero (f : Nat → List UInt8) (o : List UInt8) : joinF 0 f o = [] := rfl
theorem joinF_one (f : Nat → List UInt8) (o : List UInt8) : joinF 1 f o = f 0 := by
  have : rowF 1 f = [f 0] := rfl
  rw [joinF, this, Lib.join_one]
theorem join_snoc (x : List UInt8) (r : List (List UInt8)) (y o : List UInt8) : Lib.join ((x :: r) ++ [y]) o = Lib.join (x :: r) o ++ o ++ y := by
  rw [List.cons_append, Lib.join_cons, Lib.join_cons]
  simp [Lib.joinTail, List.append_assoc]
theorem joinF_succ (n : Nat) (f : Nat → List UInt8) (o : List UInt8) (h : 0 < n) : joinF (n + 1) f o = joinF n f o ++ o ++ f n := by
  unfold joinF
  rw [rowF_succ]
  cases hr : rowF n f with
  | nil => have := rowF_length n f; rw [hr] at this; simp at this; omega
  | cons x r => rw [join_snoc]
theorem joinF_congr {n : Nat} {f f' : Nat → List UInt8} (o : List UInt8) (h : ∀ j, j < n → f j = f' j) : joinF n f o = joinF n f' o := by
  unfold joinF; rw [rowF_congr h]
def lensF (n : Nat) (f : Nat → List UInt8) : Nat := Lib.lens (rowF n f)
theorem lensF_succ (n : Nat) (f : Nat → List UInt8) : lensF (n + 1) f = lensF n f + (f n).length := by
  unfold lensF; rw [rowF_succ]; simp [Lib.lens]
theorem lensF_zero (f : Nat → List UInt8) : lensF 0 f = 0 := rfl
theorem lensF_le (n k : Nat) (f : Nat → List UInt8) (h : k ≤ n) : lensF k f ≤ lensF n f := by
  induction n with
  | zero => obtain rfl : k = 0 := by omega
            exact Nat.le_refl _
  | succ n ih =>
    by_cases e : k = n + 1
    · subst e; exact Nat.le_refl _
    · rw [lensF_succ]; have := ih (by omega); omega
theorem lensF_congr {n : Nat} {f f' : Nat → List UInt8} (h : ∀ j, j < n → f j = f' j) : lensF n f = lensF n f' := by
  unfold lensF; rw [rowF_congr h]
theorem lensF_list (ts : List (List UInt8)) : lensF ts.length (fun j => ts.getD j []) = costF ts := by
  unfold lensF
  rw [rowF_list]
  induction ts with
  | nil => rfl
  | cons t ts ih => simp only [Lib.lens, List.map_cons, List.sum_cons, costF] at ih ⊢; rw [← ih]
theorem joinF_length (n : Nat) (f : Nat → List UInt8) (o : List UInt8) : (joinF n f o).length = o.length * (n - 1) + lensF n f := by
  cases n with
  | zero => simp [joinF_zero, lensF_zero]
  | succ n =>
    unfold joinF lensF
    have h : rowF (n + 1) f = f 0 :: (rowF n (fun j => f (j + 1))) := by
      unfold rowF
      rw [List.range_succ_eq_map]; simp [Function.comp_def]
    rw [h, Lib.join_length, rowF_length]
    simp
theorem app_text (x y : List UInt8) : (⟨x.toArray⟩ : ByteArray) ++ ⟨y.toArray⟩ = ⟨(x ++ y).toArray⟩ := by
  apply ByteArray.ext; simp [ByteArray.data_append]
theorem joinF_le (n k : Nat) (f : Nat → List UInt8) (o : List UInt8) (h : k ≤ n) : (joinF k f o).length ≤ (joinF n f o).length := by
  rw [joinF_length, joinF_length]
  have h1 := lensF_le n k f h
  have h2 := Nat.mul_le_mul_left o.length (show k - 1 ≤ n - 1 by omega)
  omega
set_option maxRecDepth 100000 in
set_option maxHeartbeats 400000 in
theorem specJoin_any (B : Nat) (a : Option Addr) (cap n : Nat) (f : Nat → List UInt8) (o : List UInt8) (w : World) (hn : n ≤ 2000000) (hj : (joinF n f o).length ≤ 140737488355328) (hsl : SlF B w a n f) :
    Calls Try.prog 20 #[.slice a n cap, eS o] w fun e w' => e = .returned (eS (joinF n f o)) ∧ Below w.heap.size w w' := by
  have HS := Lib.hid (fun (W : World) (hb : Below w.heap.size w W) => hsl.kept hb)
  have HJ := Lib.hid hj
  clear hsl hj
  unfold eS
  go_enter Try.func20, Try.ntmps20
  go_wp2_with fail
  go_loopw [5, 6] (fun out i wr => ∃ (k : Nat) (x : List UInt8), k ≤ n ∧ i = .int .i64 (k : Int) ∧ out = .string ⟨x.toArray⟩ ∧ x = joinF k f o ∧ Below w.heap.size w wr) (fun _ i _ => n - (intOf i).toNat)
  case atStart => exact ⟨0, [], Nat.zero_le _, rfl, rfl, rfl, Below.refl _ _⟩
  case round =>
    obtain ⟨k, x, hk, rfl, rfl, hx, hbel⟩ := hrel
    have HB := Lib.hid hbel
    have HX := Lib.hid hx
    clear hbel
    by_cases hlt : k < n
    · obtain ⟨g, rfl, hg1, hg2, hg3, hg4⟩ := (HS.out _ HB.out) k hlt
      have i0 : (0 : Int) ≤ (k : Int) := by omega
      have i1 : (k : Int) < (n : Int) := by omega
      clear hg1 hg4
      have hle := joinF_le n (k + 1) f o hlt
      have hJ := HJ.out
      by_cases c : k = 0
      · subst c
        have HE := Lib.hid (show f 0 = joinF 1 f o from (joinF_one f o).symm)
        have hxe : x = [] := hx
        subst hxe
        have hl : ([] : List UInt8).length + (f 0).length ≤ 140737488355328 := by rw [joinF_one] at hle; simp; omega
        unfold eS at hg3
        clear hle hJ hx HX
        generalize f 0 = y at *
        go_wp2_with fail
        go_roundw
        case rel => exact ⟨1, y, by omega, by go_num, by rw [app_text]; rfl, HE.out, HB.out⟩
        case measure => simp [intOf]; omega
      · have c1 : (0 : Int) < (k : Int) := by omega
        have hsu := joinF_succ k f o (by omega)
        rw [← hx] at hsu
        have HE := Lib.hid hsu
        have hl := hsu ▸ hle
        simp only [List.length_append] at hl
        unfold eS at hg3
        clear hle hsu hx
        generalize f k = y at *
        go_wp2_with fail
        go_roundw
        case rel => exact ⟨k + 1, x ++ o ++ y, by omega, by go_num, by rw [app_text, app_text], HE.out.symm, HB.out⟩
        case measure => simp [intOf]; omega
    · obtain rfl : k = n := by omega
      go_wp2_with fail
      go_ret
      exact ⟨ret_str (by rw [HX.out]), HB.out⟩
theorem implJoin_any (B : Nat) (a : Option Addr) (cap n : Nat) (f : Nat → List UInt8) (o : List UInt8) (w : World) (hn : n ≤ 2000000) (hj : (joinF n f o).length ≤ 140737488355328) (hl : Laid n cap a w) (hsl : SlF B w a n f) :
    Calls Try.prog 22 #[.slice a n cap, eS o] w fun e w' => e = .returned (eS (joinF n f o)) ∧ Below w.heap.size w w' := by
  obtain ⟨hnc, g, rfl, hg⟩ := hl
  obtain ⟨xs, hxs⟩ : ∃ xs : List ByteArray, xs = (rowF n f).map fun l => ⟨l.toArray⟩ := ⟨_, rfl⟩
  have hlen : xs.length = n := by rw [hxs, List.length_map, rowF_length]
  have hmap : xs.map (·.data.toList) = rowF n f := by rw [hxs]; simp [Function.comp_def]
  have key := Try.strings_Join g 0 cap xs ⟨o.toArray⟩ w (fun j x hx => by
    have hjn : j < n := by rw [← hlen]; exact (List.getElem?_eq_some_iff.1 hx).1
    obtain ⟨g', e, _, _, h3, _⟩ := hsl j hjn
    cases e
    rw [hxs, List.getElem?_map, rowF_get n f j hjn] at hx
    simp only [Option.map_some, Option.some.injEq] at hx
    rw [Nat.zero_add, h3, ← hx]; rfl) hg (by omega) (by omega) (by rw [hmap]; exact hj)
  rw [hmap, hlen] at key
  have HK := Lib.hid (show Calls Try.prog 40 #[.slice (some ⟨g, 0, none⟩) n cap, .string ⟨o.toArray⟩] w fun e w' => e = .returned (eS (joinF n f o)) ∧ Below w.heap.size w w' from key)
  clear key hmap hlen hxs
  generalize joinF n f o = j at *
  unfold eS at HK ⊢
  go_enter Try.func22, Try.ntmps22
  go_wp2_with fail
  refine HK.out.mono ?_
  rintro e w1 ⟨rfl, hb1⟩
  go_wp2_with fail
  go_ret
  exact ⟨rfl, hb1⟩
end Go.Proofs.Ytghmkfehohgmgaa.kit
