/-
  Plain facts for the proofs of this seat, of no program: rows of bytes that a call owns, a list changed up to a place, what a rune's bytes are. Conditions: each theorem names its own.
-/
import Derived.WalkKit
import Derived.ProofKit
import Derived.OpenShut
import Derived.ShutString
import Derived.Lib.Hide
import Derived.Lib.OthersKept
import Derived.Lib.ConvBytes
import Derived.Laws.IdiomStrings
import Derived.Lib.AppendStr
import Derived.Deep.RegionLaw
namespace Go.Proofs.YtcimhpdpfckgiaaDoor.kit
open Go.ChangeShapes Go.WideShapes Go.ChangeAt Go.RowKit
set_option linter.unusedVariables false

theorem ret_bool {a b : Bool} (h : a = b) : Ending.returned (.bool a) = .returned (.bool b) := by rw [h]
theorem ret_int {k : IntKind} {a b : Int} (h : a = b) : Ending.returned (.int k a) = .returned (.int k b) := by rw [h]
theorem ret_str {a b : ByteArray} (h : a = b) : Ending.returned (.string a) = .returned (.string b) := by rw [h]
theorem empty_of_size {s : ByteArray} (h : s.size = 0) : s.toList.isEmpty = true := by
  rw [ByteArray.toList_eq, List.isEmpty_iff_length_eq_zero]; simpa using h
theorem not_empty_of_size {s : ByteArray} (h : s.size ≠ 0) : s.toList.isEmpty = false := by
  rw [ByteArray.toList_eq, Bool.eq_false_iff, ne_eq, List.isEmpty_iff_length_eq_zero]; simpa using h

/-- A row of bytes that may be written. -/
def Row (w : World) (g : Nat) (xs : List UInt8) : Prop :=
  ∀ (j : Nat) (h : j < xs.length), w.cell? ⟨g, j, none⟩ = some (.int .u8 xs[j].toNat) ∧ w.frozen? ⟨g, j, none⟩ = false
theorem Row.store {w : World} {g : Nat} {xs : List UInt8} (h : Row w g xs) (k : Nat) (hk : k < xs.length) (c : UInt8) :
    Row (w.setCell ⟨g, k, none⟩ (.int .u8 c.toNat)) g (xs.set k c) := by
  intro j hj
  have hj' : j < xs.length := by simpa using hj
  refine ⟨?_, by rw [World.frozen?_setCell]; exact (h j hj').2⟩
  by_cases e : k = j
  · subst e
    rw [World.cell?_setCell_same w _ _ (h k hk).1]; simp
  · rw [World.cell?_setCell_other w _ _ _ (by intro x; injection x; omega), (h j hj').1]
    simp [e]
theorem Row.of_block {w w' : World} {g : Nat} {xs : List UInt8} (h : Row w g xs) (e : w'.heap[g]? = w.heap[g]?) : Row w' g xs := by
  intro j hj
  obtain ⟨a, b⟩ := h j hj
  exact ⟨by rw [World.cell?_of_block (w := w) e]; exact a, by rw [World.frozen?_of_block (w := w) e]; exact b⟩
theorem Row.back {P : Program} {w : World} {g : Nat} {xs : List UInt8} (h : Row w g xs) (src dst e : TypeId) (cap n : Nat) (hn : n = xs.length) (hs : P.underlying src = some (.slice e)) (he : P.underlying e = some (.int .u8)) (hd : P.underlying dst = some .string) :
    (convert src dst (.slice (some ⟨g, 0, none⟩) n cap)).run P w = .ok (.string ⟨xs.toArray⟩) w := by
  subst hn
  refine run_convert_bytes_back w src dst e ⟨g, 0, none⟩ cap xs hs he hd fun j hj => ?_
  have : (⟨g, 0, none⟩ : Addr).add j = ⟨g, j, none⟩ := by unfold Addr.add; split <;> simp_all
  rw [this]; exact (h j hj).1
theorem row_bytesWorld (w : World) (e : TypeId) (s : ByteArray) : Row (Lib.bytesWorld w e s) w.heap.size s.data.toList := by
  intro j hj
  have hj' : j < s.size := by simpa using hj
  refine ⟨by rw [Lib.bytesWorld_cell w e s j hj']; simp [List.getD, hj'], ?_⟩
  have hb := Lib.bytesWorld_at_new w e s
  have hl : s.size ≤ (Lib.bytesCells w e s).size := by simp [Lib.bytesCells]
  simp [World.frozen?, hb]; omega
theorem below_bytesWorld (w : World) (e : TypeId) (s : ByteArray) : Below w.heap.size w (Lib.bytesWorld w e s) :=
  ⟨rfl, rfl, rfl, by rw [Lib.bytesWorld_size]; omega, fun k hk => Lib.bytesWorld_at_old w e s k hk⟩

/-- A list whose first k have been changed. -/
def mapTo (f : UInt8 → UInt8) (k : Nat) (l : List UInt8) : List UInt8 := (l.take k).map f ++ l.drop k
theorem mapTo_length (f : UInt8 → UInt8) (k : Nat) (l : List UInt8) : (mapTo f k l).length = l.length := by
  simp only [mapTo, List.length_append, List.length_map, List.length_take, List.length_drop]; omega
theorem mapTo_zero (f : UInt8 → UInt8) (l : List UInt8) : mapTo f 0 l = l := by simp [mapTo]
theorem mapTo_all (f : UInt8 → UInt8) (k : Nat) (l : List UInt8) (h : l.length ≤ k) : mapTo f k l = l.map f := by
  simp [mapTo, List.take_of_length_le h, List.drop_eq_nil_of_le h]
theorem mapTo_at (f : UInt8 → UInt8) (k j : Nat) (l : List UInt8) (h : j < l.length) (hj : j < (mapTo f k l).length) :
    (mapTo f k l)[j] = if j < k then f l[j] else l[j] := by
  simp only [mapTo, List.getElem_append, List.length_map, List.length_take, List.getElem_map, List.getElem_take, List.getElem_drop]
  by_cases e : j < k
  · rw [dif_pos (by omega), if_pos e]
  · rw [dif_neg (by omega), if_neg e]; congr 1; omega
theorem mapTo_set (f : UInt8 → UInt8) (k : Nat) (l : List UInt8) (h : k < l.length) : (mapTo f k l).set k (f l[k]) = mapTo f (k + 1) l := by
  apply List.ext_getElem
  · simp [mapTo_length]
  · intro j h1 h2
    have hj : j < l.length := by rw [mapTo_length] at h2; exact h2
    rw [List.getElem_set, mapTo_at f (k + 1) j l hj]
    by_cases e : k = j
    · subst e; simp
    · rw [if_neg e, mapTo_at f k j l hj]
      by_cases e2 : j < k
      · rw [if_pos e2, if_pos (by omega)]
      · rw [if_neg e2, if_neg (by omega)]
theorem mapTo_skip (f : UInt8 → UInt8) (k m : Nat) (l : List UInt8) (hkm : k ≤ m) (h : ∀ (j : Nat) (hj : j < l.length), k ≤ j → j < m → f l[j] = l[j]) : mapTo f m l = mapTo f k l := by
  apply List.ext_getElem
  · simp [mapTo_length]
  · intro j h1 h2
    have hj : j < l.length := by rw [mapTo_length] at h2; exact h2
    rw [mapTo_at f m j l hj, mapTo_at f k j l hj]
    by_cases e : j < k
    · rw [if_pos e, if_pos (by omega)]
    · rw [if_neg e]
      by_cases e2 : j < m
      · rw [if_pos e2]; exact h j hj (by omega) e2
      · rw [if_neg e2]

theorem get_of (s : ByteArray) (j : Nat) (h : j < s.size) : s.get! j = s[j] := by
  have := get_at s j h
  simpa using this
/-- The bytes of a rune behind its first one are 128 or more. -/
theorem decode_tail (s : ByteArray) (pos j : Nat) (h : j < s.size) (h1 : pos < j) (h2 : j < pos + (Utf8.decode s pos).2) : 128 ≤ s[j].toNat := by
  have key : ∀ k, k < 4 → pos + k = j → (decide (pos + k < s.size) && (s.get! (pos + k)).toNat / 64 == 2) = true → 128 ≤ s[j].toNat := by
    intro k _ e hk
    subst e
    rw [get_of s _ h] at hk
    simp at hk
    omega
  revert h2
  simp only [Utf8.decode]
  split
  · intro h2; simp at h2; omega
  · split
    · rename_i hc
      simp only [Bool.and_eq_true] at hc
      split
      · intro h2; simp at h2
        exact key 1 (by omega) (by omega) (by simpa using hc.2)
      · intro h2; simp at h2; omega
    · split
      · rename_i hc
        simp only [Bool.and_eq_true] at hc
        split
        · intro h2; simp at h2
          by_cases e : j = pos + 1
          · exact key 1 (by omega) (by omega) (by simpa using hc.1.2)
          · exact key 2 (by omega) (by omega) (by simpa using hc.2)
        · intro h2; simp at h2; omega
      · split
        · rename_i hc
          simp only [Bool.and_eq_true] at hc
          split
          · intro h2; simp at h2
            by_cases e : j = pos + 1
            · exact key 1 (by omega) (by omega) (by simpa using hc.1.1.2)
            · by_cases e2 : j = pos + 2
              · exact key 2 (by omega) (by omega) (by simpa using hc.1.2)
              · exact key 3 (by omega) (by omega) (by simpa using hc.2)
          · intro h2; simp at h2; omega
        · intro h2; simp at h2; omega
theorem iterPos_of {w : World} {k : Nat} {s : ByteArray} {p : Nat} (h : w.heap[k]? = some (.stringIter s p)) : w.iterPos k = p := by simp [World.iterPos, h]

/-- A slice value that owns a row of bytes in a block from B on. -/
def Own (e : TypeId) (B : Nat) (w : World) (v : Value) (xs : List UInt8) : Prop := w.ownsRow B e 1 v xs.length (xs.map fun c => .int .u8 (c.toNat : Int))
theorem own_start {e : TypeId} {B : Nat} {w : World} (hB : B ≤ w.heap.size) : Own e B (w.alloc (.cells #[] e)) (.slice (some ⟨w.heap.size, 0, none⟩) 0 0) [] :=
  World.ownsRow_made w #[] 0 hB (by simp [maxLen]) rfl
theorem Own.alloc {e : TypeId} {B : Nat} {w : World} {v : Value} {xs : List UInt8} (h : Own e B w v xs) (o : Obj) : Own e B (w.alloc o) v xs := World.ownsRow.alloc h o
theorem Own.kept {e : TypeId} {B B' : Nat} {w w' : World} {v : Value} {xs : List UInt8} (h : Own e B w v xs) (hb : Below w.heap.size w w') : Own e B w' v xs :=
  World.ownsRow.kept h ⟨hb.os, hb.tape, hb.output, hb.size, fun k hk _ => hb.block k hk⟩ (row := none) (by cases v.ownBlock <;> simp)
theorem Own.is_slice {e : TypeId} {B : Nat} {w : World} {v : Value} {xs : List UInt8} (h : Own e B w v xs) : (v = .slice none 0 0 ∧ xs = []) ∨ ∃ g cap, v = .slice (some ⟨g, 0, none⟩) xs.length cap ∧ B ≤ g ∧ g < w.heap.size := by
  rcases h.2 with ⟨rfl, h0⟩ | ⟨g, cap, cur, rfl, hb, hg, _⟩
  · exact .inl ⟨rfl, List.length_eq_zero_iff.1 h0⟩
  · exact .inr ⟨g, cap, rfl, hb, (Array.getElem?_eq_some_iff.1 hg).1⟩
theorem Own.back {P : Program} {e : TypeId} {B : Nat} {w : World} {v : Value} {xs : List UInt8} (h : Own e B w v xs) (src dst : TypeId) (hs : P.underlying src = some (.slice e)) (he : P.underlying e = some (.int .u8)) (hd : P.underlying dst = some .string) :
    (convert src dst v).run P w = .ok (.string ⟨xs.toArray⟩) w := by
  rcases h.is_slice with ⟨rfl, rfl⟩ | ⟨g, cap, rfl, _⟩
  · rw [run_convert_bytes_nil w src e hs he 0 0 dst hd]; rfl
  · refine run_convert_bytes_back w src dst e ⟨g, 0, none⟩ cap xs hs he hd fun j hj => ?_
    exact World.ownsRow.cells h rfl j _ (by simp [hj])
/-- append of bytes to such a slice. -/
theorem wp_append_bytes {P : Program} {t e : TypeId} (ht : P.underlying t = some (.slice e)) (hinfo : (P.info? e).map (fun i => (i.zero, i.size, i.bytes)) = some (some (.int .u8 0), 1, 1))
    {w : World} {ops : Array Oper} {rest : List Oper} {o : Oper} {a : Act} {Q : Exit → Act → World → Prop} (hgd : o.guard = none) (s x : Operand)
    (ho : o.op = .call { callee := .builtin .append, args := #[s, x], argTypes := #[t, t] }) (B : Nat) (v : Value) (xs : List UInt8) (hs : a.eval s = v) (hown : Own e B w v xs)
    (ad : Addr) (c m : Nat) (news : List UInt8) (hm : m = news.length) (hx : a.eval x = .slice (some ad) m c) (hnews : ∀ (j : Nat) (h : j < news.length), w.cell? (ad.add j) = some (.int .u8 (news[j].toNat : Int)))
    (hl : xs.length + news.length ≤ 1099511627776) (hB : B ≤ w.heap.size)
    (h : ∀ v' w', Own e B w' v' (xs ++ news) → Below B w w' → wpList P ops Q rest (a.put o.dst v') w') : wpList P ops Q (o :: rest) a w := by
  obtain ⟨i0, hi, hz0, hz1, hz2⟩ := info_parts hinfo
  subst hm
  refine wpList_append_own _ hgd s x t ho B e i0 (.int .u8 0) 1 1 ht hi hz0 hz1 hz2 rfl (by decide) v xs.length _ hs hown ad news.length c (news.map fun c => .int .u8 (c.toNat : Int)) hx (by simp) ?_ ?_ ?_ ?_ hB ?_
  · intro j u hu
    rw [List.getElem?_map] at hu
    cases hj : news[j]? with
    | none => simp [hj] at hu
    | some c =>
      obtain ⟨hjl, hjc⟩ := List.getElem?_eq_some_iff.1 hj
      rw [hnews j hjl, hjc]; simpa [hj] using hu
  · intro u hu; simp at hu; obtain ⟨c, _, rfl⟩ := hu; rfl
  · simp only [maxLen]; omega
  · omega
  · intro v' w' h1 h2 h3
    refine h v' w' ?_ (Below.grown (Below.refl _ _) h2 hB (fun k hk => (World.ownsRow.lt hown k hk).1))
    simpa [Own, List.map_append] using h1
theorem Own.drew {e : TypeId} {B : Nat} {w : World} {v : Value} {xs : List UInt8} (h : Own e B w v xs) : Own e B w.drew v xs := World.ownsRow.drew h
/-- append of bytes as one step of a region that draws its order. -/
theorem step_append_bytes {P : Program} {t e : TypeId} (ht : P.underlying t = some (.slice e)) (hinfo : (P.info? e).map (fun i => (i.zero, i.size, i.bytes)) = some (some (.int .u8 0), 1, 1))
    {w : World} {ops : Array Oper} {o : Oper} {a : Act} {K : Act → World → Prop} {Q : Exit → Act → World → Prop} {E : Prop} (hgd : o.guard = none) (s x : Operand)
    (ho : o.op = .call { callee := .builtin .append, args := #[s, x], argTypes := #[t, t] }) (B : Nat) (v : Value) (xs : List UInt8) (hs : a.eval s = v) (hown : Own e B w v xs)
    (ad : Addr) (c m : Nat) (news : List UInt8) (hm : m = news.length) (hx : a.eval x = .slice (some ad) m c) (hnews : ∀ (j : Nat) (h : j < news.length), w.cell? (ad.add j) = some (.int .u8 (news[j].toNat : Int)))
    (hl : xs.length + news.length ≤ 1099511627776) (hB : B ≤ w.heap.size)
    (h : ∀ v' w', Own e B w' v' (xs ++ news) → Below B w w' → K (a.put o.dst v') w') : if Region.wanted o (yielded ops a.tmps) = true then Oper.wp P o a w K Q else E := by
  obtain ⟨i0, hi, hz0, hz1, hz2⟩ := info_parts hinfo
  subst hm
  have hw : Region.wanted o (yielded ops a.tmps) = true := by simp [Region.wanted, hgd]
  rw [if_pos hw]
  refine wp_append_own _ s x t ho B e i0 (.int .u8 0) 1 1 ht hi hz0 hz1 hz2 rfl (by decide) v xs.length _ hs hown ad news.length c (news.map fun c => .int .u8 (c.toNat : Int)) hx (by simp) ?_ ?_ ?_ ?_ hB ?_
  · intro j u hu
    rw [List.getElem?_map] at hu
    cases hj : news[j]? with
    | none => simp [hj] at hu
    | some c =>
      obtain ⟨hjl, hjc⟩ := List.getElem?_eq_some_iff.1 hj
      rw [hnews j hjl, hjc]; simpa [hj] using hu
  · intro u hu; simp at hu; obtain ⟨c, _, rfl⟩ := hu; rfl
  · simp only [maxLen]; omega
  · omega
  · intro v' w' h1 h2 h3
    refine h v' w' ?_ (Below.grown (Below.refl _ _) h2 hB (fun k hk => (World.ownsRow.lt hown k hk).1))
    simpa [Own, List.map_append] using h1
theorem cell_one (w : World) (v : Value) (t : TypeId) : (w.alloc (.cells #[v] t)).cell? ⟨w.heap.size, 0, none⟩ = some v := by
  rw [World.cell?_alloc_at _ _ _ _ rfl]; rfl
theorem news_one (w : World) (c : UInt8) (t : TypeId) : ∀ (j : Nat) (h : j < [c].length), (w.alloc (.cells #[.int .u8 (c.toNat : Int)] t)).cell? ((⟨w.heap.size, 0, none⟩ : Addr).add j) = some (.int .u8 (([c][j]).toNat : Int)) := by
  intro j h
  obtain rfl : j = 0 := by simpa using h
  exact cell_one w _ t
/-- A block of bytes written out. -/
def cellsOf (l : List UInt8) : List Value := l.map fun c => .int .u8 (c.toNat : Int)
theorem news_lit (w : World) (t : TypeId) (l : List UInt8) (cs : List Value) (h : cs = cellsOf l) : ∀ (j : Nat) (hj : j < l.length), (w.alloc (.cells cs.toArray t)).cell? ((⟨w.heap.size, 0, none⟩ : Addr).add j) = some (.int .u8 ((l[j]).toNat : Int)) := by
  intro j hj
  subst h
  have hadd : (⟨w.heap.size, 0, none⟩ : Addr).add j = ⟨w.heap.size, j, none⟩ := by unfold Addr.add; split <;> simp_all
  rw [hadd, World.cell?_alloc_at _ _ _ _ rfl]
  simp [cellsOf, hj]
theorem back_lit {P : Program} {src dst e : TypeId} (hs : P.underlying src = some (.slice e)) (he : P.underlying e = some (.int .u8)) (hd : P.underlying dst = some .string) (l : List UInt8) (cs : List Value) (h : cs = cellsOf l) (n c : Nat) (hn : n = l.length) (W : World) :
    (convert src dst (.slice (some ⟨W.heap.size, 0, none⟩) n c)).run P (W.alloc (.cells cs.toArray e)) = .ok (.string ⟨l.toArray⟩) (W.alloc (.cells cs.toArray e)) := by
  subst hn
  exact run_convert_bytes_back _ src dst e _ c l hs he hd (news_lit W e l cs h)
theorem Own.lit {e : TypeId} {B : Nat} {w : World} (hB : B ≤ w.heap.size) (l : List UInt8) (cs : List Value) (h : cs = cellsOf l) (n : Nat) (hn : n = l.length) (hl : l.length ≤ 1000) : Own e B (w.alloc (.cells cs.toArray e)) (.slice (some ⟨w.heap.size, 0, none⟩) n n) l := by
  subst hn h
  refine ⟨by simp, .inr ⟨w.heap.size, l.length, _, rfl, hB, heap_alloc_new w _, Nat.le_refl _, by simp only [maxLen]; omega, by simp [cellsOf], by simp only [cellsOf, Nat.mul_one]; exact List.take_of_length_le (by simp)⟩⟩
/-- append of a text's bytes to such a slice. -/
theorem wp_append_text {P : Program} {t u e : TypeId} (ht : P.underlying t = some (.slice e)) (hu : P.underlying u = some .string) (hinfo : (P.info? e).map (fun i => (i.zero, i.size, i.bytes)) = some (some (.int .u8 0), 1, 1))
    {w : World} {ops : Array Oper} {rest : List Oper} {o : Oper} {a : Act} {Q : Exit → Act → World → Prop} (hgd : o.guard = none) (s x : Operand)
    (ho : o.op = .call { callee := .builtin .append, args := #[s, x], argTypes := #[t, u] }) (B : Nat) (v : Value) (xs : List UInt8) (hs : a.eval s = v) (hown : Own e B w v xs)
    (news : List UInt8) (hx : a.eval x = .string ⟨news.toArray⟩) (hl : xs.length + news.length ≤ 1099511627776) (hB : B ≤ w.heap.size)
    (h : ∀ v' w', Own e B w' v' (xs ++ news) → Below B w w' → wpList P ops Q rest (a.put o.dst v') w') : wpList P ops Q (o :: rest) a w := by
  obtain ⟨i0, hi, hz0, hz1, hz2⟩ := info_parts hinfo
  have hsz : (ByteArray.mk news.toArray).size = news.length := by simp [ByteArray.size]
  refine Lib.wpList_append_own_string w hgd s x t u ho B e i0 ht hu hi hz0 hz1 hz2 v xs.length _ hs hown ⟨news.toArray⟩ hx ?_ ?_ hB ?_
  · simp only [maxLen]; omega
  · omega
  · intro v' w' h1 h2 h3
    refine h v' w' ?_ (Below.grown (Below.refl _ _) h2 hB (fun k hk => (World.ownsRow.lt hown k hk).1))
    rw [hsz] at h1
    simpa [Own, List.map_append, Lib.strCells] using h1
theorem take_snoc (s : ByteArray) (k : Nat) (h : k < s.size) : s.data.toList.take (k + 1) = s.data.toList.take k ++ [s[k]] := by
  rw [List.take_succ_eq_append_getElem (by simpa using h)]; rfl
theorem take_all (s : ByteArray) (k : Nat) (h : s.size ≤ k) : s.data.toList.take k = s.data.toList := List.take_of_length_le (by simpa using h)
end Go.Proofs.YtcimhpdpfckgiaaDoor.kit
