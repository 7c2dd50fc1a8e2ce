/-
  Plain facts for the proofs of this seat, of no program: rows of bytes that a call owns, a list changed up to a place, what a rune's bytes are. Conditions: each theorem names its own.
-/
import Derived.WalkKit
import Derived.Deep.RegionHeld3
import Derived.KernelRfl
import Derived.ProofKit
import Derived.OpenShut
import Derived.ShutString
import Derived.Lib.Hide
import Derived.Lib.OthersKept
import Derived.Lib.ConvBytes
import Derived.Laws.IdiomStrings
import Derived.Lib.AppendStr
import Derived.Deep.RegionLaw
set_option linter.unusedVariables false
namespace Go.Proofs.YtcimhpdpfckgiaaGreatDoor.kit
theorem tkA {P : Program} {ops : Array Oper} {Q : Exit → Act → World → Prop} {md : Region.Mode} {S : World → Prop} (i : Nat) {oi : Oper} {v : Value} {fuel : Nat} {listed : Array Bool} {a : Act} {w : World}
 (h : wpAnyH P md ops Q S fuel (listed.setIfInBounds i true) (a.put oi.dst v) w) (hi : ops[i]? = some oi := by exact rfl) (hs : Region.noSelect ops = true := by kernel_rfl) (hf : Region.free md ops listed i = true := by kernel_rfl)
 (hr : (Region.ready md ops listed).contains i = true := by kernel_rfl) (hQ : ∀ c a w, Q (.panic c) (a.put oi.dst v) w → Q (.panic c) a w := by exact fun _ _ _ h => h) (hg : Region.wanted oi (yielded ops a.tmps) = true := by kernel_rfl)
 (hy : ∀ w, S w → (execOp a.eval oi).run P w = .ok (.value v) w := by intro w hSw; (try dsimp only at hSw); go_simp; (try with_reducible rfl)) (hS : S w := by assumption) : wpAnyH P md ops Q S (fuel + 1) listed a w :=
 wpAnyH_take hi hs hf hr hQ (.inl ⟨hg, hy⟩) hS h
theorem tvA {P : Program} {ops : Array Oper} {Q : Exit → Act → World → Prop} {md : Region.Mode} {S : World → Prop} (i : Nat) {oi : Oper} (v : Value) {fuel : Nat} {listed : Array Bool} {a : Act} {w : World}
 (hS : S w) (h : wpAnyH P md ops Q S fuel (listed.setIfInBounds i true) (a.put oi.dst v) w) (hi : ops[i]? = some oi := by exact rfl) (hs : Region.noSelect ops = true := by kernel_rfl) (hf : Region.free md ops listed i = true := by kernel_rfl)
 (hr : (Region.ready md ops listed).contains i = true := by kernel_rfl) (hQ : ∀ c a w, Q (.panic c) (a.put oi.dst v) w → Q (.panic c) a w := by exact fun _ _ _ h => h) (hg : Region.wanted oi (yielded ops a.tmps) = true := by kernel_rfl)
 (hy : ∀ w, S w → (execOp a.eval oi).run P w = .ok (.value v) w := by exact fun _ _ => by go_simp) : wpAnyH P md ops Q S (fuel + 1) listed a w :=
 wpAnyH_take hi hs hf hr hQ (.inl ⟨hg, hy⟩) hS h
theorem tuA {P : Program} {ops : Array Oper} {Q : Exit → Act → World → Prop} {md : Region.Mode} {S : World → Prop} (i : Nat) {oi : Oper} {fuel : Nat} {listed : Array Bool} {a : Act} {w : World}
 (h : wpAnyH P md ops Q S fuel (listed.setIfInBounds i true) (a.put oi.dst undef) w) (hi : ops[i]? = some oi := by exact rfl) (hs : Region.noSelect ops = true := by kernel_rfl) (hf : Region.free md ops listed i = true := by kernel_rfl)
 (hr : (Region.ready md ops listed).contains i = true := by kernel_rfl) (hQ : ∀ c a w, Q (.panic c) (a.put oi.dst undef) w → Q (.panic c) a w := by exact fun _ _ _ h => h) (hg : Region.wanted oi (yielded ops a.tmps) = false := by kernel_rfl)
 (hS : S w := by assumption) : wpAnyH P md ops Q S (fuel + 1) listed a w := wpAnyH_take hi hs hf hr hQ (.inr ⟨hg, rfl⟩) hS h
theorem rdA {P : Program} {ops : Array Oper} {Q : Exit → Act → World → Prop} {md : Region.Mode} {S : World → Prop} (i : Nat) {o : Oper} {fuel : Nat} {listed : Array Bool} {a : Act} {w : World}
 (h : ∀ K' : Act → World → Prop, Shut (∀ a w, S w → (S w → wpAnyH P md ops Q S fuel (listed.setIfInBounds i true) a w) → K' a w) → if Region.wanted o (yielded ops a.tmps) = true then Oper.wp P o a w K' Q else K' (a.put o.dst undef) w)
 (ho : ops[i]? = some o := by exact rfl) (hr : Region.ready md ops listed = [i] := by kernel_rfl) : wpAnyH P md ops Q S (fuel + 1) listed a w := wpAnyH_ready hr (by simp) (.cons ho h .nil)
theorem qd {p : Prop} (h : p) : Go.RowKit.Hid p := Lib.hid h
theorem cob {w w' : World} {a : Addr} (h : w'.heap[a.block]? = w.heap[a.block]?) : w'.cell? a = w.cell? a := World.cell?_of_block h
open Go.ChangeShapes Go.WideShapes Go.ChangeAt Go.RowKit
theorem ret_bool {a b : Bool} (h : a = b) : Ending.returned (.bool a) = .returned (.bool b) := by rw [h]
theorem ret_int {k : IntKind} {a b : Int} (h : a = b) : Ending.returned (.int k a) = .returned (.int k b) := by rw [h]
theorem ret_str {a b : ByteArray} (h : a = b) : Ending.returned (.string a) = .returned (.string b) := by rw [h]
theorem empty_of_size {s : ByteArray} (h : s.size = 0) : s.toList.isEmpty = true := by
 rw [ByteArray.toList_eq, List.isEmpty_iff_length_eq_zero]; simpa using h
theorem not_empty_of_size {s : ByteArray} (h : s.size ≠ 0) : s.toList.isEmpty = false := by
 rw [ByteArray.toList_eq, Bool.eq_false_iff, ne_eq, List.isEmpty_iff_length_eq_zero]; simpa using h
def Row (w : World) (g : Nat) (xs : List UInt8) : Prop :=
 ∀ (j : Nat) (h : j < xs.length), w.cell? ⟨g, j, none⟩ = some (.int .u8 xs[j].toNat) ∧ w.frozen? ⟨g, j, none⟩ = false
theorem Row.store {w : World} {g : Nat} {xs : List UInt8} (h : Row w g xs) (k : Nat) (hk : k < xs.length) (c : UInt8) :
 Row (w.setCell ⟨g, k, none⟩ (.int .u8 c.toNat)) g (xs.set k c) := by
 intro j hj
 have hj' : j < xs.length := by simpa using hj
 refine ⟨?_, by rw [World.frozen?_setCell]; exact (h j hj').2⟩
 by_cases e : k = j
 · subst e
   rw [World.cell?_setCell_same w _ _ (h k hk).1]; simp
 · rw [World.cell?_setCell_other w _ _ _ (by intro x; injection x; omega), (h j hj').1]
   simp [e]
theorem Row.of_block {w w' : World} {g : Nat} {xs : List UInt8} (h : Row w g xs) (e : w'.heap[g]? = w.heap[g]?) : Row w' g xs := by
 intro j hj
 obtain ⟨a, b⟩ := h j hj
 exact ⟨by rw [cob (w := w) e]; exact a, by rw [World.frozen?_of_block (w := w) e]; exact b⟩
theorem Row.back {P : Program} {w : World} {g : Nat} {xs : List UInt8} (h : Row w g xs) (src dst e : TypeId) (cap n : Nat) (hn : n = xs.length) (hs : P.underlying src = some (.slice e)) (he : P.underlying e = some (.int .u8)) (hd : P.underlying dst = some .string) :
 (convert src dst (.slice (some ⟨g, 0, none⟩) n cap)).run P w = .ok (.string ⟨xs.toArray⟩) w := by
 subst hn
 refine run_convert_bytes_back w src dst e ⟨g, 0, none⟩ cap xs hs he hd fun j hj => ?_
 have : (⟨g, 0, none⟩ : Addr).add j = ⟨g, j, none⟩ := by unfold Addr.add; split <;> simp_all
 rw [this]; exact (h j hj).1
def Own (e : TypeId) (B : Nat) (w : World) (v : Value) (xs : List UInt8) : Prop := w.ownsRow B e 1 v xs.length (xs.map fun c => .int .u8 (c.toNat : Int))
theorem own_start {e : TypeId} {B : Nat} {w : World} (hB : B ≤ w.heap.size) : Own e B (w.alloc (.cells #[] e)) (.slice (some ⟨w.heap.size, 0, none⟩) 0 0) [] :=
 World.ownsRow_made w #[] 0 hB (by simp [maxLen]) rfl
theorem Own.alloc {e : TypeId} {B : Nat} {w : World} {v : Value} {xs : List UInt8} (h : Own e B w v xs) (o : Obj) : Own e B (w.alloc o) v xs := World.ownsRow.alloc h o
theorem Own.kept {e : TypeId} {B B' : Nat} {w w' : World} {v : Value} {xs : List UInt8} (h : Own e B w v xs) (hb : Below w.heap.size w w') : Own e B w' v xs :=
 World.ownsRow.kept h ⟨hb.os, hb.tape, hb.output, hb.size, fun k hk _ => hb.block k hk⟩ (row := none) (by cases v.ownBlock <;> simp)
theorem Own.is_slice {e : TypeId} {B : Nat} {w : World} {v : Value} {xs : List UInt8} (h : Own e B w v xs) : (v = .slice none 0 0 ∧ xs = []) ∨ ∃ g cap, v = .slice (some ⟨g, 0, none⟩) xs.length cap ∧ B ≤ g ∧ g < w.heap.size := by
 rcases h.2 with ⟨rfl, h0⟩ | ⟨g, cap, cur, rfl, hb, hg, _⟩
 · exact .inl ⟨rfl, List.length_eq_zero_iff.1 h0⟩
 · exact .inr ⟨g, cap, rfl, hb, (Array.getElem?_eq_some_iff.1 hg).1⟩
theorem Own.back {P : Program} {e : TypeId} {B : Nat} {w : World} {v : Value} {xs : List UInt8} (h : Own e B w v xs) (src dst : TypeId) (hs : P.underlying src = some (.slice e)) (he : P.underlying e = some (.int .u8)) (hd : P.underlying dst = some .string) :
 (convert src dst v).run P w = .ok (.string ⟨xs.toArray⟩) w := by
 rcases h.is_slice with ⟨rfl, rfl⟩ | ⟨g, cap, rfl, _⟩
 · rw [run_convert_bytes_nil w src e hs he 0 0 dst hd]; rfl
 · refine run_convert_bytes_back w src dst e ⟨g, 0, none⟩ cap xs hs he hd fun j hj => ?_
   exact World.ownsRow.cells h rfl j _ (by simp [hj])
theorem wp_append_bytes {P : Program} {t e : TypeId} (ht : P.underlying t = some (.slice e)) (hinfo : (P.info? e).map (fun i => (i.zero, i.size, i.bytes)) = some (some (.int .u8 0), 1, 1))
 {w : World} {ops : Array Oper} {rest : List Oper} {o : Oper} {a : Act} {Q : Exit → Act → World → Prop} (hgd : o.guard = none) (s x : Operand)
 (ho : o.op = .call { callee := .builtin .append, args := #[s, x], argTypes := #[t, t] }) (B : Nat) (v : Value) (xs : List UInt8) (hs : a.eval s = v) (hown : Own e B w v xs)
 (ad : Addr) (c m : Nat) (news : List UInt8) (hm : m = news.length) (hx : a.eval x = .slice (some ad) m c) (hnews : ∀ (j : Nat) (h : j < news.length), w.cell? (ad.add j) = some (.int .u8 (news[j].toNat : Int)))
 (hl : xs.length + news.length ≤ 1099511627776) (hB : B ≤ w.heap.size)
 (h : ∀ v' w', Own e B w' v' (xs ++ news) → Below B w w' → wpList P ops Q rest (a.put o.dst v') w') : wpList P ops Q (o :: rest) a w := by
 obtain ⟨i0, hi, hz0, hz1, hz2⟩ := info_parts hinfo
 subst hm
 refine wpList_append_own _ hgd s x t ho B e i0 (.int .u8 0) 1 1 ht hi hz0 hz1 hz2 rfl (by decide) v xs.length _ hs hown ad news.length c (news.map fun c => .int .u8 (c.toNat : Int)) hx (by simp) ?_ ?_ ?_ ?_ hB ?_
 · intro j u hu
   rw [List.getElem?_map] at hu
   cases hj : news[j]? with
   | none => simp [hj] at hu
   | some c =>
     obtain ⟨hjl, hjc⟩ := List.getElem?_eq_some_iff.1 hj
     rw [hnews j hjl, hjc]; simpa [hj] using hu
 · intro u hu; simp at hu; obtain ⟨c, _, rfl⟩ := hu; rfl
 · simp only [maxLen]; omega
 · omega
 · intro v' w' h1 h2 h3
   refine h v' w' ?_ (Below.grown (Below.refl _ _) h2 hB (fun k hk => (World.ownsRow.lt hown k hk).1))
   simpa [Own, List.map_append] using h1
theorem Own.drew {e : TypeId} {B : Nat} {w : World} {v : Value} {xs : List UInt8} (h : Own e B w v xs) : Own e B w.drew v xs := World.ownsRow.drew h
theorem cell_one (w : World) (v : Value) (t : TypeId) : (w.alloc (.cells #[v] t)).cell? ⟨w.heap.size, 0, none⟩ = some v := by
 rw [World.cell?_alloc_at _ _ _ _ rfl]; rfl
theorem news_one (w : World) (c : UInt8) (t : TypeId) : ∀ (j : Nat) (h : j < [c].length), (w.alloc (.cells #[.int .u8 (c.toNat : Int)] t)).cell? ((⟨w.heap.size, 0, none⟩ : Addr).add j) = some (.int .u8 (([c][j]).toNat : Int)) := by
 intro j h
 obtain rfl : j = 0 := by simpa using h
 exact cell_one w _ t
def cellsOf (l : List UInt8) : List Value := l.map fun c => .int .u8 (c.toNat : Int)
theorem news_lit (w : World) (t : TypeId) (l : List UInt8) (cs : List Value) (h : cs = cellsOf l) : ∀ (j : Nat) (hj : j < l.length), (w.alloc (.cells cs.toArray t)).cell? ((⟨w.heap.size, 0, none⟩ : Addr).add j) = some (.int .u8 ((l[j]).toNat : Int)) := by
 intro j hj
 subst h
 have hadd : (⟨w.heap.size, 0, none⟩ : Addr).add j = ⟨w.heap.size, j, none⟩ := by unfold Addr.add; split <;> simp_all
 rw [hadd, World.cell?_alloc_at _ _ _ _ rfl]
 simp [cellsOf, hj]
theorem back_lit {P : Program} {src dst e : TypeId} (hs : P.underlying src = some (.slice e)) (he : P.underlying e = some (.int .u8)) (hd : P.underlying dst = some .string) (l : List UInt8) (cs : List Value) (h : cs = cellsOf l) (n c : Nat) (hn : n = l.length) (W : World) :
 (convert src dst (.slice (some ⟨W.heap.size, 0, none⟩) n c)).run P (W.alloc (.cells cs.toArray e)) = .ok (.string ⟨l.toArray⟩) (W.alloc (.cells cs.toArray e)) := by
 subst hn
 exact run_convert_bytes_back _ src dst e _ c l hs he hd (news_lit W e l cs h)
theorem take_snoc (s : ByteArray) (k : Nat) (h : k < s.size) : s.data.toList.take (k + 1) = s.data.toList.take k ++ [s[k]] := by
 rw [List.take_succ_eq_append_getElem (by simpa using h)]; rfl
theorem take_all (s : ByteArray) (k : Nat) (h : s.size ≤ k) : s.data.toList.take k = s.data.toList := List.take_of_length_le (by simpa using h)
theorem nmA : (∀ {α : Type} {xs : List α} {i : Nat} (h : i < xs.toArray.size), xs.toArray[i] = xs[i]'(by simpa using h)) ∧ (∀ {α : Type} {a : α} {as' : List α} (h : 0 < (a :: as').length), (a :: as')[0] = a) ∧ (∀ {α : Type} {a : α} {as' : List α} {i : Nat} (h : i + 1 < (a :: as').length), (a :: as')[i + 1] = as'[i]'(by simpa using h)) ∧
 (∀ {α : Type} (l : List α) (i : Nat) (a : α), l.toArray.setIfInBounds i a = (l.set i a).toArray) ∧ (∀ {α : Type} (x : α) (xs : List α) (a : α), (x :: xs).set 0 a = a :: xs) ∧ (∀ {α : Type} (x : α) (xs : List α) (i : Nat) (a : α), (x :: xs).set (i + 1) a = x :: xs.set i a) :=
 ⟨fun h => by simp, fun h => by simp, fun h => by simp, fun l i a => by simp, fun x xs a => rfl, fun x xs i a => rfl⟩
end Go.Proofs.YtcimhpdpfckgiaaGreatDoor.kit
namespace Go.Proofs.YtcimhpdpfckgiaaGreatDoor.kit
open Go.ChangeShapes Go.WideShapes Go.ChangeAt Go.RowKit
inductive RT where
 | node (k : Int) (s : ByteArray) (n : Bool) (lo hi : Int) (kids : List RT)
namespace RT
def kind : RT → Int | node k _ _ _ _ _ => k
def set : RT → ByteArray | node _ s _ _ _ _ => s
def neg : RT → Bool | node _ _ n _ _ _ => n
def low : RT → Int | node _ _ _ lo _ _ => lo
def high : RT → Int | node _ _ _ _ hi _ => hi
def kids : RT → List RT | node _ _ _ _ _ ts => ts
mutual
def sz : RT → Nat | node _ _ _ _ _ ts => 1 + szs ts
def szs : List RT → Nat | [] => 0 | t :: ts => sz t + szs ts
end
theorem sz_mem : ∀ (ts : List RT) (t : RT), t ∈ ts → sz t ≤ szs ts
 | [], _, h => by cases h
 | a :: ts, t, h => by
   simp only [szs]
   rcases List.mem_cons.1 h with rfl | h
   · omega
   · have := sz_mem ts t h; omega
theorem sz_kid (t u : RT) (h : u ∈ t.kids) : sz u < sz t := by
 cases t; simp only [sz, kids] at *; have := sz_mem _ _ h; omega
theorem sz_pos (t : RT) : 0 < sz t := by cases t; simp only [sz]; omega
mutual
/-- What a tree costs a law's counter. -/
def cost : RT → Nat | node _ s _ _ _ ts => s.size + costs ts + ts.length
def costs : List RT → Nat | [] => 0 | t :: ts => cost t + costs ts
end
def asc : List UInt8 → Bool
 | a :: b :: l => decide (a.toNat < b.toNat) && asc (b :: l)
 | _ => true
def own (t : RT) : Bool :=
 let free := t.low == 0 && t.high == 0
 let none := t.set.data.toList.isEmpty && !t.neg
 if t.kind = 0 ∨ t.kind = 1 ∨ t.kind = 6 ∨ t.kind = 7 then free && none && t.kids.length == 0
 else if t.kind = 2 then free && (asc t.set.data.toList && !t.set.data.toList.isEmpty) && t.kids.length == 0
 else if t.kind = 3 ∨ t.kind = 4 then free && none && t.kids.length == 2
 else if t.kind = 5 then none && t.kids.length == 1 && decide (0 ≤ t.low) && decide (t.low ≤ 9) && (t.high == -1 || decide (t.low ≤ t.high) && decide (t.high ≤ 9))
 else false
mutual
def right : RT → Int → Int → Option Int
 | node k s n lo hi ts, deep, left => if deep < 0 ∨ left ≤ 0 ∨ own (node k s n lo hi ts) = false then none else rights ts 0 deep left 1
def rights : List RT → Nat → Int → Int → Int → Option Int
 | [], _, _, _, n => some n
 | t :: ts, i, deep, left, n => match right t (if i = 1 then deep else deep - 1) (left - n) with
   | none => none
   | some k => rights ts (i + 1) deep left (n + k)
end
mutual
def pl : RT → Int → Int → Int
 | node k s n lo hi ts, deep, left => if left = 0 ∨ 12 < deep ∨ own (node k s n lo hi ts) = false then -1 else pls ts 0 deep (left - 1)
def pls : List RT → Nat → Int → Int → Int
 | [], _, _, left => left
 | t :: ts, i, deep, left => if pl t (if i = 0 then deep + 1 else deep) left < 0 then -1 else pls ts (i + 1) deep (pl t (if i = 0 then deep + 1 else deep) left)
end
theorem asc_ge : ∀ (l : List UInt8) (a : UInt8), asc (a :: l) = true → a.toNat + l.length ≤ 255
 | [], a, _ => by have := a.toNat_lt; simp; omega
 | b :: l, a, h => by
   simp only [asc, Bool.and_eq_true, decide_eq_true_eq] at h
   have := asc_ge l b h.2
   simp only [List.length_cons]; omega
theorem asc_len (l : List UInt8) (h : asc l = true) : l.length ≤ 256 := by
 cases l with
 | nil => simp
 | cons a l => have := asc_ge l a h; simp only [List.length_cons]; omega
theorem own_kids (t : RT) (h : own t = true) : t.kids.length ≤ 2 := by
 simp only [own] at h
 split at h
 · simp at h; simp [h.2]
 · split at h
   · simp at h; simp [h.2]
   · split at h
     · simp at h; simp [h.2]
     · split at h
       · simp at h; omega
       · cases h
def Said (o : Option Int) (l left : Int) : Prop := (o = none ∧ l = -1) ∨ ∃ k, o = some k ∧ 1 ≤ k ∧ k ≤ left ∧ l = left - k
theorem said : ∀ (N : Nat) (t : RT), sz t ≤ N → ∀ (deep left : Int), 0 ≤ left → Said (right t (12 - deep) left) (pl t deep left) left := by
 intro N
 induction N with
 | zero => intro t h; have := sz_pos t; omega
 | succ N ih =>
   intro t hN deep left hl
   obtain ⟨k, s, n, lo, hi, ts⟩ := t
   rw [right, pl]
   by_cases c : left = 0 ∨ 12 < deep ∨ own (node k s n lo hi ts) = false
   · have c' : 12 - deep < 0 ∨ left ≤ 0 ∨ own (node k s n lo hi ts) = false := by
        rcases c with c | c | c
        · exact .inr (.inl (by omega))
        · exact .inl (by omega)
        · exact .inr (.inr c)
     rw [if_pos c, if_pos c']; exact .inl ⟨rfl, rfl⟩
   · have c' : ¬(12 - deep < 0 ∨ left ≤ 0 ∨ own (node k s n lo hi ts) = false) := by
        rintro (d | d | d)
        · exact c (.inr (.inl (by omega)))
        · exact c (.inl (by omega))
        · exact c (.inr (.inr d))
     rw [if_neg c, if_neg c']
     have hown : own (node k s n lo hi ts) = true := by cases h : own (node k s n lo hi ts) <;> simp_all
     have hk := own_kids _ hown
     simp only [kids] at hk
     have hsz : ∀ u ∈ ts, sz u ≤ N := fun u hu => by have := sz_kid (node k s n lo hi ts) u hu; omega
     match ts, hk with
     | [], _ => exact .inr ⟨1, rfl, by omega, by omega, rfl⟩
     | [a], _ =>
       have h0 := ih a (hsz a (by simp)) (deep + 1) (left - 1) (by omega)
       rw [show (12 : Int) - (deep + 1) = 12 - deep - 1 by omega] at h0
       rcases h0 with ⟨h1, h2⟩ | ⟨k1, h1, h2, h3, h4⟩
       · simp [rights, pls, h1, h2, Said]
       · refine .inr ⟨1 + k1, by simp [rights, h1], by omega, by omega, ?_⟩
         have : ¬ (left - 1 - k1 < 0) := by omega
         simp [pls, h4, this]; omega
     | [a, b], _ =>
       have h0 := ih a (hsz a (by simp)) (deep + 1) (left - 1) (by omega)
       rw [show (12 : Int) - (deep + 1) = 12 - deep - 1 by omega] at h0
       rcases h0 with ⟨h1, h2⟩ | ⟨k1, h1, h2, h3, h4⟩
       · simp [rights, pls, h1, h2, Said]
       · have g0 := ih b (hsz b (by simp)) deep (left - 1 - k1) (by omega)
         rw [show left - 1 - k1 = left - (1 + k1) by omega] at g0
         have q : ¬ (left - 1 - k1 < 0) := by omega
         have q' : ¬ (left - (1 + k1) < 0) := by omega
         rcases g0 with ⟨g1, g2⟩ | ⟨k2, g1, g2, g3, g4⟩
         · left
           rw [show left - (1 + k1) = left - 1 - k1 by omega] at g2
           refine ⟨by simp [rights, h1, g1], ?_⟩
           simp [pls, h4, q, g2]
         · refine .inr ⟨1 + k1 + k2, by simp [rights, h1, g1], by omega, by omega, ?_⟩
           rw [show left - (1 + k1) = left - 1 - k1 by omega] at g4
           have q2 : ¬ (left - 1 - k1 - k2 < 0) := by omega
           simp [pls, h4, q, g4, q2]; omega
def ok (t : RT) : Bool := decide (0 ≤ pl t 0 200)
theorem right_ok (t : RT) : (right t 12 200).isSome = ok t := by
 have := said (sz t) t (Nat.le_refl _) 0 200 (by omega)
 simp only [Int.sub_zero] at this
 rcases this with ⟨h1, h2⟩ | ⟨k, h1, h2, h3, h4⟩
 · simp [ok, h1, h2]
 · simp [ok, h1, h4]; omega
end RT
theorem bcellR {W w1 : World} (hb : Below W.heap.size W w1) : (∀ b o, b < W.heap.size → w1.cell? ⟨b, o, none⟩ = W.cell? ⟨b, o, none⟩) ∧ (∀ b o, b < W.heap.size → w1.frozen? ⟨b, o, none⟩ = W.frozen? ⟨b, o, none⟩) :=
 ⟨fun b o h => hb.cell (p := ⟨b, o, none⟩) h, fun b o h => hb.frozen (p := ⟨b, o, none⟩) h⟩
def reV (t : RT) (a : Option Addr) (cap : Nat) : Value := .agg #[.int .i64 t.kind, .string t.set, .bool t.neg, .int .i64 t.low, .int .i64 t.high, .slice a t.kids.length cap]
def ElemAt (B : Nat) (w : World) (a : Option Addr) (i : Nat) (u : RT) (a' : Option Addr) (cap' : Nat) : Prop :=
 ∃ b o, a = some ⟨b, o, none⟩ ∧ B ≤ b ∧ b < w.heap.size ∧ w.cell? ⟨b, o + i * 6, none⟩ = some (.int .i64 u.kind) ∧ w.cell? ⟨b, o + i * 6 + 1, none⟩ = some (.string u.set) ∧ w.cell? ⟨b, o + i * 6 + 2, none⟩ = some (.bool u.neg) ∧
   w.cell? ⟨b, o + i * 6 + 3, none⟩ = some (.int .i64 u.low) ∧ w.cell? ⟨b, o + i * 6 + 4, none⟩ = some (.int .i64 u.high) ∧ w.cell? ⟨b, o + i * 6 + 5, none⟩ = some (.slice a' u.kids.length cap') ∧ u.set.size ≤ maxLen ∧ u.kids.length ≤ maxLen
theorem ElemAt.of {B : Nat} {w w' : World} {a : Option Addr} {i : Nat} {u : RT} {a' : Option Addr} {cap' : Nat} (h : ElemAt B w a i u a' cap') (hs : w.heap.size ≤ w'.heap.size)
 (hc : ∀ b o, B ≤ b → b < w.heap.size → w'.cell? ⟨b, o, none⟩ = w.cell? ⟨b, o, none⟩) : ElemAt B w' a i u a' cap' := by
 obtain ⟨b, o, e, h0, h1, c0, c1, c2, c3, c4, c5, f0, f1⟩ := h
 exact ⟨b, o, e, h0, Nat.lt_of_lt_of_le h1 hs, (hc _ _ h0 h1).trans c0, (hc _ _ h0 h1).trans c1, (hc _ _ h0 h1).trans c2, (hc _ _ h0 h1).trans c3, (hc _ _ h0 h1).trans c4, (hc _ _ h0 h1).trans c5, f0, f1⟩
theorem ElemAt.mono {B B' : Nat} {w : World} {a : Option Addr} {i : Nat} {u : RT} {a' : Option Addr} {cap' : Nat} (h : ElemAt B w a i u a' cap') (hB : B' ≤ B) : ElemAt B' w a i u a' cap' := by
 obtain ⟨b, o, e, h0, r⟩ := h
 exact ⟨b, o, e, Nat.le_trans hB h0, r⟩
inductive Kids (B : Nat) (w : World) : List RT → Option Addr → Prop
 | mk (ts : List RT) (a : Option Addr) (A : Nat → Option Addr) (C : Nat → Nat) (h : ∀ i (hi : i < ts.length), ElemAt B w a i ts[i] (A i) (C i)) (hk : ∀ i (hi : i < ts.length), Kids B w ts[i].kids (A i)) : Kids B w ts a
theorem Kids.of {B : Nat} {w w' : World} {ts : List RT} {a : Option Addr} (h : Kids B w ts a) (hs : w.heap.size ≤ w'.heap.size)
 (hc : ∀ b o, B ≤ b → b < w.heap.size → w'.cell? ⟨b, o, none⟩ = w.cell? ⟨b, o, none⟩) : Kids B w' ts a := by
 induction h with
 | mk ts a A C h hk ih => exact .mk ts a A C (fun i hi => (h i hi).of hs hc) (fun i hi => ih i hi)
theorem Kids.mono {B B' : Nat} {w : World} {ts : List RT} {a : Option Addr} (h : Kids B w ts a) (hB : B' ≤ B) : Kids B' w ts a := by
 induction h with
 | mk ts a A C h hk ih => exact .mk ts a A C (fun i hi => (h i hi).mono hB) (fun i hi => ih i hi)
theorem Kids.kept {B C : Nat} {w w' : World} {ts : List RT} {a : Option Addr} (h : Kids B w ts a) (hC : w.heap.size ≤ C) (hb : Below C w w') : Kids B w' ts a :=
 h.of hb.size fun b o _ hl => hb.cell (p := ⟨b, o, none⟩) (Nat.lt_of_lt_of_le hl hC)
theorem Kids.alloc {B : Nat} {w : World} {ts : List RT} {a : Option Addr} (h : Kids B w ts a) (o : Obj) : Kids B (w.alloc o) ts a :=
 h.kept (Nat.le_refl _) ((Below.refl _ _).alloc (Nat.le_refl _) _)
theorem Kids.drew {B : Nat} {w : World} {ts : List RT} {a : Option Addr} (h : Kids B w ts a) : Kids B w.drew ts a := h.of (Nat.le_refl _) fun _ _ _ _ => rfl
theorem Kids.set {B : Nat} {w : World} {ts : List RT} {a : Option Addr} (h : Kids B w ts a) (g j : Nat) (hg : g < B) (v : Value) : Kids B (w.setCell ⟨g, j, none⟩ v) ts a :=
 h.of (by simp) fun b o hb _ => World.cell?_setCell_other w _ _ _ (by intro x; injection x; omega)
theorem Kids.elem {B : Nat} {w : World} {ts : List RT} {a : Option Addr} (h : Kids B w ts a) (i : Nat) (hi : i < ts.length) : ∃ a' cap', ElemAt B w a i ts[i] a' cap' ∧ Kids B w ts[i].kids a' := by
 cases h with
 | mk _ _ A C h hk => exact ⟨_, _, h i hi, hk i hi⟩
theorem Kids.nil (B : Nat) (w : World) (a : Option Addr) : Kids B w [] a := .mk [] a (fun _ => none) (fun _ => 0) (fun i hi => by simp at hi) (fun i hi => by simp at hi)
namespace RT
def bill (ts : List RT) : Nat := ts.length + costs ts
theorem cost_eq (t : RT) : cost t = t.set.size + bill t.kids := by cases t; simp only [cost, set, kids, bill]; omega
theorem costs_take (ts : List RT) (i : Nat) (h : i < ts.length) : costs (ts.take (i + 1)) = costs (ts.take i) + cost ts[i] := by
 induction ts generalizing i with
 | nil => simp at h
 | cons t ts ih =>
   cases i with
   | zero => simp [costs]
   | succ i => simp only [List.take_succ_cons, costs, List.getElem_cons_succ, ih i (by simpa using h)]; omega
theorem costs_le (ts : List RT) (i : Nat) : costs (ts.take i) ≤ costs ts := by
 induction ts generalizing i with
 | nil => simp [costs]
 | cons t ts ih => cases i with
   | zero => simp [costs]
   | succ i => simp only [List.take_succ_cons, costs]; have := ih i; omega
end RT
end Go.Proofs.YtcimhpdpfckgiaaGreatDoor.kit
namespace Go.Proofs.YtcimhpdpfckgiaaGreatDoor.kit
def itN (g : Nat → Nat) : Nat → Nat → Nat
 | 0, x => x
 | t + 1, x => itN g t (g x)
theorem itN_add (g : Nat → Nat) (s t x : Nat) : itN g (s + t) x = itN g t (itN g s x) := by
 induction s generalizing x with
 | zero => simp [itN]
 | succ s ih => rw [show s + 1 + t = (s + t) + 1 by omega, itN, itN]; exact ih _
def ac (a c M : Nat) : Nat → Nat × Nat
 | 0 => (a, c)
 | k + 1 => ((ac a c M k).1 * (ac a c M k).1 % M, ((ac a c M k).1 * (ac a c M k).2 + (ac a c M k).2) % M)
theorem twice (M a c x : Nat) : (a * ((a * x + c) % M) + c) % M = ((a * a % M) * x + (a * c + c) % M) % M := by
 have h1 : (a * ((a * x + c) % M) + c) % M = (a * (a * x + c) + c) % M := by
  rw [Nat.add_mod, Nat.mul_mod, Nat.mod_mod, ← Nat.mul_mod, ← Nat.add_mod]
 have h2 : ((a * a % M) * x + (a * c + c) % M) % M = (a * a * x + (a * c + c)) % M := by
  rw [Nat.add_mod, Nat.mod_mod, Nat.mul_mod, Nat.mod_mod, ← Nat.mul_mod, ← Nat.add_mod]
 rw [h1, h2]
 congr 1
 rw [Nat.mul_add, Nat.mul_assoc, Nat.add_assoc]
theorem ac_step {g : Nat → Nat} {a c M : Nat} (hg : ∀ x, g x = (a * x + c) % M) (k : Nat) : ∀ x, itN g (2 ^ k) x = ((ac a c M k).1 * x + (ac a c M k).2) % M := by
 induction k with
 | zero => intro x; rw [Nat.pow_zero, itN, itN, hg, ac]
 | succ k ih =>
   intro x
   rw [show 2 ^ (k + 1) = 2 ^ k + 2 ^ k by rw [Nat.pow_succ]; omega, itN_add, ih, ih, twice, ac]
def AcOk (a c M k : Nat) : Prop := (ac a c M k).1 % 2 ^ (k + 1) = 1 % 2 ^ (k + 1) ∧ (ac a c M k).2 % 2 ^ (k + 1) = 2 ^ k ∧ M % 2 ^ (k + 1) = 0
theorem jump {g : Nat → Nat} {a c M : Nat} (hg : ∀ x, g x = (a * x + c) % M) (k : Nat) (h : AcOk a c M k) (x : Nat) : itN g (2 ^ k) x % 2 ^ (k + 1) = (x + 2 ^ k) % 2 ^ (k + 1) := by
 obtain ⟨h1, h2, h3⟩ := h
 have hd : 2 ^ (k + 1) ∣ M := Nat.dvd_of_mod_eq_zero h3
 rw [ac_step hg, Nat.mod_mod_of_dvd _ hd, Nat.add_mod, Nat.mul_mod, h1, ← Nat.mul_mod, Nat.one_mul, h2, Nat.add_mod, Nat.mod_mod, ← Nat.add_mod]
def acB (k : Nat) : Bool := (ac 6364136223846793005 1442695040888963407 18446744073709551616 k).1 % 2 ^ (k + 1) == 1 % 2 ^ (k + 1) && (ac 6364136223846793005 1442695040888963407 18446744073709551616 k).2 % 2 ^ (k + 1) == 2 ^ k && 18446744073709551616 % 2 ^ (k + 1) == 0
theorem acAll : (List.range 64).all acB = true := by decide +kernel
structure Seq64 (g : Nat → Nat) (M : Nat) : Prop where
 rule : ∀ x, g x = (6364136223846793005 * x + 1442695040888963407) % M
 big : M = 18446744073709551616
theorem Seq64.ok {g : Nat → Nat} {M : Nat} (h : Seq64 g M) (k : Nat) (hk : k < 64) : AcOk 6364136223846793005 1442695040888963407 M k := by
 have h1 := acAll
 rw [List.all_eq_true] at h1
 have h2 := h1 k (by simp [hk])
 rw [h.big]
 simp only [acB, Bool.and_eq_true, beq_iff_eq] at h2
 exact ⟨h2.1.1, h2.1.2, h2.2⟩
theorem Seq64.lt {g : Nat → Nat} {M : Nat} (h : Seq64 g M) (x : Nat) : g x < M := by
 rw [h.rule]; exact Nat.mod_lt _ (by rw [h.big]; omega)
end Go.Proofs.YtcimhpdpfckgiaaGreatDoor.kit
namespace Go.Proofs.YtcimhpdpfckgiaaGreatDoor.kit
open Go.ChangeShapes Go.WideShapes Go.ChangeAt Go.RowKit
def cs (p : UInt8 → Bool) (l : List UInt8) : Nat → List (List UInt8) × Nat
 | 0 => ([], 0)
 | k + 1 => if p (l.getD k 0) then ((cs p l k).1 ++ [(l.take k).drop (cs p l k).2], k + 1) else cs p l k
def eS (l : List UInt8) : Value := .string ⟨l.toArray⟩
def OwnS (e : TypeId) (B : Nat) (w : World) (v : Value) (xs : List (List UInt8)) : Prop := w.ownsRow B e 1 v xs.length (xs.map eS)
theorem OwnS.alloc {e : TypeId} {B : Nat} {w : World} {v : Value} {xs : List (List UInt8)} (h : OwnS e B w v xs) (o : Obj) : OwnS e B (w.alloc o) v xs := World.ownsRow.alloc h o
theorem OwnS.drew {e : TypeId} {B : Nat} {w : World} {v : Value} {xs : List (List UInt8)} (h : OwnS e B w v xs) : OwnS e B w.drew v xs := World.ownsRow.drew h
theorem OwnS.kept {e : TypeId} {B : Nat} {w w' : World} {v : Value} {xs : List (List UInt8)} (h : OwnS e B w v xs) (hb : Below w.heap.size w w') : OwnS e B w' v xs :=
 World.ownsRow.kept h ⟨hb.os, hb.tape, hb.output, hb.size, fun k hk _ => hb.block k hk⟩ (row := none) (by cases v.ownBlock <;> simp)
theorem OwnS.mono {e : TypeId} {B B' : Nat} {w : World} {v : Value} {xs : List (List UInt8)} (h : OwnS e B w v xs) (hB : B' ≤ B) : OwnS e B' w v xs := by
 refine ⟨h.1, ?_⟩
 rcases h.2 with h0 | ⟨g, cap, cur, a, b, c⟩
 · exact .inl h0
 · exact .inr ⟨g, cap, cur, a, Nat.le_trans hB b, c⟩
theorem extract_drop (s : ByteArray) (i j : Nat) : s.extract i j = ⟨((s.data.toList.take j).drop i).toArray⟩ := by
 obtain ⟨⟨l⟩⟩ := s
 rw [show (⟨⟨l⟩⟩ : ByteArray) = ByteArray.mk l.toArray from rfl, ByteArray.extract_mk, List.take_drop, List.drop_take, List.drop_take]
 congr 3
 omega
theorem getD_at (s : ByteArray) (k : Nat) (h : k < s.size) : s[k] = s.data.toList.getD k 0 := by
 have hl : k < s.data.toList.length := by simpa using h
 show s.data.toList[k] = _
 rw [List.getD_eq_getElem?_getD, List.getElem?_eq_getElem hl]; rfl
end Go.Proofs.YtcimhpdpfckgiaaGreatDoor.kit
namespace Go.Proofs.YtcimhpdpfckgiaaGreatDoor.kit
open Go.ChangeShapes Go.WideShapes Go.ChangeAt Go.RowKit
def rpow (R : Nat → Nat → Prop) : Nat → Nat → Nat → Prop
 | 0 => fun i j => i = j
 | n + 1 => fun i j => ∃ k, rpow R n i k ∧ R k j
theorem rpow_add (R : Nat → Nat → Prop) (n : Nat) : ∀ (m i j : Nat), rpow R (n + m) i j ↔ ∃ k, rpow R n i k ∧ rpow R m k j
 | 0, i, j => by simp [rpow]
 | m + 1, i, j => by
   show (∃ k, rpow R (n + m) i k ∧ R k j) ↔ _
   constructor
   · rintro ⟨k, h1, h2⟩
     obtain ⟨l, h3, h4⟩ := (rpow_add R n m i k).1 h1
     exact ⟨l, h3, k, h4, h2⟩
   · rintro ⟨l, h3, k, h4, h2⟩
     exact ⟨k, (rpow_add R n m i k).2 ⟨l, h3, h4⟩, h2⟩
theorem rpow_one (R : Nat → Nat → Prop) (i j : Nat) : rpow R 1 i j ↔ R i j := by simp [rpow]
theorem rpow_front (R : Nat → Nat → Prop) (n i j : Nat) : rpow R (n + 1) i j ↔ ∃ k, R i k ∧ rpow R n k j := by
 rw [Nat.add_comm, rpow_add]
 simp only [rpow_one]
def img (R : Nat → Nat → Prop) (P : Nat → Prop) (j : Nat) : Prop := ∃ i, P i ∧ R i j
theorem img_pow_succ (R : Nat → Nat → Prop) (P : Nat → Prop) (n j : Nat) : img (rpow R (n + 1)) P j ↔ img R (img (rpow R n) P) j := by
 unfold img
 constructor
 · rintro ⟨i, h, k, h1, h2⟩; exact ⟨k, ⟨i, h, h1⟩, h2⟩
 · rintro ⟨k, ⟨i, h, h1⟩, h2⟩; exact ⟨i, h, k, h1, h2⟩
theorem img_pow_add (R : Nat → Nat → Prop) (P : Nat → Prop) (n m j : Nat) : img (rpow R (n + m)) P j ↔ img (rpow R m) (img (rpow R n) P) j := by
 unfold img
 constructor
 · rintro ⟨i, h, hr⟩
   obtain ⟨k, h1, h2⟩ := (rpow_add R n m i j).1 hr
   exact ⟨k, ⟨i, h, h1⟩, h2⟩
 · rintro ⟨k, ⟨i, h, h1⟩, h2⟩; exact ⟨i, h, (rpow_add R n m i j).2 ⟨k, h1, h2⟩⟩
def often (R : Nat → Nat → Prop) (lo hi : Int) (i j : Nat) : Prop := ∃ n : Nat, lo ≤ n ∧ (hi < 0 ∨ (n : Int) ≤ hi) ∧ rpow R n i j
def upto (R : Nat → Nat → Prop) (P : Nat → Prop) (lo : Int) (m j : Nat) : Prop := ∃ n : Nat, lo ≤ n ∧ n < m ∧ img (rpow R n) P j
theorem upto_next (R : Nat → Nat → Prop) (P : Nat → Prop) (lo : Int) (m j : Nat) (h : lo ≤ m) : upto R P lo (m + 1) j ↔ upto R P lo m j ∨ img (rpow R m) P j := by
 unfold upto
 constructor
 · rintro ⟨n, h1, h2, h3⟩
   by_cases e : n = m
   · subst e; exact .inr h3
   · exact .inl ⟨n, h1, by omega, h3⟩
 · rintro (⟨n, h1, h2, h3⟩ | h3)
   · exact ⟨n, h1, by omega, h3⟩
   · exact ⟨m, h, by omega, h3⟩
theorem upto_zero (R : Nat → Nat → Prop) (P : Nat → Prop) (j : Nat) : upto R P 0 1 j ↔ P j := by
 unfold upto
 constructor
 · rintro ⟨n, _, h2, i, h3, h4⟩
   obtain rfl : n = 0 := by omega
   have h5 : i = j := h4
   subst h5; exact h3
 · intro h; exact ⟨0, by omega, by omega, j, h, rfl⟩
theorem upto_dead (R : Nat → Nat → Prop) (P : Nat → Prop) (lo hi : Int) (m : Nat) (hd : ∀ j, ¬ img (rpow R m) P j) (hm : hi < 0 ∨ (m : Int) ≤ hi + 1) (j : Nat) : upto R P lo (m + 1) j ↔ img (often R lo hi) P j := by
 constructor
 · rintro ⟨n, h1, h2, i, h3, h4⟩
   have hn : n ≠ m := fun e => hd j ⟨i, h3, e ▸ h4⟩
   exact ⟨i, h3, n, h1, by omega, h4⟩
 · rintro ⟨i, h3, n, h1, h2, h4⟩
   by_cases c : n < m + 1
   · exact ⟨n, h1, c, i, h3, h4⟩
   · exfalso
     obtain ⟨d, rfl⟩ : ∃ d, n = m + d := ⟨n - m, by omega⟩
     obtain ⟨k, h5, _⟩ := (rpow_add R m d i j).1 h4
     exact hd k ⟨i, h3, h5⟩
theorem upto_full (R : Nat → Nat → Prop) (P : Nat → Prop) (lo hi : Int) (m : Nat) (hh : 0 ≤ hi) (hm : (m : Int) = hi + 1) (j : Nat) : upto R P lo m j ↔ img (often R lo hi) P j := by
 constructor
 · rintro ⟨n, h1, h2, i, h3, h4⟩; exact ⟨i, h3, n, h1, .inr (by omega), h4⟩
 · rintro ⟨i, h3, n, h1, h2, h4⟩; exact ⟨n, h1, by omega, i, h3, h4⟩
theorem upto_still (R : Nat → Nat → Prop) (P : Nat → Prop) (lo hi : Int) (m : Nat) (hh : hi < 0) (hlo : lo ≤ m) (hs : ∀ j, img (rpow R m) P j → upto R P lo m j) (j : Nat) : upto R P lo m j ↔ img (often R lo hi) P j := by
 have key : ∀ (d : Nat) (j : Nat), img (rpow R (m + d)) P j → upto R P lo m j := by
  intro d
  induction d with
  | zero => exact hs
  | succ d ih =>
    intro j hj
    have hj' : img R (img (rpow R (m + d)) P) j := (img_pow_succ R P (m + d) j).1 hj
    obtain ⟨k, hk, hr⟩ := hj'
    obtain ⟨n, h1, h2, h3⟩ := ih k hk
    have h4 : img (rpow R (n + 1)) P j := (img_pow_succ R P n j).2 ⟨k, h3, hr⟩
    by_cases c : n + 1 < m
    · exact ⟨n + 1, by omega, c, h4⟩
    · obtain rfl : m = n + 1 := by omega
      exact hs j h4
 constructor
 · rintro ⟨n, h1, h2, i, h3, h4⟩; exact ⟨i, h3, n, h1, .inl hh, h4⟩
 · rintro ⟨i, h3, n, h1, h2, h4⟩
   by_cases c : n < m
   · exact ⟨n, h1, c, i, h3, h4⟩
   · obtain ⟨d, rfl⟩ : ∃ d, n = m + d := ⟨n - m, by omega⟩
     exact key d j ⟨i, h3, h4⟩
namespace RT
def takes (k : Int) (st : ByteArray) (n : Bool) (b : UInt8) : Bool := k == 1 || (st.data.toList.contains b != n)
mutual
/-- From place i on it may mean what ends ahead of place j. -/
def M (s : List UInt8) : RT → Nat → Nat → Prop
 | .node k st n lo hi ts => fun i j =>
   if k = 0 then i = j
   else if k = 3 then ∃ m, (Ms s ts).getD 0 (fun _ _ => False) i m ∧ (Ms s ts).getD 1 (fun _ _ => False) m j
   else if k = 4 then (Ms s ts).getD 0 (fun _ _ => False) i j ∨ (Ms s ts).getD 1 (fun _ _ => False) i j
   else if k = 5 then often ((Ms s ts).getD 0 (fun _ _ => False)) lo hi i j
   else if k = 6 then i = j ∧ i = 0
   else if k = 7 then i = j ∧ i = s.length
   else i < s.length ∧ takes k st n (s.getD i 0) = true ∧ j = i + 1
def Ms (s : List UInt8) : List RT → List (Nat → Nat → Prop)
 | [] => []
 | t :: ts => M s t :: Ms s ts
end
theorem M_none (s : List UInt8) (st : ByteArray) (n : Bool) (lo hi : Int) (ts : List RT) (i j : Nat) : M s (.node 0 st n lo hi ts) i j ↔ i = j := by simp [M]
theorem M_cat (s : List UInt8) (st : ByteArray) (n : Bool) (lo hi : Int) (a b : RT) (i j : Nat) : M s (.node 3 st n lo hi [a, b]) i j ↔ ∃ m, M s a i m ∧ M s b m j := by simp [M, Ms]
theorem M_alt (s : List UInt8) (st : ByteArray) (n : Bool) (lo hi : Int) (a b : RT) (i j : Nat) : M s (.node 4 st n lo hi [a, b]) i j ↔ M s a i j ∨ M s b i j := by simp [M, Ms]
theorem M_many (s : List UInt8) (st : ByteArray) (n : Bool) (lo hi : Int) (a : RT) (i j : Nat) : M s (.node 5 st n lo hi [a]) i j ↔ often (M s a) lo hi i j := by simp [M, Ms]
theorem M_head (s : List UInt8) (st : ByteArray) (n : Bool) (lo hi : Int) (ts : List RT) (i j : Nat) : M s (.node 6 st n lo hi ts) i j ↔ i = j ∧ i = 0 := by simp [M]
theorem M_tail (s : List UInt8) (st : ByteArray) (n : Bool) (lo hi : Int) (ts : List RT) (i j : Nat) : M s (.node 7 st n lo hi ts) i j ↔ i = j ∧ i = s.length := by simp [M]
theorem M_one (s : List UInt8) (k : Int) (hk : k = 1 ∨ k = 2) (st : ByteArray) (n : Bool) (lo hi : Int) (ts : List RT) (i j : Nat) : M s (.node k st n lo hi ts) i j ↔ i < s.length ∧ takes k st n (s.getD i 0) = true ∧ j = i + 1 := by
 rcases hk with rfl | rfl <;> simp [M]
end RT
def AscN : List Nat → Prop := List.Pairwise (· < ·)
def PlN (xs : List Nat) (P : Nat → Prop) : Prop := AscN xs ∧ ∀ j, j ∈ xs ↔ P j
theorem PlN.congr {xs : List Nat} {P Q : Nat → Prop} (h : PlN xs P) (e : ∀ j, P j ↔ Q j) : PlN xs Q := ⟨h.1, fun j => (h.2 j).trans (e j)⟩
def putN : List Nat → Nat → List Nat
 | [], n => [n]
 | x :: xs, n => if n < x then n :: x :: xs else if n = x then x :: xs else x :: putN xs n
theorem putN_mem (n m : Nat) : ∀ xs : List Nat, m ∈ putN xs n ↔ m = n ∨ m ∈ xs
 | [] => by simp [putN]
 | x :: xs => by
   simp only [putN]
   split
   · simp
   · split
     · rename_i h; subst h; simp
     · have ih := putN_mem n m xs
       simp only [List.mem_cons, ih]
       constructor
       · rintro (a | a | a) <;> simp [a]
       · rintro (a | a | a) <;> simp [a]
theorem putN_asc (n : Nat) : ∀ xs : List Nat, AscN xs → AscN (putN xs n)
 | [], _ => by simp [putN, AscN]
 | x :: xs, h => by
   have h1 := List.pairwise_cons.1 h
   simp only [putN]
   split
   · rename_i c
     refine List.pairwise_cons.2 ⟨fun y hy => ?_, h⟩
     rcases List.mem_cons.1 hy with e | e
     · omega
     · have := h1.1 y e; omega
   · split
     · exact h
     · refine List.pairwise_cons.2 ⟨fun y hy => ?_, putN_asc n xs h1.2⟩
       rcases (putN_mem n y xs).1 hy with e | e
       · omega
       · exact h1.1 y e
def allN (a b : List Nat) : List Nat := b.foldl putN a
theorem allN_mem (m : Nat) : ∀ (b a : List Nat), m ∈ allN a b ↔ m ∈ a ∨ m ∈ b
 | [], a => by simp [allN]
 | x :: b, a => by
   have ih := allN_mem m b (putN a x)
   simp only [allN, List.foldl_cons] at ih ⊢
   rw [ih, putN_mem, List.mem_cons]
   constructor
   · rintro ((a | a) | a) <;> simp [a]
   · rintro (a | a | a) <;> simp [a]
theorem putN_len (n : Nat) : ∀ xs : List Nat, xs.length ≤ (putN xs n).length ∧ ((putN xs n).length = xs.length → n ∈ xs)
 | [] => by simp [putN]
 | x :: xs => by
   simp only [putN]
   split
   · simp
   · split
     · rename_i h; subst h; simp
     · have ih := putN_len n xs
       simp only [List.length_cons]
       exact ⟨by omega, fun h => List.mem_cons_of_mem _ (ih.2 (by omega))⟩
theorem allN_len : ∀ (b a : List Nat), a.length ≤ (allN a b).length ∧ ((allN a b).length = a.length → ∀ x ∈ b, x ∈ a)
 | [], a => by simp [allN]
 | x :: b, a => by
   have h1 := putN_len x a
   have h2 := allN_len b (putN a x)
   simp only [allN, List.foldl_cons] at h2 ⊢
   refine ⟨by omega, fun h y hy => ?_⟩
   have hx := h1.2 (by omega)
   rcases List.mem_cons.1 hy with e | e
   · subst e; exact hx
   · rcases (putN_mem x y a).1 (h2.2 (by omega) y e) with e2 | e2
     · subst e2; exact hx
     · exact e2
theorem AscN.len_le {xs : List Nat} (h : AscN xs) {n : Nat} (hn : ∀ x ∈ xs, x ≤ n) : xs.length ≤ n + 1 := by
 have hnd : xs.Nodup := h.imp (fun hlt => Nat.ne_of_lt hlt)
 have hsub : xs ⊆ List.range (n + 1) := fun x hx => List.mem_range.2 (by have := hn x hx; omega)
 have := hnd.length_le_of_subset hsub
 simpa using this
theorem PlN.last {xs : List Nat} {P : Nat → Prop} (h : PlN xs P) (hne : xs ≠ []) : P (xs.getLast hne) ∧ ∀ j, P j → j ≤ xs.getLast hne := by
 refine ⟨(h.2 _).1 (List.getLast_mem hne), fun j hj => ?_⟩
 have hm := (h.2 j).2 hj
 obtain ⟨ys, y, hy⟩ : ∃ ys y, xs = ys ++ [y] := ⟨xs.dropLast, xs.getLast hne, (List.dropLast_concat_getLast hne).symm⟩
 subst hy
 have e : (ys ++ [y]).getLast hne = y := by simp
 rw [e]
 rcases List.mem_append.1 hm with a | a
 · have h1 := (List.pairwise_append.1 h.1).2.2 j a y (by simp)
   omega
 · simp only [List.mem_singleton] at a; omega
theorem putN_in (n : Nat) : ∀ xs : List Nat, AscN xs → n ∈ xs → putN xs n = xs
 | [], _, h => by simp at h
 | x :: xs, h, hn => by
   have h1 := List.pairwise_cons.1 h
   simp only [putN]
   rcases List.mem_cons.1 hn with e | e
   · subst e; simp
   · have := h1.1 n e
     rw [if_neg (by omega), if_neg (by omega), putN_in n xs h1.2 e]
theorem putN_cut (n : Nat) : ∀ (xs : List Nat) (k : Nat), k ≤ xs.length → AscN xs → (∀ j (h : j < xs.length), j < k → xs[j] < n) → (∀ j (h : j < xs.length), k ≤ j → n < xs[j]) → putN xs n = xs.take k ++ n :: xs.drop k
 | [], k, _, _, _, _ => by simp [putN]
 | x :: xs, 0, _, _, _, h2 => by
   have := h2 0 (by simp) (by omega)
   simp only [List.getElem_cons_zero] at this
   simp [putN, this]
 | x :: xs, k + 1, hk, h, h1, h2 => by
   have h3 := h1 0 (by simp) (by omega)
   simp only [List.getElem_cons_zero] at h3
   have ih := putN_cut n xs k (by simpa using hk) (List.pairwise_cons.1 h).2 (fun j a b => by have := h1 (j + 1) (by simpa using a) (by omega); simpa using this) (fun j a b => by have := h2 (j + 1) (by simpa using a) (by omega); simpa using this)
   simp only [putN, List.take_succ_cons, List.drop_succ_cons, List.cons_append]
   rw [if_neg (by omega), if_neg (by omega), ih]
theorem putN_at (xs : List Nat) (n k : Nat) (hk : k ≤ xs.length) (h : AscN xs) (hgt : ∀ j (h : j < xs.length), k ≤ j → n < xs[j]) (hle : ∀ (h0 : 0 < k), xs[k - 1]'(by omega) ≤ n) :
 (∃ (h0 : 0 < k), xs[k - 1]'(by omega) = n ∧ putN xs n = xs) ∨ ((∀ (h0 : 0 < k), xs[k - 1]'(by omega) ≠ n) ∧ putN xs n = xs.take k ++ n :: xs.drop k) := by
 by_cases h0 : 0 < k
 · have hl := hle h0
   by_cases e : xs[k - 1]'(by omega) = n
   · exact .inl ⟨h0, e, putN_in n xs h (e ▸ List.getElem_mem _)⟩
   · refine .inr ⟨fun _ => e, putN_cut n xs k hk h (fun j a b => ?_) hgt⟩
     by_cases e2 : j = k - 1
     · subst e2; omega
     · have := List.pairwise_iff_getElem.1 h j (k - 1) a (by omega) (by omega)
       omega
 · obtain rfl : k = 0 := by omega
   exact .inr ⟨fun h => by omega, putN_cut n xs 0 hk h (fun j a b => by omega) hgt⟩
end Go.Proofs.YtcimhpdpfckgiaaGreatDoor.kit
namespace Go.Proofs.YtcimhpdpfckgiaaGreatDoor.kit
inductive PathN (R : Nat → Nat → Nat → Prop) (E : Nat → List Nat) : Nat → Nat → Nat → Nat → Prop
 | here (p i : Nat) : PathN R E p i p i
 | step {p i k q r j : Nat} (h : R p i k) (hq : q ∈ E p) (hp : PathN R E q k r j) : PathN R E p i r j
theorem PathN.snoc {R : Nat → Nat → Nat → Prop} {E : Nat → List Nat} {p i q j k r : Nat} (h : PathN R E p i q j) (hr : R q j k) (he : r ∈ E q) : PathN R E p i r k := by
 induction h with
 | here p i => exact .step hr he (.here _ _)
 | step h hq hp ih => exact .step h hq (ih hr he)
structure NetN (R : Nat → Nat → Nat → Prop) (E : Nat → List Nat) (f : Nat) (P : Nat → Prop) (begun waits : Nat → Nat → Prop) : Prop where
 sound : ∀ p j, begun p j ∨ waits p j → ∃ i, P i ∧ PathN R E f i p j
 start : ∀ i, P i → begun f i ∨ waits f i
 closed : ∀ p i k q, begun p i → R p i k → q ∈ E p → begun q k ∨ waits q k
theorem NetN.first {R : Nat → Nat → Nat → Prop} {E : Nat → List Nat} {f : Nat} {P : Nat → Prop} : NetN R E f P (fun _ _ => False) (fun p j => p = f ∧ P j) where
 sound := fun p j h => by
  rcases h with h | ⟨rfl, h⟩
  · exact h.elim
  · exact ⟨j, h, .here _ _⟩
 start := fun i h => .inr ⟨rfl, h⟩
 closed := fun p i k q h => h.elim
theorem NetN.done {R : Nat → Nat → Nat → Prop} {E : Nat → List Nat} {f : Nat} {P : Nat → Prop} {begun waits : Nat → Nat → Prop} (h : NetN R E f P begun waits) (hw : ∀ p j, ¬ waits p j) (p j : Nat) : begun p j ↔ ∃ i, P i ∧ PathN R E f i p j := by
 refine ⟨fun hb => h.sound p j (.inl hb), ?_⟩
 rintro ⟨i, hi, hp⟩
 have key : ∀ {p i r j}, PathN R E p i r j → begun p i → begun r j := by
  intro p i r j hp
  induction hp with
  | here p i => exact id
  | step hr hq _ ih => exact fun hb => ih ((h.closed _ _ _ _ hb hr hq).resolve_right (hw _ _))
 exact key hp ((h.start i hi).resolve_right (hw _ _))
theorem NetN.turn {R : Nat → Nat → Nat → Prop} {E : Nat → List Nat} {f : Nat} {P : Nat → Prop} {begun waits : Nat → Nat → Prop} (h : NetN R E f P begun waits) (p : Nat) {begun' waits' : Nat → Nat → Prop}
 (hb : ∀ q j, begun' q j ↔ begun q j ∨ q = p ∧ waits p j)
 (hw : ∀ q j, waits' q j ↔ (waits q j ∧ q ≠ p) ∨ q ∈ E p ∧ img (R p) (waits p) j ∧ ¬ begun' q j) : NetN R E f P begun' waits' where
 sound := fun q j hq => by
  rcases hq with hq | hq
  · rcases (hb q j).1 hq with a | ⟨rfl, a⟩
    · exact h.sound q j (.inl a)
    · exact h.sound q j (.inr a)
  · rcases (hw q j).1 hq with ⟨a, _⟩ | ⟨a, ⟨i, b, c⟩, _⟩
    · exact h.sound q j (.inr a)
    · obtain ⟨x, hx, hp⟩ := h.sound p i (.inr b)
      exact ⟨x, hx, hp.snoc c a⟩
 start := fun i hi => by
  rcases h.start i hi with a | a
  · exact .inl ((hb f i).2 (.inl a))
  · by_cases e : f = p
    · subst e; exact .inl ((hb f i).2 (.inr ⟨rfl, a⟩))
    · exact .inr ((hw f i).2 (.inl ⟨a, e⟩))
 closed := fun q i k r hq hr he => by
  rcases (hb q i).1 hq with a | ⟨rfl, a⟩
  · rcases h.closed q i k r a hr he with b | b
    · exact .inl ((hb r k).2 (.inl b))
    · by_cases e : r = p
      · subst e; exact .inl ((hb r k).2 (.inr ⟨rfl, b⟩))
      · exact .inr ((hw r k).2 (.inl ⟨b, e⟩))
  · by_cases c : begun' r k
    · exact .inl c
    · exact .inr ((hw r k).2 (.inr ⟨he, ⟨i, a, hr⟩, c⟩))
inductive PathL (R : Nat → Nat → Nat → Prop) (E : Nat → List Nat) : Nat → Nat → Nat → Nat → Nat → Prop
 | here (p i : Nat) : PathL R E 0 p i p i
 | step {n p i k q r j : Nat} (h : R p i k) (hq : q ∈ E p) (hp : PathL R E n q k r j) : PathL R E (n + 1) p i r j
theorem PathN.steps {R : Nat → Nat → Nat → Prop} {E : Nat → List Nat} {p i q j : Nat} (h : PathN R E p i q j) : ∃ n, PathL R E n p i q j := by
 induction h with
 | here p i => exact ⟨0, .here p i⟩
 | step h hq _ ih => obtain ⟨n, hn⟩ := ih; exact ⟨n + 1, .step h hq hn⟩
structure LeadsN (R : Nat → Nat → Nat → Prop) (E : Nat → List Nat) (z : Nat) (T : Nat → Nat → Prop) (e b : Nat) : Prop where
 to : ∀ n i j, PathL R E n e i z j → ∃ m n', n' < n ∧ T i m ∧ PathL R E n' b m z j
 back : ∀ i m j, T i m → PathN R E b m z j → PathN R E e i z j
theorem LeadsN.one {R : Nat → Nat → Nat → Prop} {E : Nat → List Nat} {z e b : Nat} (hz : e ≠ z) (hE : E e = [b]) : LeadsN R E z (R e) e b where
 to := fun n i j h => by
  cases h with
  | here => exact absurd rfl hz
  | step hr hq hp =>
    rw [hE, List.mem_singleton] at hq
    subst hq
    exact ⟨_, _, Nat.lt_succ_self _, hr, hp⟩
 back := fun i m j hr hp => .step hr (by rw [hE]; simp) hp
theorem LeadsN.congr {R : Nat → Nat → Nat → Prop} {E : Nat → List Nat} {z e b : Nat} {T U : Nat → Nat → Prop} (h : LeadsN R E z T e b) (hT : ∀ i j, T i j ↔ U i j) : LeadsN R E z U e b where
 to := fun n i j hp => by
  obtain ⟨m, n', a, b, c⟩ := h.to n i j hp
  exact ⟨m, n', a, (hT _ _).1 b, c⟩
 back := fun i m j hu hp => h.back i m j ((hT _ _).2 hu) hp
theorem LeadsN.cat {R : Nat → Nat → Nat → Prop} {E : Nat → List Nat} {z e b c : Nat} {T U : Nat → Nat → Prop} (h : LeadsN R E z T e b) (h' : LeadsN R E z U b c) : LeadsN R E z (fun i j => ∃ m, T i m ∧ U m j) e c where
 to := fun n i j hp => by
  obtain ⟨m, n', a, b, p⟩ := h.to n i j hp
  obtain ⟨x, n2, a2, b2, p2⟩ := h'.to n' m j p
  exact ⟨x, n2, by omega, ⟨m, b, b2⟩, p2⟩
 back := fun i x j ⟨m, a, b⟩ hp => h.back i m j a (h'.back m x j b hp)
theorem LeadsN.alt {R : Nat → Nat → Nat → Prop} {E : Nat → List Nat} {z e a b c : Nat} {T U : Nat → Nat → Prop} (hz : e ≠ z) (hR : ∀ i j, R e i j ↔ i = j) (hE : E e = [a, b]) (h : LeadsN R E z T a c) (h' : LeadsN R E z U b c) : LeadsN R E z (fun i j => T i j ∨ U i j) e c where
 to := fun n i j hp => by
  cases hp with
  | here => exact absurd rfl hz
  | step hr hq hp =>
    have hr' := (hR _ _).1 hr
    subst hr'
    rw [hE] at hq
    simp only [List.mem_cons, List.not_mem_nil, or_false] at hq
    rcases hq with rfl | rfl
    · obtain ⟨m, n', w, x, y⟩ := h.to _ _ _ hp
      exact ⟨m, n', by omega, .inl x, y⟩
    · obtain ⟨m, n', w, x, y⟩ := h'.to _ _ _ hp
      exact ⟨m, n', by omega, .inr x, y⟩
 back := fun i m j hx hp => by
  rcases hx with x | x
  · exact .step ((hR i i).2 rfl) (by rw [hE]; simp) (h.back i m j x hp)
  · exact .step ((hR i i).2 rfl) (by rw [hE]; simp) (h'.back i m j x hp)
theorem LeadsN.end {R : Nat → Nat → Nat → Prop} {E : Nat → List Nat} {z e : Nat} {T : Nat → Nat → Prop} (h : LeadsN R E z T e z) (hE : E z = []) (i j : Nat) : PathN R E e i z j ↔ T i j := by
 constructor
 · intro hp
   obtain ⟨n, hn⟩ := hp.steps
   obtain ⟨m, n', _, a, p⟩ := h.to n i j hn
   cases p with
   | here => exact a
   | step _ hq _ => rw [hE] at hq; simp at hq
 · intro a; exact h.back i j j a (.here _ _)
theorem LeadsN.loop {R : Nat → Nat → Nat → Prop} {E : Nat → List Nat} {z e : Nat} {T : Nat → Nat → Prop} (h : LeadsN R E z T e z) (hR : ∀ i j, R z i j ↔ i = j) (hE : E z = [e]) (i j : Nat) : PathN R E e i z j ↔ ∃ n : Nat, rpow T (n + 1) i j := by
 constructor
 · intro hp
   obtain ⟨N, hN⟩ := hp.steps
   have key : ∀ (N n i : Nat), n ≤ N → PathL R E n e i z j → ∃ n : Nat, rpow T (n + 1) i j := by
    intro N
    induction N with
    | zero =>
      intro n i hn hp
      obtain ⟨m, n', a, _⟩ := h.to n i j hp
      omega
    | succ N ih =>
      intro n i hn hp
      obtain ⟨m, n', a, b, p⟩ := h.to n i j hp
      cases p with
      | here => exact ⟨0, (rpow_one T i j).2 b⟩
      | step hr hq hp2 =>
        have hr' := (hR _ _).1 hr
        subst hr'
        rw [hE, List.mem_singleton] at hq
        subst hq
        obtain ⟨x, hx⟩ := ih _ m (by omega) hp2
        exact ⟨x + 1, (rpow_front T (x + 1) i j).2 ⟨m, b, hx⟩⟩
   exact key N N i (Nat.le_refl _) hN
 · rintro ⟨n, hn⟩
   induction n generalizing i with
   | zero => exact h.back i j j ((rpow_one T i j).1 hn) (.here _ _)
   | succ n ih =>
     obtain ⟨k, h1, h2⟩ := (rpow_front T (n + 1) i j).1 hn
     exact h.back i k j h1 (.step ((hR k k).2 rfl) (by rw [hE]; simp) (ih k h2))
theorem often_loop (T : Nat → Nat → Prop) (lo : Int) (h0 : 0 ≤ lo) (i j : Nat) : often (fun i j => ∃ n : Nat, rpow T (n + 1) i j) lo (max lo 1) i j ↔ often T lo (-1) i j := by
 have add : ∀ (m i j : Nat), rpow (fun i j => ∃ n : Nat, rpow T (n + 1) i j) m i j → ∃ n : Nat, m ≤ n ∧ rpow T n i j := by
  intro m
  induction m with
  | zero => intro i j h; exact ⟨0, Nat.le_refl _, h⟩
  | succ m ih =>
    rintro i j ⟨k, h1, n, h2⟩
    obtain ⟨x, hx, hy⟩ := ih i k h1
    exact ⟨x + (n + 1), by omega, (rpow_add T x (n + 1) i j).2 ⟨k, hy, h2⟩⟩
 have one : ∀ (m i j : Nat), rpow T m i j → ∀ d : Nat, d ≤ m → 0 < d → rpow (fun i j => ∃ n : Nat, rpow T (n + 1) i j) d i j := by
  intro m i j h d hd h0
  obtain ⟨d, rfl⟩ : ∃ e, d = e + 1 := ⟨d - 1, by omega⟩
  obtain ⟨x, rfl⟩ : ∃ x, m = d + (x + 1) := ⟨m - d - 1, by omega⟩
  obtain ⟨k, h1, h2⟩ := (rpow_add T d (x + 1) i j).1 h
  have each : ∀ (d i k : Nat), rpow T d i k → rpow (fun i j => ∃ n : Nat, rpow T (n + 1) i j) d i k := by
   intro d
   induction d with
   | zero => intro i k h; exact h
   | succ d ih =>
     rintro i k ⟨l, a, b⟩
     exact ⟨l, ih i l a, 0, (rpow_one T l k).2 b⟩
  exact ⟨k, each d i k h1, x, h2⟩
 constructor
 · rintro ⟨n, h1, _, h3⟩
   obtain ⟨m, a, b⟩ := add n i j h3
   exact ⟨m, by omega, .inl (by omega), b⟩
 · rintro ⟨n, h1, _, h3⟩
   by_cases c : n = 0
   · subst c
     exact ⟨0, h1, .inr (by omega), h3⟩
   · by_cases c2 : lo = 0
     · exact ⟨1, by omega, .inr (by omega), one n i j h3 1 (by omega) (by omega)⟩
     · exact ⟨lo.toNat, by omega, .inr (by omega), one n i j h3 lo.toNat (by omega) (by omega)⟩
theorem rpow_conv (T : Nat → Nat → Prop) : ∀ (n i j : Nat), rpow (fun a b => T b a) n i j ↔ rpow T n j i
 | 0, i, j => by simp only [rpow]; exact eq_comm
 | n + 1, i, j => by
   rw [rpow_front T n j i]
   show (∃ k, rpow (fun a b => T b a) n i k ∧ T j k) ↔ _
   constructor
   · rintro ⟨k, a, b⟩; exact ⟨k, b, (rpow_conv T n i k).1 a⟩
   · rintro ⟨k, a, b⟩; exact ⟨k, (rpow_conv T n i k).2 b, a⟩
theorem often_conv (T : Nat → Nat → Prop) (lo hi : Int) (i j : Nat) : often (fun a b => T b a) lo hi i j ↔ often T lo hi j i := by
 unfold often
 constructor
 · rintro ⟨n, a, b, c⟩; exact ⟨n, a, b, (rpow_conv T n i j).1 c⟩
 · rintro ⟨n, a, b, c⟩; exact ⟨n, a, b, (rpow_conv T n i j).2 c⟩
def untilN (K : Nat → Nat → Prop) (P : Nat → Prop) (t j : Nat) : Prop := ∃ d, d ≤ t ∧ img (rpow K d) P j
theorem untilN_zero (K : Nat → Nat → Prop) (P : Nat → Prop) (j : Nat) : untilN K P 0 j ↔ P j := by
 constructor
 · rintro ⟨d, h1, i, h2, h3⟩
   obtain rfl : d = 0 := by omega
   have h4 : i = j := h3
   subst h4; exact h2
 · intro h; exact ⟨0, Nat.le_refl _, j, h, rfl⟩
theorem untilN_succ (K : Nat → Nat → Prop) (P : Nat → Prop) (t j : Nat) : untilN K P (t + 1) j ↔ untilN K P t j ∨ img K (untilN K P t) j := by
 constructor
 · rintro ⟨d, h1, h2⟩
   cases d with
   | zero => exact .inl ⟨0, by omega, h2⟩
   | succ d =>
     obtain ⟨k, a, b⟩ := (img_pow_succ K P d j).1 h2
     exact .inr ⟨k, ⟨d, by omega, a⟩, b⟩
 · rintro (⟨d, h1, h2⟩ | ⟨k, ⟨d, h1, a⟩, b⟩)
   · exact ⟨d, by omega, h2⟩
   · exact ⟨d + 1, by omega, (img_pow_succ K P d j).2 ⟨k, a, b⟩⟩
structure HighN (K : Nat → Nat → Prop) (P : Nat → Prop) (t : Nat) (all fresh : Nat → Prop) : Prop where
 eq : ∀ j, all j ↔ untilN K P t j
 sub : ∀ j, fresh j → all j
 shut : ∀ x y, all x → ¬ fresh x → K x y → all y
theorem HighN.start (K : Nat → Nat → Prop) (P : Nat → Prop) : HighN K P 0 P P := ⟨fun j => (untilN_zero K P j).symm, fun j h => h, fun x y h hn => absurd h hn⟩
theorem HighN.next {K : Nat → Nat → Prop} {P : Nat → Prop} {t : Nat} {all fresh all' fresh' : Nat → Prop} (h : HighN K P t all fresh) (hf : ∀ j, fresh' j ↔ img K fresh j ∧ ¬ all j) (ha : ∀ j, all' j ↔ all j ∨ fresh' j) : HighN K P (t + 1) all' fresh' where
 eq := fun j => by
  rw [ha, hf, untilN_succ]
  constructor
  · rintro (a | ⟨⟨x, a, b⟩, _⟩)
    · exact .inl ((h.eq j).1 a)
    · exact .inr ⟨x, (h.eq x).1 (h.sub x a), b⟩
  · rintro (a | ⟨x, a, b⟩)
    · exact .inl ((h.eq j).2 a)
    · by_cases c : all j
      · exact .inl c
      · have hx := (h.eq x).2 a
        by_cases d : fresh x
        · exact .inr ⟨⟨x, d, b⟩, c⟩
        · exact absurd (h.shut x j hx d b) c
 sub := fun j hj => (ha j).2 (.inr hj)
 shut := fun x y hx hn hk => by
  rcases (ha x).1 hx with a | a
  · by_cases d : fresh x
    · by_cases c : all y
      · exact (ha y).2 (.inl c)
      · exact (ha y).2 (.inr ((hf y).2 ⟨⟨x, d, hk⟩, c⟩))
    · exact (ha y).2 (.inl (h.shut x y a d hk))
  · exact absurd a hn
theorem HighN.still {K : Nat → Nat → Prop} {P : Nat → Prop} {t : Nat} {all fresh : Nat → Prop} (h : HighN K P t all fresh) (hn : ∀ j, ¬ fresh j) : ∀ (d j : Nat), untilN K P (t + d) j ↔ all j
 | 0, j => (h.eq j).symm
 | d + 1, j => by
   have ih := h.still hn d
   rw [show t + (d + 1) = (t + d) + 1 from rfl, untilN_succ]
   constructor
   · rintro (a | ⟨x, a, b⟩)
     · exact (ih j).1 a
     · exact h.shut x j ((ih x).1 a) (hn x) b
   · intro a; exact .inl ((ih j).2 a)
theorem often_parts (K : Nat → Nat → Prop) (P : Nat → Prop) (lo d j : Nat) : untilN K (img (rpow K lo) P) d j ↔ img (often K (lo : Int) ((lo + d : Nat) : Int)) P j := by
 constructor
 · rintro ⟨x, h1, h2⟩
   obtain ⟨i, a, b⟩ := (img_pow_add K P lo x j).2 h2
   exact ⟨i, a, lo + x, by omega, .inr (by omega), b⟩
 · rintro ⟨i, a, n, h1, h2, h3⟩
   obtain ⟨x, rfl⟩ : ∃ x, n = lo + x := ⟨n - lo, by omega⟩
   exact ⟨x, by omega, (img_pow_add K P lo x j).1 ⟨i, a, h3⟩⟩
theorem low_still (K : Nat → Nat → Prop) (P : Nat → Prop) (hs : ∀ j, img K P j ↔ P j) : ∀ (n j : Nat), img (rpow K n) P j ↔ P j
 | 0, j => by
   constructor
   · rintro ⟨i, a, b⟩
     have e : i = j := b
     subst e; exact a
   · intro a; exact ⟨j, a, rfl⟩
 | n + 1, j => by
   rw [img_pow_succ]
   constructor
   · rintro ⟨k, a, b⟩; exact (hs j).1 ⟨k, (low_still K P hs n k).1 a, b⟩
   · intro a
     obtain ⟨k, b, c⟩ := (hs j).2 a
     exact ⟨k, (low_still K P hs n k).2 b, c⟩
theorem low_early (K : Nat → Nat → Prop) (P : Nat → Prop) (m n : Nat) (hm : m ≤ n) (hs : ∀ j, img K (img (rpow K m) P) j ↔ img (rpow K m) P j) (j : Nat) : img (rpow K n) P j ↔ img (rpow K m) P j := by
 obtain ⟨d, rfl⟩ : ∃ d, n = m + d := ⟨n - m, by omega⟩
 rw [img_pow_add]
 exact low_still K (img (rpow K m) P) hs d j
theorem rpow_bd {T : Nat → Nat → Prop} {L : Nat} (h : ∀ i j, T i j → i ≤ L → i ≤ j ∧ j ≤ L) : ∀ (n i j : Nat), rpow T n i j → i ≤ L → i ≤ j ∧ j ≤ L
 | 0, i, j, hp, hi => by
   have e : i = j := hp
   subst e; exact ⟨Nat.le_refl _, hi⟩
 | n + 1, i, j, hp, hi => by
   obtain ⟨k, a, b⟩ := hp
   have h1 := rpow_bd h n i k a hi
   have h2 := h k j b h1.2
   exact ⟨by omega, h2.2⟩
namespace RT
mutual
/-- What is meant lies in the text. -/
theorem M_bd (s : List UInt8) : ∀ (t : RT) (i j : Nat), M s t i j → i ≤ s.length → i ≤ j ∧ j ≤ s.length
 | .node k st n lo hi ts, i, j, h, hl => by
   simp only [M] at h
   split at h
   · subst h; exact ⟨Nat.le_refl _, hl⟩
   · split at h
     · obtain ⟨m, a, b⟩ := h
       have h1 := Ms_bd s ts 0 i m a hl
       have h2 := Ms_bd s ts 1 m j b h1.2
       exact ⟨by omega, h2.2⟩
     · split at h
       · rcases h with a | a
         · exact Ms_bd s ts 0 i j a hl
         · exact Ms_bd s ts 1 i j a hl
       · split at h
         · obtain ⟨x, _, _, a⟩ := h
           exact rpow_bd (fun i j => Ms_bd s ts 0 i j) x i j a hl
         · split at h
           · obtain ⟨rfl, _⟩ := h; exact ⟨Nat.le_refl _, hl⟩
           · split at h
             · obtain ⟨rfl, _⟩ := h; exact ⟨Nat.le_refl _, hl⟩
             · obtain ⟨a, _, rfl⟩ := h; omega
theorem Ms_bd (s : List UInt8) : ∀ (ts : List RT) (x i j : Nat), (Ms s ts).getD x (fun _ _ => False) i j → i ≤ s.length → i ≤ j ∧ j ≤ s.length
 | [], x, i, j, h, _ => by simp [Ms] at h
 | t :: ts, 0, i, j, h, hl => M_bd s t i j (by simpa [Ms] using h) hl
 | t :: ts, x + 1, i, j, h, hl => Ms_bd s ts x i j (by simpa [Ms] using h) hl
end
end RT
def memS (sk : Nat) (ws : List Nat) (j : Nat) : Prop := sk ≤ j / 64 ∧ (ws.getD (j / 64 - sk) 0).testBit (j % 64) = true
theorem memS_nil (sk j : Nat) : ¬ memS sk [] j := by simp [memS]
theorem memS_behind (sk : Nat) (ws : List Nat) (k j : Nat) : memS sk (ws ++ List.replicate k 0) j ↔ memS sk ws j := by
 unfold memS
 have e : (ws ++ List.replicate k 0).getD (j / 64 - sk) 0 = ws.getD (j / 64 - sk) 0 := by
  simp only [List.getD_eq_getElem?_getD]
  by_cases c : j / 64 - sk < ws.length
  · rw [List.getElem?_append_left c]
  · rw [List.getElem?_append_right (by omega), List.getElem?_eq_none (l := ws) (by omega)]
    by_cases d : j / 64 - sk - ws.length < k
    · simp [d]
    · rw [List.getElem?_eq_none (by simp; omega)]
 rw [e]
theorem memS_ahead (sk b : Nat) (ws : List Nat) (hb : b ≤ sk) (j : Nat) : memS b (List.replicate (sk - b) 0 ++ ws) j ↔ memS sk ws j := by
 unfold memS
 simp only [List.getD_eq_getElem?_getD]
 by_cases c : sk ≤ j / 64
 · rw [List.getElem?_append_right (by simp; omega), List.length_replicate, show j / 64 - b - (sk - b) = j / 64 - sk by omega]
   constructor
   · rintro ⟨_, h⟩; exact ⟨c, h⟩
   · rintro ⟨_, h⟩; exact ⟨by omega, h⟩
 · constructor
   · rintro ⟨h1, h⟩
     rw [List.getElem?_append_left (by simp; omega)] at h
     simp [show j / 64 - b < sk - b by omega] at h
   · rintro ⟨h, _⟩; exact absurd h c
theorem memS_or (sk : Nat) (ws : List Nat) (k x : Nat) (hk : k < ws.length) (j : Nat) : memS sk (ws.set k (ws.getD k 0 ||| x)) j ↔ memS sk ws j ∨ memS (sk + k) [x] j := by
 unfold memS
 simp only [List.getD_eq_getElem?_getD, List.getElem?_set]
 by_cases c : k = j / 64 - sk
 · subst c
   by_cases d : sk ≤ j / 64
   · have e1 : j / 64 - (sk + (j / 64 - sk)) = 0 := by omega
     simp [hk, d, Nat.testBit_or]
   · simp [d, show ¬ sk + (j / 64 - sk) ≤ j / 64 by omega]
 · rw [if_neg c]
   constructor
   · intro h; exact .inl h
   · rintro (h | ⟨h1, h2⟩)
     · exact h
     · by_cases e : j / 64 - (sk + k) = 0
       · exfalso; omega
       · rw [List.getElem?_eq_none (by simp; omega)] at h2
         simp at h2
theorem memS_one (sk e : Nat) (hs : sk = e / 64) (j : Nat) : memS sk [2 ^ (e % 64)] j ↔ j = e := by
 unfold memS
 subst hs
 constructor
 · rintro ⟨h1, h2⟩
   by_cases c : j / 64 - e / 64 = 0
   · rw [c] at h2
     simp only [List.getD_cons_zero, Nat.testBit_two_pow, decide_eq_true_eq] at h2
     have := Nat.div_add_mod j 64
     have := Nat.div_add_mod e 64
     omega
   · rw [List.getD_eq_getElem?_getD, List.getElem?_eq_none (by simp; omega)] at h2
     simp at h2
 · rintro rfl
   refine ⟨Nat.le_refl _, ?_⟩
   rw [Nat.sub_self]
   simp
theorem memS_zero (sk j : Nat) : ¬ memS sk [0] j := by
 unfold memS
 rintro ⟨_, h⟩
 rw [List.getD_eq_getElem?_getD] at h
 by_cases c : j / 64 - sk = 0
 · rw [c] at h; simp at h
 · rw [List.getElem?_eq_none (by simp; omega)] at h; simp at h
theorem memS_word (sk : Nat) (ws : List Nat) (j : Nat) : memS sk ws j ↔ ∃ i, i < ws.length ∧ memS (sk + i) [ws.getD i 0] j := by
 unfold memS
 constructor
 · rintro ⟨h1, h2⟩
   by_cases c : j / 64 - sk < ws.length
   · refine ⟨j / 64 - sk, c, by omega, ?_⟩
     rw [show j / 64 - (sk + (j / 64 - sk)) = 0 by omega]
     simpa using h2
   · rw [List.getD_eq_getElem?_getD, List.getElem?_eq_none (by omega)] at h2
     simp at h2
 · rintro ⟨i, h1, h2, h3⟩
   by_cases e : j / 64 - (sk + i) = 0
   · rw [e] at h3
     have : j / 64 - sk = i := by omega
     rw [this]
     exact ⟨by omega, by simpa using h3⟩
   · rw [List.getD_eq_getElem?_getD (l := [ws.getD i 0]), List.getElem?_eq_none (by simp; omega)] at h3
     simp at h3
theorem memS_take (sk : Nat) (ws : List Nat) (i : Nat) (h : i < ws.length) (j : Nat) : memS sk (ws.take (i + 1)) j ↔ memS sk (ws.take i) j ∨ memS (sk + i) [ws.getD i 0] j := by
 have g : ∀ (m x : Nat), x < m → (ws.take m).getD x 0 = ws.getD x 0 := fun m x hx => by
  simp only [List.getD_eq_getElem?_getD, List.getElem?_take]
  rw [if_pos hx]
 rw [memS_word sk (ws.take (i + 1)), memS_word sk (ws.take i)]
 constructor
 · rintro ⟨x, h1, h2⟩
   rw [List.length_take] at h1
   by_cases c : x = i
   · subst c
     rw [g (x + 1) x (by omega)] at h2
     exact .inr h2
   · refine .inl ⟨x, by rw [List.length_take]; omega, ?_⟩
     rw [g (i + 1) x (by omega)] at h2
     rw [g i x (by omega)]; exact h2
 · rintro (⟨x, h1, h2⟩ | h2)
   · rw [List.length_take] at h1
     refine ⟨x, by rw [List.length_take]; omega, ?_⟩
     rw [g i x (by omega)] at h2
     rw [g (i + 1) x (by omega)]; exact h2
   · exact ⟨i, by rw [List.length_take]; omega, by rw [g (i + 1) i (by omega)]; exact h2⟩
theorem memS_some (sk x : Nat) (h : x ≠ 0) (hx : x < 2 ^ 64) : ∃ j, memS sk [x] j := by
 obtain ⟨i, hi⟩ := Nat.exists_testBit_of_ne_zero h
 have hi64 : i < 64 := by
  by_cases c : i < 64
  · exact c
  · exfalso
    have : x.testBit i = false := Nat.testBit_lt_two_pow (Nat.lt_of_lt_of_le hx (Nat.pow_le_pow_right (by omega) (by omega)))
    rw [this] at hi; cases hi
 refine ⟨sk * 64 + i, ?_⟩
 unfold memS
 rw [show (sk * 64 + i) / 64 = sk by omega, show (sk * 64 + i) % 64 = i by omega]
 exact ⟨Nat.le_refl _, by simpa using hi⟩
def dirT (back : Bool) (T : Nat → Nat → Prop) : Nat → Nat → Prop := fun i j => if back then T j i else T i j
inductive LayN (s : List UInt8) (R : Nat → Nat → Nat → Prop) (E : Nat → List Nat) (z : Nat) (back : Bool) : RT → Nat → Nat → Prop
 | one (t : RT) (e b : Nat) (hz : e ≠ z) (hE : E e = [b]) (hR : ∀ i j, R e i j ↔ dirT back (RT.M s t) i j) : LayN s R E z back t e b
 | cat (st : ByteArray) (n : Bool) (lo hi : Int) (x y : RT) (e m b : Nat) (h : LayN s R E z back (if back then y else x) e m) (h' : LayN s R E z back (if back then x else y) m b) : LayN s R E z back (.node 3 st n lo hi [x, y]) e b
 | alt (st : ByteArray) (n : Bool) (lo hi : Int) (x y : RT) (e p q b : Nat) (hz : e ≠ z) (hR : ∀ i j, R e i j ↔ i = j) (hE : E e = [p, q]) (h : LayN s R E z back x p b) (h' : LayN s R E z back y q b) : LayN s R E z back (.node 4 st n lo hi [x, y]) e b
theorem LayN.leads {s : List UInt8} {R : Nat → Nat → Nat → Prop} {E : Nat → List Nat} {z : Nat} {back : Bool} {t : RT} {e b : Nat} (h : LayN s R E z back t e b) : LeadsN R E z (dirT back (RT.M s t)) e b := by
 induction h with
 | one t e b hz hE hR => exact (LeadsN.one hz hE).congr hR
 | cat st n lo hi x y e m b _ _ ih ih' =>
   refine (ih.cat ih').congr fun i j => ?_
   cases back
   · simp only [dirT, Bool.false_eq_true, if_false]
     exact (RT.M_cat s st n lo hi x y i j).symm
   · simp only [dirT, if_true]
     rw [RT.M_cat]
     constructor
     · rintro ⟨k, a, c⟩; exact ⟨k, c, a⟩
     · rintro ⟨k, a, c⟩; exact ⟨k, c, a⟩
 | alt st n lo hi x y e p q b hz hR hE _ _ ih ih' =>
   refine (LeadsN.alt hz hR hE ih ih').congr fun i j => ?_
   cases back
   · simp only [dirT, Bool.false_eq_true, if_false]
     exact (RT.M_alt s st n lo hi x y i j).symm
   · simp only [dirT, if_true]
     exact (RT.M_alt s st n lo hi x y j i).symm
theorem dir_many (s : List UInt8) (back : Bool) (st : ByteArray) (n : Bool) (lo hi : Int) (k : RT) (i j : Nat) : dirT back (RT.M s (.node 5 st n lo hi [k])) i j ↔ often (dirT back (RT.M s k)) lo hi i j := by
 cases back
 · simp only [dirT, Bool.false_eq_true, if_false]
   exact RT.M_many s st n lo hi k i j
 · simp only [dirT, if_true]
   rw [RT.M_many]
   exact (often_conv (RT.M s k) lo hi i j).symm
theorem dir_many_loop (s : List UInt8) (back : Bool) (st : ByteArray) (n : Bool) (lo : Int) (h0 : 0 ≤ lo) (k : RT) (i j : Nat) : dirT back (RT.M s (.node 5 st n lo (-1) [k])) i j ↔ often (fun i j => ∃ m : Nat, rpow (dirT back (RT.M s k)) (m + 1) i j) lo (max lo 1) i j := by
 rw [dir_many, often_loop _ lo h0]
open Classical in
noncomputable def cntN (L : Nat) (P : Nat → Prop) : Nat := (List.range (L + 1)).countP (fun j => decide (P j))
open Classical in
theorem cntN_le (L : Nat) (P : Nat → Prop) : cntN L P ≤ L + 1 := by
 have := List.countP_le_length (p := fun j => decide (P j)) (l := List.range (L + 1))
 simpa [cntN] using this
open Classical in
theorem cntN_mono (L : Nat) {P Q : Nat → Prop} (h : ∀ j, P j → Q j) : cntN L P ≤ cntN L Q := by
 unfold cntN
 exact List.countP_mono_left (fun j _ hj => by simp only [decide_eq_true_eq] at hj ⊢; exact h j hj)
open Classical in
theorem countP_lt {α : Type} {p q : α → Bool} : ∀ (l : List α), (∀ x ∈ l, p x = true → q x = true) → (∃ x ∈ l, q x = true ∧ p x = false) → l.countP p < l.countP q
 | [], _, h => by obtain ⟨x, hx, _⟩ := h; cases hx
 | a :: l, h, ⟨x, hx, h1, h2⟩ => by
   have hm : l.countP p ≤ l.countP q := List.countP_mono_left (fun y hy => h y (List.mem_cons_of_mem _ hy))
   rw [List.countP_cons, List.countP_cons]
   rcases List.mem_cons.1 hx with e | e
   · subst e
     rw [if_pos h1, if_neg (by rw [h2]; simp)]; omega
   · have ih := countP_lt l (fun y hy => h y (List.mem_cons_of_mem _ hy)) ⟨x, e, h1, h2⟩
     by_cases c : p a = true
     · rw [if_pos c, if_pos (h a (by simp) c)]; omega
     · rw [if_neg c]
       split <;> omega
open Classical in
theorem cntN_lt (L : Nat) {P Q : Nat → Prop} (h : ∀ j, P j → Q j) (hx : ∃ j, j ≤ L ∧ Q j ∧ ¬ P j) : cntN L P < cntN L Q := by
 unfold cntN
 obtain ⟨j, h1, h2, h3⟩ := hx
 exact countP_lt _ (fun x _ hp => by simp only [decide_eq_true_eq] at hp ⊢; exact h x hp) ⟨j, List.mem_range.2 (by omega), by simpa using h2, by simpa using h3⟩
noncomputable def sumN (L : Nat) (ps : List Nat) (B : Nat → Nat → Prop) : Nat := (ps.map fun p => cntN L (B p)).sum
theorem sumN_le (L : Nat) (B : Nat → Nat → Prop) : ∀ ps : List Nat, sumN L ps B ≤ ps.length * (L + 1)
 | [] => by simp [sumN]
 | p :: ps => by
   have h1 := sumN_le L B ps
   have h2 := cntN_le L (B p)
   simp only [sumN, List.map_cons, List.sum_cons, List.length_cons, Nat.add_mul] at h1 ⊢
   omega
theorem sumN_mono (L : Nat) {B C : Nat → Nat → Prop} (h : ∀ p j, B p j → C p j) : ∀ ps : List Nat, sumN L ps B ≤ sumN L ps C
 | [] => by simp [sumN]
 | p :: ps => by
   have h1 := sumN_mono L h ps
   have h2 := cntN_mono L (h p)
   simp only [sumN, List.map_cons, List.sum_cons] at h1 ⊢
   omega
theorem sumN_lt (L : Nat) {B C : Nat → Nat → Prop} (h : ∀ p j, B p j → C p j) (q : Nat) (hx : ∃ j, j ≤ L ∧ C q j ∧ ¬ B q j) : ∀ ps : List Nat, q ∈ ps → sumN L ps B < sumN L ps C
 | [], hq => by cases hq
 | p :: ps, hq => by
   have h1 := sumN_mono L h ps
   have h2 := cntN_mono L (h p)
   rcases List.mem_cons.1 hq with e | e
   · subst e
     have h3 := cntN_lt L (h q) hx
     simp only [sumN, List.map_cons, List.sum_cons] at h1 ⊢
     omega
   · have ih := sumN_lt L h q hx ps e
     simp only [sumN, List.map_cons, List.sum_cons] at h1 ih ⊢
     omega
def dig36 (d : Nat) : UInt8 := if d < 10 then UInt8.ofNat (48 + d) else UInt8.ofNat (87 + d)
def undig36 (c : UInt8) : Nat := if c.toNat < 58 then c.toNat - 48 else c.toNat - 87
theorem undig_dig (d : Nat) (h : d < 36) : undig36 (dig36 d) = d := by
 unfold undig36 dig36
 by_cases c : d < 10
 · rw [if_pos c]
   have e : (UInt8.ofNat (48 + d)).toNat = 48 + d := by rw [UInt8.toNat_ofNat']; omega
   rw [e, if_pos (by omega)]; omega
 · rw [if_neg c]
   have e : (UInt8.ofNat (87 + d)).toNat = 87 + d := by rw [UInt8.toNat_ofNat']; omega
   rw [e, if_neg (by omega)]; omega
theorem dig_blank (d : Nat) (h : d < 36) : dig36 d ≠ 32 := by
 unfold dig36
 intro e
 have e' := congrArg UInt8.toNat e
 split at e' <;> (rw [UInt8.toNat_ofNat'] at e'; simp at e'; omega)
def d36 (n : Nat) : List UInt8 := if h : n < 36 then [dig36 n] else d36 (n / 36) ++ [dig36 (n % 36)]
termination_by n
decreasing_by omega
theorem d36_small (n : Nat) (h : n < 36) : d36 n = [dig36 n] := by rw [d36, dif_pos h]
theorem d36_big (n : Nat) (h : 36 ≤ n) : d36 n = d36 (n / 36) ++ [dig36 (n % 36)] := by rw [d36, dif_neg (by omega)]
def val36 (l : List UInt8) : Nat := l.foldl (fun a c => a * 36 + undig36 c) 0
theorem val36_d36 (n : Nat) : val36 (d36 n) = n := by
 induction n using Nat.strongRecOn with
 | _ n ih =>
   by_cases h : n < 36
   · rw [d36_small n h]; simp [val36, undig_dig n h]
   · rw [d36_big n (by omega)]
     have := ih (n / 36) (by omega)
     unfold val36 at this ⊢
     rw [List.foldl_append, this]
     simp only [List.foldl_cons, List.foldl_nil, undig_dig (n % 36) (Nat.mod_lt _ (by omega))]
     omega
theorem d36_blank (n : Nat) : ∀ c ∈ d36 n, c ≠ 32 := by
 induction n using Nat.strongRecOn with
 | _ n ih =>
   by_cases h : n < 36
   · rw [d36_small n h]; intro c hc; rw [List.mem_singleton] at hc; subst hc; exact dig_blank n h
   · rw [d36_big n (by omega)]
     intro c hc
     rcases List.mem_append.1 hc with hc | hc
     · exact ih (n / 36) (by omega) c hc
     · rw [List.mem_singleton] at hc; subst hc; exact dig_blank _ (Nat.mod_lt _ (by omega))
theorem d36_len (n k : Nat) (hn : n < 36 ^ (k + 1)) : (d36 n).length ≤ k + 1 := by
 induction k generalizing n with
 | zero => rw [d36_small n (by simpa using hn)]; simp
 | succ k ih =>
   by_cases h : n < 36
   · rw [d36_small n h]; simp
   · rw [d36_big n (by omega), List.length_append]
     have := ih (n / 36) (by rw [Nat.pow_succ] at hn; exact Nat.div_lt_of_lt_mul (by rw [Nat.mul_comm]; exact hn))
     simp; omega
def keyW (ws : List Nat) : List UInt8 := ws.flatMap fun x => 32 :: d36 x
def keyT (sk : Nat) (ws : List Nat) : List UInt8 := d36 sk ++ keyW ws
theorem keyT_snoc (sk : Nat) (ws : List Nat) (x : Nat) : keyT sk (ws ++ [x]) = keyT sk ws ++ [32] ++ d36 x := by
 simp [keyT, keyW, List.append_assoc]
theorem keyT_nil (sk : Nat) : keyT sk [] = d36 sk := by simp [keyT, keyW]
theorem cut32 : ∀ (a b X Y : List UInt8), (∀ c ∈ a, c ≠ 32) → (∀ c ∈ b, c ≠ 32) → (X = [] ∨ X.head? = some 32) → (Y = [] ∨ Y.head? = some 32) → a ++ X = b ++ Y → a = b ∧ X = Y
 | [], [], X, Y, _, _, _, _, h => ⟨rfl, by simpa using h⟩
 | [], c :: b, X, Y, _, hb, hX, _, h => by
   exfalso
   have h' : X = c :: (b ++ Y) := by simpa using h
   rcases hX with e | e
   · rw [e] at h'; simp at h'
   · rw [h'] at e; simp at e; exact hb c (by simp) e
 | c :: a, [], X, Y, ha, _, _, hY, h => by
   exfalso
   have h' : Y = c :: (a ++ X) := by simpa using h.symm
   rcases hY with e | e
   · rw [e] at h'; simp at h'
   · rw [h'] at e; simp at e; exact ha c (by simp) e
 | c :: a, d :: b, X, Y, ha, hb, hX, hY, h => by
   simp only [List.cons_append, List.cons.injEq] at h
   obtain ⟨e, h⟩ := h
   obtain ⟨e2, e3⟩ := cut32 a b X Y (fun x hx => ha x (by simp [hx])) (fun x hx => hb x (by simp [hx])) hX hY h
   exact ⟨by rw [e, e2], e3⟩
theorem keyW_head (ws : List Nat) : keyW ws = [] ∨ (keyW ws).head? = some 32 := by
 cases ws with
 | nil => exact .inl rfl
 | cons x ws => exact .inr (by simp [keyW])
theorem d36_inj {a b : Nat} (h : d36 a = d36 b) : a = b := by rw [← val36_d36 a, ← val36_d36 b, h]
theorem keyW_inj : ∀ (ws vs : List Nat), keyW ws = keyW vs → ws = vs
 | [], [], _ => rfl
 | [], y :: vs, h => by simp [keyW] at h
 | x :: ws, [], h => by simp [keyW] at h
 | x :: ws, y :: vs, h => by
   have h' : d36 x ++ keyW ws = d36 y ++ keyW vs := by simpa [keyW] using h
   obtain ⟨e1, e2⟩ := cut32 _ _ _ _ (d36_blank x) (d36_blank y) (keyW_head ws) (keyW_head vs) h'
   rw [d36_inj e1, keyW_inj ws vs e2]
theorem keyT_inj {sk sk' : Nat} {ws vs : List Nat} (h : keyT sk ws = keyT sk' vs) : sk = sk' ∧ ws = vs := by
 obtain ⟨e1, e2⟩ := cut32 _ _ _ _ (d36_blank sk) (d36_blank sk') (keyW_head ws) (keyW_head vs) h
 exact ⟨d36_inj e1, keyW_inj ws vs e2⟩
end Go.Proofs.YtcimhpdpfckgiaaGreatDoor.kit
namespace Go.Proofs.YtcimhpdpfckgiaaGreatDoor.kit
open Go.ChangeShapes Go.WideShapes Go.ChangeAt Go.RowKit
def CellsAre (w : World) : List (Nat × Nat × Value) → Prop
 | [] => True
 | x :: l => w.cell? ⟨x.1, x.2.1, none⟩ = some x.2.2 ∧ CellsAre w l
theorem CellsAre.step {w w' : World} (hb : Below w.heap.size w w') : ∀ (l : List (Nat × Nat × Value)), CellsAre w l → CellsAre w' l
 | [], _ => trivial
 | x :: l, h => ⟨(hb.cell (p := ⟨x.1, x.2.1, none⟩) (World.block_lt_of_cell? w ⟨x.1, x.2.1, none⟩ h.1)).trans h.1, CellsAre.step hb l h.2⟩
theorem CellsAre.drew {w : World} : ∀ (l : List (Nat × Nat × Value)), CellsAre w l → CellsAre w.drew l
 | [], _ => trivial
 | x :: l, h => ⟨h.1, CellsAre.drew l h.2⟩
def Held (W : World) (l : List (Nat × Nat × Value)) (w : World) : Prop := CellsAre w l ∧ Below W.heap.size W w
theorem Held.start {W : World} {l : List (Nat × Nat × Value)} (h : CellsAre W l) : Held W l W.drew := ⟨CellsAre.drew l h, (Below.refl _ _).drew⟩
theorem Held.step {W w w' : World} {l : List (Nat × Nat × Value)} (h : Held W l w) (hb : Below w.heap.size w w') : Held W l w' := ⟨CellsAre.step hb l h.1, h.2.trans (hb.mono h.2.size)⟩
theorem Held.below {W w : World} {l : List (Nat × Nat × Value)} (h : Held W l w) : Below W.heap.size W w := h.2
end Go.Proofs.YtcimhpdpfckgiaaGreatDoor.kit
