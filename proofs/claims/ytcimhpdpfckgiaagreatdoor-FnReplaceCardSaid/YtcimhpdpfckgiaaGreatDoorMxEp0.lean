/-
  Contracts of impl.isReplSign, impl.Escape and spec.Escape over this seat's translation. Conditions: a text of at most 1048576 bytes.
-/
import Derived.Test.YtcimhpdpfckgiaaGreatDoorMxInfo
import Derived.Test.YtcimhpdpfckgiaaGreatDoorMxKit
import Derived.ChangeKeysEq
set_option linter.unusedVariables false
namespace Go.Proofs.YtcimhpdpfckgiaaGreatDoor.kit
open Go.ChangeShapes Go.WideShapes Go.ChangeAt Go.RowKit
theorem app_litE (l m : List UInt8) : (⟨l.toArray⟩ : ByteArray) ++ ⟨m.toArray⟩ = ⟨(l ++ m).toArray⟩ := by
 apply ByteArray.ext; simp
theorem ext_oneE (s : ByteArray) (k : Nat) (h : k < s.size) : s.extract k (k + 1) = ⟨[s[k]].toArray⟩ := by
 apply ByteArray.ext
 apply Array.ext'
 rw [ByteArray.data_extract, Array.toList_extract]
 show List.take (k + 1 - k) (List.drop k s.data.toList) = [s[k]]
 rw [show k + 1 - k = 1 by omega, List.drop_eq_getElem_cons (by simpa using h)]
 rfl
def rsB (c : UInt8) : Bool := decide (c.toNat = 38 ∨ c.toNat = 92)
def escB (c : UInt8) : List UInt8 := if rsB c then [92, c] else [c]
def escL (l : List UInt8) : List UInt8 := l.flatMap escB
theorem escL_snoc (s : ByteArray) (k : Nat) (h : k < s.size) : escL (s.data.toList.take (k + 1)) = escL (s.data.toList.take k) ++ escB s[k] := by
 rw [take_snoc s k h]; simp [escL, List.flatMap_append]
theorem escL_len (l : List UInt8) : (escL l).length ≤ 2 * l.length := by
 induction l with
 | nil => simp [escL]
 | cons c l ih =>
   have : (escB c).length ≤ 2 := by unfold escB; split <;> simp
   simp only [escL, List.flatMap_cons, List.length_append, List.length_cons] at *; omega
theorem escL_bd (s : ByteArray) (k : Nat) (hs : s.size ≤ 1048576) : (escL (s.data.toList.take k)).length ≤ 2097152 := by
 have h1 := escL_len (s.data.toList.take k)
 have h2 : (s.data.toList.take k).length ≤ s.size := by rw [List.length_take]; simp; omega
 omega
theorem isRepl_any (c : UInt8) (w : World) :
 Calls Tryz.prog 30 #[.int .u8 (c.toNat : Int)] w fun e w' => e = .returned (.bool (rsB c)) ∧ w = w' := by
 by_cases h1 : c.toNat = 38
 · have E := qd (show rsB c = true by simp [rsB, h1])
   have e1 : ((c.toNat : Int) == 38) = true := by simp; omega
   clear h1
   go_enter Tryz.func30, Tryz.ntmps30
   go_wp2
   go_ret
   exact ⟨ret_bool E.out.symm, rfl⟩
 · have e1 : ((c.toNat : Int) == 38) = false := by simp; omega
   by_cases h2 : c.toNat = 92
   · have E := qd (show rsB c = true by simp [rsB, h2])
     have e2 : ((c.toNat : Int) == 92) = true := by simp; omega
     clear h1 h2
     go_enter Tryz.func30, Tryz.ntmps30
     go_wp2
     go_ret
     exact ⟨ret_bool E.out.symm, rfl⟩
   · have E := qd (show rsB c = false by simp [rsB, h1, h2])
     have e2 : ((c.toNat : Int) == 92) = false := by simp; omega
     clear h1 h2
     go_enter Tryz.func30, Tryz.ntmps30
     go_wp2
     go_ret
     exact ⟨ret_bool E.out.symm, rfl⟩
theorem escB_yes {c : UInt8} (h : rsB c = true) : escB c = [92] ++ [c] := by simp [escB, h]
theorem escB_no {c : UInt8} (h : rsB c = false) : escB c = [c] := by simp [escB, h]
set_option maxRecDepth 100000 in
set_option maxHeartbeats 1000000 in
theorem implEsc_any (s : ByteArray) (w : World) (hs : s.size ≤ 1048576) :
 Calls Tryz.prog 15 #[.string s] w fun e w' => e = .returned (.string ⟨(escL s.data.toList).toArray⟩) ∧ Below w.heap.size w w' := by
 have O0 := qd (own_start (e := 5) (w := w) (Nat.le_refl _))
 go_enter Tryz.func15, Tryz.ntmps15
 go_wp2
 go_loopw [3, 8] (fun v i wr => ∃ k : Nat, k ≤ s.size ∧ i = .int .i64 k ∧ Own 5 w.heap.size wr v (escL (s.data.toList.take k)) ∧ Below w.heap.size w wr) (fun _ i _ => s.size - (intOf i).toNat)
 case atStart => exact ⟨0, Nat.zero_le _, rfl, O0.out, (Below.refl _ _).alloc (Nat.le_refl _) _⟩
 case round =>
  obtain ⟨k, hk, rfl, hown, hbel⟩ := hrel
  have HO := qd hown
  have HB := qd hbel
  have hz := hbel.size
  have hlen := escL_bd s k hs
  clear hown hbel
  by_cases hlt : k < s.size
  · have HN := qd (escL_snoc s k hlt)
    have hlen2 : (escL (s.data.toList.take k) ++ [92]).length ≤ 2097153 := by simp; omega
    generalize escL (s.data.toList.take k) = xs at *
    cases hr : rsB s[k]
    · have HN := qd (HN.out.trans (by rw [escB_no hr]))
      have HC := qd (fun W => isRepl_any s[k] W)
      rw [hr] at HC
      clear hr
      have hl1 : xs.length + [s[k]].length ≤ 1099511627776 := by simp; omega
      go_wp2_with (first
       | (go_at_call 30; refine (HC.out _).mono ?_; rintro e w1 ⟨rfl, rfl⟩)
       | (at_builtin; refine wp_append_bytes Tryz.underlying22 Tryz.infoU8 rfl _ _ rfl w.heap.size _ _ rfl (HO.out.alloc _) ⟨wr.heap.size, 0, none⟩ 1 1 [s[k]] rfl rfl (news_one _ s[k] _) hl1 (by simp; omega) ?_; intro v' w3 hown3 hbel3))
      go_roundw
      case rel => exact ⟨k + 1, by omega, by go_num, by rw [HN.out]; exact hown3, (HB.out.alloc hz _).trans hbel3⟩
      case measure => simp [intOf]; omega
    · have HN := qd (HN.out.trans (by rw [escB_yes hr]))
      have HC := qd (fun W => isRepl_any s[k] W)
      rw [hr] at HC
      clear hr
      have hl1 : xs.length + [(92 : UInt8)].length ≤ 1099511627776 := by simp; omega
      have hl2 : (xs ++ [92]).length + [s[k]].length ≤ 1099511627776 := by simp at *; omega
      go_wp2_with (first
       | (go_at_call 30; refine (HC.out _).mono ?_; rintro e w1 ⟨rfl, rfl⟩)
       | (at_builtin; refine wp_append_bytes Tryz.underlying22 Tryz.infoU8 rfl (.tmp 15) (.tmp 16) rfl w.heap.size _ _ rfl (HO.out.alloc _) ⟨wr.heap.size, 0, none⟩ 1 1 [92] rfl rfl (news_one _ 92 _) hl1 (by simp; omega) ?_; intro v' w3 hown3 hbel3; have HO3 := qd hown3; have HB3 := qd hbel3; have hz3 := hbel3.size; have hz4 : w.heap.size ≤ w3.heap.size := (by simp at hz3; omega); clear hown3 hbel3 hz3)
       | (at_builtin; refine wp_append_bytes Tryz.underlying22 Tryz.infoU8 rfl (.tmp 18) (.tmp 22) rfl w.heap.size _ (xs ++ [92]) rfl (HO3.out.alloc _) ⟨w3.heap.size, 0, none⟩ 1 1 [s[k]] rfl rfl (news_one _ s[k] _) hl2 (by simp; omega) ?_; intro v4 w4 hown4 hbel4))
      go_roundw
      case rel => exact ⟨k + 1, by omega, by go_num, by rw [HN.out, ← List.append_assoc]; exact hown4, (((HB.out.alloc hz _).trans HB3.out).alloc (by omega) _).trans hbel4⟩
      case measure => simp [intOf]; omega
  · have E := qd (take_all s k (by omega))
    have hbk := HO.out.back (P := Tryz.prog) 22 9 Tryz.underlying22 Tryz.underlying5 Tryz.underlying9
    go_wp2
    go_ret
    exact ⟨ret_str (by rw [E.out]), HB.out⟩
set_option maxRecDepth 100000 in
set_option maxHeartbeats 1000000 in
theorem specEsc_any (s : ByteArray) (w : World) (hs : s.size ≤ 1048576) :
 Calls Tryz.prog 16 #[.string s] w fun e w' => e = .returned (.string ⟨(escL s.data.toList).toArray⟩) ∧ Below w.heap.size w w' := by
 go_enter Tryz.func16, Tryz.ntmps16
 go_wp2
 go_loop [3, 4] (fun o i => ∃ k : Nat, k ≤ s.size ∧ i = .int .i64 k ∧ o = .string ⟨(escL (s.data.toList.take k)).toArray⟩) (fun _ i => s.size - (intOf i).toNat)
 case atStart => exact ⟨0, Nat.zero_le _, rfl, rfl⟩
 case round =>
  obtain ⟨k, hk, rfl, rfl⟩ := hrel
  have hlen := escL_bd s k hs
  by_cases hlt : k < s.size
  · have HN := qd (escL_snoc s k hlt)
    have hsl : ∀ (W : World), (Instr.slice 9 (.string s) (some (.int .i64 (k : Int))) (some (.int .i64 ((k : Int) + 1))) none).run Tryz.prog W = .ok (.string ⟨[s[k]].toArray⟩) W := by
        intro W
        rw [run_slice_string W _ s .i64 .i64 _ _ Tryz.underlying9 (by omega) (by omega) (by omega), Int.toNat_natCast, show ((k : Int) + 1).toNat = k + 1 by omega, ext_oneE s k hlt]
    generalize escL (s.data.toList.take k) = xs at *
    by_cases h1 : s[k].toNat = 38
    · have e1 : ((s[k].toNat : Int) == 38) = true := by simp; omega
      have HN := qd (HN.out.trans (by rw [escB_yes (by simp [rsB, h1])]))
      clear h1
      go_wp2
      go_round
      case rel => exact ⟨k + 1, by omega, by go_num, by rw [HN.out, show (⟨#[92]⟩ : ByteArray) = ⟨[92].toArray⟩ from rfl, app_litE, app_litE]; simp⟩
      case measure => simp [intOf]; omega
    · have e1 : ((s[k].toNat : Int) == 38) = false := by simp; omega
      by_cases h2 : s[k].toNat = 92
      · have e2 : ((s[k].toNat : Int) == 92) = true := by simp; omega
        have HN := qd (HN.out.trans (by rw [escB_yes (by simp [rsB, h2])]))
        clear h1 h2
        go_wp2
        go_round
        case rel => exact ⟨k + 1, by omega, by go_num, by rw [HN.out, show (⟨#[92]⟩ : ByteArray) = ⟨[92].toArray⟩ from rfl, app_litE, app_litE]; simp⟩
        case measure => simp [intOf]; omega
      · have e2 : ((s[k].toNat : Int) == 92) = false := by simp; omega
        have HN := qd (HN.out.trans (by rw [escB_no (by simp [rsB, h1, h2])]))
        clear h1 h2
        go_wp2
        go_round
        case rel => exact ⟨k + 1, by omega, by go_num, by rw [HN.out, app_litE]⟩
        case measure => simp [intOf]; omega
  · have E := qd (take_all s k (by omega))
    go_wp2
    go_ret
    exact ⟨ret_str (by rw [E.out]), Below.refl _ _⟩
end Go.Proofs.YtcimhpdpfckgiaaGreatDoor.kit
namespace Go.Proofs.YtcimhpdpfckgiaaGreatDoor.kit
def putL (f : List UInt8) : List UInt8 → List UInt8
 | [] => []
 | [c] => if c = 38 then f else [c]
 | c :: d :: u => if c = 38 then f ++ putL f (d :: u) else if c = 92 ∧ rsB d = true then d :: putL f u else c :: putL f (d :: u)
theorem putL_amp (f t : List UInt8) : putL f (38 :: t) = f ++ putL f t := by
 cases t <;> simp [putL]
theorem putL_esc (f : List UInt8) (d : UInt8) (u : List UInt8) (h : rsB d = true) : putL f (92 :: d :: u) = d :: putL f u := by
 rw [putL, if_neg (by decide), if_pos ⟨rfl, h⟩]
theorem putL_one (f : List UInt8) (c : UInt8) (t : List UInt8) (h1 : c ≠ 38) (h2 : c = 92 → ∀ d u, t = d :: u → rsB d = false) : putL f (c :: t) = c :: putL f t := by
 cases t with
 | nil => simp [putL, h1]
 | cons d u =>
   rw [putL, if_neg h1]
   by_cases h : c = 92
   · rw [if_neg (by rw [h2 h d u rfl]; simp)]
   · rw [if_neg (by simp [h])]
def pqRep (n : Nat) (f : List UInt8) : List UInt8 := (List.replicate n f).flatten
theorem pqRep_zero (f : List UInt8) : pqRep 0 f = [] := rfl
theorem pqRep_succ (n : Nat) (f : List UInt8) : pqRep (n + 1) f = pqRep n f ++ f := by
 simp [pqRep, List.replicate_succ']
theorem pqRep_one (f : List UInt8) : pqRep 1 f = f := by simp [pqRep]
theorem pqRep_nil (n : Nat) : pqRep n [] = [] := by
 induction n with
 | zero => rfl
 | succ n ih => rw [pqRep_succ, ih]; rfl
theorem pqRep_len (n : Nat) (f : List UInt8) : (pqRep n f).length = n * f.length := by
 induction n with
 | zero => simp [pqRep]
 | succ n ih => rw [pqRep_succ, List.length_append, ih, Nat.succ_mul]
abbrev Pc := List UInt8 × Nat
def pqCat (f : List UInt8) (ps : List Pc) : List UInt8 := ps.flatMap fun p => p.1 ++ pqRep p.2 f
def pqSum : List Pc → Nat | [] => 0 | p :: ps => p.1.length + p.2 + pqSum ps
theorem pqCat_app (f : List UInt8) (ps qs : List Pc) : pqCat f (ps ++ qs) = pqCat f ps ++ pqCat f qs := by simp [pqCat]
theorem pqCat_one (f : List UInt8) (p : Pc) : pqCat f [p] = p.1 ++ pqRep p.2 f := by simp [pqCat]
theorem pqCat_cons (f : List UInt8) (p : Pc) (ps : List Pc) : pqCat f (p :: ps) = p.1 ++ pqRep p.2 f ++ pqCat f ps := by simp [pqCat]
theorem pqSum_app (ps qs : List Pc) : pqSum (ps ++ qs) = pqSum ps + pqSum qs := by
 induction ps with
 | nil => simp [pqSum]
 | cons p ps ih => simp only [List.cons_append, pqSum, ih]; omega
theorem pqCat_len (f : List UInt8) (ps : List Pc) : (pqCat f ps).length ≤ pqSum ps * (f.length + 1) := by
 induction ps with
 | nil => simp [pqCat, pqSum]
 | cons p ps ih =>
   rw [pqCat_cons]
   simp only [List.length_append, pqRep_len, pqSum]
   have h1 : p.2 * f.length ≤ p.2 * (f.length + 1) := Nat.mul_le_mul_left _ (Nat.le_succ _)
   have h2 : p.1.length ≤ p.1.length * (f.length + 1) := Nat.le_mul_of_pos_right _ (Nat.succ_pos _)
   rw [Nat.add_mul, Nat.add_mul]
   omega
theorem pqCat_bd (f : List UInt8) (ps : List Pc) (n : Nat) (h1 : pqSum ps ≤ n) (hn : n ≤ 1048576) (h2 : f.length ≤ 1048576) : (pqCat f ps).length ≤ 1099512676352 := by
 have h := pqCat_len f ps
 have h3 : pqSum ps * (f.length + 1) ≤ 1048576 * 1048577 := Nat.mul_le_mul (by omega) (by omega)
 omega
theorem pqSum_at (ps : List Pc) (k : Nat) (h : k < ps.length) : ps[k].1.length + ps[k].2 ≤ pqSum ps := by
 induction ps generalizing k with
 | nil => simp at h
 | cons p ps ih =>
   cases k with
   | zero => simp only [List.getElem_cons_zero, pqSum]; omega
   | succ k =>
     have := ih k (by simpa using h)
     simp only [List.getElem_cons_succ, pqSum]; omega
theorem pqSum_take (ps : List Pc) (k : Nat) : pqSum (ps.take k) ≤ pqSum ps := by
 conv => rhs; rw [← List.take_append_drop k ps, pqSum_app]
 omega
def PqAt (s : List UInt8) (ps : List Pc) (p : List UInt8) (t : Nat) (rest : List UInt8) : Prop :=
 (∀ f, pqCat f ps ++ (p ++ pqRep t f) ++ putL f rest = putL f s) ∧ pqSum ps + p.length + t + rest.length ≤ s.length ∧ ps.length ≤ pqSum ps
theorem PqAt.start (s : List UInt8) : PqAt s [] [] 0 s := ⟨fun f => by simp [pqCat, pqRep], by simp [pqSum], by simp [pqSum]⟩
theorem PqAt.amp {s : List UInt8} {ps : List Pc} {p : List UInt8} {t : Nat} {r : List UInt8} (h : PqAt s ps p t (38 :: r)) : PqAt s ps p (t + 1) r := by
 obtain ⟨h1, h2, h3⟩ := h
 refine ⟨fun f => ?_, by simp at h2; omega, h3⟩
 rw [← h1 f, putL_amp, pqRep_succ]; simp
theorem PqAt.flush {s : List UInt8} {ps : List Pc} {p : List UInt8} {t : Nat} {r : List UInt8} (h : PqAt s ps p t r) (ht : 0 < t) : PqAt s (ps ++ [(p, t)]) [] 0 r := by
 obtain ⟨h1, h2, h3⟩ := h
 refine ⟨fun f => ?_, ?_, ?_⟩
 · rw [← h1 f, pqCat_app, pqCat_one]; simp [pqRep]
 · rw [pqSum_app]; simp only [pqSum, List.length_nil]; omega
 · rw [pqSum_app, List.length_append]; simp only [pqSum, List.length_cons, List.length_nil]; omega
theorem PqAt.one {s : List UInt8} {ps : List Pc} {p : List UInt8} {c : UInt8} {r : List UInt8} (h : PqAt s ps p 0 (c :: r)) (h1 : c ≠ 38) (h2 : c = 92 → ∀ d u, r = d :: u → rsB d = false) : PqAt s ps (p ++ [c]) 0 r := by
 obtain ⟨g1, g2, g3⟩ := h
 refine ⟨fun f => ?_, by simp at g2 ⊢; omega, g3⟩
 rw [← g1 f, putL_one f c r h1 h2]; simp [pqRep]
theorem PqAt.esc {s : List UInt8} {ps : List Pc} {p : List UInt8} {d : UInt8} {r : List UInt8} (h : PqAt s ps p 0 (92 :: d :: r)) (h1 : rsB d = true) : PqAt s ps (p ++ [d]) 0 r := by
 obtain ⟨g1, g2, g3⟩ := h
 refine ⟨fun f => ?_, by simp at g2 ⊢; omega, g3⟩
 rw [← g1 f, putL_esc f d r h1]; simp [pqRep]
def PqAll (s : List UInt8) (ps : List Pc) : Prop := (∀ f, pqCat f ps = putL f s) ∧ pqSum ps ≤ s.length ∧ ps.length ≤ s.length + 1
theorem PqAt.done {s : List UInt8} {ps : List Pc} {p : List UInt8} {t : Nat} (h : PqAt s ps p t []) : PqAll s (ps ++ [(p, t)]) := by
 obtain ⟨h1, h2, h3⟩ := h
 refine ⟨fun f => ?_, ?_, ?_⟩
 · rw [← h1 f, pqCat_app, pqCat_one]; simp [putL]
 · rw [pqSum_app]; simp only [pqSum, List.length_nil] at h2 ⊢; omega
 · rw [List.length_append]; simp only [List.length_cons, List.length_nil] at h2 ⊢; omega
abbrev RmS := List UInt8 × Bool
def addR (size : Nat) (st : RmS) (s : List UInt8) (times : Nat) : RmS :=
 if s = [] then st else if size < st.1.length + times * s.length then (st.1, true) else (st.1 ++ pqRep times s, st.2)
theorem addR_fit {size : Nat} {st : RmS} {s : List UInt8} {times : Nat} (h : st.1.length + times * s.length ≤ size) : addR size st s times = (st.1 ++ pqRep times s, st.2) := by
 unfold addR
 by_cases h0 : s = []
 · rw [if_pos h0, h0, pqRep_nil, List.append_nil]
 · rw [if_neg h0, if_neg (by omega)]
theorem addR_le {size : Nat} {st : RmS} {s : List UInt8} {times : Nat} (h : st.1.length ≤ size) : (addR size st s times).1.length ≤ size := by
 unfold addR
 split
 · exact h
 · split
   · exact h
   · rw [List.length_append, pqRep_len]; omega
def putR (size : Nat) (f : List UInt8) (st : RmS) : List Pc → RmS
 | [] => st
 | p :: ps => putR size f (addR size (addR size st p.1 1) f p.2) ps
theorem putR_app (size : Nat) (f : List UInt8) (st : RmS) (ps qs : List Pc) : putR size f st (ps ++ qs) = putR size f (putR size f st ps) qs := by
 induction ps generalizing st with
 | nil => rfl
 | cons p ps ih => exact ih _
theorem putR_take (size : Nat) (f : List UInt8) (st : RmS) (ps : List Pc) (k : Nat) (h : k < ps.length) : putR size f st (ps.take (k + 1)) = addR size (addR size (putR size f st (ps.take k)) ps[k].1 1) f ps[k].2 := by
 rw [List.take_succ_eq_append_getElem h, putR_app]; rfl
theorem putR_fit {size : Nat} {f : List UInt8} {st : RmS} {ps : List Pc} (h : st.1.length + (pqCat f ps).length ≤ size) : putR size f st ps = (st.1 ++ pqCat f ps, st.2) := by
 induction ps generalizing st with
 | nil => simp [putR, pqCat]
 | cons p ps ih =>
   rw [pqCat_cons] at h ⊢
   simp only [List.length_append, pqRep_len] at h
   have e1 : addR size st p.1 1 = (st.1 ++ pqRep 1 p.1, st.2) := addR_fit (by omega)
   rw [putR, e1, addR_fit (by simp only [List.length_append, pqRep_len]; omega), ih (by simp only [List.length_append, pqRep_len]; omega), pqRep_one]
   simp
def repStep (s r : List UInt8) (st : List UInt8 × Nat) (p : Nat × Nat) : List UInt8 × Nat := (st.1 ++ ((s.take p.1).drop st.2 ++ putL ((s.take p.2).drop p.1) r), p.2)
def repSt (s r : List UInt8) (ps : List (Nat × Nat)) : List UInt8 × Nat := ps.foldl (repStep s r) ([], 0)
def repL (s r : List UInt8) (ps : List (Nat × Nat)) : List UInt8 := (repSt s r ps).1 ++ s.drop (repSt s r ps).2
theorem repSt_snoc (s r : List UInt8) (ps : List (Nat × Nat)) (p : Nat × Nat) : repSt s r (ps ++ [p]) = repStep s r (repSt s r ps) p := by
 unfold repSt; rw [List.foldl_append]; rfl
theorem repFold_len (s r : List UInt8) : ∀ (ps : List (Nat × Nat)) (st : List UInt8 × Nat), st.1.length ≤ (ps.foldl (repStep s r) st).1.length
 | [], st => Nat.le_refl _
 | p :: ps, st => by
   have h := repFold_len s r ps (repStep s r st p)
   have h2 : st.1.length ≤ (repStep s r st p).1.length := by simp [repStep]
   exact Nat.le_trans h2 h
theorem repSt_mono (s r : List UInt8) (ps qs : List (Nat × Nat)) : (repSt s r ps).1.length ≤ (repSt s r (ps ++ qs)).1.length := by
 unfold repSt; rw [List.foldl_append]; exact repFold_len s r qs _
theorem repL_mono (s r : List UInt8) (ps qs : List (Nat × Nat)) : (repSt s r ps).1.length ≤ (repL s r (ps ++ qs)).length := by
 have h := repSt_mono s r ps qs
 unfold repL; rw [List.length_append]; omega
def OkR (size : Nat) (st : RmS) (T : List UInt8) : Prop := (st.2 = true → size < T.length) ∧ (st.2 = false → st.1 = T ∧ T.length ≤ size)
theorem OkR.start (size : Nat) : OkR size ([], false) [] := ⟨fun h => by simp at h, fun _ => ⟨rfl, by simp⟩⟩
theorem OkR.add {size : Nat} {st : RmS} {T : List UInt8} (h : OkR size st T) (x : List UInt8) (n : Nat) : OkR size (addR size st x n) (T ++ pqRep n x) := by
 obtain ⟨h1, h2⟩ := h
 unfold addR
 by_cases c : x = []
 · rw [if_pos c, c, pqRep_nil, List.append_nil]; exact ⟨h1, h2⟩
 · rw [if_neg c]
   cases hb : st.2
   · obtain ⟨e, hl⟩ := h2 hb
     by_cases d : size < st.1.length + n * x.length
     · rw [if_pos d]
       exact ⟨fun _ => by rw [List.length_append, pqRep_len, ← e]; exact d, fun h => by simp at h⟩
     · rw [if_neg d]
       refine ⟨fun h => by simp at h, fun _ => ⟨by simp [e], ?_⟩⟩
       rw [List.length_append, pqRep_len, ← e]; omega
   · have hl := h1 hb
     split
     · exact ⟨fun _ => by rw [List.length_append]; omega, fun h => by simp at h⟩
     · exact ⟨fun _ => by rw [List.length_append]; omega, fun h => by simp at h⟩
theorem OkR.put {size : Nat} {f : List UInt8} : ∀ (ps : List Pc) {st : RmS} {T : List UInt8} (h : OkR size st T), OkR size (putR size f st ps) (T ++ pqCat f ps)
 | [], st, T, h => by simpa [putR, pqCat] using h
 | p :: ps, st, T, h => by
   have h3 := OkR.put ps ((h.add p.1 1).add f p.2) (f := f)
   rw [putR, pqCat_cons]
   rw [pqRep_one, List.append_assoc, List.append_assoc] at h3
   rw [List.append_assoc]
   exact h3
theorem OkR.step {size : Nat} {s r : List UInt8} {st : RmS} {ps : List (Nat × Nat)} {pc : List Pc} (h : OkR size st (repSt s r ps).1) (hp : PqAll r pc) (p : Nat × Nat) :
 OkR size (putR size ((s.take p.2).drop p.1) (addR size st ((s.take p.1).drop (repSt s r ps).2) 1) pc) (repSt s r (ps ++ [p])).1 := by
 have h2 := OkR.put (f := (s.take p.2).drop p.1) pc (h.add ((s.take p.1).drop (repSt s r ps).2) 1)
 rw [hp.1, pqRep_one] at h2
 rw [repSt_snoc]
 simp only [repStep]
 rw [← List.append_assoc]; exact h2
theorem OkR.fin {size : Nat} {s r : List UInt8} {st : RmS} {ps : List (Nat × Nat)} (h : OkR size st (repSt s r ps).1) : OkR size (addR size st (s.drop (repSt s r ps).2) 1) (repL s r ps) := by
 have h2 := h.add (s.drop (repSt s r ps).2) 1
 rw [pqRep_one] at h2
 exact h2
end Go.Proofs.YtcimhpdpfckgiaaGreatDoor.kit
namespace Go.Proofs.YtcimhpdpfckgiaaGreatDoor.kit
open Go.ChangeShapes Go.WideShapes Go.ChangeAt Go.RowKit
theorem infoIntA : (Tryz.prog.info? 3).isSome = true := by kernel_rfl
theorem cellsIntA : Tryz.prog.cellsOf 3 = 1 := by kernel_rfl
theorem eqPair_run (x y : Int) (W : World) : (Op.equalIn 10000 40 (.agg #[.int .i64 x, .int .i64 y]) (.agg #[.int .i64 x, .int .i64 y])).run Tryz.prog W = .ok true W := by
 obtain ⟨i, hi⟩ := Option.isSome_iff_exists.1 infoIntA
 rw [run_equalIn_array W 9999 _ _ Tryz.underlying40 hi]
 have e0 : ∀ (a : Int) (V : World), (Op.equalIn 9999 3 (.int .i64 a) (.int .i64 a)).run Tryz.prog V = .ok true V := fun a V => by
  rw [run_equalIn_int V 9998 _ _ _ _ _ Tryz.underlying3]; simp
 simp [Op.eqItems, List.range, List.range.loop, cellsIntA, go_sem, e0]
end Go.Proofs.YtcimhpdpfckgiaaGreatDoor.kit
