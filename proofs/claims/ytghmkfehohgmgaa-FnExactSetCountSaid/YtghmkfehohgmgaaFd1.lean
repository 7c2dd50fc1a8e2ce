/-
  Contracts of laws.szStringS, laws.szRec, laws.toStringS, laws.toRec over this seat's translation: what texts cost, and that they are copied. Conditions: each theorem names its own.
-/
import Derived.Test.YtghmkfehohgmgaaFd0
import Derived.Test.YtghmkfehohgmgaaMark
import Derived.Laws.MakeOwn
namespace Go.Proofs.Ytghmkfehohgmgaa.kit
open Go.ChangeShapes Go.WideShapes Go.ChangeAt Go.RowKit
set_option linter.unusedVariables false

/-- What texts cost a law's counter. -/
def costF : List (List UInt8) → Nat
  | [] => 0
  | t :: ts => t.length + costF ts
def billF (ts : List (List UInt8)) : Nat := ts.length + costF ts
theorem costF_take (ts : List (List UInt8)) (i : Nat) (h : i < ts.length) : costF (ts.take (i + 1)) = costF (ts.take i) + ts[i].length := by
  induction ts generalizing i with
  | nil => simp at h
  | cons t ts ih =>
    cases i with
    | zero => simp [costF]
    | succ i => simp only [List.take_succ_cons, costF, List.getElem_cons_succ]; rw [ih i (by simpa using h)]; omega
theorem costF_le (ts : List (List UInt8)) (i : Nat) : costF (ts.take i) ≤ costF ts := by
  induction ts generalizing i with
  | nil => simp [costF]
  | cons t ts ih =>
    cases i with
    | zero => simp [costF]
    | succ i => simp only [List.take_succ_cons, costF]; have := ih i; omega
/-- A row that is there, even where it holds nothing. -/
def Laid (n c : Nat) (a : Option Addr) (w : World) : Prop := n ≤ c ∧ ∃ g, a = some ⟨g, 0, none⟩ ∧ g < w.heap.size
theorem Laid.kept {n c : Nat} {a : Option Addr} {w w' : World} (h : Laid n c a w) (hb : w.heap.size ≤ w'.heap.size) : Laid n c a w' := by
  obtain ⟨h0, g, e, hg⟩ := h
  exact ⟨h0, g, e, Nat.lt_of_lt_of_le hg hb⟩
def leftF (left : Int) (cost : Nat) : Int := if (cost : Int) ≤ left then left - cost else -1
theorem leftF_neg {left : Int} {c : Nat} (h : left < c) : leftF left c = -1 := if_neg (by omega)
theorem leftF_pos {left : Int} {c : Nat} (h : (c : Int) ≤ left) : leftF left c = left - c := if_pos h
set_option maxRecDepth 100000 in
set_option maxHeartbeats 400000 in
theorem szStrs_any (ts : List (List UInt8)) (a : Option Addr) (cap : Nat) (left : Int) (w : World) (hk : Strs w ts a) (hl : ts.length ≤ maxLen) (h0 : 0 ≤ left) (h1 : left ≤ 1048576) :
    Calls Try.prog 19 #[.slice a ts.length cap, .int .i64 left] w fun e w' => e = .returned (.int .i64 (leftF left (billF ts))) ∧ Below w.heap.size w w' := by
  have HK := Lib.hid hk
  clear hk
  have hml : maxLen = 9223372036854775807 := rfl
  go_enter Try.func19, Try.ntmps19
  by_cases c : left < ts.length
  · go_wp2_with fail
    go_ret
    exact ⟨ret_int (leftF_neg (by simp only [billF]; omega)).symm, Below.refl _ _⟩
  · go_wp2_with fail
    go_loopw [1, 5] (fun l i wr => ∃ (k : Nat) (m : Int), k ≤ ts.length ∧ i = .int .i64 (k : Int) ∧ l = .int .i64 m ∧ m = left - ts.length - (costF (ts.take k) : Nat) ∧ 0 ≤ m ∧ Below w.heap.size w wr) (fun _ i _ => ts.length - (intOf i).toNat)
    case atStart => exact ⟨0, _, Nat.zero_le _, rfl, rfl, by simp [costF], by omega, Below.refl _ _⟩
    case round =>
      obtain ⟨k, m, hkl, rfl, rfl, hm, hm0, hb⟩ := hrel
      have HB := Lib.hid hb
      have HM := Lib.hid hm
      clear hb
      by_cases hlt : k < ts.length
      · obtain ⟨b, o, rfl, hbl, e1, f0⟩ := (HK.out.kept (Nat.le_refl _) HB.out) k hlt
        have HT := Lib.hid (costF_take ts k hlt)
        have HL := Lib.hid (costF_le ts (k + 1))
        generalize ts[k] = t at *
        unfold eS at e1
        generalize hs : (⟨t.toArray⟩ : ByteArray) = s at *
        have hsz : t.length = s.size := by subst hs; simp [ByteArray.size]
        rw [hsz] at f0 HT
        clear hs hsz
        have i0 : (0 : Int) ≤ (k : Int) := by omega
        have i1 : (k : Int) < (ts.length : Int) := by omega
        have hw : wrap64 (m - (s.size : Int)) = m - (s.size : Int) := by
          rw [hml] at f0
          unfold wrap64; omega
        have c4 : 0 ≤ left - (ts.length : Int) := by omega
        have c5 : (↑k < (↑ts.length : Int)) := by omega
        by_cases c2 : m < s.size
        · clear hm
          go_wp2_with fail
          go_ret
          exact ⟨ret_int (leftF_neg (by have := HM.out; have := HT.out; have := HL.out; simp only [billF]; omega)).symm, HB.out⟩
        · have c3 : 0 ≤ m - (s.size : Int) := by omega
          clear hm
          go_wp2_with fail
          go_roundw
          case rel => exact ⟨k + 1, m - s.size, by omega, by go_num, by go_num, by have := HM.out; have := HT.out; omega, c3, HB.out⟩
          case measure => simp [intOf]; omega
      · obtain rfl : k = ts.length := by omega
        clear hm
        go_wp2_with fail
        go_ret
        exact ⟨ret_int (by have := HM.out; rw [List.take_length] at this; rw [leftF_pos (by simp only [billF]; omega)]; simp only [billF]; omega), HB.out⟩

theorem madeF_at (n j : Nat) (h : j < n) : (madeCells #[Value.string ⟨#[]⟩] n)[j]'(by rw [size_madeCells]; exact h) = eS [] := by
  simp [madeCells, eS, Nat.mod_one]
/-- A row of n empty texts. -/
theorem slF_made {B : Nat} (w : World) (n : Nat) (e : TypeId) (hB : B ≤ w.heap.size) : SlF B (w.alloc (.cells (madeCells #[Value.string ⟨#[]⟩] n) e)) (some ⟨w.heap.size, 0, none⟩) n (fun _ => []) := by
  intro j hj
  refine ⟨w.heap.size, rfl, hB, by simp, ?_, ?_⟩
  · rw [World.cell?_alloc_at _ _ _ _ rfl]
    rw [Array.getElem?_eq_getElem (by rw [size_madeCells]; exact hj), madeF_at n j hj]
  · have hb := heap_alloc_new w (.cells (madeCells #[Value.string ⟨#[]⟩] n) e)
    simp only [World.frozen?, hb]
    simp
theorem make_strs (w : World) (n : Nat) (hn : n ≤ 1048576) :
    (Instr.makeSlice 28 (.int .i64 (n : Int)) (.int .i64 (n : Int))).run Try.prog w = .ok (.slice (some ⟨w.heap.size, 0, none⟩) n n) (w.alloc (.cells (madeCells #[Value.string ⟨#[]⟩] n) 9)) := by
  have hcc : (Value.string ⟨#[]⟩).cells = #[Value.string ⟨#[]⟩] := rfl
  obtain ⟨i0, hi, hz0, hz1, hz2⟩ := info_parts Try.infoStr
  have h := run_make (P := Try.prog) w 28 9 i0 _ Try.underlying28 hi hz0 .i64 .i64 n n (by omega) (by omega) (by rw [hz2]; omega) (by omega)
  rw [hz1, hcc] at h
  simpa using h
set_option maxRecDepth 100000 in
set_option maxHeartbeats 1000000 in
theorem toStrs_any (ts : List (List UInt8)) (a : Option Addr) (cap : Nat) (w : World) (hk : Strs w ts a) (hl : ts.length ≤ 1048576) :
    Calls Try.prog 21 #[.slice a ts.length cap] w fun e w' => ∃ (a' : Option Addr) (cap' : Nat), e = .returned (.slice a' ts.length cap') ∧ SlF w.heap.size w' a' ts.length (fun j => ts.getD j []) ∧ Laid ts.length cap' a' w' ∧ Below w.heap.size w w' := by
  have HK := Lib.hid hk
  clear hk
  have hmk := make_strs w ts.length hl
  have H0 := Lib.hid (slF_made (B := w.heap.size) w ts.length 9 (Nat.le_refl _))
  have hn : ts.length = ts.length := rfl
  go_enter Try.func21, Try.ntmps21
  go_wp2_with fail
  go_loopw [4] (fun i wr => ∃ k : Nat, k ≤ ts.length ∧ i = .int .i64 (k : Int) ∧ SlF w.heap.size wr (some ⟨w.heap.size, 0, none⟩) ts.length (fun j => if j < k then ts.getD j [] else []) ∧ w.heap.size < wr.heap.size ∧ Below w.heap.size w wr) (fun i _ => ts.length - (intOf i).toNat)
  case atStart => exact ⟨0, Nat.zero_le _, rfl, by simpa using H0.out, by simp, (Below.refl _ _).alloc (Nat.le_refl _) _⟩
  case round =>
    obtain ⟨k, hkl, rfl, hh, hz, hb⟩ := hrel
    have HB := Lib.hid hb
    have HH := Lib.hid hh
    clear hb hh
    by_cases hlt : k < ts.length
    · obtain ⟨b, o, rfl, hbl, e1, f0⟩ := (HK.out.kept (Nat.le_refl _) HB.out) k hlt
      obtain ⟨g, hg0, hg1, hg2, hg3, hg4⟩ := HH.out k hlt
      cases hg0
      have HN := Lib.hid (HH.out.store k hlt ts[k])
      have hkk : ts.getD k [] = ts[k] := by rw [List.getD_eq_getElem?_getD, List.getElem?_eq_getElem hlt]; rfl
      have HX := Lib.hid hkk
      clear hkk
      generalize (if k < k then ts.getD k [] else []) = y at hg3
      generalize ts[k] = t at *
      unfold eS at e1 hg3 HN
      have i0 : (0 : Int) ≤ (k : Int) := by omega
      have i1 : (k : Int) < (ts.length : Int) := by omega
      go_wp2_with fail
      go_roundw
      case rel => exact ⟨k + 1, by omega, by go_num, HN.out.congr (fun j hj => by
          by_cases e : j = k
          · subst e; simp; exact HX.out.symm
          · by_cases e2 : j < k
            · simp [e, e2, show j < k + 1 by omega]
            · simp [e, e2, show ¬ j < k + 1 by omega]), by simpa using hz, HB.out.setCell (Nat.le_refl _) _⟩
      case measure => simp [intOf]; omega
    · obtain rfl : k = ts.length := by omega
      go_wp2_with fail
      go_ret
      exact ⟨_, _, rfl, HH.out.congr (fun j hj => by simp [hj]), ⟨Nat.le_refl _, _, rfl, hz⟩, HB.out⟩
theorem SlF.set {B : Nat} {w : World} {a : Option Addr} {n : Nat} {f : Nat → List UInt8} (h : SlF B w a n f) (g o : Nat) (hg : g < B) (v : Value) : SlF B (w.setCell ⟨g, o, none⟩ v) a n f := by
  intro j hj
  obtain ⟨g', e, h1, h2, h3, h4⟩ := h j hj
  refine ⟨g', e, h1, by simpa using h2, ?_, by rw [World.frozen?_setCell]; exact h4⟩
  rw [World.cell?_setCell_other w _ _ _ (by intro y; injection y; omega), h3]
theorem SlF.mono {B B' : Nat} {w : World} {a : Option Addr} {n : Nat} {f : Nat → List UInt8} (h : SlF B w a n f) (hB : B' ≤ B) : SlF B' w a n f := by
  intro j hj
  obtain ⟨g', e, h1, h2⟩ := h j hj
  exact ⟨g', e, Nat.le_trans hB h1, h2⟩
theorem bcellF {C : Nat} {w w' : World} (h : Below C w w') : (∀ b o, b < C → w'.cell? ⟨b, o, none⟩ = w.cell? ⟨b, o, none⟩) ∧ ∀ b o, b < C → w'.frozen? ⟨b, o, none⟩ = w.frozen? ⟨b, o, none⟩ :=
  ⟨fun b o hb => h.cell (p := ⟨b, o, none⟩) hb, fun b o hb => h.frozen (p := ⟨b, o, none⟩) hb⟩
set_option maxRecDepth 100000 in
theorem toRec_any (l : List UInt8) (ts : List (List UInt8)) (a : Option Addr) (cap : Nat) (w : World) (hk : Strs w ts a) (hl : ts.length ≤ 1048576) :
    Calls Try.prog 16 #[recV l a ts.length cap] w fun e w' => ∃ (a' : Option Addr) (cap' : Nat), e = .returned (recV l a' ts.length cap') ∧ SlF w.heap.size w' a' ts.length (fun j => ts.getD j []) ∧ Laid ts.length cap' a' w' ∧ Below w.heap.size w w' := by
  unfold recV eS
  have HK := Lib.hid hk
  clear hk
  generalize (⟨l.toArray⟩ : ByteArray) = s
  have HB := Lib.hid (show ∀ o1 o2 o3, Below w.heap.size w (((w.alloc o1).alloc o2).alloc o3) from fun o1 o2 o3 => ((((Below.refl w.heap.size w).alloc (Nat.le_refl _) _).alloc (by simp) _).alloc (by simp; omega) _))
  go_enter Try.func16, Try.ntmps16
  go_wp2_with fail
  refine (toStrs_any ts a cap _ (HK.out.kept (Nat.le_refl _) (HB.out _ _ _)) hl).mono ?_
  rintro e w1 ⟨a', cap', rfl, hk1, hcp, hb1⟩
  obtain ⟨hc1, hf1⟩ := bcellF hb1
  have HK1 := Lib.hid hk1
  have HB1 := Lib.hid hb1
  have HCP := Lib.hid hcp
  clear hk1 hb1 hcp
  go_wp2_with fail
  exact bodyPost_ret (v := .agg #[.string s, .slice a' ts.length cap']) (by simp [results, Try.results16, go_sem, hc1]) rfl ⟨a', cap', rfl, (((HK1.out.set (w.heap.size + 1 + 1) 1 (by simp; try omega) _).set (w.heap.size + 1) 0 (by simp; try omega) _).set (w.heap.size + 1) 1 (by simp; try omega) _).mono (by simp; try omega), HCP.out.kept (by simp), ((((HB.out _ _ _).trans (HB1.out.mono (HB.out _ _ _).size)).setCell (p := ⟨w.heap.size + 1 + 1, 1, none⟩) (by simp; try omega) _).setCell (p := ⟨w.heap.size + 1, 0, none⟩) (by simp; try omega) _).setCell (p := ⟨w.heap.size + 1, 1, none⟩) (by simp; try omega) _⟩
set_option maxRecDepth 100000 in
theorem szRec_any (l : List UInt8) (ts : List (List UInt8)) (a : Option Addr) (cap : Nat) (left : Int) (w : World) (hk : Strs w ts a) (hl : ts.length ≤ maxLen) (hs : l.length ≤ maxLen) (h0 : 0 ≤ left) (h1 : left ≤ 1048576) :
    Calls Try.prog 14 #[recV l a ts.length cap, .int .i64 left] w fun e w' => e = .returned (.int .i64 (leftF left (l.length + billF ts))) ∧ Below w.heap.size w w' := by
  unfold recV eS
  have HK := Lib.hid hk
  clear hk
  have hsz : l.length = (⟨l.toArray⟩ : ByteArray).size := by simp [ByteArray.size]
  rw [hsz] at hs ⊢
  generalize (⟨l.toArray⟩ : ByteArray) = s at *
  have hml : maxLen = 9223372036854775807 := rfl
  have hw : wrap64 (left - (s.size : Int)) = left - (s.size : Int) := by
    rw [hml] at hs
    unfold wrap64; omega
  have HB := Lib.hid (fun o => (Below.refl w.heap.size w).alloc (Nat.le_refl _) o)
  by_cases c : left < s.size
  · rw [leftF_neg (by omega)]
    go_enter Try.func14, Try.ntmps14
    go_wp2_with fail
    go_ret
    exact ⟨rfl, HB.out _⟩
  · have HS := Lib.hid (fun W (h : Strs W ts a) => szStrs_any ts a cap (left - s.size) W h hl (by omega) (by omega))
    have c3 : 0 ≤ left - (s.size : Int) := by omega
    by_cases c2 : left - (s.size : Int) < billF ts
    · rw [leftF_neg (by omega)]
      rw [leftF_neg (by omega)] at HS
      go_enter Try.func14, Try.ntmps14
      go_wp2_with fail
      refine (HS.out _ (HK.out.kept (Nat.le_refl _) (HB.out _))).mono ?_
      rintro e w1 ⟨rfl, hb1⟩
      go_wp2_with fail
      go_ret
      exact ⟨rfl, (HB.out _).trans (hb1.mono (HB.out _).size)⟩
    · rw [leftF_pos (by omega)]
      rw [leftF_pos (by omega)] at HS
      have e1 : left - ((s.size + billF ts : Nat) : Int) = left - (s.size : Int) - (billF ts : Int) := by omega
      rw [e1]
      have c4 : 0 ≤ left - (s.size : Int) - (billF ts : Int) := by omega
      go_enter Try.func14, Try.ntmps14
      go_wp2_with fail
      refine (HS.out _ (HK.out.kept (Nat.le_refl _) (HB.out _))).mono ?_
      rintro e w1 ⟨rfl, hb1⟩
      go_wp2_with fail
      go_ret
      exact ⟨rfl, (HB.out _).trans (hb1.mono (HB.out _).size)⟩
end Go.Proofs.Ytghmkfehohgmgaa.kit
