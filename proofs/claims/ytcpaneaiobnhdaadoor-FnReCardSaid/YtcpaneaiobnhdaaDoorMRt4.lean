/-
 Plain facts on a set's text, of no program. Conditions: each theorem names its own.
-/
import Derived.Test.YtcpaneaiobnhdaaDoorMRt2
import Derived.Test.YtcpaneaiobnhdaaDoorMRt0
import Derived.Deep.LoopGhost
namespace Go.Proofs.YtcpaneaiobnhdaaDoor.kit
open Go.ChangeShapes Go.WideShapes Go.ChangeAt Go.RowKit
set_option linter.unusedVariables false

def plainC (c : UInt8) : Bool := !(c == 93) && !(c == 94) && !(c == 45)
def others (l : List UInt8) : List UInt8 := l.filter plainC
def optC (c : UInt8) (l : List UInt8) : List UInt8 := if l.contains c then [c] else []
def setBody (l : List UInt8) : List UInt8 := optC 93 l ++ rTxt (others l) 0 ++ optC 94 l ++ optC 45 l
def setTxt (l : List UInt8) (n : Bool) : List UInt8 :=
 if l.length = 1 ∧ n = false then byTxt (l.getD 0 0) else if l = [45, 94] ∧ n = false then [91, 45, 94, 93] else (if n = true then [91, 94] else [91]) ++ setBody l ++ [93]
theorem optC_len (c : UInt8) (l : List UInt8) : (optC c l).length ≤ 1 := by
 unfold optC; split <;> simp
theorem optC_next (c d : UInt8) (l : List UInt8) : optC c (l ++ [d]) = if d = c then [c] else optC c l := by
 unfold optC
 by_cases h : d = c
 ·subst h; simp
 ·rw [if_neg h]
  have : (l ++ [d]).contains c = l.contains c := by
   rw [Bool.eq_iff_iff]
   simp only [List.contains_iff_mem, List.mem_append, List.mem_singleton]
   constructor
   ·rintro (h1 | h1)
    ·exact h1
    ·exact absurd h1.symm h
   ·exact .inl
  rw [this]
theorem others_next (d : UInt8) (l : List UInt8) : others (l ++ [d]) = if plainC d = true then others l ++ [d] else others l := by
 unfold others
 rw [List.filter_append]
 by_cases h : plainC d = true
 ·rw [if_pos h]; simp [h]
 ·rw [if_neg h]; simp [h]
theorem others_len (l : List UInt8) : (others l).length ≤ l.length := List.length_filter_le _ _
theorem rTxt_len (l : List UInt8) (i : Nat) : (rTxt l i).length ≤ l.length - i := by
 by_cases h : i < l.length
 ·rw [rTxt_go h, List.length_append]
  have h1 := piece_len l i (rEnd l (i + 1))
  have h2 := rEnd_ge l (i + 1)
  have h3 := rEnd_le l (i + 1) (by omega)
  have h4 := rTxt_len l (rEnd l (i + 1))
  omega
 ·rw [rTxt_end h]; simp
termination_by l.length - i
theorem rTxt_head (l : List UInt8) (h : l ≠ []) : ∃ r, rTxt l 0 = l.getD 0 0 :: r := by
 have hl : 0 < l.length := List.length_pos_iff.2 h
 rw [rTxt_go hl]
 have h2 := rEnd_ge l (0 + 1)
 by_cases c : 3 ≤ rEnd l (0 + 1) - 0
 ·rw [piece_long c]; exact ⟨_, rfl⟩
 ·rw [piece_short c]
  cases l with
  | nil => exact absurd rfl h
  | cons a l =>
   obtain ⟨m, hm⟩ : ∃ m, rEnd (a :: l) (0 + 1) - 0 = m + 1 := ⟨rEnd (a :: l) (0 + 1) - 1, by omega⟩
   rw [hm]
   exact ⟨l.take m ++ rTxt (a :: l) (rEnd (a :: l) (0 + 1)), by simp⟩
theorem asc_two {l : List UInt8} (ha : RT.asc l = true) (hm : ∀ c ∈ l, c = 45 ∨ c = 94) (h1 : l ≠ []) (h2 : l.length ≠ 1) : l = [45, 94] := by
 match l, ha, hm, h1, h2 with
 | [], _, _, h1, _ => exact absurd rfl h1
 | [a], _, _, _, h2 => exact absurd rfl h2
 | a :: b :: r, ha, hm, _, _ =>
  simp only [RT.asc, Bool.and_eq_true, decide_eq_true_eq] at ha
  have e1 := hm a (by simp)
  have e2 := hm b (by simp)
  have f : a = 45 ∧ b = 94 := by
   rcases e1 with rfl | rfl <;> rcases e2 with rfl | rfl
   ·exact absurd ha.1 (by decide)
   ·exact ⟨rfl, rfl⟩
   ·exact absurd ha.1 (by decide)
   ·exact absurd ha.1 (by decide)
  obtain ⟨rfl, rfl⟩ := f
  cases r with
  | nil => rfl
  | cons d r =>
   have e3 := hm d (by simp)
   have h3 := ha.2
   simp only [RT.asc] at h3
   cases r with
   | nil =>
    simp only [RT.asc, Bool.and_eq_true, decide_eq_true_eq] at h3
    rcases e3 with rfl | rfl
    ·exact absurd h3.1 (by decide)
    ·exact absurd h3.1 (by decide)
   | cons e r =>
    simp only [RT.asc, Bool.and_eq_true, decide_eq_true_eq] at h3
    rcases e3 with rfl | rfl
    ·exact absurd h3.1 (by decide)
    ·exact absurd h3.1 (by decide)
/-- A set's text begins with ^ only where it is - and ^ alone. -/
theorem body_head {l : List UInt8} (ha : RT.asc l = true) (h1 : l ≠ []) (h2 : l.length ≠ 1) : ∃ c r, setBody l = c :: r ∧ (c = 94 ↔ l = [45, 94]) := by
 unfold setBody
 by_cases h93 : l.contains 93 = true
 ·have e93 : optC 93 l = [93] := by unfold optC; rw [if_pos h93]
  refine ⟨93, rTxt (others l) 0 ++ optC 94 l ++ optC 45 l, by rw [e93]; simp, ?_⟩
  constructor
  ·intro h; exact absurd h (by decide)
  ·intro h; rw [h] at h93; exact absurd h93 (by decide)
 ·have e93 : optC 93 l = [] := by unfold optC; rw [if_neg h93]
  rw [e93]
  by_cases ho : others l = []
  ·have hm : ∀ c ∈ l, c = 45 ∨ c = 94 := by
    intro c hc
    have h3 : ¬ plainC c = true := by
     intro h
     have : c ∈ others l := List.mem_filter.2 ⟨hc, h⟩
     rw [ho] at this; cases this
    have h4 : c ≠ 93 := by
     intro h; subst h; exact h93 (by simpa using hc)
    simp only [plainC, Bool.and_eq_true, Bool.not_eq_true', beq_eq_false_iff_ne, ne_eq] at h3
    by_cases h5 : c = 45
    ·exact .inl h5
    ·by_cases h6 : c = 94
     ·exact .inr h6
     ·exact absurd ⟨⟨h4, h6⟩, h5⟩ h3
   have e := asc_two ha hm h1 h2
   subst e
   refine ⟨94, [45], ?_, by simp⟩
   rw [ho, rTxt_end (by simp)]
   decide
  ·obtain ⟨r, hr⟩ := rTxt_head (others l) ho
   refine ⟨(others l).getD 0 0, r ++ optC 94 l ++ optC 45 l, by rw [hr]; simp, ?_⟩
   have hp : plainC ((others l).getD 0 0) = true := by
    have : (others l).getD 0 0 ∈ others l := by
     cases h : others l with
     | nil => exact absurd h ho
     | cons a r => simp
    exact (List.mem_filter.1 this).2
   constructor
   ·intro h; rw [h] at hp; exact absurd hp (by decide)
   ·intro h; subst h; exact absurd (by decide) ho
end Go.Proofs.YtcpaneaiobnhdaaDoor.kit
/-
 Contract of impl.setText over this seat's translation: the text of a set. Conditions: the set has at most 1048576 bytes.
-/
namespace Go.Proofs.YtcpaneaiobnhdaaDoor.kit
open Go.ChangeShapes Go.WideShapes Go.ChangeAt Go.RowKit
set_option linter.unusedVariables false

theorem Own.bytesAt {B : Nat} {w : World} {v : Value} {xs : List UInt8} (h : Own 5 B w v xs) : ∃ (a : Option Addr) (cap : Nat), v = .slice a xs.length cap ∧ xs.length ≤ cap ∧ cap ≤ maxLen ∧ BytesAt w a xs := by
 have h0 := h
 rcases h.2 with ⟨rfl, hn0⟩ | ⟨g, cap, cur, rfl, hb, hg, hcap, hmax, _, _⟩
 ·have : xs = [] := List.length_eq_zero_iff.1 hn0
  subst this
  exact ⟨none, 0, rfl, by simp, by simp, .inl rfl⟩
 ·refine ⟨_, cap, rfl, hcap, hmax, .inr ⟨g, 0, rfl, (Array.getElem?_eq_some_iff.1 hg).1, fun j hj => ?_⟩⟩
  have h2 : w.ownsRow B 5 1 (.slice (some ⟨g, 0, none⟩) xs.length cap) xs.length (xs.map fun c => .int .u8 (c.toNat : Int)) := h0
  rw [Nat.zero_add, World.ownsRow.cellAt h2 j (by omega), List.getD_eq_getElem?_getD]
  simp [hj]
theorem byte_eq (c : UInt8) (m : Nat) (hm : m < 256) : ((c.toNat : Int) == (m : Int)) = (c == UInt8.ofNat m) := by
 rw [Bool.eq_iff_iff]
 simp only [beq_iff_eq]
 constructor
 ·intro h; apply UInt8.toNat.inj; rw [UInt8.toNat_ofNat']; omega
 ·rintro rfl; rw [UInt8.toNat_ofNat']; omega
theorem join6 (a b c d e f : List UInt8) : Value.string ((((((⟨a.toArray⟩ : ByteArray) ++ ⟨b.toArray⟩) ++ ⟨c.toArray⟩) ++ ⟨d.toArray⟩) ++ ⟨e.toArray⟩) ++ ⟨f.toArray⟩) = .string ⟨(a ++ (b ++ c ++ d ++ e) ++ f).toArray⟩ := by
 rw [app_lit, app_lit, app_lit, app_lit, app_lit]
 simp only [List.append_assoc]
set_option maxRecDepth 100000 in
set_option maxHeartbeats 8000000 in
theorem setText_main (s : ByteArray) (n z1 z2 : Bool) (w : World) (hs : s.size ≤ 1048576) (c1 : ((s.size : Int) == 1) = z1) (c2 : (s.toList == [45, 94]) = z2) (hz1 : (z1 && !n) = false) (hz2 : (z2 && !n) = false) :
  Calls Tryd.prog 40 #[.string s, .bool n] w fun e w' => e = .returned (.string ⟨((if n = true then [91, 94] else [91]) ++ setBody s.data.toList ++ [93]).toArray⟩) ∧ Below w.heap.size w w' := by
 have HL := Lib.hid (show s.data.toList.length = s.size by simp)
 have HO0 := Lib.hid (own_start (e := 5) (B := w.heap.size) (w := w) (Nat.le_refl _))
 have HTA := Lib.hid (take_all s s.size (Nat.le_refl _))
 cases n <;> cases z1 <;> cases z2 <;> first | exact absurd hz1 (by decide) | exact absurd hz2 (by decide) | clear hz1 hz2
 all_goals
  go_enter Tryd.func40, Tryd.ntmps40
  go_wp2_with fail
  go_loopg [6, 7, 8, 9, 31] s.size (fun g f h t o i wr => ∃ (v : Value) (k : Nat), k ≤ s.size ∧ g = s.size - k ∧ i = .int .i64 (k : Int) ∧ f = .string ⟨(optC 93 (s.data.toList.take k)).toArray⟩ ∧ h = .string ⟨(optC 94 (s.data.toList.take k)).toArray⟩ ∧ t = .string ⟨(optC 45 (s.data.toList.take k)).toArray⟩ ∧ o = v ∧ Own 5 w.heap.size wr v (others (s.data.toList.take k)) ∧ Below w.heap.size w wr)
  case atStart => exact ⟨_, 0, Nat.zero_le _, rfl, rfl, rfl, rfl, rfl, rfl, HO0.out, (Below.refl _ _).alloc (Nat.le_refl _) _⟩
  case round =>
   obtain ⟨v, k, hk, rfl, rfl, rfl, rfl, rfl, rfl, hown, hb⟩ := hrel
   have HO := Lib.hid hown
   have HB := Lib.hid hb
   have hz := hb.size
   clear hown hb
   by_cases hlt : k < s.size
   ·have HT := Lib.hid (take_snoc s k hlt)
    have hl1 : (others (s.data.toList.take k)).length ≤ 1048576 := by
     have h1 := others_len (s.data.toList.take k)
     rw [List.length_take] at h1; omega
    generalize s.data.toList.take k = T at *
    have hk0 : (0 : Int) ≤ k := by omega
    have hk1 : (k : Int) < s.size := by omega
    have b93 := byte_eq s[k] 93 (by omega)
    have b94 := byte_eq s[k] 94 (by omega)
    have b45 := byte_eq s[k] 45 (by omega)
    have hkk : k < s.size := hlt
    by_cases e93 : s[k] = 93
    ·have d93 : ((s[k].toNat : Int) == 93) = true := by rw [show (93 : Int) = ((93 : Nat) : Int) from rfl, b93, e93]; rfl
     have H1 := Lib.hid (show optC 93 (s.data.toList.take (k + 1)) = [93] by rw [HT.out, optC_next, if_pos e93])
     have H2 := Lib.hid (show optC 94 (s.data.toList.take (k + 1)) = optC 94 T by rw [HT.out, optC_next, if_neg (by rw [e93]; decide)])
     have H3 := Lib.hid (show optC 45 (s.data.toList.take (k + 1)) = optC 45 T by rw [HT.out, optC_next, if_neg (by rw [e93]; decide)])
     have H4 := Lib.hid (show others (s.data.toList.take (k + 1)) = others T by rw [HT.out, others_next, if_neg (by rw [e93]; decide)])
     clear b93 b94 b45 e93
     go_wp2_with fail
     go_roundg (s.size - (k + 1))
     case rel => exact ⟨_, k + 1, by omega, rfl, by go_num, by rw [H1.out], by rw [H2.out], by rw [H3.out], rfl, by rw [H4.out]; exact HO.out, HB.out⟩
     case measure => omega
    ·have d93 : ((s[k].toNat : Int) == 93) = false := by rw [show (93 : Int) = ((93 : Nat) : Int) from rfl, b93]; simpa using e93
     by_cases e94 : s[k] = 94
     ·have d94 : ((s[k].toNat : Int) == 94) = true := by rw [show (94 : Int) = ((94 : Nat) : Int) from rfl, b94, e94]; rfl
      have H1 := Lib.hid (show optC 93 (s.data.toList.take (k + 1)) = optC 93 T by rw [HT.out, optC_next, if_neg e93])
      have H2 := Lib.hid (show optC 94 (s.data.toList.take (k + 1)) = [94] by rw [HT.out, optC_next, if_pos e94])
      have H3 := Lib.hid (show optC 45 (s.data.toList.take (k + 1)) = optC 45 T by rw [HT.out, optC_next, if_neg (by rw [e94]; decide)])
      have H4 := Lib.hid (show others (s.data.toList.take (k + 1)) = others T by rw [HT.out, others_next, if_neg (by rw [e94]; decide)])
      clear b93 b94 b45 e93 e94
      go_wp2_with fail
      go_roundg (s.size - (k + 1))
      case rel => exact ⟨_, k + 1, by omega, rfl, by go_num, by rw [H1.out], by rw [H2.out], by rw [H3.out], rfl, by rw [H4.out]; exact HO.out, HB.out⟩
      case measure => omega
     ·have d94 : ((s[k].toNat : Int) == 94) = false := by rw [show (94 : Int) = ((94 : Nat) : Int) from rfl, b94]; simpa using e94
      by_cases e45 : s[k] = 45
      ·have d45 : ((s[k].toNat : Int) == 45) = true := by rw [show (45 : Int) = ((45 : Nat) : Int) from rfl, b45, e45]; rfl
       have H1 := Lib.hid (show optC 93 (s.data.toList.take (k + 1)) = optC 93 T by rw [HT.out, optC_next, if_neg e93])
       have H2 := Lib.hid (show optC 94 (s.data.toList.take (k + 1)) = optC 94 T by rw [HT.out, optC_next, if_neg e94])
       have H3 := Lib.hid (show optC 45 (s.data.toList.take (k + 1)) = [45] by rw [HT.out, optC_next, if_pos e45])
       have H4 := Lib.hid (show others (s.data.toList.take (k + 1)) = others T by rw [HT.out, others_next, if_neg (by rw [e45]; decide)])
       clear b93 b94 b45 e93 e94 e45
       go_wp2_with fail
       go_roundg (s.size - (k + 1))
       case rel => exact ⟨_, k + 1, by omega, rfl, by go_num, by rw [H1.out], by rw [H2.out], by rw [H3.out], rfl, by rw [H4.out]; exact HO.out, HB.out⟩
       case measure => omega
      ·have d45 : ((s[k].toNat : Int) == 45) = false := by rw [show (45 : Int) = ((45 : Nat) : Int) from rfl, b45]; simpa using e45
       have H1 := Lib.hid (show optC 93 (s.data.toList.take (k + 1)) = optC 93 T by rw [HT.out, optC_next, if_neg e93])
       have H2 := Lib.hid (show optC 94 (s.data.toList.take (k + 1)) = optC 94 T by rw [HT.out, optC_next, if_neg e94])
       have H3 := Lib.hid (show optC 45 (s.data.toList.take (k + 1)) = optC 45 T by rw [HT.out, optC_next, if_neg e45])
       have H4 := Lib.hid (show others (s.data.toList.take (k + 1)) = others T ++ [s[k]] by rw [HT.out, others_next, if_pos (by simp [plainC, e93, e94, e45])])
       clear b93 b94 b45 e93 e94 e45
       go_wp2_with (at_builtin; refine wp_append_bytes Tryd.underlying22 Tryd.infoU8 rfl _ _ rfl w.heap.size _ _ rfl (HO.out.alloc _) ⟨wr.heap.size, 0, none⟩ 1 1 [s[k]] rfl rfl (news_one _ s[k] _) (by simp; omega) (by simp; omega) ?_; intro v' w3 hown3 hbel3)
       go_roundg (s.size - (k + 1))
       case rel => exact ⟨v', k + 1, by omega, rfl, by go_num, by rw [H1.out], by rw [H2.out], by rw [H3.out], rfl, by rw [H4.out]; exact hown3, (HB.out.alloc hz _).trans hbel3⟩
       case measure => omega
   ·obtain rfl : k = s.size := by omega
    rw [HTA.out] at HO
    rw [HTA.out]
    obtain ⟨a, cap, rfl, hcap, hcm, hba⟩ := HO.out.bytesAt
    have hol : (others s.data.toList).length ≤ 1048576 := by
     have h1 := others_len s.data.toList
     have h2 := HL.out
     omega
    have hrl : (rTxt (others s.data.toList) 0).length ≤ 1048576 := by
     have h1 := rTxt_len (others s.data.toList) 0
     omega
    have HR := Lib.hid (runsText_any (others s.data.toList) a cap wr hol hcap hcm hba)
    have hA := optC_len 93 s.data.toList
    have hC := optC_len 94 s.data.toList
    have hD := optC_len 45 s.data.toList
    have HJ := Lib.hid (show setBody s.data.toList = optC 93 s.data.toList ++ rTxt (others s.data.toList) 0 ++ optC 94 s.data.toList ++ optC 45 s.data.toList from rfl)
    generalize optC 93 s.data.toList = LA at *
    generalize optC 94 s.data.toList = LC at *
    generalize optC 45 s.data.toList = LD at *
    generalize rTxt (others s.data.toList) 0 = LB at *
    go_wp2_with fail
    refine HR.out.mono ?_
    rintro e w1 ⟨rfl, hb1⟩
    have HB1 := Lib.hid (HB.out.trans (hb1.mono HB.out.size))
    clear hb1
    go_wp2_with fail
    go_ret
    exact ⟨by rw [HJ.out]; exact congrArg Ending.returned (join6 _ LA LB LC LD [93]), HB1.out⟩
set_option maxRecDepth 100000 in
set_option maxHeartbeats 4000000 in
theorem setText_any (s : ByteArray) (n : Bool) (w : World) (hs : s.size ≤ 1048576) :
  Calls Tryd.prog 40 #[.string s, .bool n] w fun e w' => e = .returned (.string ⟨(setTxt s.data.toList n).toArray⟩) ∧ Below w.heap.size w w' := by
 have hl : s.data.toList.length = s.size := by simp
 have HL := Lib.hid hl
 by_cases c1 : s.size = 1 ∧ n = false
 ·obtain ⟨c1, rfl⟩ := c1
  have E := Lib.hid (show setTxt s.data.toList false = byTxt (s.data.toList.getD 0 0) by rw [setTxt, if_pos ⟨by omega, rfl⟩])
  have e0 := getD_byte s 0 (by omega)
  have HB := Lib.hid (fun W => byteText_any (s.data.toList.getD 0 0) W)
  rw [e0] at HB E
  clear e0
  have h0 : 0 < s.size := by omega
  have c1' : ((s.size : Int) == 1) = true := by rw [c1]; rfl
  have hi : (0 : Int) < s.size := by omega
  go_enter Tryd.func40, Tryd.ntmps40
  go_wp2_with fail
  refine (HB.out _).mono ?_
  rintro e w1 ⟨rfl, hb1⟩
  go_wp2_with fail
  go_ret
  exact ⟨by rw [E.out]; rfl, hb1⟩
 ·by_cases c2 : s = ⟨#[45, 94]⟩ ∧ n = false
  ·obtain ⟨rfl, rfl⟩ := c2
   have E := Lib.hid (show setTxt (⟨#[45, 94]⟩ : ByteArray).data.toList false = [91, 45, 94, 93] by decide)
   clear hl HL c1
   go_enter Tryd.func40, Tryd.ntmps40
   go_wp2_with fail
   go_ret
   exact ⟨by rw [E.out]; rfl, Below.refl _ _⟩
  ·have E := Lib.hid (show setTxt s.data.toList n = (if n = true then [91, 94] else [91]) ++ setBody s.data.toList ++ [93] by
    rw [setTxt, if_neg (by rintro ⟨h, e⟩; exact c1 ⟨by omega, e⟩), if_neg (by
     rintro ⟨h, e⟩
     refine c2 ⟨?_, e⟩
     apply ByteArray.ext
     apply Array.ext'
     rw [h])])
   have c2' : (s.toList == [45, 94]) = true → n = true := by
    intro h
    cases n
    ·exfalso
     rw [ByteArray.toList_eq, beq_iff_eq] at h
     exact c2 ⟨by apply ByteArray.ext; apply Array.ext'; rw [h], rfl⟩
    ·rfl
   have c1' : ((s.size : Int) == 1) = true → n = true := by
    intro h
    cases n
    ·exact absurd ⟨by have : (s.size : Int) = 1 := (by simpa using h); omega, rfl⟩ c1
    ·rfl
   rw [E.out]
   refine setText_main s n _ _ w hs rfl rfl ?_ ?_
   ·cases h : ((s.size : Int) == 1)
    ·rfl
    ·rw [c1' h]; rfl
   ·cases h : (s.toList == [45, 94])
    ·rfl
    ·rw [c2' h]; rfl
end Go.Proofs.YtcpaneaiobnhdaaDoor.kit
/-
 Contract of spec.l04Sets over this seat's translation: the text of a set. Conditions: the set has 1 to 1048576 bytes, ascending.
-/
namespace Go.Proofs.YtcpaneaiobnhdaaDoor.kit
open Go.ChangeShapes Go.WideShapes Go.ChangeAt Go.RowKit
set_option linter.unusedVariables false

theorem join3 (a b c d : List UInt8) : (((⟨a.toArray⟩ : ByteArray) ++ ⟨b.toArray⟩) ++ ⟨c.toArray⟩) ++ ⟨d.toArray⟩ = ⟨(a ++ b ++ c ++ d).toArray⟩ := by
 rw [app_lit, app_lit, app_lit]
theorem bytes_data (t : ByteArray) : t = ⟨t.data.toList.toArray⟩ := by
 apply ByteArray.ext; simp
theorem wrap3 (a : List UInt8) (t : ByteArray) (l : List UInt8) (h : t = ⟨l.toArray⟩) : ((⟨a.toArray⟩ : ByteArray) ++ t) ++ ⟨#[93]⟩ = ⟨(a ++ l ++ [93]).toArray⟩ := by
 subst h
 rw [show (⟨#[93]⟩ : ByteArray) = ⟨[93].toArray⟩ from rfl, app_lit a l]
 exact app_lit (a ++ l) [93]
theorem first_at (t : ByteArray) (c : UInt8) (r : List UInt8) (h : t = ⟨(c :: r).toArray⟩) : ∃ h0 : 0 < t.size, t[0] = c := by
 subst h
 exact ⟨by simp [ByteArray.size], rfl⟩
theorem setTxt_not (l : List UInt8) : setTxt l true = [91, 94] ++ setBody l ++ [93] := by
 rw [setTxt, if_neg (by rintro ⟨_, h⟩; cases h), if_neg (by rintro ⟨_, h⟩; cases h), if_pos rfl]
theorem setTxt_two {l : List UInt8} (h : l = [45, 94]) : setTxt l false = [91, 45, 94, 93] := by
 subst h; decide
theorem setTxt_more {l : List UInt8} (h : l.length ≠ 1) (h2 : l ≠ [45, 94]) : setTxt l false = [91] ++ setBody l ++ [93] := by
 rw [setTxt, if_neg (by rintro ⟨h3, _⟩; exact h h3), if_neg (by rintro ⟨h3, _⟩; exact h2 h3), if_neg (by simp)]
theorem take_ext (l : List UInt8) (s : ByteArray) (k j : Nat) (hk : k < s.size) (hj : k + 1 = j) : (⟨l.toArray⟩ : ByteArray) ++ s.extract k j = ⟨(l ++ [s[k]]).toArray⟩ := by
 rw [app_ext, ← getD_byte s k hk, show j - k = 1 by omega, one_at s k hk]
set_option maxRecDepth 100000 in
set_option maxHeartbeats 8000000 in
theorem l04Sets_main (kk : Int) (s : ByteArray) (n z1 : Bool) (lo hi : Int) (a : Option Addr) (m cap : Nat) (w : World) (hs : s.size ≤ 1048576) (c1 : ((s.size : Int) == 1) = z1) (hz1 : (z1 && !n) = false) (hasc : RT.asc s.data.toList = true) (hne : s.data.toList ≠ []) :
  Calls Tryd.prog 45 #[.agg #[.int .i64 kk, .string s, .bool n, .int .i64 lo, .int .i64 hi, .slice a m cap]] w fun e w' => e = .returned (.string ⟨(setTxt s.data.toList n).toArray⟩) ∧ Below w.heap.size w w' := by
 have HL := Lib.hid (show s.data.toList.length = s.size by simp)
 have HTA := Lib.hid (take_all s s.size (Nat.le_refl _))
 have HAS := Lib.hid (show n = false → s.data.toList.length ≠ 1 from fun h1 h2 => by
  have h3 : s.data.toList.length = s.size := by simp
  subst h1
  rw [show ((s.size : Int) == 1) = true by simp; omega] at c1
  subst c1
  cases hz1)
 have HH := Lib.hid (fun h => body_head hasc hne h)
 have HB := Lib.hid (show ∀ o, Below w.heap.size w (w.alloc o) from fun o => (Below.refl w.heap.size w).alloc (Nat.le_refl _) _)
 clear hasc
 cases n
 ·cases z1
  ·clear hz1
   go_enter Tryd.func45, Tryd.ntmps45
   go_wp2_with fail
   go_loop [3, 4, 5, 6, 7] (fun r h q t i => ∃ k : Nat, k ≤ s.size ∧ i = .int .i64 (k : Int) ∧ r = .string ⟨(others (s.data.toList.take k)).toArray⟩ ∧ h = .string ⟨(optC 93 (s.data.toList.take k)).toArray⟩ ∧ q = .string ⟨(optC 94 (s.data.toList.take k)).toArray⟩ ∧ t = .string ⟨(optC 45 (s.data.toList.take k)).toArray⟩) (fun _ _ _ _ i => s.size - (intOf i).toNat)
   case atStart => exact ⟨0, Nat.zero_le _, rfl, rfl, rfl, rfl, rfl⟩
   case round =>
    obtain ⟨k, hk, rfl, rfl, rfl, rfl, rfl⟩ := hrel
    by_cases hlt : k < s.size
    ·have HT := Lib.hid (take_snoc s k hlt)
     have hl1 : (others (s.data.toList.take k)).length ≤ 1048576 := by
      have h1 := others_len (s.data.toList.take k)
      rw [List.length_take] at h1; omega
     have HX := Lib.hid (fun l j (hj : k + 1 = j) => take_ext l s k j hlt hj)
     generalize s.data.toList.take k = T at *
     have hk0 : (0 : Int) ≤ k := by omega
     have hk1 : (k : Int) < s.size := by omega
     obtain ⟨j, hj⟩ : ∃ j, k + 1 = j := ⟨_, rfl⟩
     have hwj : IntKind.i64.wrap ((k : Int) + 1) = (j : Int) := by rw [IntKind.wrap_i64]; omega
     have hkj : (k : Int) ≤ j := by omega
     have hjs : (j : Int) ≤ s.size := by omega
     have hxs : (s.extract k j).size ≤ 1 := by rw [ByteArray.size_extract]; omega
     have b93 := byte_eq s[k] 93 (by omega)
     have b94 := byte_eq s[k] 94 (by omega)
     have b45 := byte_eq s[k] 45 (by omega)
     have hkk : k < s.size := hlt
     by_cases e93 : s[k] = 93
     ·have d93 : ((s[k].toNat : Int) == 93) = true := by rw [show (93 : Int) = ((93 : Nat) : Int) from rfl, b93, e93]; rfl
      have H1 := Lib.hid (show optC 93 (s.data.toList.take (k + 1)) = [93] by rw [HT.out, optC_next, if_pos e93])
      have H2 := Lib.hid (show optC 94 (s.data.toList.take (k + 1)) = optC 94 T by rw [HT.out, optC_next, if_neg (by rw [e93]; decide)])
      have H3 := Lib.hid (show optC 45 (s.data.toList.take (k + 1)) = optC 45 T by rw [HT.out, optC_next, if_neg (by rw [e93]; decide)])
      have H4 := Lib.hid (show others (s.data.toList.take (k + 1)) = others T by rw [HT.out, others_next, if_neg (by rw [e93]; decide)])
      clear b93 b94 b45 e93
      go_wp2_with fail
      go_round
      case rel => exact ⟨k + 1, by omega, by go_num, by rw [H4.out], by rw [H1.out], by rw [H2.out], by rw [H3.out]⟩
      case measure => simp [intOf]; omega
     ·have d93 : ((s[k].toNat : Int) == 93) = false := by rw [show (93 : Int) = ((93 : Nat) : Int) from rfl, b93]; simpa using e93
      by_cases e94 : s[k] = 94
      ·have d94 : ((s[k].toNat : Int) == 94) = true := by rw [show (94 : Int) = ((94 : Nat) : Int) from rfl, b94, e94]; rfl
       have H1 := Lib.hid (show optC 93 (s.data.toList.take (k + 1)) = optC 93 T by rw [HT.out, optC_next, if_neg e93])
       have H2 := Lib.hid (show optC 94 (s.data.toList.take (k + 1)) = [94] by rw [HT.out, optC_next, if_pos e94])
       have H3 := Lib.hid (show optC 45 (s.data.toList.take (k + 1)) = optC 45 T by rw [HT.out, optC_next, if_neg (by rw [e94]; decide)])
       have H4 := Lib.hid (show others (s.data.toList.take (k + 1)) = others T by rw [HT.out, others_next, if_neg (by rw [e94]; decide)])
       clear b93 b94 b45 e93 e94
       go_wp2_with fail
       go_round
       case rel => exact ⟨k + 1, by omega, by go_num, by rw [H4.out], by rw [H1.out], by rw [H2.out], by rw [H3.out]⟩
       case measure => simp [intOf]; omega
      ·have d94 : ((s[k].toNat : Int) == 94) = false := by rw [show (94 : Int) = ((94 : Nat) : Int) from rfl, b94]; simpa using e94
       by_cases e45 : s[k] = 45
       ·have d45 : ((s[k].toNat : Int) == 45) = true := by rw [show (45 : Int) = ((45 : Nat) : Int) from rfl, b45, e45]; rfl
        have H1 := Lib.hid (show optC 93 (s.data.toList.take (k + 1)) = optC 93 T by rw [HT.out, optC_next, if_neg e93])
        have H2 := Lib.hid (show optC 94 (s.data.toList.take (k + 1)) = optC 94 T by rw [HT.out, optC_next, if_neg e94])
        have H3 := Lib.hid (show optC 45 (s.data.toList.take (k + 1)) = [45] by rw [HT.out, optC_next, if_pos e45])
        have H4 := Lib.hid (show others (s.data.toList.take (k + 1)) = others T by rw [HT.out, others_next, if_neg (by rw [e45]; decide)])
        clear b93 b94 b45 e93 e94 e45
        go_wp2_with fail
        go_round
        case rel => exact ⟨k + 1, by omega, by go_num, by rw [H4.out], by rw [H1.out], by rw [H2.out], by rw [H3.out]⟩
        case measure => simp [intOf]; omega
       ·have d45 : ((s[k].toNat : Int) == 45) = false := by rw [show (45 : Int) = ((45 : Nat) : Int) from rfl, b45]; simpa using e45
        have H1 := Lib.hid (show optC 93 (s.data.toList.take (k + 1)) = optC 93 T by rw [HT.out, optC_next, if_neg e93])
        have H2 := Lib.hid (show optC 94 (s.data.toList.take (k + 1)) = optC 94 T by rw [HT.out, optC_next, if_neg e94])
        have H3 := Lib.hid (show optC 45 (s.data.toList.take (k + 1)) = optC 45 T by rw [HT.out, optC_next, if_neg e45])
        have H4 := Lib.hid (show others (s.data.toList.take (k + 1)) = others T ++ [s[k]] by rw [HT.out, others_next, if_pos (by simp [plainC, e93, e94, e45])])
        clear b93 b94 b45 e93 e94 e45
        go_wp2_with fail
        go_round
        case rel => exact ⟨k + 1, by omega, by go_num, by rw [H4.out, ← HX.out _ j hj], by rw [H1.out], by rw [H2.out], by rw [H3.out]⟩
        case measure => simp [intOf]; omega
    ·obtain rfl : k = s.size := by omega
     rw [HTA.out]
     have hol : (others s.data.toList).length ≤ 1048576 := by
      have h1 := others_len s.data.toList
      have h2 := HL.out
      omega
     have hrl : (rTxt (others s.data.toList) 0).length ≤ 1048576 := by
      have h1 := rTxt_len (others s.data.toList) 0
      omega
     have HR := Lib.hid (show ∀ W, Calls Tryd.prog 63 #[.string ⟨(others s.data.toList).toArray⟩] W fun e w' => e = .returned (.string ⟨(rTxt (others s.data.toList) 0).toArray⟩) ∧ Below W.heap.size W w' from fun W => l04Runs_any ⟨(others s.data.toList).toArray⟩ W (by simp only [ByteArray.size, List.size_toArray]; exact hol))
     have hA := optC_len 93 s.data.toList
     have hC := optC_len 94 s.data.toList
     have hD := optC_len 45 s.data.toList
     have hcat := join3 (optC 93 s.data.toList) (rTxt (others s.data.toList) 0) (optC 94 s.data.toList) (optC 45 s.data.toList)
     have HSB := Lib.hid (show (⟨(optC 93 s.data.toList ++ rTxt (others s.data.toList) 0 ++ optC 94 s.data.toList ++ optC 45 s.data.toList).toArray⟩ : ByteArray) = ⟨(setBody s.data.toList).toArray⟩ from rfl)
     have htx : (⟨(optC 93 s.data.toList ++ rTxt (others s.data.toList) 0 ++ optC 94 s.data.toList ++ optC 45 s.data.toList).toArray⟩ : ByteArray).size ≤ 2000000 := by
      simp only [ByteArray.size, List.size_toArray, List.length_append]; omega
     have HS1 := Lib.hid (show s.data.toList = [45, 94] → optC 94 s.data.toList = [94] ∧ optC 45 s.data.toList = [45] from fun h => by rw [h]; decide)
     generalize (⟨(optC 93 s.data.toList ++ rTxt (others s.data.toList) 0 ++ optC 94 s.data.toList ++ optC 45 s.data.toList).toArray⟩ : ByteArray) = TX at *
     generalize optC 93 s.data.toList = LA at *
     generalize optC 94 s.data.toList = LC at *
     generalize optC 45 s.data.toList = LD at *
     generalize rTxt (others s.data.toList) 0 = LB at *
     go_wp2_with fail
     refine (HR.out _).mono ?_
     rintro e w1 ⟨rfl, hb1⟩
     obtain ⟨hcc, hff⟩ := bcellR hb1
     have HB1 := Lib.hid ((HB.out _).trans (hb1.mono (HB.out _).size))
     clear hb1
     obtain ⟨c, r, hbody, hc⟩ := HH.out (HAS.out (by trivial))
     obtain ⟨ht0, htc⟩ := first_at TX c r (by rw [HSB.out, hbody])
     have ht1 : (0 : Int) < TX.size := by omega
     have HC2 := Lib.hid hc
     have b94 := byte_eq c 94 (by omega)
     clear hc hbody
     by_cases e94 : c = 94
     ·have d94 : ((c.toNat : Int) == 94) = true := by rw [show (94 : Int) = ((94 : Nat) : Int) from rfl, b94, e94]; rfl
      have he := HC2.out.1 e94
      have HLC := Lib.hid (HS1.out he).1
      have HLD := Lib.hid (HS1.out he).2
      have E := Lib.hid (setTxt_two he)
      clear b94 e94 he
      go_wp2_with fail
      go_ret
      exact ⟨by rw [E.out, HLC.out, HLD.out]; rfl, HB1.out⟩
     ·have d94 : ((c.toNat : Int) == 94) = false := by rw [show (94 : Int) = ((94 : Nat) : Int) from rfl, b94]; simpa using e94
      have E := Lib.hid (setTxt_more (HAS.out (by trivial)) (fun h => e94 (HC2.out.2 h)))
      clear b94 e94
      go_wp2_with fail
      go_ret
      exact ⟨by rw [E.out, ← wrap3 [91] TX _ HSB.out]; rfl, HB1.out⟩
  ·exact absurd hz1 (by decide)
 ·cases z1
  ·clear hz1
   go_enter Tryd.func45, Tryd.ntmps45
   go_wp2_with fail
   go_loop [3, 4, 5, 6, 7] (fun r h q t i => ∃ k : Nat, k ≤ s.size ∧ i = .int .i64 (k : Int) ∧ r = .string ⟨(others (s.data.toList.take k)).toArray⟩ ∧ h = .string ⟨(optC 93 (s.data.toList.take k)).toArray⟩ ∧ q = .string ⟨(optC 94 (s.data.toList.take k)).toArray⟩ ∧ t = .string ⟨(optC 45 (s.data.toList.take k)).toArray⟩) (fun _ _ _ _ i => s.size - (intOf i).toNat)
   case atStart => exact ⟨0, Nat.zero_le _, rfl, rfl, rfl, rfl, rfl⟩
   case round =>
    obtain ⟨k, hk, rfl, rfl, rfl, rfl, rfl⟩ := hrel
    by_cases hlt : k < s.size
    ·have HT := Lib.hid (take_snoc s k hlt)
     have hl1 : (others (s.data.toList.take k)).length ≤ 1048576 := by
      have h1 := others_len (s.data.toList.take k)
      rw [List.length_take] at h1; omega
     have HX := Lib.hid (fun l j (hj : k + 1 = j) => take_ext l s k j hlt hj)
     generalize s.data.toList.take k = T at *
     have hk0 : (0 : Int) ≤ k := by omega
     have hk1 : (k : Int) < s.size := by omega
     obtain ⟨j, hj⟩ : ∃ j, k + 1 = j := ⟨_, rfl⟩
     have hwj : IntKind.i64.wrap ((k : Int) + 1) = (j : Int) := by rw [IntKind.wrap_i64]; omega
     have hkj : (k : Int) ≤ j := by omega
     have hjs : (j : Int) ≤ s.size := by omega
     have hxs : (s.extract k j).size ≤ 1 := by rw [ByteArray.size_extract]; omega
     have b93 := byte_eq s[k] 93 (by omega)
     have b94 := byte_eq s[k] 94 (by omega)
     have b45 := byte_eq s[k] 45 (by omega)
     have hkk : k < s.size := hlt
     by_cases e93 : s[k] = 93
     ·have d93 : ((s[k].toNat : Int) == 93) = true := by rw [show (93 : Int) = ((93 : Nat) : Int) from rfl, b93, e93]; rfl
      have H1 := Lib.hid (show optC 93 (s.data.toList.take (k + 1)) = [93] by rw [HT.out, optC_next, if_pos e93])
      have H2 := Lib.hid (show optC 94 (s.data.toList.take (k + 1)) = optC 94 T by rw [HT.out, optC_next, if_neg (by rw [e93]; decide)])
      have H3 := Lib.hid (show optC 45 (s.data.toList.take (k + 1)) = optC 45 T by rw [HT.out, optC_next, if_neg (by rw [e93]; decide)])
      have H4 := Lib.hid (show others (s.data.toList.take (k + 1)) = others T by rw [HT.out, others_next, if_neg (by rw [e93]; decide)])
      clear b93 b94 b45 e93
      go_wp2_with fail
      go_round
      case rel => exact ⟨k + 1, by omega, by go_num, by rw [H4.out], by rw [H1.out], by rw [H2.out], by rw [H3.out]⟩
      case measure => simp [intOf]; omega
     ·have d93 : ((s[k].toNat : Int) == 93) = false := by rw [show (93 : Int) = ((93 : Nat) : Int) from rfl, b93]; simpa using e93
      by_cases e94 : s[k] = 94
      ·have d94 : ((s[k].toNat : Int) == 94) = true := by rw [show (94 : Int) = ((94 : Nat) : Int) from rfl, b94, e94]; rfl
       have H1 := Lib.hid (show optC 93 (s.data.toList.take (k + 1)) = optC 93 T by rw [HT.out, optC_next, if_neg e93])
       have H2 := Lib.hid (show optC 94 (s.data.toList.take (k + 1)) = [94] by rw [HT.out, optC_next, if_pos e94])
       have H3 := Lib.hid (show optC 45 (s.data.toList.take (k + 1)) = optC 45 T by rw [HT.out, optC_next, if_neg (by rw [e94]; decide)])
       have H4 := Lib.hid (show others (s.data.toList.take (k + 1)) = others T by rw [HT.out, others_next, if_neg (by rw [e94]; decide)])
       clear b93 b94 b45 e93 e94
       go_wp2_with fail
       go_round
       case rel => exact ⟨k + 1, by omega, by go_num, by rw [H4.out], by rw [H1.out], by rw [H2.out], by rw [H3.out]⟩
       case measure => simp [intOf]; omega
      ·have d94 : ((s[k].toNat : Int) == 94) = false := by rw [show (94 : Int) = ((94 : Nat) : Int) from rfl, b94]; simpa using e94
       by_cases e45 : s[k] = 45
       ·have d45 : ((s[k].toNat : Int) == 45) = true := by rw [show (45 : Int) = ((45 : Nat) : Int) from rfl, b45, e45]; rfl
        have H1 := Lib.hid (show optC 93 (s.data.toList.take (k + 1)) = optC 93 T by rw [HT.out, optC_next, if_neg e93])
        have H2 := Lib.hid (show optC 94 (s.data.toList.take (k + 1)) = optC 94 T by rw [HT.out, optC_next, if_neg e94])
        have H3 := Lib.hid (show optC 45 (s.data.toList.take (k + 1)) = [45] by rw [HT.out, optC_next, if_pos e45])
        have H4 := Lib.hid (show others (s.data.toList.take (k + 1)) = others T by rw [HT.out, others_next, if_neg (by rw [e45]; decide)])
        clear b93 b94 b45 e93 e94 e45
        go_wp2_with fail
        go_round
        case rel => exact ⟨k + 1, by omega, by go_num, by rw [H4.out], by rw [H1.out], by rw [H2.out], by rw [H3.out]⟩
        case measure => simp [intOf]; omega
       ·have d45 : ((s[k].toNat : Int) == 45) = false := by rw [show (45 : Int) = ((45 : Nat) : Int) from rfl, b45]; simpa using e45
        have H1 := Lib.hid (show optC 93 (s.data.toList.take (k + 1)) = optC 93 T by rw [HT.out, optC_next, if_neg e93])
        have H2 := Lib.hid (show optC 94 (s.data.toList.take (k + 1)) = optC 94 T by rw [HT.out, optC_next, if_neg e94])
        have H3 := Lib.hid (show optC 45 (s.data.toList.take (k + 1)) = optC 45 T by rw [HT.out, optC_next, if_neg e45])
        have H4 := Lib.hid (show others (s.data.toList.take (k + 1)) = others T ++ [s[k]] by rw [HT.out, others_next, if_pos (by simp [plainC, e93, e94, e45])])
        clear b93 b94 b45 e93 e94 e45
        go_wp2_with fail
        go_round
        case rel => exact ⟨k + 1, by omega, by go_num, by rw [H4.out, ← HX.out _ j hj], by rw [H1.out], by rw [H2.out], by rw [H3.out]⟩
        case measure => simp [intOf]; omega
    ·obtain rfl : k = s.size := by omega
     rw [HTA.out]
     have hol : (others s.data.toList).length ≤ 1048576 := by
      have h1 := others_len s.data.toList
      have h2 := HL.out
      omega
     have hrl : (rTxt (others s.data.toList) 0).length ≤ 1048576 := by
      have h1 := rTxt_len (others s.data.toList) 0
      omega
     have HR := Lib.hid (show ∀ W, Calls Tryd.prog 63 #[.string ⟨(others s.data.toList).toArray⟩] W fun e w' => e = .returned (.string ⟨(rTxt (others s.data.toList) 0).toArray⟩) ∧ Below W.heap.size W w' from fun W => l04Runs_any ⟨(others s.data.toList).toArray⟩ W (by simp only [ByteArray.size, List.size_toArray]; exact hol))
     have hA := optC_len 93 s.data.toList
     have hC := optC_len 94 s.data.toList
     have hD := optC_len 45 s.data.toList
     have hcat := join3 (optC 93 s.data.toList) (rTxt (others s.data.toList) 0) (optC 94 s.data.toList) (optC 45 s.data.toList)
     have HSB := Lib.hid (show (⟨(optC 93 s.data.toList ++ rTxt (others s.data.toList) 0 ++ optC 94 s.data.toList ++ optC 45 s.data.toList).toArray⟩ : ByteArray) = ⟨(setBody s.data.toList).toArray⟩ from rfl)
     have htx : (⟨(optC 93 s.data.toList ++ rTxt (others s.data.toList) 0 ++ optC 94 s.data.toList ++ optC 45 s.data.toList).toArray⟩ : ByteArray).size ≤ 2000000 := by
      simp only [ByteArray.size, List.size_toArray, List.length_append]; omega
     have HS1 := Lib.hid (show s.data.toList = [45, 94] → optC 94 s.data.toList = [94] ∧ optC 45 s.data.toList = [45] from fun h => by rw [h]; decide)
     generalize (⟨(optC 93 s.data.toList ++ rTxt (others s.data.toList) 0 ++ optC 94 s.data.toList ++ optC 45 s.data.toList).toArray⟩ : ByteArray) = TX at *
     generalize optC 93 s.data.toList = LA at *
     generalize optC 94 s.data.toList = LC at *
     generalize optC 45 s.data.toList = LD at *
     generalize rTxt (others s.data.toList) 0 = LB at *
     go_wp2_with fail
     refine (HR.out _).mono ?_
     rintro e w1 ⟨rfl, hb1⟩
     obtain ⟨hcc, hff⟩ := bcellR hb1
     have HB1 := Lib.hid ((HB.out _).trans (hb1.mono (HB.out _).size))
     clear hb1
     go_wp2_with fail
     go_ret
     exact ⟨by rw [setTxt_not, ← wrap3 [91, 94] TX _ HSB.out]; rfl, HB1.out⟩
  ·clear hz1
   go_enter Tryd.func45, Tryd.ntmps45
   go_wp2_with fail
   go_loop [3, 4, 5, 6, 7] (fun r h q t i => ∃ k : Nat, k ≤ s.size ∧ i = .int .i64 (k : Int) ∧ r = .string ⟨(others (s.data.toList.take k)).toArray⟩ ∧ h = .string ⟨(optC 93 (s.data.toList.take k)).toArray⟩ ∧ q = .string ⟨(optC 94 (s.data.toList.take k)).toArray⟩ ∧ t = .string ⟨(optC 45 (s.data.toList.take k)).toArray⟩) (fun _ _ _ _ i => s.size - (intOf i).toNat)
   case atStart => exact ⟨0, Nat.zero_le _, rfl, rfl, rfl, rfl, rfl⟩
   case round =>
    obtain ⟨k, hk, rfl, rfl, rfl, rfl, rfl⟩ := hrel
    by_cases hlt : k < s.size
    ·have HT := Lib.hid (take_snoc s k hlt)
     have hl1 : (others (s.data.toList.take k)).length ≤ 1048576 := by
      have h1 := others_len (s.data.toList.take k)
      rw [List.length_take] at h1; omega
     have HX := Lib.hid (fun l j (hj : k + 1 = j) => take_ext l s k j hlt hj)
     generalize s.data.toList.take k = T at *
     have hk0 : (0 : Int) ≤ k := by omega
     have hk1 : (k : Int) < s.size := by omega
     obtain ⟨j, hj⟩ : ∃ j, k + 1 = j := ⟨_, rfl⟩
     have hwj : IntKind.i64.wrap ((k : Int) + 1) = (j : Int) := by rw [IntKind.wrap_i64]; omega
     have hkj : (k : Int) ≤ j := by omega
     have hjs : (j : Int) ≤ s.size := by omega
     have hxs : (s.extract k j).size ≤ 1 := by rw [ByteArray.size_extract]; omega
     have b93 := byte_eq s[k] 93 (by omega)
     have b94 := byte_eq s[k] 94 (by omega)
     have b45 := byte_eq s[k] 45 (by omega)
     have hkk : k < s.size := hlt
     by_cases e93 : s[k] = 93
     ·have d93 : ((s[k].toNat : Int) == 93) = true := by rw [show (93 : Int) = ((93 : Nat) : Int) from rfl, b93, e93]; rfl
      have H1 := Lib.hid (show optC 93 (s.data.toList.take (k + 1)) = [93] by rw [HT.out, optC_next, if_pos e93])
      have H2 := Lib.hid (show optC 94 (s.data.toList.take (k + 1)) = optC 94 T by rw [HT.out, optC_next, if_neg (by rw [e93]; decide)])
      have H3 := Lib.hid (show optC 45 (s.data.toList.take (k + 1)) = optC 45 T by rw [HT.out, optC_next, if_neg (by rw [e93]; decide)])
      have H4 := Lib.hid (show others (s.data.toList.take (k + 1)) = others T by rw [HT.out, others_next, if_neg (by rw [e93]; decide)])
      clear b93 b94 b45 e93
      go_wp2_with fail
      go_round
      case rel => exact ⟨k + 1, by omega, by go_num, by rw [H4.out], by rw [H1.out], by rw [H2.out], by rw [H3.out]⟩
      case measure => simp [intOf]; omega
     ·have d93 : ((s[k].toNat : Int) == 93) = false := by rw [show (93 : Int) = ((93 : Nat) : Int) from rfl, b93]; simpa using e93
      by_cases e94 : s[k] = 94
      ·have d94 : ((s[k].toNat : Int) == 94) = true := by rw [show (94 : Int) = ((94 : Nat) : Int) from rfl, b94, e94]; rfl
       have H1 := Lib.hid (show optC 93 (s.data.toList.take (k + 1)) = optC 93 T by rw [HT.out, optC_next, if_neg e93])
       have H2 := Lib.hid (show optC 94 (s.data.toList.take (k + 1)) = [94] by rw [HT.out, optC_next, if_pos e94])
       have H3 := Lib.hid (show optC 45 (s.data.toList.take (k + 1)) = optC 45 T by rw [HT.out, optC_next, if_neg (by rw [e94]; decide)])
       have H4 := Lib.hid (show others (s.data.toList.take (k + 1)) = others T by rw [HT.out, others_next, if_neg (by rw [e94]; decide)])
       clear b93 b94 b45 e93 e94
       go_wp2_with fail
       go_round
       case rel => exact ⟨k + 1, by omega, by go_num, by rw [H4.out], by rw [H1.out], by rw [H2.out], by rw [H3.out]⟩
       case measure => simp [intOf]; omega
      ·have d94 : ((s[k].toNat : Int) == 94) = false := by rw [show (94 : Int) = ((94 : Nat) : Int) from rfl, b94]; simpa using e94
       by_cases e45 : s[k] = 45
       ·have d45 : ((s[k].toNat : Int) == 45) = true := by rw [show (45 : Int) = ((45 : Nat) : Int) from rfl, b45, e45]; rfl
        have H1 := Lib.hid (show optC 93 (s.data.toList.take (k + 1)) = optC 93 T by rw [HT.out, optC_next, if_neg e93])
        have H2 := Lib.hid (show optC 94 (s.data.toList.take (k + 1)) = optC 94 T by rw [HT.out, optC_next, if_neg e94])
        have H3 := Lib.hid (show optC 45 (s.data.toList.take (k + 1)) = [45] by rw [HT.out, optC_next, if_pos e45])
        have H4 := Lib.hid (show others (s.data.toList.take (k + 1)) = others T by rw [HT.out, others_next, if_neg (by rw [e45]; decide)])
        clear b93 b94 b45 e93 e94 e45
        go_wp2_with fail
        go_round
        case rel => exact ⟨k + 1, by omega, by go_num, by rw [H4.out], by rw [H1.out], by rw [H2.out], by rw [H3.out]⟩
        case measure => simp [intOf]; omega
       ·have d45 : ((s[k].toNat : Int) == 45) = false := by rw [show (45 : Int) = ((45 : Nat) : Int) from rfl, b45]; simpa using e45
        have H1 := Lib.hid (show optC 93 (s.data.toList.take (k + 1)) = optC 93 T by rw [HT.out, optC_next, if_neg e93])
        have H2 := Lib.hid (show optC 94 (s.data.toList.take (k + 1)) = optC 94 T by rw [HT.out, optC_next, if_neg e94])
        have H3 := Lib.hid (show optC 45 (s.data.toList.take (k + 1)) = optC 45 T by rw [HT.out, optC_next, if_neg e45])
        have H4 := Lib.hid (show others (s.data.toList.take (k + 1)) = others T ++ [s[k]] by rw [HT.out, others_next, if_pos (by simp [plainC, e93, e94, e45])])
        clear b93 b94 b45 e93 e94 e45
        go_wp2_with fail
        go_round
        case rel => exact ⟨k + 1, by omega, by go_num, by rw [H4.out, ← HX.out _ j hj], by rw [H1.out], by rw [H2.out], by rw [H3.out]⟩
        case measure => simp [intOf]; omega
    ·obtain rfl : k = s.size := by omega
     rw [HTA.out]
     have hol : (others s.data.toList).length ≤ 1048576 := by
      have h1 := others_len s.data.toList
      have h2 := HL.out
      omega
     have hrl : (rTxt (others s.data.toList) 0).length ≤ 1048576 := by
      have h1 := rTxt_len (others s.data.toList) 0
      omega
     have HR := Lib.hid (show ∀ W, Calls Tryd.prog 63 #[.string ⟨(others s.data.toList).toArray⟩] W fun e w' => e = .returned (.string ⟨(rTxt (others s.data.toList) 0).toArray⟩) ∧ Below W.heap.size W w' from fun W => l04Runs_any ⟨(others s.data.toList).toArray⟩ W (by simp only [ByteArray.size, List.size_toArray]; exact hol))
     have hA := optC_len 93 s.data.toList
     have hC := optC_len 94 s.data.toList
     have hD := optC_len 45 s.data.toList
     have hcat := join3 (optC 93 s.data.toList) (rTxt (others s.data.toList) 0) (optC 94 s.data.toList) (optC 45 s.data.toList)
     have HSB := Lib.hid (show (⟨(optC 93 s.data.toList ++ rTxt (others s.data.toList) 0 ++ optC 94 s.data.toList ++ optC 45 s.data.toList).toArray⟩ : ByteArray) = ⟨(setBody s.data.toList).toArray⟩ from rfl)
     have htx : (⟨(optC 93 s.data.toList ++ rTxt (others s.data.toList) 0 ++ optC 94 s.data.toList ++ optC 45 s.data.toList).toArray⟩ : ByteArray).size ≤ 2000000 := by
      simp only [ByteArray.size, List.size_toArray, List.length_append]; omega
     have HS1 := Lib.hid (show s.data.toList = [45, 94] → optC 94 s.data.toList = [94] ∧ optC 45 s.data.toList = [45] from fun h => by rw [h]; decide)
     generalize (⟨(optC 93 s.data.toList ++ rTxt (others s.data.toList) 0 ++ optC 94 s.data.toList ++ optC 45 s.data.toList).toArray⟩ : ByteArray) = TX at *
     generalize optC 93 s.data.toList = LA at *
     generalize optC 94 s.data.toList = LC at *
     generalize optC 45 s.data.toList = LD at *
     generalize rTxt (others s.data.toList) 0 = LB at *
     go_wp2_with fail
     refine (HR.out _).mono ?_
     rintro e w1 ⟨rfl, hb1⟩
     obtain ⟨hcc, hff⟩ := bcellR hb1
     have HB1 := Lib.hid ((HB.out _).trans (hb1.mono (HB.out _).size))
     clear hb1
     go_wp2_with fail
     go_ret
     exact ⟨by rw [setTxt_not, ← wrap3 [91, 94] TX _ HSB.out]; rfl, HB1.out⟩
end Go.Proofs.YtcpaneaiobnhdaaDoor.kit
/-
 Contract of spec.l04Sets over this seat's translation: the text of a set. Conditions: the set has 1 to 1048576 bytes, ascending.
-/
namespace Go.Proofs.YtcpaneaiobnhdaaDoor.kit
open Go.ChangeShapes Go.WideShapes Go.ChangeAt Go.RowKit
set_option linter.unusedVariables false

set_option maxRecDepth 100000 in
set_option maxHeartbeats 4000000 in
theorem l04Sets_any (kk : Int) (s : ByteArray) (n : Bool) (lo hi : Int) (a : Option Addr) (m cap : Nat) (w : World) (hs : s.size ≤ 1048576) (hasc : RT.asc s.data.toList = true) (hne : s.data.toList ≠ []) :
  Calls Tryd.prog 45 #[.agg #[.int .i64 kk, .string s, .bool n, .int .i64 lo, .int .i64 hi, .slice a m cap]] w fun e w' => e = .returned (.string ⟨(setTxt s.data.toList n).toArray⟩) ∧ Below w.heap.size w w' := by
 by_cases c : s.size = 1 ∧ n = false
 ·obtain ⟨c1, rfl⟩ := c
  have hl : s.data.toList.length = s.size := by simp
  have E := Lib.hid (show setTxt s.data.toList false = byTxt (s.data.toList.getD 0 0) by rw [setTxt, if_pos ⟨by omega, rfl⟩])
  have e0 := getD_byte s 0 (by omega)
  have HP := Lib.hid (fun W => l04Plain_any (s.data.toList.getD 0 0) W)
  rw [e0] at HP E
  have HB := Lib.hid (show ∀ o, Below w.heap.size w (w.alloc o) from fun o => (Below.refl w.heap.size w).alloc (Nat.le_refl _) _)
  clear e0
  have h0 : 0 < s.size := by omega
  have c1' : ((s.size : Int) == 1) = true := by rw [c1]; rfl
  have hi : (0 : Int) < s.size := by omega
  go_enter Tryd.func45, Tryd.ntmps45
  go_wp2_with fail
  refine (HP.out _).mono ?_
  rintro e w1 ⟨rfl, hb1⟩
  go_wp2_with fail
  go_ret
  exact ⟨by rw [E.out]; rfl, (HB.out _).trans (hb1.mono (HB.out _).size)⟩
 ·refine l04Sets_main kk s n _ lo hi a m cap w hs rfl ?_ hasc hne
  cases h : ((s.size : Int) == 1)
  ·rfl
  ·cases n
   ·exact absurd ⟨by have : (s.size : Int) = 1 := (by simpa using h); omega, rfl⟩ c
   ·rfl
end Go.Proofs.YtcpaneaiobnhdaaDoor.kit
