/-
 Contract of spec.l04Runs over this seat's translation: bytes told in runs. Conditions: the text has at most 1048576 bytes.
-/
import Derived.Test.YtcpaneaiobnhdaaDoorMRe6
import Derived.Deep.QuietTactic
import Derived.BigQuiet
import Derived.Deep.LoopGhost
import Derived.Test.YtcpaneaiobnhdaaDoorMRe1
import Derived.Deep.RegionLaw
namespace Go.Proofs.YtcpaneaiobnhdaaDoor.kit
open Go.ChangeShapes Go.WideShapes Go.ChangeAt Go.RowKit
set_option linter.unusedVariables false

theorem piece_len (l : List UInt8) (i e : Nat) : (piece l i e).length ≤ e - i := by
 unfold piece
 split
 ·simp only [List.length_cons, List.length_nil]; omega
 ·simp only [List.length_take]; omega
theorem join4 (l : List UInt8) (s : ByteArray) (i k i1 j : Nat) (hi : i < s.size) (hk : k < s.size) (h1 : i1 - i = 1) (h2 : j - k = 1) : Value.string ((((⟨l.toArray⟩ : ByteArray) ++ s.extract i i1) ++ ⟨#[45]⟩) ++ s.extract k j) = .string ⟨(l ++ [s.data.toList.getD i 0, 45, s.data.toList.getD k 0]).toArray⟩ := by
 rw [app_ext, show (⟨#[45]⟩ : ByteArray) = ⟨[45].toArray⟩ from rfl, app_lit, app_ext, h1, h2, one_at s i hi, one_at s k hk]
 simp
set_option maxRecDepth 100000 in
set_option maxHeartbeats 4000000 in
theorem l04Runs_any (s : ByteArray) (w : World) (hs : s.size ≤ 1048576) :
  Calls Tryd.prog 63 #[.string s] w fun e w' => e = .returned (.string ⟨(rTxt s.data.toList 0).toArray⟩) ∧ Below w.heap.size w w' := by
 have hl : s.data.toList.length = s.size := by simp
 have HL := Lib.hid hl
 clear hl
 go_enter Tryd.func63, Tryd.ntmps63
 go_wp2_with fail
 go_loopg [3, 4] s.size (fun g o i wr => ∃ (l : List UInt8) (k : Nat), k ≤ s.size ∧ l.length ≤ k ∧ g = s.size - k ∧ i = .int .i64 (k : Int) ∧ o = .string ⟨l.toArray⟩ ∧ l ++ rTxt s.data.toList k = rTxt s.data.toList 0 ∧ Below w.heap.size w wr)
 case atStart => exact ⟨[], 0, Nat.zero_le _, Nat.le_refl _, rfl, rfl, rfl, rfl, Below.refl _ _⟩
 case round =>
  obtain ⟨l, i, hi, hll, rfl, rfl, rfl, hrec, hb⟩ := hrel
  have HR := Lib.hid hrec
  have HB := Lib.hid hb
  clear hrec hb
  by_cases hlt : i < s.size
  ·go_wp2_with fail
   go_loopg [5] (s.size - i) (fun g e wr2 => ∃ (k : Nat), i ≤ k ∧ k < s.size ∧ g = s.size - k ∧ e = .int .i64 (k : Int) ∧ rEnd s.data.toList (k + 1) = rEnd s.data.toList (i + 1) ∧ Below w.heap.size w wr2)
   case atStart => exact ⟨i, Nat.le_refl _, hlt, rfl, rfl, rfl, HB.out⟩
   case round =>
    obtain ⟨k, hik, hk, rfl, rfl, hend, hb2⟩ := hrel
    have HE := Lib.hid hend
    have HB2 := Lib.hid hb2
    clear hend hb2
    obtain ⟨j, hj⟩ : ∃ j, k + 1 = j := ⟨_, rfl⟩
    have hwj : IntKind.i64.wrap ((k : Int) + 1) = (j : Int) := by rw [IntKind.wrap_i64]; omega
    have hk0 : (0 : Int) ≤ k := by omega
    have hk1 : (k : Int) < s.size := by omega
    have hj0 : (0 : Int) ≤ j := by omega
    obtain ⟨i1, hi1⟩ : ∃ i1, i + 1 = i1 := ⟨_, rfl⟩
    have hwi : IntKind.i64.wrap ((i : Int) + 1) = (i1 : Int) := by rw [IntKind.wrap_i64]; omega
    have hi10 : (0 : Int) ≤ i := by omega
    have hi11 : (i : Int) ≤ i1 := by omega
    have hi12 : (i1 : Int) ≤ s.size := by omega
    have hkj : (k : Int) ≤ j := by omega
    have hij : (i : Int) ≤ j := by omega
    have hjz : (j : Int) ≤ s.size := by omega
    have hs1 : (s.extract i i1).size ≤ 1 := by rw [ByteArray.size_extract]; omega
    have hs2 : (s.extract k j).size ≤ 1 := by rw [ByteArray.size_extract]; omega
    have hs3 : (s.extract i j).size ≤ 1048576 := by rw [ByteArray.size_extract]; omega
    by_cases hjs : j < s.size
    ·have hj1 : (j : Int) < s.size := by omega
     have hf := foll_at s k j hk hjs
     have HF := Lib.hid (show foll s[k] s[j] = foll (s.data.toList.getD (j - 1) 0) (s.data.toList.getD j 0) by rw [getD_byte s j hjs, show j - 1 = k by omega, getD_byte s k hk])
     generalize foll s[k] s[j] = fo at *
     cases fo
     ·have hstop : rEnd s.data.toList j = j := rEnd_stop (fun h => HF.out.symm)
      have hpc := rTxt_go (l := s.data.toList) (i := i) (by rw [HL.out]; exact hlt)
      rw [← HE.out, hj, hstop] at hpc
      have HPC := Lib.hid hpc
      clear hpc hstop
      by_cases h2 : (2 : Int) ≤ (k : Int) - i
      ·have HPL := Lib.hid (piece_long (l := s.data.toList) (i := i) (e := j) (by omega))
       go_wp2_with fail
       go_quiet (fail)
       go_wp2_with fail
       go_quiet (fail)
       go_wp2_with fail
       go_roundg (s.size - j)
       case rel => exact ⟨l ++ piece s.data.toList i j, j, by omega, by rw [List.length_append]; have := piece_len s.data.toList i j; omega, rfl, by go_num, by rw [HPL.out, show j - 1 = k by omega]; exact join4 l s i k _ _ hlt hk (by omega) (by omega), by rw [List.append_assoc, ← HPC.out]; exact HR.out, belowK HB2.out _⟩
       case measure => omega
      ·have HPS := Lib.hid (piece_short (l := s.data.toList) (i := i) (e := j) (by omega))
       go_wp2_with fail
       go_quiet (fail)
       go_wp2_with fail
       go_roundg (s.size - j)
       case rel => exact ⟨l ++ piece s.data.toList i j, j, by omega, by rw [List.length_append]; have := piece_len s.data.toList i j; omega, rfl, by go_num, by rw [HPS.out, ← app_ext], by rw [List.append_assoc, ← HPC.out]; exact HR.out, belowK HB2.out _⟩
       case measure => omega
     ·go_wp2_with fail
      go_quiet (fail)
      go_wp2_with fail
      go_roundg (s.size - j)
      case rel => exact ⟨j, by omega, hjs, rfl, by go_num, by rw [← HE.out, ← rEnd_go (by omega) (by rw [HL.out]; exact hjs) HF.out.symm, hj], belowK HB2.out _⟩
      case measure => omega
    ·have hstop : rEnd s.data.toList j = j := rEnd_stop (fun h => absurd h (by rw [HL.out]; exact hjs))
     have hpc := rTxt_go (l := s.data.toList) (i := i) (by rw [HL.out]; exact hlt)
     rw [← HE.out, hj, hstop] at hpc
     have HPC := Lib.hid hpc
     clear hpc hstop
     by_cases h2 : (2 : Int) ≤ (k : Int) - i
     ·have HPL := Lib.hid (piece_long (l := s.data.toList) (i := i) (e := j) (by omega))
      go_wp2_with fail
      go_quiet (fail)
      go_wp2_with fail
      go_quiet (fail)
      go_wp2_with fail
      go_roundg (s.size - j)
      case rel => exact ⟨l ++ piece s.data.toList i j, j, by omega, by rw [List.length_append]; have := piece_len s.data.toList i j; omega, rfl, by go_num, by rw [HPL.out, show j - 1 = k by omega]; exact join4 l s i k _ _ hlt hk (by omega) (by omega), by rw [List.append_assoc, ← HPC.out]; exact HR.out, belowK HB2.out _⟩
      case measure => omega
     ·have HPS := Lib.hid (piece_short (l := s.data.toList) (i := i) (e := j) (by omega))
      go_wp2_with fail
      go_quiet (fail)
      go_wp2_with fail
      go_roundg (s.size - j)
      case rel => exact ⟨l ++ piece s.data.toList i j, j, by omega, by rw [List.length_append]; have := piece_len s.data.toList i j; omega, rfl, by go_num, by rw [HPS.out, ← app_ext], by rw [List.append_assoc, ← HPC.out]; exact HR.out, belowK HB2.out _⟩
      case measure => omega
  ·have HN := Lib.hid (rTxt_end (l := s.data.toList) (i := i) (by rw [HL.out]; exact hlt))
   go_wp2_with fail
   go_ret
   exact ⟨by rw [← HR.out, HN.out]; simp, HB.out⟩
end Go.Proofs.YtcpaneaiobnhdaaDoor.kit
/-
 Contract of impl.runsText over this seat's translation: bytes told in runs. Conditions: at most 1048576 bytes, that lie below.
-/
namespace Go.Proofs.YtcpaneaiobnhdaaDoor.kit
open Go.ChangeShapes Go.WideShapes Go.ChangeAt Go.RowKit
set_option linter.unusedVariables false

/-- The bytes xs lie at a. -/
def BytesAt (w : World) (a : Option Addr) (xs : List UInt8) : Prop :=
 xs = [] ∨ ∃ b o, a = some ⟨b, o, none⟩ ∧ b < w.heap.size ∧ ∀ j, j < xs.length → w.cell? ⟨b, o + j, none⟩ = some (.int .u8 ((xs.getD j 0).toNat : Int))
theorem foll_u8 (b c : UInt8) : ((c.toNat : Int) == ((b.toNat : Int) + 1) % 256) = foll b c := by
 have h2 : ((b.toNat : Int) + 1) % 256 = ((b + 1).toNat : Int) := by
  have := b.toNat_lt
  rw [UInt8.toNat_add]; simp
 rw [h2, foll, Bool.eq_iff_iff]
 simp only [beq_iff_eq]
 constructor
 ·intro h; exact UInt8.toNat.inj (by omega)
 ·intro h; rw [h]
theorem Own.drewN {e : TypeId} {B : Nat} {w : World} {v : Value} {xs : List UInt8} (h : Own e B w v xs) (n : Nat) : Own e B (w.drewN n) v xs := h.kept (B' := 0) (belowK (Below.refl _ _) n)
theorem cells3 (a b : UInt8) : [Value.int .u8 (a.toNat : Int), .int .u8 45, .int .u8 (b.toNat : Int)] = cellsOf [a, 45, b] := rfl
theorem take_at (xs : List UInt8) (i j n : Nat) (hj : j ≤ xs.length) (hn : n < ((xs.drop i).take (j - i)).length) : ((xs.drop i).take (j - i))[n] = xs.getD (i + n) 0 := by
 simp only [List.length_take, List.length_drop] at hn
 rw [List.getElem_take, List.getElem_drop, List.getD_eq_getElem?_getD, List.getElem?_eq_getElem (by omega)]; rfl
set_option maxRecDepth 100000 in
set_option maxHeartbeats 4000000 in
theorem runsText_any (xs : List UInt8) (a : Option Addr) (cap : Nat) (w : World) (hx : xs.length ≤ 1048576) (hcap : xs.length ≤ cap) (hcp : cap ≤ maxLen) (hby : BytesAt w a xs) :
  Calls Tryd.prog 55 #[.slice a xs.length cap] w fun e w' => e = .returned (.string ⟨(rTxt xs 0).toArray⟩) ∧ Below w.heap.size w w' := by
 have HY := Lib.hid hby
 clear hby
 have HO0 := Lib.hid (own_start (e := 5) (B := w.heap.size) (w := w) (Nat.le_refl _))
 go_enter Tryd.func55, Tryd.ntmps55
 go_wp2_with fail
 go_loopg [3, 4] xs.length (fun g o i wr => ∃ (l : List UInt8) (v : Value) (k : Nat), k ≤ xs.length ∧ l.length ≤ k ∧ g = xs.length - k ∧ i = .int .i64 (k : Int) ∧ o = v ∧ Own 5 w.heap.size wr v l ∧ l ++ rTxt xs k = rTxt xs 0 ∧ Below w.heap.size w wr)
 case atStart => exact ⟨[], _, 0, Nat.zero_le _, Nat.le_refl _, rfl, rfl, rfl, HO0.out, rfl, (Below.refl _ _).alloc (Nat.le_refl _) _⟩
 case round =>
  obtain ⟨l, v, i, hi, hll, rfl, rfl, rfl, hown, hrec, hb⟩ := hrel
  have HR := Lib.hid hrec
  have HB := Lib.hid hb
  have HO := Lib.hid hown
  clear hrec hb hown
  by_cases hlt : i < xs.length
  ·obtain ⟨b, o, rfl, hbl, hcells⟩ := HY.out.resolve_left (by intro h; rw [h] at hlt; simp at hlt)
   have HC := Lib.hid hcells
   clear hcells
   go_wp2_with fail
   go_loopg [5] (xs.length - (i + 1)) (fun g e wr2 => ∃ (k : Nat), i < k ∧ k ≤ xs.length ∧ g = xs.length - k ∧ e = .int .i64 (k : Int) ∧ rEnd xs k = rEnd xs (i + 1) ∧ ∃ n, wr2 = wr.drewN n)
   case atStart => exact ⟨i + 1, by omega, by omega, rfl, by go_num, rfl, 0, rfl⟩
   case round =>
    obtain ⟨j, hij, hj, rfl, rfl, hend, n, rfl⟩ := hrel
    have HE := Lib.hid hend
    clear hend
    obtain ⟨k, hk⟩ : ∃ k, k + 1 = j := ⟨j - 1, by omega⟩
    have hwk : IntKind.i64.wrap ((j : Int) - 1) = (k : Int) := by rw [IntKind.wrap_i64]; omega
    have hk0 : (0 : Int) ≤ k := by omega
    have hk1 : (k : Int) < xs.length := by omega
    have hj0 : (0 : Int) ≤ j := by omega
    have hz := HB.out.size
    have hi0 : (0 : Int) ≤ i := by omega
    have hi1 : (i : Int) < xs.length := by omega
    have hij1 : (i : Int) ≤ j := by omega
    have hjc : (j : Int) ≤ cap := by omega
    have q0 : wr.cell? ⟨b, o + i, none⟩ = some (.int .u8 ((xs.getD i 0).toNat : Int)) := (HB.out.cell (p := ⟨b, o + i, none⟩) hbl).trans (HC.out i hlt)
    have q1 : wr.cell? ⟨b, o + k, none⟩ = some (.int .u8 ((xs.getD k 0).toNat : Int)) := (HB.out.cell (p := ⟨b, o + k, none⟩) hbl).trans (HC.out k (by omega))
    have HPL := Lib.hid (show 3 ≤ j - i → piece xs i j = [xs.getD i 0, 45, xs.getD k 0] from fun h => by rw [piece_long h, show j - 1 = k by omega])
    have HNW := Lib.hid (show ∀ m, ∀ (q : Nat) (h : q < ((xs.drop i).take (j - i)).length), (wr.drewN m).cell? ((⟨b, o + i, none⟩ : Addr).add q) = some (.int .u8 ((((xs.drop i).take (j - i))[q]).toNat : Int)) from fun m q h => by
     rw [take_at xs i j q hj h, add_at, Nat.add_assoc]
     exact (HB.out.cell (p := ⟨b, o + (i + q), none⟩) hbl).trans (HC.out (i + q) (by simp only [List.length_take, List.length_drop] at h; omega)))
    by_cases hjs : j < xs.length
    ·have hj1 : (j : Int) < xs.length := by omega
     have p0 : wr.cell? ⟨b, o + j, none⟩ = some (.int .u8 ((xs.getD j 0).toNat : Int)) := (HB.out.cell (p := ⟨b, o + j, none⟩) hbl).trans (HC.out j hjs)
     have hf := foll_u8 (xs.getD k 0) (xs.getD j 0)
     have HF := Lib.hid (show foll (xs.getD k 0) (xs.getD j 0) = foll (xs.getD (j - 1) 0) (xs.getD j 0) by rw [show j - 1 = k by omega])
     generalize foll (xs.getD k 0) (xs.getD j 0) = fo at *
     have HST := Lib.hid (fun h : fo = false => rEnd_stop (l := xs) (e := j) (fun _ => HF.out.symm.trans h))
     have HGO := Lib.hid (fun h : fo = true => rEnd_go (l := xs) (e := j) (by omega) hjs (HF.out.symm.trans h))
     clear HF
     generalize xs.getD j 0 = cj at *
     generalize xs.getD k 0 = ck at *
     generalize xs.getD i 0 = ci at *
     cases fo
     ·have hstop : rEnd xs j = j := HST.out (by trivial)
      have hpc := rTxt_go (l := xs) (i := i) hlt
      rw [← HE.out, hstop] at hpc
      have HPC := Lib.hid hpc
      clear hpc hstop
      by_cases h2 : (3 : Int) ≤ (j : Int) - i
      ·have HPP := Lib.hid (HPL.out (by omega))
       go_wp2_with fail
       go_quiet (fail)
       go_wp2_with fail
       go_region_law ((refine step_append_bytes Tryd.underlying22 Tryd.infoU8 rfl (.tmp 36) (.tmp 46) rfl w.heap.size _ _ (by simp [Act.eval]; rfl) (by exact ((HO.out.drewN _).alloc _).drew) ⟨wr.heap.size, 0, none⟩ 3 3 [ci, 45, ck] rfl (by simp [Act.eval]) (by exact news_lit wr 5 [ci, 45, ck] _ (cells3 _ _)) (by simp; omega) (by simp; omega) ?_; intro v' w3 hown3 hbel3))
       all_goals
        go_wp2_with fail
        go_roundg (xs.length - j)
        case rel => exact ⟨l ++ [ci, 45, ck], v', j, by omega, by simp; omega, rfl, rfl, rfl, hown3, by rw [List.append_assoc, ← HPP.out, ← HPC.out]; exact HR.out, ((belowK HB.out _).alloc hz _).trans hbel3⟩
        case measure => omega
      ·have HPS := Lib.hid (piece_short (l := xs) (i := i) (e := j) (by omega))
       go_wp2_with fail
       go_quiet (fail)
       go_wp2_with (at_builtin; refine wp_append_bytes Tryd.underlying22 Tryd.infoU8 rfl _ _ rfl w.heap.size _ _ rfl (HO.out.drewN _) ⟨b, o + i, none⟩ _ (j - i) ((xs.drop i).take (j - i)) (by simp; omega) rfl (HNW.out _) (by simp; omega) (by simp; omega) ?_; intro v' w3 hown3 hbel3)
       go_roundg (xs.length - j)
       case rel => exact ⟨l ++ (xs.drop i).take (j - i), v', j, by omega, by simp; omega, rfl, rfl, rfl, hown3, by rw [List.append_assoc, ← HPS.out, ← HPC.out]; exact HR.out, (belowK HB.out _).trans hbel3⟩
       case measure => omega
     ·go_wp2_with fail
      go_quiet (fail)
      go_wp2_with fail
      go_roundg (xs.length - (j + 1))
      case rel => exact ⟨j + 1, by omega, by omega, rfl, by go_num, by rw [← HE.out, HGO.out (by trivial)], _, rfl⟩
      case measure => omega
    ·have hstop : rEnd xs j = j := rEnd_stop (fun h => absurd h hjs)
     have hpc := rTxt_go (l := xs) (i := i) hlt
     rw [← HE.out, hstop] at hpc
     have HPC := Lib.hid hpc
     clear hpc hstop
     generalize xs.getD k 0 = ck at *
     generalize xs.getD i 0 = ci at *
     by_cases h2 : (3 : Int) ≤ (j : Int) - i
     ·have HPP := Lib.hid (HPL.out (by omega))
      go_wp2_with fail
      go_quiet (fail)
      go_wp2_with fail
      go_region_law ((refine step_append_bytes Tryd.underlying22 Tryd.infoU8 rfl (.tmp 36) (.tmp 46) rfl w.heap.size _ _ (by simp [Act.eval]; rfl) (by exact ((HO.out.drewN _).alloc _).drew) ⟨wr.heap.size, 0, none⟩ 3 3 [ci, 45, ck] rfl (by simp [Act.eval]) (by exact news_lit wr 5 [ci, 45, ck] _ (cells3 _ _)) (by simp; omega) (by simp; omega) ?_; intro v' w3 hown3 hbel3))
      all_goals
       go_wp2_with fail
       go_roundg (xs.length - j)
       case rel => exact ⟨l ++ [ci, 45, ck], v', j, by omega, by simp; omega, rfl, rfl, rfl, hown3, by rw [List.append_assoc, ← HPP.out, ← HPC.out]; exact HR.out, ((belowK HB.out _).alloc hz _).trans hbel3⟩
       case measure => omega
     ·have HPS := Lib.hid (piece_short (l := xs) (i := i) (e := j) (by omega))
      go_wp2_with fail
      go_quiet (fail)
      go_wp2_with (at_builtin; refine wp_append_bytes Tryd.underlying22 Tryd.infoU8 rfl _ _ rfl w.heap.size _ _ rfl (HO.out.drewN _) ⟨b, o + i, none⟩ _ (j - i) ((xs.drop i).take (j - i)) (by simp; omega) rfl (HNW.out _) (by simp; omega) (by simp; omega) ?_; intro v' w3 hown3 hbel3)
      go_roundg (xs.length - j)
      case rel => exact ⟨l ++ (xs.drop i).take (j - i), v', j, by omega, by simp; omega, rfl, rfl, rfl, hown3, by rw [List.append_assoc, ← HPS.out, ← HPC.out]; exact HR.out, (belowK HB.out _).trans hbel3⟩
      case measure => omega
  ·have HN := Lib.hid (rTxt_end (l := xs) (i := i) hlt)
   have hbk := HO.out.back (P := Tryd.prog) 22 9 Tryd.underlying22 Tryd.underlying5 Tryd.underlying9
   go_wp2_with fail
   go_ret
   exact ⟨by rw [← HR.out, HN.out]; simp, HB.out⟩
end Go.Proofs.YtcpaneaiobnhdaaDoor.kit
