/-
 Contract of spec.l04Add over this seat's translation: ascending bytes with one more. Conditions: the text is short.
-/
import Derived.Test.YtcpaneaiobnhdaaDoorMPr2
namespace Go.Proofs.YtcpaneaiobnhdaaDoor.kit
open Go.ChangeShapes Go.WideShapes Go.ChangeAt Go.RowKit
set_option linter.unusedVariables false

theorem add_end (b : UInt8) (l : List UInt8) (k : Nat) (h : PR.addB b l = l.take k ++ PR.addB b (l.drop k)) (hk : l.length ≤ k) : PR.addB b l = l ++ [b] := by
 rw [h, List.take_of_length_le hk, List.drop_eq_nil_of_le hk]; rfl
theorem add_same (b : UInt8) (l : List UInt8) (k : Nat) (h : PR.addB b l = l.take k ++ PR.addB b (l.drop k)) (hk : k < l.length) (e : l[k] = b) : PR.addB b l = l := by
 rw [h, List.drop_eq_getElem_cons hk, PR.addB, if_pos e, ← List.drop_eq_getElem_cons hk, List.take_append_drop]
theorem add_here (b : UInt8) (l : List UInt8) (k : Nat) (h : PR.addB b l = l.take k ++ PR.addB b (l.drop k)) (hk : k < l.length) (e : ¬ l[k] = b) (g : b.toNat < l[k].toNat) : PR.addB b l = l.take k ++ [b] ++ l.drop k := by
 rw [h, List.drop_eq_getElem_cons hk, PR.addB, if_neg e, if_pos g]; simp
theorem add_on (b : UInt8) (l : List UInt8) (k : Nat) (h : PR.addB b l = l.take k ++ PR.addB b (l.drop k)) (hk : k < l.length) (e : ¬ l[k] = b) (g : ¬ b.toNat < l[k].toNat) : PR.addB b l = l.take (k + 1) ++ PR.addB b (l.drop (k + 1)) := by
 rw [h, List.drop_eq_getElem_cons hk, PR.addB, if_neg e, if_neg g, List.take_succ_eq_append_getElem hk, List.append_assoc]; rfl
set_option maxRecDepth 100000 in
set_option maxHeartbeats 1500000 in
theorem add_spec (s : ByteArray) (b : UInt8) (w : World) (hs : s.size ≤ 1000) :
  Calls Tryd.prog 79 #[.string s, .int .u8 (b.toNat : Int)] w fun e w' => e = .returned (.string ⟨(PR.addB b s.data.toList).toArray⟩) ∧ Below w.heap.size w w' := by
 have hb1 := back_lit (P := Tryd.prog) Tryd.underlying22 Tryd.underlying5 Tryd.underlying9 [b] [.int .u8 (b.toNat : Int)] rfl 1 1 rfl
 have hb2 := hb1 w
 have hb3 : Sem.run Tryd.prog (convert 22 9 (Value.slice (some { block := w.heap.size, off := 0 }) 1 1)) ((w.alloc (Obj.cells #[Value.int IntKind.u8 (b.toNat : Int)] 5)).drew) = Result.ok (Value.string ⟨#[b]⟩) ((w.alloc (Obj.cells #[Value.int IntKind.u8 (b.toNat : Int)] 5)).drew) := hb1 w.drew
 have b0 : (0 : Int) ≤ b.toNat := by omega
 have b1 : (b.toNat : Int) ≤ 255 := by have := b.toNat_lt; omega
 go_enter Tryd.func79, Tryd.ntmps79
 go_wp2_with fail
 go_loopw [5] (fun i wr => ∃ k : Nat, k ≤ s.size ∧ i = .int .i64 (k : Int) ∧ PR.addB b s.data.toList = s.data.toList.take k ++ PR.addB b (s.data.toList.drop k) ∧ wr = w) (fun i _ => s.size - (intOf i).toNat)
 case atStart => exact ⟨0, Nat.zero_le _, rfl, by simp, rfl⟩
 case round =>
  obtain ⟨k, hk, rfl, hX, rfl⟩ := hrel
  by_cases hlt : k < s.size
  ·have d1 : decide ((k : Int) < (s.size : Int)) = true := by simp; omega
   have i0 : (0 : Int) ≤ (k : Int) := by omega
   have i1 : (k : Int) < (s.size : Int) := by omega
   have hl : k < s.data.toList.length := by simpa using hlt
   have hgl : s.data.toList[k] = s[k] := rfl
   by_cases he : s[k] = b
   ·have e1 : ((s[k].toNat : Int) == (b.toNat : Int)) = true := by rw [he]; simp
    have HY : Hid (s = ⟨(PR.addB b s.data.toList).toArray⟩) := Lib.hid (by rw [add_same b _ k hX hl (hgl.trans he)])
    clear hX he hgl
    go_wp2_with fail
    go_ret
    exact ⟨congrArg (fun x => Ending.returned (Value.string x)) HY.out, Below.refl _ _⟩
   ·have he2 : s[k].toNat ≠ b.toNat := fun h => he (UInt8.toNat_inj.1 h)
    have e1 : ((s[k].toNat : Int) == (b.toNat : Int)) = false := by rw [beq_eq_false_iff_ne]; omega
    have hne : ¬ s.data.toList[k] = b := he
    by_cases hg : b.toNat < s[k].toNat
    ·have e2 : decide ((b.toNat : Int) < (s[k].toNat : Int)) = true := by simp; omega
     obtain ⟨X1, hX1⟩ : ∃ X : ByteArray, X = ⟨(s.data.toList.take k).toArray⟩ := ⟨_, rfl⟩
     obtain ⟨X2, hX2⟩ : ∃ X : ByteArray, X = ⟨(s.data.toList.drop k).toArray⟩ := ⟨_, rfl⟩
     have HY : Hid (X1 ++ ⟨#[b]⟩ ++ X2 = ⟨(PR.addB b s.data.toList).toArray⟩) := Lib.hid (by
      rw [add_here b _ k hX hl hne hg, hX1, hX2]; apply ByteArray.ext; apply Array.toList_inj.1; simp)
     have hsl1 : ∀ (W : World), (Instr.slice 9 (.string s) none (some (.int .i64 (k : Int))) none).run Tryd.prog W = .ok (.string X1) W := by
      intro W; rw [run_slice_string_to_if W _ s .i64 _ Tryd.underlying9, if_pos ⟨by omega, by omega⟩, hX1, Int.toNat_natCast, extract_drop]; rfl
     have hsl2 : ∀ (W : World), (Instr.slice 9 (.string s) (some (.int .i64 (k : Int))) none none).run Tryd.prog W = .ok (.string X2) W := by
      intro W; rw [run_slice_string_from_if W _ s .i64 _ Tryd.underlying9, if_pos ⟨by omega, by omega⟩, hX2, Int.toNat_natCast, extract_drop, List.take_of_length_le (by simp)]
     have z1 : X1.size ≤ 1000 := by rw [hX1]; show (s.data.toList.take k).toArray.size ≤ 1000; simp; omega
     have z2 : X2.size ≤ 1000 := by rw [hX2]; show (s.data.toList.drop k).toArray.size ≤ 1000; simp; omega
     clear hX hne hX1 hX2 he hgl
     go_wp2_with fail
     go_region
     go_wp2_with fail
     go_ret
     exact ⟨congrArg (fun x => Ending.returned (Value.string x)) HY.out, ((Below.refl _ _).alloc (Nat.le_refl _) _).drew⟩
    ·have e2 : decide ((b.toNat : Int) < (s[k].toNat : Int)) = false := by simp; omega
     have HX := Lib.hid (add_on b _ k hX hl hne hg)
     clear hX hne he hgl
     go_wp2_with fail
     go_roundw
     case rel => exact ⟨k + 1, by omega, by go_num, HX.out, by first | rfl | trivial⟩
     case measure => simp [intOf]; omega
  ·have d1 : decide ((k : Int) < (s.size : Int)) = false := by simp; omega
   have HY : Hid (s ++ ⟨#[b]⟩ = ⟨(PR.addB b s.data.toList).toArray⟩) := Lib.hid (by
    rw [add_end b _ k hX (by simpa using hlt)]; apply ByteArray.ext; apply Array.toList_inj.1; simp)
   clear hX
   go_wp2_with fail
   go_ret
   exact ⟨congrArg (fun x => Ending.returned (Value.string x)) HY.out, (Below.refl _ _).alloc (Nat.le_refl _) _⟩
end Go.Proofs.YtcpaneaiobnhdaaDoor.kit
