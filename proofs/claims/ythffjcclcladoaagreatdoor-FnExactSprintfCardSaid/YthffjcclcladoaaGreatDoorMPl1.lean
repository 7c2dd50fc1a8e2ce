/-
  Contracts of strings.Cut at a % and of impl.Places over this seat's translation. Conditions: a form of at most 1048576 bytes.
-/
import Derived.Test.YthffjcclcladoaaGreatDoorMFp2
import Derived.Test.YthffjcclcladoaaGreatDoorMFp6
import Derived.Deep.LoopGhost
import Derived.Deep.QuietTactic
namespace Go.Proofs.YthffjcclcladoaaGreatDoor.kit
open Go.ChangeShapes Go.WideShapes Go.ChangeAt Go.RowKit
set_option linter.unusedVariables false

theorem idx37 : ∀ l : List UInt8, (Lib.indexByte l 37 = -1 ∧ (37 : UInt8) ∉ l) ∨ ∃ n : Nat, Lib.indexByte l 37 = (n : Int) ∧ n < l.length ∧ l = l.take n ++ 37 :: l.drop (n + 1) ∧ (37 : UInt8) ∉ l.take n
  | [] => .inl ⟨rfl, by simp⟩
  | c :: l => by
    by_cases h : c = 37
    · subst h; exact .inr ⟨0, rfl, by simp, by simp, by simp⟩
    · have hb : (c == 37) = false := by simpa using h
      rcases idx37 l with ⟨h1, h2⟩ | ⟨n, h1, h2, h3, h4⟩
      · refine .inl ⟨?_, ?_⟩
        · simp [Lib.indexByte, hb, h1]
        · intro hm; rcases List.mem_cons.1 hm with e | e
          · exact h e.symm
          · exact h2 e
      · refine .inr ⟨n + 1, ?_, by simpa using h2, ?_, ?_⟩
        · rw [Lib.indexByte, hb, h1]
          have : ((n : Int) == -1) = false := beq_eq_false_iff_ne.2 (by omega)
          simp [this]
        · rw [List.take_succ_cons, List.drop_succ_cons, List.cons_append, ← h3]
        · intro hm; rw [List.take_succ_cons] at hm
          rcases List.mem_cons.1 hm with e | e
          · exact h e.symm
          · exact h4 e
theorem below_dN (w : World) (k : Nat) : Below w.heap.size w (w.drewN k) := ⟨rfl, rfl, rfl, Nat.le_refl _, fun _ _ => rfl⟩
/-- What Cut at a % tells. -/
def cutP (l : List UInt8) : Value :=
  .tuple #[.string ⟨(if 0 ≤ Lib.indexByte l 37 then l.take (Lib.indexByte l 37).toNat else l).toArray⟩, .string ⟨(if 0 ≤ Lib.indexByte l 37 then l.drop ((Lib.indexByte l 37).toNat + 1) else []).toArray⟩, .bool (decide (0 ≤ Lib.indexByte l 37))]
set_option maxRecDepth 100000 in
theorem slCut_any (s : ByteArray) (w : World) (hs : s.size ≤ 1048576) :
    Calls Tryz.prog 87 #[.string s, .string ⟨#[37]⟩] w fun e w' => e = .returned (cutP s.data.toList) ∧ Below w.heap.size w w' := by
  have e : s.data.toList.length = s.size := by simp
  have C := Lib.hid (fun W => Tryz.stringslite_Index_one s 37 W)
  rcases idx37 s.data.toList with ⟨h1, h2⟩ | ⟨n, h1, h2, h3, h4⟩
  · have E := Lib.hid (show cutP s.data.toList = .tuple #[.string s, .string ⟨#[]⟩, .bool false] by
      rw [cutP, h1, if_neg (by omega), if_neg (by omega)]; rfl)
    rw [h1] at C
    clear h2
    go_enter Tryz.func87, Tryz.ntmps87
    go_wp2_with fail
    refine (C.out _).mono ?_
    rintro en w1 ⟨rfl, rfl⟩
    go_wp2_with fail
    go_ret3
    exact ⟨by rw [E.out]; rfl, Below.refl _ _⟩
  · rw [e] at h2
    have hi0 : 0 ≤ (n : Int) := by omega
    have hl : ∀ W, (Instr.slice 9 (.string s) none (some (.int .i64 (n : Int))) none).run Tryz.prog W = .ok (.string ⟨(s.data.toList.take n).toArray⟩) W := fun W => by
      rw [run_slice_string_h _ _ s Tryz.underlying9 .i64 (n : Int) (by omega) (by omega), Int.toNat_natCast, ext_take]
    have hr : ∀ W, (Instr.slice 9 (.string s) (some (.int .i64 ((n : Int) + 1))) none none).run Tryz.prog W = .ok (.string ⟨(s.data.toList.drop (n + 1)).toArray⟩) W := fun W => by
      rw [run_slice_string_l _ _ s Tryz.underlying9 .i64 ((n : Int) + 1) (by omega) (by omega), show ((n : Int) + 1).toNat = n + 1 by omega, ← ext_drop, ← same_list']
    have E := Lib.hid (show cutP s.data.toList = .tuple #[.string ⟨(s.data.toList.take n).toArray⟩, .string ⟨(s.data.toList.drop (n + 1)).toArray⟩, .bool true] by
      rw [cutP, h1, if_pos hi0, if_pos hi0, Int.toNat_natCast, show decide (0 ≤ (n : Int)) = true by simp])
    rw [h1] at C
    have hwr : IntKind.i64.wrap ((n : Int) + 1) = (n : Int) + 1 := by unfold IntKind.wrap; simp [IntKind.signed, IntKind.bits]; omega
    clear h3 h4 h1
    go_enter Tryz.func87, Tryz.ntmps87
    go_wp2_with fail
    refine (C.out _).mono ?_
    rintro en w1 ⟨rfl, rfl⟩
    go_wp2_with fail
    go_quiet (fail)
    go_wp2
    go_ret3
    exact ⟨by rw [E.out]; rfl, by first | exact below_dN _ _ | exact Below.refl _ _⟩
-- | exact Below.refl _ _ | exact (Below.refl _ _).drew⟩
theorem cut37_any (s : ByteArray) (w : World) (hs : s.size ≤ 1048576) :
    Calls Tryz.prog 44 #[.string s, .string ⟨#[37]⟩] w fun e w' => e = .returned (cutP s.data.toList) ∧ Below w.heap.size w w' := by
  have C := Lib.hid (slCut_any s w hs)
  obtain ⟨cA, cB, cC, hcc⟩ : ∃ cA cB cC, cutP s.data.toList = .tuple #[.string cA, .string cB, .bool cC] := ⟨_, _, _, rfl⟩
  rw [hcc] at C ⊢
  clear hcc
  go_enter Tryz.func44, Tryz.ntmps44
  go_wp2_with fail
  refine C.out.mono ?_
  rintro en w1 ⟨rfl, hb⟩
  go_wp2_with fail
  go_ret3
  exact ⟨by first | rfl | simp, hb⟩
theorem ext_mk (l : List UInt8) (i : Nat) : (ByteArray.mk l.toArray).extract i (ByteArray.mk l.toArray).size = ⟨(l.drop i).toArray⟩ := by
  rw [same_list' ((ByteArray.mk l.toArray).extract i (ByteArray.mk l.toArray).size), ext_drop]
theorem bsz (l : List UInt8) : (ByteArray.mk l.toArray).size = l.length := by simp [ByteArray.size]
theorem fp_new (w : World) (t : TypeId) (fl : ByteArray) (n : Int) (b : Bool) (p kd : Int) : (w.alloc (.cells #[.string fl, .int .i64 n, .bool b, .int .i64 p, .int .u8 kd] t)).cell? ⟨w.heap.size, 4, none⟩ = some (.int .u8 kd) := (fp5_zero w t fl n b p kd).c4
theorem kind37 {c : UInt8} (h : kindB c = true) : c ≠ 37 := by
  intro e; rw [e] at h; exact absurd h (by decide)
set_option maxRecDepth 100000 in
set_option maxHeartbeats 4000000 in
theorem implPl_any (s : ByteArray) (w : World) (hs : s.size ≤ 1048576) :
    Calls Tryz.prog 16 #[.string s] w fun e w' => e = .returned (.int .i64 (plN s.data.toList 0)) ∧ Below w.heap.size w w' := by
  have HS := Lib.hid hs
  go_enter Tryz.func16, Tryz.ntmps16
  go_wp2_with fail
  go_loopg [0, 3] s.size (fun gg sf sn wr => ∃ (l : List UInt8) (m : Nat), l.length ≤ gg ∧ sf = .string ⟨l.toArray⟩ ∧ sn = .int .i64 (m : Int) ∧ m + l.length ≤ s.size ∧ plN s.data.toList 0 = plN l m ∧ Below w.heap.size w wr)
  case atStart => exact ⟨s.data.toList, 0, by simp, rfl, rfl, by simp, rfl, Below.refl _ _⟩
  case round =>
    obtain ⟨l, m, hlg, rfl, rfl, hml, hp, hb⟩ := hrel
    have HP := Lib.hid hp
    have HB := Lib.hid hb
    have hl9 : l.length ≤ 1048576 := by omega
    have C := Lib.hid (fun W => cut37_any ⟨l.toArray⟩ W (by rw [bsz]; exact hl9))
    simp only at C
    unfold cutP at C
    clear hp hb
    rcases idx37 l with ⟨h1, h2⟩ | ⟨n, h1, h2, h3, h4⟩
    · have HN := Lib.hid (show plN s.data.toList 0 = m by
        rw [HP.out, ← List.append_nil l, plN_app l [] m h2, plN_nil])
      rw [h1] at C
      clear h2
      go_wp2_with fail
      refine (C.out _).mono ?_
      rintro en w1 ⟨rfl, hb1⟩
      go_wp2_with fail
      go_ret
      exact ⟨ret_int HN.out.symm, HB.out.trans (hb1.mono HB.out.size)⟩
    · rw [h1, if_pos (by omega), if_pos (by omega), show decide (0 ≤ (n : Int)) = true by simp, Int.toNat_natCast] at C
      obtain ⟨rest, hrest⟩ : ∃ rest, rest = l.drop (n + 1) := ⟨_, rfl⟩
      rw [← hrest] at C h3
      have hrl : rest.length + 1 ≤ l.length := by rw [hrest, List.length_drop]; omega
      have HL := Lib.hid (show plN s.data.toList 0 = plN (37 :: rest) m by rw [HP.out, h3, plN_app _ _ _ h4])
      have R := Lib.hid (fun W => place_any ⟨rest.toArray⟩ W (by rw [bsz]; omega))
      rw [bsz] at R
      simp only at R
      generalize (l.take n) = pl at *
      clear h1 h2 h3 h4 hrest
      go_wp2_with fail
      refine (C.out _).mono ?_
      rintro en w1 ⟨rfl, hb1⟩
      have HB1 := Lib.hid (HB.out.trans (hb1.mono HB.out.size))
      clear hb1
      go_wp2_with fail
      refine (R.out _).mono ?_
      rintro en w2 ⟨hb2, ⟨hh, rfl⟩ | ⟨hh, hno, rfl⟩ | ⟨p, r, hh, hsome, rfl⟩⟩
      · obtain ⟨r, rfl⟩ : ∃ r, rest = 37 :: r := by
          cases rest with
          | nil => simp at hh
          | cons x r => simp at hh; exact ⟨r, by rw [hh]⟩
        have HN := Lib.hid (show plN s.data.toList 0 = plN r m by rw [HL.out, plN_both])
        have HB2 := Lib.hid (HB1.out.trans (hb2.mono HB1.out.size))
        have hsl : ∀ W, (Instr.slice 9 (.string ⟨(37 :: r).toArray⟩) (some (.int .i64 1)) none none).run Tryz.prog W = .ok (.string ⟨r.toArray⟩) W := fun W => by
          rw [run_slice_string_l _ _ _ Tryz.underlying9 .i64 1 (by omega) (by rw [bsz]; simp; omega), ext_mk]; rfl
        have hr9 : r.length + 1 ≤ gk := by simp at hrl; omega
        have hr8 : m + r.length ≤ s.size := by simp at hrl; omega
        have HC := Lib.hid (fun W => fp_new W 71 ⟨#[]⟩ 0 false 0 37)
        have hc4 := HC.out w2
        clear hb2 hh HC
        go_wp2_with fail
        go_roundg r.length
        case measure => omega
        case rel => exact ⟨r, m, Nat.le_refl _, rfl, rfl, hr8, HN.out, by first | exact HB2.out | exact HB2.out.alloc HB2.out.size _⟩
      · have HN := Lib.hid (show plN s.data.toList 0 = -1 by rw [HL.out]; exact plN_none m hh hno)
        have HB2 := Lib.hid (HB1.out.trans (hb2.mono HB1.out.size))
        clear hb2 hh hno
        go_wp2_with fail
        go_ret
        exact ⟨ret_int HN.out.symm, by first | exact HB2.out | exact HB2.out.alloc HB2.out.size _⟩
      · have HN := Lib.hid (show plN s.data.toList 0 = plN r (m + 1) by rw [HL.out, plN_some m hh hsome])
        have HB2 := Lib.hid (HB1.out.trans (hb2.mono HB1.out.size))
        have hrl2 := rdP_len hsome
        have hsuf := List.suffix_iff_eq_drop.1 (rdP_suf hsome)
        obtain ⟨z, hz⟩ : ∃ z : Nat, z = rest.length - r.length := ⟨_, rfl⟩
        rw [← hz] at hsuf
        have hsl : ∀ W, (Instr.slice 9 (.string ⟨rest.toArray⟩) (some (.int .i64 (z : Int))) none none).run Tryz.prog W = .ok (.string ⟨r.toArray⟩) W := fun W => by
          rw [run_slice_string_l _ _ _ Tryz.underlying9 .i64 (z : Int) (by omega) (by rw [bsz]; omega), Int.toNat_natCast, ext_mk, ← hsuf]
        have hk := kind37 (rdP_kind hsome).1
        have x37 : ((p.kind.toNat : Int) != 37) = true := by
          have this : ((p.kind.toNat : Int) == 37) = false := ne_int p.kind 37 (by omega) hk
          rw [bne, this]; rfl
        have hz0 : ((z : Int) == 0) = false := by simp; omega
        have hr8 : m + 1 + r.length ≤ s.size := by omega
        have hr9 : r.length + 1 ≤ gk := by omega
        rw [← hz]
        unfold fpV
        have hc4 := fp_new w2 71 ⟨(rest.take (flN rest)).toArray⟩ (p.width : Int) (decide (0 ≤ p.prec)) (if p.prec < 0 then 0 else p.prec) (p.kind.toNat : Int)
        generalize decide (0 ≤ p.prec) = db at *
        generalize (if p.prec < 0 then 0 else p.prec) = dp at *
        generalize (rest.take (flN rest)) = df at *
        clear hb2 hh hsome hsuf hz hk
        go_wp2_with fail
        go_roundg r.length
        case measure => omega
        case rel => exact ⟨r, m + 1, Nat.le_refl _, rfl, by go_num, hr8, HN.out, by first | exact HB2.out | exact HB2.out.alloc HB2.out.size _⟩
end Go.Proofs.YthffjcclcladoaaGreatDoor.kit
