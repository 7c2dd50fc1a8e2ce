/-
  Contracts of impl.readNumWord, readNameWord, readStrWord, readReWord over this seat's translation: the word of a kind that a text begins with. Conditions: the text has at most 1048576 bytes and is not empty.
-/
import Derived.Test.YtebeoijoljlhiaaGreatDoorMLx3
import Derived.Test.YtebeoijoljlhiaaGreatDoorMRn4
namespace Go.Proofs.YtebeoijoljlhiaaGreatDoor.kit
open Go.ChangeShapes Go.WideShapes Go.ChangeAt Go.RowKit
set_option linter.unusedVariables false

/-- The answer for one kind of words. -/
noncomputable def numO (z : ByteArray) : Option (Tok × Nat) := if rnPlace (z.extract 0 (numEnd z 0)) = 0 then none else some (⟨0, ⟨#[]⟩, rnNum (z.extract 0 (numEnd z 0)), 0⟩, numEnd z 0)
noncomputable def nameO (z : ByteArray) : Option (Tok × Nat) := if keyB (z.extract 0 (runEnd signB z 0)).toList = true then some (⟨4, z.extract 0 (runEnd signB z 0), 0, 0⟩, runEnd signB z 0)
     else if nameB (z.extract 0 (runEnd signB z 0)) = true then some (⟨3, z.extract 0 (runEnd signB z 0), 0, 0⟩, runEnd signB z 0) else none
noncomputable def strO (z : ByteArray) : Option (Tok × Nat) := (unq z ((0 : Nat) : Int)).map fun x => (⟨1, ⟨x.1.toArray⟩, 0, 0⟩, x.2)
def reO (z : ByteArray) : Option (Tok × Nat) := (stroke z (0 + 1) (0 + 1)).map fun k => (⟨2, z.extract (0 + 1) k, 0, 0⟩, k + 1)
set_option maxRecDepth 100000 in
set_option maxHeartbeats 1000000 in
theorem readNum_any (z : ByteArray) (w : World) (hs : z.size ≤ 1048576) (hi : 0 < z.size) (hd : digB (z[0].toNat : Int) = true) :
    Calls Tryz.prog 115 #[.string z] w (WPost 0 (numO z) w) := by
  have HB := Lib.hid (show ∀ o, Below w.heap.size w (w.alloc o) from fun o => (Below.refl w.heap.size w).alloc (Nat.le_refl _) _)
  have W : numO z = if rnPlace (z.extract 0 (numEnd z 0)) = 0 then none else some (⟨0, ⟨#[]⟩, rnNum (z.extract 0 (numEnd z 0)), 0⟩, numEnd z 0) := rfl
  have hE := num_all z 0 hi hd
  have hg := runEnd_gt hi hd
  have hk := numEnd_le z 0 (by omega)
  have hl := runEnd_le digB z 0 (by omega)
  rw [Nat.sub_zero] at hE
  have HD : Hid (numEnd z 0 = if atB z (runEnd digB z 0) 46 = true ∧ runEnd digB z 0 + 1 < runEnd digB z (runEnd digB z 0 + 1) then runEnd digB z (runEnd digB z 0 + 1) else runEnd digB z 0) := Lib.hid rfl
  have C0 := Lib.hid (fun W => digits_any z 0 W hs (by omega))
  have hsl0 : ∀ (W : World), (Instr.slice 9 (.string z) none (some (.int .i64 (numEnd z 0 : Int))) none).run Tryz.prog W = .ok (.string (z.extract 0 (numEnd z 0))) W := by
    intro W
    rw [run_slice_string_to_if W _ z .i64 _ Tryz.underlying9, if_pos ⟨by omega, by omega⟩]; rfl
  have hsl1 : ∀ (W : World), (Instr.slice 9 (.string z) (some (.int .i64 (runEnd digB z 0 : Int))) none none).run Tryz.prog W = .ok (.string (z.extract (runEnd digB z 0) z.size)) W := by
    intro W
    rw [run_slice_string_from_if W _ z .i64 _ Tryz.underlying9, if_pos ⟨by omega, by omega⟩]; rfl
  have ht : (z.extract 0 (numEnd z 0)).size ≤ 1048576 := by rw [ByteArray.size_extract]; omega
  have HR := Lib.hid (fun W => implRn_any (z.extract 0 (numEnd z 0)) W ht)
  have HZ := Lib.hid (fun h => num_zero (t := z.extract 0 (numEnd z 0)) h (by omega))
  have HP := Lib.hid (fun h => (place_all (t := z.extract 0 (numEnd z 0)) h).trans (by rw [hE]))
  have HQ : Hid (∀ k, k ≤ z.size → ∀ W, Calls Tryz.prog 174 #[.string (z.extract k z.size), .string ⟨#[46]⟩] W fun e w' => e = .returned (.bool (atB z k 46)) ∧ W = w') := Lib.hid (fun k hk W => pre_any z k 46 W hk)
  generalize hk2 : numEnd z 0 = k at *
  generalize z.extract 0 k = t at *
  generalize runEnd digB z 0 = e0 at *
  clear ht hE hd
  have x0 : (0 : Int) ≤ (e0 : Int) := by omega
  have x1 : (e0 : Int) ≤ (z.size : Int) := by omega
  have HQ0 := Lib.hid (HQ.out e0 (by omega))
  have C1 := Lib.hid (fun (h : e0 + 1 ≤ z.size) W => digits_any z (e0 + 1) W hs h)
  have A46 := Lib.hid (@atB_lt z e0 46)
  have FIN : Hid (∃ o : Option (Tok × Nat), numO z = o ∧ (rnPlace t = 0 ∧ rnNum t = 0 ∧ o = none ∨ rnPlace t = (k : Int) ∧ o = some (⟨0, ⟨#[]⟩, rnNum t, 0⟩, k))) := Lib.hid (by
    refine ⟨_, W, ?_⟩
    by_cases h : rnPlace t = 0
    · exact .inl ⟨h, HZ.out h, if_pos h⟩
    · exact .inr ⟨HP.out h, if_neg h⟩)
  obtain ⟨q, hq⟩ : ∃ q, rnNum t = q := ⟨_, rfl⟩
  obtain ⟨pl, hp⟩ : ∃ pl, rnPlace t = pl := ⟨_, rfl⟩
  rw [hq, hp] at HR FIN
  have ANS : Hid (numO z = none ∧ pl = 0 ∨ ∃ x, numO z = some x ∧ (⟨0, ⟨#[]⟩, q, 0⟩ : Tok) = x.1 ∧ pl = (x.2 : Int)) := Lib.hid (by
    obtain ⟨o, ho, h | h⟩ := FIN.out
    · exact .inl ⟨by rw [ho, h.2.2], h.1⟩
    · exact .inr ⟨_, by rw [ho, h.2], rfl, h.1⟩)
  clear FIN HZ HP hq hp W
  cases a1 : atB z e0 46
  · have hke : k = e0 := by have := HD.out; rw [a1, if_neg (by simp)] at this; exact this
    subst hke
    rw [a1] at HQ0
    go_enter Tryz.func115, Tryz.ntmps115
    go_wp2_with fail
    refine (C0.out _).mono ?_
    rintro e w2 ⟨rfl, rfl⟩
    go_wp2_with fail
    refine (HQ0.out _).mono ?_
    rintro e w2 ⟨rfl, rfl⟩
    go_wp2_with fail
    refine (HR.out _).mono ?_
    rintro e w1 ⟨rfl, hb1⟩
    obtain ⟨hc1, hf1⟩ := bcell hb1
    have z1 : w.heap.size < w1.heap.size := by have := hb1.size; simp at this; omega
    have HB1 := Lib.hid ((HB.out _).trans (hb1.mono (HB.out _).size))
    clear hb1
    go_wp2_with fail
    exact bodyPost_ret (v := .tuple #[.agg #[.int .i64 0, .string ⟨#[]⟩, .int .i64 q, .int .i64 0], .int .i64 pl]) (by simp [results, Tryz.results115, go_sem, *]) rfl ⟨⟨0, ⟨#[]⟩, q, 0⟩, _, rfl, ANS.out, (by first | exact HB1.out | exact ((((HB1.out).setCell (p := ⟨w.heap.size, 0, none⟩) (Nat.le_refl _) _).setCell (p := ⟨w.heap.size, 1, none⟩) (Nat.le_refl _) _).setCell (p := ⟨w.heap.size, 2, none⟩) (Nat.le_refl _) _).setCell (p := ⟨w.heap.size, 3, none⟩) (Nat.le_refl _) _)⟩
  · have hlt := A46.out a1
    have HC := Lib.hid (C1.out (by omega))
    rw [show ((e0 + 1 : Nat) : Int) = (e0 : Int) + 1 by omega] at HC
    rw [a1] at HQ0
    have hke : k = if e0 + 1 < runEnd digB z (e0 + 1) then runEnd digB z (e0 + 1) else e0 := by
      have := HD.out
      rw [a1] at this
      simpa using this
    have hb2 := runEnd_le digB z (e0 + 1) (by omega)
    generalize runEnd digB z (e0 + 1) = e1 at *
    by_cases hgt : e0 + 1 < e1
    · rw [if_pos hgt] at hke
      subst hke
      go_enter Tryz.func115, Tryz.ntmps115
      go_wp2_with fail
      refine (C0.out _).mono ?_
      rintro e w2 ⟨rfl, rfl⟩
      go_wp2_with fail
      refine (HQ0.out _).mono ?_
      rintro e w2 ⟨rfl, rfl⟩
      go_wp2_with fail
      refine (HC.out _).mono ?_
      rintro e w2 ⟨rfl, rfl⟩
      go_wp2_with fail
      refine (HR.out _).mono ?_
      rintro e w1 ⟨rfl, hb1⟩
      obtain ⟨hc1, hf1⟩ := bcell hb1
      have z1 : w.heap.size < w1.heap.size := by have := hb1.size; simp at this; omega
      have HB1 := Lib.hid ((HB.out _).trans (hb1.mono (HB.out _).size))
      clear hb1
      go_wp2_with fail
      exact bodyPost_ret (v := .tuple #[.agg #[.int .i64 0, .string ⟨#[]⟩, .int .i64 q, .int .i64 0], .int .i64 pl]) (by simp [results, Tryz.results115, go_sem, *]) rfl ⟨⟨0, ⟨#[]⟩, q, 0⟩, _, rfl, ANS.out, (by first | exact HB1.out | exact ((((HB1.out).setCell (p := ⟨w.heap.size, 0, none⟩) (Nat.le_refl _) _).setCell (p := ⟨w.heap.size, 1, none⟩) (Nat.le_refl _) _).setCell (p := ⟨w.heap.size, 2, none⟩) (Nat.le_refl _) _).setCell (p := ⟨w.heap.size, 3, none⟩) (Nat.le_refl _) _)⟩
    · rw [if_neg hgt] at hke
      subst hke
      go_enter Tryz.func115, Tryz.ntmps115
      go_wp2_with fail
      refine (C0.out _).mono ?_
      rintro e w2 ⟨rfl, rfl⟩
      go_wp2_with fail
      refine (HQ0.out _).mono ?_
      rintro e w2 ⟨rfl, rfl⟩
      go_wp2_with fail
      refine (HC.out _).mono ?_
      rintro e w2 ⟨rfl, rfl⟩
      go_wp2_with fail
      refine (HR.out _).mono ?_
      rintro e w1 ⟨rfl, hb1⟩
      obtain ⟨hc1, hf1⟩ := bcell hb1
      have z1 : w.heap.size < w1.heap.size := by have := hb1.size; simp at this; omega
      have HB1 := Lib.hid ((HB.out _).trans (hb1.mono (HB.out _).size))
      clear hb1
      go_wp2_with fail
      exact bodyPost_ret (v := .tuple #[.agg #[.int .i64 0, .string ⟨#[]⟩, .int .i64 q, .int .i64 0], .int .i64 pl]) (by simp [results, Tryz.results115, go_sem, *]) rfl ⟨⟨0, ⟨#[]⟩, q, 0⟩, _, rfl, ANS.out, (by first | exact HB1.out | exact ((((HB1.out).setCell (p := ⟨w.heap.size, 0, none⟩) (Nat.le_refl _) _).setCell (p := ⟨w.heap.size, 1, none⟩) (Nat.le_refl _) _).setCell (p := ⟨w.heap.size, 2, none⟩) (Nat.le_refl _) _).setCell (p := ⟨w.heap.size, 3, none⟩) (Nat.le_refl _) _)⟩
set_option maxRecDepth 100000 in
set_option maxHeartbeats 1000000 in
theorem readName_any (z : ByteArray) (w : World) (hs : z.size ≤ 1048576) (hi : 0 < z.size)  :
    Calls Tryz.prog 117 #[.string z] w (WPost 0 (nameO z) w) := by
  have HB := Lib.hid (show ∀ o, Below w.heap.size w (w.alloc o) from fun o => (Below.refl w.heap.size w).alloc (Nat.le_refl _) _)
  have W : nameO z = if keyB (z.extract 0 (runEnd signB z 0)).toList = true then some (⟨4, z.extract 0 (runEnd signB z 0), 0, 0⟩, runEnd signB z 0)
     else if nameB (z.extract 0 (runEnd signB z 0)) = true then some (⟨3, z.extract 0 (runEnd signB z 0), 0, 0⟩, runEnd signB z 0) else none := rfl
  have HW := Lib.hid W
  clear W
  go_enter Tryz.func117, Tryz.ntmps117
  go_wp2_with fail
  obtain ⟨wo, hwo⟩ : ∃ wo : World, wo = w.alloc (.cells #[.int .i64 0, .string ⟨#[]⟩, .int .i64 0, .int .i64 0] 39) := ⟨_, rfl⟩
  go_loop [4] (fun v => ∃ k : Nat, k ≤ z.size ∧ v = .int .i64 k ∧ runEnd signB z k = runEnd signB z 0) (fun v => z.size - (intOf v).toNat)
  case atStart => exact ⟨0, by omega, rfl, rfl⟩
  case round =>
    obtain ⟨k, hk, rfl, hr⟩ := hrel
    have HRE := Lib.hid hr; clear hr
    have done : ∀ (he : runEnd signB z k = k), Hid (nameO z = if keyB (z.extract 0 k).toList = true then some (⟨4, z.extract 0 k, 0, 0⟩, k) else if nameB (z.extract 0 k) = true then some (⟨3, z.extract 0 k, 0, 0⟩, k) else none) := fun he => Lib.hid (by rw [HW.out, ← HRE.out, he])
    have hsl : ∀ (W : World), (Instr.slice 9 (.string z) none (some (.int .i64 (k : Int))) none).run Tryz.prog W = .ok (.string (z.extract 0 k)) W := by
      intro W
      rw [run_slice_string_to_if W _ z .i64 _ Tryz.underlying9, if_pos ⟨by omega, by omega⟩]; rfl
    have EX := Lib.hid (fun W => implIsKey_any (z.extract 0 k) W)
    have EY := Lib.hid (fun W => implName_any (z.extract 0 k) W)
    by_cases hlt : k < z.size
    · have hb : z[k].toNat < 256 := z[k].toNat_lt
      have i0 : (0 : Int) ≤ (k : Int) := by omega
      have i1 : (k : Int) < (z.size : Int) := by omega
      have cv : wrap32 (z[k].toNat : Int) = (z[k].toNat : Int) := by unfold wrap32; omega
      cases a1 : signB z[k].toNat
      · have DN := done (runEnd_out hlt (p := signB) a1)
        clear done
        have ST : ∀ (W : World) (e : Ending) (W' : World), e = .returned (.bool false) ∧ W = W' → e = .returned (.bool false) ∧ W = W' := fun _ _ _ h => h
        have CS := Lib.hid (fun W => isNameSign_any (z[k].toNat : Int) W)
        rw [a1] at CS
        generalize z.extract 0 k = t at *
        cases d1 : keyB t.toList
        · rw [d1] at EX DN
          cases d2 : nameB t
          · rw [d2] at EY DN
            go_wp2_with fail
            refine (CS.out _).mono ?_
            rintro e w2 ⟨rfl, rfl⟩
            go_wp2_with fail
            refine (EX.out _).mono ?_
            rintro e w2 ⟨rfl, rfl⟩
            go_wp2_with fail
            refine (EY.out _).mono ?_
            rintro e w1 ⟨rfl, hb1⟩
            obtain ⟨hc1, hf1⟩ := bcell hb1
            have z1 : w.heap.size < w1.heap.size := by have := hb1.size; simp at this; omega
            have HB1 := Lib.hid ((HB.out _).trans (hb1.mono (HB.out _).size))
            clear hb1
            go_wp2_with fail
            exact bodyPost_ret (v := .tuple #[.agg #[.int .i64 0, .string ⟨#[]⟩, .int .i64 0, .int .i64 0], .int .i64 (0)]) (by simp [results, Tryz.results117, go_sem, *]) rfl ⟨⟨0, ⟨#[]⟩, 0, 0⟩, _, rfl, .inl ⟨DN.out, rfl⟩, (by first | exact HB1.out | exact ((((HB1.out).setCell (p := ⟨w.heap.size, 0, none⟩) (Nat.le_refl _) _).setCell (p := ⟨w.heap.size, 1, none⟩) (Nat.le_refl _) _).setCell (p := ⟨w.heap.size, 2, none⟩) (Nat.le_refl _) _).setCell (p := ⟨w.heap.size, 3, none⟩) (Nat.le_refl _) _)⟩
          · rw [d2] at EY DN
            go_wp2_with fail
            refine (CS.out _).mono ?_
            rintro e w2 ⟨rfl, rfl⟩
            go_wp2_with fail
            refine (EX.out _).mono ?_
            rintro e w2 ⟨rfl, rfl⟩
            go_wp2_with fail
            refine (EY.out _).mono ?_
            rintro e w1 ⟨rfl, hb1⟩
            obtain ⟨hc1, hf1⟩ := bcell hb1
            have z1 : w.heap.size < w1.heap.size := by have := hb1.size; simp at this; omega
            have HB1 := Lib.hid ((HB.out _).trans (hb1.mono (HB.out _).size))
            clear hb1
            go_wp2_with fail
            exact bodyPost_ret (v := .tuple #[.agg #[.int .i64 3, .string t, .int .i64 0, .int .i64 0], .int .i64 (k : Int)]) (by simp [results, Tryz.results117, go_sem, *]) rfl ⟨⟨3, t, 0, 0⟩, _, rfl, .inr ⟨_, DN.out, rfl, rfl⟩, (by first | exact HB1.out | exact ((((HB1.out).setCell (p := ⟨w.heap.size, 0, none⟩) (Nat.le_refl _) _).setCell (p := ⟨w.heap.size, 1, none⟩) (Nat.le_refl _) _).setCell (p := ⟨w.heap.size, 2, none⟩) (Nat.le_refl _) _).setCell (p := ⟨w.heap.size, 3, none⟩) (Nat.le_refl _) _)⟩
        · rw [d1] at EX DN
          go_wp2_with fail
          refine (CS.out _).mono ?_
          rintro e w2 ⟨rfl, rfl⟩
          go_wp2_with fail
          refine (EX.out _).mono ?_
          rintro e w2 ⟨rfl, rfl⟩
          go_wp2_with fail
          exact bodyPost_ret (v := .tuple #[.agg #[.int .i64 4, .string t, .int .i64 0, .int .i64 0], .int .i64 (k : Int)]) (by simp [results, Tryz.results117, go_sem, *]) rfl ⟨⟨4, t, 0, 0⟩, _, rfl, .inr ⟨_, DN.out, rfl, rfl⟩, (by first | exact HB.out _ | exact ((((HB.out _).setCell (p := ⟨w.heap.size, 0, none⟩) (Nat.le_refl _) _).setCell (p := ⟨w.heap.size, 1, none⟩) (Nat.le_refl _) _).setCell (p := ⟨w.heap.size, 2, none⟩) (Nat.le_refl _) _).setCell (p := ⟨w.heap.size, 3, none⟩) (Nat.le_refl _) _)⟩
      · have E := Lib.hid (runEnd_in hlt (p := signB) a1)
        clear done
        have CS := Lib.hid (fun W => isNameSign_any (z[k].toNat : Int) W)
        rw [a1] at CS
        go_wp2_with fail
        refine (CS.out _).mono ?_
        rintro e w2 ⟨rfl, rfl⟩
        go_wp2_with fail
        go_round
        case rel => exact ⟨k + 1, by omega, by go_num, E.out.trans HRE.out⟩
        case measure => simp [intOf]; omega
    · have DN := done (runEnd_end (by omega))
      clear done
      generalize z.extract 0 k = t at *
      cases d1 : keyB t.toList
      · rw [d1] at EX DN
        cases d2 : nameB t
        · rw [d2] at EY DN
          go_wp2_with fail
          refine (EX.out _).mono ?_
          rintro e w2 ⟨rfl, rfl⟩
          go_wp2_with fail
          refine (EY.out _).mono ?_
          rintro e w1 ⟨rfl, hb1⟩
          obtain ⟨hc1, hf1⟩ := bcell hb1
          have z1 : w.heap.size < w1.heap.size := by have := hb1.size; simp at this; omega
          have HB1 := Lib.hid ((HB.out _).trans (hb1.mono (HB.out _).size))
          clear hb1
          go_wp2_with fail
          exact bodyPost_ret (v := .tuple #[.agg #[.int .i64 0, .string ⟨#[]⟩, .int .i64 0, .int .i64 0], .int .i64 (0)]) (by simp [results, Tryz.results117, go_sem, *]) rfl ⟨⟨0, ⟨#[]⟩, 0, 0⟩, _, rfl, .inl ⟨DN.out, rfl⟩, (by first | exact HB1.out | exact ((((HB1.out).setCell (p := ⟨w.heap.size, 0, none⟩) (Nat.le_refl _) _).setCell (p := ⟨w.heap.size, 1, none⟩) (Nat.le_refl _) _).setCell (p := ⟨w.heap.size, 2, none⟩) (Nat.le_refl _) _).setCell (p := ⟨w.heap.size, 3, none⟩) (Nat.le_refl _) _)⟩
        · rw [d2] at EY DN
          go_wp2_with fail
          refine (EX.out _).mono ?_
          rintro e w2 ⟨rfl, rfl⟩
          go_wp2_with fail
          refine (EY.out _).mono ?_
          rintro e w1 ⟨rfl, hb1⟩
          obtain ⟨hc1, hf1⟩ := bcell hb1
          have z1 : w.heap.size < w1.heap.size := by have := hb1.size; simp at this; omega
          have HB1 := Lib.hid ((HB.out _).trans (hb1.mono (HB.out _).size))
          clear hb1
          go_wp2_with fail
          exact bodyPost_ret (v := .tuple #[.agg #[.int .i64 3, .string t, .int .i64 0, .int .i64 0], .int .i64 (k : Int)]) (by simp [results, Tryz.results117, go_sem, *]) rfl ⟨⟨3, t, 0, 0⟩, _, rfl, .inr ⟨_, DN.out, rfl, rfl⟩, (by first | exact HB1.out | exact ((((HB1.out).setCell (p := ⟨w.heap.size, 0, none⟩) (Nat.le_refl _) _).setCell (p := ⟨w.heap.size, 1, none⟩) (Nat.le_refl _) _).setCell (p := ⟨w.heap.size, 2, none⟩) (Nat.le_refl _) _).setCell (p := ⟨w.heap.size, 3, none⟩) (Nat.le_refl _) _)⟩
      · rw [d1] at EX DN
        go_wp2_with fail
        refine (EX.out _).mono ?_
        rintro e w2 ⟨rfl, rfl⟩
        go_wp2_with fail
        exact bodyPost_ret (v := .tuple #[.agg #[.int .i64 4, .string t, .int .i64 0, .int .i64 0], .int .i64 (k : Int)]) (by simp [results, Tryz.results117, go_sem, *]) rfl ⟨⟨4, t, 0, 0⟩, _, rfl, .inr ⟨_, DN.out, rfl, rfl⟩, (by first | exact HB.out _ | exact ((((HB.out _).setCell (p := ⟨w.heap.size, 0, none⟩) (Nat.le_refl _) _).setCell (p := ⟨w.heap.size, 1, none⟩) (Nat.le_refl _) _).setCell (p := ⟨w.heap.size, 2, none⟩) (Nat.le_refl _) _).setCell (p := ⟨w.heap.size, 3, none⟩) (Nat.le_refl _) _)⟩
set_option maxRecDepth 100000 in
set_option maxHeartbeats 1000000 in
theorem readStr_any (z : ByteArray) (w : World) (hs : z.size ≤ 1048576) (hi : 0 < z.size)  :
    Calls Tryz.prog 118 #[.string z] w (WPost 0 (strO z) w) := by
  have HB := Lib.hid (show ∀ o, Below w.heap.size w (w.alloc o) from fun o => (Below.refl w.heap.size w).alloc (Nat.le_refl _) _)
  have W : strO z = (unq z ((0 : Nat) : Int)).map fun x => (⟨1, ⟨x.1.toArray⟩, 0, 0⟩, x.2) := rfl
  have HK := Lib.hid (fun W => implUn_any z ((0 : Nat) : Int) W hs (by omega) (by omega))
  cases hu : unq z ((0 : Nat) : Int) with
  | none =>
    rw [hu] at HK W
    have E := Lib.hid W
    clear W
    unfold tupU at HK
    have hmx : max (-1 : Int) 0 = 0 := by decide
    go_enter Tryz.func118, Tryz.ntmps118
    go_wp2_with fail
    refine (HK.out _).mono ?_
    rintro e w1 ⟨rfl, hb1⟩
    obtain ⟨hc1, hf1⟩ := bcell hb1
    have z1 : w.heap.size < w1.heap.size := by have := hb1.size; simp at this; omega
    have HB1 := Lib.hid ((HB.out _).trans (hb1.mono (HB.out _).size))
    clear hb1
    go_wp2_with fail
    exact bodyPost_ret (v := .tuple #[.agg #[.int .i64 1, .string ⟨#[]⟩, .int .i64 0, .int .i64 0], .int .i64 (0)]) (by simp [results, Tryz.results118, go_sem, *]) rfl ⟨⟨1, ⟨#[]⟩, 0, 0⟩, _, rfl, .inl ⟨E.out, rfl⟩, (by first | exact HB1.out | exact ((((HB1.out).setCell (p := ⟨w.heap.size, 0, none⟩) (Nat.le_refl _) _).setCell (p := ⟨w.heap.size, 1, none⟩) (Nat.le_refl _) _).setCell (p := ⟨w.heap.size, 2, none⟩) (Nat.le_refl _) _).setCell (p := ⟨w.heap.size, 3, none⟩) (Nat.le_refl _) _)⟩
  | some x =>
    obtain ⟨l, n⟩ := x
    rw [hu] at HK W
    have E := Lib.hid W
    clear W
    unfold tupU at HK
    simp only at HK
    have hmx : max (n : Int) 0 = (n : Int) := by omega
    go_enter Tryz.func118, Tryz.ntmps118
    go_wp2_with fail
    refine (HK.out _).mono ?_
    rintro e w1 ⟨rfl, hb1⟩
    obtain ⟨hc1, hf1⟩ := bcell hb1
    have z1 : w.heap.size < w1.heap.size := by have := hb1.size; simp at this; omega
    have HB1 := Lib.hid ((HB.out _).trans (hb1.mono (HB.out _).size))
    clear hb1
    go_wp2_with fail
    exact bodyPost_ret (v := .tuple #[.agg #[.int .i64 1, .string ⟨l.toArray⟩, .int .i64 0, .int .i64 0], .int .i64 (n : Int)]) (by simp [results, Tryz.results118, go_sem, *]) rfl ⟨⟨1, ⟨l.toArray⟩, 0, 0⟩, _, rfl, .inr ⟨_, E.out, rfl, rfl⟩, (by first | exact HB1.out | exact ((((HB1.out).setCell (p := ⟨w.heap.size, 0, none⟩) (Nat.le_refl _) _).setCell (p := ⟨w.heap.size, 1, none⟩) (Nat.le_refl _) _).setCell (p := ⟨w.heap.size, 2, none⟩) (Nat.le_refl _) _).setCell (p := ⟨w.heap.size, 3, none⟩) (Nat.le_refl _) _)⟩
set_option maxRecDepth 100000 in
set_option maxHeartbeats 1000000 in
theorem readRe_any (z : ByteArray) (w : World) (hs : z.size ≤ 1048576) (hi : 0 < z.size) (h47 : z[0] = 47) :
    Calls Tryz.prog 119 #[.string z] w (WPost 0 (reO z) w) := by
  have HB := Lib.hid (show ∀ o, Below w.heap.size w (w.alloc o) from fun o => (Below.refl w.heap.size w).alloc (Nat.le_refl _) _)
  have HW : Hid (reO z = (stroke z (0 + 1) (0 + 1)).map fun k => (⟨2, z.extract (0 + 1) k, 0, 0⟩, k + 1)) := Lib.hid rfl
  have h92 : Hid (atB z 0 92 = false) := Lib.hid (by rw [atB, dif_pos hi, h47]; rfl)
  clear h47
  go_enter Tryz.func119, Tryz.ntmps119
  go_wp2_with fail
  go_loop [4] (fun v => ∃ k : Nat, 1 ≤ k ∧ k ≤ z.size ∧ v = .int .i64 k ∧ stroke z (0 + 1) (0 + 1) = stroke z (0 + 1) k) (fun v => z.size - (intOf v).toNat)
  case atStart => exact ⟨1, by omega, by omega, rfl, rfl⟩
  case round =>
    obtain ⟨k, hk0, hk, rfl, hr⟩ := hrel
    have HR := Lib.hid hr; clear hr
    have hnone : ∀ (he : stroke z (0 + 1) k = none), Hid (reO z = none) := fun he => Lib.hid (by rw [HW.out, HR.out, he]; rfl)
    have hsome : ∀ (he : stroke z (0 + 1) k = some k), Hid (reO z = some (⟨2, z.extract 1 k, 0, 0⟩, k + 1)) := fun he => Lib.hid (by rw [HW.out, HR.out, he]; rfl)
    by_cases hlt : k < z.size
    · have i0 : (0 : Int) ≤ (k : Int) := by omega
      have i1 : (k : Int) < (z.size : Int) := by omega
      have j0 : (0 : Int) ≤ (k : Int) - 1 := by omega
      have j1 : (k : Int) - 1 < (z.size : Int) := by omega
      have hn : ((k : Int) - 1).toNat = k - 1 := by omega
      have hk1 : k - 1 < z.size := by omega
      have a10 := atB_is 10 10 rfl hlt
      have a47 := atB_is 47 47 rfl hlt
      have a92 := atB_is 92 92 rfl hk1
      have HNL := Lib.hid (@stroke_nl z (0 + 1) k hlt)
      have HH := Lib.hid (@stroke_hit z (0 + 1) k hlt)
      have HO := Lib.hid (@stroke_on z (0 + 1) k hlt)
      have E10 : Hid (atB z k 10 = true ↔ z[k] = 10) := Lib.hid (by rw [atB, dif_pos hlt, beq_iff_eq])
      have E47 : Hid (atB z k 47 = true ↔ z[k] = 47) := Lib.hid (by rw [atB, dif_pos hlt, beq_iff_eq])
      have hsl : ∀ (W : World), (Instr.slice 9 (.string z) (some (.int .i64 1)) (some (.int .i64 (k : Int))) none).run Tryz.prog W = .ok (.string (z.extract 1 k)) W := by
        intro W
        rw [run_slice_string W _ z .i64 .i64 _ _ Tryz.underlying9 (by omega) (by omega) (by omega)]; rfl
      cases c10 : atB z k 10
      · have n10 : Hid (z[k] ≠ 10) := Lib.hid (fun e => by rw [E10.out.2 e] at c10; cases c10)
        rw [c10] at a10
        cases c47 : atB z k 47
        · have n47 : Hid (z[k] ≠ 47) := Lib.hid (fun e => by rw [E47.out.2 e] at c47; cases c47)
          rw [c47] at a47
          have E := Lib.hid (HO.out n10.out (fun g => n47.out g.1))
          clear hnone hsome
          go_wp2_with fail
          go_round
          case rel => exact ⟨k + 1, by omega, by omega, by go_num, HR.out.trans E.out.symm⟩
          case measure => simp [intOf]; omega
        · have n47 : Hid (z[k] = 47) := Lib.hid (E47.out.1 c47)
          rw [c47] at a47
          cases c92 : atB z (k - 1) 92
          · rw [c92] at a92
            have E := hsome (HH.out n10.out ⟨n47.out, .inr c92⟩)
            clear hnone hsome
            generalize z.extract 1 k = t at *
            go_wp2_with fail
            exact bodyPost_ret (v := .tuple #[.agg #[.int .i64 2, .string t, .int .i64 0, .int .i64 0], .int .i64 ((k : Int) + 1)]) (by simp [results, Tryz.results119, go_sem, *]) rfl ⟨⟨2, t, 0, 0⟩, _, rfl, .inr ⟨_, E.out, rfl, by go_num⟩, (by first | exact HB.out _ | exact ((((HB.out _).setCell (p := ⟨w.heap.size, 0, none⟩) (Nat.le_refl _) _).setCell (p := ⟨w.heap.size, 1, none⟩) (Nat.le_refl _) _).setCell (p := ⟨w.heap.size, 2, none⟩) (Nat.le_refl _) _).setCell (p := ⟨w.heap.size, 3, none⟩) (Nat.le_refl _) _)⟩
          · rw [c92] at a92
            have hne : k ≠ 1 := fun e => by subst e; rw [h92.out] at c92; cases c92
            have E := Lib.hid (HO.out n10.out (fun g => by rcases g.2 with g | g; · exact hne g
                                                           · rw [c92] at g; cases g))
            clear hnone hsome
            go_wp2_with fail
            go_round
            case rel => exact ⟨k + 1, by omega, by omega, by go_num, HR.out.trans E.out.symm⟩
            case measure => simp [intOf]; omega
      · have E := hnone (HNL.out (E10.out.1 c10))
        rw [c10] at a10
        clear hnone hsome
        go_wp2_with fail
        exact bodyPost_ret (v := .tuple #[.agg #[.int .i64 0, .string ⟨#[]⟩, .int .i64 0, .int .i64 0], .int .i64 (0)]) (by simp [results, Tryz.results119, go_sem, *]) rfl ⟨⟨0, ⟨#[]⟩, 0, 0⟩, _, rfl, .inl ⟨E.out, rfl⟩, (by first | exact HB.out _ | exact ((((HB.out _).setCell (p := ⟨w.heap.size, 0, none⟩) (Nat.le_refl _) _).setCell (p := ⟨w.heap.size, 1, none⟩) (Nat.le_refl _) _).setCell (p := ⟨w.heap.size, 2, none⟩) (Nat.le_refl _) _).setCell (p := ⟨w.heap.size, 3, none⟩) (Nat.le_refl _) _)⟩
    · have E := hnone (stroke_end (by omega))
      clear hnone hsome
      go_wp2_with fail
      exact bodyPost_ret (v := .tuple #[.agg #[.int .i64 0, .string ⟨#[]⟩, .int .i64 0, .int .i64 0], .int .i64 (0)]) (by simp [results, Tryz.results119, go_sem, *]) rfl ⟨⟨0, ⟨#[]⟩, 0, 0⟩, _, rfl, .inl ⟨E.out, rfl⟩, (by first | exact HB.out _ | exact ((((HB.out _).setCell (p := ⟨w.heap.size, 0, none⟩) (Nat.le_refl _) _).setCell (p := ⟨w.heap.size, 1, none⟩) (Nat.le_refl _) _).setCell (p := ⟨w.heap.size, 2, none⟩) (Nat.le_refl _) _).setCell (p := ⟨w.heap.size, 3, none⟩) (Nat.le_refl _) _)⟩
end Go.Proofs.YtebeoijoljlhiaaGreatDoor.kit
