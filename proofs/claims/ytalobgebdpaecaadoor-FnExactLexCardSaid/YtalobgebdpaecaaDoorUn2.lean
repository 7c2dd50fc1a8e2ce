/-
  Contracts of impl.readOctal and impl.readQuoted over this seat's translation: each reads one byte as it stands inside quotes. Conditions: the text has 1 .. 1048576 bytes.
-/
import Derived.Test.YtalobgebdpaecaaDoorUn1
namespace Go.Proofs.YtalobgebdpaecaaDoor.kit
open Go.ChangeShapes Go.WideShapes Go.ChangeAt Go.RowKit
set_option linter.unusedVariables false

def tupB (o : Option (UInt8 × Nat)) : Value := match o with | some (b, n) => .tuple #[.int .u8 b.toNat, .int .i64 (n : Int)] | none => .tuple #[.int .u8 0, .int .i64 0]

set_option maxHeartbeats 400000 in
theorem implOct_any (t : ByteArray) (w : World) (hs : t.size ≤ 1048576) :
    Calls Tryd.prog 148 #[.string t] w fun e w' => e = .returned (tupB (if 4 ≤ t.size then (o3 fun j => at_ t (1 + j)).map fun b => (b, 4) else none)) ∧ Below w.heap.size w w' := by
  by_cases h4 : 4 ≤ t.size
  · rw [if_pos h4]
    have hq : ¬ (t.size : Int) < 4 := by omega
    obtain ⟨g, hg⟩ : ∃ g : Nat → UInt8, g = fun j => at_ t (1 + j) := ⟨_, rfl⟩
    rw [← hg]
    have HG := Lib.hid hg; clear hg
    have hsl := fun (W : World) => run_slice_string (P := Tryd.prog) W 9 t .i64 .i64 1 4 Tryd.underlying9 (by omega) (by omega) (by omega)
    obtain ⟨u, hu⟩ : ∃ u : ByteArray, u = t.extract (Int.toNat 1) (Int.toNat 4) := ⟨_, rfl⟩
    rw [← hu] at hsl
    have hu1 : u.size ≤ 3 := by rw [hu]; simp [ByteArray.size_extract]; omega
    have hu2 : 3 ≤ u.size := by rw [hu]; simp [ByteArray.size_extract]; omega
    have hat : ∀ (j : Nat) (h : j < u.size), u[j] = g j := by
      intro j h
      rw [HG.out]
      subst hu
      rw [ByteArray.getElem_extract]
      exact at_eq t (1 + j) _
    have HA := Lib.hid hat
    clear hat hu
    go_enter Tryd.func148, Tryd.ntmps148
    go_wp2
    go_loopw [4] (fun v w' => ∃ pos : Nat, w' = w.iter u pos ∧ v = .int .i32 (v8 g pos) ∧ OctTo g pos ∧ pos ≤ 3) (fun _ w' => u.size - w'.iterPos w.heap.size)
    case atStart => exact ⟨0, rfl, rfl, fun t h => by omega, by omega⟩
    case round =>
      obtain ⟨pos, rfl, rfl, hok, hj⟩ := hrel
      have hvb := v8_bd hok hj
      obtain ⟨vb0, vb1⟩ := hvb
      have HK := Lib.hid hok; clear hok
      by_cases hp : pos < u.size
      · have hgl := HA.out pos hp
        have HV : Hid (v8 g (pos + 1) = 8 * v8 g pos + (g pos).toNat - 48) := Lib.hid rfl
        by_cases ha : u[pos].toNat < 128
        · have hnx : ∀ ty, (Instr.next (.pointer (some ⟨w.heap.size, 0, none⟩)) true ty).run Tryd.prog (w.iter u pos) = _ := fun ty => run_next_ascii w u pos ty hp ha
          rw [hgl] at hnx ha
          clear hgl
          cases a1 : octB (g pos)
          · have E := Lib.hid (o3_no (by omega) a1)
            have a2 := octB_f a1
            generalize v8 g pos = v at *
            generalize g pos = c at *
            clear a1
            by_cases q : (c.toNat : Int) < 48
            · go_wp2
              go_ret2
              exact ⟨ret_val (by rw [E.out]; rfl), (Below.refl _ _).alloc (Nat.le_refl _) _⟩
            · have q2 : (55 : Int) < (c.toNat : Int) := by omega
              go_wp2
              go_ret2
              exact ⟨ret_val (by rw [E.out]; rfl), (Below.refl _ _).alloc (Nat.le_refl _) _⟩
          · have HN := Lib.hid (octTo_snoc HK.out a1)
            obtain ⟨o1, o2⟩ := octB_t a1
            generalize v8 g pos = v at *
            generalize g pos = c at *
            clear a1
            go_wp2
            go_roundw
            case rel => exact ⟨pos + 1, rfl, by rw [HV.out]; go_num, HN.out, by omega⟩
            case measure => simp; omega
        · have hh := decode_high u pos hp (by omega)
          have hnx : ∀ ty, (Instr.next (.pointer (some ⟨w.heap.size, 0, none⟩)) true ty).run Tryd.prog (w.iter u pos) = _ := fun ty => run_next_any w u pos ty hp
          have E := Lib.hid (o3_no (g := g) (j := pos) (by omega) (by rw [← hgl]; simp only [octB, decide_eq_false_iff_not]; omega))
          generalize hu : (Utf8.decode u pos).1 = r at hnx hh
          generalize hv : (Utf8.decode u pos).2 = n at hnx hh
          clear hu hv hgl
          have q2 : (55 : Int) < (r : Int) := by omega
          generalize v8 g pos = v at *
          generalize g pos = c at *
          go_wp2
          go_ret2
          exact ⟨ret_val (by rw [E.out]; rfl), (Below.refl _ _).alloc (Nat.le_refl _) _⟩
      · have hnx : ∀ ty, (Instr.next (.pointer (some ⟨w.heap.size, 0, none⟩)) true ty).run Tryd.prog (w.iter u pos) = _ := fun ty => run_next_end w u pos ty hp
        obtain rfl : pos = 3 := by omega
        by_cases hv : 255 < v8 g 3
        · have E := Lib.hid (o3_big HK.out hv)
          generalize v8 g 3 = v at *
          go_wp2
          go_ret2
          exact ⟨ret_val (by rw [E.out]; rfl), (Below.refl _ _).alloc (Nat.le_refl _) _⟩
        · obtain ⟨b, hb1, hb2⟩ := o3_ok HK.out (by omega)
          have E1 := Lib.hid hb1
          have E2 := Lib.hid hb2
          clear hb1 hb2
          generalize v8 g 3 = v at *
          go_wp2
          go_ret2
          exact ⟨ret_val (by rw [E1.out]; simp only [Option.map_some, tupB]; rw [E2.out]; rfl), (Below.refl _ _).alloc (Nat.le_refl _) _⟩
  · rw [if_neg h4]
    have hq : (t.size : Int) < 4 := by omega
    go_enter Tryd.func148, Tryd.ntmps148
    go_wp2
    go_ret2
    exact ⟨rfl, Below.refl _ _⟩

theorem rd_plain {t : ByteArray} (h : 0 < t.size) (hc : (at_ t 0).toNat ≠ 92) : rd t.data.toList = some (at_ t 0, 1) := by
  have := drop_at t 0 h
  rw [List.drop_zero] at this
  have e : at_ t 0 ≠ 92 := by intro e; rw [e] at hc; exact hc rfl
  rw [this]; simp [rd, e]
theorem rd_esc {t : ByteArray} (h : 0 < t.size) (hc : (at_ t 0).toNat = 92) : rd t.data.toList = esc t 1 := by
  have := drop_at t 0 h
  rw [List.drop_zero] at this
  have e : at_ t 0 = 92 := by simpa [← UInt8.toNat_inj] using hc
  rw [this, e, esc]
end Go.Proofs.YtalobgebdpaecaaDoor.kit
