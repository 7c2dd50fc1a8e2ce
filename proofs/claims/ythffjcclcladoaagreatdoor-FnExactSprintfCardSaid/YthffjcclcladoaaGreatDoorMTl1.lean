/-
  Contract of impl.toldText over this seat's translation. Conditions: the table of the powers of ten is as listed; a text of at most 1048576 bytes.
-/
import Derived.Test.YthffjcclcladoaaGreatDoorMTl0
import Derived.Test.YthffjcclcladoaaGreatDoorMSf0
import Derived.Test.YthffjcclcladoaaGreatDoorMSub0
import Derived.Deep.RegionWith
import Derived.Deep.RegionHeld3
namespace Go.Proofs.YthffjcclcladoaaGreatDoor.kit
open Go.ChangeShapes Go.WideShapes Go.ChangeAt Go.RowKit
set_option linter.unusedVariables false

theorem soB_le (k : Int) (s : ByteArray) (n : Int) (hs : s.size ≤ 1048576) : (soB k s n).size ≤ 1048576 := by
  unfold soB
  split
  · unfold ntA
    split
    · rename_i hb
      have hb2 : -1000000000000 ≤ n ∧ n ≤ 1000000000000 := by simpa [numB, inB] using hb
      have l : ∀ N : Nat, N ≤ 1000000000000 → (ntP N).size ≤ 28 := fun N hN => by
        have l0 : (Lib.itoa ((N : Int) / 1000000)).length ≤ 21 := Lib.itoa_length_le _ (by omega) (by omega)
        have l1 : (ptT (N % 1000000)).size ≤ 7 := ptT_le _ (Nat.mod_lt _ (by omega))
        unfold ntP
        rw [ByteArray.size_append]
        show (Lib.itoa ((N : Int) / 1000000)).toArray.size + _ ≤ 28
        rw [List.size_toArray]; omega
      split
      · rw [ByteArray.size_append]
        have := l n.natAbs (by omega)
        show 1 + _ ≤ _; omega
      · have := l n.toNat (by omega)
        omega
    · show 0 ≤ _; omega
  · exact hs
theorem cell3 (w : World) (t : TypeId) (a b c : Value) : ∀ j, (w.alloc (.cells #[a, b, c] t)).cell? ⟨w.heap.size, j, none⟩ = (#[a, b, c] : Array Value)[j]? := fun j => World.cell?_alloc_at _ _ _ _ rfl
/-- What a region loads: a value's three cells and a precision; and what else is wanted. -/
def Vp (B : Nat) (k : Int) (s : ByteArray) (n pc : Int) (w W : World) : Prop := (W.cell? ⟨B + 1, 0, none⟩ = some (.int .i64 k) ∧ W.cell? ⟨B + 1, 1, none⟩ = some (.string s) ∧ W.cell? ⟨B + 1, 2, none⟩ = some (.int .i64 n) ∧ W.cell? ⟨B, 3, none⟩ = some (.int .i64 pc)) ∧ B + 1 < W.heap.size ∧ Tab W ∧ Below B w W
theorem Vp.drew {B : Nat} {k : Int} {s : ByteArray} {n pc : Int} {w W : World} (h : Vp B k s n pc w W) : Vp B k s n pc w W.drew := ⟨h.1, h.2.1, h.2.2.1.on (Below.refl _ _).drew, h.2.2.2.drew⟩
theorem Vp.step {B : Nat} {k : Int} {s : ByteArray} {n pc : Int} {w W W' : World} (h : Vp B k s n pc w W) (hb : Below W.heap.size W W') : Vp B k s n pc w W' := by
  obtain ⟨⟨h0, h1, h2, h3⟩, h4, h5, h6⟩ := h
  exact ⟨⟨(hb.cell (p := ⟨B + 1, 0, none⟩) h4).trans h0, (hb.cell (p := ⟨B + 1, 1, none⟩) h4).trans h1, (hb.cell (p := ⟨B + 1, 2, none⟩) h4).trans h2, (hb.cell (p := ⟨B, 3, none⟩) (Nat.lt_of_succ_lt h4)).trans h3⟩, Nat.lt_of_lt_of_le h4 hb.size, h5.on hb, h6.trans (hb.mono (by omega))⟩
theorem Vp.tab {B : Nat} {k : Int} {s : ByteArray} {n pc : Int} {w W : World} (h : Vp B k s n pc w W) : Tab W := h.2.2.1
theorem Vp.below {B : Nat} {k : Int} {s : ByteArray} {n pc : Int} {w W : World} (h : Vp B k s n pc w W) : Below B w W := h.2.2.2
theorem Vp.start (w : World) (t t' : TypeId) (fl : ByteArray) (wd : Int) (pr : Bool) (pc kd k : Int) (s : ByteArray) (n : Int) (ht : Tab w) : Vp w.heap.size k s n pc w ((w.alloc (.cells #[.string fl, .int .i64 wd, .bool pr, .int .i64 pc, .int .u8 kd] t)).alloc (.cells #[.int .i64 k, .string s, .int .i64 n] t')) := by
  have b0 : ∀ o o', Below w.heap.size w ((w.alloc o).alloc o') := fun o o' => ((Below.refl _ w).alloc (Nat.le_refl _) o).alloc (by simp) o'
  have c0 := cell3 (w.alloc (.cells #[.string fl, .int .i64 wd, .bool pr, .int .i64 pc, .int .u8 kd] t)) t' (.int .i64 k) (.string s) (.int .i64 n)
  rw [World.size_alloc] at c0
  refine ⟨⟨c0 0, c0 1, c0 2, ?_⟩, by simp, ht.on (b0 _ _), b0 _ _⟩
  have b1 : Below (w.alloc (.cells #[.string fl, .int .i64 wd, .bool pr, .int .i64 pc, .int .u8 kd] t)).heap.size (w.alloc (.cells #[.string fl, .int .i64 wd, .bool pr, .int .i64 pc, .int .u8 kd] t)) ((w.alloc (.cells #[.string fl, .int .i64 wd, .bool pr, .int .i64 pc, .int .u8 kd] t)).alloc (.cells #[.int .i64 k, .string s, .int .i64 n] t')) := (Below.refl _ _).alloc (Nat.le_refl _) _
  rw [b1.cell (p := ⟨w.heap.size, 3, none⟩) (by simp)]
  exact World.cell?_alloc_at _ _ _ _ rfl
theorem take_one (l : List UInt8) (H A : Nat) (hA : A = 0) : (l.take H).drop A = l.take H := by rw [hA]; rfl
set_option maxRecDepth 100000 in
set_option maxHeartbeats 1000000 in
theorem tt_sn (fl : ByteArray) (wd pc : Int) (k : Int) (s : ByteArray) (n : Int) (w : World) (hs : s.size ≤ 1048576) (ht : Tab w) :
    Calls Tryz.prog 93 #[.agg #[.string fl, .int .i64 wd, .bool false, .int .i64 pc, .int .u8 115], .agg #[.int .i64 k, .string s, .int .i64 n]] w fun e w' => e = .returned (.string (soB k s n)) ∧ Below w.heap.size w w' := by
  have HBA := Lib.hid (show ∀ o o', Below w.heap.size w ((w.alloc o).alloc o') from fun o o' => ((Below.refl _ w).alloc (Nat.le_refl _) o).alloc (by simp) o')
  have HT := Lib.hid (show ∀ o o', Tab ((w.alloc o).alloc o') from fun o o' => ht.on (HBA.out o o'))
  have C := Lib.hid (fun W (h : Tab W) => implSo_any k s n W h)
  clear ht
  go_enter Tryz.func93, Tryz.ntmps93
  go_wp2_with fail
  refine (C.out _ (HT.out _ _)).mono ?_
  rintro e w1 ⟨rfl, hb1⟩
  go_wp2
  go_ret
  exact ⟨rfl, (HBA.out _ _).trans (hb1.mono (by simp; omega))⟩
set_option maxRecDepth 100000 in
set_option maxHeartbeats 1000000 in
theorem tt_cn (fl : ByteArray) (wd pc : Int) (pr : Bool) (s : ByteArray) (n : Int) (w : World) (h1 : -9223372036854775808 ≤ n) (h2 : n ≤ 9223372036854775807) :
    Calls Tryz.prog 93 #[.agg #[.string fl, .int .i64 wd, .bool pr, .int .i64 pc, .int .u8 99], .agg #[.int .i64 2, .string s, .int .i64 n]] w fun e w' => e = .returned (.string ⟨#[UInt8.ofNat (n.tdiv 1000000 % 256).toNat]⟩) ∧ Below w.heap.size w w' := by
  have hq := tdiv_bd n h1 h2
  have W := Lib.hid (fun W => whl_any n W h1 h2)
  have hqm := quo_mul n
  have HBA := Lib.hid (show ∀ o o' o2, Below w.heap.size w (((w.alloc o).alloc o').alloc o2) from fun o o' o2 => (((Below.refl _ w).alloc (Nat.le_refl _) o).alloc (by simp) o').alloc (by simp; omega) o2)
  clear h1 h2
  obtain ⟨hq1, hq2⟩ := hq
  generalize n.tdiv 1000000 = q at *
  generalize hz : q * 1000000 = z at *
  clear hz
  obtain ⟨b, hb⟩ : ∃ b : UInt8, b = UInt8.ofNat (q % 256).toNat := ⟨_, rfl⟩
  have hwb : IntKind.u8.wrap q = (b.toNat : Int) := by
    rw [hb, UInt8.toNat_ofNat']
    unfold IntKind.wrap
    simp [IntKind.signed, IntKind.bits]
    omega
  rw [← hb]
  have HB := Lib.hid (fun W => back_lit Tryz.underlying22 Tryz.underlying5 Tryz.underlying9 [b] [.int .u8 (b.toNat : Int)] rfl 1 1 rfl W)
  clear hb
  go_enter Tryz.func93, Tryz.ntmps93
  go_wp2_with fail
  refine (W.out _).mono ?_
  rintro e w1 ⟨rfl, rfl⟩
  have HB1 : ∀ o o', (convert 22 9 (.slice (some ⟨w.heap.size + 1 + 1, 0, none⟩) 1 1)).run Tryz.prog (((w.alloc o).alloc o').alloc (.cells #[.int .u8 (b.toNat : Int)] 5)) = .ok (.string ⟨#[b]⟩) (((w.alloc o).alloc o').alloc (.cells #[.int .u8 (b.toNat : Int)] 5)) := fun o o' => by
    have := HB.out ((w.alloc o).alloc o')
    rw [World.size_alloc, World.size_alloc] at this
    exact this
  go_wp2_with fail
  go_ret
  exact ⟨rfl, HBA.out _ _ _⟩
set_option maxRecDepth 100000 in
set_option maxHeartbeats 1000000 in
theorem tt_sp (fl : ByteArray) (wd pc : Int) (pr : Bool) (k : Int) (s : ByteArray) (n : Int) (w : World) (hs : s.size ≤ 1048576) (ht : Tab w) (hpc : 0 ≤ pc ∧ pc ≤ 6) (hk : True) :
    Calls Tryz.prog 93 #[.agg #[.string fl, .int .i64 wd, .bool true, .int .i64 pc, .int .u8 115], .agg #[.int .i64 k, .string s, .int .i64 n]] w fun e w' => e = .returned (.string ⟨((soB k s n).data.toList.take (pc : Int).toNat).toArray⟩) ∧ Below w.heap.size w w' := by
  have HBA := Lib.hid (show ∀ o o', Below w.heap.size w ((w.alloc o).alloc o') from fun o o' => ((Below.refl _ w).alloc (Nat.le_refl _) o).alloc (by simp) o')
  have HT := Lib.hid (show ∀ o o', Tab ((w.alloc o).alloc o').drew from fun o o' => (ht.on (HBA.out o o')).on ((Below.refl _ _).drew))
  have C := Lib.hid (fun W (h : Tab W) => implSo_any k s n W h)
  have hle := soB_le k s n hs
  have D := Lib.hid (show ∀ W, Calls Tryz.prog 126 #[.string (soB k s n), .int .i64 1, .int .i64 pc] W fun e w' => e = .returned (.string ⟨((soB k s n).data.toList.take (pc : Int).toNat).toArray⟩) ∧ W = w' from fun W => by
    have := implSub_any (soB k s n) 1 pc W hle (by decide) (by simp [Lit.wf, IntKind.min, IntKind.max, IntKind.signed, IntKind.bits]; omega) 0 (pc : Int).toNat (Lib.hid rfl) (Lib.hid (by omega))
    rwa [take_one _ _ _ rfl] at this)
  have HV := Lib.hid (Vp.start w 71 66 fl wd true pc 115 k s n ht)
  generalize ((soB k s n).data.toList.take (pc : Int).toNat) = res at *
  generalize soB k s n = so at *
  clear ht hle
  go_enter Tryz.func93, Tryz.ntmps93
  go_wp2_with fail
  go_region_held3 (fun w' => (w'.cell? ⟨w.heap.size + 1, 0, none⟩ = some (.int .i64 k) ∧ w'.cell? ⟨w.heap.size + 1, 1, none⟩ = some (.string s) ∧ w'.cell? ⟨w.heap.size + 1, 2, none⟩ = some (.int .i64 n) ∧ w'.cell? ⟨w.heap.size, 3, none⟩ = some (.int .i64 pc)) ∧ w.heap.size + 1 < w'.heap.size ∧ Tab w' ∧ Below w.heap.size w w') (first | exact HV.out.drew | exact Vp.step HV.out.drew (by assumption) | exact Vp.step (by assumption) (by assumption)) (first | (go_at_call 127; refine (C.out _ (Vp.tab (B := w.heap.size) (k := k) (s := s) (n := n) (pc := pc) (w := w) (by assumption))).mono ?_; rintro e w2 ⟨rfl, hb2⟩) | (go_at_call 126; refine (D.out _).mono ?_; rintro e w2 ⟨rfl, rfl⟩))
  all_goals
    go_wp2_with fail
    go_ret
    exact ⟨rfl, Vp.below (B := w.heap.size) (k := k) (s := s) (n := n) (pc := pc) (w := w) (by assumption)⟩
set_option maxRecDepth 100000 in
set_option maxHeartbeats 1000000 in
theorem tt_cs (fl : ByteArray) (wd pc : Int) (pr : Bool) (k : Int) (s : ByteArray) (n : Int) (w : World) (hs : s.size ≤ 1048576) (ht : Tab w) (hpc : 0 ≤ pc ∧ pc ≤ 6) (hk : (k == 2) = false) :
    Calls Tryz.prog 93 #[.agg #[.string fl, .int .i64 wd, .bool pr, .int .i64 pc, .int .u8 99], .agg #[.int .i64 k, .string s, .int .i64 n]] w fun e w' => e = .returned (.string ⟨((soB k s n).data.toList.take (1 : Int).toNat).toArray⟩) ∧ Below w.heap.size w w' := by
  have HBA := Lib.hid (show ∀ o o', Below w.heap.size w ((w.alloc o).alloc o') from fun o o' => ((Below.refl _ w).alloc (Nat.le_refl _) o).alloc (by simp) o')
  have HT := Lib.hid (show ∀ o o', Tab ((w.alloc o).alloc o').drew from fun o o' => (ht.on (HBA.out o o')).on ((Below.refl _ _).drew))
  have C := Lib.hid (fun W (h : Tab W) => implSo_any k s n W h)
  have hle := soB_le k s n hs
  have D := Lib.hid (show ∀ W, Calls Tryz.prog 126 #[.string (soB k s n), .int .i64 1, .int .i64 1] W fun e w' => e = .returned (.string ⟨((soB k s n).data.toList.take (1 : Int).toNat).toArray⟩) ∧ W = w' from fun W => by
    have := implSub_any (soB k s n) 1 1 W hle (by decide) (by decide) 0 (1 : Int).toNat (Lib.hid rfl) (Lib.hid (by omega))
    rwa [take_one _ _ _ rfl] at this)
  have HV := Lib.hid (Vp.start w 71 66 fl wd true 1 99 k s n ht)
  generalize ((soB k s n).data.toList.take (1 : Int).toNat) = res at *
  generalize soB k s n = so at *
  clear ht hle
  go_enter Tryz.func93, Tryz.ntmps93
  go_wp2_with fail
  go_region_held3 (fun w' => (w'.cell? ⟨w.heap.size + 1, 0, none⟩ = some (.int .i64 k) ∧ w'.cell? ⟨w.heap.size + 1, 1, none⟩ = some (.string s) ∧ w'.cell? ⟨w.heap.size + 1, 2, none⟩ = some (.int .i64 n) ∧ w'.cell? ⟨w.heap.size, 3, none⟩ = some (.int .i64 1)) ∧ w.heap.size + 1 < w'.heap.size ∧ Tab w' ∧ Below w.heap.size w w') (first | exact HV.out.drew | exact Vp.step HV.out.drew (by assumption) | exact Vp.step (by assumption) (by assumption)) (first | (go_at_call 127; refine (C.out _ (Vp.tab (B := w.heap.size) (k := k) (s := s) (n := n) (pc := 1) (w := w) (by assumption))).mono ?_; rintro e w2 ⟨rfl, hb2⟩) | (go_at_call 126; refine (D.out _).mono ?_; rintro e w2 ⟨rfl, rfl⟩))
  all_goals
    go_wp2_with fail
    go_ret
    exact ⟨rfl, Vp.below (B := w.heap.size) (k := k) (s := s) (n := n) (pc := 1) (w := w) (by assumption)⟩
end Go.Proofs.YthffjcclcladoaaGreatDoor.kit
