/-
  Contracts of spec.l08Char and spec.l08Value over this seat's translation: a value as a place tells it. Conditions: a text of at most 1048576 bytes.
-/
import Derived.Test.YthffjcclcladoaaGreatDoorMTl1
import Derived.Deep.RegionHeld3
import Derived.Test.YthffjcclcladoaaGreatDoorMNt1
namespace Go.Proofs.YthffjcclcladoaaGreatDoor.kit
open Go.ChangeShapes Go.WideShapes Go.ChangeAt Go.RowKit
set_option linter.unusedVariables false

theorem bst {w W W' : World} (h : Below w.heap.size w W) (hb : Below W.heap.size W W') : Below w.heap.size w W' := h.trans (hb.mono h.size)
theorem cells_k {w w' : World} (h : Below w.heap.size w w') {t : TypeId} {W : World} {cs : Array Value} (hw : w = W.alloc (.cells cs t)) : ∀ j, w'.cell? ⟨W.heap.size, j, none⟩ = cs[j]? := fun j => by
  rw [h.cell (p := ⟨W.heap.size, j, none⟩) (by rw [hw]; simp), hw]
  exact World.cell?_alloc_at _ _ _ _ rfl
theorem soB_one (t : ByteArray) (h : 0 < t.size) : t.extract 0 1 = ⟨(t.data.toList.take 1).toArray⟩ := by
  apply ByteArray.ext
  rw [ByteArray.data_extract]
  apply Array.ext'
  rw [Array.toList_extract, List.extract_eq_take_drop]; simp
set_option maxRecDepth 100000 in
set_option maxHeartbeats 1000000 in
theorem char_n (s : ByteArray) (n : Int) (w : World) (h1 : -9223372036854775808 ≤ n) (h2 : n ≤ 9223372036854775807) :
    Calls Tryz.prog 99 #[.agg #[.int .i64 2, .string s, .int .i64 n]] w fun e w' => e = .returned (.string ⟨#[UInt8.ofNat (n.tdiv 1000000 % 256).toNat]⟩) ∧ Below w.heap.size w w' := by
  have hq := tdiv_bd n h1 h2
  have HBA := Lib.hid (show ∀ o o', Below w.heap.size w ((w.alloc o).alloc o') from fun o o' => ((Below.refl _ w).alloc (Nat.le_refl _) o).alloc (by simp) o')
  clear h1 h2
  obtain ⟨hq1, hq2⟩ := hq
  generalize hqq : n.tdiv 1000000 = q at *
  have hr0 : q.tmod 256 < 256 ∧ -256 < q.tmod 256 ∧ (q.tmod 256 < 0 → q.tmod 256 + 256 = q % 256) ∧ (¬ q.tmod 256 < 0 → q.tmod 256 = q % 256) := by
    by_cases h : 0 ≤ q
    · rw [Int.tmod_eq_emod_of_nonneg h]; omega
    · obtain ⟨m, rfl⟩ : ∃ m : Int, q = -m := ⟨-q, by omega⟩
      rw [Int.neg_tmod, Int.tmod_eq_emod_of_nonneg (by omega)]; omega
  obtain ⟨hr1, hr2, hr3, hr4⟩ := hr0
  obtain ⟨b, hb⟩ : ∃ b : UInt8, b = UInt8.ofNat (q % 256).toNat := ⟨_, rfl⟩
  have hbn : (b.toNat : Int) = q % 256 := by
    rw [hb, UInt8.toNat_ofNat']; omega
  rw [← hb]
  have hwb : ∀ z : Int, z = q % 256 → IntKind.u8.wrap z = (b.toNat : Int) := fun z hz => by
    rw [hbn]
    unfold IntKind.wrap
    simp [IntKind.signed, IntKind.bits]
    omega
  have HB := Lib.hid (fun W => back_lit Tryz.underlying22 Tryz.underlying5 Tryz.underlying9 [b] [.int .u8 (b.toNat : Int)] rfl 1 1 rfl W)
  have HB1 : ∀ o, (convert 22 9 (.slice (some ⟨w.heap.size + 1, 0, none⟩) 1 1)).run Tryz.prog ((w.alloc o).alloc (.cells #[.int .u8 (b.toNat : Int)] 5)) = .ok (.string ⟨#[b]⟩) ((w.alloc o).alloc (.cells #[.int .u8 (b.toNat : Int)] 5)) := fun o => by
    have := HB.out (w.alloc o)
    rw [World.size_alloc] at this
    exact this
  have HWB := Lib.hid hwb
  have HBN := Lib.hid hbn
  clear hb hbn hwb
  by_cases hn : q.tmod 256 < 0
  · have hw := HWB.out _ (hr3 hn)
    have hw2 : (q.tmod 256 + 256) % 256 = (b.toNat : Int) := by rw [hr3 hn, HBN.out]; omega
    have hw3 : q.tmod 256 % 256 = (b.toNat : Int) := by rw [HBN.out]; have := hr3 hn; omega
    clear hr3 hr4
    generalize hrr : q.tmod 256 = r at *
    go_enter Tryz.func99, Tryz.ntmps99
    go_wp2
    go_ret
    exact ⟨rfl, HBA.out _ _⟩
  · have hw := HWB.out _ (hr4 hn)
    have hw3 : q.tmod 256 % 256 = (b.toNat : Int) := by rw [HBN.out]; have := hr4 hn; omega
    clear hr3 hr4
    generalize hrr : q.tmod 256 = r at *
    go_enter Tryz.func99, Tryz.ntmps99
    go_wp2
    go_ret
    exact ⟨rfl, HBA.out _ _⟩
set_option maxRecDepth 100000 in
set_option maxHeartbeats 1000000 in
theorem char_s (k : Int) (s : ByteArray) (n : Int) (w : World) (hk : (k == 2) = false) (hs : s.size ≤ 1048576) :
    Calls Tryz.prog 99 #[.agg #[.int .i64 k, .string s, .int .i64 n]] w fun e w' => e = .returned (.string ⟨((soB k s n).data.toList.take 1).toArray⟩) ∧ Below w.heap.size w w' := by
  have HBA := Lib.hid (show ∀ o, Below w.heap.size w (w.alloc o) from fun o => (Below.refl _ w).alloc (Nat.le_refl _) o)
  have C := Lib.hid (fun W => specSo_any k s n W)
  have hle := soB_le k s n hs
  generalize soB k s n = so at *
  by_cases h0 : so.size = 0
  · have E := Lib.hid (show (⟨#[]⟩ : ByteArray) = ⟨(so.data.toList.take 1).toArray⟩ by rw [head_none so h0]; rfl)
    have he := empty_of_size h0
    clear h0
    go_enter Tryz.func99, Tryz.ntmps99
    go_wp2_with fail
    refine (C.out _).mono ?_
    rintro e w1 ⟨rfl, hb1⟩
    go_wp2
    go_ret
    exact ⟨ret_str E.out, bst (HBA.out _) hb1⟩
  · have E := Lib.hid (soB_one so (by omega))
    have he := not_empty_of_size h0
    have h1i : (1 : Int) ≤ (so.size : Int) := by omega
    clear h0
    go_enter Tryz.func99, Tryz.ntmps99
    go_wp2_with fail
    refine (C.out _).mono ?_
    rintro e w1 ⟨rfl, hb1⟩
    go_wp2
    go_ret
    exact ⟨ret_str E.out, bst (HBA.out _) hb1⟩
theorem chL_text (k : Int) (s : ByteArray) (n : Int) : (⟨(chL ⟨k, s, n⟩).toArray⟩ : ByteArray) = if k == 2 then ⟨#[UInt8.ofNat (n.tdiv 1000000 % 256).toNat]⟩ else ⟨((soB k s n).data.toList.take 1).toArray⟩ := by
  unfold chL
  split <;> rfl
theorem char_any (k : Int) (s : ByteArray) (n : Int) (w : World) (hs : s.size ≤ 1048576) (h1 : -9223372036854775808 ≤ n) (h2 : n ≤ 9223372036854775807) :
    Calls Tryz.prog 99 #[.agg #[.int .i64 k, .string s, .int .i64 n]] w fun e w' => e = .returned (.string ⟨(chL ⟨k, s, n⟩).toArray⟩) ∧ Below w.heap.size w w' := by
  rw [chL_text]
  cases hk : k == 2
  · exact char_s k s n w hk hs
  · obtain rfl : k = 2 := by simpa using hk
    exact char_n s n w h1 h2
end Go.Proofs.YthffjcclcladoaaGreatDoor.kit
/-
  Contract of spec.l08Value over this seat's translation: a value as a place tells it, without what fills. Conditions: a text of at most 1048576 bytes.
-/
namespace Go.Proofs.YthffjcclcladoaaGreatDoor.kit
open Go.ChangeShapes Go.WideShapes Go.ChangeAt Go.RowKit
set_option linter.unusedVariables false

/-- Eight cells that l08Value's boxes hold. -/
structure Bv8 (W : World) (B : Nat) (a b : Bool) (wd pc kd k : Int) (s : ByteArray) (n : Int) : Prop where
  c0 : W.cell? ⟨B, 0, none⟩ = some (.bool a)
  c1 : W.cell? ⟨B, 1, none⟩ = some (.bool b)
  c2 : W.cell? ⟨B, 2, none⟩ = some (.int .i64 wd)
  c3 : W.cell? ⟨B, 3, none⟩ = some (.int .i64 pc)
  c4 : W.cell? ⟨B, 4, none⟩ = some (.int .u8 kd)
  d0 : W.cell? ⟨B + 1, 0, none⟩ = some (.int .i64 k)
  d1 : W.cell? ⟨B + 1, 1, none⟩ = some (.string s)
  d2 : W.cell? ⟨B + 1, 2, none⟩ = some (.int .i64 n)
  lt : B + 1 < W.heap.size
theorem Bv8.step {W W' : World} {B : Nat} {a b : Bool} {wd pc kd k : Int} {s : ByteArray} {n : Int} (h : Bv8 W B a b wd pc kd k s n) (hb : Below W.heap.size W W') : Bv8 W' B a b wd pc kd k s n := by
  have e : ∀ j, W'.cell? ⟨B, j, none⟩ = W.cell? ⟨B, j, none⟩ := fun j => hb.cell (p := ⟨B, j, none⟩) (Nat.lt_of_succ_lt h.lt)
  have f : ∀ j, W'.cell? ⟨B + 1, j, none⟩ = W.cell? ⟨B + 1, j, none⟩ := fun j => hb.cell (p := ⟨B + 1, j, none⟩) h.lt
  exact ⟨(e 0).trans h.c0, (e 1).trans h.c1, (e 2).trans h.c2, (e 3).trans h.c3, (e 4).trans h.c4, (f 0).trans h.d0, (f 1).trans h.d1, (f 2).trans h.d2, Nat.lt_of_lt_of_le h.lt hb.size⟩
theorem Bv8.start (w : World) (t t' : TypeId) (a b : Bool) (wd pc kd k : Int) (s : ByteArray) (n : Int) : Bv8 ((w.alloc (.cells #[.bool a, .bool b, .int .i64 wd, .int .i64 pc, .int .u8 kd] t)).alloc (.cells #[.int .i64 k, .string s, .int .i64 n] t')) w.heap.size a b wd pc kd k s n := by
  have c0 := cell3 (w.alloc (.cells #[.bool a, .bool b, .int .i64 wd, .int .i64 pc, .int .u8 kd] t)) t' (.int .i64 k) (.string s) (.int .i64 n)
  rw [World.size_alloc] at c0
  have b1 : Below (w.alloc (.cells #[.bool a, .bool b, .int .i64 wd, .int .i64 pc, .int .u8 kd] t)).heap.size (w.alloc (.cells #[.bool a, .bool b, .int .i64 wd, .int .i64 pc, .int .u8 kd] t)) ((w.alloc (.cells #[.bool a, .bool b, .int .i64 wd, .int .i64 pc, .int .u8 kd] t)).alloc (.cells #[.int .i64 k, .string s, .int .i64 n] t')) := (Below.refl _ _).alloc (Nat.le_refl _) _
  have e : ∀ j, ((w.alloc (.cells #[.bool a, .bool b, .int .i64 wd, .int .i64 pc, .int .u8 kd] t)).alloc (.cells #[.int .i64 k, .string s, .int .i64 n] t')).cell? ⟨w.heap.size, j, none⟩ = (#[Value.bool a, .bool b, .int .i64 wd, .int .i64 pc, .int .u8 kd] : Array Value)[j]? := fun j => by
    rw [b1.cell (p := ⟨w.heap.size, j, none⟩) (by simp)]
    exact World.cell?_alloc_at _ _ _ _ rfl
  exact ⟨e 0, e 1, e 2, e 3, e 4, c0 0, c0 1, c0 2, by simp⟩
/-- What a region loads: a value's three cells and a precision. -/
def Vq (B : Nat) (k : Int) (s : ByteArray) (n pc : Int) (w W : World) : Prop := (W.cell? ⟨B + 1, 0, none⟩ = some (.int .i64 k) ∧ W.cell? ⟨B + 1, 1, none⟩ = some (.string s) ∧ W.cell? ⟨B + 1, 2, none⟩ = some (.int .i64 n) ∧ W.cell? ⟨B, 3, none⟩ = some (.int .i64 pc)) ∧ B + 1 < W.heap.size ∧ Below B w W
theorem Vq.drew {B : Nat} {k : Int} {s : ByteArray} {n pc : Int} {w W : World} (h : Vq B k s n pc w W) : Vq B k s n pc w W.drew := ⟨h.1, h.2.1, h.2.2.drew⟩
theorem Vq.step {B : Nat} {k : Int} {s : ByteArray} {n pc : Int} {w W W' : World} (h : Vq B k s n pc w W) (hb : Below W.heap.size W W') : Vq B k s n pc w W' := by
  obtain ⟨⟨h0, h1, h2, h3⟩, h4, h6⟩ := h
  exact ⟨⟨(hb.cell (p := ⟨B + 1, 0, none⟩) h4).trans h0, (hb.cell (p := ⟨B + 1, 1, none⟩) h4).trans h1, (hb.cell (p := ⟨B + 1, 2, none⟩) h4).trans h2, (hb.cell (p := ⟨B, 3, none⟩) (Nat.lt_of_succ_lt h4)).trans h3⟩, Nat.lt_of_lt_of_le h4 hb.size, h6.trans (hb.mono (by omega))⟩
theorem Vq.below {B : Nat} {k : Int} {s : ByteArray} {n pc : Int} {w W : World} (h : Vq B k s n pc w W) : Below B w W := h.2.2
theorem Vq.of {W w : World} {B : Nat} {a b : Bool} {wd pc kd k : Int} {s : ByteArray} {n : Int} (h : Bv8 W B a b wd pc kd k s n) (hb : Below B w W) : Vq B k s n pc w W := ⟨⟨h.d0, h.d1, h.d2, h.c3⟩, h.lt, hb⟩
theorem ext_takeS (s : ByteArray) (k : Nat) : s.extract 0 k = ⟨(s.data.toList.take k).toArray⟩ := by
  apply ByteArray.ext
  rw [ByteArray.data_extract]
  apply Array.ext'
  rw [Array.toList_extract, List.extract_eq_take_drop]; simp
theorem nmB_bd (k : Int) (s : ByteArray) (n : Int) (h1 : -9223372036854775808 ≤ n) (h2 : n ≤ 9223372036854775807) (h3 : -9223372036854775808 ≤ rnNum s ∧ rnNum s ≤ 9223372036854775807) : -9223372036854775808 ≤ nmB k s n ∧ nmB k s n ≤ 9223372036854775807 := by
  unfold nmB
  split
  · exact ⟨h1, h2⟩
  · split
    · exact h3
    · omega
set_option maxRecDepth 100000 in
set_option maxHeartbeats 1000000 in
theorem sv_d (a b : Bool) (wd pc k : Int) (s : ByteArray) (n : Int) (w : World) (hs : s.size ≤ 1048576) (h1 : -9223372036854775808 ≤ n) (h2 : n ≤ 9223372036854775807) (hnm : -9223372036854775808 ≤ nmB k s n ∧ nmB k s n ≤ 9223372036854775807) :
    Calls Tryz.prog 48 #[.agg #[.bool a, .bool b, .int .i64 wd, .int .i64 pc, .int .u8 100], .agg #[.int .i64 k, .string s, .int .i64 n]] w fun e w' => e = .returned (.string ⟨(Lib.itoa ((nmB k s n).tdiv 1000000)).toArray⟩) ∧ Below w.heap.size w w' := by
  have HBA := Lib.hid (show ∀ o o', Below w.heap.size w ((w.alloc o).alloc o') from fun o o' => ((Below.refl _ w).alloc (Nat.le_refl _) o).alloc (by simp) o')
  have HX := Lib.hid (Bv8.start w 76 66 a b wd pc 100 k s n)
  have CN := Lib.hid (fun W => specNumOf_any k s n W hs)
  have hq := tdiv_bd (nmB k s n) hnm.1 hnm.2
  obtain ⟨hq1, hq2⟩ := hq
  have C := Lib.hid (fun W => specDec_any ((nmB k s n).tdiv 1000000) W (by omega) (by omega))
  generalize hnn : nmB k s n = nm at *
  clear hnn hnm h1 h2
  generalize hqq : nm.tdiv 1000000 = q at *
  go_enter Tryz.func48, Tryz.ntmps48
  go_wp2_with fail
  refine (CN.out _).mono ?_
  rintro e w1 ⟨rfl, hb1⟩
  have HX1 := HX.out.step hb1
  have HBW := Lib.hid (bst (HBA.out _ _) hb1)
  have HXH := Lib.hid HX1
  obtain ⟨c0, c1, c2, c3, c4, d0, d1, d2, lt⟩ := HX1
  clear hb1
  go_wp2_with fail
  refine (C.out _).mono ?_
  rintro e w2 ⟨rfl, rfl⟩
  go_wp2
  go_ret
  exact ⟨rfl, HBW.out⟩
set_option maxRecDepth 100000 in
set_option maxHeartbeats 1000000 in
theorem sv_i (a b : Bool) (wd pc k : Int) (s : ByteArray) (n : Int) (w : World) (hs : s.size ≤ 1048576) (h1 : -9223372036854775808 ≤ n) (h2 : n ≤ 9223372036854775807) (hnm : -9223372036854775808 ≤ nmB k s n ∧ nmB k s n ≤ 9223372036854775807) :
    Calls Tryz.prog 48 #[.agg #[.bool a, .bool b, .int .i64 wd, .int .i64 pc, .int .u8 105], .agg #[.int .i64 k, .string s, .int .i64 n]] w fun e w' => e = .returned (.string ⟨(Lib.itoa ((nmB k s n).tdiv 1000000)).toArray⟩) ∧ Below w.heap.size w w' := by
  have HBA := Lib.hid (show ∀ o o', Below w.heap.size w ((w.alloc o).alloc o') from fun o o' => ((Below.refl _ w).alloc (Nat.le_refl _) o).alloc (by simp) o')
  have HX := Lib.hid (Bv8.start w 76 66 a b wd pc 105 k s n)
  have CN := Lib.hid (fun W => specNumOf_any k s n W hs)
  have hq := tdiv_bd (nmB k s n) hnm.1 hnm.2
  obtain ⟨hq1, hq2⟩ := hq
  have C := Lib.hid (fun W => specDec_any ((nmB k s n).tdiv 1000000) W (by omega) (by omega))
  generalize hnn : nmB k s n = nm at *
  clear hnn hnm h1 h2
  generalize hqq : nm.tdiv 1000000 = q at *
  go_enter Tryz.func48, Tryz.ntmps48
  go_wp2_with fail
  refine (CN.out _).mono ?_
  rintro e w1 ⟨rfl, hb1⟩
  have HX1 := HX.out.step hb1
  have HBW := Lib.hid (bst (HBA.out _ _) hb1)
  have HXH := Lib.hid HX1
  obtain ⟨c0, c1, c2, c3, c4, d0, d1, d2, lt⟩ := HX1
  clear hb1
  go_wp2_with fail
  refine (C.out _).mono ?_
  rintro e w2 ⟨rfl, rfl⟩
  go_wp2
  go_ret
  exact ⟨rfl, HBW.out⟩
set_option maxRecDepth 100000 in
set_option maxHeartbeats 1000000 in
theorem sv_x (a b : Bool) (wd pc k : Int) (s : ByteArray) (n : Int) (w : World) (hs : s.size ≤ 1048576) (h1 : -9223372036854775808 ≤ n) (h2 : n ≤ 9223372036854775807) (hnm : -9223372036854775808 ≤ nmB k s n ∧ nmB k s n ≤ 9223372036854775807) :
    Calls Tryz.prog 48 #[.agg #[.bool a, .bool b, .int .i64 wd, .int .i64 pc, .int .u8 120], .agg #[.int .i64 k, .string s, .int .i64 n]] w fun e w' => e = .returned (.string ⟨(bsT ((nmB k s n).tdiv 1000000) 16).toArray⟩) ∧ Below w.heap.size w w' := by
  have HBA := Lib.hid (show ∀ o o', Below w.heap.size w ((w.alloc o).alloc o') from fun o o' => ((Below.refl _ w).alloc (Nat.le_refl _) o).alloc (by simp) o')
  have HX := Lib.hid (Bv8.start w 76 66 a b wd pc 120 k s n)
  have CN := Lib.hid (fun W => specNumOf_any k s n W hs)
  have hq := tdiv_bd (nmB k s n) hnm.1 hnm.2
  obtain ⟨hq1, hq2⟩ := hq
  have C := Lib.hid (fun W => specBase_any ((nmB k s n).tdiv 1000000) 16 W (by omega) (by omega))
  generalize hnn : nmB k s n = nm at *
  clear hnn hnm h1 h2
  generalize hqq : nm.tdiv 1000000 = q at *
  go_enter Tryz.func48, Tryz.ntmps48
  go_wp2_with fail
  refine (CN.out _).mono ?_
  rintro e w1 ⟨rfl, hb1⟩
  have HX1 := HX.out.step hb1
  have HBW := Lib.hid (bst (HBA.out _ _) hb1)
  have HXH := Lib.hid HX1
  obtain ⟨c0, c1, c2, c3, c4, d0, d1, d2, lt⟩ := HX1
  clear hb1
  go_wp2_with fail
  refine (C.out _).mono ?_
  rintro e w2 ⟨rfl, rfl⟩
  go_wp2
  go_ret
  exact ⟨rfl, HBW.out⟩
set_option maxRecDepth 100000 in
set_option maxHeartbeats 1000000 in
theorem sv_o (a b : Bool) (wd pc k : Int) (s : ByteArray) (n : Int) (w : World) (hs : s.size ≤ 1048576) (h1 : -9223372036854775808 ≤ n) (h2 : n ≤ 9223372036854775807) (hnm : -9223372036854775808 ≤ nmB k s n ∧ nmB k s n ≤ 9223372036854775807) :
    Calls Tryz.prog 48 #[.agg #[.bool a, .bool b, .int .i64 wd, .int .i64 pc, .int .u8 111], .agg #[.int .i64 k, .string s, .int .i64 n]] w fun e w' => e = .returned (.string ⟨(bsT ((nmB k s n).tdiv 1000000) 8).toArray⟩) ∧ Below w.heap.size w w' := by
  have HBA := Lib.hid (show ∀ o o', Below w.heap.size w ((w.alloc o).alloc o') from fun o o' => ((Below.refl _ w).alloc (Nat.le_refl _) o).alloc (by simp) o')
  have HX := Lib.hid (Bv8.start w 76 66 a b wd pc 111 k s n)
  have CN := Lib.hid (fun W => specNumOf_any k s n W hs)
  have hq := tdiv_bd (nmB k s n) hnm.1 hnm.2
  obtain ⟨hq1, hq2⟩ := hq
  have C := Lib.hid (fun W => specBase_any ((nmB k s n).tdiv 1000000) 8 W (by omega) (by omega))
  generalize hnn : nmB k s n = nm at *
  clear hnn hnm h1 h2
  generalize hqq : nm.tdiv 1000000 = q at *
  go_enter Tryz.func48, Tryz.ntmps48
  go_wp2_with fail
  refine (CN.out _).mono ?_
  rintro e w1 ⟨rfl, hb1⟩
  have HX1 := HX.out.step hb1
  have HBW := Lib.hid (bst (HBA.out _ _) hb1)
  have HXH := Lib.hid HX1
  obtain ⟨c0, c1, c2, c3, c4, d0, d1, d2, lt⟩ := HX1
  clear hb1
  go_wp2_with fail
  refine (C.out _).mono ?_
  rintro e w2 ⟨rfl, rfl⟩
  go_wp2
  go_ret
  exact ⟨rfl, HBW.out⟩
set_option maxRecDepth 100000 in
set_option maxHeartbeats 1000000 in
theorem sv_c (a b : Bool) (wd pc k : Int) (s : ByteArray) (n : Int) (w : World) (hs : s.size ≤ 1048576) (h1 : -9223372036854775808 ≤ n) (h2 : n ≤ 9223372036854775807) (hnm : -9223372036854775808 ≤ nmB k s n ∧ nmB k s n ≤ 9223372036854775807) :
    Calls Tryz.prog 48 #[.agg #[.bool a, .bool b, .int .i64 wd, .int .i64 pc, .int .u8 99], .agg #[.int .i64 k, .string s, .int .i64 n]] w fun e w' => e = .returned (.string ⟨(chL ⟨k, s, n⟩).toArray⟩) ∧ Below w.heap.size w w' := by
  have HBA := Lib.hid (show ∀ o o', Below w.heap.size w ((w.alloc o).alloc o') from fun o o' => ((Below.refl _ w).alloc (Nat.le_refl _) o).alloc (by simp) o')
  have HX := Lib.hid (Bv8.start w 76 66 a b wd pc 99 k s n)
  have CN := Lib.hid (fun W => specNumOf_any k s n W hs)
  have hq := tdiv_bd (nmB k s n) hnm.1 hnm.2
  obtain ⟨hq1, hq2⟩ := hq
  have C := Lib.hid (fun W => char_any k s n W hs h1 h2)
  generalize hnn : nmB k s n = nm at *
  clear hnn hnm h1 h2
  generalize hqq : nm.tdiv 1000000 = q at *
  go_enter Tryz.func48, Tryz.ntmps48
  go_wp2_with fail
  refine (CN.out _).mono ?_
  rintro e w1 ⟨rfl, hb1⟩
  have HX1 := HX.out.step hb1
  have HBW := Lib.hid (bst (HBA.out _ _) hb1)
  have HXH := Lib.hid HX1
  obtain ⟨c0, c1, c2, c3, c4, d0, d1, d2, lt⟩ := HX1
  clear hb1
  go_wp2_with fail
  refine (C.out _).mono ?_
  rintro e w2 ⟨rfl, hb2⟩
  go_wp2
  go_ret
  exact ⟨rfl, bst HBW.out hb2⟩
set_option maxRecDepth 100000 in
set_option maxHeartbeats 1000000 in
theorem sv_fn (a b : Bool) (wd pc k : Int) (s : ByteArray) (n : Int) (w : World) (hs : s.size ≤ 1048576) (h1 : -9223372036854775808 ≤ n) (h2 : n ≤ 9223372036854775807) (hnm : -9223372036854775808 ≤ nmB k s n ∧ nmB k s n ≤ 9223372036854775807) (hpc : pc < 0) :
    Calls Tryz.prog 48 #[.agg #[.bool a, .bool b, .int .i64 wd, .int .i64 pc, .int .u8 102], .agg #[.int .i64 k, .string s, .int .i64 n]] w fun e w' => e = .returned (.string (fxA (nmB k s n) 6)) ∧ Below w.heap.size w w' := by
  have HBA := Lib.hid (show ∀ o o', Below w.heap.size w ((w.alloc o).alloc o') from fun o o' => ((Below.refl _ w).alloc (Nat.le_refl _) o).alloc (by simp) o')
  have HX := Lib.hid (Bv8.start w 76 66 a b wd pc 102 k s n)
  have CN := Lib.hid (fun W => specNumOf_any k s n W hs)
  have hq := tdiv_bd (nmB k s n) hnm.1 hnm.2
  obtain ⟨hq1, hq2⟩ := hq
  have C := Lib.hid (fun W => specFx_any (nmB k s n) 6 W)
  generalize hnn : nmB k s n = nm at *
  clear hnn hnm h1 h2
  generalize hqq : nm.tdiv 1000000 = q at *
  go_enter Tryz.func48, Tryz.ntmps48
  go_wp2_with fail
  refine (CN.out _).mono ?_
  rintro e w1 ⟨rfl, hb1⟩
  have HX1 := HX.out.step hb1
  have HBW := Lib.hid (bst (HBA.out _ _) hb1)
  have HXH := Lib.hid HX1
  obtain ⟨c0, c1, c2, c3, c4, d0, d1, d2, lt⟩ := HX1
  clear hb1
  go_wp2_with fail
  refine (CN.out _).mono ?_
  rintro e w2 ⟨rfl, hb2⟩
  go_wp2_with fail
  refine (C.out _).mono ?_
  rintro e w2 ⟨rfl, rfl⟩
  go_wp2
  go_ret
  exact ⟨rfl, bst HBW.out hb2⟩
set_option maxRecDepth 100000 in
set_option maxHeartbeats 1000000 in
theorem sv_fp (a b : Bool) (wd pc k : Int) (s : ByteArray) (n : Int) (w : World) (hs : s.size ≤ 1048576) (h1 : -9223372036854775808 ≤ n) (h2 : n ≤ 9223372036854775807) (hnm : -9223372036854775808 ≤ nmB k s n ∧ nmB k s n ≤ 9223372036854775807) (hpc : ¬ pc < 0) :
    Calls Tryz.prog 48 #[.agg #[.bool a, .bool b, .int .i64 wd, .int .i64 pc, .int .u8 102], .agg #[.int .i64 k, .string s, .int .i64 n]] w fun e w' => e = .returned (.string (fxA (nmB k s n) pc)) ∧ Below w.heap.size w w' := by
  have HBA := Lib.hid (show ∀ o o', Below w.heap.size w ((w.alloc o).alloc o') from fun o o' => ((Below.refl _ w).alloc (Nat.le_refl _) o).alloc (by simp) o')
  have HX := Lib.hid (Bv8.start w 76 66 a b wd pc 102 k s n)
  have CN := Lib.hid (fun W => specNumOf_any k s n W hs)
  have hq := tdiv_bd (nmB k s n) hnm.1 hnm.2
  obtain ⟨hq1, hq2⟩ := hq
  have C := Lib.hid (fun W => specFx_any (nmB k s n) pc W)
  generalize hnn : nmB k s n = nm at *
  clear hnn hnm h1 h2
  generalize hqq : nm.tdiv 1000000 = q at *
  go_enter Tryz.func48, Tryz.ntmps48
  go_wp2_with fail
  refine (CN.out _).mono ?_
  rintro e w1 ⟨rfl, hb1⟩
  have HX1 := HX.out.step hb1
  have HBW := Lib.hid (bst (HBA.out _ _) hb1)
  have HXH := Lib.hid HX1
  obtain ⟨c0, c1, c2, c3, c4, d0, d1, d2, lt⟩ := HX1
  clear hb1
  go_wp2_with fail
  have HV := Lib.hid (Vq.of HXH.out HBW.out)
  go_region_held3 (fun w' => (w'.cell? ⟨w.heap.size + 1, 0, none⟩ = some (.int .i64 k) ∧ w'.cell? ⟨w.heap.size + 1, 1, none⟩ = some (.string s) ∧ w'.cell? ⟨w.heap.size + 1, 2, none⟩ = some (.int .i64 n) ∧ w'.cell? ⟨w.heap.size, 3, none⟩ = some (.int .i64 pc)) ∧ w.heap.size + 1 < w'.heap.size ∧ Below w.heap.size w w') (first | exact HV.out.drew | exact Vq.step HV.out.drew (by assumption) | exact Vq.step (by assumption) (by assumption)) (first | (go_at_call 98; refine (CN.out _).mono ?_; rintro e w2 ⟨rfl, hb2⟩) | (go_at_call 21; refine (C.out _).mono ?_; rintro e w2 ⟨rfl, rfl⟩))
  all_goals
    go_wp2_with fail
    go_ret
    exact ⟨rfl, Vq.below (B := w.heap.size) (k := k) (s := s) (n := n) (pc := pc) (w := w) (by assumption)⟩
set_option maxRecDepth 100000 in
set_option maxHeartbeats 1000000 in
theorem sv_sn (a b : Bool) (wd pc k : Int) (s : ByteArray) (n : Int) (w : World) (hs : s.size ≤ 1048576) (h1 : -9223372036854775808 ≤ n) (h2 : n ≤ 9223372036854775807) (hnm : -9223372036854775808 ≤ nmB k s n ∧ nmB k s n ≤ 9223372036854775807) (hpc : ¬ 0 ≤ pc) :
    Calls Tryz.prog 48 #[.agg #[.bool a, .bool b, .int .i64 wd, .int .i64 pc, .int .u8 115], .agg #[.int .i64 k, .string s, .int .i64 n]] w fun e w' => e = .returned (.string (soB k s n)) ∧ Below w.heap.size w w' := by
  have HBA := Lib.hid (show ∀ o o', Below w.heap.size w ((w.alloc o).alloc o') from fun o o' => ((Below.refl _ w).alloc (Nat.le_refl _) o).alloc (by simp) o')
  have HX := Lib.hid (Bv8.start w 76 66 a b wd pc 115 k s n)
  have CN := Lib.hid (fun W => specNumOf_any k s n W hs)
  have hq := tdiv_bd (nmB k s n) hnm.1 hnm.2
  obtain ⟨hq1, hq2⟩ := hq
  have C := Lib.hid (fun W => specSo_any k s n W)
  have hle := soB_le k s n hs
  generalize soB k s n = so at *
  generalize hnn : nmB k s n = nm at *
  clear hnn hnm h1 h2
  generalize hqq : nm.tdiv 1000000 = q at *
  go_enter Tryz.func48, Tryz.ntmps48
  go_wp2_with fail
  refine (CN.out _).mono ?_
  rintro e w1 ⟨rfl, hb1⟩
  have HX1 := HX.out.step hb1
  have HBW := Lib.hid (bst (HBA.out _ _) hb1)
  have HXH := Lib.hid HX1
  obtain ⟨c0, c1, c2, c3, c4, d0, d1, d2, lt⟩ := HX1
  clear hb1
  go_wp2_with fail
  refine (C.out _).mono ?_
  rintro e w2 ⟨rfl, hb2⟩
  have q3 := (HXH.out.step hb2).c3
  go_wp2
  go_ret
  exact ⟨rfl, bst HBW.out hb2⟩
set_option maxRecDepth 100000 in
set_option maxHeartbeats 1000000 in
theorem sv_sl (a b : Bool) (wd pc k : Int) (s : ByteArray) (n : Int) (w : World) (hs : s.size ≤ 1048576) (h1 : -9223372036854775808 ≤ n) (h2 : n ≤ 9223372036854775807) (hnm : -9223372036854775808 ≤ nmB k s n ∧ nmB k s n ≤ 9223372036854775807) (hpc : 0 ≤ pc) (hlt : ¬ pc < (soB k s n).size) :
    Calls Tryz.prog 48 #[.agg #[.bool a, .bool b, .int .i64 wd, .int .i64 pc, .int .u8 115], .agg #[.int .i64 k, .string s, .int .i64 n]] w fun e w' => e = .returned (.string (soB k s n)) ∧ Below w.heap.size w w' := by
  have HBA := Lib.hid (show ∀ o o', Below w.heap.size w ((w.alloc o).alloc o') from fun o o' => ((Below.refl _ w).alloc (Nat.le_refl _) o).alloc (by simp) o')
  have HX := Lib.hid (Bv8.start w 76 66 a b wd pc 115 k s n)
  have CN := Lib.hid (fun W => specNumOf_any k s n W hs)
  have hq := tdiv_bd (nmB k s n) hnm.1 hnm.2
  obtain ⟨hq1, hq2⟩ := hq
  have C := Lib.hid (fun W => specSo_any k s n W)
  have hle := soB_le k s n hs
  generalize soB k s n = so at *
  generalize hnn : nmB k s n = nm at *
  clear hnn hnm h1 h2
  generalize hqq : nm.tdiv 1000000 = q at *
  go_enter Tryz.func48, Tryz.ntmps48
  go_wp2_with fail
  refine (CN.out _).mono ?_
  rintro e w1 ⟨rfl, hb1⟩
  have HX1 := HX.out.step hb1
  have HBW := Lib.hid (bst (HBA.out _ _) hb1)
  have HXH := Lib.hid HX1
  obtain ⟨c0, c1, c2, c3, c4, d0, d1, d2, lt⟩ := HX1
  clear hb1
  go_wp2_with fail
  refine (C.out _).mono ?_
  rintro e w2 ⟨rfl, hb2⟩
  have q3 := (HXH.out.step hb2).c3
  go_wp2
  go_ret
  exact ⟨rfl, bst HBW.out hb2⟩
set_option maxRecDepth 100000 in
set_option maxHeartbeats 1000000 in
theorem sv_sp (a b : Bool) (wd pc k : Int) (s : ByteArray) (n : Int) (w : World) (hs : s.size ≤ 1048576) (h1 : -9223372036854775808 ≤ n) (h2 : n ≤ 9223372036854775807) (hnm : -9223372036854775808 ≤ nmB k s n ∧ nmB k s n ≤ 9223372036854775807) (hpc : 0 ≤ pc) (hlt : pc < (soB k s n).size) :
    Calls Tryz.prog 48 #[.agg #[.bool a, .bool b, .int .i64 wd, .int .i64 pc, .int .u8 115], .agg #[.int .i64 k, .string s, .int .i64 n]] w fun e w' => e = .returned (.string ⟨((soB k s n).data.toList.take pc.toNat).toArray⟩) ∧ Below w.heap.size w w' := by
  have HBA := Lib.hid (show ∀ o o', Below w.heap.size w ((w.alloc o).alloc o') from fun o o' => ((Below.refl _ w).alloc (Nat.le_refl _) o).alloc (by simp) o')
  have HX := Lib.hid (Bv8.start w 76 66 a b wd pc 115 k s n)
  have CN := Lib.hid (fun W => specNumOf_any k s n W hs)
  have hq := tdiv_bd (nmB k s n) hnm.1 hnm.2
  obtain ⟨hq1, hq2⟩ := hq
  have C := Lib.hid (fun W => specSo_any k s n W)
  have hle := soB_le k s n hs
  generalize soB k s n = so at *
  generalize hnn : nmB k s n = nm at *
  clear hnn hnm h1 h2
  have E := Lib.hid (ext_takeS so pc.toNat)
  have hle2 : pc ≤ (so.size : Int) := by omega
  generalize hqq : nm.tdiv 1000000 = q at *
  go_enter Tryz.func48, Tryz.ntmps48
  go_wp2_with fail
  refine (CN.out _).mono ?_
  rintro e w1 ⟨rfl, hb1⟩
  have HX1 := HX.out.step hb1
  have HBW := Lib.hid (bst (HBA.out _ _) hb1)
  have HXH := Lib.hid HX1
  obtain ⟨c0, c1, c2, c3, c4, d0, d1, d2, lt⟩ := HX1
  clear hb1
  go_wp2_with fail
  refine (C.out _).mono ?_
  rintro e w2 ⟨rfl, hb2⟩
  have q3 := (HXH.out.step hb2).c3
  go_wp2
  go_ret
  exact ⟨ret_str E.out, bst HBW.out hb2⟩
end Go.Proofs.YthffjcclcladoaaGreatDoor.kit
/-
  Contract of spec.l08Value at every kind of place, and how long a value in its place is. Conditions: a text of at most 1048576 bytes.
-/
namespace Go.Proofs.YthffjcclcladoaaGreatDoor.kit
open Go.ChangeShapes Go.WideShapes Go.ChangeAt Go.RowKit
set_option linter.unusedVariables false

theorem rnNum_bd (s : ByteArray) : -9223372036854775808 ≤ rnNum s ∧ rnNum s ≤ 9223372036854775807 := by
  unfold rnNum
  split
  · rename_i h
    have hc : capB (mill (rnW s) (rnB s)) = true := by
      unfold rnG at h
      simp only [Bool.and_eq_true] at h
      exact h.2
    simp only [capB, decide_eq_true_eq] at hc
    split <;> omega
  · omega
theorem bsT_le (n b : Int) : (bsT n b).length ≤ 22 := by
  unfold bsT
  split
  · rename_i h
    refine bdg_len b.toNat _ 21 (by omega) ?_
    have h1 : (n % 18446744073709551616).toNat < 18446744073709551616 := by omega
    rcases h with rfl | rfl
    · exact Nat.lt_of_lt_of_le h1 (by decide)
    · exact Nat.lt_of_lt_of_le h1 (by decide)
  · simp
theorem fxA_le (a b : Int) : (fxA a b).data.toList.length ≤ 50 := by
  have e : (fxA a b).data.toList.length = (fxA a b).size := by simp
  rw [e]
  unfold fxA
  split
  · rename_i h
    have hb2 : -1000000000000 ≤ a ∧ a ≤ 1000000000000 := by simpa [numB, inB] using h.1
    split
    · rw [ByteArray.size_append]
      have := fxP_le a.natAbs b.toNat (by omega)
      show 1 + _ ≤ _; omega
    · have := fxP_le a.toNat b.toNat (by omega)
      omega
  · show 0 ≤ _; omega
theorem bodyL_le (kind : UInt8) (pc : Int) (v : VD) (hs : v.s.size ≤ 1048576) (hn : -9223372036854775808 ≤ nmB v.k v.s v.n ∧ nmB v.k v.s v.n ≤ 9223372036854775807) : (bodyL kind pc v).length ≤ 1048576 := by
  have hq := tdiv_bd _ hn.1 hn.2
  have h1 := soB_le v.k v.s v.n hs
  have e : (soB v.k v.s v.n).data.toList.length = (soB v.k v.s v.n).size := by simp
  unfold bodyL
  split
  · have := Lib.itoa_length_le ((nmB v.k v.s v.n).tdiv 1000000) (by omega) (by omega)
    omega
  · split
    · have := bsT_le ((nmB v.k v.s v.n).tdiv 1000000) 16; omega
    · split
      · have := bsT_le ((nmB v.k v.s v.n).tdiv 1000000) 8; omega
      · split
        · unfold chL
          split
          · simp
          · rw [List.length_take]; omega
        · split
          · have := fxA_le (nmB v.k v.s v.n) (if pc < 0 then 6 else pc); omega
          · split
            · rw [e]; exact h1
            · rw [List.length_take, e]; omega
theorem kind_cases {c : UInt8} (h : kindB c = true) : c = 100 ∨ c = 105 ∨ c = 115 ∨ c = 102 ∨ c = 99 ∨ c = 120 ∨ c = 111 := by
  simp only [kindB, Bool.or_eq_true, beq_iff_eq] at h
  rcases h with (((((h | h) | h) | h) | h) | h) | h <;> simp [h]
theorem mk_list (s : ByteArray) : (⟨s.data.toList.toArray⟩ : ByteArray) = s := by
  apply ByteArray.ext
  simp
theorem sv_any (a b : Bool) (wd pc : Int) (kd : UInt8) (k : Int) (s : ByteArray) (n : Int) (w : World) (hkd : kindB kd = true) (hs : s.size ≤ 1048576) (h1 : -9223372036854775808 ≤ n) (h2 : n ≤ 9223372036854775807) :
    Calls Tryz.prog 48 #[.agg #[.bool a, .bool b, .int .i64 wd, .int .i64 pc, .int .u8 (kd.toNat : Int)], .agg #[.int .i64 k, .string s, .int .i64 n]] w fun e w' => e = .returned (.string ⟨(bodyL kd pc ⟨k, s, n⟩).toArray⟩) ∧ Below w.heap.size w w' := by
  have hnm := nmB_bd k s n h1 h2 (rnNum_bd s)
  rcases kind_cases hkd with rfl | rfl | rfl | rfl | rfl | rfl | rfl
  · exact sv_d a b wd pc k s n w hs h1 h2 hnm
  · exact sv_i a b wd pc k s n w hs h1 h2 hnm
  · by_cases hp : 0 ≤ pc
    · by_cases hl : pc < (soB k s n).size
      · have := sv_sp a b wd pc k s n w hs h1 h2 hnm hp hl
        rw [show bodyL 115 pc ⟨k, s, n⟩ = (soB k s n).data.toList.take pc.toNat by
          unfold bodyL; rw [if_neg (by decide), if_neg (by decide), if_neg (by decide), if_neg (by decide), if_neg (by decide), if_neg (by omega)]]
        exact this
      · have := sv_sl a b wd pc k s n w hs h1 h2 hnm hp hl
        rw [show bodyL 115 pc ⟨k, s, n⟩ = (soB k s n).data.toList by
          have e : (soB k s n).data.toList.length = (soB k s n).size := by simp
          unfold bodyL; rw [if_neg (by decide), if_neg (by decide), if_neg (by decide), if_neg (by decide), if_neg (by decide), if_neg (by omega), List.take_of_length_le (by rw [e]; omega)], mk_list]
        exact this
    · have := sv_sn a b wd pc k s n w hs h1 h2 hnm hp
      rw [show bodyL 115 pc ⟨k, s, n⟩ = (soB k s n).data.toList by
        unfold bodyL; rw [if_neg (by decide), if_neg (by decide), if_neg (by decide), if_neg (by decide), if_neg (by decide), if_pos (by omega)], mk_list]
      exact this
  · by_cases hp : pc < 0
    · have := sv_fn a b wd pc k s n w hs h1 h2 hnm hp
      rw [show bodyL 102 pc ⟨k, s, n⟩ = (fxA (nmB k s n) 6).data.toList by
        unfold bodyL; rw [if_neg (by decide), if_neg (by decide), if_neg (by decide), if_neg (by decide), if_pos (by decide), if_pos hp], mk_list]
      exact this
    · have := sv_fp a b wd pc k s n w hs h1 h2 hnm hp
      rw [show bodyL 102 pc ⟨k, s, n⟩ = (fxA (nmB k s n) pc).data.toList by
        unfold bodyL; rw [if_neg (by decide), if_neg (by decide), if_neg (by decide), if_neg (by decide), if_pos (by decide), if_neg hp], mk_list]
      exact this
  · exact sv_c a b wd pc k s n w hs h1 h2 hnm
  · exact sv_x a b wd pc k s n w hs h1 h2 hnm
  · exact sv_o a b wd pc k s n w hs h1 h2 hnm
end Go.Proofs.YthffjcclcladoaaGreatDoor.kit
