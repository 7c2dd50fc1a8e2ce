/-
  Contract of impl.told over this seat's translation: a value in its place. Conditions: the tables are as listed; a text of at most 1048576 bytes.
-/
import Derived.Test.YthffjcclcladoaaGreatDoorShelf2
import Derived.Test.YthffjcclcladoaaGreatDoorMTl1
import Derived.Test.YthffjcclcladoaaGreatDoorMFl1
import Derived.Deep.RegionHeld3
namespace Go.Proofs.YthffjcclcladoaaGreatDoor.kit
open Go.ChangeShapes Go.WideShapes Go.ChangeAt Go.RowKit
set_option linter.unusedVariables false

/-- The library's longest text for a search is laid. -/
def ML (w : World) : Prop := ∃ m : Int, w.cell? ⟨1, 0, none⟩ = some (.int .i64 m)
theorem ML.on {w w' : World} (h : ML w) (hb : Below w.heap.size w w') : ML w' := by
  obtain ⟨m, hm⟩ := h
  exact ⟨m, (hb.cell (p := ⟨1, 0, none⟩) (World.block_lt_of_cell? w ⟨1, 0, none⟩ hm)).trans hm⟩
/-- Flags without noughts. -/
def noZ (fl : ByteArray) : ByteArray := ⟨(Lib.replaceAll fl.data.toList [48] []).toArray⟩
theorem countB_le (s old : ByteArray) (h : 1 ≤ old.size) : s.size + Lib.countB s old * 0 ≤ 140737488355328 ↔ s.size ≤ 140737488355328 := by simp
theorem noZ_any (fl : ByteArray) (w : World) (hs : fl.size ≤ 1048576) (hm : ML w) :
    Calls Tryz.prog 92 #[.string fl, .string ⟨#[48]⟩, .string ⟨#[]⟩] w fun e w' => e = .returned (.string (noZ fl)) ∧ Below w.heap.size w w' := by
  obtain ⟨m, hm⟩ := hm
  exact Tryz.strings_ReplaceAll fl ⟨#[48]⟩ ⟨#[]⟩ m w (by omega) hm (by decide) (by show fl.size + _ * 0 ≤ _; omega)
theorem flAt_bytes (w : World) (s : ByteArray) : FlAt (Lib.bytesWorld w 5 s) (some ⟨w.heap.size, 0, none⟩) s.data.toList := fun j hj => ⟨_, rfl, (row_bytesWorld w 5 s j hj).1⟩
theorem FlAt.kept {w w' : World} {g : Nat} {xs : List UInt8} (h : FlAt w (some ⟨g, 0, none⟩) xs) (hg : g < w.heap.size) (hb : Below w.heap.size w w') : FlAt w' (some ⟨g, 0, none⟩) xs := fun j hj => by
  obtain ⟨g', e, hc⟩ := h j hj
  cases e
  exact ⟨g, rfl, (hb.cell (p := ⟨g, j, none⟩) hg).trans hc⟩
theorem bst {w W W' : World} (h : Below w.heap.size w W) (hb : Below W.heap.size W W') : Below w.heap.size w W' := h.trans (hb.mono h.size)
theorem bytes_lt (w : World) (e : TypeId) (s : ByteArray) : w.heap.size < (Lib.bytesWorld w e s).heap.size := by
  unfold Lib.bytesWorld World.freeze
  rw [if_neg (by decide)]
  show w.heap.size < (Array.modify (w.drew.alloc _).heap _ _).size
  rw [Array.size_modify, World.size_alloc]
  exact Nat.lt_succ_self _
/-- Eight cells that told's boxes hold. -/
structure Bx8 (W : World) (B : Nat) (fl : ByteArray) (wd : Int) (pr : Bool) (pc kd k : Int) (s : ByteArray) (n : Int) : Prop where
  c0 : W.cell? ⟨B, 0, none⟩ = some (.string fl)
  c1 : W.cell? ⟨B, 1, none⟩ = some (.int .i64 wd)
  c2 : W.cell? ⟨B, 2, none⟩ = some (.bool pr)
  c3 : W.cell? ⟨B, 3, none⟩ = some (.int .i64 pc)
  c4 : W.cell? ⟨B, 4, none⟩ = some (.int .u8 kd)
  d0 : W.cell? ⟨B + 1, 0, none⟩ = some (.int .i64 k)
  d1 : W.cell? ⟨B + 1, 1, none⟩ = some (.string s)
  d2 : W.cell? ⟨B + 1, 2, none⟩ = some (.int .i64 n)
  lt : B + 1 < W.heap.size
theorem Bx8.step {W W' : World} {B : Nat} {fl : ByteArray} {wd : Int} {pr : Bool} {pc kd k : Int} {s : ByteArray} {n : Int} (h : Bx8 W B fl wd pr pc kd k s n) (hb : Below W.heap.size W W') : Bx8 W' B fl wd pr pc kd k s n := by
  have e : ∀ j, W'.cell? ⟨B, j, none⟩ = W.cell? ⟨B, j, none⟩ := fun j => hb.cell (p := ⟨B, j, none⟩) (Nat.lt_of_succ_lt h.lt)
  have f : ∀ j, W'.cell? ⟨B + 1, j, none⟩ = W.cell? ⟨B + 1, j, none⟩ := fun j => hb.cell (p := ⟨B + 1, j, none⟩) h.lt
  exact ⟨(e 0).trans h.c0, (e 1).trans h.c1, (e 2).trans h.c2, (e 3).trans h.c3, (e 4).trans h.c4, (f 0).trans h.d0, (f 1).trans h.d1, (f 2).trans h.d2, Nat.lt_of_lt_of_le h.lt hb.size⟩
theorem Bx8.start (w : World) (t t' : TypeId) (fl : ByteArray) (wd : Int) (pr : Bool) (pc kd k : Int) (s : ByteArray) (n : Int) : Bx8 ((w.alloc (.cells #[.string fl, .int .i64 wd, .bool pr, .int .i64 pc, .int .u8 kd] t)).alloc (.cells #[.int .i64 k, .string s, .int .i64 n] t')) w.heap.size fl wd pr pc kd k s n := by
  have c0 := cell3 (w.alloc (.cells #[.string fl, .int .i64 wd, .bool pr, .int .i64 pc, .int .u8 kd] t)) t' (.int .i64 k) (.string s) (.int .i64 n)
  rw [World.size_alloc] at c0
  have b1 : Below (w.alloc (.cells #[.string fl, .int .i64 wd, .bool pr, .int .i64 pc, .int .u8 kd] t)).heap.size (w.alloc (.cells #[.string fl, .int .i64 wd, .bool pr, .int .i64 pc, .int .u8 kd] t)) ((w.alloc (.cells #[.string fl, .int .i64 wd, .bool pr, .int .i64 pc, .int .u8 kd] t)).alloc (.cells #[.int .i64 k, .string s, .int .i64 n] t')) := (Below.refl _ _).alloc (Nat.le_refl _) _
  have e : ∀ j, ((w.alloc (.cells #[.string fl, .int .i64 wd, .bool pr, .int .i64 pc, .int .u8 kd] t)).alloc (.cells #[.int .i64 k, .string s, .int .i64 n] t')).cell? ⟨w.heap.size, j, none⟩ = (#[Value.string fl, .int .i64 wd, .bool pr, .int .i64 pc, .int .u8 kd] : Array Value)[j]? := fun j => by
    rw [b1.cell (p := ⟨w.heap.size, j, none⟩) (by simp)]
    exact World.cell?_alloc_at _ _ _ _ rfl
  exact ⟨e 0, e 1, e 2, e 3, e 4, c0 0, c0 1, c0 2, by simp⟩
structure Ts8 (w W : World) (fl : ByteArray) (wd : Int) (pr : Bool) (pc kd k : Int) (s : ByteArray) (n : Int) : Prop where
  bx : Bx8 W w.heap.size fl wd pr pc kd k s n
  tb : Tab W
  be : Below w.heap.size w W
theorem Ts8.tab {w W : World} {fl : ByteArray} {wd : Int} {pr : Bool} {pc kd k : Int} {s : ByteArray} {n : Int} (h : Ts8 w W fl wd pr pc kd k s n) : Tab W := h.tb
theorem Ts8.drew {w W : World} {fl : ByteArray} {wd : Int} {pr : Bool} {pc kd k : Int} {s : ByteArray} {n : Int} (h : Ts8 w W fl wd pr pc kd k s n) : Ts8 w W.drew fl wd pr pc kd k s n :=
  ⟨h.bx.step (Below.refl _ _).drew, h.tb.on (Below.refl _ _).drew, h.be.drew⟩
theorem Ts8.step {w W W' : World} {fl : ByteArray} {wd : Int} {pr : Bool} {pc kd k : Int} {s : ByteArray} {n : Int} (h : Ts8 w W fl wd pr pc kd k s n) (hb : Below W.heap.size W W') : Ts8 w W' fl wd pr pc kd k s n :=
  ⟨h.bx.step hb, h.tb.on hb, bst h.be hb⟩
theorem Ts8.open_ {w W : World} {fl : ByteArray} {wd : Int} {pr : Bool} {pc kd k : Int} {s : ByteArray} {n : Int} (h : Ts8 w W fl wd pr pc kd k s n) :
    ((W.cell? ⟨w.heap.size, 0, none⟩ = some (.string fl) ∧ W.cell? ⟨w.heap.size, 1, none⟩ = some (.int .i64 wd) ∧ W.cell? ⟨w.heap.size, 2, none⟩ = some (.bool pr) ∧ W.cell? ⟨w.heap.size, 3, none⟩ = some (.int .i64 pc) ∧ W.cell? ⟨w.heap.size, 4, none⟩ = some (.int .u8 kd)) ∧ (W.cell? ⟨w.heap.size + 1, 0, none⟩ = some (.int .i64 k) ∧ W.cell? ⟨w.heap.size + 1, 1, none⟩ = some (.string s) ∧ W.cell? ⟨w.heap.size + 1, 2, none⟩ = some (.int .i64 n))) ∧ w.heap.size + 1 < W.heap.size ∧ Tab W ∧ Below w.heap.size w W :=
  ⟨⟨⟨h.bx.c0, h.bx.c1, h.bx.c2, h.bx.c3, h.bx.c4⟩, h.bx.d0, h.bx.d1, h.bx.d2⟩, h.bx.lt, h.tb, h.be⟩
theorem Ts8.shut {w W : World} {fl : ByteArray} {wd : Int} {pr : Bool} {pc kd k : Int} {s : ByteArray} {n : Int}
    (h : ((W.cell? ⟨w.heap.size, 0, none⟩ = some (.string fl) ∧ W.cell? ⟨w.heap.size, 1, none⟩ = some (.int .i64 wd) ∧ W.cell? ⟨w.heap.size, 2, none⟩ = some (.bool pr) ∧ W.cell? ⟨w.heap.size, 3, none⟩ = some (.int .i64 pc) ∧ W.cell? ⟨w.heap.size, 4, none⟩ = some (.int .u8 kd)) ∧ (W.cell? ⟨w.heap.size + 1, 0, none⟩ = some (.int .i64 k) ∧ W.cell? ⟨w.heap.size + 1, 1, none⟩ = some (.string s) ∧ W.cell? ⟨w.heap.size + 1, 2, none⟩ = some (.int .i64 n))) ∧ w.heap.size + 1 < W.heap.size ∧ Tab W ∧ Below w.heap.size w W) : Ts8 w W fl wd pr pc kd k s n := by
  obtain ⟨⟨⟨h0, h1, h2, h3, h4⟩, h5, h6, h7⟩, h8, h9, h10⟩ := h
  exact ⟨⟨h0, h1, h2, h3, h4, h5, h6, h7, h8⟩, h9, h10⟩
set_option maxRecDepth 100000 in
set_option maxHeartbeats 4000000 in
theorem told_sc (kd : Int) (hkd : kd = 115 ∨ kd = 99) (fl : ByteArray) (wd : Int) (pr : Bool) (pc k : Int) (s : ByteArray) (n : Int) (body : ByteArray) (w : World) (hfl : fl.size ≤ 1048576) (hz : (noZ fl).size ≤ 1048576) (hb : body.size ≤ 1048576) (hw : 0 ≤ wd ∧ wd ≤ 99) (ht : Tab w) (hm : ML w)
    (C : ∀ W, Tab W → Calls Tryz.prog 93 #[.agg #[.string fl, .int .i64 wd, .bool pr, .int .i64 pc, .int .u8 kd], .agg #[.int .i64 k, .string s, .int .i64 n]] W fun e w' => e = .returned (.string body) ∧ Below W.heap.size W w') :
    Calls Tryz.prog 46 #[.agg #[.string fl, .int .i64 wd, .bool pr, .int .i64 pc, .int .u8 kd], .agg #[.int .i64 k, .string s, .int .i64 n]] w fun e w' => e = .returned (.string (filF body wd (noZ fl).data.toList)) ∧ Below w.heap.size w w' := by
  have HC := Lib.hid C
  have HB0 := Lib.hid (show ∀ o o', Below w.heap.size w ((w.alloc o).alloc o') from fun o o' => ((Below.refl _ w).alloc (Nat.le_refl _) o).alloc (by simp) o')
  have HX := Lib.hid (Bx8.start w 71 66 fl wd pr pc kd k s n)
  have HM := Lib.hid (show ∀ o o', ML ((w.alloc o).alloc o') from fun o o' => hm.on (HB0.out o o'))
  have HT := Lib.hid (show ∀ o o', Tab ((w.alloc o).alloc o') from fun o o' => ht.on (HB0.out o o'))
  have HR := Lib.hid (fun W (h : ML W) => noZ_any fl W hfl h)
  have hcv := fun (W : World) => Lib.run_convert_string_bytes (P := Tryz.prog) W 9 22 5 (noZ fl) Tryz.underlying9 Tryz.underlying22 Tryz.underlying5
  have HF := Lib.hid (fun xs a cap W (hx : xs.length ≤ 1048576) (ha : FlAt W a xs) => filled_any body wd xs a cap W hb hx (by omega) (by omega) ha)
  have hzl : (noZ fl).data.toList.length = (noZ fl).size := by simp
  have HFZ := Lib.hid (show ∀ a cap W, FlAt W a (noZ fl).data.toList → Calls Tryz.prog 52 #[.string body, .int .i64 wd, .slice a (noZ fl).size cap] W fun e w' => e = .returned (.string (filF body wd (noZ fl).data.toList)) ∧ Below W.heap.size W w' from fun a cap W h => by
    have := HF.out (noZ fl).data.toList a cap W (by rw [hzl]; exact hz) h
    rwa [hzl] at this)
  have hw1 := hw.1
  generalize hzf : noZ fl = zf at *
  clear C ht hm hzf hw HF
  have HB1 := Lib.hid HB0.out
  rcases hkd with rfl | rfl
  · go_enter Tryz.func46, Tryz.ntmps46
    go_wp2_with fail
    refine (HR.out _ (HM.out _ _)).mono ?_
    rintro e w1 ⟨rfl, hb1⟩
    have HX1 := HX.out.step hb1
    have HBW := Lib.hid ((HB1.out _ _).trans (hb1.mono (by simp; omega)))
    have HT1 := Lib.hid ((HT.out _ _).on hb1)
    have HTS := Lib.hid (show Ts8 w w1 fl wd pr pc 115 k s n from ⟨HX1, HT1.out, HBW.out⟩)
    clear hb1
    go_wp2_with fail
    refine wp_region_held_drew (S := (fun w' => ((w'.cell? ⟨w.heap.size, 0, none⟩ = some (.string fl) ∧ w'.cell? ⟨w.heap.size, 1, none⟩ = some (.int .i64 wd) ∧ w'.cell? ⟨w.heap.size, 2, none⟩ = some (.bool pr) ∧ w'.cell? ⟨w.heap.size, 3, none⟩ = some (.int .i64 pc) ∧ w'.cell? ⟨w.heap.size, 4, none⟩ = some (.int .u8 115)) ∧ (w'.cell? ⟨w.heap.size + 1, 0, none⟩ = some (.int .i64 k) ∧ w'.cell? ⟨w.heap.size + 1, 1, none⟩ = some (.string s) ∧ w'.cell? ⟨w.heap.size + 1, 2, none⟩ = some (.int .i64 n))) ∧ w.heap.size + 1 < w'.heap.size ∧ Tab w' ∧ Below w.heap.size w w')) (by kernel_rfl) (Ts8.drew HTS.out).open_ (fun hHeld => ?_)
    refine wpAnyH_take (i := 0) (v := ?_) rfl (by kernel_rfl) (by kernel_rfl) (by kernel_rfl) (fun _ _ _ h => h) (Or.inl ⟨by kernel_rfl, ?_⟩) (by assumption) ?_
    rotate_left 1
    · intro w hSw
      try dsimp only at hSw
      go_simp
      try with_reducible rfl
    try simp only [List.getElem_toArray, List.getElem_cons_zero, Act.put, List.setIfInBounds_toArray, List.set_cons_zero, List.set_cons_succ]
    refine wpAnyH_take (i := 1) (v := ?_) rfl (by kernel_rfl) (by kernel_rfl) (by kernel_rfl) (fun _ _ _ h => h) (Or.inl ⟨by kernel_rfl, ?_⟩) (by assumption) ?_
    rotate_left 1
    · intro w hSw
      try dsimp only at hSw
      go_simp
      try with_reducible rfl
    try simp only [List.getElem_toArray, List.getElem_cons_zero, List.getElem_cons_succ, Act.put, List.setIfInBounds_toArray, List.set_cons_zero, List.set_cons_succ]
    refine wpAnyH_take (i := 3) (v := ?_) rfl (by kernel_rfl) (by kernel_rfl) (by kernel_rfl) (fun _ _ _ h => h) (Or.inl ⟨by kernel_rfl, ?_⟩) (by assumption) ?_
    rotate_left 1
    · intro w hSw
      try dsimp only at hSw
      go_simp
      try with_reducible rfl
    try simp only [List.getElem_toArray, List.getElem_cons_zero, List.getElem_cons_succ, Act.put, List.setIfInBounds_toArray, List.set_cons_zero, List.set_cons_succ]
    refine wpAnyH_take (i := 4) (v := ?_) rfl (by kernel_rfl) (by kernel_rfl) (by kernel_rfl) (fun _ _ _ h => h) (Or.inl ⟨by kernel_rfl, ?_⟩) (by assumption) ?_
    rotate_left 1
    · intro w hSw
      try dsimp only at hSw
      go_simp
      try with_reducible rfl
    try simp only [List.getElem_toArray, List.getElem_cons_zero, List.getElem_cons_succ, Act.put, List.setIfInBounds_toArray, List.set_cons_zero, List.set_cons_succ]
    refine wpAnyH_take (i := 5) (v := ?_) rfl (by kernel_rfl) (by kernel_rfl) (by kernel_rfl) (fun _ _ _ h => h) (Or.inl ⟨by kernel_rfl, ?_⟩) (by assumption) ?_
    rotate_left 1
    · intro w hSw
      try dsimp only at hSw
      go_simp
      try with_reducible rfl
    try simp only [List.getElem_toArray, List.getElem_cons_zero, List.getElem_cons_succ, Act.put, List.setIfInBounds_toArray, List.set_cons_zero, List.set_cons_succ]
    refine wpAnyH_ready (rs := [2, 6]) (by kernel_rfl) (by simp) ?_
    refine AllReadyH.cons rfl (fun K hK => ?_) (AllReadyH.cons rfl (fun K hK => ?_) AllReadyH.nil)
    · go_simp
      refine (HC.out _ (Ts8.tab (Ts8.shut (by assumption)))).mono ?_
      rintro e w2 ⟨rfl, hb2⟩
      go_wp2_with fail
      refine hK.out _ _ (Ts8.step (Ts8.shut (by assumption)) hb2).open_ (fun hHeld => ?_)
      clear hK K
      try simp only [List.getElem_toArray, List.getElem_cons_zero, List.getElem_cons_succ, Act.put, List.setIfInBounds_toArray, List.set_cons_zero, List.set_cons_succ]
      refine wpAnyH_ready (rs := [6]) (by kernel_rfl) (by simp) ?_
      refine AllReadyH.cons rfl (fun K hK => ?_) AllReadyH.nil
      go_simp
      refine hK.out _ _ (Ts8.step (Ts8.shut (by assumption)) (below_bytesWorld _ _ _)).open_ (fun hHeld => ?_)
      clear hK K
      try simp only [List.getElem_toArray, List.getElem_cons_zero, List.getElem_cons_succ, Act.put, List.setIfInBounds_toArray, List.set_cons_zero, List.set_cons_succ]
      refine wpAnyH_ready (rs := [7]) (by kernel_rfl) (by simp) ?_
      refine AllReadyH.cons rfl (fun K hK => ?_) AllReadyH.nil
      go_simp
      refine (HFZ.out _ _ _ (flAt_bytes _ _)).mono ?_
      rintro e w3 ⟨rfl, hb3⟩
      go_wp2_with fail
      refine hK.out _ _ (Ts8.step (Ts8.shut (by assumption)) hb3).open_ (fun hHeld => ?_)
      clear hK K
      try simp only [List.getElem_toArray, List.getElem_cons_zero, List.getElem_cons_succ, Act.put, List.setIfInBounds_toArray, List.set_cons_zero, List.set_cons_succ]
      refine wpAnyH_take (i := 8) (v := ?_) rfl (by kernel_rfl) (by kernel_rfl) (by kernel_rfl) (fun _ _ _ h => h) (Or.inl ⟨by kernel_rfl, ?_⟩) (by assumption) ?_
      rotate_left 1
      · intro w hSw
        try dsimp only at hSw
        go_simp
        try with_reducible rfl
      try simp only [List.getElem_toArray, List.getElem_cons_zero, List.getElem_cons_succ, Act.put, List.setIfInBounds_toArray, List.set_cons_zero, List.set_cons_succ]
      refine wpAnyH_done (by kernel_rfl) ?_ _
      go_wp2_with fail
      go_ret
      exact ⟨rfl, (Ts8.shut (by assumption)).be⟩
    · go_simp
      refine hK.out _ _ (Ts8.step (Ts8.shut (by assumption)) (below_bytesWorld _ _ _)).open_ (fun hHeld => ?_)
      clear hK K
      try simp only [List.getElem_toArray, List.getElem_cons_zero, List.getElem_cons_succ, Act.put, List.setIfInBounds_toArray, List.set_cons_zero, List.set_cons_succ]
      refine wpAnyH_ready (rs := [2]) (by kernel_rfl) (by simp) ?_
      refine AllReadyH.cons rfl (fun K hK => ?_) AllReadyH.nil
      go_simp
      refine (HC.out _ (Ts8.tab (Ts8.shut (by assumption)))).mono ?_
      rintro e w2 ⟨rfl, hb2⟩
      go_wp2_with fail
      refine hK.out _ _ (Ts8.step (Ts8.shut (by assumption)) hb2).open_ (fun hHeld => ?_)
      clear hK K
      try simp only [List.getElem_toArray, List.getElem_cons_zero, List.getElem_cons_succ, Act.put, List.setIfInBounds_toArray, List.set_cons_zero, List.set_cons_succ]
      refine wpAnyH_ready (rs := [7]) (by kernel_rfl) (by simp) ?_
      refine AllReadyH.cons rfl (fun K hK => ?_) AllReadyH.nil
      go_simp
      refine (HFZ.out _ _ _ (FlAt.kept (w := Lib.bytesWorld w1.drew 5 zf) (flAt_bytes w1.drew zf) (bytes_lt w1.drew _ zf) hb2)).mono ?_
      rintro e w3 ⟨rfl, hb3⟩
      go_wp2_with fail
      refine hK.out _ _ (Ts8.step (Ts8.shut (by assumption)) hb3).open_ (fun hHeld => ?_)
      clear hK K
      try simp only [List.getElem_toArray, List.getElem_cons_zero, List.getElem_cons_succ, Act.put, List.setIfInBounds_toArray, List.set_cons_zero, List.set_cons_succ]
      refine wpAnyH_take (i := 8) (v := ?_) rfl (by kernel_rfl) (by kernel_rfl) (by kernel_rfl) (fun _ _ _ h => h) (Or.inl ⟨by kernel_rfl, ?_⟩) (by assumption) ?_
      rotate_left 1
      · intro w hSw
        try dsimp only at hSw
        go_simp
        try with_reducible rfl
      try simp only [List.getElem_toArray, List.getElem_cons_zero, List.getElem_cons_succ, Act.put, List.setIfInBounds_toArray, List.set_cons_zero, List.set_cons_succ]
      refine wpAnyH_done (by kernel_rfl) ?_ _
      go_wp2_with fail
      go_ret
      exact ⟨rfl, (Ts8.shut (by assumption)).be⟩
  · go_enter Tryz.func46, Tryz.ntmps46
    go_wp2_with fail
    refine (HR.out _ (HM.out _ _)).mono ?_
    rintro e w1 ⟨rfl, hb1⟩
    have HX1 := HX.out.step hb1
    have HBW := Lib.hid ((HB1.out _ _).trans (hb1.mono (by simp; omega)))
    have HT1 := Lib.hid ((HT.out _ _).on hb1)
    have HTS := Lib.hid (show Ts8 w w1 fl wd pr pc 99 k s n from ⟨HX1, HT1.out, HBW.out⟩)
    clear hb1
    go_wp2_with fail
    refine wp_region_held_drew (S := (fun w' => ((w'.cell? ⟨w.heap.size, 0, none⟩ = some (.string fl) ∧ w'.cell? ⟨w.heap.size, 1, none⟩ = some (.int .i64 wd) ∧ w'.cell? ⟨w.heap.size, 2, none⟩ = some (.bool pr) ∧ w'.cell? ⟨w.heap.size, 3, none⟩ = some (.int .i64 pc) ∧ w'.cell? ⟨w.heap.size, 4, none⟩ = some (.int .u8 99)) ∧ (w'.cell? ⟨w.heap.size + 1, 0, none⟩ = some (.int .i64 k) ∧ w'.cell? ⟨w.heap.size + 1, 1, none⟩ = some (.string s) ∧ w'.cell? ⟨w.heap.size + 1, 2, none⟩ = some (.int .i64 n))) ∧ w.heap.size + 1 < w'.heap.size ∧ Tab w' ∧ Below w.heap.size w w')) (by kernel_rfl) (Ts8.drew HTS.out).open_ (fun hHeld => ?_)
    refine wpAnyH_take (i := 0) (v := ?_) rfl (by kernel_rfl) (by kernel_rfl) (by kernel_rfl) (fun _ _ _ h => h) (Or.inl ⟨by kernel_rfl, ?_⟩) (by assumption) ?_
    rotate_left 1
    · intro w hSw
      try dsimp only at hSw
      go_simp
      try with_reducible rfl
    try simp only [List.getElem_toArray, List.getElem_cons_zero, Act.put, List.setIfInBounds_toArray, List.set_cons_zero, List.set_cons_succ]
    refine wpAnyH_take (i := 1) (v := ?_) rfl (by kernel_rfl) (by kernel_rfl) (by kernel_rfl) (fun _ _ _ h => h) (Or.inl ⟨by kernel_rfl, ?_⟩) (by assumption) ?_
    rotate_left 1
    · intro w hSw
      try dsimp only at hSw
      go_simp
      try with_reducible rfl
    try simp only [List.getElem_toArray, List.getElem_cons_zero, List.getElem_cons_succ, Act.put, List.setIfInBounds_toArray, List.set_cons_zero, List.set_cons_succ]
    refine wpAnyH_take (i := 3) (v := ?_) rfl (by kernel_rfl) (by kernel_rfl) (by kernel_rfl) (fun _ _ _ h => h) (Or.inl ⟨by kernel_rfl, ?_⟩) (by assumption) ?_
    rotate_left 1
    · intro w hSw
      try dsimp only at hSw
      go_simp
      try with_reducible rfl
    try simp only [List.getElem_toArray, List.getElem_cons_zero, List.getElem_cons_succ, Act.put, List.setIfInBounds_toArray, List.set_cons_zero, List.set_cons_succ]
    refine wpAnyH_take (i := 4) (v := ?_) rfl (by kernel_rfl) (by kernel_rfl) (by kernel_rfl) (fun _ _ _ h => h) (Or.inl ⟨by kernel_rfl, ?_⟩) (by assumption) ?_
    rotate_left 1
    · intro w hSw
      try dsimp only at hSw
      go_simp
      try with_reducible rfl
    try simp only [List.getElem_toArray, List.getElem_cons_zero, List.getElem_cons_succ, Act.put, List.setIfInBounds_toArray, List.set_cons_zero, List.set_cons_succ]
    refine wpAnyH_take (i := 5) (v := ?_) rfl (by kernel_rfl) (by kernel_rfl) (by kernel_rfl) (fun _ _ _ h => h) (Or.inl ⟨by kernel_rfl, ?_⟩) (by assumption) ?_
    rotate_left 1
    · intro w hSw
      try dsimp only at hSw
      go_simp
      try with_reducible rfl
    try simp only [List.getElem_toArray, List.getElem_cons_zero, List.getElem_cons_succ, Act.put, List.setIfInBounds_toArray, List.set_cons_zero, List.set_cons_succ]
    refine wpAnyH_ready (rs := [2, 6]) (by kernel_rfl) (by simp) ?_
    refine AllReadyH.cons rfl (fun K hK => ?_) (AllReadyH.cons rfl (fun K hK => ?_) AllReadyH.nil)
    · go_simp
      refine (HC.out _ (Ts8.tab (Ts8.shut (by assumption)))).mono ?_
      rintro e w2 ⟨rfl, hb2⟩
      go_wp2_with fail
      refine hK.out _ _ (Ts8.step (Ts8.shut (by assumption)) hb2).open_ (fun hHeld => ?_)
      clear hK K
      try simp only [List.getElem_toArray, List.getElem_cons_zero, List.getElem_cons_succ, Act.put, List.setIfInBounds_toArray, List.set_cons_zero, List.set_cons_succ]
      refine wpAnyH_ready (rs := [6]) (by kernel_rfl) (by simp) ?_
      refine AllReadyH.cons rfl (fun K hK => ?_) AllReadyH.nil
      go_simp
      refine hK.out _ _ (Ts8.step (Ts8.shut (by assumption)) (below_bytesWorld _ _ _)).open_ (fun hHeld => ?_)
      clear hK K
      try simp only [List.getElem_toArray, List.getElem_cons_zero, List.getElem_cons_succ, Act.put, List.setIfInBounds_toArray, List.set_cons_zero, List.set_cons_succ]
      refine wpAnyH_ready (rs := [7]) (by kernel_rfl) (by simp) ?_
      refine AllReadyH.cons rfl (fun K hK => ?_) AllReadyH.nil
      go_simp
      refine (HFZ.out _ _ _ (flAt_bytes _ _)).mono ?_
      rintro e w3 ⟨rfl, hb3⟩
      go_wp2_with fail
      refine hK.out _ _ (Ts8.step (Ts8.shut (by assumption)) hb3).open_ (fun hHeld => ?_)
      clear hK K
      try simp only [List.getElem_toArray, List.getElem_cons_zero, List.getElem_cons_succ, Act.put, List.setIfInBounds_toArray, List.set_cons_zero, List.set_cons_succ]
      refine wpAnyH_take (i := 8) (v := ?_) rfl (by kernel_rfl) (by kernel_rfl) (by kernel_rfl) (fun _ _ _ h => h) (Or.inl ⟨by kernel_rfl, ?_⟩) (by assumption) ?_
      rotate_left 1
      · intro w hSw
        try dsimp only at hSw
        go_simp
        try with_reducible rfl
      try simp only [List.getElem_toArray, List.getElem_cons_zero, List.getElem_cons_succ, Act.put, List.setIfInBounds_toArray, List.set_cons_zero, List.set_cons_succ]
      refine wpAnyH_done (by kernel_rfl) ?_ _
      go_wp2_with fail
      go_ret
      exact ⟨rfl, (Ts8.shut (by assumption)).be⟩
    · go_simp
      refine hK.out _ _ (Ts8.step (Ts8.shut (by assumption)) (below_bytesWorld _ _ _)).open_ (fun hHeld => ?_)
      clear hK K
      try simp only [List.getElem_toArray, List.getElem_cons_zero, List.getElem_cons_succ, Act.put, List.setIfInBounds_toArray, List.set_cons_zero, List.set_cons_succ]
      refine wpAnyH_ready (rs := [2]) (by kernel_rfl) (by simp) ?_
      refine AllReadyH.cons rfl (fun K hK => ?_) AllReadyH.nil
      go_simp
      refine (HC.out _ (Ts8.tab (Ts8.shut (by assumption)))).mono ?_
      rintro e w2 ⟨rfl, hb2⟩
      go_wp2_with fail
      refine hK.out _ _ (Ts8.step (Ts8.shut (by assumption)) hb2).open_ (fun hHeld => ?_)
      clear hK K
      try simp only [List.getElem_toArray, List.getElem_cons_zero, List.getElem_cons_succ, Act.put, List.setIfInBounds_toArray, List.set_cons_zero, List.set_cons_succ]
      refine wpAnyH_ready (rs := [7]) (by kernel_rfl) (by simp) ?_
      refine AllReadyH.cons rfl (fun K hK => ?_) AllReadyH.nil
      go_simp
      refine (HFZ.out _ _ _ (FlAt.kept (w := Lib.bytesWorld w1.drew 5 zf) (flAt_bytes w1.drew zf) (bytes_lt w1.drew _ zf) hb2)).mono ?_
      rintro e w3 ⟨rfl, hb3⟩
      go_wp2_with fail
      refine hK.out _ _ (Ts8.step (Ts8.shut (by assumption)) hb3).open_ (fun hHeld => ?_)
      clear hK K
      try simp only [List.getElem_toArray, List.getElem_cons_zero, List.getElem_cons_succ, Act.put, List.setIfInBounds_toArray, List.set_cons_zero, List.set_cons_succ]
      refine wpAnyH_take (i := 8) (v := ?_) rfl (by kernel_rfl) (by kernel_rfl) (by kernel_rfl) (fun _ _ _ h => h) (Or.inl ⟨by kernel_rfl, ?_⟩) (by assumption) ?_
      rotate_left 1
      · intro w hSw
        try dsimp only at hSw
        go_simp
        try with_reducible rfl
      try simp only [List.getElem_toArray, List.getElem_cons_zero, List.getElem_cons_succ, Act.put, List.setIfInBounds_toArray, List.set_cons_zero, List.set_cons_succ]
      refine wpAnyH_done (by kernel_rfl) ?_ _
      go_wp2_with fail
      go_ret
      exact ⟨rfl, (Ts8.shut (by assumption)).be⟩
end Go.Proofs.YthffjcclcladoaaGreatDoor.kit
/-
  Contract of impl.told at the kinds of numbers over this seat's translation. Conditions: the tables are as listed; a text of at most 1048576 bytes.
-/
namespace Go.Proofs.YthffjcclcladoaaGreatDoor.kit
open Go.ChangeShapes Go.WideShapes Go.ChangeAt Go.RowKit
set_option linter.unusedVariables false

structure Us8 (w W : World) (fl : ByteArray) (wd : Int) (pr : Bool) (pc kd k : Int) (s : ByteArray) (n : Int) : Prop where
  bx : Bx8 W w.heap.size fl wd pr pc kd k s n
  tb : Tab W
  bt : BT W
  be : Below w.heap.size w W
theorem Us8.drew {w W : World} {fl : ByteArray} {wd : Int} {pr : Bool} {pc kd k : Int} {s : ByteArray} {n : Int} (h : Us8 w W fl wd pr pc kd k s n) : Us8 w W.drew fl wd pr pc kd k s n :=
  ⟨h.bx.step (Below.refl _ _).drew, h.tb.on (Below.refl _ _).drew, h.bt.kept (Below.refl _ _).drew, h.be.drew⟩
theorem Us8.step {w W W' : World} {fl : ByteArray} {wd : Int} {pr : Bool} {pc kd k : Int} {s : ByteArray} {n : Int} (h : Us8 w W fl wd pr pc kd k s n) (hb : Below W.heap.size W W') : Us8 w W' fl wd pr pc kd k s n :=
  ⟨h.bx.step hb, h.tb.on hb, h.bt.kept hb, bst h.be hb⟩
theorem Us8.open_ {w W : World} {fl : ByteArray} {wd : Int} {pr : Bool} {pc kd k : Int} {s : ByteArray} {n : Int} (h : Us8 w W fl wd pr pc kd k s n) : ((W.cell? ⟨w.heap.size, 0, none⟩ = some (.string fl) ∧ W.cell? ⟨w.heap.size, 1, none⟩ = some (.int .i64 wd) ∧ W.cell? ⟨w.heap.size, 2, none⟩ = some (.bool pr) ∧ W.cell? ⟨w.heap.size, 3, none⟩ = some (.int .i64 pc) ∧ W.cell? ⟨w.heap.size, 4, none⟩ = some (.int .u8 kd)) ∧ (W.cell? ⟨w.heap.size + 1, 0, none⟩ = some (.int .i64 k) ∧ W.cell? ⟨w.heap.size + 1, 1, none⟩ = some (.string s) ∧ W.cell? ⟨w.heap.size + 1, 2, none⟩ = some (.int .i64 n))) ∧ w.heap.size + 1 < W.heap.size ∧ Tab W ∧ BT W ∧ Below w.heap.size w W :=
  ⟨⟨⟨h.bx.c0, h.bx.c1, h.bx.c2, h.bx.c3, h.bx.c4⟩, h.bx.d0, h.bx.d1, h.bx.d2⟩, h.bx.lt, h.tb, h.bt, h.be⟩
theorem Us8.shut {w W : World} {fl : ByteArray} {wd : Int} {pr : Bool} {pc kd k : Int} {s : ByteArray} {n : Int} (h : ((W.cell? ⟨w.heap.size, 0, none⟩ = some (.string fl) ∧ W.cell? ⟨w.heap.size, 1, none⟩ = some (.int .i64 wd) ∧ W.cell? ⟨w.heap.size, 2, none⟩ = some (.bool pr) ∧ W.cell? ⟨w.heap.size, 3, none⟩ = some (.int .i64 pc) ∧ W.cell? ⟨w.heap.size, 4, none⟩ = some (.int .u8 kd)) ∧ (W.cell? ⟨w.heap.size + 1, 0, none⟩ = some (.int .i64 k) ∧ W.cell? ⟨w.heap.size + 1, 1, none⟩ = some (.string s) ∧ W.cell? ⟨w.heap.size + 1, 2, none⟩ = some (.int .i64 n))) ∧ w.heap.size + 1 < W.heap.size ∧ Tab W ∧ BT W ∧ Below w.heap.size w W) : Us8 w W fl wd pr pc kd k s n := by
  obtain ⟨⟨⟨h0, h1, h2, h3, h4⟩, h5, h6, h7⟩, h8, h9, h10, h11⟩ := h
  exact ⟨⟨h0, h1, h2, h3, h4, h5, h6, h7, h8⟩, h9, h10, h11⟩
set_option maxRecDepth 100000 in
set_option maxHeartbeats 8000000 in
theorem told_num (kd : Int) (hk1 : (kd == 115) = false) (hk2 : (kd == 99) = false) (fl : ByteArray) (wd : Int) (pr : Bool) (pc k : Int) (s : ByteArray) (n : Int) (body : ByteArray) (w : World) (hfl : fl.size ≤ 1048576) (hs : s.size ≤ 1048576) (hb : body.size ≤ 1048576) (hw : 0 ≤ wd ∧ wd ≤ 99) (ht : Tab w) (hbt : BT w)
    (C : ∀ W, Tab W → BT W → Calls Tryz.prog 94 #[.agg #[.string fl, .int .i64 wd, .bool pr, .int .i64 pc, .int .u8 kd], .int .i64 (nmB k s n)] W fun e w' => e = .returned (.string body) ∧ Below W.heap.size W w') :
    Calls Tryz.prog 46 #[.agg #[.string fl, .int .i64 wd, .bool pr, .int .i64 pc, .int .u8 kd], .agg #[.int .i64 k, .string s, .int .i64 n]] w fun e w' => e = .returned (.string (filF body wd fl.data.toList)) ∧ Below w.heap.size w w' := by
  have HC := Lib.hid C
  have CN := Lib.hid (fun W => implNumOf_any k s n W hs)
  have HB0 := Lib.hid (show ∀ o o', Below w.heap.size w ((w.alloc o).alloc o') from fun o o' => ((Below.refl _ w).alloc (Nat.le_refl _) o).alloc (by simp) o')
  have HTS := Lib.hid (show Us8 w _ fl wd pr pc kd k s n from ⟨Bx8.start w 71 66 fl wd pr pc kd k s n, ht.on (HB0.out _ _), hbt.kept (HB0.out _ _), HB0.out _ _⟩)
  have hcv := fun (W : World) => Lib.run_convert_string_bytes (P := Tryz.prog) W 9 22 5 fl Tryz.underlying9 Tryz.underlying22 Tryz.underlying5
  have hzl : fl.data.toList.length = fl.size := by simp
  have HFZ := Lib.hid (show ∀ a cap W, FlAt W a fl.data.toList → Calls Tryz.prog 52 #[.string body, .int .i64 wd, .slice a fl.size cap] W fun e w' => e = .returned (.string (filF body wd fl.data.toList)) ∧ Below W.heap.size W w' from fun a cap W h => by
    have := filled_any body wd fl.data.toList a cap W hb (by rw [hzl]; exact hfl) (by omega) (by omega) h
    rwa [hzl] at this)
  generalize nmB k s n = nm at *
  clear C ht hbt hw hzl
  go_enter Tryz.func46, Tryz.ntmps46
  go_wp2_with fail
  refine wp_region_held_drew (S := (fun w' => ((w'.cell? ⟨w.heap.size, 0, none⟩ = some (.string fl) ∧ w'.cell? ⟨w.heap.size, 1, none⟩ = some (.int .i64 wd) ∧ w'.cell? ⟨w.heap.size, 2, none⟩ = some (.bool pr) ∧ w'.cell? ⟨w.heap.size, 3, none⟩ = some (.int .i64 pc) ∧ w'.cell? ⟨w.heap.size, 4, none⟩ = some (.int .u8 kd)) ∧ (w'.cell? ⟨w.heap.size + 1, 0, none⟩ = some (.int .i64 k) ∧ w'.cell? ⟨w.heap.size + 1, 1, none⟩ = some (.string s) ∧ w'.cell? ⟨w.heap.size + 1, 2, none⟩ = some (.int .i64 n))) ∧ w.heap.size + 1 < w'.heap.size ∧ Tab w' ∧ BT w' ∧ Below w.heap.size w w')) (by kernel_rfl) (Us8.drew HTS.out).open_ (fun hHeld => ?_)
  refine wpAnyH_take (i := 0) (v := ?_) rfl (by kernel_rfl) (by kernel_rfl) (by kernel_rfl) (fun _ _ _ h => h) (Or.inl ⟨by kernel_rfl, ?_⟩) (by assumption) ?_
  rotate_left 1
  · intro w hSw
    try dsimp only at hSw
    go_simp
    try with_reducible rfl
  try simp only [List.getElem_toArray, List.getElem_cons_zero, Act.put, List.setIfInBounds_toArray, List.set_cons_zero, List.set_cons_succ]
  refine wpAnyH_take (i := 1) (v := ?_) rfl (by kernel_rfl) (by kernel_rfl) (by kernel_rfl) (fun _ _ _ h => h) (Or.inl ⟨by kernel_rfl, ?_⟩) (by assumption) ?_
  rotate_left 1
  · intro w hSw
    try dsimp only at hSw
    go_simp
    try with_reducible rfl
  try simp only [List.getElem_toArray, List.getElem_cons_zero, List.getElem_cons_succ, Act.put, List.setIfInBounds_toArray, List.set_cons_zero, List.set_cons_succ]
  refine wpAnyH_take (i := 4) (v := ?_) rfl (by kernel_rfl) (by kernel_rfl) (by kernel_rfl) (fun _ _ _ h => h) (Or.inl ⟨by kernel_rfl, ?_⟩) (by assumption) ?_
  rotate_left 1
  · intro w hSw
    try dsimp only at hSw
    go_simp
    try with_reducible rfl
  try simp only [List.getElem_toArray, List.getElem_cons_zero, List.getElem_cons_succ, Act.put, List.setIfInBounds_toArray, List.set_cons_zero, List.set_cons_succ]
  refine wpAnyH_take (i := 5) (v := ?_) rfl (by kernel_rfl) (by kernel_rfl) (by kernel_rfl) (fun _ _ _ h => h) (Or.inl ⟨by kernel_rfl, ?_⟩) (by assumption) ?_
  rotate_left 1
  · intro w hSw
    try dsimp only at hSw
    go_simp
    try with_reducible rfl
  try simp only [List.getElem_toArray, List.getElem_cons_zero, List.getElem_cons_succ, Act.put, List.setIfInBounds_toArray, List.set_cons_zero, List.set_cons_succ]
  refine wpAnyH_take (i := 6) (v := ?_) rfl (by kernel_rfl) (by kernel_rfl) (by kernel_rfl) (fun _ _ _ h => h) (Or.inl ⟨by kernel_rfl, ?_⟩) (by assumption) ?_
  rotate_left 1
  · intro w hSw
    try dsimp only at hSw
    go_simp
    try with_reducible rfl
  try simp only [List.getElem_toArray, List.getElem_cons_zero, List.getElem_cons_succ, Act.put, List.setIfInBounds_toArray, List.set_cons_zero, List.set_cons_succ]
  refine wpAnyH_take (i := 7) (v := ?_) rfl (by kernel_rfl) (by kernel_rfl) (by kernel_rfl) (fun _ _ _ h => h) (Or.inl ⟨by kernel_rfl, ?_⟩) (by assumption) ?_
  rotate_left 1
  · intro w hSw
    try dsimp only at hSw
    go_simp
    try with_reducible rfl
  try simp only [List.getElem_toArray, List.getElem_cons_zero, List.getElem_cons_succ, Act.put, List.setIfInBounds_toArray, List.set_cons_zero, List.set_cons_succ]
  refine wpAnyH_ready (rs := [2, 8]) (by kernel_rfl) (by simp) ?_
  refine AllReadyH.cons rfl (fun K hK => ?_) (AllReadyH.cons rfl (fun K hK => ?_) AllReadyH.nil)
  · go_simp
    refine (CN.out _).mono ?_
    rintro e w2 ⟨rfl, hb2⟩
    go_wp2_with fail
    refine hK.out _ _ (Us8.step (Us8.shut (by assumption)) hb2).open_ (fun hHeld => ?_)
    clear hK K
    try simp only [List.getElem_toArray, List.getElem_cons_zero, List.getElem_cons_succ, Act.put, List.setIfInBounds_toArray, List.set_cons_zero, List.set_cons_succ]
    refine wpAnyH_ready (rs := [3, 8]) (by kernel_rfl) (by simp) ?_
    refine AllReadyH.cons rfl (fun K hK => ?_) (AllReadyH.cons rfl (fun K hK => ?_) AllReadyH.nil)
    · go_simp
      refine (HC.out _ (Us8.tb (Us8.shut (by assumption))) (Us8.bt (Us8.shut (by assumption)))).mono ?_
      rintro e w3 ⟨rfl, hb3⟩
      go_wp2_with fail
      refine hK.out _ _ (Us8.step (Us8.shut (by assumption)) hb3).open_ (fun hHeld => ?_)
      clear hK K
      try simp only [List.getElem_toArray, List.getElem_cons_zero, List.getElem_cons_succ, Act.put, List.setIfInBounds_toArray, List.set_cons_zero, List.set_cons_succ]
      refine wpAnyH_ready (rs := [8]) (by kernel_rfl) (by simp) ?_
      refine AllReadyH.cons rfl (fun K hK => ?_) AllReadyH.nil
      go_simp
      refine hK.out _ _ (Us8.step (Us8.shut (by assumption)) (below_bytesWorld _ _ _)).open_ (fun hHeld => ?_)
      clear hK K
      try simp only [List.getElem_toArray, List.getElem_cons_zero, List.getElem_cons_succ, Act.put, List.setIfInBounds_toArray, List.set_cons_zero, List.set_cons_succ]
      refine wpAnyH_ready (rs := [9]) (by kernel_rfl) (by simp) ?_
      refine AllReadyH.cons rfl (fun K hK => ?_) AllReadyH.nil
      go_simp
      refine (HFZ.out _ _ _ (flAt_bytes _ _)).mono ?_
      rintro e w4 ⟨rfl, hb4⟩
      go_wp2_with fail
      refine hK.out _ _ (Us8.step (Us8.shut (by assumption)) hb4).open_ (fun hHeld => ?_)
      clear hK K
      try simp only [List.getElem_toArray, List.getElem_cons_zero, List.getElem_cons_succ, Act.put, List.setIfInBounds_toArray, List.set_cons_zero, List.set_cons_succ]
      refine wpAnyH_take (i := 10) (v := ?_) rfl (by kernel_rfl) (by kernel_rfl) (by kernel_rfl) (fun _ _ _ h => h) (Or.inl ⟨by kernel_rfl, ?_⟩) (by assumption) ?_
      rotate_left 1
      · intro w hSw
        try dsimp only at hSw
        go_simp
        try with_reducible rfl
      try simp only [List.getElem_toArray, List.getElem_cons_zero, List.getElem_cons_succ, Act.put, List.setIfInBounds_toArray, List.set_cons_zero, List.set_cons_succ]
      refine wpAnyH_done (by kernel_rfl) ?_ _
      go_wp2_with fail
      go_ret
      exact ⟨rfl, (Us8.shut (by assumption)).be⟩
    · go_simp
      refine hK.out _ _ (Us8.step (Us8.shut (by assumption)) (below_bytesWorld _ _ _)).open_ (fun hHeld => ?_)
      clear hK K
      try simp only [List.getElem_toArray, List.getElem_cons_zero, List.getElem_cons_succ, Act.put, List.setIfInBounds_toArray, List.set_cons_zero, List.set_cons_succ]
      refine wpAnyH_ready (rs := [3]) (by kernel_rfl) (by simp) ?_
      refine AllReadyH.cons rfl (fun K hK => ?_) AllReadyH.nil
      go_simp
      refine (HC.out _ (Us8.tb (Us8.shut (by assumption))) (Us8.bt (Us8.shut (by assumption)))).mono ?_
      rintro e w3 ⟨rfl, hb3⟩
      go_wp2_with fail
      refine hK.out _ _ (Us8.step (Us8.shut (by assumption)) hb3).open_ (fun hHeld => ?_)
      clear hK K
      try simp only [List.getElem_toArray, List.getElem_cons_zero, List.getElem_cons_succ, Act.put, List.setIfInBounds_toArray, List.set_cons_zero, List.set_cons_succ]
      refine wpAnyH_ready (rs := [9]) (by kernel_rfl) (by simp) ?_
      refine AllReadyH.cons rfl (fun K hK => ?_) AllReadyH.nil
      go_simp
      refine (HFZ.out _ _ _ (FlAt.kept (w := Lib.bytesWorld w2 5 fl) (flAt_bytes w2 fl) (bytes_lt w2 _ fl) hb3)).mono ?_
      rintro e w4 ⟨rfl, hb4⟩
      go_wp2_with fail
      refine hK.out _ _ (Us8.step (Us8.shut (by assumption)) hb4).open_ (fun hHeld => ?_)
      clear hK K
      try simp only [List.getElem_toArray, List.getElem_cons_zero, List.getElem_cons_succ, Act.put, List.setIfInBounds_toArray, List.set_cons_zero, List.set_cons_succ]
      refine wpAnyH_take (i := 10) (v := ?_) rfl (by kernel_rfl) (by kernel_rfl) (by kernel_rfl) (fun _ _ _ h => h) (Or.inl ⟨by kernel_rfl, ?_⟩) (by assumption) ?_
      rotate_left 1
      · intro w hSw
        try dsimp only at hSw
        go_simp
        try with_reducible rfl
      try simp only [List.getElem_toArray, List.getElem_cons_zero, List.getElem_cons_succ, Act.put, List.setIfInBounds_toArray, List.set_cons_zero, List.set_cons_succ]
      refine wpAnyH_done (by kernel_rfl) ?_ _
      go_wp2_with fail
      go_ret
      exact ⟨rfl, (Us8.shut (by assumption)).be⟩
  · go_simp
    refine hK.out _ _ (Us8.step (Us8.shut (by assumption)) (below_bytesWorld _ _ _)).open_ (fun hHeld => ?_)
    clear hK K
    try simp only [List.getElem_toArray, List.getElem_cons_zero, List.getElem_cons_succ, Act.put, List.setIfInBounds_toArray, List.set_cons_zero, List.set_cons_succ]
    refine wpAnyH_ready (rs := [2]) (by kernel_rfl) (by simp) ?_
    refine AllReadyH.cons rfl (fun K hK => ?_) AllReadyH.nil
    go_simp
    refine (CN.out _).mono ?_
    rintro e w2 ⟨rfl, hb2⟩
    go_wp2_with fail
    refine hK.out _ _ (Us8.step (Us8.shut (by assumption)) hb2).open_ (fun hHeld => ?_)
    clear hK K
    try simp only [List.getElem_toArray, List.getElem_cons_zero, List.getElem_cons_succ, Act.put, List.setIfInBounds_toArray, List.set_cons_zero, List.set_cons_succ]
    refine wpAnyH_ready (rs := [3]) (by kernel_rfl) (by simp) ?_
    refine AllReadyH.cons rfl (fun K hK => ?_) AllReadyH.nil
    go_simp
    refine (HC.out _ (Us8.tb (Us8.shut (by assumption))) (Us8.bt (Us8.shut (by assumption)))).mono ?_
    rintro e w3 ⟨rfl, hb3⟩
    go_wp2_with fail
    refine hK.out _ _ (Us8.step (Us8.shut (by assumption)) hb3).open_ (fun hHeld => ?_)
    clear hK K
    try simp only [List.getElem_toArray, List.getElem_cons_zero, List.getElem_cons_succ, Act.put, List.setIfInBounds_toArray, List.set_cons_zero, List.set_cons_succ]
    refine wpAnyH_ready (rs := [9]) (by kernel_rfl) (by simp) ?_
    refine AllReadyH.cons rfl (fun K hK => ?_) AllReadyH.nil
    go_simp
    refine (HFZ.out _ _ _ (FlAt.kept (FlAt.kept (w := Lib.bytesWorld ((w.alloc (.cells #[.string fl, .int .i64 wd, .bool pr, .int .i64 pc, .int .u8 kd] 71)).alloc (.cells #[.int .i64 k, .string s, .int .i64 n] 66)).drew 5 fl) (by simpa using flAt_bytes ((w.alloc (.cells #[.string fl, .int .i64 wd, .bool pr, .int .i64 pc, .int .u8 kd] 71)).alloc (.cells #[.int .i64 k, .string s, .int .i64 n] 66)).drew fl) (by have := bytes_lt ((w.alloc (.cells #[.string fl, .int .i64 wd, .bool pr, .int .i64 pc, .int .u8 kd] 71)).alloc (.cells #[.int .i64 k, .string s, .int .i64 n] 66)).drew 5 fl; simpa using this) hb2) (Nat.lt_of_lt_of_le (by have := bytes_lt ((w.alloc (.cells #[.string fl, .int .i64 wd, .bool pr, .int .i64 pc, .int .u8 kd] 71)).alloc (.cells #[.int .i64 k, .string s, .int .i64 n] 66)).drew 5 fl; simpa using this) hb2.size) hb3)).mono ?_
    rintro e w4 ⟨rfl, hb4⟩
    go_wp2_with fail
    refine hK.out _ _ (Us8.step (Us8.shut (by assumption)) hb4).open_ (fun hHeld => ?_)
    clear hK K
    try simp only [List.getElem_toArray, List.getElem_cons_zero, List.getElem_cons_succ, Act.put, List.setIfInBounds_toArray, List.set_cons_zero, List.set_cons_succ]
    refine wpAnyH_take (i := 10) (v := ?_) rfl (by kernel_rfl) (by kernel_rfl) (by kernel_rfl) (fun _ _ _ h => h) (Or.inl ⟨by kernel_rfl, ?_⟩) (by assumption) ?_
    rotate_left 1
    · intro w hSw
      try dsimp only at hSw
      go_simp
      try with_reducible rfl
    try simp only [List.getElem_toArray, List.getElem_cons_zero, List.getElem_cons_succ, Act.put, List.setIfInBounds_toArray, List.set_cons_zero, List.set_cons_succ]
    refine wpAnyH_done (by kernel_rfl) ?_ _
    go_wp2_with fail
    go_ret
    exact ⟨rfl, (Us8.shut (by assumption)).be⟩
end Go.Proofs.YthffjcclcladoaaGreatDoor.kit
