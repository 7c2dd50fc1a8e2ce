/-
  Contract of spec.Sprintf over this seat's translation: what a form tells of a list. Conditions: a form of at most 1048576 bytes, values of at most so many.
-/
import Derived.Test.YthffjcclcladoaaGreatDoorMSv0
import Derived.Test.YthffjcclcladoaaGreatDoorMVl0
import Derived.Test.YthffjcclcladoaaGreatDoorMFp2
import Derived.Deep.LoopGhost
import Derived.Deep.RegionHeld3
namespace Go.Proofs.YthffjcclcladoaaGreatDoor.kit
open Go.ChangeShapes Go.WideShapes Go.ChangeAt Go.RowKit
set_option linter.unusedVariables false

/-- Values as the law asks them. -/
def GoodV (v : VD) : Prop := v.s.size ≤ 1048576 ∧ -9223372036854775808 ≤ v.n ∧ v.n ≤ 9223372036854775807
theorem next_at (ts : List VD) (u : Nat) (h : u < ts.length) : nextV (ts.drop u) = ts.getD u default ∧ (ts.drop u).tail = ts.drop (u + 1) := by
  rw [List.drop_eq_getElem_cons h]
  exact ⟨by simp [nextV, List.getD_eq_getElem?_getD, h], rfl⟩
theorem next_end (ts : List VD) (u : Nat) (h : ¬ u < ts.length) : nextV (ts.drop u) = ⟨0, ⟨#[]⟩, 0⟩ ∧ (ts.drop u).tail = ts.drop (u + 1) := by
  rw [List.drop_eq_nil_of_le (by omega), List.drop_eq_nil_of_le (by omega)]
  exact ⟨rfl, rfl⟩
theorem good_next (ts : List VD) (u : Nat) (h : ∀ v ∈ ts, GoodV v) : GoodV (nextV (ts.drop u)) := by
  by_cases c : u < ts.length
  · rw [(next_at ts u c).1, List.getD_eq_getElem?_getD, List.getElem?_eq_getElem c]
    exact h _ (List.getElem_mem c)
  · rw [(next_end ts u c).1]
    exact ⟨by show 0 ≤ _; omega, by decide, by decide⟩
theorem app_l (x : ByteArray) (l : List UInt8) : (x ++ (⟨l.toArray⟩ : ByteArray)).data.toList = x.data.toList ++ l := by
  rw [app_list]
/-- What Sprintf answers, as a value. -/
def spV (x : List UInt8 × Bool) : Value := .tuple #[.string ⟨x.1.toArray⟩, .bool x.2]
theorem spV_end (out : ByteArray) (vs : List VD) : spV (spB out.data.toList [] vs) = if out.size ≤ 4000 then .tuple #[.string out, .bool true] else .tuple #[.string ⟨#[]⟩, .bool false] := by
  have e : out.data.toList.length = out.size := by simp
  rw [spB_end, e]
  split
  · unfold spV; rw [mk_list]
  · rfl
/-- What the last region of a round loads. -/
structure Rs8 (w W : World) (g : Nat) (a b : Bool) (wd pc kd k : Int) (s : ByteArray) (n : Int) : Prop where
  bx : Bv8 W g a b wd pc kd k s n
  be : Below w.heap.size w W
theorem Rs8.drew {w W : World} {g : Nat} {a b : Bool} {wd pc kd k : Int} {s : ByteArray} {n : Int} (h : Rs8 w W g a b wd pc kd k s n) : Rs8 w W.drew g a b wd pc kd k s n :=
  ⟨h.bx.step (Below.refl _ _).drew, h.be.drew⟩
theorem Rs8.step {w W W' : World} {g : Nat} {a b : Bool} {wd pc kd k : Int} {s : ByteArray} {n : Int} (h : Rs8 w W g a b wd pc kd k s n) (hb : Below W.heap.size W W') : Rs8 w W' g a b wd pc kd k s n :=
  ⟨h.bx.step hb, bst h.be hb⟩
theorem Rs8.open_ {w W : World} {g : Nat} {a b : Bool} {wd pc kd k : Int} {s : ByteArray} {n : Int} (h : Rs8 w W g a b wd pc kd k s n) :
    ((W.cell? ⟨g, 0, none⟩ = some (.bool a) ∧ W.cell? ⟨g, 1, none⟩ = some (.bool b) ∧ W.cell? ⟨g, 2, none⟩ = some (.int .i64 wd) ∧ W.cell? ⟨g, 3, none⟩ = some (.int .i64 pc) ∧ W.cell? ⟨g, 4, none⟩ = some (.int .u8 kd)) ∧ (W.cell? ⟨g + 1, 0, none⟩ = some (.int .i64 k) ∧ W.cell? ⟨g + 1, 1, none⟩ = some (.string s) ∧ W.cell? ⟨g + 1, 2, none⟩ = some (.int .i64 n))) ∧ g + 1 < W.heap.size ∧ Below w.heap.size w W :=
  ⟨⟨⟨h.bx.c0, h.bx.c1, h.bx.c2, h.bx.c3, h.bx.c4⟩, h.bx.d0, h.bx.d1, h.bx.d2⟩, h.bx.lt, h.be⟩
theorem Rs8.shut {w W : World} {g : Nat} {a b : Bool} {wd pc kd k : Int} {s : ByteArray} {n : Int}
    (h : ((W.cell? ⟨g, 0, none⟩ = some (.bool a) ∧ W.cell? ⟨g, 1, none⟩ = some (.bool b) ∧ W.cell? ⟨g, 2, none⟩ = some (.int .i64 wd) ∧ W.cell? ⟨g, 3, none⟩ = some (.int .i64 pc) ∧ W.cell? ⟨g, 4, none⟩ = some (.int .u8 kd)) ∧ (W.cell? ⟨g + 1, 0, none⟩ = some (.int .i64 k) ∧ W.cell? ⟨g + 1, 1, none⟩ = some (.string s) ∧ W.cell? ⟨g + 1, 2, none⟩ = some (.int .i64 n))) ∧ g + 1 < W.heap.size ∧ Below w.heap.size w W) : Rs8 w W g a b wd pc kd k s n := by
  obtain ⟨⟨⟨h0, h1, h2, h3, h4⟩, h5, h6, h7⟩, h8, h9⟩ := h
  exact ⟨⟨h0, h1, h2, h3, h4, h5, h6, h7, h8⟩, h9⟩
theorem bszS (l : List UInt8) : (ByteArray.mk l.toArray).size = l.length := by simp [ByteArray.size]
set_option maxRecDepth 100000 in
set_option maxHeartbeats 8000000 in
theorem specSf_any (s : ByteArray) (ts : List VD) (a : Option Addr) (cap : Nat) (B : Nat) (w : World) (hs : s.size ≤ 1048576) (hn : ts.length ≤ 1048576) (ha : VdF B w a ts.length (fun j => ts.getD j default)) (hv : ∀ v ∈ ts, GoodV v) :
    Calls Tryz.prog 9 #[.string s, .slice a ts.length cap] w fun e w' => e = .returned (spV (spA s.data.toList ts)) ∧ Below w.heap.size w w' := by
  have HS := Lib.hid hs
  have HA := Lib.hid ha
  have HV := Lib.hid hv
  clear ha hv
  go_enter Tryz.func9, Tryz.ntmps9
  go_wp2_with fail
  go_loopg [6, 7, 8] s.size (fun gg so su si wr => ∃ (k u : Nat) (out : ByteArray), k + gg = s.size ∧ si = .int .i64 (k : Int) ∧ su = .int .i64 (u : Int) ∧ so = .string out ∧ k ≤ s.size ∧ u ≤ k ∧ out.size ≤ k * 2097152 ∧ spV (spA s.data.toList ts) = spV (spB out.data.toList (s.data.toList.drop k) (ts.drop u)) ∧ Below w.heap.size w wr)
  case atStart => exact ⟨0, 0, ⟨#[]⟩, by omega, rfl, rfl, rfl, by omega, by omega, by show 0 ≤ _; omega, by rw [spB_start]; rfl, Below.refl _ _⟩
  case round =>
    obtain ⟨k, u, out, hkg, rfl, rfl, rfl, hk, huk, hout, hp, hb⟩ := hrel
    have HP := Lib.hid hp
    have HB := Lib.hid hb
    clear hp hb
    by_cases hlt : k < s.size
    · have hb8 : s[k].toNat < 256 := s[k].toNat_lt
      have k0 : (0 : Int) ≤ (k : Int) := by omega
      have k1 : (k : Int) < (s.size : Int) := by omega
      obtain ⟨kp, hkp⟩ : ∃ kp : Nat, kp = k + 1 := ⟨_, rfl⟩
      have hkpi : (k : Int) + 1 = (kp : Int) := by omega
      by_cases h37 : s[k] = 37
      · have x37 : ((s[k].toNat : Int) != 37) = false := by rw [h37]; rfl
        by_cases hk1 : kp < s.size
        · have hb9 : s[kp].toNat < 256 := s[kp].toNat_lt
          by_cases h38 : s[kp] = 37
          · have x38 : ((s[kp].toNat : Int) == 37) = true := by rw [h38]; rfl
            have HN := Lib.hid (show spV (spA s.data.toList ts) = spV (spB (out.data.toList ++ [37]) (s.data.toList.drop (k + 2)) (ts.drop u)) by
              rw [HP.out, drop_atL s k hlt, ← hkp, drop_atL s kp hk1, h37, h38, spB_both, hkp])
            have hk2 : k + 2 ≤ s.size := by omega
            have HOUT := Lib.hid (app_l out [37])
            have hsum : ¬ 9223372036854775807 < out.size + 1 := by omega
            clear h37 h38 hkp
            go_wp2_with fail
            go_roundg (s.size - (k + 2))
            case measure => omega
            case rel => exact ⟨k + 2, u, out ++ ⟨#[37]⟩, by omega, by go_num, rfl, rfl, hk2, by omega, by rw [ByteArray.size_append]; show _ + 1 ≤ _; omega, by rw [HN.out, ← HOUT.out], HB.out⟩
          · have x38 : ((s[kp].toNat : Int) == 37) = false := ne_int _ 37 (by omega) h38
            have HL := Lib.hid (show spV (spA s.data.toList ts) = spV (spB out.data.toList (37 :: s.data.toList.drop kp) (ts.drop u)) by rw [HP.out, drop_atL s k hlt, h37, hkp])
            have HH := Lib.hid (show (s.data.toList.drop kp).head? ≠ some 37 by rw [drop_atL s kp hk1]; simpa using h38)
            have C := Lib.hid (fun W => read_any s kp W HS.out (by omega))
            have HKP := Lib.hid hkp
            clear h37 h38 hkp
            go_wp2_with fail
            refine (C.out _).mono ?_
            rintro en w1 ⟨hb1, ⟨hno, a0, b0, n0, p0, kd0, rfl⟩ | ⟨p, r, hsome, rfl⟩⟩
            · have HN := Lib.hid (show spV (spA s.data.toList ts) = .tuple #[.string ⟨#[]⟩, .bool false] by rw [HL.out, spB_none _ HH.out hno]; rfl)
              have HB1 := Lib.hid (HB.out.trans (hb1.mono HB.out.size))
              clear hb1 hno
              go_wp2_with fail
              go_ret2
              exact ⟨by rw [HN.out]; rfl, by first | exact HB1.out | exact HB1.out.alloc HB1.out.size _⟩
            · obtain ⟨hr1, hr2⟩ := rdP_drop s kp p r hsome
              have hkk := rdP_kind hsome
              obtain ⟨nx, hnx⟩ : ∃ nx : Nat, nx = s.size - r.length := ⟨_, rfl⟩
              rw [← hnx] at hr1 hr2
              have HN := Lib.hid (show spV (spA s.data.toList ts) = spV (spB (out.data.toList ++ toldL p (nextV (ts.drop u))) (s.data.toList.drop nx) (ts.drop u).tail) by rw [HL.out, spB_some _ HH.out hsome, hr1])
              have HB1 := Lib.hid (HB.out.trans (hb1.mono HB.out.size))
              have hk3 : k < nx := by have := HKP.out; omega
              have hnx2 : nx ≤ s.size := by omega
              rw [← hnx]
              have hnx0 : ¬ (nx : Int) < 0 := by omega
              have HG := Lib.hid (good_next ts u HV.out)
              unfold Plc.v
              obtain ⟨pl, pn, pw, pp, pk⟩ := p
              simp only at hkk
              obtain ⟨hkk1, hkk2⟩ := hkk
              have hpw : (pw : Int) ≤ 99 := by omega
              have HKK := Lib.hid hkk1
              clear hb1 hsome hr1 hnx hkk1 hkk2
              by_cases hu : u < ts.length
              · obtain ⟨e1, e2⟩ := next_at ts u hu
                rw [e2] at HN
                have ha := (HA.out.kept HB1.out) u hu
                obtain ⟨g0, hg0, hgB, hgl, ⟨x0, x1, x2⟩, _⟩ := ha
                dsimp only at x0 x1 x2
                rw [e1] at HN HG
                generalize hvv : ts.getD u default = v at *
                obtain ⟨vk, vs, vn⟩ := v
                clear e1 e2 hvv
                subst hg0
                simp only at x0 x1 x2
                have ui0 : (0 : Int) ≤ (u : Int) := by omega
                have ui1 : (u : Int) < (ts.length : Int) := by omega
                have hg := HG.out
                have CV := Lib.hid (fun W => sv_any pl pn (pw : Int) pp pk vk vs vn W HKK.out hg.1 hg.2.1 hg.2.2)
                have hbl := bodyL_le pk pp ⟨vk, vs, vn⟩ hg.1 (nmB_bd vk vs vn hg.2.1 hg.2.2 (rnNum_bd vs))
                have HTL := Lib.hid (show toldL ⟨pl, pn, pw, pp, pk⟩ ⟨vk, vs, vn⟩ = fillL (bodyL pk pp ⟨vk, vs, vn⟩) pw pl (pn && !(pk == 115 || pk == 99)) from rfl)
                generalize bodyL pk pp ⟨vk, vs, vn⟩ = bl at *
                have HS0 := Lib.hid (show Rs8 w ((w1.alloc (.cells #[.bool pl, .bool pn, .int .i64 (pw : Int), .int .i64 pp, .int .u8 (pk.toNat : Int)] 76)).alloc (.cells #[.int .i64 vk, .string vs, .int .i64 vn] 66)) w1.heap.size pl pn (pw : Int) pp (pk.toNat : Int) vk vs vn from ⟨Bv8.start w1 _ _ pl pn (pw : Int) pp (pk.toNat : Int) vk vs vn, (HB1.out.alloc HB1.out.size _).alloc (by have := HB1.out.size; simp; omega) _⟩)
                have CF := Lib.hid (fun (q : Bool) W => specFill_any ⟨bl.toArray⟩ (pw : Int) pl q W (by rw [bszS]; exact hbl) (by omega) (by omega))
                simp only at CF
                have hfl : ∀ q, (fillL bl (pw : Int) pl q).length ≤ 1048676 := fun q => by have := fillL_le bl (pw : Int) pl q; omega
                clear hg hbl HG
                cases pn
                · have HT2 := Lib.hid (show toldL ⟨pl, false, pw, pp, pk⟩ ⟨vk, vs, vn⟩ = fillL bl pw pl false from HTL.out)
                  have CF1 := Lib.hid (CF.out false)
                  have hfq := hfl false
                  generalize fillL bl (pw : Int) pl false = fl at *
                  have hsz : (ByteArray.mk fl.toArray).size ≤ 1048676 := by rw [bszS]; exact hfq
                  have HOUT := Lib.hid (app_l out fl)
                  generalize (ByteArray.mk fl.toArray) = ft at *
                  generalize (ByteArray.mk bl.toArray) = bt at *
                  have hsum : ¬ 9223372036854775807 < out.size + ft.size := by omega
                  clear CF hfl HTL hfq
                  go_wp2_with fail
                  refine wp_region_held_drew (S := (fun w' => ((w'.cell? ⟨w1.heap.size, 0, none⟩ = some (.bool pl) ∧ w'.cell? ⟨w1.heap.size, 1, none⟩ = some (.bool false) ∧ w'.cell? ⟨w1.heap.size, 2, none⟩ = some (.int .i64 (pw : Int)) ∧ w'.cell? ⟨w1.heap.size, 3, none⟩ = some (.int .i64 pp) ∧ w'.cell? ⟨w1.heap.size, 4, none⟩ = some (.int .u8 (pk.toNat : Int))) ∧ (w'.cell? ⟨w1.heap.size + 1, 0, none⟩ = some (.int .i64 vk) ∧ w'.cell? ⟨w1.heap.size + 1, 1, none⟩ = some (.string vs) ∧ w'.cell? ⟨w1.heap.size + 1, 2, none⟩ = some (.int .i64 vn))) ∧ w1.heap.size + 1 < w'.heap.size ∧ Below w.heap.size w w')) (by kernel_rfl) HS0.out.drew.open_ (fun hHeld => ?_)
                  refine wpAnyH_take (i := 0) (v := ?_) rfl (by kernel_rfl) (by kernel_rfl) (by kernel_rfl) (fun _ _ _ h => h) (Or.inl ⟨by kernel_rfl, ?_⟩) (by assumption) ?_
                  rotate_left 1
                  · intro w hSw
                    try dsimp only at hSw
                    go_simp
                    try with_reducible rfl
                  try simp only [List.getElem_toArray, List.getElem_cons_zero, Act.put, List.setIfInBounds_toArray, List.set_cons_zero, List.set_cons_succ]
                  refine wpAnyH_take (i := 1) (v := ?_) rfl (by kernel_rfl) (by kernel_rfl) (by kernel_rfl) (fun _ _ _ h => h) (Or.inl ⟨by kernel_rfl, ?_⟩) (by assumption) ?_
                  rotate_left 1
                  · intro w hSw
                    try dsimp only at hSw
                    go_simp
                    try with_reducible rfl
                  try simp only [List.getElem_toArray, List.getElem_cons_zero, List.getElem_cons_succ, Act.put, List.setIfInBounds_toArray, List.set_cons_zero, List.set_cons_succ]
                  refine wpAnyH_take (i := 2) (v := ?_) rfl (by kernel_rfl) (by kernel_rfl) (by kernel_rfl) (fun _ _ _ h => h) (Or.inl ⟨by kernel_rfl, ?_⟩) (by assumption) ?_
                  rotate_left 1
                  · intro w hSw
                    try dsimp only at hSw
                    go_simp
                    try with_reducible rfl
                  try simp only [List.getElem_toArray, List.getElem_cons_zero, List.getElem_cons_succ, Act.put, List.setIfInBounds_toArray, List.set_cons_zero, List.set_cons_succ]
                  refine wpAnyH_take (i := 4) (v := ?_) rfl (by kernel_rfl) (by kernel_rfl) (by kernel_rfl) (fun _ _ _ h => h) (Or.inl ⟨by kernel_rfl, ?_⟩) (by assumption) ?_
                  rotate_left 1
                  · intro w hSw
                    try dsimp only at hSw
                    go_simp
                    try with_reducible rfl
                  try simp only [List.getElem_toArray, List.getElem_cons_zero, List.getElem_cons_succ, Act.put, List.setIfInBounds_toArray, List.set_cons_zero, List.set_cons_succ]
                  refine wpAnyH_take (i := 5) (v := ?_) rfl (by kernel_rfl) (by kernel_rfl) (by kernel_rfl) (fun _ _ _ h => h) (Or.inl ⟨by kernel_rfl, ?_⟩) (by assumption) ?_
                  rotate_left 1
                  · intro w hSw
                    try dsimp only at hSw
                    go_simp
                    try with_reducible rfl
                  try simp only [List.getElem_toArray, List.getElem_cons_zero, List.getElem_cons_succ, Act.put, List.setIfInBounds_toArray, List.set_cons_zero, List.set_cons_succ]
                  refine wpAnyH_take (i := 6) (v := ?_) rfl (by kernel_rfl) (by kernel_rfl) (by kernel_rfl) (fun _ _ _ h => h) (Or.inl ⟨by kernel_rfl, ?_⟩) (by assumption) ?_
                  rotate_left 1
                  · intro w hSw
                    try dsimp only at hSw
                    go_simp
                    try with_reducible rfl
                  try simp only [List.getElem_toArray, List.getElem_cons_zero, List.getElem_cons_succ, Act.put, List.setIfInBounds_toArray, List.set_cons_zero, List.set_cons_succ]
                  refine wpAnyH_take (i := 7) (v := ?_) rfl (by kernel_rfl) (by kernel_rfl) (by kernel_rfl) (fun _ _ _ h => h) (Or.inl ⟨by kernel_rfl, ?_⟩) (by assumption) ?_
                  rotate_left 1
                  · intro w hSw
                    try dsimp only at hSw
                    go_simp
                    try with_reducible rfl
                  try simp only [List.getElem_toArray, List.getElem_cons_zero, List.getElem_cons_succ, Act.put, List.setIfInBounds_toArray, List.set_cons_zero, List.set_cons_succ]
                  refine wpAnyH_take (i := 8) (v := ?_) rfl (by kernel_rfl) (by kernel_rfl) (by kernel_rfl) (fun _ _ _ h => h) (Or.inl ⟨by kernel_rfl, ?_⟩) (by assumption) ?_
                  rotate_left 1
                  · intro w hSw
                    try dsimp only at hSw
                    go_simp
                    try with_reducible rfl
                  try simp only [List.getElem_toArray, List.getElem_cons_zero, List.getElem_cons_succ, Act.put, List.setIfInBounds_toArray, List.set_cons_zero, List.set_cons_succ]
                  refine wpAnyH_take (i := 9) (v := ?_) rfl (by kernel_rfl) (by kernel_rfl) (by kernel_rfl) (fun _ _ _ h => h) (Or.inl ⟨by kernel_rfl, ?_⟩) (by assumption) ?_
                  rotate_left 1
                  · intro w hSw
                    try dsimp only at hSw
                    go_simp
                    try with_reducible rfl
                  try simp only [List.getElem_toArray, List.getElem_cons_zero, List.getElem_cons_succ, Act.put, List.setIfInBounds_toArray, List.set_cons_zero, List.set_cons_succ]
                  refine wpAnyH_ready (rs := [3]) (by kernel_rfl) (by simp) ?_
                  refine AllReadyH.cons rfl (fun K hK => ?_) AllReadyH.nil
                  go_simp
                  refine (CV.out _).mono ?_; rintro e w2 ⟨rfl, hb2⟩
                  go_wp2_with fail
                  refine hK.out _ _ ((Rs8.step (Rs8.shut (by assumption)) (by assumption)).open_) (fun hHeld => ?_)
                  clear hK K
                  try simp only [List.getElem_toArray, List.getElem_cons_zero, List.getElem_cons_succ, Act.put, List.setIfInBounds_toArray, List.set_cons_zero, List.set_cons_succ]
                  refine wpAnyH_take (i := 10) (v := ?_) rfl (by kernel_rfl) (by kernel_rfl) (by kernel_rfl) (fun _ _ _ h => h) (Or.inl ⟨by kernel_rfl, ?_⟩) (by assumption) ?_
                  rotate_left 1
                  · intro w hSw
                    try dsimp only at hSw
                    go_simp
                    try with_reducible rfl
                  try simp only [List.getElem_toArray, List.getElem_cons_zero, List.getElem_cons_succ, Act.put, List.setIfInBounds_toArray, List.set_cons_zero, List.set_cons_succ]
                  refine wpAnyH_take (i := 11) (v := undef) rfl (by kernel_rfl) (by kernel_rfl) (by kernel_rfl) (fun _ _ _ h => h) (Or.inr ⟨by kernel_rfl, rfl⟩) (by assumption) ?_
                  try simp only [List.getElem_toArray, List.getElem_cons_zero, List.getElem_cons_succ, Act.put, List.setIfInBounds_toArray, List.set_cons_zero, List.set_cons_succ]
                  refine wpAnyH_take (i := 12) (v := undef) rfl (by kernel_rfl) (by kernel_rfl) (by kernel_rfl) (fun _ _ _ h => h) (Or.inr ⟨by kernel_rfl, rfl⟩) (by assumption) ?_
                  try simp only [List.getElem_toArray, List.getElem_cons_zero, List.getElem_cons_succ, Act.put, List.setIfInBounds_toArray, List.set_cons_zero, List.set_cons_succ]
                  refine wpAnyH_take (i := 13) (v := undef) rfl (by kernel_rfl) (by kernel_rfl) (by kernel_rfl) (fun _ _ _ h => h) (Or.inr ⟨by kernel_rfl, rfl⟩) (by assumption) ?_
                  try simp only [List.getElem_toArray, List.getElem_cons_zero, List.getElem_cons_succ, Act.put, List.setIfInBounds_toArray, List.set_cons_zero, List.set_cons_succ]
                  refine wpAnyH_take (i := 14) (v := ?_) rfl (by kernel_rfl) (by kernel_rfl) (by kernel_rfl) (fun _ _ _ h => h) (Or.inl ⟨by kernel_rfl, ?_⟩) (by assumption) ?_
                  rotate_left 1
                  · intro w hSw
                    try dsimp only at hSw
                    go_simp
                    try with_reducible rfl
                  try simp only [List.getElem_toArray, List.getElem_cons_zero, List.getElem_cons_succ, Act.put, List.setIfInBounds_toArray, List.set_cons_zero, List.set_cons_succ]
                  refine wpAnyH_take (i := 15) (v := ?_) rfl (by kernel_rfl) (by kernel_rfl) (by kernel_rfl) (fun _ _ _ h => h) (Or.inl ⟨by kernel_rfl, ?_⟩) (by assumption) ?_
                  rotate_left 1
                  · intro w hSw
                    try dsimp only at hSw
                    go_simp
                    try with_reducible rfl
                  try simp only [List.getElem_toArray, List.getElem_cons_zero, List.getElem_cons_succ, Act.put, List.setIfInBounds_toArray, List.set_cons_zero, List.set_cons_succ]
                  refine wpAnyH_take (i := 16) (v := undef) rfl (by kernel_rfl) (by kernel_rfl) (by kernel_rfl) (fun _ _ _ h => h) (Or.inr ⟨by kernel_rfl, rfl⟩) (by assumption) ?_
                  try simp only [List.getElem_toArray, List.getElem_cons_zero, List.getElem_cons_succ, Act.put, List.setIfInBounds_toArray, List.set_cons_zero, List.set_cons_succ]
                  refine wpAnyH_take (i := 17) (v := undef) rfl (by kernel_rfl) (by kernel_rfl) (by kernel_rfl) (fun _ _ _ h => h) (Or.inr ⟨by kernel_rfl, rfl⟩) (by assumption) ?_
                  try simp only [List.getElem_toArray, List.getElem_cons_zero, List.getElem_cons_succ, Act.put, List.setIfInBounds_toArray, List.set_cons_zero, List.set_cons_succ]
                  refine wpAnyH_take (i := 18) (v := undef) rfl (by kernel_rfl) (by kernel_rfl) (by kernel_rfl) (fun _ _ _ h => h) (Or.inr ⟨by kernel_rfl, rfl⟩) (by assumption) ?_
                  try simp only [List.getElem_toArray, List.getElem_cons_zero, List.getElem_cons_succ, Act.put, List.setIfInBounds_toArray, List.set_cons_zero, List.set_cons_succ]
                  refine wpAnyH_take (i := 19) (v := ?_) rfl (by kernel_rfl) (by kernel_rfl) (by kernel_rfl) (fun _ _ _ h => h) (Or.inl ⟨by kernel_rfl, ?_⟩) (by assumption) ?_
                  rotate_left 1
                  · intro w hSw
                    try dsimp only at hSw
                    go_simp
                    try with_reducible rfl
                  try simp only [List.getElem_toArray, List.getElem_cons_zero, List.getElem_cons_succ, Act.put, List.setIfInBounds_toArray, List.set_cons_zero, List.set_cons_succ]
                  refine wpAnyH_ready (rs := [20]) (by kernel_rfl) (by simp) ?_
                  refine AllReadyH.cons rfl (fun K hK => ?_) AllReadyH.nil
                  go_simp
                  refine (CF1.out _).mono ?_; rintro e w2 ⟨rfl, hb2⟩
                  go_wp2_with fail
                  refine hK.out _ _ ((Rs8.step (Rs8.shut (by assumption)) (by assumption)).open_) (fun hHeld => ?_)
                  clear hK K
                  try simp only [List.getElem_toArray, List.getElem_cons_zero, List.getElem_cons_succ, Act.put, List.setIfInBounds_toArray, List.set_cons_zero, List.set_cons_succ]
                  refine wpAnyH_take (i := 21) (v := ?_) rfl (by kernel_rfl) (by kernel_rfl) (by kernel_rfl) (fun _ _ _ h => h) (Or.inl ⟨by kernel_rfl, ?_⟩) (by assumption) ?_
                  rotate_left 1
                  · intro w hSw
                    try dsimp only at hSw
                    go_simp
                    try with_reducible rfl
                  try simp only [List.getElem_toArray, List.getElem_cons_zero, List.getElem_cons_succ, Act.put, List.setIfInBounds_toArray, List.set_cons_zero, List.set_cons_succ]
                  refine wpAnyH_take (i := 22) (v := ?_) rfl (by kernel_rfl) (by kernel_rfl) (by kernel_rfl) (fun _ _ _ h => h) (Or.inl ⟨by kernel_rfl, ?_⟩) (by assumption) ?_
                  rotate_left 1
                  · intro w hSw
                    try dsimp only at hSw
                    go_simp
                    try with_reducible rfl
                  try simp only [List.getElem_toArray, List.getElem_cons_zero, List.getElem_cons_succ, Act.put, List.setIfInBounds_toArray, List.set_cons_zero, List.set_cons_succ]
                  refine wpAnyH_done (by kernel_rfl) ?_ _

                  all_goals
                    go_wp2_with fail
                    go_roundg (s.size - nx)
                    case measure => omega
                    case rel => exact ⟨nx, u + 1, out ++ ft, by omega, by go_num, by go_num, rfl, hnx2, by omega, by rw [ByteArray.size_append]; omega, by rw [HN.out, HT2.out, HOUT.out], (Rs8.shut (by assumption)).be⟩
                · by_cases h115 : pk = 115
                  · have x115 : ((pk.toNat : Int) != 115) = false := by rw [h115]; rfl
                    have HT2 := Lib.hid (show toldL ⟨pl, true, pw, pp, pk⟩ ⟨vk, vs, vn⟩ = fillL bl pw pl false by rw [HTL.out, h115]; rfl)
                    clear h115
                    have CF1 := Lib.hid (CF.out false)
                    have hfq := hfl false
                    generalize fillL bl (pw : Int) pl false = fl at *
                    have hsz : (ByteArray.mk fl.toArray).size ≤ 1048676 := by rw [bszS]; exact hfq
                    have HOUT := Lib.hid (app_l out fl)
                    generalize (ByteArray.mk fl.toArray) = ft at *
                    generalize (ByteArray.mk bl.toArray) = bt at *
                    have hsum : ¬ 9223372036854775807 < out.size + ft.size := by omega
                    clear CF hfl HTL hfq
                    go_wp2_with fail
                    refine wp_region_held_drew (S := (fun w' => ((w'.cell? ⟨w1.heap.size, 0, none⟩ = some (.bool pl) ∧ w'.cell? ⟨w1.heap.size, 1, none⟩ = some (.bool true) ∧ w'.cell? ⟨w1.heap.size, 2, none⟩ = some (.int .i64 (pw : Int)) ∧ w'.cell? ⟨w1.heap.size, 3, none⟩ = some (.int .i64 pp) ∧ w'.cell? ⟨w1.heap.size, 4, none⟩ = some (.int .u8 (pk.toNat : Int))) ∧ (w'.cell? ⟨w1.heap.size + 1, 0, none⟩ = some (.int .i64 vk) ∧ w'.cell? ⟨w1.heap.size + 1, 1, none⟩ = some (.string vs) ∧ w'.cell? ⟨w1.heap.size + 1, 2, none⟩ = some (.int .i64 vn))) ∧ w1.heap.size + 1 < w'.heap.size ∧ Below w.heap.size w w')) (by kernel_rfl) HS0.out.drew.open_ (fun hHeld => ?_)
                    refine wpAnyH_take (i := 0) (v := ?_) rfl (by kernel_rfl) (by kernel_rfl) (by kernel_rfl) (fun _ _ _ h => h) (Or.inl ⟨by kernel_rfl, ?_⟩) (by assumption) ?_
                    rotate_left 1
                    · intro w hSw
                      try dsimp only at hSw
                      go_simp
                      try with_reducible rfl
                    try simp only [List.getElem_toArray, List.getElem_cons_zero, Act.put, List.setIfInBounds_toArray, List.set_cons_zero, List.set_cons_succ]
                    refine wpAnyH_take (i := 1) (v := ?_) rfl (by kernel_rfl) (by kernel_rfl) (by kernel_rfl) (fun _ _ _ h => h) (Or.inl ⟨by kernel_rfl, ?_⟩) (by assumption) ?_
                    rotate_left 1
                    · intro w hSw
                      try dsimp only at hSw
                      go_simp
                      try with_reducible rfl
                    try simp only [List.getElem_toArray, List.getElem_cons_zero, List.getElem_cons_succ, Act.put, List.setIfInBounds_toArray, List.set_cons_zero, List.set_cons_succ]
                    refine wpAnyH_take (i := 2) (v := ?_) rfl (by kernel_rfl) (by kernel_rfl) (by kernel_rfl) (fun _ _ _ h => h) (Or.inl ⟨by kernel_rfl, ?_⟩) (by assumption) ?_
                    rotate_left 1
                    · intro w hSw
                      try dsimp only at hSw
                      go_simp
                      try with_reducible rfl
                    try simp only [List.getElem_toArray, List.getElem_cons_zero, List.getElem_cons_succ, Act.put, List.setIfInBounds_toArray, List.set_cons_zero, List.set_cons_succ]
                    refine wpAnyH_take (i := 4) (v := ?_) rfl (by kernel_rfl) (by kernel_rfl) (by kernel_rfl) (fun _ _ _ h => h) (Or.inl ⟨by kernel_rfl, ?_⟩) (by assumption) ?_
                    rotate_left 1
                    · intro w hSw
                      try dsimp only at hSw
                      go_simp
                      try with_reducible rfl
                    try simp only [List.getElem_toArray, List.getElem_cons_zero, List.getElem_cons_succ, Act.put, List.setIfInBounds_toArray, List.set_cons_zero, List.set_cons_succ]
                    refine wpAnyH_take (i := 5) (v := ?_) rfl (by kernel_rfl) (by kernel_rfl) (by kernel_rfl) (fun _ _ _ h => h) (Or.inl ⟨by kernel_rfl, ?_⟩) (by assumption) ?_
                    rotate_left 1
                    · intro w hSw
                      try dsimp only at hSw
                      go_simp
                      try with_reducible rfl
                    try simp only [List.getElem_toArray, List.getElem_cons_zero, List.getElem_cons_succ, Act.put, List.setIfInBounds_toArray, List.set_cons_zero, List.set_cons_succ]
                    refine wpAnyH_take (i := 6) (v := ?_) rfl (by kernel_rfl) (by kernel_rfl) (by kernel_rfl) (fun _ _ _ h => h) (Or.inl ⟨by kernel_rfl, ?_⟩) (by assumption) ?_
                    rotate_left 1
                    · intro w hSw
                      try dsimp only at hSw
                      go_simp
                      try with_reducible rfl
                    try simp only [List.getElem_toArray, List.getElem_cons_zero, List.getElem_cons_succ, Act.put, List.setIfInBounds_toArray, List.set_cons_zero, List.set_cons_succ]
                    refine wpAnyH_take (i := 7) (v := ?_) rfl (by kernel_rfl) (by kernel_rfl) (by kernel_rfl) (fun _ _ _ h => h) (Or.inl ⟨by kernel_rfl, ?_⟩) (by assumption) ?_
                    rotate_left 1
                    · intro w hSw
                      try dsimp only at hSw
                      go_simp
                      try with_reducible rfl
                    try simp only [List.getElem_toArray, List.getElem_cons_zero, List.getElem_cons_succ, Act.put, List.setIfInBounds_toArray, List.set_cons_zero, List.set_cons_succ]
                    refine wpAnyH_take (i := 8) (v := ?_) rfl (by kernel_rfl) (by kernel_rfl) (by kernel_rfl) (fun _ _ _ h => h) (Or.inl ⟨by kernel_rfl, ?_⟩) (by assumption) ?_
                    rotate_left 1
                    · intro w hSw
                      try dsimp only at hSw
                      go_simp
                      try with_reducible rfl
                    try simp only [List.getElem_toArray, List.getElem_cons_zero, List.getElem_cons_succ, Act.put, List.setIfInBounds_toArray, List.set_cons_zero, List.set_cons_succ]
                    refine wpAnyH_take (i := 9) (v := ?_) rfl (by kernel_rfl) (by kernel_rfl) (by kernel_rfl) (fun _ _ _ h => h) (Or.inl ⟨by kernel_rfl, ?_⟩) (by assumption) ?_
                    rotate_left 1
                    · intro w hSw
                      try dsimp only at hSw
                      go_simp
                      try with_reducible rfl
                    try simp only [List.getElem_toArray, List.getElem_cons_zero, List.getElem_cons_succ, Act.put, List.setIfInBounds_toArray, List.set_cons_zero, List.set_cons_succ]
                    refine wpAnyH_ready (rs := [3]) (by kernel_rfl) (by simp) ?_
                    refine AllReadyH.cons rfl (fun K hK => ?_) AllReadyH.nil
                    go_simp
                    refine (CV.out _).mono ?_; rintro e w2 ⟨rfl, hb2⟩
                    go_wp2_with fail
                    refine hK.out _ _ ((Rs8.step (Rs8.shut (by assumption)) (by assumption)).open_) (fun hHeld => ?_)
                    clear hK K
                    try simp only [List.getElem_toArray, List.getElem_cons_zero, List.getElem_cons_succ, Act.put, List.setIfInBounds_toArray, List.set_cons_zero, List.set_cons_succ]
                    refine wpAnyH_take (i := 10) (v := ?_) rfl (by kernel_rfl) (by kernel_rfl) (by kernel_rfl) (fun _ _ _ h => h) (Or.inl ⟨by kernel_rfl, ?_⟩) (by assumption) ?_
                    rotate_left 1
                    · intro w hSw
                      try dsimp only at hSw
                      go_simp
                      try with_reducible rfl
                    try simp only [List.getElem_toArray, List.getElem_cons_zero, List.getElem_cons_succ, Act.put, List.setIfInBounds_toArray, List.set_cons_zero, List.set_cons_succ]
                    refine wpAnyH_take (i := 11) (v := ?_) rfl (by kernel_rfl) (by kernel_rfl) (by kernel_rfl) (fun _ _ _ h => h) (Or.inl ⟨by kernel_rfl, ?_⟩) (by assumption) ?_
                    rotate_left 1
                    · intro w hSw
                      try dsimp only at hSw
                      go_simp
                      try with_reducible rfl
                    try simp only [List.getElem_toArray, List.getElem_cons_zero, List.getElem_cons_succ, Act.put, List.setIfInBounds_toArray, List.set_cons_zero, List.set_cons_succ]
                    refine wpAnyH_take (i := 12) (v := ?_) rfl (by kernel_rfl) (by kernel_rfl) (by kernel_rfl) (fun _ _ _ h => h) (Or.inl ⟨by kernel_rfl, ?_⟩) (by assumption) ?_
                    rotate_left 1
                    · intro w hSw
                      try dsimp only at hSw
                      go_simp
                      try with_reducible rfl
                    try simp only [List.getElem_toArray, List.getElem_cons_zero, List.getElem_cons_succ, Act.put, List.setIfInBounds_toArray, List.set_cons_zero, List.set_cons_succ]
                    refine wpAnyH_take (i := 13) (v := ?_) rfl (by kernel_rfl) (by kernel_rfl) (by kernel_rfl) (fun _ _ _ h => h) (Or.inl ⟨by kernel_rfl, ?_⟩) (by assumption) ?_
                    rotate_left 1
                    · intro w hSw
                      try dsimp only at hSw
                      go_simp
                      try with_reducible rfl
                    try simp only [List.getElem_toArray, List.getElem_cons_zero, List.getElem_cons_succ, Act.put, List.setIfInBounds_toArray, List.set_cons_zero, List.set_cons_succ]
                    refine wpAnyH_take (i := 14) (v := ?_) rfl (by kernel_rfl) (by kernel_rfl) (by kernel_rfl) (fun _ _ _ h => h) (Or.inl ⟨by kernel_rfl, ?_⟩) (by assumption) ?_
                    rotate_left 1
                    · intro w hSw
                      try dsimp only at hSw
                      go_simp
                      try with_reducible rfl
                    try simp only [List.getElem_toArray, List.getElem_cons_zero, List.getElem_cons_succ, Act.put, List.setIfInBounds_toArray, List.set_cons_zero, List.set_cons_succ]
                    refine wpAnyH_take (i := 15) (v := ?_) rfl (by kernel_rfl) (by kernel_rfl) (by kernel_rfl) (fun _ _ _ h => h) (Or.inl ⟨by kernel_rfl, ?_⟩) (by assumption) ?_
                    rotate_left 1
                    · intro w hSw
                      try dsimp only at hSw
                      go_simp
                      try with_reducible rfl
                    try simp only [List.getElem_toArray, List.getElem_cons_zero, List.getElem_cons_succ, Act.put, List.setIfInBounds_toArray, List.set_cons_zero, List.set_cons_succ]
                    refine wpAnyH_take (i := 16) (v := undef) rfl (by kernel_rfl) (by kernel_rfl) (by kernel_rfl) (fun _ _ _ h => h) (Or.inr ⟨by kernel_rfl, rfl⟩) (by assumption) ?_
                    try simp only [List.getElem_toArray, List.getElem_cons_zero, List.getElem_cons_succ, Act.put, List.setIfInBounds_toArray, List.set_cons_zero, List.set_cons_succ]
                    refine wpAnyH_take (i := 17) (v := undef) rfl (by kernel_rfl) (by kernel_rfl) (by kernel_rfl) (fun _ _ _ h => h) (Or.inr ⟨by kernel_rfl, rfl⟩) (by assumption) ?_
                    try simp only [List.getElem_toArray, List.getElem_cons_zero, List.getElem_cons_succ, Act.put, List.setIfInBounds_toArray, List.set_cons_zero, List.set_cons_succ]
                    refine wpAnyH_take (i := 18) (v := undef) rfl (by kernel_rfl) (by kernel_rfl) (by kernel_rfl) (fun _ _ _ h => h) (Or.inr ⟨by kernel_rfl, rfl⟩) (by assumption) ?_
                    try simp only [List.getElem_toArray, List.getElem_cons_zero, List.getElem_cons_succ, Act.put, List.setIfInBounds_toArray, List.set_cons_zero, List.set_cons_succ]
                    refine wpAnyH_take (i := 19) (v := ?_) rfl (by kernel_rfl) (by kernel_rfl) (by kernel_rfl) (fun _ _ _ h => h) (Or.inl ⟨by kernel_rfl, ?_⟩) (by assumption) ?_
                    rotate_left 1
                    · intro w hSw
                      try dsimp only at hSw
                      go_simp
                      try with_reducible rfl
                    try simp only [List.getElem_toArray, List.getElem_cons_zero, List.getElem_cons_succ, Act.put, List.setIfInBounds_toArray, List.set_cons_zero, List.set_cons_succ]
                    refine wpAnyH_ready (rs := [20]) (by kernel_rfl) (by simp) ?_
                    refine AllReadyH.cons rfl (fun K hK => ?_) AllReadyH.nil
                    go_simp
                    refine (CF1.out _).mono ?_; rintro e w2 ⟨rfl, hb2⟩
                    go_wp2_with fail
                    refine hK.out _ _ ((Rs8.step (Rs8.shut (by assumption)) (by assumption)).open_) (fun hHeld => ?_)
                    clear hK K
                    try simp only [List.getElem_toArray, List.getElem_cons_zero, List.getElem_cons_succ, Act.put, List.setIfInBounds_toArray, List.set_cons_zero, List.set_cons_succ]
                    refine wpAnyH_take (i := 21) (v := ?_) rfl (by kernel_rfl) (by kernel_rfl) (by kernel_rfl) (fun _ _ _ h => h) (Or.inl ⟨by kernel_rfl, ?_⟩) (by assumption) ?_
                    rotate_left 1
                    · intro w hSw
                      try dsimp only at hSw
                      go_simp
                      try with_reducible rfl
                    try simp only [List.getElem_toArray, List.getElem_cons_zero, List.getElem_cons_succ, Act.put, List.setIfInBounds_toArray, List.set_cons_zero, List.set_cons_succ]
                    refine wpAnyH_take (i := 22) (v := ?_) rfl (by kernel_rfl) (by kernel_rfl) (by kernel_rfl) (fun _ _ _ h => h) (Or.inl ⟨by kernel_rfl, ?_⟩) (by assumption) ?_
                    rotate_left 1
                    · intro w hSw
                      try dsimp only at hSw
                      go_simp
                      try with_reducible rfl
                    try simp only [List.getElem_toArray, List.getElem_cons_zero, List.getElem_cons_succ, Act.put, List.setIfInBounds_toArray, List.set_cons_zero, List.set_cons_succ]
                    refine wpAnyH_done (by kernel_rfl) ?_ _

                    all_goals
                      go_wp2_with fail
                      go_roundg (s.size - nx)
                      case measure => omega
                      case rel => exact ⟨nx, u + 1, out ++ ft, by omega, by go_num, by go_num, rfl, hnx2, by omega, by rw [ByteArray.size_append]; omega, by rw [HN.out, HT2.out, HOUT.out], (Rs8.shut (by assumption)).be⟩
                  · have x115 : ((pk.toNat : Int) != 115) = true := by
                      have this : ((pk.toNat : Int) == 115) = false := ne_int pk 115 (by omega) h115
                      rw [bne, this]; rfl
                    by_cases h99 : pk = 99
                    · have x99 : ((pk.toNat : Int) != 99) = false := by rw [h99]; rfl
                      have HT2 := Lib.hid (show toldL ⟨pl, true, pw, pp, pk⟩ ⟨vk, vs, vn⟩ = fillL bl pw pl false by rw [HTL.out, h99]; rfl)
                      clear h115 h99
                      have CF1 := Lib.hid (CF.out false)
                      have hfq := hfl false
                      generalize fillL bl (pw : Int) pl false = fl at *
                      have hsz : (ByteArray.mk fl.toArray).size ≤ 1048676 := by rw [bszS]; exact hfq
                      have HOUT := Lib.hid (app_l out fl)
                      generalize (ByteArray.mk fl.toArray) = ft at *
                      generalize (ByteArray.mk bl.toArray) = bt at *
                      have hsum : ¬ 9223372036854775807 < out.size + ft.size := by omega
                      clear CF hfl HTL hfq
                      go_wp2_with fail
                      refine wp_region_held_drew (S := (fun w' => ((w'.cell? ⟨w1.heap.size, 0, none⟩ = some (.bool pl) ∧ w'.cell? ⟨w1.heap.size, 1, none⟩ = some (.bool true) ∧ w'.cell? ⟨w1.heap.size, 2, none⟩ = some (.int .i64 (pw : Int)) ∧ w'.cell? ⟨w1.heap.size, 3, none⟩ = some (.int .i64 pp) ∧ w'.cell? ⟨w1.heap.size, 4, none⟩ = some (.int .u8 (pk.toNat : Int))) ∧ (w'.cell? ⟨w1.heap.size + 1, 0, none⟩ = some (.int .i64 vk) ∧ w'.cell? ⟨w1.heap.size + 1, 1, none⟩ = some (.string vs) ∧ w'.cell? ⟨w1.heap.size + 1, 2, none⟩ = some (.int .i64 vn))) ∧ w1.heap.size + 1 < w'.heap.size ∧ Below w.heap.size w w')) (by kernel_rfl) HS0.out.drew.open_ (fun hHeld => ?_)
                      refine wpAnyH_take (i := 0) (v := ?_) rfl (by kernel_rfl) (by kernel_rfl) (by kernel_rfl) (fun _ _ _ h => h) (Or.inl ⟨by kernel_rfl, ?_⟩) (by assumption) ?_
                      rotate_left 1
                      · intro w hSw
                        try dsimp only at hSw
                        go_simp
                        try with_reducible rfl
                      try simp only [List.getElem_toArray, List.getElem_cons_zero, Act.put, List.setIfInBounds_toArray, List.set_cons_zero, List.set_cons_succ]
                      refine wpAnyH_take (i := 1) (v := ?_) rfl (by kernel_rfl) (by kernel_rfl) (by kernel_rfl) (fun _ _ _ h => h) (Or.inl ⟨by kernel_rfl, ?_⟩) (by assumption) ?_
                      rotate_left 1
                      · intro w hSw
                        try dsimp only at hSw
                        go_simp
                        try with_reducible rfl
                      try simp only [List.getElem_toArray, List.getElem_cons_zero, List.getElem_cons_succ, Act.put, List.setIfInBounds_toArray, List.set_cons_zero, List.set_cons_succ]
                      refine wpAnyH_take (i := 2) (v := ?_) rfl (by kernel_rfl) (by kernel_rfl) (by kernel_rfl) (fun _ _ _ h => h) (Or.inl ⟨by kernel_rfl, ?_⟩) (by assumption) ?_
                      rotate_left 1
                      · intro w hSw
                        try dsimp only at hSw
                        go_simp
                        try with_reducible rfl
                      try simp only [List.getElem_toArray, List.getElem_cons_zero, List.getElem_cons_succ, Act.put, List.setIfInBounds_toArray, List.set_cons_zero, List.set_cons_succ]
                      refine wpAnyH_take (i := 4) (v := ?_) rfl (by kernel_rfl) (by kernel_rfl) (by kernel_rfl) (fun _ _ _ h => h) (Or.inl ⟨by kernel_rfl, ?_⟩) (by assumption) ?_
                      rotate_left 1
                      · intro w hSw
                        try dsimp only at hSw
                        go_simp
                        try with_reducible rfl
                      try simp only [List.getElem_toArray, List.getElem_cons_zero, List.getElem_cons_succ, Act.put, List.setIfInBounds_toArray, List.set_cons_zero, List.set_cons_succ]
                      refine wpAnyH_take (i := 5) (v := ?_) rfl (by kernel_rfl) (by kernel_rfl) (by kernel_rfl) (fun _ _ _ h => h) (Or.inl ⟨by kernel_rfl, ?_⟩) (by assumption) ?_
                      rotate_left 1
                      · intro w hSw
                        try dsimp only at hSw
                        go_simp
                        try with_reducible rfl
                      try simp only [List.getElem_toArray, List.getElem_cons_zero, List.getElem_cons_succ, Act.put, List.setIfInBounds_toArray, List.set_cons_zero, List.set_cons_succ]
                      refine wpAnyH_take (i := 6) (v := ?_) rfl (by kernel_rfl) (by kernel_rfl) (by kernel_rfl) (fun _ _ _ h => h) (Or.inl ⟨by kernel_rfl, ?_⟩) (by assumption) ?_
                      rotate_left 1
                      · intro w hSw
                        try dsimp only at hSw
                        go_simp
                        try with_reducible rfl
                      try simp only [List.getElem_toArray, List.getElem_cons_zero, List.getElem_cons_succ, Act.put, List.setIfInBounds_toArray, List.set_cons_zero, List.set_cons_succ]
                      refine wpAnyH_take (i := 7) (v := ?_) rfl (by kernel_rfl) (by kernel_rfl) (by kernel_rfl) (fun _ _ _ h => h) (Or.inl ⟨by kernel_rfl, ?_⟩) (by assumption) ?_
                      rotate_left 1
                      · intro w hSw
                        try dsimp only at hSw
                        go_simp
                        try with_reducible rfl
                      try simp only [List.getElem_toArray, List.getElem_cons_zero, List.getElem_cons_succ, Act.put, List.setIfInBounds_toArray, List.set_cons_zero, List.set_cons_succ]
                      refine wpAnyH_take (i := 8) (v := ?_) rfl (by kernel_rfl) (by kernel_rfl) (by kernel_rfl) (fun _ _ _ h => h) (Or.inl ⟨by kernel_rfl, ?_⟩) (by assumption) ?_
                      rotate_left 1
                      · intro w hSw
                        try dsimp only at hSw
                        go_simp
                        try with_reducible rfl
                      try simp only [List.getElem_toArray, List.getElem_cons_zero, List.getElem_cons_succ, Act.put, List.setIfInBounds_toArray, List.set_cons_zero, List.set_cons_succ]
                      refine wpAnyH_take (i := 9) (v := ?_) rfl (by kernel_rfl) (by kernel_rfl) (by kernel_rfl) (fun _ _ _ h => h) (Or.inl ⟨by kernel_rfl, ?_⟩) (by assumption) ?_
                      rotate_left 1
                      · intro w hSw
                        try dsimp only at hSw
                        go_simp
                        try with_reducible rfl
                      try simp only [List.getElem_toArray, List.getElem_cons_zero, List.getElem_cons_succ, Act.put, List.setIfInBounds_toArray, List.set_cons_zero, List.set_cons_succ]
                      refine wpAnyH_ready (rs := [3]) (by kernel_rfl) (by simp) ?_
                      refine AllReadyH.cons rfl (fun K hK => ?_) AllReadyH.nil
                      go_simp
                      refine (CV.out _).mono ?_; rintro e w2 ⟨rfl, hb2⟩
                      go_wp2_with fail
                      refine hK.out _ _ ((Rs8.step (Rs8.shut (by assumption)) (by assumption)).open_) (fun hHeld => ?_)
                      clear hK K
                      try simp only [List.getElem_toArray, List.getElem_cons_zero, List.getElem_cons_succ, Act.put, List.setIfInBounds_toArray, List.set_cons_zero, List.set_cons_succ]
                      refine wpAnyH_take (i := 10) (v := ?_) rfl (by kernel_rfl) (by kernel_rfl) (by kernel_rfl) (fun _ _ _ h => h) (Or.inl ⟨by kernel_rfl, ?_⟩) (by assumption) ?_
                      rotate_left 1
                      · intro w hSw
                        try dsimp only at hSw
                        go_simp
                        try with_reducible rfl
                      try simp only [List.getElem_toArray, List.getElem_cons_zero, List.getElem_cons_succ, Act.put, List.setIfInBounds_toArray, List.set_cons_zero, List.set_cons_succ]
                      refine wpAnyH_take (i := 11) (v := ?_) rfl (by kernel_rfl) (by kernel_rfl) (by kernel_rfl) (fun _ _ _ h => h) (Or.inl ⟨by kernel_rfl, ?_⟩) (by assumption) ?_
                      rotate_left 1
                      · intro w hSw
                        try dsimp only at hSw
                        go_simp
                        try with_reducible rfl
                      try simp only [List.getElem_toArray, List.getElem_cons_zero, List.getElem_cons_succ, Act.put, List.setIfInBounds_toArray, List.set_cons_zero, List.set_cons_succ]
                      refine wpAnyH_take (i := 12) (v := ?_) rfl (by kernel_rfl) (by kernel_rfl) (by kernel_rfl) (fun _ _ _ h => h) (Or.inl ⟨by kernel_rfl, ?_⟩) (by assumption) ?_
                      rotate_left 1
                      · intro w hSw
                        try dsimp only at hSw
                        go_simp
                        try with_reducible rfl
                      try simp only [List.getElem_toArray, List.getElem_cons_zero, List.getElem_cons_succ, Act.put, List.setIfInBounds_toArray, List.set_cons_zero, List.set_cons_succ]
                      refine wpAnyH_take (i := 13) (v := ?_) rfl (by kernel_rfl) (by kernel_rfl) (by kernel_rfl) (fun _ _ _ h => h) (Or.inl ⟨by kernel_rfl, ?_⟩) (by assumption) ?_
                      rotate_left 1
                      · intro w hSw
                        try dsimp only at hSw
                        go_simp
                        try with_reducible rfl
                      try simp only [List.getElem_toArray, List.getElem_cons_zero, List.getElem_cons_succ, Act.put, List.setIfInBounds_toArray, List.set_cons_zero, List.set_cons_succ]
                      refine wpAnyH_take (i := 14) (v := ?_) rfl (by kernel_rfl) (by kernel_rfl) (by kernel_rfl) (fun _ _ _ h => h) (Or.inl ⟨by kernel_rfl, ?_⟩) (by assumption) ?_
                      rotate_left 1
                      · intro w hSw
                        try dsimp only at hSw
                        go_simp
                        try with_reducible rfl
                      try simp only [List.getElem_toArray, List.getElem_cons_zero, List.getElem_cons_succ, Act.put, List.setIfInBounds_toArray, List.set_cons_zero, List.set_cons_succ]
                      refine wpAnyH_take (i := 15) (v := ?_) rfl (by kernel_rfl) (by kernel_rfl) (by kernel_rfl) (fun _ _ _ h => h) (Or.inl ⟨by kernel_rfl, ?_⟩) (by assumption) ?_
                      rotate_left 1
                      · intro w hSw
                        try dsimp only at hSw
                        go_simp
                        try with_reducible rfl
                      try simp only [List.getElem_toArray, List.getElem_cons_zero, List.getElem_cons_succ, Act.put, List.setIfInBounds_toArray, List.set_cons_zero, List.set_cons_succ]
                      refine wpAnyH_take (i := 16) (v := ?_) rfl (by kernel_rfl) (by kernel_rfl) (by kernel_rfl) (fun _ _ _ h => h) (Or.inl ⟨by kernel_rfl, ?_⟩) (by assumption) ?_
                      rotate_left 1
                      · intro w hSw
                        try dsimp only at hSw
                        go_simp
                        try with_reducible rfl
                      try simp only [List.getElem_toArray, List.getElem_cons_zero, List.getElem_cons_succ, Act.put, List.setIfInBounds_toArray, List.set_cons_zero, List.set_cons_succ]
                      refine wpAnyH_take (i := 17) (v := ?_) rfl (by kernel_rfl) (by kernel_rfl) (by kernel_rfl) (fun _ _ _ h => h) (Or.inl ⟨by kernel_rfl, ?_⟩) (by assumption) ?_
                      rotate_left 1
                      · intro w hSw
                        try dsimp only at hSw
                        go_simp
                        try with_reducible rfl
                      try simp only [List.getElem_toArray, List.getElem_cons_zero, List.getElem_cons_succ, Act.put, List.setIfInBounds_toArray, List.set_cons_zero, List.set_cons_succ]
                      refine wpAnyH_take (i := 18) (v := ?_) rfl (by kernel_rfl) (by kernel_rfl) (by kernel_rfl) (fun _ _ _ h => h) (Or.inl ⟨by kernel_rfl, ?_⟩) (by assumption) ?_
                      rotate_left 1
                      · intro w hSw
                        try dsimp only at hSw
                        go_simp
                        try with_reducible rfl
                      try simp only [List.getElem_toArray, List.getElem_cons_zero, List.getElem_cons_succ, Act.put, List.setIfInBounds_toArray, List.set_cons_zero, List.set_cons_succ]
                      refine wpAnyH_take (i := 19) (v := ?_) rfl (by kernel_rfl) (by kernel_rfl) (by kernel_rfl) (fun _ _ _ h => h) (Or.inl ⟨by kernel_rfl, ?_⟩) (by assumption) ?_
                      rotate_left 1
                      · intro w hSw
                        try dsimp only at hSw
                        go_simp
                        try with_reducible rfl
                      try simp only [List.getElem_toArray, List.getElem_cons_zero, List.getElem_cons_succ, Act.put, List.setIfInBounds_toArray, List.set_cons_zero, List.set_cons_succ]
                      refine wpAnyH_ready (rs := [20]) (by kernel_rfl) (by simp) ?_
                      refine AllReadyH.cons rfl (fun K hK => ?_) AllReadyH.nil
                      go_simp
                      refine (CF1.out _).mono ?_; rintro e w2 ⟨rfl, hb2⟩
                      go_wp2_with fail
                      refine hK.out _ _ ((Rs8.step (Rs8.shut (by assumption)) (by assumption)).open_) (fun hHeld => ?_)
                      clear hK K
                      try simp only [List.getElem_toArray, List.getElem_cons_zero, List.getElem_cons_succ, Act.put, List.setIfInBounds_toArray, List.set_cons_zero, List.set_cons_succ]
                      refine wpAnyH_take (i := 21) (v := ?_) rfl (by kernel_rfl) (by kernel_rfl) (by kernel_rfl) (fun _ _ _ h => h) (Or.inl ⟨by kernel_rfl, ?_⟩) (by assumption) ?_
                      rotate_left 1
                      · intro w hSw
                        try dsimp only at hSw
                        go_simp
                        try with_reducible rfl
                      try simp only [List.getElem_toArray, List.getElem_cons_zero, List.getElem_cons_succ, Act.put, List.setIfInBounds_toArray, List.set_cons_zero, List.set_cons_succ]
                      refine wpAnyH_take (i := 22) (v := ?_) rfl (by kernel_rfl) (by kernel_rfl) (by kernel_rfl) (fun _ _ _ h => h) (Or.inl ⟨by kernel_rfl, ?_⟩) (by assumption) ?_
                      rotate_left 1
                      · intro w hSw
                        try dsimp only at hSw
                        go_simp
                        try with_reducible rfl
                      try simp only [List.getElem_toArray, List.getElem_cons_zero, List.getElem_cons_succ, Act.put, List.setIfInBounds_toArray, List.set_cons_zero, List.set_cons_succ]
                      refine wpAnyH_done (by kernel_rfl) ?_ _

                      all_goals
                        go_wp2_with fail
                        go_roundg (s.size - nx)
                        case measure => omega
                        case rel => exact ⟨nx, u + 1, out ++ ft, by omega, by go_num, by go_num, rfl, hnx2, by omega, by rw [ByteArray.size_append]; omega, by rw [HN.out, HT2.out, HOUT.out], (Rs8.shut (by assumption)).be⟩
                    · have x99 : ((pk.toNat : Int) != 99) = true := by
                        have this : ((pk.toNat : Int) == 99) = false := ne_int pk 99 (by omega) h99
                        rw [bne, this]; rfl
                      have HT2 := Lib.hid (show toldL ⟨pl, true, pw, pp, pk⟩ ⟨vk, vs, vn⟩ = fillL bl pw pl true by
                        rw [HTL.out, show (pk == 115) = false by simpa using h115, show (pk == 99) = false by simpa using h99]; rfl)
                      clear h115 h99
                      have CF1 := Lib.hid (CF.out true)
                      have hfq := hfl true
                      generalize fillL bl (pw : Int) pl true = fl at *
                      have hsz : (ByteArray.mk fl.toArray).size ≤ 1048676 := by rw [bszS]; exact hfq
                      have HOUT := Lib.hid (app_l out fl)
                      generalize (ByteArray.mk fl.toArray) = ft at *
                      generalize (ByteArray.mk bl.toArray) = bt at *
                      have hsum : ¬ 9223372036854775807 < out.size + ft.size := by omega
                      clear CF hfl HTL hfq
                      go_wp2_with fail
                      go_region_held3 (fun w' => ((w'.cell? ⟨w1.heap.size, 0, none⟩ = some (.bool pl) ∧ w'.cell? ⟨w1.heap.size, 1, none⟩ = some (.bool true) ∧ w'.cell? ⟨w1.heap.size, 2, none⟩ = some (.int .i64 (pw : Int)) ∧ w'.cell? ⟨w1.heap.size, 3, none⟩ = some (.int .i64 pp) ∧ w'.cell? ⟨w1.heap.size, 4, none⟩ = some (.int .u8 (pk.toNat : Int))) ∧ (w'.cell? ⟨w1.heap.size + 1, 0, none⟩ = some (.int .i64 vk) ∧ w'.cell? ⟨w1.heap.size + 1, 1, none⟩ = some (.string vs) ∧ w'.cell? ⟨w1.heap.size + 1, 2, none⟩ = some (.int .i64 vn))) ∧ w1.heap.size + 1 < w'.heap.size ∧ Below w.heap.size w w') (first | exact HS0.out.drew.open_ | exact (Rs8.step HS0.out.drew (by assumption)).open_ | exact (Rs8.step (Rs8.shut (by assumption)) (by assumption)).open_) (first | (go_at_call 48; refine (CV.out _).mono ?_; rintro e w2 ⟨rfl, hb2⟩) | (go_at_call 18; refine (CF1.out _).mono ?_; rintro e w2 ⟨rfl, hb2⟩))
                      all_goals
                        go_wp2_with fail
                        go_roundg (s.size - nx)
                        case measure => omega
                        case rel => exact ⟨nx, u + 1, out ++ ft, by omega, by go_num, by go_num, rfl, hnx2, by omega, by rw [ByteArray.size_append]; omega, by rw [HN.out, HT2.out, HOUT.out], (Rs8.shut (by assumption)).be⟩
              · obtain ⟨e1, e2⟩ := next_end ts u hu
                rw [e1, e2] at HN
                rw [e1] at HG
                have ui1 : ¬ (u : Int) < (ts.length : Int) := by omega
                clear e1 e2
                have hg := HG.out
                have CV := Lib.hid (fun W => sv_any pl pn (pw : Int) pp pk (0 : Int) (⟨#[]⟩ : ByteArray) (0 : Int) W HKK.out hg.1 hg.2.1 hg.2.2)
                have hbl := bodyL_le pk pp ⟨(0 : Int), (⟨#[]⟩ : ByteArray), (0 : Int)⟩ hg.1 (nmB_bd (0 : Int) (⟨#[]⟩ : ByteArray) (0 : Int) hg.2.1 hg.2.2 (rnNum_bd (⟨#[]⟩ : ByteArray)))
                have HTL := Lib.hid (show toldL ⟨pl, pn, pw, pp, pk⟩ ⟨(0 : Int), (⟨#[]⟩ : ByteArray), (0 : Int)⟩ = fillL (bodyL pk pp ⟨(0 : Int), (⟨#[]⟩ : ByteArray), (0 : Int)⟩) pw pl (pn && !(pk == 115 || pk == 99)) from rfl)
                generalize bodyL pk pp ⟨(0 : Int), (⟨#[]⟩ : ByteArray), (0 : Int)⟩ = bl at *
                have HS0 := Lib.hid (show Rs8 w ((w1.alloc (.cells #[.bool pl, .bool pn, .int .i64 (pw : Int), .int .i64 pp, .int .u8 (pk.toNat : Int)] 76)).alloc (.cells #[.int .i64 (0 : Int), .string (⟨#[]⟩ : ByteArray), .int .i64 (0 : Int)] 66)) w1.heap.size pl pn (pw : Int) pp (pk.toNat : Int) (0 : Int) (⟨#[]⟩ : ByteArray) (0 : Int) from ⟨Bv8.start w1 _ _ pl pn (pw : Int) pp (pk.toNat : Int) (0 : Int) (⟨#[]⟩ : ByteArray) (0 : Int), (HB1.out.alloc HB1.out.size _).alloc (by have := HB1.out.size; simp; omega) _⟩)
                have CF := Lib.hid (fun (q : Bool) W => specFill_any ⟨bl.toArray⟩ (pw : Int) pl q W (by rw [bszS]; exact hbl) (by omega) (by omega))
                simp only at CF
                have hfl : ∀ q, (fillL bl (pw : Int) pl q).length ≤ 1048676 := fun q => by have := fillL_le bl (pw : Int) pl q; omega
                clear hg hbl HG
                cases pn
                · have HT2 := Lib.hid (show toldL ⟨pl, false, pw, pp, pk⟩ ⟨(0 : Int), (⟨#[]⟩ : ByteArray), (0 : Int)⟩ = fillL bl pw pl false from HTL.out)
                  have CF1 := Lib.hid (CF.out false)
                  have hfq := hfl false
                  generalize fillL bl (pw : Int) pl false = fl at *
                  have hsz : (ByteArray.mk fl.toArray).size ≤ 1048676 := by rw [bszS]; exact hfq
                  have HOUT := Lib.hid (app_l out fl)
                  generalize (ByteArray.mk fl.toArray) = ft at *
                  generalize (ByteArray.mk bl.toArray) = bt at *
                  have hsum : ¬ 9223372036854775807 < out.size + ft.size := by omega
                  clear CF hfl HTL hfq
                  go_wp2_with fail
                  refine wp_region_held_drew (S := (fun w' => ((w'.cell? ⟨w1.heap.size, 0, none⟩ = some (.bool pl) ∧ w'.cell? ⟨w1.heap.size, 1, none⟩ = some (.bool false) ∧ w'.cell? ⟨w1.heap.size, 2, none⟩ = some (.int .i64 (pw : Int)) ∧ w'.cell? ⟨w1.heap.size, 3, none⟩ = some (.int .i64 pp) ∧ w'.cell? ⟨w1.heap.size, 4, none⟩ = some (.int .u8 (pk.toNat : Int))) ∧ (w'.cell? ⟨w1.heap.size + 1, 0, none⟩ = some (.int .i64 (0 : Int)) ∧ w'.cell? ⟨w1.heap.size + 1, 1, none⟩ = some (.string (⟨#[]⟩ : ByteArray)) ∧ w'.cell? ⟨w1.heap.size + 1, 2, none⟩ = some (.int .i64 (0 : Int)))) ∧ w1.heap.size + 1 < w'.heap.size ∧ Below w.heap.size w w')) (by kernel_rfl) HS0.out.drew.open_ (fun hHeld => ?_)
                  refine wpAnyH_take (i := 0) (v := ?_) rfl (by kernel_rfl) (by kernel_rfl) (by kernel_rfl) (fun _ _ _ h => h) (Or.inl ⟨by kernel_rfl, ?_⟩) (by assumption) ?_
                  rotate_left 1
                  · intro w hSw
                    try dsimp only at hSw
                    go_simp
                    try with_reducible rfl
                  try simp only [List.getElem_toArray, List.getElem_cons_zero, Act.put, List.setIfInBounds_toArray, List.set_cons_zero, List.set_cons_succ]
                  refine wpAnyH_take (i := 1) (v := ?_) rfl (by kernel_rfl) (by kernel_rfl) (by kernel_rfl) (fun _ _ _ h => h) (Or.inl ⟨by kernel_rfl, ?_⟩) (by assumption) ?_
                  rotate_left 1
                  · intro w hSw
                    try dsimp only at hSw
                    go_simp
                    try with_reducible rfl
                  try simp only [List.getElem_toArray, List.getElem_cons_zero, List.getElem_cons_succ, Act.put, List.setIfInBounds_toArray, List.set_cons_zero, List.set_cons_succ]
                  refine wpAnyH_take (i := 2) (v := ?_) rfl (by kernel_rfl) (by kernel_rfl) (by kernel_rfl) (fun _ _ _ h => h) (Or.inl ⟨by kernel_rfl, ?_⟩) (by assumption) ?_
                  rotate_left 1
                  · intro w hSw
                    try dsimp only at hSw
                    go_simp
                    try with_reducible rfl
                  try simp only [List.getElem_toArray, List.getElem_cons_zero, List.getElem_cons_succ, Act.put, List.setIfInBounds_toArray, List.set_cons_zero, List.set_cons_succ]
                  refine wpAnyH_take (i := 4) (v := ?_) rfl (by kernel_rfl) (by kernel_rfl) (by kernel_rfl) (fun _ _ _ h => h) (Or.inl ⟨by kernel_rfl, ?_⟩) (by assumption) ?_
                  rotate_left 1
                  · intro w hSw
                    try dsimp only at hSw
                    go_simp
                    try with_reducible rfl
                  try simp only [List.getElem_toArray, List.getElem_cons_zero, List.getElem_cons_succ, Act.put, List.setIfInBounds_toArray, List.set_cons_zero, List.set_cons_succ]
                  refine wpAnyH_take (i := 5) (v := ?_) rfl (by kernel_rfl) (by kernel_rfl) (by kernel_rfl) (fun _ _ _ h => h) (Or.inl ⟨by kernel_rfl, ?_⟩) (by assumption) ?_
                  rotate_left 1
                  · intro w hSw
                    try dsimp only at hSw
                    go_simp
                    try with_reducible rfl
                  try simp only [List.getElem_toArray, List.getElem_cons_zero, List.getElem_cons_succ, Act.put, List.setIfInBounds_toArray, List.set_cons_zero, List.set_cons_succ]
                  refine wpAnyH_take (i := 6) (v := ?_) rfl (by kernel_rfl) (by kernel_rfl) (by kernel_rfl) (fun _ _ _ h => h) (Or.inl ⟨by kernel_rfl, ?_⟩) (by assumption) ?_
                  rotate_left 1
                  · intro w hSw
                    try dsimp only at hSw
                    go_simp
                    try with_reducible rfl
                  try simp only [List.getElem_toArray, List.getElem_cons_zero, List.getElem_cons_succ, Act.put, List.setIfInBounds_toArray, List.set_cons_zero, List.set_cons_succ]
                  refine wpAnyH_take (i := 7) (v := ?_) rfl (by kernel_rfl) (by kernel_rfl) (by kernel_rfl) (fun _ _ _ h => h) (Or.inl ⟨by kernel_rfl, ?_⟩) (by assumption) ?_
                  rotate_left 1
                  · intro w hSw
                    try dsimp only at hSw
                    go_simp
                    try with_reducible rfl
                  try simp only [List.getElem_toArray, List.getElem_cons_zero, List.getElem_cons_succ, Act.put, List.setIfInBounds_toArray, List.set_cons_zero, List.set_cons_succ]
                  refine wpAnyH_take (i := 8) (v := ?_) rfl (by kernel_rfl) (by kernel_rfl) (by kernel_rfl) (fun _ _ _ h => h) (Or.inl ⟨by kernel_rfl, ?_⟩) (by assumption) ?_
                  rotate_left 1
                  · intro w hSw
                    try dsimp only at hSw
                    go_simp
                    try with_reducible rfl
                  try simp only [List.getElem_toArray, List.getElem_cons_zero, List.getElem_cons_succ, Act.put, List.setIfInBounds_toArray, List.set_cons_zero, List.set_cons_succ]
                  refine wpAnyH_take (i := 9) (v := ?_) rfl (by kernel_rfl) (by kernel_rfl) (by kernel_rfl) (fun _ _ _ h => h) (Or.inl ⟨by kernel_rfl, ?_⟩) (by assumption) ?_
                  rotate_left 1
                  · intro w hSw
                    try dsimp only at hSw
                    go_simp
                    try with_reducible rfl
                  try simp only [List.getElem_toArray, List.getElem_cons_zero, List.getElem_cons_succ, Act.put, List.setIfInBounds_toArray, List.set_cons_zero, List.set_cons_succ]
                  refine wpAnyH_ready (rs := [3]) (by kernel_rfl) (by simp) ?_
                  refine AllReadyH.cons rfl (fun K hK => ?_) AllReadyH.nil
                  go_simp
                  refine (CV.out _).mono ?_; rintro e w2 ⟨rfl, hb2⟩
                  go_wp2_with fail
                  refine hK.out _ _ ((Rs8.step (Rs8.shut (by assumption)) (by assumption)).open_) (fun hHeld => ?_)
                  clear hK K
                  try simp only [List.getElem_toArray, List.getElem_cons_zero, List.getElem_cons_succ, Act.put, List.setIfInBounds_toArray, List.set_cons_zero, List.set_cons_succ]
                  refine wpAnyH_take (i := 10) (v := ?_) rfl (by kernel_rfl) (by kernel_rfl) (by kernel_rfl) (fun _ _ _ h => h) (Or.inl ⟨by kernel_rfl, ?_⟩) (by assumption) ?_
                  rotate_left 1
                  · intro w hSw
                    try dsimp only at hSw
                    go_simp
                    try with_reducible rfl
                  try simp only [List.getElem_toArray, List.getElem_cons_zero, List.getElem_cons_succ, Act.put, List.setIfInBounds_toArray, List.set_cons_zero, List.set_cons_succ]
                  refine wpAnyH_take (i := 11) (v := undef) rfl (by kernel_rfl) (by kernel_rfl) (by kernel_rfl) (fun _ _ _ h => h) (Or.inr ⟨by kernel_rfl, rfl⟩) (by assumption) ?_
                  try simp only [List.getElem_toArray, List.getElem_cons_zero, List.getElem_cons_succ, Act.put, List.setIfInBounds_toArray, List.set_cons_zero, List.set_cons_succ]
                  refine wpAnyH_take (i := 12) (v := undef) rfl (by kernel_rfl) (by kernel_rfl) (by kernel_rfl) (fun _ _ _ h => h) (Or.inr ⟨by kernel_rfl, rfl⟩) (by assumption) ?_
                  try simp only [List.getElem_toArray, List.getElem_cons_zero, List.getElem_cons_succ, Act.put, List.setIfInBounds_toArray, List.set_cons_zero, List.set_cons_succ]
                  refine wpAnyH_take (i := 13) (v := undef) rfl (by kernel_rfl) (by kernel_rfl) (by kernel_rfl) (fun _ _ _ h => h) (Or.inr ⟨by kernel_rfl, rfl⟩) (by assumption) ?_
                  try simp only [List.getElem_toArray, List.getElem_cons_zero, List.getElem_cons_succ, Act.put, List.setIfInBounds_toArray, List.set_cons_zero, List.set_cons_succ]
                  refine wpAnyH_take (i := 14) (v := ?_) rfl (by kernel_rfl) (by kernel_rfl) (by kernel_rfl) (fun _ _ _ h => h) (Or.inl ⟨by kernel_rfl, ?_⟩) (by assumption) ?_
                  rotate_left 1
                  · intro w hSw
                    try dsimp only at hSw
                    go_simp
                    try with_reducible rfl
                  try simp only [List.getElem_toArray, List.getElem_cons_zero, List.getElem_cons_succ, Act.put, List.setIfInBounds_toArray, List.set_cons_zero, List.set_cons_succ]
                  refine wpAnyH_take (i := 15) (v := ?_) rfl (by kernel_rfl) (by kernel_rfl) (by kernel_rfl) (fun _ _ _ h => h) (Or.inl ⟨by kernel_rfl, ?_⟩) (by assumption) ?_
                  rotate_left 1
                  · intro w hSw
                    try dsimp only at hSw
                    go_simp
                    try with_reducible rfl
                  try simp only [List.getElem_toArray, List.getElem_cons_zero, List.getElem_cons_succ, Act.put, List.setIfInBounds_toArray, List.set_cons_zero, List.set_cons_succ]
                  refine wpAnyH_take (i := 16) (v := undef) rfl (by kernel_rfl) (by kernel_rfl) (by kernel_rfl) (fun _ _ _ h => h) (Or.inr ⟨by kernel_rfl, rfl⟩) (by assumption) ?_
                  try simp only [List.getElem_toArray, List.getElem_cons_zero, List.getElem_cons_succ, Act.put, List.setIfInBounds_toArray, List.set_cons_zero, List.set_cons_succ]
                  refine wpAnyH_take (i := 17) (v := undef) rfl (by kernel_rfl) (by kernel_rfl) (by kernel_rfl) (fun _ _ _ h => h) (Or.inr ⟨by kernel_rfl, rfl⟩) (by assumption) ?_
                  try simp only [List.getElem_toArray, List.getElem_cons_zero, List.getElem_cons_succ, Act.put, List.setIfInBounds_toArray, List.set_cons_zero, List.set_cons_succ]
                  refine wpAnyH_take (i := 18) (v := undef) rfl (by kernel_rfl) (by kernel_rfl) (by kernel_rfl) (fun _ _ _ h => h) (Or.inr ⟨by kernel_rfl, rfl⟩) (by assumption) ?_
                  try simp only [List.getElem_toArray, List.getElem_cons_zero, List.getElem_cons_succ, Act.put, List.setIfInBounds_toArray, List.set_cons_zero, List.set_cons_succ]
                  refine wpAnyH_take (i := 19) (v := ?_) rfl (by kernel_rfl) (by kernel_rfl) (by kernel_rfl) (fun _ _ _ h => h) (Or.inl ⟨by kernel_rfl, ?_⟩) (by assumption) ?_
                  rotate_left 1
                  · intro w hSw
                    try dsimp only at hSw
                    go_simp
                    try with_reducible rfl
                  try simp only [List.getElem_toArray, List.getElem_cons_zero, List.getElem_cons_succ, Act.put, List.setIfInBounds_toArray, List.set_cons_zero, List.set_cons_succ]
                  refine wpAnyH_ready (rs := [20]) (by kernel_rfl) (by simp) ?_
                  refine AllReadyH.cons rfl (fun K hK => ?_) AllReadyH.nil
                  go_simp
                  refine (CF1.out _).mono ?_; rintro e w2 ⟨rfl, hb2⟩
                  go_wp2_with fail
                  refine hK.out _ _ ((Rs8.step (Rs8.shut (by assumption)) (by assumption)).open_) (fun hHeld => ?_)
                  clear hK K
                  try simp only [List.getElem_toArray, List.getElem_cons_zero, List.getElem_cons_succ, Act.put, List.setIfInBounds_toArray, List.set_cons_zero, List.set_cons_succ]
                  refine wpAnyH_take (i := 21) (v := ?_) rfl (by kernel_rfl) (by kernel_rfl) (by kernel_rfl) (fun _ _ _ h => h) (Or.inl ⟨by kernel_rfl, ?_⟩) (by assumption) ?_
                  rotate_left 1
                  · intro w hSw
                    try dsimp only at hSw
                    go_simp
                    try with_reducible rfl
                  try simp only [List.getElem_toArray, List.getElem_cons_zero, List.getElem_cons_succ, Act.put, List.setIfInBounds_toArray, List.set_cons_zero, List.set_cons_succ]
                  refine wpAnyH_take (i := 22) (v := ?_) rfl (by kernel_rfl) (by kernel_rfl) (by kernel_rfl) (fun _ _ _ h => h) (Or.inl ⟨by kernel_rfl, ?_⟩) (by assumption) ?_
                  rotate_left 1
                  · intro w hSw
                    try dsimp only at hSw
                    go_simp
                    try with_reducible rfl
                  try simp only [List.getElem_toArray, List.getElem_cons_zero, List.getElem_cons_succ, Act.put, List.setIfInBounds_toArray, List.set_cons_zero, List.set_cons_succ]
                  refine wpAnyH_done (by kernel_rfl) ?_ _

                  all_goals
                    go_wp2_with fail
                    go_roundg (s.size - nx)
                    case measure => omega
                    case rel => exact ⟨nx, u + 1, out ++ ft, by omega, by go_num, by go_num, rfl, hnx2, by omega, by rw [ByteArray.size_append]; omega, by rw [HN.out, HT2.out, HOUT.out], (Rs8.shut (by assumption)).be⟩
                · by_cases h115 : pk = 115
                  · have x115 : ((pk.toNat : Int) != 115) = false := by rw [h115]; rfl
                    have HT2 := Lib.hid (show toldL ⟨pl, true, pw, pp, pk⟩ ⟨(0 : Int), (⟨#[]⟩ : ByteArray), (0 : Int)⟩ = fillL bl pw pl false by rw [HTL.out, h115]; rfl)
                    clear h115
                    have CF1 := Lib.hid (CF.out false)
                    have hfq := hfl false
                    generalize fillL bl (pw : Int) pl false = fl at *
                    have hsz : (ByteArray.mk fl.toArray).size ≤ 1048676 := by rw [bszS]; exact hfq
                    have HOUT := Lib.hid (app_l out fl)
                    generalize (ByteArray.mk fl.toArray) = ft at *
                    generalize (ByteArray.mk bl.toArray) = bt at *
                    have hsum : ¬ 9223372036854775807 < out.size + ft.size := by omega
                    clear CF hfl HTL hfq
                    go_wp2_with fail
                    refine wp_region_held_drew (S := (fun w' => ((w'.cell? ⟨w1.heap.size, 0, none⟩ = some (.bool pl) ∧ w'.cell? ⟨w1.heap.size, 1, none⟩ = some (.bool true) ∧ w'.cell? ⟨w1.heap.size, 2, none⟩ = some (.int .i64 (pw : Int)) ∧ w'.cell? ⟨w1.heap.size, 3, none⟩ = some (.int .i64 pp) ∧ w'.cell? ⟨w1.heap.size, 4, none⟩ = some (.int .u8 (pk.toNat : Int))) ∧ (w'.cell? ⟨w1.heap.size + 1, 0, none⟩ = some (.int .i64 (0 : Int)) ∧ w'.cell? ⟨w1.heap.size + 1, 1, none⟩ = some (.string (⟨#[]⟩ : ByteArray)) ∧ w'.cell? ⟨w1.heap.size + 1, 2, none⟩ = some (.int .i64 (0 : Int)))) ∧ w1.heap.size + 1 < w'.heap.size ∧ Below w.heap.size w w')) (by kernel_rfl) HS0.out.drew.open_ (fun hHeld => ?_)
                    refine wpAnyH_take (i := 0) (v := ?_) rfl (by kernel_rfl) (by kernel_rfl) (by kernel_rfl) (fun _ _ _ h => h) (Or.inl ⟨by kernel_rfl, ?_⟩) (by assumption) ?_
                    rotate_left 1
                    · intro w hSw
                      try dsimp only at hSw
                      go_simp
                      try with_reducible rfl
                    try simp only [List.getElem_toArray, List.getElem_cons_zero, Act.put, List.setIfInBounds_toArray, List.set_cons_zero, List.set_cons_succ]
                    refine wpAnyH_take (i := 1) (v := ?_) rfl (by kernel_rfl) (by kernel_rfl) (by kernel_rfl) (fun _ _ _ h => h) (Or.inl ⟨by kernel_rfl, ?_⟩) (by assumption) ?_
                    rotate_left 1
                    · intro w hSw
                      try dsimp only at hSw
                      go_simp
                      try with_reducible rfl
                    try simp only [List.getElem_toArray, List.getElem_cons_zero, List.getElem_cons_succ, Act.put, List.setIfInBounds_toArray, List.set_cons_zero, List.set_cons_succ]
                    refine wpAnyH_take (i := 2) (v := ?_) rfl (by kernel_rfl) (by kernel_rfl) (by kernel_rfl) (fun _ _ _ h => h) (Or.inl ⟨by kernel_rfl, ?_⟩) (by assumption) ?_
                    rotate_left 1
                    · intro w hSw
                      try dsimp only at hSw
                      go_simp
                      try with_reducible rfl
                    try simp only [List.getElem_toArray, List.getElem_cons_zero, List.getElem_cons_succ, Act.put, List.setIfInBounds_toArray, List.set_cons_zero, List.set_cons_succ]
                    refine wpAnyH_take (i := 4) (v := ?_) rfl (by kernel_rfl) (by kernel_rfl) (by kernel_rfl) (fun _ _ _ h => h) (Or.inl ⟨by kernel_rfl, ?_⟩) (by assumption) ?_
                    rotate_left 1
                    · intro w hSw
                      try dsimp only at hSw
                      go_simp
                      try with_reducible rfl
                    try simp only [List.getElem_toArray, List.getElem_cons_zero, List.getElem_cons_succ, Act.put, List.setIfInBounds_toArray, List.set_cons_zero, List.set_cons_succ]
                    refine wpAnyH_take (i := 5) (v := ?_) rfl (by kernel_rfl) (by kernel_rfl) (by kernel_rfl) (fun _ _ _ h => h) (Or.inl ⟨by kernel_rfl, ?_⟩) (by assumption) ?_
                    rotate_left 1
                    · intro w hSw
                      try dsimp only at hSw
                      go_simp
                      try with_reducible rfl
                    try simp only [List.getElem_toArray, List.getElem_cons_zero, List.getElem_cons_succ, Act.put, List.setIfInBounds_toArray, List.set_cons_zero, List.set_cons_succ]
                    refine wpAnyH_take (i := 6) (v := ?_) rfl (by kernel_rfl) (by kernel_rfl) (by kernel_rfl) (fun _ _ _ h => h) (Or.inl ⟨by kernel_rfl, ?_⟩) (by assumption) ?_
                    rotate_left 1
                    · intro w hSw
                      try dsimp only at hSw
                      go_simp
                      try with_reducible rfl
                    try simp only [List.getElem_toArray, List.getElem_cons_zero, List.getElem_cons_succ, Act.put, List.setIfInBounds_toArray, List.set_cons_zero, List.set_cons_succ]
                    refine wpAnyH_take (i := 7) (v := ?_) rfl (by kernel_rfl) (by kernel_rfl) (by kernel_rfl) (fun _ _ _ h => h) (Or.inl ⟨by kernel_rfl, ?_⟩) (by assumption) ?_
                    rotate_left 1
                    · intro w hSw
                      try dsimp only at hSw
                      go_simp
                      try with_reducible rfl
                    try simp only [List.getElem_toArray, List.getElem_cons_zero, List.getElem_cons_succ, Act.put, List.setIfInBounds_toArray, List.set_cons_zero, List.set_cons_succ]
                    refine wpAnyH_take (i := 8) (v := ?_) rfl (by kernel_rfl) (by kernel_rfl) (by kernel_rfl) (fun _ _ _ h => h) (Or.inl ⟨by kernel_rfl, ?_⟩) (by assumption) ?_
                    rotate_left 1
                    · intro w hSw
                      try dsimp only at hSw
                      go_simp
                      try with_reducible rfl
                    try simp only [List.getElem_toArray, List.getElem_cons_zero, List.getElem_cons_succ, Act.put, List.setIfInBounds_toArray, List.set_cons_zero, List.set_cons_succ]
                    refine wpAnyH_take (i := 9) (v := ?_) rfl (by kernel_rfl) (by kernel_rfl) (by kernel_rfl) (fun _ _ _ h => h) (Or.inl ⟨by kernel_rfl, ?_⟩) (by assumption) ?_
                    rotate_left 1
                    · intro w hSw
                      try dsimp only at hSw
                      go_simp
                      try with_reducible rfl
                    try simp only [List.getElem_toArray, List.getElem_cons_zero, List.getElem_cons_succ, Act.put, List.setIfInBounds_toArray, List.set_cons_zero, List.set_cons_succ]
                    refine wpAnyH_ready (rs := [3]) (by kernel_rfl) (by simp) ?_
                    refine AllReadyH.cons rfl (fun K hK => ?_) AllReadyH.nil
                    go_simp
                    refine (CV.out _).mono ?_; rintro e w2 ⟨rfl, hb2⟩
                    go_wp2_with fail
                    refine hK.out _ _ ((Rs8.step (Rs8.shut (by assumption)) (by assumption)).open_) (fun hHeld => ?_)
                    clear hK K
                    try simp only [List.getElem_toArray, List.getElem_cons_zero, List.getElem_cons_succ, Act.put, List.setIfInBounds_toArray, List.set_cons_zero, List.set_cons_succ]
                    refine wpAnyH_take (i := 10) (v := ?_) rfl (by kernel_rfl) (by kernel_rfl) (by kernel_rfl) (fun _ _ _ h => h) (Or.inl ⟨by kernel_rfl, ?_⟩) (by assumption) ?_
                    rotate_left 1
                    · intro w hSw
                      try dsimp only at hSw
                      go_simp
                      try with_reducible rfl
                    try simp only [List.getElem_toArray, List.getElem_cons_zero, List.getElem_cons_succ, Act.put, List.setIfInBounds_toArray, List.set_cons_zero, List.set_cons_succ]
                    refine wpAnyH_take (i := 11) (v := ?_) rfl (by kernel_rfl) (by kernel_rfl) (by kernel_rfl) (fun _ _ _ h => h) (Or.inl ⟨by kernel_rfl, ?_⟩) (by assumption) ?_
                    rotate_left 1
                    · intro w hSw
                      try dsimp only at hSw
                      go_simp
                      try with_reducible rfl
                    try simp only [List.getElem_toArray, List.getElem_cons_zero, List.getElem_cons_succ, Act.put, List.setIfInBounds_toArray, List.set_cons_zero, List.set_cons_succ]
                    refine wpAnyH_take (i := 12) (v := ?_) rfl (by kernel_rfl) (by kernel_rfl) (by kernel_rfl) (fun _ _ _ h => h) (Or.inl ⟨by kernel_rfl, ?_⟩) (by assumption) ?_
                    rotate_left 1
                    · intro w hSw
                      try dsimp only at hSw
                      go_simp
                      try with_reducible rfl
                    try simp only [List.getElem_toArray, List.getElem_cons_zero, List.getElem_cons_succ, Act.put, List.setIfInBounds_toArray, List.set_cons_zero, List.set_cons_succ]
                    refine wpAnyH_take (i := 13) (v := ?_) rfl (by kernel_rfl) (by kernel_rfl) (by kernel_rfl) (fun _ _ _ h => h) (Or.inl ⟨by kernel_rfl, ?_⟩) (by assumption) ?_
                    rotate_left 1
                    · intro w hSw
                      try dsimp only at hSw
                      go_simp
                      try with_reducible rfl
                    try simp only [List.getElem_toArray, List.getElem_cons_zero, List.getElem_cons_succ, Act.put, List.setIfInBounds_toArray, List.set_cons_zero, List.set_cons_succ]
                    refine wpAnyH_take (i := 14) (v := ?_) rfl (by kernel_rfl) (by kernel_rfl) (by kernel_rfl) (fun _ _ _ h => h) (Or.inl ⟨by kernel_rfl, ?_⟩) (by assumption) ?_
                    rotate_left 1
                    · intro w hSw
                      try dsimp only at hSw
                      go_simp
                      try with_reducible rfl
                    try simp only [List.getElem_toArray, List.getElem_cons_zero, List.getElem_cons_succ, Act.put, List.setIfInBounds_toArray, List.set_cons_zero, List.set_cons_succ]
                    refine wpAnyH_take (i := 15) (v := ?_) rfl (by kernel_rfl) (by kernel_rfl) (by kernel_rfl) (fun _ _ _ h => h) (Or.inl ⟨by kernel_rfl, ?_⟩) (by assumption) ?_
                    rotate_left 1
                    · intro w hSw
                      try dsimp only at hSw
                      go_simp
                      try with_reducible rfl
                    try simp only [List.getElem_toArray, List.getElem_cons_zero, List.getElem_cons_succ, Act.put, List.setIfInBounds_toArray, List.set_cons_zero, List.set_cons_succ]
                    refine wpAnyH_take (i := 16) (v := undef) rfl (by kernel_rfl) (by kernel_rfl) (by kernel_rfl) (fun _ _ _ h => h) (Or.inr ⟨by kernel_rfl, rfl⟩) (by assumption) ?_
                    try simp only [List.getElem_toArray, List.getElem_cons_zero, List.getElem_cons_succ, Act.put, List.setIfInBounds_toArray, List.set_cons_zero, List.set_cons_succ]
                    refine wpAnyH_take (i := 17) (v := undef) rfl (by kernel_rfl) (by kernel_rfl) (by kernel_rfl) (fun _ _ _ h => h) (Or.inr ⟨by kernel_rfl, rfl⟩) (by assumption) ?_
                    try simp only [List.getElem_toArray, List.getElem_cons_zero, List.getElem_cons_succ, Act.put, List.setIfInBounds_toArray, List.set_cons_zero, List.set_cons_succ]
                    refine wpAnyH_take (i := 18) (v := undef) rfl (by kernel_rfl) (by kernel_rfl) (by kernel_rfl) (fun _ _ _ h => h) (Or.inr ⟨by kernel_rfl, rfl⟩) (by assumption) ?_
                    try simp only [List.getElem_toArray, List.getElem_cons_zero, List.getElem_cons_succ, Act.put, List.setIfInBounds_toArray, List.set_cons_zero, List.set_cons_succ]
                    refine wpAnyH_take (i := 19) (v := ?_) rfl (by kernel_rfl) (by kernel_rfl) (by kernel_rfl) (fun _ _ _ h => h) (Or.inl ⟨by kernel_rfl, ?_⟩) (by assumption) ?_
                    rotate_left 1
                    · intro w hSw
                      try dsimp only at hSw
                      go_simp
                      try with_reducible rfl
                    try simp only [List.getElem_toArray, List.getElem_cons_zero, List.getElem_cons_succ, Act.put, List.setIfInBounds_toArray, List.set_cons_zero, List.set_cons_succ]
                    refine wpAnyH_ready (rs := [20]) (by kernel_rfl) (by simp) ?_
                    refine AllReadyH.cons rfl (fun K hK => ?_) AllReadyH.nil
                    go_simp
                    refine (CF1.out _).mono ?_; rintro e w2 ⟨rfl, hb2⟩
                    go_wp2_with fail
                    refine hK.out _ _ ((Rs8.step (Rs8.shut (by assumption)) (by assumption)).open_) (fun hHeld => ?_)
                    clear hK K
                    try simp only [List.getElem_toArray, List.getElem_cons_zero, List.getElem_cons_succ, Act.put, List.setIfInBounds_toArray, List.set_cons_zero, List.set_cons_succ]
                    refine wpAnyH_take (i := 21) (v := ?_) rfl (by kernel_rfl) (by kernel_rfl) (by kernel_rfl) (fun _ _ _ h => h) (Or.inl ⟨by kernel_rfl, ?_⟩) (by assumption) ?_
                    rotate_left 1
                    · intro w hSw
                      try dsimp only at hSw
                      go_simp
                      try with_reducible rfl
                    try simp only [List.getElem_toArray, List.getElem_cons_zero, List.getElem_cons_succ, Act.put, List.setIfInBounds_toArray, List.set_cons_zero, List.set_cons_succ]
                    refine wpAnyH_take (i := 22) (v := ?_) rfl (by kernel_rfl) (by kernel_rfl) (by kernel_rfl) (fun _ _ _ h => h) (Or.inl ⟨by kernel_rfl, ?_⟩) (by assumption) ?_
                    rotate_left 1
                    · intro w hSw
                      try dsimp only at hSw
                      go_simp
                      try with_reducible rfl
                    try simp only [List.getElem_toArray, List.getElem_cons_zero, List.getElem_cons_succ, Act.put, List.setIfInBounds_toArray, List.set_cons_zero, List.set_cons_succ]
                    refine wpAnyH_done (by kernel_rfl) ?_ _

                    all_goals
                      go_wp2_with fail
                      go_roundg (s.size - nx)
                      case measure => omega
                      case rel => exact ⟨nx, u + 1, out ++ ft, by omega, by go_num, by go_num, rfl, hnx2, by omega, by rw [ByteArray.size_append]; omega, by rw [HN.out, HT2.out, HOUT.out], (Rs8.shut (by assumption)).be⟩
                  · have x115 : ((pk.toNat : Int) != 115) = true := by
                      have this : ((pk.toNat : Int) == 115) = false := ne_int pk 115 (by omega) h115
                      rw [bne, this]; rfl
                    by_cases h99 : pk = 99
                    · have x99 : ((pk.toNat : Int) != 99) = false := by rw [h99]; rfl
                      have HT2 := Lib.hid (show toldL ⟨pl, true, pw, pp, pk⟩ ⟨(0 : Int), (⟨#[]⟩ : ByteArray), (0 : Int)⟩ = fillL bl pw pl false by rw [HTL.out, h99]; rfl)
                      clear h115 h99
                      have CF1 := Lib.hid (CF.out false)
                      have hfq := hfl false
                      generalize fillL bl (pw : Int) pl false = fl at *
                      have hsz : (ByteArray.mk fl.toArray).size ≤ 1048676 := by rw [bszS]; exact hfq
                      have HOUT := Lib.hid (app_l out fl)
                      generalize (ByteArray.mk fl.toArray) = ft at *
                      generalize (ByteArray.mk bl.toArray) = bt at *
                      have hsum : ¬ 9223372036854775807 < out.size + ft.size := by omega
                      clear CF hfl HTL hfq
                      go_wp2_with fail
                      refine wp_region_held_drew (S := (fun w' => ((w'.cell? ⟨w1.heap.size, 0, none⟩ = some (.bool pl) ∧ w'.cell? ⟨w1.heap.size, 1, none⟩ = some (.bool true) ∧ w'.cell? ⟨w1.heap.size, 2, none⟩ = some (.int .i64 (pw : Int)) ∧ w'.cell? ⟨w1.heap.size, 3, none⟩ = some (.int .i64 pp) ∧ w'.cell? ⟨w1.heap.size, 4, none⟩ = some (.int .u8 (pk.toNat : Int))) ∧ (w'.cell? ⟨w1.heap.size + 1, 0, none⟩ = some (.int .i64 (0 : Int)) ∧ w'.cell? ⟨w1.heap.size + 1, 1, none⟩ = some (.string (⟨#[]⟩ : ByteArray)) ∧ w'.cell? ⟨w1.heap.size + 1, 2, none⟩ = some (.int .i64 (0 : Int)))) ∧ w1.heap.size + 1 < w'.heap.size ∧ Below w.heap.size w w')) (by kernel_rfl) HS0.out.drew.open_ (fun hHeld => ?_)
                      refine wpAnyH_take (i := 0) (v := ?_) rfl (by kernel_rfl) (by kernel_rfl) (by kernel_rfl) (fun _ _ _ h => h) (Or.inl ⟨by kernel_rfl, ?_⟩) (by assumption) ?_
                      rotate_left 1
                      · intro w hSw
                        try dsimp only at hSw
                        go_simp
                        try with_reducible rfl
                      try simp only [List.getElem_toArray, List.getElem_cons_zero, Act.put, List.setIfInBounds_toArray, List.set_cons_zero, List.set_cons_succ]
                      refine wpAnyH_take (i := 1) (v := ?_) rfl (by kernel_rfl) (by kernel_rfl) (by kernel_rfl) (fun _ _ _ h => h) (Or.inl ⟨by kernel_rfl, ?_⟩) (by assumption) ?_
                      rotate_left 1
                      · intro w hSw
                        try dsimp only at hSw
                        go_simp
                        try with_reducible rfl
                      try simp only [List.getElem_toArray, List.getElem_cons_zero, List.getElem_cons_succ, Act.put, List.setIfInBounds_toArray, List.set_cons_zero, List.set_cons_succ]
                      refine wpAnyH_take (i := 2) (v := ?_) rfl (by kernel_rfl) (by kernel_rfl) (by kernel_rfl) (fun _ _ _ h => h) (Or.inl ⟨by kernel_rfl, ?_⟩) (by assumption) ?_
                      rotate_left 1
                      · intro w hSw
                        try dsimp only at hSw
                        go_simp
                        try with_reducible rfl
                      try simp only [List.getElem_toArray, List.getElem_cons_zero, List.getElem_cons_succ, Act.put, List.setIfInBounds_toArray, List.set_cons_zero, List.set_cons_succ]
                      refine wpAnyH_take (i := 4) (v := ?_) rfl (by kernel_rfl) (by kernel_rfl) (by kernel_rfl) (fun _ _ _ h => h) (Or.inl ⟨by kernel_rfl, ?_⟩) (by assumption) ?_
                      rotate_left 1
                      · intro w hSw
                        try dsimp only at hSw
                        go_simp
                        try with_reducible rfl
                      try simp only [List.getElem_toArray, List.getElem_cons_zero, List.getElem_cons_succ, Act.put, List.setIfInBounds_toArray, List.set_cons_zero, List.set_cons_succ]
                      refine wpAnyH_take (i := 5) (v := ?_) rfl (by kernel_rfl) (by kernel_rfl) (by kernel_rfl) (fun _ _ _ h => h) (Or.inl ⟨by kernel_rfl, ?_⟩) (by assumption) ?_
                      rotate_left 1
                      · intro w hSw
                        try dsimp only at hSw
                        go_simp
                        try with_reducible rfl
                      try simp only [List.getElem_toArray, List.getElem_cons_zero, List.getElem_cons_succ, Act.put, List.setIfInBounds_toArray, List.set_cons_zero, List.set_cons_succ]
                      refine wpAnyH_take (i := 6) (v := ?_) rfl (by kernel_rfl) (by kernel_rfl) (by kernel_rfl) (fun _ _ _ h => h) (Or.inl ⟨by kernel_rfl, ?_⟩) (by assumption) ?_
                      rotate_left 1
                      · intro w hSw
                        try dsimp only at hSw
                        go_simp
                        try with_reducible rfl
                      try simp only [List.getElem_toArray, List.getElem_cons_zero, List.getElem_cons_succ, Act.put, List.setIfInBounds_toArray, List.set_cons_zero, List.set_cons_succ]
                      refine wpAnyH_take (i := 7) (v := ?_) rfl (by kernel_rfl) (by kernel_rfl) (by kernel_rfl) (fun _ _ _ h => h) (Or.inl ⟨by kernel_rfl, ?_⟩) (by assumption) ?_
                      rotate_left 1
                      · intro w hSw
                        try dsimp only at hSw
                        go_simp
                        try with_reducible rfl
                      try simp only [List.getElem_toArray, List.getElem_cons_zero, List.getElem_cons_succ, Act.put, List.setIfInBounds_toArray, List.set_cons_zero, List.set_cons_succ]
                      refine wpAnyH_take (i := 8) (v := ?_) rfl (by kernel_rfl) (by kernel_rfl) (by kernel_rfl) (fun _ _ _ h => h) (Or.inl ⟨by kernel_rfl, ?_⟩) (by assumption) ?_
                      rotate_left 1
                      · intro w hSw
                        try dsimp only at hSw
                        go_simp
                        try with_reducible rfl
                      try simp only [List.getElem_toArray, List.getElem_cons_zero, List.getElem_cons_succ, Act.put, List.setIfInBounds_toArray, List.set_cons_zero, List.set_cons_succ]
                      refine wpAnyH_take (i := 9) (v := ?_) rfl (by kernel_rfl) (by kernel_rfl) (by kernel_rfl) (fun _ _ _ h => h) (Or.inl ⟨by kernel_rfl, ?_⟩) (by assumption) ?_
                      rotate_left 1
                      · intro w hSw
                        try dsimp only at hSw
                        go_simp
                        try with_reducible rfl
                      try simp only [List.getElem_toArray, List.getElem_cons_zero, List.getElem_cons_succ, Act.put, List.setIfInBounds_toArray, List.set_cons_zero, List.set_cons_succ]
                      refine wpAnyH_ready (rs := [3]) (by kernel_rfl) (by simp) ?_
                      refine AllReadyH.cons rfl (fun K hK => ?_) AllReadyH.nil
                      go_simp
                      refine (CV.out _).mono ?_; rintro e w2 ⟨rfl, hb2⟩
                      go_wp2_with fail
                      refine hK.out _ _ ((Rs8.step (Rs8.shut (by assumption)) (by assumption)).open_) (fun hHeld => ?_)
                      clear hK K
                      try simp only [List.getElem_toArray, List.getElem_cons_zero, List.getElem_cons_succ, Act.put, List.setIfInBounds_toArray, List.set_cons_zero, List.set_cons_succ]
                      refine wpAnyH_take (i := 10) (v := ?_) rfl (by kernel_rfl) (by kernel_rfl) (by kernel_rfl) (fun _ _ _ h => h) (Or.inl ⟨by kernel_rfl, ?_⟩) (by assumption) ?_
                      rotate_left 1
                      · intro w hSw
                        try dsimp only at hSw
                        go_simp
                        try with_reducible rfl
                      try simp only [List.getElem_toArray, List.getElem_cons_zero, List.getElem_cons_succ, Act.put, List.setIfInBounds_toArray, List.set_cons_zero, List.set_cons_succ]
                      refine wpAnyH_take (i := 11) (v := ?_) rfl (by kernel_rfl) (by kernel_rfl) (by kernel_rfl) (fun _ _ _ h => h) (Or.inl ⟨by kernel_rfl, ?_⟩) (by assumption) ?_
                      rotate_left 1
                      · intro w hSw
                        try dsimp only at hSw
                        go_simp
                        try with_reducible rfl
                      try simp only [List.getElem_toArray, List.getElem_cons_zero, List.getElem_cons_succ, Act.put, List.setIfInBounds_toArray, List.set_cons_zero, List.set_cons_succ]
                      refine wpAnyH_take (i := 12) (v := ?_) rfl (by kernel_rfl) (by kernel_rfl) (by kernel_rfl) (fun _ _ _ h => h) (Or.inl ⟨by kernel_rfl, ?_⟩) (by assumption) ?_
                      rotate_left 1
                      · intro w hSw
                        try dsimp only at hSw
                        go_simp
                        try with_reducible rfl
                      try simp only [List.getElem_toArray, List.getElem_cons_zero, List.getElem_cons_succ, Act.put, List.setIfInBounds_toArray, List.set_cons_zero, List.set_cons_succ]
                      refine wpAnyH_take (i := 13) (v := ?_) rfl (by kernel_rfl) (by kernel_rfl) (by kernel_rfl) (fun _ _ _ h => h) (Or.inl ⟨by kernel_rfl, ?_⟩) (by assumption) ?_
                      rotate_left 1
                      · intro w hSw
                        try dsimp only at hSw
                        go_simp
                        try with_reducible rfl
                      try simp only [List.getElem_toArray, List.getElem_cons_zero, List.getElem_cons_succ, Act.put, List.setIfInBounds_toArray, List.set_cons_zero, List.set_cons_succ]
                      refine wpAnyH_take (i := 14) (v := ?_) rfl (by kernel_rfl) (by kernel_rfl) (by kernel_rfl) (fun _ _ _ h => h) (Or.inl ⟨by kernel_rfl, ?_⟩) (by assumption) ?_
                      rotate_left 1
                      · intro w hSw
                        try dsimp only at hSw
                        go_simp
                        try with_reducible rfl
                      try simp only [List.getElem_toArray, List.getElem_cons_zero, List.getElem_cons_succ, Act.put, List.setIfInBounds_toArray, List.set_cons_zero, List.set_cons_succ]
                      refine wpAnyH_take (i := 15) (v := ?_) rfl (by kernel_rfl) (by kernel_rfl) (by kernel_rfl) (fun _ _ _ h => h) (Or.inl ⟨by kernel_rfl, ?_⟩) (by assumption) ?_
                      rotate_left 1
                      · intro w hSw
                        try dsimp only at hSw
                        go_simp
                        try with_reducible rfl
                      try simp only [List.getElem_toArray, List.getElem_cons_zero, List.getElem_cons_succ, Act.put, List.setIfInBounds_toArray, List.set_cons_zero, List.set_cons_succ]
                      refine wpAnyH_take (i := 16) (v := ?_) rfl (by kernel_rfl) (by kernel_rfl) (by kernel_rfl) (fun _ _ _ h => h) (Or.inl ⟨by kernel_rfl, ?_⟩) (by assumption) ?_
                      rotate_left 1
                      · intro w hSw
                        try dsimp only at hSw
                        go_simp
                        try with_reducible rfl
                      try simp only [List.getElem_toArray, List.getElem_cons_zero, List.getElem_cons_succ, Act.put, List.setIfInBounds_toArray, List.set_cons_zero, List.set_cons_succ]
                      refine wpAnyH_take (i := 17) (v := ?_) rfl (by kernel_rfl) (by kernel_rfl) (by kernel_rfl) (fun _ _ _ h => h) (Or.inl ⟨by kernel_rfl, ?_⟩) (by assumption) ?_
                      rotate_left 1
                      · intro w hSw
                        try dsimp only at hSw
                        go_simp
                        try with_reducible rfl
                      try simp only [List.getElem_toArray, List.getElem_cons_zero, List.getElem_cons_succ, Act.put, List.setIfInBounds_toArray, List.set_cons_zero, List.set_cons_succ]
                      refine wpAnyH_take (i := 18) (v := ?_) rfl (by kernel_rfl) (by kernel_rfl) (by kernel_rfl) (fun _ _ _ h => h) (Or.inl ⟨by kernel_rfl, ?_⟩) (by assumption) ?_
                      rotate_left 1
                      · intro w hSw
                        try dsimp only at hSw
                        go_simp
                        try with_reducible rfl
                      try simp only [List.getElem_toArray, List.getElem_cons_zero, List.getElem_cons_succ, Act.put, List.setIfInBounds_toArray, List.set_cons_zero, List.set_cons_succ]
                      refine wpAnyH_take (i := 19) (v := ?_) rfl (by kernel_rfl) (by kernel_rfl) (by kernel_rfl) (fun _ _ _ h => h) (Or.inl ⟨by kernel_rfl, ?_⟩) (by assumption) ?_
                      rotate_left 1
                      · intro w hSw
                        try dsimp only at hSw
                        go_simp
                        try with_reducible rfl
                      try simp only [List.getElem_toArray, List.getElem_cons_zero, List.getElem_cons_succ, Act.put, List.setIfInBounds_toArray, List.set_cons_zero, List.set_cons_succ]
                      refine wpAnyH_ready (rs := [20]) (by kernel_rfl) (by simp) ?_
                      refine AllReadyH.cons rfl (fun K hK => ?_) AllReadyH.nil
                      go_simp
                      refine (CF1.out _).mono ?_; rintro e w2 ⟨rfl, hb2⟩
                      go_wp2_with fail
                      refine hK.out _ _ ((Rs8.step (Rs8.shut (by assumption)) (by assumption)).open_) (fun hHeld => ?_)
                      clear hK K
                      try simp only [List.getElem_toArray, List.getElem_cons_zero, List.getElem_cons_succ, Act.put, List.setIfInBounds_toArray, List.set_cons_zero, List.set_cons_succ]
                      refine wpAnyH_take (i := 21) (v := ?_) rfl (by kernel_rfl) (by kernel_rfl) (by kernel_rfl) (fun _ _ _ h => h) (Or.inl ⟨by kernel_rfl, ?_⟩) (by assumption) ?_
                      rotate_left 1
                      · intro w hSw
                        try dsimp only at hSw
                        go_simp
                        try with_reducible rfl
                      try simp only [List.getElem_toArray, List.getElem_cons_zero, List.getElem_cons_succ, Act.put, List.setIfInBounds_toArray, List.set_cons_zero, List.set_cons_succ]
                      refine wpAnyH_take (i := 22) (v := ?_) rfl (by kernel_rfl) (by kernel_rfl) (by kernel_rfl) (fun _ _ _ h => h) (Or.inl ⟨by kernel_rfl, ?_⟩) (by assumption) ?_
                      rotate_left 1
                      · intro w hSw
                        try dsimp only at hSw
                        go_simp
                        try with_reducible rfl
                      try simp only [List.getElem_toArray, List.getElem_cons_zero, List.getElem_cons_succ, Act.put, List.setIfInBounds_toArray, List.set_cons_zero, List.set_cons_succ]
                      refine wpAnyH_done (by kernel_rfl) ?_ _

                      all_goals
                        go_wp2_with fail
                        go_roundg (s.size - nx)
                        case measure => omega
                        case rel => exact ⟨nx, u + 1, out ++ ft, by omega, by go_num, by go_num, rfl, hnx2, by omega, by rw [ByteArray.size_append]; omega, by rw [HN.out, HT2.out, HOUT.out], (Rs8.shut (by assumption)).be⟩
                    · have x99 : ((pk.toNat : Int) != 99) = true := by
                        have this : ((pk.toNat : Int) == 99) = false := ne_int pk 99 (by omega) h99
                        rw [bne, this]; rfl
                      have HT2 := Lib.hid (show toldL ⟨pl, true, pw, pp, pk⟩ ⟨(0 : Int), (⟨#[]⟩ : ByteArray), (0 : Int)⟩ = fillL bl pw pl true by
                        rw [HTL.out, show (pk == 115) = false by simpa using h115, show (pk == 99) = false by simpa using h99]; rfl)
                      clear h115 h99
                      have CF1 := Lib.hid (CF.out true)
                      have hfq := hfl true
                      generalize fillL bl (pw : Int) pl true = fl at *
                      have hsz : (ByteArray.mk fl.toArray).size ≤ 1048676 := by rw [bszS]; exact hfq
                      have HOUT := Lib.hid (app_l out fl)
                      generalize (ByteArray.mk fl.toArray) = ft at *
                      generalize (ByteArray.mk bl.toArray) = bt at *
                      have hsum : ¬ 9223372036854775807 < out.size + ft.size := by omega
                      clear CF hfl HTL hfq
                      go_wp2_with fail
                      go_region_held3 (fun w' => ((w'.cell? ⟨w1.heap.size, 0, none⟩ = some (.bool pl) ∧ w'.cell? ⟨w1.heap.size, 1, none⟩ = some (.bool true) ∧ w'.cell? ⟨w1.heap.size, 2, none⟩ = some (.int .i64 (pw : Int)) ∧ w'.cell? ⟨w1.heap.size, 3, none⟩ = some (.int .i64 pp) ∧ w'.cell? ⟨w1.heap.size, 4, none⟩ = some (.int .u8 (pk.toNat : Int))) ∧ (w'.cell? ⟨w1.heap.size + 1, 0, none⟩ = some (.int .i64 (0 : Int)) ∧ w'.cell? ⟨w1.heap.size + 1, 1, none⟩ = some (.string (⟨#[]⟩ : ByteArray)) ∧ w'.cell? ⟨w1.heap.size + 1, 2, none⟩ = some (.int .i64 (0 : Int)))) ∧ w1.heap.size + 1 < w'.heap.size ∧ Below w.heap.size w w') (first | exact HS0.out.drew.open_ | exact (Rs8.step HS0.out.drew (by assumption)).open_ | exact (Rs8.step (Rs8.shut (by assumption)) (by assumption)).open_) (first | (go_at_call 48; refine (CV.out _).mono ?_; rintro e w2 ⟨rfl, hb2⟩) | (go_at_call 18; refine (CF1.out _).mono ?_; rintro e w2 ⟨rfl, hb2⟩))
                      all_goals
                        go_wp2_with fail
                        go_roundg (s.size - nx)
                        case measure => omega
                        case rel => exact ⟨nx, u + 1, out ++ ft, by omega, by go_num, by go_num, rfl, hnx2, by omega, by rw [ByteArray.size_append]; omega, by rw [HN.out, HT2.out, HOUT.out], (Rs8.shut (by assumption)).be⟩
        · have k2 : ¬ (kp : Int) < (s.size : Int) := by omega
          have HN := Lib.hid (show spV (spA s.data.toList ts) = .tuple #[.string ⟨#[]⟩, .bool false] by
            rw [HP.out, drop_atL s k hlt, h37, ← hkp, drop_endL s kp (by omega), spB_none _ (by simp) (by simp [rdP, rdF, rdD, rdQ])]; rfl)
          have C := Lib.hid (fun W => read_any s kp W HS.out (by omega))
          have HKP := Lib.hid hkp
          clear h37 hkp
          go_wp2_with fail
          refine (C.out _).mono ?_
          rintro en w1 ⟨hb1, ⟨hno, a0, b0, n0, p0, kd0, rfl⟩ | ⟨p, r, hsome, rfl⟩⟩
          · have HB1 := Lib.hid (HB.out.trans (hb1.mono HB.out.size))
            clear hb1 hno
            go_wp2_with fail
            go_ret2
            exact ⟨by rw [HN.out]; rfl, by first | exact HB1.out | exact HB1.out.alloc HB1.out.size _⟩
          · exfalso
            rw [drop_endL s kp (by omega)] at hsome
            revert hsome
            simp [rdP, rdF, rdD, rdQ]
      · have x37 : ((s[k].toNat : Int) != 37) = true := by
          have this : ((s[k].toNat : Int) == 37) = false := ne_int s[k] 37 (by omega) h37
          rw [bne, this]; rfl
        have HN := Lib.hid (show spV (spA s.data.toList ts) = spV (spB (out.data.toList ++ [s[k]]) (s.data.toList.drop (k + 1)) (ts.drop u)) by
          rw [HP.out, drop_atL s k hlt, spB_skip _ _ _ h37])
        have hsl : ∀ W, (Instr.slice 9 (.string s) (some (.int .i64 (k : Int))) (some (.int .i64 (kp : Int))) none).run Tryz.prog W = .ok (.string ⟨#[s[k]]⟩) W := fun W => by
          rw [run_slice_string W _ s .i64 .i64 _ _ Tryz.underlying9 (by omega) (by omega) (by omega), Int.toNat_natCast, Int.toNat_natCast, hkp, one_at s k hlt]
        have HOUT := Lib.hid (app_l out [s[k]])
        have HKP := Lib.hid hkp
        have hsum : ¬ 9223372036854775807 < out.size + 1 := by omega
        clear h37 hkp
        go_wp2_with fail
        go_roundg (s.size - kp)
        case measure => have := HKP.out; omega
        case rel => exact ⟨kp, u, out ++ ⟨#[s[k]]⟩, by omega, rfl, rfl, rfl, by omega, by have := HKP.out; omega, by rw [ByteArray.size_append]; have := HKP.out; show _ + 1 ≤ _; omega, by rw [HN.out, HKP.out, ← HOUT.out], HB.out⟩
    · have HN := Lib.hid (show spV (spA s.data.toList ts) = if out.size ≤ 4000 then .tuple #[.string out, .bool true] else .tuple #[.string ⟨#[]⟩, .bool false] by
        rw [HP.out, drop_endL s k (by omega), spV_end])
      by_cases hz : out.size ≤ 4000
      · have hzi : ¬ (4000 : Int) < (out.size : Int) := by omega
        go_wp2_with fail
        go_ret2
        exact ⟨by rw [HN.out, if_pos hz]; rfl, HB.out⟩
      · have hzi : (4000 : Int) < (out.size : Int) := by omega
        go_wp2_with fail
        go_ret2
        exact ⟨by rw [HN.out, if_neg hz]; rfl, HB.out⟩
end Go.Proofs.YthffjcclcladoaaGreatDoor.kit
