/-
  Contract of spec.SetCount over this seat's translation. Conditions: each theorem names its own.
-/
import Derived.Test.YtghmkfehohgmgaaFdH
import Derived.Deep.AppendLies
namespace Go.Proofs.Ytghmkfehohgmgaa.kit
open Go.ChangeShapes Go.WideShapes Go.ChangeAt Go.RowKit
set_option linter.unusedVariables false

/-- append of one text as one step of a region that draws its order; what it turns. -/
theorem step_append_strF {w : World} {ops : Array Oper} {o : Oper} {a : Act} {K : Act → World → Prop} {Q : Exit → Act → World → Prop} {E : Prop} (hgd : o.guard = none) (s x : Operand)
    (ho : o.op = .call { callee := .builtin .append, args := #[s, x], argTypes := #[28, 28] }) (B : Nat) (v : Value) (xs : List (List UInt8)) (hs : a.eval s = v) (hown : OwnS 9 B w v xs)
    (g : Nat) (c : Nat) (y : List UInt8) (hx : a.eval x = .slice (some ⟨g, 0, none⟩) 1 c) (hnew : w.cell? ⟨g, 0, none⟩ = some (eS y))
    (hl : xs.length + 1 ≤ 1099511627776) (hB : B ≤ w.heap.size)
    (h : ∀ v' w', OwnS 9 B w' v' (xs ++ [y]) → w.grownBy w' v.ownBlock → (∀ k, v'.ownBlock = some k → v.ownBlock = some k ∨ w.heap.size ≤ k) → K (a.put o.dst v') w') : if Region.wanted o (yielded ops a.tmps) = true then Oper.wp Try.prog o a w K Q else E := by
  obtain ⟨i0, hi, hz0, hz1, hz2⟩ := info_parts Try.infoStr
  have hw : Region.wanted o (yielded ops a.tmps) = true := by simp [Region.wanted, hgd]
  rw [if_pos hw]
  obtain ⟨v', w', hr, h2, h3, h4⟩ := run_append_atF (P := Try.prog) w B 28 o.type 9 i0 _ 1 16 Try.underlying28 hi hz0 hz1 hz2 rfl (by decide) v xs.length _ hown ⟨g, 0, none⟩ c [eS y] (by simp)
    (by
      intro j u hu
      have hj : j = 0 := by have := (List.getElem?_eq_some_iff.1 hu).1; simpa using this
      subst hj
      rw [add_atF, Nat.zero_add, hnew]; simpa using hu)
    (by
      intro u hu
      simp only [List.mem_cons, List.not_mem_nil, or_false] at hu
      subst hu; rfl) (by simp only [maxLen]; omega) (by omega) hB
  have h5 : OwnS 9 B w' v' (xs ++ [y]) := by simpa [OwnS, List.map_append] using h2
  unfold Oper.wp execOp
  simp only [ho, resolve, invoke, builtin, Sem.run_bind, Sem.run_pure, Result.andThen_ok, List.map_toArray, List.map_cons, List.map_nil, hs, hx, hr]
  exact h v' w' h5 h3 h4
set_option maxRecDepth 100000 in
set_option maxHeartbeats 1000000 in
theorem specCount_no (B : Nat) (l : List UInt8) (a : Option Addr) (cap n : Nat) (f : Nat → List UInt8) (i : Int) (o : List UInt8) (w : World) (hn : n ≤ 1048576) (hc : ¬ (0 ≤ i ∧ i ≤ 60)) (hl : Laid n cap a w) (hsl : SlF B w a n f) :
    Calls Try.prog 30 #[recV l a n cap, .int .i64 i, eS o] w (RecPost l n f false w) := by
  have HC := Lib.hid (fun (W : World) (hb : Below w.heap.size w W) => specCopy_any B l a cap n f W hn (hl.kept hb.size) (hsl.kept hb))
  have HI := Lib.hid (fun W => in_any i 0 60 W)
  have hin : inB i 0 60 = false := by rw [← Bool.not_eq_true]; simp only [inB, decide_eq_true_eq]; exact hc
  rw [hin] at HI
  clear hsl hl hin hc
  unfold RecPost
  unfold recV eS at *
  generalize (⟨l.toArray⟩ : ByteArray) = l at *
  generalize (⟨o.toArray⟩ : ByteArray) = o at *
  have HQ := Lib.hid (Wb.new (w.alloc (.cells #[.string l, .slice a n cap] 33)) (.string ⟨#[]⟩) (.slice none 0 0) 33)
  have HB := Lib.hid (show ∀ o1 o2, Below w.heap.size w ((w.alloc o1).alloc o2) from fun o1 o2 => (((Below.refl w.heap.size w).alloc (Nat.le_refl _) _).alloc (by simp) _))
  simp only [World.size_alloc] at HQ
  go_enter Try.func30, Try.ntmps30
  go_wp2_with fail
  refine (HI.out _).mono ?_
  rintro e w1 ⟨rfl, rfl⟩
  go_wp2_with fail
  refine (HC.out _ (HB.out _ _)).mono ?_
  rintro e w2 ⟨v2, rfl, s2, b2⟩
  obtain ⟨a2, c2, hv2, k2⟩ := s2.slF
  rw [rowF_length] at hv2 k2
  subst hv2
  clear s2
  have Q2 := Lib.hid (HQ.out.step b2)
  have B2 := Lib.hid ((HB.out _ _).trans (b2.mono (HB.out _ _).size))
  have S2 := Lib.hid ((k2.congr (f' := f) (fun j hj => by rw [List.getD_eq_getElem?_getD, rowF_get _ _ _ hj]; rfl)).set2 (w.heap.size + 1) (by simp) (.string l) (.slice a2 n c2))
  clear b2 k2
  obtain ⟨c0, c1, f0, f1, lt2⟩ := Q2.out
  go_wp2_with fail
  have Q3 := (Q2.out.put0 (.string l)).put1 (.slice a2 n c2)
  obtain ⟨z0, z1, _, _, _⟩ := Q3
  exact bodyPost_ret (v := .tuple #[.agg #[.string l, .slice a2 n c2], .bool false]) (by simp [results, Try.results30, go_sem, z0, z1]) rfl ⟨a2, c2, rfl, S2.out.mono (by simp; omega), put2_below B2.out (by omega) _ _⟩
theorem fieldOf_gr (l : List UInt8) (m : Nat) (f : Nat → List UInt8) (k : Nat) : fieldOf l m f ((k : Int) + 1) = grF m f k := by
  unfold fieldOf grF
  rw [if_neg (by omega)]
  by_cases c : k < m
  · rw [if_pos (by omega), if_pos c]
    congr 1; omega
  · rw [if_neg (by omega), if_neg c]
set_option maxRecDepth 100000 in
set_option maxHeartbeats 2000000 in
theorem specCount_good (B : Nat) (l : List UInt8) (a : Option Addr) (cap m : Nat) (f : Nat → List UInt8) (N : Nat) (o : List UInt8) (w : World) (hn : m ≤ 1048576) (h60 : N ≤ 60) (hj : (joinF N (grF m f) o).length ≤ 140737488355328) (hok : recOk (joinF N (grF m f) o) N (grF m f) = true) (hl : Laid m cap a w) (hsl : SlF B w a m f) :
    Calls Try.prog 30 #[recV l a m cap, .int .i64 (N : Int), eS o] w (RecPost (joinF N (grF m f) o) N (grF m f) true w) := by
  have HI := Lib.hid (fun W => in_any (N : Int) 0 60 W)
  have hin : inB (N : Int) 0 60 = true := by simp only [inB, decide_eq_true_eq]; omega
  rw [hin] at HI
  have HM := Lib.hid (fun (W : World) (fa : Option Addr) (fc : Nat) (D : Nat) (l2 : List UInt8) (h2 : SlF D W fa N (grF m f)) => made_good D l l2 a cap m fa fc N (grF m f) o W (by omega) hj hok h2)
  have HF := Lib.hid (fun (W : World) (hb : Below w.heap.size w W) (k : Nat) (hk : k < N) => specField_any B l a cap m f ((k : Int) + 1) W (by omega) (by simp [Lit.wf, IntKind.min, IntKind.max, IntKind.signed, IntKind.bits]; omega) (hsl.kept hb))
  simp only [fieldOf_gr] at HF
  have HRL := Lib.hid (fun k => rowF_length k (grF m f))
  have HRS := Lib.hid (fun k => (rowF_succ k (grF m f)).symm)
  have HRG := Lib.hid (fun k (W : World) (a : Option Addr) (D : Nat) (h : SlF D W a k (fun j => (rowF k (grF m f)).getD j [])) => h.congr (f' := grF m f) (fun j hj => by rw [List.getD_eq_getElem?_getD, rowF_get _ _ _ hj]; rfl))
  have H60 := Lib.hid h60
  clear hsl hl hin hj hok hn h60
  unfold RecPost
  generalize hR : (fun k => rowF k (grF m f)) = R at *
  have hR2 : ∀ k, rowF k (grF m f) = R k := fun k => by rw [← hR]
  have hR0 : R 0 = [] := by rw [← hR]; rfl
  have HR0 := Lib.hid hR0
  simp only [hR2] at HRL HRS HRG
  clear hR hR2 hR0
  generalize grF m f = F at *
  generalize joinF N F o = J at *
  unfold recV at *
  have HM0 := Lib.hid (fun W fa fc D => HM.out W fa fc D [])
  have he : eS [] = .string ⟨#[]⟩ := rfl
  rw [he] at HM0
  clear HM he
  generalize hlb : eS l = lv at *
  obtain ⟨lb, hlv⟩ : ∃ lb : ByteArray, lv = .string lb := ⟨_, hlb.symm⟩
  subst hlv
  clear hlb
  generalize hob : eS o = ov at *
  obtain ⟨ob, hov⟩ : ∃ ob : ByteArray, ov = .string ob := ⟨_, hob.symm⟩
  subst hov
  clear hob
  generalize hjb : eS J = jv at *
  obtain ⟨Jb, hjv⟩ : ∃ Jb : ByteArray, jv = .string Jb := ⟨_, hjb.symm⟩
  subst hjv
  clear hjb
  have HQ := Lib.hid ((Wb.new (w.alloc (.cells #[.string lb, .slice a m cap] 33)) (.string ⟨#[]⟩) (.slice none 0 0) 33).alloc (.cells #[.string ⟨#[]⟩, .slice none 0 0] 33))
  have HP := Lib.hid (((Wb.new w (.string lb) (.slice a m cap) 33).alloc (.cells #[.string ⟨#[]⟩, .slice none 0 0] 33)).alloc (.cells #[.string ⟨#[]⟩, .slice none 0 0] 33))
  have HX := Lib.hid (Wb.new ((w.alloc (.cells #[.string lb, .slice a m cap] 33)).alloc (.cells #[.string ⟨#[]⟩, .slice none 0 0] 33)) (.string ⟨#[]⟩) (.slice none 0 0) 33)
  have HB := Lib.hid (show ∀ o1 o2 o3, Below w.heap.size w (((w.alloc o1).alloc o2).alloc o3) from fun o1 o2 o3 => ((((Below.refl w.heap.size w).alloc (Nat.le_refl _) _).alloc (by simp) _).alloc (by simp; omega) _))
  simp only [World.size_alloc] at HQ HX
  have G0 := Lib.hid (show Gr w (w.heap.size + 1 + 1) lb a m cap ⟨#[]⟩ [] (((w.alloc (.cells #[.string lb, .slice a m cap] 33)).alloc (.cells #[.string ⟨#[]⟩, .slice none 0 0] 33)).alloc (.cells #[.string ⟨#[]⟩, .slice none 0 0] 33)) none 0 from
    ⟨World.ownsRow_nil _ _ _ _, HX.out, HP.out, HQ.out, by simp [Value.ownBlock], by omega, HB.out _ _ _⟩)
  go_enter Try.func30, Try.ntmps30
  go_wp2_with fail
  refine (HI.out _).mono ?_
  rintro e w1 ⟨rfl, rfl⟩
  go_wp2_with fail
  go_loopg [9] (N) (fun gg iv wr => ∃ (k : Nat) (va : Option Addr) (vc : Nat), k + gg = N ∧ iv = .int .i64 ((k : Int) + 1) ∧ Gr w (w.heap.size + 1 + 1) lb a m cap ⟨#[]⟩ (R k) wr va vc)
  case atStart => exact ⟨0, none, 0, by omega, by go_num, by rw [HR0.out]; exact G0.out⟩
  case round =>
    obtain ⟨k, va, vc, hkg, rfl, hg⟩ := hrel
    have HG := Lib.hid hg
    clear hg
    have hrl := HRL.out k
    have HOW := Lib.hid (show OwnS 9 (w.heap.size + 2) wr (.slice va k vc) (R k) from by have := HG.out.own; rw [hrl] at this; exact this)
    have HNE := Lib.hid (show Value.ownBlock (.slice va k vc) ≠ some (w.heap.size + 1 + 1) from by have := HG.out.ne; rw [hrl] at this; exact this)
    have HBX := Lib.hid (show Wb (w.heap.size + 1 + 1) (.string ⟨#[]⟩) (.slice va k vc) wr from by have := HG.out.box; rw [hrl] at this; exact this)
    have HRLk := Lib.hid hrl
    have HKG := Lib.hid hkg
    clear hrl hkg
    by_cases hlt : k < N
    · obtain ⟨c0, c1, f0, f1, lt⟩ := HBX.out
      obtain ⟨p0, p1, _, _, lp⟩ := HG.out.old
      have HFk := Lib.hid (fun W hb => HF.out W hb k hlt)
      obtain ⟨yb, hyb⟩ : ∃ yb, eS (F k) = .string yb := ⟨_, rfl⟩
      rw [hyb] at HFk
      have HYB := Lib.hid hyb
      clear hyb
      have i1 : (k : Int) + 1 ≤ (N : Int) := by omega
      have hkw : wrap64 ((k : Int) + 1) = (k : Int) + 1 := by have := H60.out; unfold wrap64; omega
      have hkw2 : wrap64 ((k : Int) + 1 + 1) = (k : Int) + 1 + 1 := by have := H60.out; unfold wrap64; omega
      have HL1 := Lib.hid (show (R k).length + 1 ≤ 1099511627776 by rw [HRLk.out]; have := H60.out; omega)
      have hz : w.heap.size + 1 + 1 < wr.heap.size := lt
      have HD1 := Lib.hid ((Below.refl wr.heap.size wr).drew)
      have HWR := Lib.hid HG.out.bel
      go_wp2_with fail
      go_region_law (first | (refine step_append_strF rfl (.tmp 22) (.tmp 26) rfl (w.heap.size + 2) (.slice va k vc) (R k) (by simp [Act.eval]) (((HOW.out.kept HD1.out).kept b3).alloc _) w3.heap.size 1 (F k) (by simp [Act.eval]) (by rw [HYB.out]; exact cell_one w3 _ _) HL1.out (by simp; omega) ?_; intro v4 w4 ho4 hg4 hv4; obtain ⟨va4, vc4, hv, _⟩ := ho4.slF; subst hv; obtain ⟨q0, q1, z0, z1, _⟩ := (((HBX.out.step HD1.out).step b3).alloc _).grown hg4 HNE.out) | (go_simp; go_at_call 24; refine (HFk.out _ (HWR.out.drew)).mono ?_; rintro e w3 ⟨rfl, b3⟩; obtain ⟨d0, d1, d2, d3, dl⟩ := (HBX.out.step HD1.out).step b3; have h3 : wr.heap.size ≤ w3.heap.size := b3.size))
      all_goals
        have hlen : (R k ++ [F k]).length = (R k).length + 1 := by simp
        rw [hlen] at ho4 hv4
        have hob : Value.ownBlock (.slice va k vc) = Value.ownBlock (.slice va (R k).length vc) := by rw [HRLk.out]
        rw [hob] at hg4 hv4
        have hnew := HG.out.more ((HD1.out.trans (b3.mono (Nat.le_refl _))).alloc h3 (.cells #[.string yb] 9)) (F k) (n' := (R k).length + 1) hlen.symm ho4 hg4 hv4
        rw [HRS.out k] at hnew
        have HNW := Lib.hid hnew
        clear hnew ho4 hg4 hv4 d0 d1 d2 d3 q0 q1 z0 z1 b3
        go_wp2_with fail
        go_roundg (N - (k + 1))
        case measure => have := HKG.out; omega
        case rel => exact ⟨k + 1, va4, vc4, by omega, by go_num, HNW.out⟩
    · obtain rfl : k = N := by have := HKG.out; omega
      obtain ⟨a5, c5, hv5, k5⟩ := HOW.out.slF
      simp only [Value.slice.injEq] at hv5
      obtain ⟨rfl, hv6, rfl⟩ := hv5
      clear hv6
      rw [HRLk.out] at k5
      have K5 := Lib.hid (HRG.out _ _ _ _ k5)
      have i1 : ¬ ((k : Int) + 1 ≤ (k : Int)) := by omega
      have B5 := Lib.hid HG.out.bel
      have Q5 := Lib.hid HG.out.res
      obtain ⟨d0, d1, _, _, ld⟩ := HG.out.old
      obtain ⟨e0, e1, _, _, le⟩ := HBX.out
      clear k5
      go_wp2_with fail
      refine (HM0.out _ _ _ _ K5.out).mono ?_
      rintro e w6 ⟨rfl, b6⟩
      have Q6 := Lib.hid (Q5.out.step b6)
      have B6 := Lib.hid (B5.out.trans (b6.mono B5.out.size))
      have S6 := Lib.hid ((K5.out.kept b6).set2 (w.heap.size + 1) (by omega) (.string Jb) (.slice va k vc))
      clear b6 d0 d1 e0 e1
      obtain ⟨z0, z1, z2, z3, z4⟩ := Q6.out
      go_wp2_with fail
      have Q7 := (Q6.out.put0 (.string Jb)).put1 (.slice va k vc)
      obtain ⟨y0, y1, _, _, _⟩ := Q7
      exact bodyPost_ret (v := .tuple #[.agg #[.string Jb, .slice va k vc], .bool true]) (by simp [results, Try.results30, go_sem, y0, y1]) rfl ⟨_, _, rfl, S6.out.mono (by omega), put2_below B6.out (by omega) _ _⟩
set_option maxRecDepth 100000 in
set_option maxHeartbeats 2000000 in
theorem specCount_bad (B : Nat) (l : List UInt8) (a : Option Addr) (cap m : Nat) (f : Nat → List UInt8) (N : Nat) (o : List UInt8) (w : World) (hn : m ≤ 1048576) (h60 : N ≤ 60) (hj : (joinF N (grF m f) o).length ≤ 140737488355328) (hok : recOk (joinF N (grF m f) o) N (grF m f) = false) (hl : Laid m cap a w) (hsl : SlF B w a m f) :
    Calls Try.prog 30 #[recV l a m cap, .int .i64 (N : Int), eS o] w (RecPost l m f false w) := by
  have HI := Lib.hid (fun W => in_any (N : Int) 0 60 W)
  have hin : inB (N : Int) 0 60 = true := by simp only [inB, decide_eq_true_eq]; omega
  rw [hin] at HI
  have HM := Lib.hid (fun (W : World) (fa : Option Addr) (fc : Nat) (D : Nat) (l2 : List UInt8) (hb : Below w.heap.size w W) (h2 : SlF D W fa N (grF m f)) => made_bad D B l l2 a cap m f fa fc N (grF m f) o W (by omega) hn hj hok (hl.kept hb.size) (hsl.kept hb) h2)
  have HF := Lib.hid (fun (W : World) (hb : Below w.heap.size w W) (k : Nat) (hk : k < N) => specField_any B l a cap m f ((k : Int) + 1) W (by omega) (by simp [Lit.wf, IntKind.min, IntKind.max, IntKind.signed, IntKind.bits]; omega) (hsl.kept hb))
  simp only [fieldOf_gr] at HF
  have HRL := Lib.hid (fun k => rowF_length k (grF m f))
  have HRS := Lib.hid (fun k => (rowF_succ k (grF m f)).symm)
  have HRG := Lib.hid (fun k (W : World) (a : Option Addr) (D : Nat) (h : SlF D W a k (fun j => (rowF k (grF m f)).getD j [])) => h.congr (f' := grF m f) (fun j hj => by rw [List.getD_eq_getElem?_getD, rowF_get _ _ _ hj]; rfl))
  have H60 := Lib.hid h60
  clear hsl hl hin hj hok hn h60
  unfold RecPost
  generalize hR : (fun k => rowF k (grF m f)) = R at *
  have hR2 : ∀ k, rowF k (grF m f) = R k := fun k => by rw [← hR]
  have hR0 : R 0 = [] := by rw [← hR]; rfl
  have HR0 := Lib.hid hR0
  simp only [hR2] at HRL HRS HRG
  clear hR hR2 hR0
  generalize grF m f = F at *
  unfold recV at *
  have HM0 := Lib.hid (fun W fa fc D => HM.out W fa fc D [])
  have he : eS [] = .string ⟨#[]⟩ := rfl
  rw [he] at HM0
  clear HM he
  generalize hlb : eS l = lv at *
  obtain ⟨lb, hlv⟩ : ∃ lb : ByteArray, lv = .string lb := ⟨_, hlb.symm⟩
  subst hlv
  clear hlb
  generalize hob : eS o = ov at *
  obtain ⟨ob, hov⟩ : ∃ ob : ByteArray, ov = .string ob := ⟨_, hob.symm⟩
  subst hov
  clear hob
  have HQ := Lib.hid ((Wb.new (w.alloc (.cells #[.string lb, .slice a m cap] 33)) (.string ⟨#[]⟩) (.slice none 0 0) 33).alloc (.cells #[.string ⟨#[]⟩, .slice none 0 0] 33))
  have HP := Lib.hid (((Wb.new w (.string lb) (.slice a m cap) 33).alloc (.cells #[.string ⟨#[]⟩, .slice none 0 0] 33)).alloc (.cells #[.string ⟨#[]⟩, .slice none 0 0] 33))
  have HX := Lib.hid (Wb.new ((w.alloc (.cells #[.string lb, .slice a m cap] 33)).alloc (.cells #[.string ⟨#[]⟩, .slice none 0 0] 33)) (.string ⟨#[]⟩) (.slice none 0 0) 33)
  have HB := Lib.hid (show ∀ o1 o2 o3, Below w.heap.size w (((w.alloc o1).alloc o2).alloc o3) from fun o1 o2 o3 => ((((Below.refl w.heap.size w).alloc (Nat.le_refl _) _).alloc (by simp) _).alloc (by simp; omega) _))
  simp only [World.size_alloc] at HQ HX
  have G0 := Lib.hid (show Gr w (w.heap.size + 1 + 1) lb a m cap ⟨#[]⟩ [] (((w.alloc (.cells #[.string lb, .slice a m cap] 33)).alloc (.cells #[.string ⟨#[]⟩, .slice none 0 0] 33)).alloc (.cells #[.string ⟨#[]⟩, .slice none 0 0] 33)) none 0 from
    ⟨World.ownsRow_nil _ _ _ _, HX.out, HP.out, HQ.out, by simp [Value.ownBlock], by omega, HB.out _ _ _⟩)
  go_enter Try.func30, Try.ntmps30
  go_wp2_with fail
  refine (HI.out _).mono ?_
  rintro e w1 ⟨rfl, rfl⟩
  go_wp2_with fail
  go_loopg [9] (N) (fun gg iv wr => ∃ (k : Nat) (va : Option Addr) (vc : Nat), k + gg = N ∧ iv = .int .i64 ((k : Int) + 1) ∧ Gr w (w.heap.size + 1 + 1) lb a m cap ⟨#[]⟩ (R k) wr va vc)
  case atStart => exact ⟨0, none, 0, by omega, by go_num, by rw [HR0.out]; exact G0.out⟩
  case round =>
    obtain ⟨k, va, vc, hkg, rfl, hg⟩ := hrel
    have HG := Lib.hid hg
    clear hg
    have hrl := HRL.out k
    have HOW := Lib.hid (show OwnS 9 (w.heap.size + 2) wr (.slice va k vc) (R k) from by have := HG.out.own; rw [hrl] at this; exact this)
    have HNE := Lib.hid (show Value.ownBlock (.slice va k vc) ≠ some (w.heap.size + 1 + 1) from by have := HG.out.ne; rw [hrl] at this; exact this)
    have HBX := Lib.hid (show Wb (w.heap.size + 1 + 1) (.string ⟨#[]⟩) (.slice va k vc) wr from by have := HG.out.box; rw [hrl] at this; exact this)
    have HRLk := Lib.hid hrl
    have HKG := Lib.hid hkg
    clear hrl hkg
    by_cases hlt : k < N
    · obtain ⟨c0, c1, f0, f1, lt⟩ := HBX.out
      obtain ⟨p0, p1, _, _, lp⟩ := HG.out.old
      have HFk := Lib.hid (fun W hb => HF.out W hb k hlt)
      obtain ⟨yb, hyb⟩ : ∃ yb, eS (F k) = .string yb := ⟨_, rfl⟩
      rw [hyb] at HFk
      have HYB := Lib.hid hyb
      clear hyb
      have i1 : (k : Int) + 1 ≤ (N : Int) := by omega
      have hkw : wrap64 ((k : Int) + 1) = (k : Int) + 1 := by have := H60.out; unfold wrap64; omega
      have hkw2 : wrap64 ((k : Int) + 1 + 1) = (k : Int) + 1 + 1 := by have := H60.out; unfold wrap64; omega
      have HL1 := Lib.hid (show (R k).length + 1 ≤ 1099511627776 by rw [HRLk.out]; have := H60.out; omega)
      have hz : w.heap.size + 1 + 1 < wr.heap.size := lt
      have HD1 := Lib.hid ((Below.refl wr.heap.size wr).drew)
      have HWR := Lib.hid HG.out.bel
      go_wp2_with fail
      go_region_law (first | (refine step_append_strF rfl (.tmp 22) (.tmp 26) rfl (w.heap.size + 2) (.slice va k vc) (R k) (by simp [Act.eval]) (((HOW.out.kept HD1.out).kept b3).alloc _) w3.heap.size 1 (F k) (by simp [Act.eval]) (by rw [HYB.out]; exact cell_one w3 _ _) HL1.out (by simp; omega) ?_; intro v4 w4 ho4 hg4 hv4; obtain ⟨va4, vc4, hv, _⟩ := ho4.slF; subst hv; obtain ⟨q0, q1, z0, z1, _⟩ := (((HBX.out.step HD1.out).step b3).alloc _).grown hg4 HNE.out) | (go_simp; go_at_call 24; refine (HFk.out _ (HWR.out.drew)).mono ?_; rintro e w3 ⟨rfl, b3⟩; obtain ⟨d0, d1, d2, d3, dl⟩ := (HBX.out.step HD1.out).step b3; have h3 : wr.heap.size ≤ w3.heap.size := b3.size))
      all_goals
        have hlen : (R k ++ [F k]).length = (R k).length + 1 := by simp
        rw [hlen] at ho4 hv4
        have hob : Value.ownBlock (.slice va k vc) = Value.ownBlock (.slice va (R k).length vc) := by rw [HRLk.out]
        rw [hob] at hg4 hv4
        have hnew := HG.out.more ((HD1.out.trans (b3.mono (Nat.le_refl _))).alloc h3 (.cells #[.string yb] 9)) (F k) (n' := (R k).length + 1) hlen.symm ho4 hg4 hv4
        rw [HRS.out k] at hnew
        have HNW := Lib.hid hnew
        clear hnew ho4 hg4 hv4 d0 d1 d2 d3 q0 q1 z0 z1 b3
        go_wp2_with fail
        go_roundg (N - (k + 1))
        case measure => have := HKG.out; omega
        case rel => exact ⟨k + 1, va4, vc4, by omega, by go_num, HNW.out⟩
    · obtain rfl : k = N := by have := HKG.out; omega
      obtain ⟨a5, c5, hv5, k5⟩ := HOW.out.slF
      simp only [Value.slice.injEq] at hv5
      obtain ⟨rfl, hv6, rfl⟩ := hv5
      clear hv6
      rw [HRLk.out] at k5
      have K5 := Lib.hid (HRG.out _ _ _ _ k5)
      have i1 : ¬ ((k : Int) + 1 ≤ (k : Int)) := by omega
      have B5 := Lib.hid HG.out.bel
      have Q5 := Lib.hid HG.out.res
      obtain ⟨d0, d1, _, _, ld⟩ := HG.out.old
      obtain ⟨e0, e1, _, _, le⟩ := HBX.out
      clear k5
      go_wp2_with fail
      refine (HM0.out _ _ _ _ B5.out K5.out).mono ?_
      rintro e w6 ⟨a6, c6, rfl, s6, b6⟩
      have Q6 := Lib.hid (Q5.out.step b6)
      have S6 := Lib.hid (s6.set2 (w.heap.size + 1) (by omega) (.string lb) (.slice a6 m c6))
      have B6 := Lib.hid (B5.out.trans (b6.mono B5.out.size))
      clear b6 s6 d0 d1 e0 e1
      obtain ⟨z0, z1, z2, z3, z4⟩ := Q6.out
      go_wp2_with fail
      have Q7 := (Q6.out.put0 (.string lb)).put1 (.slice a6 m c6)
      obtain ⟨y0, y1, _, _, _⟩ := Q7
      exact bodyPost_ret (v := .tuple #[.agg #[.string lb, .slice a6 m c6], .bool false]) (by simp [results, Try.results30, go_sem, y0, y1]) rfl ⟨_, _, rfl, S6.out.mono B5.out.size, put2_below B6.out (by omega) _ _⟩
theorem setCount_both (l : List UInt8) (n : Nat) (f : Nat → List UInt8) (i : Int) (o : List UInt8) (hn : n ≤ 1048576) (ho : o.length ≤ 1048576) (hf : ∀ j, j < n → (f j).length ≤ 1048576) :
    ∃ (L : List UInt8) (N : Nat) (F : Nat → List UInt8) (q : Bool), N ≤ 1048640 ∧
      (∀ W a1 c1 B, Laid n c1 a1 W → SlF B W a1 n f → Calls Try.prog 30 #[recV l a1 n c1, .int .i64 i, eS o] W (RecPost L N F q W)) ∧
      (∀ W a1 c1 B, Laid n c1 a1 W → SlF B W a1 n f → Calls Try.prog 31 #[recV l a1 n c1, .int .i64 i, eS o] W (RecPostL L N F q W)) := by
  by_cases hc : 0 ≤ i ∧ i ≤ 60
  · obtain ⟨N, rfl⟩ : ∃ N : Nat, i = (N : Int) := ⟨i.toNat, by omega⟩
    have h60 : N ≤ 60 := by omega
    have hj := joinF_bd N (grF n f) o (by omega) ho (fun j hj => by
      unfold grF
      split
      · exact hf j (by assumption)
      · simp)
    have hr := recOk_made N (grF n f) o h60
    by_cases hg : (joinF N (grF n f) o).length ≤ 2000
    · rw [decide_eq_true hg] at hr
      exact ⟨_, N, _, true, by omega, fun W a1 c1 B h1 h2 => specCount_good B l a1 c1 n f N o W hn h60 hj hr h1 h2, fun W a1 c1 B h1 h2 => implCount_good B l a1 c1 n f N o W hn h60 hg h1 h2⟩
    · rw [decide_eq_false hg] at hr
      exact ⟨l, n, f, false, by omega, fun W a1 c1 B h1 h2 => specCount_bad B l a1 c1 n f N o W hn h60 hj hr h1 h2, fun W a1 c1 B h1 h2 => implCount_bad B l a1 c1 n f N o W hn h60 (by omega) hj h1 h2⟩
  · exact ⟨l, n, f, false, by omega, fun W a1 c1 B h1 h2 => specCount_no B l a1 c1 n f i o W hn hc h1 h2, fun W a1 c1 B h1 h2 => implCount_no B l a1 c1 n f i o W hn (by omega) h1 h2⟩
end Go.Proofs.Ytghmkfehohgmgaa.kit
