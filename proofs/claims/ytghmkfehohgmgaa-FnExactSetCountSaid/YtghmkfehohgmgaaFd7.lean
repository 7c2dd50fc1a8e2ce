/-
  Contract of spec.l07Copy over this seat's translation: a record is copied; append of a row of texts. Conditions: each theorem names its own.
-/
import Derived.Test.YtghmkfehohgmgaaFd6
namespace Go.Proofs.Ytghmkfehohgmgaa.kit
open Go.ChangeShapes Go.WideShapes Go.ChangeAt Go.RowKit
set_option linter.unusedVariables false

/-- append of texts as one step of a region that draws its order. -/
theorem step_append_strs {P : Program} {t e : TypeId} (ht : P.underlying t = some (.slice e)) (hinfo : (P.info? e).map (fun i => (i.zero, i.size, i.bytes)) = some (some (.string ⟨#[]⟩), 1, 16))
    {w : World} {ops : Array Oper} {o : Oper} {a : Act} {K : Act → World → Prop} {Q : Exit → Act → World → Prop} {E : Prop} (hgd : o.guard = none) (s x : Operand)
    (ho : o.op = .call { callee := .builtin .append, args := #[s, x], argTypes := #[t, t] }) (B : Nat) (v : Value) (xs : List (List UInt8)) (hs : a.eval s = v) (hown : OwnS e B w v xs)
    (ad : Addr) (c m : Nat) (news : List (List UInt8)) (hm : m = news.length) (hx : a.eval x = .slice (some ad) m c) (hnews : ∀ (j : Nat) (h : j < news.length), w.cell? (ad.add j) = some (eS news[j]))
    (hl : xs.length + news.length ≤ 1099511627776) (hB : B ≤ w.heap.size)
    (h : ∀ v' w', OwnS e B w' v' (xs ++ news) → Below B w w' → K (a.put o.dst v') w') : if Region.wanted o (yielded ops a.tmps) = true then Oper.wp P o a w K Q else E := by
  obtain ⟨i0, hi, hz0, hz1, hz2⟩ := info_parts hinfo
  subst hm
  have hw : Region.wanted o (yielded ops a.tmps) = true := by simp [Region.wanted, hgd]
  rw [if_pos hw]
  refine wp_append_own _ s x t ho B e i0 (.string ⟨#[]⟩) 1 16 ht hi hz0 hz1 hz2 rfl (by decide) v xs.length _ hs hown ad news.length c (news.map eS) hx (by simp) ?_ ?_ ?_ ?_ hB ?_
  · intro j u hu
    rw [List.getElem?_map] at hu
    cases hj : news[j]? with
    | none => simp [hj] at hu
    | some c =>
      obtain ⟨hjl, hjc⟩ := List.getElem?_eq_some_iff.1 hj
      rw [hnews j hjl, hjc]; simpa [hj] using hu
  · intro u hu; simp at hu; obtain ⟨c, _, rfl⟩ := hu; rfl
  · simp only [maxLen]; omega
  · omega
  · intro v' w' h1 h2 h3
    refine h v' w' ?_ (Below.grown (Below.refl _ _) h2 hB (fun k hk => (World.ownsRow.lt hown k hk).1))
    simpa [OwnS, List.map_append] using h1
theorem TwoE.far {p q : Nat} {s : ByteArray} {a : Option Addr} {n c C : Nat} {W w w' : World} (h : TwoE p q s a n c W w) (hp : p < C) (hq : q < C) (hW : W.heap.size ≤ C) (hb : Below C w w') : TwoE p q s a n c W w' := by
  obtain ⟨⟨x0, x1⟩, ⟨y0, y1⟩, ⟨f0, f1⟩, ⟨l0, l1⟩, b⟩ := h
  have e : ∀ j, w'.cell? ⟨p, j, none⟩ = w.cell? ⟨p, j, none⟩ := fun j => hb.cell (p := ⟨p, j, none⟩) hp
  have e2 : ∀ j, w'.cell? ⟨q, j, none⟩ = w.cell? ⟨q, j, none⟩ := fun j => hb.cell (p := ⟨q, j, none⟩) hq
  have e3 : ∀ j, w'.frozen? ⟨q, j, none⟩ = w.frozen? ⟨q, j, none⟩ := fun j => hb.frozen (p := ⟨q, j, none⟩) hq
  exact ⟨⟨(e _).trans x0, (e _).trans x1⟩, ⟨cellOr_some ((e2 _).trans y0), cellOr_some ((e2 _).trans y1)⟩, ⟨(e3 _).trans f0, (e3 _).trans f1⟩, ⟨Nat.lt_of_lt_of_le l0 hb.size, Nat.lt_of_lt_of_le l1 hb.size⟩, b.trans (hb.mono hW)⟩
theorem OwnS.mono' {e : TypeId} {B B' : Nat} {w : World} {v : Value} {xs : List (List UInt8)} (h : OwnS e B w v xs) (hB : B' ≤ B) : OwnS e B' w v xs := h.mono hB
set_option maxRecDepth 100000 in
set_option maxHeartbeats 1000000 in
theorem specCopy_any (B : Nat) (l : List UInt8) (a : Option Addr) (cap n : Nat) (f : Nat → List UInt8) (w : World) (hn : n ≤ 1048576) (hl : Laid n cap a w) (hsl : SlF B w a n f) :
    Calls Try.prog 42 #[recV l a n cap] w fun e w' => ∃ v, e = .returned (.agg #[eS l, v]) ∧ OwnS 9 w.heap.size w' v (rowF n f) ∧ Below w.heap.size w w' := by
  obtain ⟨hmc, ga, rfl, hga⟩ := hl
  unfold recV
  have HN := Lib.hid (show ∀ W, Below w.heap.size w W → ∀ (j : Nat) (h : j < (rowF n f).length), W.cell? ((⟨ga, 0, none⟩ : Addr).add j) = some (eS (rowF n f)[j]) from fun W hb j hj => by
    rw [rowF_length] at hj
    obtain ⟨g', e, _, h2, h3, _⟩ := hsl j hj
    cases e
    rw [add_atF, Nat.zero_add, hb.cell (p := ⟨ga, j, none⟩) h2, h3]
    simp [rowF])
  have HLN := Lib.hid (rowF_length n f)
  clear hsl
  generalize rowF n f = xs at *
  unfold eS
  generalize (⟨l.toArray⟩ : ByteArray) = s
  have HB := Lib.hid (show ∀ o1 o2 o3, Below w.heap.size w ((((w.alloc o1).alloc o2).alloc o3).drew) from fun o1 o2 o3 => ((((Below.refl w.heap.size w).alloc (Nat.le_refl _) _).alloc (by simp) _).alloc (by simp; omega) _).drew)
  have HT := Lib.hid (TwoE.start (s := s) (a := some ⟨ga, 0, none⟩) (n := n) (c := cap) w 33 33 (.string ⟨#[]⟩) (.slice none 0 0))
  have HO := Lib.hid (show OwnS 9 (w.heap.size + 2) (((w.alloc (.cells #[.string s, .slice (some ⟨ga, 0, none⟩) n cap] 33)).alloc (.cells #[.string ⟨#[]⟩, .slice none 0 0] 33)).alloc (.cells #[] 9)).drew (.slice (some ⟨w.heap.size + 1 + 1, 0, none⟩) 0 0) [] from by
    have := OwnS.drew (ownS_start (B := w.heap.size + 2) (e := 9) (w := (w.alloc (.cells #[.string s, .slice (some ⟨ga, 0, none⟩) n cap] 33)).alloc (.cells #[.string ⟨#[]⟩, .slice none 0 0] 33)) (by simp))
    simpa using this)
  go_enter Try.func42, Try.ntmps42
  go_wp2_with fail
  go_region_law ((refine step_append_strs Try.underlying28 Try.infoStr rfl (.tmp 5) (.tmp 7) rfl (w.heap.size + 2) _ [] (by simp [Act.eval]) HO.out ⟨ga, 0, none⟩ cap n xs HLN.out.symm (by simp [Act.eval]) (HN.out _ (HB.out _ _ _)) (by rw [HLN.out]; simp; omega) (by simp) ?_; intro v' w3 hown3 hbel3; obtain ⟨va, vc, hv, _⟩ := hown3.slF; subst hv; obtain ⟨hc3, hf3⟩ := bcellF hbel3))
  all_goals
    have h6 := ((HT.out.step ((Below.refl _ _).alloc (Nat.le_refl _) (.cells #[] 9))).drew).far (C := w.heap.size + 2) (by omega) (by omega) (by omega) hbel3
    obtain ⟨hx, ⟨y0, y1⟩, hf, ⟨hl0, hl1⟩, hb⟩ := h6
    obtain ⟨z0, z1⟩ := two_put y0 y1 (.string s) (.slice va ([] ++ xs).length vc)
    have HF := Lib.hid (OwnS.mono' ((hown3.set (w.heap.size + 1) 0 (by omega) (.string s)).set (w.heap.size + 1) 1 (by omega) (.slice va ([] ++ xs).length vc)) (B' := w.heap.size) (by omega))
    have HW := Lib.hid ((hb.setCell (p := ⟨w.heap.size + 1, 0, none⟩) (by simp) (.string s)).setCell (p := ⟨w.heap.size + 1, 1, none⟩) (by simp) (.slice va ([] ++ xs).length vc))
    rw [List.nil_append] at *
    generalize (w3.setCell ⟨w.heap.size + 1, 0, none⟩ (.string s)).setCell ⟨w.heap.size + 1, 1, none⟩ (.slice va xs.length vc) = W at *
    clear hx y0 y1 hf hl0 hl1 hb hown3 hbel3 hc3 hf3
    go_wp2_with fail
    exact bodyPost_ret (v := .agg #[.string s, .slice va xs.length vc]) (by simp [results, Try.results42, go_sem, z0, z1]) rfl ⟨_, rfl, HF.out, HW.out⟩
end Go.Proofs.Ytghmkfehohgmgaa.kit
