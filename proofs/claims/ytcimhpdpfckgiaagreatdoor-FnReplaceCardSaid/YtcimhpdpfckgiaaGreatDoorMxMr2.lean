/-
  Contract of impl.Replace over this seat's translation. Conditions: texts of at most 1048576 bytes, a tree that costs at most so much; the table by which bits are told is there.
-/
import Derived.Test.YtcimhpdpfckgiaaGreatDoorMxMr1
import Derived.Test.YtcimhpdpfckgiaaGreatDoorMxMx1
set_option linter.unusedVariables false
set_option linter.unusedSimpArgs false
namespace Go.Proofs.YtcimhpdpfckgiaaGreatDoor.kit
open Go.ChangeShapes Go.WideShapes Go.ChangeAt Go.RowKit Go.Shelf
attribute [local go_sem] Oper.semAt_some
structure RepI (w7 : World) (r s : List UInt8) (b12 g cM cB : Nat) (ps : List (Nat × Nat)) (st : RmS) (X : World) : Prop where
 ok : OkR 4000 st (repSt s r ps).1
 rm : Rm X g b12 4000 4000 st.1 st.2
 many : Boxed X cM 3 (.int .i64 (ps.length : Int))
 behind : Boxed X cB 3 (.int .i64 ((repSt s r ps).2 : Int))
 oth : ∀ k, k < w7.heap.size → k ≠ g → k ≠ b12 → k ≠ cM → k ≠ cB → X.heap[k]? = w7.heap[k]?
 os : X.os = w7.os
 tape : X.tape = w7.tape
 output : X.output = w7.output
 size : w7.heap.size ≤ X.heap.size
theorem Rm.blocks {w w' : World} {g b size cap : Nat} {out : List UInt8} {full : Bool} (h : Rm w g b size cap out full) (hg : w'.heap[g]? = w.heap[g]?) (hb : w'.heap[b]? = w.heap[b]?) : Rm w' g b size cap out full := by
 obtain ⟨⟨rest, h1, h2⟩, h3, h4⟩ := h
 exact ⟨⟨rest, h1.of_block hg, h2⟩, h3.of_block hb, h4⟩
theorem RepI.same {w7 : World} {r s : List UInt8} {b12 g cM cB : Nat} {ps : List (Nat × Nat)} {st : RmS} {X X' : World} (h : RepI w7 r s b12 g cM cB ps st X) (hl : g < w7.heap.size ∧ b12 < w7.heap.size ∧ cM < w7.heap.size ∧ cB < w7.heap.size)
 (hk : ∀ k, k < w7.heap.size → X'.heap[k]? = X.heap[k]?) (hos : X'.os = X.os) (htape : X'.tape = X.tape) (hout : X'.output = X.output) (hz : X.heap.size ≤ X'.heap.size) : RepI w7 r s b12 g cM cB ps st X' :=
 ⟨h.ok, h.rm.blocks (hk _ hl.1) (hk _ hl.2.1), (hk _ hl.2.2.1).trans h.many, (hk _ hl.2.2.2).trans h.behind, fun k h0 h1 h2 h3 h4 => (hk k h0).trans (h.oth k h0 h1 h2 h3 h4), hos.trans h.os, htape.trans h.tape, hout.trans h.output, Nat.le_trans h.size hz⟩
theorem RepI.turns {w7 : World} {r s : List UInt8} {b12 g cM cB m : Nat} {ps : List (Nat × Nat)} {st : RmS} {X X' : World} (h : RepI w7 r s b12 g cM cB ps st X) (hl : g < w7.heap.size ∧ b12 < w7.heap.size ∧ cM < w7.heap.size ∧ cB < w7.heap.size)
 (ht : Turns w7.heap.size m X X') : RepI w7 r s b12 g cM cB ps st X' :=
 h.same hl (fun k hk => ht.low hk (Nat.lt_of_lt_of_le hk h.size)) ht.os ht.tape ht.output ht.size
theorem repFold_snd_mem (s r : List UInt8) : ∀ (ps : List (Nat × Nat)) (st : List UInt8 × Nat), (ps.foldl (repStep s r) st).2 = st.2 ∨ ∃ y ∈ ps, (ps.foldl (repStep s r) st).2 = y.2
 | [], st => .inl rfl
 | p :: ps, st => by
   rcases repFold_snd_mem s r ps (repStep s r st p) with h | ⟨y, hy, h⟩
   · exact .inr ⟨p, by simp, h⟩
   · exact .inr ⟨y, List.mem_cons_of_mem _ hy, h⟩
theorem repSt_snd_le {s r : List UInt8} {ps : List (Nat × Nat)} {b : Nat} (h : ∀ y ∈ ps, y.2 ≤ b) : (repSt s r ps).2 ≤ b := by
 rcases repFold_snd_mem s r ps ([], 0) with e | ⟨y, hy, e⟩
 · unfold repSt; rw [e]; exact Nat.zero_le _
 · unfold repSt; rw [e]; exact h y hy
theorem RepI.next {w7 : World} {r s : List UInt8} {b12 g cM cB : Nat} {ps : List (Nat × Nat)} {st : RmS} {X X3 : World} {pc : List Pc} (h : RepI w7 r s b12 g cM cB ps st X) (hpq : PqAll r pc) (p : Nat × Nat)
 (hr3 : Rm X3 g b12 4000 4000 (putR 4000 ((s.take p.2).drop p.1) (addR 4000 st ((s.take p.1).drop (repSt s r ps).2) 1) pc).1 (putR 4000 ((s.take p.2).drop p.1) (addR 4000 st ((s.take p.1).drop (repSt s r ps).2) 1) pc).2)
 (hoth : ∀ k, k < X.heap.size → k ≠ g → k ≠ b12 → X3.heap[k]? = X.heap[k]?) (hos : X3.os = X.os) (htp : X3.tape = X.tape) (hout : X3.output = X.output) (hz : X.heap.size ≤ X3.heap.size) (hd : cM ≠ g ∧ cM ≠ b12 ∧ cB ≠ g ∧ cB ≠ b12 ∧ cM ≠ cB) (z1 : Int) (hz1 : z1 = (ps.length : Int) + 1) :
 RepI w7 r s b12 g cM cB (ps ++ [p]) (putR 4000 ((s.take p.2).drop p.1) (addR 4000 st ((s.take p.1).drop (repSt s r ps).2) 1) pc) ((X3.setCell ⟨cM, 0, none⟩ (.int .i64 z1)).setCell ⟨cB, 0, none⟩ (.int .i64 (p.2 : Int))) := by
 have hst : ∀ k, k ≠ cM → k ≠ cB → ((X3.setCell ⟨cM, 0, none⟩ (.int .i64 z1)).setCell ⟨cB, 0, none⟩ (.int .i64 (p.2 : Int))).heap[k]? = X3.heap[k]? := fun k h1 h2 => (Below.heap_setCell _ _ _ _ h2).trans (Below.heap_setCell _ _ _ _ h1)
 have m3 : Boxed X3 cM 3 (.int .i64 (ps.length : Int)) := (hoth cM h.many.lt hd.1 hd.2.1).trans h.many
 have b3 : Boxed X3 cB 3 (.int .i64 ((repSt s r ps).2 : Int)) := (hoth cB h.behind.lt hd.2.2.1 hd.2.2.2.1).trans h.behind
 refine ⟨h.ok.step hpq p, hr3.blocks (hst _ (Ne.symm hd.1) (Ne.symm hd.2.2.1)) (hst _ (Ne.symm hd.2.1) (Ne.symm hd.2.2.2.1)), ?_, ?_, fun k h0 h1 h2 h3 h4 => (hst k h3 h4).trans ((hoth k (Nat.lt_of_lt_of_le h0 h.size) h1 h2).trans (h.oth k h0 h1 h2 h3 h4)), hos.trans h.os, htp.trans h.tape, hout.trans h.output, Nat.le_trans h.size (by simpa using hz)⟩
 · rw [show ((ps ++ [p]).length : Int) = z1 by rw [List.length_append, hz1]; simp]
   exact (Below.heap_setCell _ _ _ _ hd.2.2.2.2).trans (m3.set _)
 · rw [repSt_snoc]
   show Boxed _ cB _ (.int .i64 (p.2 : Int))
   have b4 : Boxed (X3.setCell ⟨cM, 0, none⟩ (.int .i64 z1)) cB 3 (.int .i64 ((repSt s r ps).2 : Int)) := (Below.heap_setCell _ _ _ _ (Ne.symm hd.2.2.2.2)).trans b3
   exact b4.set _
theorem addR_full {size : Nat} {st : RmS} {x : List UInt8} {k : Nat} (h : st.2 = true) : (addR size st x k).2 = true := by
 unfold addR; split
 · exact h
 · split
   · rfl
   · exact h
theorem Rm.back2 {w : World} {g b size cap : Nat} {out : List UInt8} {full : Bool} (h : Rm w g b size cap out full) (c : Nat) :
 (convert 22 9 (.slice (some ⟨g, 0, none⟩) out.length c)).run Tryz.prog w = .ok (.string ⟨out.toArray⟩) w := by
 obtain ⟨rest, h1, h2⟩ := h.row
 refine run_convert_bytes_back w 22 9 5 ⟨g, 0, none⟩ c out Tryz.underlying22 Tryz.underlying5 Tryz.underlying9 fun j hj => ?_
 rw [add_atP, Nat.zero_add, h1.cell (by omega)]
 simp [Lib.Lz.bytes, List.getElem?_append, hj]
theorem rep_end {r s : ByteArray} {all : Bool} {ps pre : List (Nat × Nat)} {st st' : RmS} (hok : OkR 4000 st (repSt s.data.toList r.data.toList pre).1) (hok' : OkR 4000 st' (repL s.data.toList r.data.toList pre)) (hm : st.2 = true → st'.2 = true)
 (h : repPs all ps = pre ∨ (all = true ∧ st.2 = true ∧ ∃ rest, ps = pre ++ rest)) :
 repRes r s all ps = if st'.2 = true then .tuple #[.string s, .int .i64 0, .bool false] else .tuple #[.string ⟨st'.1.toArray⟩, .int .i64 (pre.length : Int), .bool true] := by
 unfold repRes
 rcases h with h | ⟨h1, h2, rest, h3⟩
 · rw [h]
   by_cases c : st'.2 = true
   · rw [if_neg (by have := hok'.1 c; omega), if_pos c]
   · have c' : st'.2 = false := by simpa using c
     obtain ⟨e1, e2⟩ := hok'.2 c'
     rw [if_pos e2, if_neg c, e1]
 · have e : repPs all ps = ps := by rw [h1]; rfl
   rw [e, if_pos (hm h2), if_neg]
   have h4 := hok.1 h2
   have h5 := repL_mono s.data.toList r.data.toList pre rest
   rw [h3]; omega
structure RepGo (w7 : World) (r s : List UInt8) (b12 g cM cB : Nat) (all : Bool) (pre : List (Nat × Nat)) (X : World) : Prop where
 one : pre = [] ∨ all = true
 ex : ∃ T, RepI w7 r s b12 g cM cB pre (T, false) X
structure RepOut (w7 : World) (r s : List UInt8) (b12 g cM cB : Nat) (all : Bool) (c : Code) (pre : List (Nat × Nat)) (X : World) : Prop where
 code : c = Code.exit 0
 ex : ∃ (pre' : List (Nat × Nat)) (p : Nat × Nat) (st : RmS), pre = pre' ++ [p] ∧ (pre' = [] ∨ all = true) ∧ (st.2 = true ∨ all = false) ∧ RepI w7 r s b12 g cM cB pre st X
structure RepB (b11 bs ba : Nat) (s : ByteArray) (all : Bool) (ap : Option Addr) (lp cp : Nat) (pc : List Pc) (X : World) : Prop where
 pcs : X.cell? ⟨b11, 0, none⟩ = some (.slice ap lp cp)
 row : PcR 0 X pc ap
 sb : X.cell? ⟨bs, 0, none⟩ = some (.string s)
 ab : X.cell? ⟨ba, 0, none⟩ = some (.bool all)
set_option maxRecDepth 100000 in
set_option maxHeartbeats 8000000 in
theorem replace_in (n : Nat) (hn : 16 ≤ n) (t : RT) (r s : ByteArray) (all : Bool) (a : Option Addr) (cap : Nat) (w : World) (hr : r.size ≤ 1048576) (hs : s.size ≤ 1048576) (hc : RT.cost t ≤ 1048576) (hk : Kids 0 w t.kids a) (hT : BT w) :
 CallsIn Fence.wide n Tryz.prog 10 #[reV t a cap, .string r, .string s, .bool all] w fun e w' => e = .returned (repRes r s all (matchesZ (matchZ s.data.toList t) s.size)) ∧ Below w.heap.size w w' := by
 have hm1 : 1 ≤ n := by omega
 have HRR := qd (fun W => readRepl_any r W hr)
 obtain ⟨k, ss, nn, lo, hi, ts⟩ := t
 unfold reV at *
 simp only [RT.kind, RT.set, RT.neg, RT.low, RT.high, RT.kids] at *
 have hmk : ∀ W, (Instr.makeSlice 22 (.int .i64 4000) (.int .i64 4000)).run Tryz.prog W = .ok (.slice (some ⟨W.heap.size, 0, none⟩) 4000 4000) (W.alloc (.cells (madeCells #[.int .u8 0] 4000) 5)) := fun W =>
  run_make_row' (P := Tryz.prog) 22 5 (.int .u8 0) 1 Tryz.underlying22 Tryz.infoU8 rfl .i64 .i64 4000 (by omega) (by omega) W
 obtain ⟨mc, hmc⟩ : ∃ mc, mc = madeCells #[.int .u8 0] 4000 := ⟨_, rfl⟩
 rw [← hmc] at hmk
 refine callsIn_of_wp_marks Tryz.func10 rfl trivial ?_ rfl
 simp only [Tryz.ntmps10, List.size_toArray, List.length_cons, List.length_nil, Nat.reduceAdd, Nat.reduceSub, Array.replicate_succ, Array.replicate_zero, List.push_toArray, List.append_toArray, List.nil_append, List.cons_append]
 gi_wp2
 obtain ⟨w3, hw3⟩ : ∃ w3, w3 = ((w.alloc (.cells #[.int .i64 k, .string ss, .bool nn, .int .i64 lo, .int .i64 hi, .slice a ts.length cap] 26)).alloc (.cells #[.string s] 9)).alloc (.cells #[.bool all] 4) := ⟨_, rfl⟩
 rw [← hw3]
 have HW3 := qd hw3
 clear hw3
 refine wpIn_mono (Q := EndsP fun a' Y => ∃ (b11 b12 g : Nat) (ap : Option Addr) (lp cp : Nat) (pc : List Pc), lp = pc.length ∧ RepS w3 r.data.toList b11 b12 g (.slice ap lp cp) pc Y ∧ a' = { tmps := #[.agg #[.int .i64 k, .string ss, .bool nn, .int .i64 lo, .int .i64 hi, .slice a ts.length cap], .string r, .string s, .bool all, .pointer (some ⟨w.heap.size, 0, none⟩), undef, .pointer (some ⟨w.heap.size + 1, 0, none⟩), .pointer (some ⟨w.heap.size + 1 + 1, 0, none⟩), .string ⟨#[]⟩, .int .i64 0, .bool false, .pointer (some ⟨b11, 0, none⟩), .pointer (some ⟨b12, 0, none⟩), undef, undef, undef, undef, .string r, .slice ap lp cp, .slice (some ⟨g, 0, none⟩) 4000 4000, .agg #[.slice (some ⟨g, 0, none⟩) 4000 4000, .int .i64 0, .bool false], undef, undef, undef, undef, undef, undef, undef, undef, undef, undef, undef, undef, undef, undef, undef, undef, undef, undef, undef, undef, undef, undef, undef, undef, undef, undef, undef, undef, undef, undef, undef, undef, undef, undef, undef, undef, undef, undef, undef], defers := [] }) ?region ?rest
 case region =>
  refine wpIn_wide.2 ?_
  refine wp_region_held_drew (S := (fun _ => True)) (by kernel_rfl) trivial (fun hHeld => ?_)
  have hT : True := trivial
  refine tkA 0 ?_
  try simp only [nmA, Act.put]
  have h := RF.start mc w3 r.data.toList
  refine wpAnyH_ready (rs := [1, 2, 4, 5]) (by kernel_rfl) (by simp) (.cons rfl (fun K hK => ?_) (.cons rfl (fun K hK => ?_) (.cons rfl (fun K hK => ?_) (.cons rfl (fun K hK => ?_) .nil))))
  · go_simp
    refine (HRR.out _).mono ?_
    rintro e _ ⟨v5, pc, rfl, ho, ha, hb⟩
    obtain ⟨ap, cp, rfl, _⟩ := ho.read
    replace h := RF.s1 h ho ha hb
    go_wp2_with fail
    refine hK.out _ _ trivial (fun _ => ?_)
    clear hK K
    try simp only [nmA, Act.put]
    refine wpAnyH_ready (rs := [2, 4, 5]) (by kernel_rfl) (by simp) (.cons rfl (fun K hK => ?_) (.cons rfl (fun K hK => ?_) (.cons rfl (fun K hK => ?_) .nil)))
    · refine RF.s2 h rfl _ _ rfl rfl rfl hmk hK (fun g X h => ?_)
      clear hK K
      try simp only [nmA, Act.put]
      refine tvA 3 (.agg #[.slice (some ⟨g, 0, none⟩) 4000 4000, .int .i64 0, .bool false]) hT ?_
      try simp only [nmA, Act.put]
      refine wpAnyH_ready (rs := [4, 5]) (by kernel_rfl) (by simp) (.cons rfl (fun K hK => ?_) (.cons rfl (fun K hK => ?_) .nil))
      · refine RF.s4 h rfl rfl hK (fun b11 X h => ?_)
        clear hK K
        try simp only [nmA, Act.put]
        refine rdA 5 (fun K hK => ?_)
        refine RF.s5 h rfl rfl hK (fun b12 X h => ?_)
        clear hK K
        try simp only [nmA, Act.put]
        refine rdA 6 (fun K hK => ?_)
        refine RF.s6 h rfl (.tmp 11) (.tmp 18) rfl rfl rfl rfl hK (fun X h => ?_)
        clear hK K
        try simp only [nmA, Act.put]
        refine rdA 7 (fun K hK => ?_)
        refine RF.s7 h hmc rfl (.tmp 12) (.tmp 20) rfl rfl rfl rfl hK (fun Y hS => ?_)
        clear hK K
        try simp only [nmA, Act.put]
        exact wpAnyH_done (by kernel_rfl) ⟨b11, b12, g, ap, _, cp, pc, rfl, hS, rfl⟩ _
      refine RF.s5 h rfl rfl hK (fun b12 X h => ?_)
      clear hK K
      try simp only [nmA, Act.put]
      refine rdA 4 (fun K hK => ?_)
      refine RF.s4 h rfl rfl hK (fun b11 X h => ?_)
      clear hK K
      try simp only [nmA, Act.put]
      refine rdA 6 (fun K hK => ?_)
      refine RF.s6 h rfl (.tmp 11) (.tmp 18) rfl rfl rfl rfl hK (fun X h => ?_)
      clear hK K
      try simp only [nmA, Act.put]
      refine rdA 7 (fun K hK => ?_)
      refine RF.s7 h hmc rfl (.tmp 12) (.tmp 20) rfl rfl rfl rfl hK (fun Y hS => ?_)
      clear hK K
      try simp only [nmA, Act.put]
      exact wpAnyH_done (by kernel_rfl) ⟨b11, b12, g, ap, _, cp, pc, rfl, hS, rfl⟩ _
    · refine RF.s4 h rfl rfl hK (fun b11 X h => ?_)
      clear hK K
      try simp only [nmA, Act.put]
      refine wpAnyH_ready (rs := [2, 5]) (by kernel_rfl) (by simp) (.cons rfl (fun K hK => ?_) (.cons rfl (fun K hK => ?_) .nil))
      · refine RF.s2 h rfl _ _ rfl rfl rfl hmk hK (fun g X h => ?_)
        clear hK K
        try simp only [nmA, Act.put]
        refine tvA 3 (.agg #[.slice (some ⟨g, 0, none⟩) 4000 4000, .int .i64 0, .bool false]) hT ?_
        try simp only [nmA, Act.put]
        refine rdA 5 (fun K hK => ?_)
        refine RF.s5 h rfl rfl hK (fun b12 X h => ?_)
        clear hK K
        try simp only [nmA, Act.put]
        refine rdA 6 (fun K hK => ?_)
        refine RF.s6 h rfl (.tmp 11) (.tmp 18) rfl rfl rfl rfl hK (fun X h => ?_)
        clear hK K
        try simp only [nmA, Act.put]
        refine rdA 7 (fun K hK => ?_)
        refine RF.s7 h hmc rfl (.tmp 12) (.tmp 20) rfl rfl rfl rfl hK (fun Y hS => ?_)
        clear hK K
        try simp only [nmA, Act.put]
        exact wpAnyH_done (by kernel_rfl) ⟨b11, b12, g, ap, _, cp, pc, rfl, hS, rfl⟩ _
      refine RF.s5 h rfl rfl hK (fun b12 X h => ?_)
      clear hK K
      try simp only [nmA, Act.put]
      refine wpAnyH_ready (rs := [2, 6]) (by kernel_rfl) (by simp) (.cons rfl (fun K hK => ?_) (.cons rfl (fun K hK => ?_) .nil))
      · refine RF.s2 h rfl _ _ rfl rfl rfl hmk hK (fun g X h => ?_)
        clear hK K
        try simp only [nmA, Act.put]
        refine tvA 3 (.agg #[.slice (some ⟨g, 0, none⟩) 4000 4000, .int .i64 0, .bool false]) hT ?_
        try simp only [nmA, Act.put]
        refine rdA 6 (fun K hK => ?_)
        refine RF.s6 h rfl (.tmp 11) (.tmp 18) rfl rfl rfl rfl hK (fun X h => ?_)
        clear hK K
        try simp only [nmA, Act.put]
        refine rdA 7 (fun K hK => ?_)
        refine RF.s7 h hmc rfl (.tmp 12) (.tmp 20) rfl rfl rfl rfl hK (fun Y hS => ?_)
        clear hK K
        try simp only [nmA, Act.put]
        exact wpAnyH_done (by kernel_rfl) ⟨b11, b12, g, ap, _, cp, pc, rfl, hS, rfl⟩ _
      refine RF.s6 h rfl (.tmp 11) (.tmp 18) rfl rfl rfl rfl hK (fun X h => ?_)
      clear hK K
      try simp only [nmA, Act.put]
      refine rdA 2 (fun K hK => ?_)
      refine RF.s2 h rfl _ _ rfl rfl rfl hmk hK (fun g X h => ?_)
      clear hK K
      try simp only [nmA, Act.put]
      refine tvA 3 (.agg #[.slice (some ⟨g, 0, none⟩) 4000 4000, .int .i64 0, .bool false]) hT ?_
      try simp only [nmA, Act.put]
      refine rdA 7 (fun K hK => ?_)
      refine RF.s7 h hmc rfl (.tmp 12) (.tmp 20) rfl rfl rfl rfl hK (fun Y hS => ?_)
      clear hK K
      try simp only [nmA, Act.put]
      exact wpAnyH_done (by kernel_rfl) ⟨b11, b12, g, ap, _, cp, pc, rfl, hS, rfl⟩ _
    refine RF.s5 h rfl rfl hK (fun b12 X h => ?_)
    clear hK K
    try simp only [nmA, Act.put]
    refine wpAnyH_ready (rs := [2, 4]) (by kernel_rfl) (by simp) (.cons rfl (fun K hK => ?_) (.cons rfl (fun K hK => ?_) .nil))
    · refine RF.s2 h rfl _ _ rfl rfl rfl hmk hK (fun g X h => ?_)
      clear hK K
      try simp only [nmA, Act.put]
      refine tvA 3 (.agg #[.slice (some ⟨g, 0, none⟩) 4000 4000, .int .i64 0, .bool false]) hT ?_
      try simp only [nmA, Act.put]
      refine rdA 4 (fun K hK => ?_)
      refine RF.s4 h rfl rfl hK (fun b11 X h => ?_)
      clear hK K
      try simp only [nmA, Act.put]
      refine rdA 6 (fun K hK => ?_)
      refine RF.s6 h rfl (.tmp 11) (.tmp 18) rfl rfl rfl rfl hK (fun X h => ?_)
      clear hK K
      try simp only [nmA, Act.put]
      refine rdA 7 (fun K hK => ?_)
      refine RF.s7 h hmc rfl (.tmp 12) (.tmp 20) rfl rfl rfl rfl hK (fun Y hS => ?_)
      clear hK K
      try simp only [nmA, Act.put]
      exact wpAnyH_done (by kernel_rfl) ⟨b11, b12, g, ap, _, cp, pc, rfl, hS, rfl⟩ _
    refine RF.s4 h rfl rfl hK (fun b11 X h => ?_)
    clear hK K
    try simp only [nmA, Act.put]
    refine wpAnyH_ready (rs := [2, 6]) (by kernel_rfl) (by simp) (.cons rfl (fun K hK => ?_) (.cons rfl (fun K hK => ?_) .nil))
    · refine RF.s2 h rfl _ _ rfl rfl rfl hmk hK (fun g X h => ?_)
      clear hK K
      try simp only [nmA, Act.put]
      refine tvA 3 (.agg #[.slice (some ⟨g, 0, none⟩) 4000 4000, .int .i64 0, .bool false]) hT ?_
      try simp only [nmA, Act.put]
      refine rdA 6 (fun K hK => ?_)
      refine RF.s6 h rfl (.tmp 11) (.tmp 18) rfl rfl rfl rfl hK (fun X h => ?_)
      clear hK K
      try simp only [nmA, Act.put]
      refine rdA 7 (fun K hK => ?_)
      refine RF.s7 h hmc rfl (.tmp 12) (.tmp 20) rfl rfl rfl rfl hK (fun Y hS => ?_)
      clear hK K
      try simp only [nmA, Act.put]
      exact wpAnyH_done (by kernel_rfl) ⟨b11, b12, g, ap, _, cp, pc, rfl, hS, rfl⟩ _
    refine RF.s6 h rfl (.tmp 11) (.tmp 18) rfl rfl rfl rfl hK (fun X h => ?_)
    clear hK K
    try simp only [nmA, Act.put]
    refine rdA 2 (fun K hK => ?_)
    refine RF.s2 h rfl _ _ rfl rfl rfl hmk hK (fun g X h => ?_)
    clear hK K
    try simp only [nmA, Act.put]
    refine tvA 3 (.agg #[.slice (some ⟨g, 0, none⟩) 4000 4000, .int .i64 0, .bool false]) hT ?_
    try simp only [nmA, Act.put]
    refine rdA 7 (fun K hK => ?_)
    refine RF.s7 h hmc rfl (.tmp 12) (.tmp 20) rfl rfl rfl rfl hK (fun Y hS => ?_)
    clear hK K
    try simp only [nmA, Act.put]
    exact wpAnyH_done (by kernel_rfl) ⟨b11, b12, g, ap, _, cp, pc, rfl, hS, rfl⟩ _
  · refine RF.s2 h rfl _ _ rfl rfl rfl hmk hK (fun g X h => ?_)
    clear hK K
    try simp only [nmA, Act.put]
    refine tvA 3 (.agg #[.slice (some ⟨g, 0, none⟩) 4000 4000, .int .i64 0, .bool false]) hT ?_
    try simp only [nmA, Act.put]
    refine wpAnyH_ready (rs := [1, 4, 5]) (by kernel_rfl) (by simp) (.cons rfl (fun K hK => ?_) (.cons rfl (fun K hK => ?_) (.cons rfl (fun K hK => ?_) .nil)))
    · go_simp
      refine (HRR.out _).mono ?_
      rintro e _ ⟨v5, pc, rfl, ho, ha, hb⟩
      obtain ⟨ap, cp, rfl, _⟩ := ho.read
      replace h := RF.s1 h ho ha hb
      go_wp2_with fail
      refine hK.out _ _ trivial (fun _ => ?_)
      clear hK K
      try simp only [nmA, Act.put]
      refine wpAnyH_ready (rs := [4, 5]) (by kernel_rfl) (by simp) (.cons rfl (fun K hK => ?_) (.cons rfl (fun K hK => ?_) .nil))
      · refine RF.s4 h rfl rfl hK (fun b11 X h => ?_)
        clear hK K
        try simp only [nmA, Act.put]
        refine rdA 5 (fun K hK => ?_)
        refine RF.s5 h rfl rfl hK (fun b12 X h => ?_)
        clear hK K
        try simp only [nmA, Act.put]
        refine rdA 6 (fun K hK => ?_)
        refine RF.s6 h rfl (.tmp 11) (.tmp 18) rfl rfl rfl rfl hK (fun X h => ?_)
        clear hK K
        try simp only [nmA, Act.put]
        refine rdA 7 (fun K hK => ?_)
        refine RF.s7 h hmc rfl (.tmp 12) (.tmp 20) rfl rfl rfl rfl hK (fun Y hS => ?_)
        clear hK K
        try simp only [nmA, Act.put]
        exact wpAnyH_done (by kernel_rfl) ⟨b11, b12, g, ap, _, cp, pc, rfl, hS, rfl⟩ _
      refine RF.s5 h rfl rfl hK (fun b12 X h => ?_)
      clear hK K
      try simp only [nmA, Act.put]
      refine rdA 4 (fun K hK => ?_)
      refine RF.s4 h rfl rfl hK (fun b11 X h => ?_)
      clear hK K
      try simp only [nmA, Act.put]
      refine rdA 6 (fun K hK => ?_)
      refine RF.s6 h rfl (.tmp 11) (.tmp 18) rfl rfl rfl rfl hK (fun X h => ?_)
      clear hK K
      try simp only [nmA, Act.put]
      refine rdA 7 (fun K hK => ?_)
      refine RF.s7 h hmc rfl (.tmp 12) (.tmp 20) rfl rfl rfl rfl hK (fun Y hS => ?_)
      clear hK K
      try simp only [nmA, Act.put]
      exact wpAnyH_done (by kernel_rfl) ⟨b11, b12, g, ap, _, cp, pc, rfl, hS, rfl⟩ _
    · refine RF.s4 h rfl rfl hK (fun b11 X h => ?_)
      clear hK K
      try simp only [nmA, Act.put]
      refine wpAnyH_ready (rs := [1, 5]) (by kernel_rfl) (by simp) (.cons rfl (fun K hK => ?_) (.cons rfl (fun K hK => ?_) .nil))
      · go_simp
        refine (HRR.out _).mono ?_
        rintro e _ ⟨v5, pc, rfl, ho, ha, hb⟩
        obtain ⟨ap, cp, rfl, _⟩ := ho.read
        replace h := RF.s1 h ho ha hb
        go_wp2_with fail
        refine hK.out _ _ trivial (fun _ => ?_)
        clear hK K
        try simp only [nmA, Act.put]
        refine rdA 5 (fun K hK => ?_)
        refine RF.s5 h rfl rfl hK (fun b12 X h => ?_)
        clear hK K
        try simp only [nmA, Act.put]
        refine rdA 6 (fun K hK => ?_)
        refine RF.s6 h rfl (.tmp 11) (.tmp 18) rfl rfl rfl rfl hK (fun X h => ?_)
        clear hK K
        try simp only [nmA, Act.put]
        refine rdA 7 (fun K hK => ?_)
        refine RF.s7 h hmc rfl (.tmp 12) (.tmp 20) rfl rfl rfl rfl hK (fun Y hS => ?_)
        clear hK K
        try simp only [nmA, Act.put]
        exact wpAnyH_done (by kernel_rfl) ⟨b11, b12, g, ap, _, cp, pc, rfl, hS, rfl⟩ _
      refine RF.s5 h rfl rfl hK (fun b12 X h => ?_)
      clear hK K
      try simp only [nmA, Act.put]
      refine rdA 1 (fun K hK => ?_)
      go_simp
      refine (HRR.out _).mono ?_
      rintro e _ ⟨v5, pc, rfl, ho, ha, hb⟩
      obtain ⟨ap, cp, rfl, _⟩ := ho.read
      replace h := RF.s1 h ho ha hb
      go_wp2_with fail
      refine hK.out _ _ trivial (fun _ => ?_)
      clear hK K
      try simp only [nmA, Act.put]
      refine rdA 6 (fun K hK => ?_)
      refine RF.s6 h rfl (.tmp 11) (.tmp 18) rfl rfl rfl rfl hK (fun X h => ?_)
      clear hK K
      try simp only [nmA, Act.put]
      refine rdA 7 (fun K hK => ?_)
      refine RF.s7 h hmc rfl (.tmp 12) (.tmp 20) rfl rfl rfl rfl hK (fun Y hS => ?_)
      clear hK K
      try simp only [nmA, Act.put]
      exact wpAnyH_done (by kernel_rfl) ⟨b11, b12, g, ap, _, cp, pc, rfl, hS, rfl⟩ _
    refine RF.s5 h rfl rfl hK (fun b12 X h => ?_)
    clear hK K
    try simp only [nmA, Act.put]
    refine wpAnyH_ready (rs := [1, 4]) (by kernel_rfl) (by simp) (.cons rfl (fun K hK => ?_) (.cons rfl (fun K hK => ?_) .nil))
    · go_simp
      refine (HRR.out _).mono ?_
      rintro e _ ⟨v5, pc, rfl, ho, ha, hb⟩
      obtain ⟨ap, cp, rfl, _⟩ := ho.read
      replace h := RF.s1 h ho ha hb
      go_wp2_with fail
      refine hK.out _ _ trivial (fun _ => ?_)
      clear hK K
      try simp only [nmA, Act.put]
      refine rdA 4 (fun K hK => ?_)
      refine RF.s4 h rfl rfl hK (fun b11 X h => ?_)
      clear hK K
      try simp only [nmA, Act.put]
      refine rdA 6 (fun K hK => ?_)
      refine RF.s6 h rfl (.tmp 11) (.tmp 18) rfl rfl rfl rfl hK (fun X h => ?_)
      clear hK K
      try simp only [nmA, Act.put]
      refine rdA 7 (fun K hK => ?_)
      refine RF.s7 h hmc rfl (.tmp 12) (.tmp 20) rfl rfl rfl rfl hK (fun Y hS => ?_)
      clear hK K
      try simp only [nmA, Act.put]
      exact wpAnyH_done (by kernel_rfl) ⟨b11, b12, g, ap, _, cp, pc, rfl, hS, rfl⟩ _
    refine RF.s4 h rfl rfl hK (fun b11 X h => ?_)
    clear hK K
    try simp only [nmA, Act.put]
    refine rdA 1 (fun K hK => ?_)
    go_simp
    refine (HRR.out _).mono ?_
    rintro e _ ⟨v5, pc, rfl, ho, ha, hb⟩
    obtain ⟨ap, cp, rfl, _⟩ := ho.read
    replace h := RF.s1 h ho ha hb
    go_wp2_with fail
    refine hK.out _ _ trivial (fun _ => ?_)
    clear hK K
    try simp only [nmA, Act.put]
    refine rdA 6 (fun K hK => ?_)
    refine RF.s6 h rfl (.tmp 11) (.tmp 18) rfl rfl rfl rfl hK (fun X h => ?_)
    clear hK K
    try simp only [nmA, Act.put]
    refine rdA 7 (fun K hK => ?_)
    refine RF.s7 h hmc rfl (.tmp 12) (.tmp 20) rfl rfl rfl rfl hK (fun Y hS => ?_)
    clear hK K
    try simp only [nmA, Act.put]
    exact wpAnyH_done (by kernel_rfl) ⟨b11, b12, g, ap, _, cp, pc, rfl, hS, rfl⟩ _
  · refine RF.s4 h rfl rfl hK (fun b11 X h => ?_)
    clear hK K
    try simp only [nmA, Act.put]
    refine wpAnyH_ready (rs := [1, 2, 5]) (by kernel_rfl) (by simp) (.cons rfl (fun K hK => ?_) (.cons rfl (fun K hK => ?_) (.cons rfl (fun K hK => ?_) .nil)))
    · go_simp
      refine (HRR.out _).mono ?_
      rintro e _ ⟨v5, pc, rfl, ho, ha, hb⟩
      obtain ⟨ap, cp, rfl, _⟩ := ho.read
      replace h := RF.s1 h ho ha hb
      go_wp2_with fail
      refine hK.out _ _ trivial (fun _ => ?_)
      clear hK K
      try simp only [nmA, Act.put]
      refine wpAnyH_ready (rs := [2, 5]) (by kernel_rfl) (by simp) (.cons rfl (fun K hK => ?_) (.cons rfl (fun K hK => ?_) .nil))
      · refine RF.s2 h rfl _ _ rfl rfl rfl hmk hK (fun g X h => ?_)
        clear hK K
        try simp only [nmA, Act.put]
        refine tvA 3 (.agg #[.slice (some ⟨g, 0, none⟩) 4000 4000, .int .i64 0, .bool false]) hT ?_
        try simp only [nmA, Act.put]
        refine rdA 5 (fun K hK => ?_)
        refine RF.s5 h rfl rfl hK (fun b12 X h => ?_)
        clear hK K
        try simp only [nmA, Act.put]
        refine rdA 6 (fun K hK => ?_)
        refine RF.s6 h rfl (.tmp 11) (.tmp 18) rfl rfl rfl rfl hK (fun X h => ?_)
        clear hK K
        try simp only [nmA, Act.put]
        refine rdA 7 (fun K hK => ?_)
        refine RF.s7 h hmc rfl (.tmp 12) (.tmp 20) rfl rfl rfl rfl hK (fun Y hS => ?_)
        clear hK K
        try simp only [nmA, Act.put]
        exact wpAnyH_done (by kernel_rfl) ⟨b11, b12, g, ap, _, cp, pc, rfl, hS, rfl⟩ _
      refine RF.s5 h rfl rfl hK (fun b12 X h => ?_)
      clear hK K
      try simp only [nmA, Act.put]
      refine wpAnyH_ready (rs := [2, 6]) (by kernel_rfl) (by simp) (.cons rfl (fun K hK => ?_) (.cons rfl (fun K hK => ?_) .nil))
      · refine RF.s2 h rfl _ _ rfl rfl rfl hmk hK (fun g X h => ?_)
        clear hK K
        try simp only [nmA, Act.put]
        refine tvA 3 (.agg #[.slice (some ⟨g, 0, none⟩) 4000 4000, .int .i64 0, .bool false]) hT ?_
        try simp only [nmA, Act.put]
        refine rdA 6 (fun K hK => ?_)
        refine RF.s6 h rfl (.tmp 11) (.tmp 18) rfl rfl rfl rfl hK (fun X h => ?_)
        clear hK K
        try simp only [nmA, Act.put]
        refine rdA 7 (fun K hK => ?_)
        refine RF.s7 h hmc rfl (.tmp 12) (.tmp 20) rfl rfl rfl rfl hK (fun Y hS => ?_)
        clear hK K
        try simp only [nmA, Act.put]
        exact wpAnyH_done (by kernel_rfl) ⟨b11, b12, g, ap, _, cp, pc, rfl, hS, rfl⟩ _
      refine RF.s6 h rfl (.tmp 11) (.tmp 18) rfl rfl rfl rfl hK (fun X h => ?_)
      clear hK K
      try simp only [nmA, Act.put]
      refine rdA 2 (fun K hK => ?_)
      refine RF.s2 h rfl _ _ rfl rfl rfl hmk hK (fun g X h => ?_)
      clear hK K
      try simp only [nmA, Act.put]
      refine tvA 3 (.agg #[.slice (some ⟨g, 0, none⟩) 4000 4000, .int .i64 0, .bool false]) hT ?_
      try simp only [nmA, Act.put]
      refine rdA 7 (fun K hK => ?_)
      refine RF.s7 h hmc rfl (.tmp 12) (.tmp 20) rfl rfl rfl rfl hK (fun Y hS => ?_)
      clear hK K
      try simp only [nmA, Act.put]
      exact wpAnyH_done (by kernel_rfl) ⟨b11, b12, g, ap, _, cp, pc, rfl, hS, rfl⟩ _
    · refine RF.s2 h rfl _ _ rfl rfl rfl hmk hK (fun g X h => ?_)
      clear hK K
      try simp only [nmA, Act.put]
      refine tvA 3 (.agg #[.slice (some ⟨g, 0, none⟩) 4000 4000, .int .i64 0, .bool false]) hT ?_
      try simp only [nmA, Act.put]
      refine wpAnyH_ready (rs := [1, 5]) (by kernel_rfl) (by simp) (.cons rfl (fun K hK => ?_) (.cons rfl (fun K hK => ?_) .nil))
      · go_simp
        refine (HRR.out _).mono ?_
        rintro e _ ⟨v5, pc, rfl, ho, ha, hb⟩
        obtain ⟨ap, cp, rfl, _⟩ := ho.read
        replace h := RF.s1 h ho ha hb
        go_wp2_with fail
        refine hK.out _ _ trivial (fun _ => ?_)
        clear hK K
        try simp only [nmA, Act.put]
        refine rdA 5 (fun K hK => ?_)
        refine RF.s5 h rfl rfl hK (fun b12 X h => ?_)
        clear hK K
        try simp only [nmA, Act.put]
        refine rdA 6 (fun K hK => ?_)
        refine RF.s6 h rfl (.tmp 11) (.tmp 18) rfl rfl rfl rfl hK (fun X h => ?_)
        clear hK K
        try simp only [nmA, Act.put]
        refine rdA 7 (fun K hK => ?_)
        refine RF.s7 h hmc rfl (.tmp 12) (.tmp 20) rfl rfl rfl rfl hK (fun Y hS => ?_)
        clear hK K
        try simp only [nmA, Act.put]
        exact wpAnyH_done (by kernel_rfl) ⟨b11, b12, g, ap, _, cp, pc, rfl, hS, rfl⟩ _
      refine RF.s5 h rfl rfl hK (fun b12 X h => ?_)
      clear hK K
      try simp only [nmA, Act.put]
      refine rdA 1 (fun K hK => ?_)
      go_simp
      refine (HRR.out _).mono ?_
      rintro e _ ⟨v5, pc, rfl, ho, ha, hb⟩
      obtain ⟨ap, cp, rfl, _⟩ := ho.read
      replace h := RF.s1 h ho ha hb
      go_wp2_with fail
      refine hK.out _ _ trivial (fun _ => ?_)
      clear hK K
      try simp only [nmA, Act.put]
      refine rdA 6 (fun K hK => ?_)
      refine RF.s6 h rfl (.tmp 11) (.tmp 18) rfl rfl rfl rfl hK (fun X h => ?_)
      clear hK K
      try simp only [nmA, Act.put]
      refine rdA 7 (fun K hK => ?_)
      refine RF.s7 h hmc rfl (.tmp 12) (.tmp 20) rfl rfl rfl rfl hK (fun Y hS => ?_)
      clear hK K
      try simp only [nmA, Act.put]
      exact wpAnyH_done (by kernel_rfl) ⟨b11, b12, g, ap, _, cp, pc, rfl, hS, rfl⟩ _
    refine RF.s5 h rfl rfl hK (fun b12 X h => ?_)
    clear hK K
    try simp only [nmA, Act.put]
    refine wpAnyH_ready (rs := [1, 2]) (by kernel_rfl) (by simp) (.cons rfl (fun K hK => ?_) (.cons rfl (fun K hK => ?_) .nil))
    · go_simp
      refine (HRR.out _).mono ?_
      rintro e _ ⟨v5, pc, rfl, ho, ha, hb⟩
      obtain ⟨ap, cp, rfl, _⟩ := ho.read
      replace h := RF.s1 h ho ha hb
      go_wp2_with fail
      refine hK.out _ _ trivial (fun _ => ?_)
      clear hK K
      try simp only [nmA, Act.put]
      refine wpAnyH_ready (rs := [2, 6]) (by kernel_rfl) (by simp) (.cons rfl (fun K hK => ?_) (.cons rfl (fun K hK => ?_) .nil))
      · refine RF.s2 h rfl _ _ rfl rfl rfl hmk hK (fun g X h => ?_)
        clear hK K
        try simp only [nmA, Act.put]
        refine tvA 3 (.agg #[.slice (some ⟨g, 0, none⟩) 4000 4000, .int .i64 0, .bool false]) hT ?_
        try simp only [nmA, Act.put]
        refine rdA 6 (fun K hK => ?_)
        refine RF.s6 h rfl (.tmp 11) (.tmp 18) rfl rfl rfl rfl hK (fun X h => ?_)
        clear hK K
        try simp only [nmA, Act.put]
        refine rdA 7 (fun K hK => ?_)
        refine RF.s7 h hmc rfl (.tmp 12) (.tmp 20) rfl rfl rfl rfl hK (fun Y hS => ?_)
        clear hK K
        try simp only [nmA, Act.put]
        exact wpAnyH_done (by kernel_rfl) ⟨b11, b12, g, ap, _, cp, pc, rfl, hS, rfl⟩ _
      refine RF.s6 h rfl (.tmp 11) (.tmp 18) rfl rfl rfl rfl hK (fun X h => ?_)
      clear hK K
      try simp only [nmA, Act.put]
      refine rdA 2 (fun K hK => ?_)
      refine RF.s2 h rfl _ _ rfl rfl rfl hmk hK (fun g X h => ?_)
      clear hK K
      try simp only [nmA, Act.put]
      refine tvA 3 (.agg #[.slice (some ⟨g, 0, none⟩) 4000 4000, .int .i64 0, .bool false]) hT ?_
      try simp only [nmA, Act.put]
      refine rdA 7 (fun K hK => ?_)
      refine RF.s7 h hmc rfl (.tmp 12) (.tmp 20) rfl rfl rfl rfl hK (fun Y hS => ?_)
      clear hK K
      try simp only [nmA, Act.put]
      exact wpAnyH_done (by kernel_rfl) ⟨b11, b12, g, ap, _, cp, pc, rfl, hS, rfl⟩ _
    refine RF.s2 h rfl _ _ rfl rfl rfl hmk hK (fun g X h => ?_)
    clear hK K
    try simp only [nmA, Act.put]
    refine tvA 3 (.agg #[.slice (some ⟨g, 0, none⟩) 4000 4000, .int .i64 0, .bool false]) hT ?_
    try simp only [nmA, Act.put]
    refine rdA 1 (fun K hK => ?_)
    go_simp
    refine (HRR.out _).mono ?_
    rintro e _ ⟨v5, pc, rfl, ho, ha, hb⟩
    obtain ⟨ap, cp, rfl, _⟩ := ho.read
    replace h := RF.s1 h ho ha hb
    go_wp2_with fail
    refine hK.out _ _ trivial (fun _ => ?_)
    clear hK K
    try simp only [nmA, Act.put]
    refine rdA 6 (fun K hK => ?_)
    refine RF.s6 h rfl (.tmp 11) (.tmp 18) rfl rfl rfl rfl hK (fun X h => ?_)
    clear hK K
    try simp only [nmA, Act.put]
    refine rdA 7 (fun K hK => ?_)
    refine RF.s7 h hmc rfl (.tmp 12) (.tmp 20) rfl rfl rfl rfl hK (fun Y hS => ?_)
    clear hK K
    try simp only [nmA, Act.put]
    exact wpAnyH_done (by kernel_rfl) ⟨b11, b12, g, ap, _, cp, pc, rfl, hS, rfl⟩ _
  refine RF.s5 h rfl rfl hK (fun b12 X h => ?_)
  clear hK K
  try simp only [nmA, Act.put]
  refine wpAnyH_ready (rs := [1, 2, 4]) (by kernel_rfl) (by simp) (.cons rfl (fun K hK => ?_) (.cons rfl (fun K hK => ?_) (.cons rfl (fun K hK => ?_) .nil)))
  · go_simp
    refine (HRR.out _).mono ?_
    rintro e _ ⟨v5, pc, rfl, ho, ha, hb⟩
    obtain ⟨ap, cp, rfl, _⟩ := ho.read
    replace h := RF.s1 h ho ha hb
    go_wp2_with fail
    refine hK.out _ _ trivial (fun _ => ?_)
    clear hK K
    try simp only [nmA, Act.put]
    refine wpAnyH_ready (rs := [2, 4]) (by kernel_rfl) (by simp) (.cons rfl (fun K hK => ?_) (.cons rfl (fun K hK => ?_) .nil))
    · refine RF.s2 h rfl _ _ rfl rfl rfl hmk hK (fun g X h => ?_)
      clear hK K
      try simp only [nmA, Act.put]
      refine tvA 3 (.agg #[.slice (some ⟨g, 0, none⟩) 4000 4000, .int .i64 0, .bool false]) hT ?_
      try simp only [nmA, Act.put]
      refine rdA 4 (fun K hK => ?_)
      refine RF.s4 h rfl rfl hK (fun b11 X h => ?_)
      clear hK K
      try simp only [nmA, Act.put]
      refine rdA 6 (fun K hK => ?_)
      refine RF.s6 h rfl (.tmp 11) (.tmp 18) rfl rfl rfl rfl hK (fun X h => ?_)
      clear hK K
      try simp only [nmA, Act.put]
      refine rdA 7 (fun K hK => ?_)
      refine RF.s7 h hmc rfl (.tmp 12) (.tmp 20) rfl rfl rfl rfl hK (fun Y hS => ?_)
      clear hK K
      try simp only [nmA, Act.put]
      exact wpAnyH_done (by kernel_rfl) ⟨b11, b12, g, ap, _, cp, pc, rfl, hS, rfl⟩ _
    refine RF.s4 h rfl rfl hK (fun b11 X h => ?_)
    clear hK K
    try simp only [nmA, Act.put]
    refine wpAnyH_ready (rs := [2, 6]) (by kernel_rfl) (by simp) (.cons rfl (fun K hK => ?_) (.cons rfl (fun K hK => ?_) .nil))
    · refine RF.s2 h rfl _ _ rfl rfl rfl hmk hK (fun g X h => ?_)
      clear hK K
      try simp only [nmA, Act.put]
      refine tvA 3 (.agg #[.slice (some ⟨g, 0, none⟩) 4000 4000, .int .i64 0, .bool false]) hT ?_
      try simp only [nmA, Act.put]
      refine rdA 6 (fun K hK => ?_)
      refine RF.s6 h rfl (.tmp 11) (.tmp 18) rfl rfl rfl rfl hK (fun X h => ?_)
      clear hK K
      try simp only [nmA, Act.put]
      refine rdA 7 (fun K hK => ?_)
      refine RF.s7 h hmc rfl (.tmp 12) (.tmp 20) rfl rfl rfl rfl hK (fun Y hS => ?_)
      clear hK K
      try simp only [nmA, Act.put]
      exact wpAnyH_done (by kernel_rfl) ⟨b11, b12, g, ap, _, cp, pc, rfl, hS, rfl⟩ _
    refine RF.s6 h rfl (.tmp 11) (.tmp 18) rfl rfl rfl rfl hK (fun X h => ?_)
    clear hK K
    try simp only [nmA, Act.put]
    refine rdA 2 (fun K hK => ?_)
    refine RF.s2 h rfl _ _ rfl rfl rfl hmk hK (fun g X h => ?_)
    clear hK K
    try simp only [nmA, Act.put]
    refine tvA 3 (.agg #[.slice (some ⟨g, 0, none⟩) 4000 4000, .int .i64 0, .bool false]) hT ?_
    try simp only [nmA, Act.put]
    refine rdA 7 (fun K hK => ?_)
    refine RF.s7 h hmc rfl (.tmp 12) (.tmp 20) rfl rfl rfl rfl hK (fun Y hS => ?_)
    clear hK K
    try simp only [nmA, Act.put]
    exact wpAnyH_done (by kernel_rfl) ⟨b11, b12, g, ap, _, cp, pc, rfl, hS, rfl⟩ _
  · refine RF.s2 h rfl _ _ rfl rfl rfl hmk hK (fun g X h => ?_)
    clear hK K
    try simp only [nmA, Act.put]
    refine tvA 3 (.agg #[.slice (some ⟨g, 0, none⟩) 4000 4000, .int .i64 0, .bool false]) hT ?_
    try simp only [nmA, Act.put]
    refine wpAnyH_ready (rs := [1, 4]) (by kernel_rfl) (by simp) (.cons rfl (fun K hK => ?_) (.cons rfl (fun K hK => ?_) .nil))
    · go_simp
      refine (HRR.out _).mono ?_
      rintro e _ ⟨v5, pc, rfl, ho, ha, hb⟩
      obtain ⟨ap, cp, rfl, _⟩ := ho.read
      replace h := RF.s1 h ho ha hb
      go_wp2_with fail
      refine hK.out _ _ trivial (fun _ => ?_)
      clear hK K
      try simp only [nmA, Act.put]
      refine rdA 4 (fun K hK => ?_)
      refine RF.s4 h rfl rfl hK (fun b11 X h => ?_)
      clear hK K
      try simp only [nmA, Act.put]
      refine rdA 6 (fun K hK => ?_)
      refine RF.s6 h rfl (.tmp 11) (.tmp 18) rfl rfl rfl rfl hK (fun X h => ?_)
      clear hK K
      try simp only [nmA, Act.put]
      refine rdA 7 (fun K hK => ?_)
      refine RF.s7 h hmc rfl (.tmp 12) (.tmp 20) rfl rfl rfl rfl hK (fun Y hS => ?_)
      clear hK K
      try simp only [nmA, Act.put]
      exact wpAnyH_done (by kernel_rfl) ⟨b11, b12, g, ap, _, cp, pc, rfl, hS, rfl⟩ _
    refine RF.s4 h rfl rfl hK (fun b11 X h => ?_)
    clear hK K
    try simp only [nmA, Act.put]
    refine rdA 1 (fun K hK => ?_)
    go_simp
    refine (HRR.out _).mono ?_
    rintro e _ ⟨v5, pc, rfl, ho, ha, hb⟩
    obtain ⟨ap, cp, rfl, _⟩ := ho.read
    replace h := RF.s1 h ho ha hb
    go_wp2_with fail
    refine hK.out _ _ trivial (fun _ => ?_)
    clear hK K
    try simp only [nmA, Act.put]
    refine rdA 6 (fun K hK => ?_)
    refine RF.s6 h rfl (.tmp 11) (.tmp 18) rfl rfl rfl rfl hK (fun X h => ?_)
    clear hK K
    try simp only [nmA, Act.put]
    refine rdA 7 (fun K hK => ?_)
    refine RF.s7 h hmc rfl (.tmp 12) (.tmp 20) rfl rfl rfl rfl hK (fun Y hS => ?_)
    clear hK K
    try simp only [nmA, Act.put]
    exact wpAnyH_done (by kernel_rfl) ⟨b11, b12, g, ap, _, cp, pc, rfl, hS, rfl⟩ _
  refine RF.s4 h rfl rfl hK (fun b11 X h => ?_)
  clear hK K
  try simp only [nmA, Act.put]
  refine wpAnyH_ready (rs := [1, 2]) (by kernel_rfl) (by simp) (.cons rfl (fun K hK => ?_) (.cons rfl (fun K hK => ?_) .nil))
  · go_simp
    refine (HRR.out _).mono ?_
    rintro e _ ⟨v5, pc, rfl, ho, ha, hb⟩
    obtain ⟨ap, cp, rfl, _⟩ := ho.read
    replace h := RF.s1 h ho ha hb
    go_wp2_with fail
    refine hK.out _ _ trivial (fun _ => ?_)
    clear hK K
    try simp only [nmA, Act.put]
    refine wpAnyH_ready (rs := [2, 6]) (by kernel_rfl) (by simp) (.cons rfl (fun K hK => ?_) (.cons rfl (fun K hK => ?_) .nil))
    · refine RF.s2 h rfl _ _ rfl rfl rfl hmk hK (fun g X h => ?_)
      clear hK K
      try simp only [nmA, Act.put]
      refine tvA 3 (.agg #[.slice (some ⟨g, 0, none⟩) 4000 4000, .int .i64 0, .bool false]) hT ?_
      try simp only [nmA, Act.put]
      refine rdA 6 (fun K hK => ?_)
      refine RF.s6 h rfl (.tmp 11) (.tmp 18) rfl rfl rfl rfl hK (fun X h => ?_)
      clear hK K
      try simp only [nmA, Act.put]
      refine rdA 7 (fun K hK => ?_)
      refine RF.s7 h hmc rfl (.tmp 12) (.tmp 20) rfl rfl rfl rfl hK (fun Y hS => ?_)
      clear hK K
      try simp only [nmA, Act.put]
      exact wpAnyH_done (by kernel_rfl) ⟨b11, b12, g, ap, _, cp, pc, rfl, hS, rfl⟩ _
    refine RF.s6 h rfl (.tmp 11) (.tmp 18) rfl rfl rfl rfl hK (fun X h => ?_)
    clear hK K
    try simp only [nmA, Act.put]
    refine rdA 2 (fun K hK => ?_)
    refine RF.s2 h rfl _ _ rfl rfl rfl hmk hK (fun g X h => ?_)
    clear hK K
    try simp only [nmA, Act.put]
    refine tvA 3 (.agg #[.slice (some ⟨g, 0, none⟩) 4000 4000, .int .i64 0, .bool false]) hT ?_
    try simp only [nmA, Act.put]
    refine rdA 7 (fun K hK => ?_)
    refine RF.s7 h hmc rfl (.tmp 12) (.tmp 20) rfl rfl rfl rfl hK (fun Y hS => ?_)
    clear hK K
    try simp only [nmA, Act.put]
    exact wpAnyH_done (by kernel_rfl) ⟨b11, b12, g, ap, _, cp, pc, rfl, hS, rfl⟩ _
  refine RF.s2 h rfl _ _ rfl rfl rfl hmk hK (fun g X h => ?_)
  clear hK K
  try simp only [nmA, Act.put]
  refine tvA 3 (.agg #[.slice (some ⟨g, 0, none⟩) 4000 4000, .int .i64 0, .bool false]) hT ?_
  try simp only [nmA, Act.put]
  refine rdA 1 (fun K hK => ?_)
  go_simp
  refine (HRR.out _).mono ?_
  rintro e _ ⟨v5, pc, rfl, ho, ha, hb⟩
  obtain ⟨ap, cp, rfl, _⟩ := ho.read
  replace h := RF.s1 h ho ha hb
  go_wp2_with fail
  refine hK.out _ _ trivial (fun _ => ?_)
  clear hK K
  try simp only [nmA, Act.put]
  refine rdA 6 (fun K hK => ?_)
  refine RF.s6 h rfl (.tmp 11) (.tmp 18) rfl rfl rfl rfl hK (fun X h => ?_)
  clear hK K
  try simp only [nmA, Act.put]
  refine rdA 7 (fun K hK => ?_)
  refine RF.s7 h hmc rfl (.tmp 12) (.tmp 20) rfl rfl rfl rfl hK (fun Y hS => ?_)
  clear hK K
  try simp only [nmA, Act.put]
  exact wpAnyH_done (by kernel_rfl) ⟨b11, b12, g, ap, _, cp, pc, rfl, hS, rfl⟩ _
 case rest =>
  refine EndsP.to (fun a' Y hp => ?_)
  obtain ⟨b11, b12, g, ap, lp, cp, pc, hlp, hS, rfl⟩ := hp
  have hz3 : w3.heap.size = w.heap.size + 3 := by rw [HW3.out]; simp
  have hb3 : Below w.heap.size w w3 := by rw [HW3.out]; exact (((Below.refl _ w).alloc (Nat.le_refl _) _).alloc (by simp) _).alloc (by simp <;> omega) _
  have r3 : ∀ j, w3.cell? ⟨w.heap.size, j, none⟩ = #[Value.int .i64 k, .string ss, .bool nn, .int .i64 lo, .int .i64 hi, .slice a ts.length cap][j]? := fun j => by
   rw [HW3.out, World.cell?_alloc_past _ _ _ (by simp; try omega), World.cell?_alloc_past _ _ _ (by simp; try omega), World.cell?_alloc_at _ _ _ _ (by simp)]
  have s3 : w3.cell? ⟨w.heap.size + 1, 0, none⟩ = some (.string s) := by
   rw [HW3.out, World.cell?_alloc_past _ _ _ (by simp; try omega), World.cell?_alloc_at _ _ _ _ (by simp)]; rfl
  have a3 : w3.cell? ⟨w.heap.size + 1 + 1, 0, none⟩ = some (.bool all) := by
   rw [HW3.out, World.cell?_alloc_at _ _ _ _ (by simp)]; rfl
  obtain ⟨w6, hw6⟩ : ∃ w6, w6 = (Y.alloc (.cells #[.int .i64 0] 3)).alloc (.cells #[.int .i64 0] 3) := ⟨_, rfl⟩
  have hz6 : w6.heap.size = Y.heap.size + 2 := by rw [hw6]; simp
  have hbY6 : Below Y.heap.size Y w6 := by rw [hw6]; exact ((Below.refl _ _).alloc (Nat.le_refl _) _).alloc (by simp) _
  have hzY : w3.heap.size ≤ Y.heap.size := hS.bel.size
  have hb36 : Below w3.heap.size w3 w6 := hS.bel.trans (hbY6.mono hzY)
  obtain ⟨x0, x1, x2, x3, x4, x5⟩ : (w6.cell? ⟨w.heap.size, 0, none⟩ = some (.int .i64 k)) ∧ (w6.cell? ⟨w.heap.size, 1, none⟩ = some (.string ss)) ∧ (w6.cell? ⟨w.heap.size, 2, none⟩ = some (.bool nn)) ∧ (w6.cell? ⟨w.heap.size, 3, none⟩ = some (.int .i64 lo)) ∧ (w6.cell? ⟨w.heap.size, 4, none⟩ = some (.int .i64 hi)) ∧ (w6.cell? ⟨w.heap.size, 5, none⟩ = some (.slice a ts.length cap)) := by
   have e : ∀ j, w6.cell? ⟨w.heap.size, j, none⟩ = w3.cell? ⟨w.heap.size, j, none⟩ := fun j => hb36.cell (p := ⟨w.heap.size, j, none⟩) (by show w.heap.size < _; omega)
   exact ⟨(e 0).trans (r3 0), (e 1).trans (r3 1), (e 2).trans (r3 2), (e 3).trans (r3 3), (e 4).trans (r3 4), (e 5).trans (r3 5)⟩
  have x6 : w6.cell? ⟨w.heap.size + 1, 0, none⟩ = some (.string s) := (hb36.cell (p := ⟨w.heap.size + 1, 0, none⟩) (by show w.heap.size + 1 < _; omega)).trans s3
  have x7 : w6.cell? ⟨w.heap.size + 1 + 1, 0, none⟩ = some (.bool all) := (hb36.cell (p := ⟨w.heap.size + 1 + 1, 0, none⟩) (by show w.heap.size + 1 + 1 < _; omega)).trans a3
  obtain ⟨D, hD⟩ : ∃ D, D = Y.heap.size := ⟨_, rfl⟩
  obtain ⟨w7, hw7⟩ : ∃ w7, w7 = (w6.alloc (.cells #[.int .i64 k, .string ss, .bool nn, .int .i64 lo, .int .i64 hi, .slice a ts.length cap] 26)).alloc (.cells #[.string s] 9) := ⟨_, rfl⟩
  have hz7 : w7.heap.size = D + 4 := by rw [hw7]; simp; omega
  have hb67 : Below w6.heap.size w6 w7 := by rw [hw7]; exact ((Below.refl _ _).alloc (Nat.le_refl _) _).alloc (by simp) _
  have hb37 : Below w3.heap.size w3 w7 := hb36.trans (hb67.mono hb36.size)
  have hE7 := FoundE.boxed (t := RT.node k ss nn lo hi ts) (F := fun q => q < w.heap.size) (b := D + 2) (s := s) (cap := cap) (by rw [hz6, hD]) (fun X (hX : KeepB (fun q => q < w.heap.size) w6 X) hz => (show Kids 0 X ts a ∧ BT X from by
   have e : ∀ q, q < w.heap.size → X.heap[q]? = w.heap[q]? := fun q hq => (hX q hq).trans ((hb36.block q (by omega)).trans (hb3.block q hq))
   exact ⟨hk.of (by omega) (fun b o _ hb => cob (a := ⟨b, o, none⟩) (e b hb)), hT.of (e _ hT.lt)⟩)) hw7 (fun q hq => by omega)
  have hseq := matches_seq (n - 1) (by omega) (RT.node k ss nn lo hi ts) s a cap (D + 2) (D + 3) (fun q => q < w.heap.size ∨ q = D + 2 ∨ q = D + 3) w7 hs hc (fun q hq => by rcases hq with hq | rfl | rfl <;> omega) (.inl hT.lt) hE7
  have HFI := qd (matchesIn_in (n - 1) (RT.node k ss nn lo hi ts) s a cap w6)
  unfold reV at HFI
  simp only [RT.kind, RT.set, RT.neg, RT.low, RT.high, RT.kids] at HFI
  rw [← hw7, hz6, ← hD] at HFI
  have HCH := qd (specMatches_chain s (RT.node k ss nn lo hi ts))
  have hbz := begsL_len (matchZ s.data.toList (RT.node k ss nn lo hi ts)) s.size
  generalize hZe : matchZ s.data.toList (RT.node k ss nn lo hi ts) = Z at *
  have HZE := qd hZe
  clear hZe
  have hl : g < D ∧ b12 < D ∧ b11 < D := ⟨by have := hS.rm.gl; omega, by have := hS.rm.bx.lt; omega, by have := hS.box.lt; omega⟩
  have hbY7 : ∀ q, q < D → w7.heap[q]? = Y.heap[q]? := fun q hq => (hb67.block q (by omega)).trans (hbY6.block q (by omega))
  have hI7 : RepI w7 r.data.toList s.data.toList b12 g D (D + 1) [] ([], false) w7 := by
   refine ⟨OkR.start 4000, hS.rm.blocks (hbY7 _ hl.1) (hbY7 _ hl.2.1), ?_, ?_, fun _ _ _ _ _ _ => rfl, rfl, rfl, rfl, Nat.le_refl _⟩
   · refine (hb67.block D (by omega)).trans ?_
     rw [hw6, hD]; exact keep_alloc (World.alloc_heap_new _ _) _
   · refine (hb67.block (D + 1) (by omega)).trans ?_
     have h := World.alloc_heap_new (Y.alloc (.cells #[.int .i64 0] 3)) (.cells #[.int .i64 0] 3)
     rw [World.size_alloc] at h
     rw [hw6, hD]; exact h
  have hB7 : ∀ X, (∀ q, q < w7.heap.size → q ≠ g → q ≠ b12 → q ≠ D → q ≠ D + 1 → X.heap[q]? = w7.heap[q]?) → w7.heap.size ≤ X.heap.size → RepB b11 (w.heap.size + 1) (w.heap.size + 1 + 1) s all ap lp cp pc X := fun X hX hXz => by
   have e3 : ∀ q, q < w3.heap.size → X.heap[q]? = w3.heap[q]? := fun q hq => (hX q (by omega) (by have := hS.lo; omega) (by have := hS.lo; omega) (by omega) (by omega)).trans (hb37.block q hq)
   refine ⟨?_, ?_, cell_of_keep (e3 _ (by omega)) s3, cell_of_keep (e3 _ (by omega)) a3⟩
   · refine Boxed.cell (t := 52) (((hX b11 (by omega) hS.ne.2.1 hS.ne.1 (by omega) (by omega)).trans (hbY7 b11 hl.2.2)).trans hS.box)
   · obtain ⟨a2, c2, e2, hr2⟩ := hS.own.read
     injection e2 with e2 _ _
     subst e2
     intro j hj
     obtain ⟨q, hq, _, hqY, h1, h2⟩ := hr2 j hj
     have hqn := hS.ne.2.2 q (by rw [hq]; rfl)
     have hqe : X.heap[q]? = Y.heap[q]? := (hX q (by omega) hqn.2.2 hqn.2.1 (by omega) (by omega)).trans (hbY7 q (by omega))
     exact ⟨q, hq, Nat.zero_le _, by omega, cell_of_keep hqe h1, cell_of_keep hqe h2⟩
  have HB7 := qd hB7
  have HI7 := qd hI7
  have HL := qd (show w7.heap.size = D + 4 ∧ g < D ∧ b12 < D ∧ w.heap.size + 3 ≤ D ∧ w.heap.size ≤ g ∧ w.heap.size ≤ b12 ∧ (begsL Z s.size).length ≤ 1048577 from ⟨hz7, hl.1, hl.2.1, by omega, by have := hS.lo; omega, by have := hS.lo; omega, by omega⟩)
  have HBW := qd (show Below w.heap.size w w7 from hb3.trans (hb37.mono hb3.size))
  have HPA := qd (And.intro hS.all hlp)
  have HW6 := qd hw6
  have HDY := qd hD
  have hf1 : Fence.wide.fn 19 := trivial
  rw [hw6] at x0 x1 x2 x3 x4 x5 x6 x7
  clear hz3 hb3 r3 s3 a3 hz6 hbY6 hzY hb36 hz7 hb67 hb37 hE7 hl hbY7 hI7 hB7 hS hlp hw7 hw6 hD hbz hk hT hc hmk hmc HRR
  gi_wp2
  rw [← HW6.out]
  refine HFI.out.mono ?_
  rintro e w' ⟨rfl, he⟩
  have he2 := he.symm
  clear he
  subst he2
  gi_wp2
  rw [← HDY.out]
  have hl4 : g < w7.heap.size ∧ b12 < w7.heap.size ∧ D < w7.heap.size ∧ D + 1 < w7.heap.size := by have := HL.out; exact ⟨by omega, by omega, by omega, by omega⟩
  have hW7 := HL.out.1
  refine wpIn_rangeO rfl hm1 (gf := 36) rfl trivial (enters_of Tryz.func36 (by kernel_rfl) rfl)
   hseq (fun h k => KeepB.trans h k) (fun X o' => fun q hq => World.putObj_heap_other (by have := HL.out; rcases hq with hq | rfl | rfl <;> omega)) (Below.refl _ _) (fun _ => rfl)
   (fun m pre X => RepGo w7 r.data.toList s.data.toList b12 g D (D + 1) all pre X)
   (fun m c pre X => RepOut w7 r.data.toList s.data.toList b12 g D (D + 1) all c pre X)
   (fun m pre X X' hm ⟨h1, T, h3⟩ ht => ⟨h1, T, h3.turns hl4 ht⟩)
   (fun m c pre X X' hm ⟨h0, pre', p, st, h1, h2, h3, h4⟩ ht => ⟨h0, pre', p, st, h1, h2, h3, h4.turns hl4 ht⟩)
   (fun m X hm hX => ⟨.inl rfl, [], HI7.out.turns hl4 (Turns.of_below (m := m) hX (Nat.le_refl _))⟩)
   (fun p => { tmps := #[.agg #[.int .i64 k, .string ss, .bool nn, .int .i64 lo, .int .i64 hi, .slice a ts.length cap], .string r, .string s, .bool all, .pointer (some ⟨w.heap.size, 0, none⟩), undef, .pointer (some ⟨w.heap.size + 1, 0, none⟩), .pointer (some ⟨w.heap.size + 1 + 1, 0, none⟩), .string ⟨#[]⟩, .int .i64 0, .bool false, .pointer (some ⟨b11, 0, none⟩), .pointer (some ⟨b12, 0, none⟩), .pointer (some ⟨D, 0, none⟩), .pointer (some ⟨D + 1, 0, none⟩), .int .i64 (p.1 : Int), .int .i64 (p.2 : Int), .string r, .slice ap lp cp, .slice (some ⟨g, 0, none⟩) 4000 4000, .agg #[.slice (some ⟨g, 0, none⟩) 4000 4000, .int .i64 0, .bool false], .agg #[.int .i64 k, .string ss, .bool nn, .int .i64 lo, .int .i64 hi, .slice a ts.length cap], .string s, .func (.func 36) #[] #[.pointer (some ⟨D + 2, 0, none⟩), .pointer (some ⟨D + 2 + 1, 0, none⟩)], .int .i64 (p.1 : Int), .int .i64 (p.2 : Int), undef, undef, undef, undef, undef, undef, undef, undef, undef, undef, undef, undef, undef, undef, undef, undef, undef, undef, undef, undef, undef, undef, undef, undef, undef, undef, undef, undef, undef, undef, undef, undef, undef, undef], defers := [] }) ?assign ?body ?done ?stop
  case assign =>
   intro l' x X K hK
   unfold pairV
   gi_wp2
   exact hK
  case done =>
   rintro D' m pre X hm hmX hD hDm hys ⟨hall, T0, hI⟩ hK
   obtain ⟨st, hst⟩ : ∃ st : RmS, st = (T0, false) := ⟨_, rfl⟩
   rw [← hst] at hI
   have HEQ := qd (show repPs all (matchesZ Z s.size) = pre ∨ (all = true ∧ st.2 = true ∧ ∃ rest, matchesZ Z s.size = pre ++ rest) from by
        left
        rw [← hys]
        unfold repPs
        rcases hall with rfl | rfl
        · cases all <;> rfl
        · rfl)
   have hpn : pre.length ≤ 1048577 := by rw [hys]; have := matchesZ_len Z s.size; omega
   have hfin : (repSt s.data.toList r.data.toList pre).2 ≤ s.size := by rw [hys]; exact HCH.out.fin _ _
   clear hys hall hst
   have hBX := HB7.out X hI.oth hI.size
   obtain ⟨fr, hfr⟩ : ∃ fr, fr = (repSt s.data.toList r.data.toList pre).2 := ⟨_, rfl⟩
   have hl := HL.out
   have y1 := hBX.sb
   have y2 := hI.behind.cell
   rw [← hfr] at y2
   have hfs : fr ≤ s.size := by rw [hfr]; exact hfin
   clear hfin
   have hsl : s.data.toList.length = s.size := by simp
   have hs1 : ∀ W, (Instr.slice 9 (.string s) (some (.int .i64 (fr : Int))) none none).run Tryz.prog W = .ok (.string ⟨(s.data.toList.drop fr).toArray⟩) W := fun W => by
        rw [run_slice_string_from_if W _ s .i64 _ Tryz.underlying9, if_pos ⟨by omega, by omega⟩, Int.toNat_natCast, extract_drop, List.take_of_length_le (by simp)]
   have hdl : (s.data.toList.drop fr).length ≤ 1048576 := by rw [List.length_drop]; omega
   have hok2 := hI.ok.fin
   rw [← hfr] at hok2
   generalize hX1 : s.data.toList.drop fr = X1 at hs1 hdl hok2
   have hend := rep_end (all := all) (ps := matchesZ Z s.size) hI.ok hok2 (fun h => addR_full h) HEQ.out
   have HA := qd (roomAdd_any ⟨X1.toArray⟩ 1 g b12 4000 4000 st X (by rw [bszP]; exact hdl) (by omega) (by omega) (Nat.le_refl _) hI.rm)
   rw [show ((1 : Nat) : Int) = 1 from rfl] at HA
   simp only at HA
   have hst1 : (addR 4000 st X1 1).1.length ≤ 4000 := addR_le hI.rm.le
   generalize addR 4000 st X1 1 = st2 at *
   obtain ⟨T2, full⟩ := st2
   have HEND := qd hend
   have HI := qd hI
   have HK := qd hK
   have HD := qd (And.intro hD hmX)
   have hplen : (pre.length : Int) ≤ 1048577 := by omega
   clear hend hI hBX hok2 hX1 hsl hfr hK hseq hW7 hD hDm hl hm hmX hl4
   have hf3 : Fence.wide.fn 27 := trivial
   gi_wp2
   refine (callsIn_wide.2 HA.out).mono ?_
   rintro en X5 ⟨⟨v2, rfl⟩, hr5, hb5⟩
   have hl := HL.out
   have hz5 := hb5.bel.size
   have hoth5 : ∀ q, q < X.heap.size → q ≠ g → q ≠ b12 → X5.heap[q]? = X.heap[q]? := hb5.oth
   have hB5 := HB7.out X5 (fun q h0 h1 h2 h3 h4 => (hoth5 q (Nat.lt_of_lt_of_le h0 HI.out.size) h1 h2).trans (HI.out.oth q h0 h1 h2 h3 h4)) (Nat.le_trans HI.out.size hz5)
   have m5 : Boxed X5 D 3 (.int .i64 (pre.length : Int)) := (hoth5 D (by have := HI.out.size; omega) (by omega) (by omega)).trans HI.out.many
   have c0 := hr5.c0
   have c1 := hr5.c1
   have c2 := hr5.c2
   have cm := m5.cell
   have cs := hB5.sb
   have hK5 : X5.heap[D']? = some (.deferred (some [])) := (hoth5 D' (Array.getElem?_eq_some_iff.1 HK.out).1 (by have := HD.out.1; omega) (by have := HD.out.1; omega)).trans HK.out
   have HBL := qd (show Below w.heap.size w (X5.putObj D' (.deferred none)) from by
        have hX : Below w.heap.size w X := ⟨HI.out.os.trans HBW.out.os, HI.out.tape.trans HBW.out.tape, HI.out.output.trans HBW.out.output, Nat.le_trans HBW.out.size HI.out.size, fun q hq => (HI.out.oth q (by omega) (by omega) (by omega) (by omega) (by omega)).trans (HBW.out.block q hq)⟩
        have h5 : Below w.heap.size w X5 := hX.trans (hb5.bel.mono (by omega))
        exact ⟨h5.os, h5.tape, h5.output, by simpa using h5.size, fun q hq => (World.putObj_heap_other (by have := HD.out.1; omega)).trans (h5.block q hq)⟩)
   have HK5 := qd hK5
   have hbk : ∀ k, (convert 22 9 (.slice (some ⟨g, 0, none⟩) T2.length 4000)).run Tryz.prog (X5.drewN k) = .ok (.string ⟨T2.toArray⟩) (X5.drewN k) := fun k => Rm.back2 (hr5.heap (w' := X5.drewN k) rfl) 4000
   clear hr5 hb5 hoth5 hB5 m5 hK5 hl HA
   cases full
   · have HEND := qd (HEND.out.trans (if_neg (by simp)))
     gi_wp2
     refine wpIn_wide.2 ?_
     go_quiet (fail)
     gi_wp2
     refine ⟨by simp, .inl ⟨_, _, rfl, run_takeDeferred (show (X5.drewN nq).heap[D']? = some (.deferred (some [])) from HK5.out), ?_⟩⟩
     exact ⟨.tuple #[.string ⟨T2.toArray⟩, .int .i64 (pre.length : Int), .bool true], by simp [results, Tryz.results10, go_sem], by rw [HZE.out, HEND.out], ⟨HBL.out.os, HBL.out.tape, HBL.out.output, HBL.out.size, HBL.out.block⟩⟩
   · have HEND := qd (HEND.out.trans (if_pos rfl))
     gi_wp2
     refine ⟨by simp, .inl ⟨_, _, rfl, run_takeDeferred HK5.out, ?_⟩⟩
     exact ⟨.tuple #[.string s, .int .i64 0, .bool false], by simp [results, Tryz.results10, go_sem], by rw [HZE.out, HEND.out]; simp, HBL.out⟩
  case stop =>
   rintro D' m c pre X hm hmX hD hDm ⟨rest, hrest⟩ ⟨hcode, pre', p, st, hpre, hall, hst, hI⟩ hK
   subst hcode
   have HEQ := qd (show repPs all (matchesZ Z s.size) = pre ∨ (all = true ∧ st.2 = true ∧ ∃ rest, matchesZ Z s.size = pre ++ rest) from by
        cases all
        · left
          rcases hall with rfl | h
          · rw [hrest, hpre]; rfl
          · cases h
        · right
          rcases hst with h | h
          · exact ⟨rfl, h, rest, hrest⟩
          · cases h)
   have hpn : pre.length ≤ 1048577 := by have := matchesZ_len Z s.size; rw [hrest, List.length_append] at this; omega
   have hfin : (repSt s.data.toList r.data.toList pre).2 ≤ s.size := by
        have h := (HCH.out.take pre.length).fin s.data.toList r.data.toList
        rw [hrest, List.take_left'] at h
        · exact h
        · rfl
   clear hrest hall hst hpre
   have hBX := HB7.out X hI.oth hI.size
   obtain ⟨fr, hfr⟩ : ∃ fr, fr = (repSt s.data.toList r.data.toList pre).2 := ⟨_, rfl⟩
   have hl := HL.out
   have y1 := hBX.sb
   have y2 := hI.behind.cell
   rw [← hfr] at y2
   have hfs : fr ≤ s.size := by rw [hfr]; exact hfin
   clear hfin
   have hsl : s.data.toList.length = s.size := by simp
   have hs1 : ∀ W, (Instr.slice 9 (.string s) (some (.int .i64 (fr : Int))) none none).run Tryz.prog W = .ok (.string ⟨(s.data.toList.drop fr).toArray⟩) W := fun W => by
        rw [run_slice_string_from_if W _ s .i64 _ Tryz.underlying9, if_pos ⟨by omega, by omega⟩, Int.toNat_natCast, extract_drop, List.take_of_length_le (by simp)]
   have hdl : (s.data.toList.drop fr).length ≤ 1048576 := by rw [List.length_drop]; omega
   have hok2 := hI.ok.fin
   rw [← hfr] at hok2
   generalize hX1 : s.data.toList.drop fr = X1 at hs1 hdl hok2
   have hend := rep_end (all := all) (ps := matchesZ Z s.size) hI.ok hok2 (fun h => addR_full h) HEQ.out
   have HA := qd (roomAdd_any ⟨X1.toArray⟩ 1 g b12 4000 4000 st X (by rw [bszP]; exact hdl) (by omega) (by omega) (Nat.le_refl _) hI.rm)
   rw [show ((1 : Nat) : Int) = 1 from rfl] at HA
   simp only at HA
   have hst1 : (addR 4000 st X1 1).1.length ≤ 4000 := addR_le hI.rm.le
   generalize addR 4000 st X1 1 = st2 at *
   obtain ⟨T2, full⟩ := st2
   have HEND := qd hend
   have HI := qd hI
   have HK := qd hK
   have HD := qd (And.intro hD hmX)
   have hplen : (pre.length : Int) ≤ 1048577 := by omega
   clear hend hI hBX hok2 hX1 hsl hfr hK hseq hW7 hD hDm hl hm hmX hl4
   have hf3 : Fence.wide.fn 27 := trivial
   gi_wp2
   refine (callsIn_wide.2 HA.out).mono ?_
   rintro en X5 ⟨⟨v2, rfl⟩, hr5, hb5⟩
   have hl := HL.out
   have hz5 := hb5.bel.size
   have hoth5 : ∀ q, q < X.heap.size → q ≠ g → q ≠ b12 → X5.heap[q]? = X.heap[q]? := hb5.oth
   have hB5 := HB7.out X5 (fun q h0 h1 h2 h3 h4 => (hoth5 q (Nat.lt_of_lt_of_le h0 HI.out.size) h1 h2).trans (HI.out.oth q h0 h1 h2 h3 h4)) (Nat.le_trans HI.out.size hz5)
   have m5 : Boxed X5 D 3 (.int .i64 (pre.length : Int)) := (hoth5 D (by have := HI.out.size; omega) (by omega) (by omega)).trans HI.out.many
   have c0 := hr5.c0
   have c1 := hr5.c1
   have c2 := hr5.c2
   have cm := m5.cell
   have cs := hB5.sb
   have hK5 : X5.heap[D']? = some (.deferred (some [])) := (hoth5 D' (Array.getElem?_eq_some_iff.1 HK.out).1 (by have := HD.out.1; omega) (by have := HD.out.1; omega)).trans HK.out
   have HBL := qd (show Below w.heap.size w (X5.putObj D' (.deferred none)) from by
        have hX : Below w.heap.size w X := ⟨HI.out.os.trans HBW.out.os, HI.out.tape.trans HBW.out.tape, HI.out.output.trans HBW.out.output, Nat.le_trans HBW.out.size HI.out.size, fun q hq => (HI.out.oth q (by omega) (by omega) (by omega) (by omega) (by omega)).trans (HBW.out.block q hq)⟩
        have h5 : Below w.heap.size w X5 := hX.trans (hb5.bel.mono (by omega))
        exact ⟨h5.os, h5.tape, h5.output, by simpa using h5.size, fun q hq => (World.putObj_heap_other (by have := HD.out.1; omega)).trans (h5.block q hq)⟩)
   have HK5 := qd hK5
   have hbk : ∀ k, (convert 22 9 (.slice (some ⟨g, 0, none⟩) T2.length 4000)).run Tryz.prog (X5.drewN k) = .ok (.string ⟨T2.toArray⟩) (X5.drewN k) := fun k => Rm.back2 (hr5.heap (w' := X5.drewN k) rfl) 4000
   clear hr5 hb5 hoth5 hB5 m5 hK5 hl HA
   cases full
   · have HEND := qd (HEND.out.trans (if_neg (by simp)))
     gi_wp2
     refine wpIn_wide.2 ?_
     go_quiet (fail)
     gi_wp2
     refine ⟨by simp, .inl ⟨_, _, rfl, run_takeDeferred (show (X5.drewN nq).heap[D']? = some (.deferred (some [])) from HK5.out), ?_⟩⟩
     exact ⟨.tuple #[.string ⟨T2.toArray⟩, .int .i64 (pre.length : Int), .bool true], by simp [results, Tryz.results10, go_sem], by rw [HZE.out, HEND.out], ⟨HBL.out.os, HBL.out.tape, HBL.out.output, HBL.out.size, HBL.out.block⟩⟩
   · have HEND := qd (HEND.out.trans (if_pos rfl))
     gi_wp2
     refine ⟨by simp, .inl ⟨_, _, rfl, run_takeDeferred HK5.out, ?_⟩⟩
     exact ⟨.tuple #[.string s, .int .i64 0, .bool false], by simp [results, Tryz.results10, go_sem], by rw [HZE.out, HEND.out]; simp, HBL.out⟩
  case body =>
   rintro l2 m pre ⟨b, e⟩ X hm hmX ⟨hall, T0, hI⟩ hnx
   simp only
   obtain ⟨st, hst⟩ : ∃ st : RmS, st = (T0, false) := ⟨_, rfl⟩
   rw [← hst] at hI
   clear hst
   clear hseq
   have hB := HB7.out X hI.oth hI.size
   obtain ⟨fr, hfr⟩ : ∃ fr, fr = (repSt s.data.toList r.data.toList pre).2 := ⟨_, rfl⟩
   have HFR := qd hfr
   have hfb : fr ≤ b := by rw [hfr]; exact repSt_snd_le hnx.1
   have hbe : b ≤ e := hnx.2.1
   have hes : e ≤ s.size := hnx.2.2.1
   have hpl : pre.length ≤ 1048577 := by have := hnx.2.2.2; have := HL.out.2.2.2.2.2.2; omega
   have y1 := hB.sb
   have y2 := hI.behind.cell
   rw [← hfr] at y2
   have hs1 : ∀ W, (Instr.slice 9 (.string s) (some (.int .i64 (fr : Int))) (some (.int .i64 (b : Int))) none).run Tryz.prog W = .ok (.string ⟨((s.data.toList.take b).drop fr).toArray⟩) W := fun W => by
        rw [run_slice_string W _ s .i64 .i64 _ _ Tryz.underlying9 (by omega) (by omega) (by omega), Int.toNat_natCast, Int.toNat_natCast, extract_drop]
   have hs2 : ∀ W, (Instr.slice 9 (.string s) (some (.int .i64 (b : Int))) (some (.int .i64 (e : Int))) none).run Tryz.prog W = .ok (.string ⟨((s.data.toList.take e).drop b).toArray⟩) W := fun W => by
        rw [run_slice_string W _ s .i64 .i64 _ _ Tryz.underlying9 (by omega) (by omega) (by omega), Int.toNat_natCast, Int.toNat_natCast, extract_drop]
   have hsl : s.data.toList.length = s.size := by simp
   have hrl : r.data.toList.length = r.size := by simp
   have hps : pqSum pc ≤ 1048576 := by have := HPA.out.1.2.1; omega
   have hpn : pc.length ≤ 1048577 := by have := HPA.out.1.2.2; omega
   clear hrl
   have hl1 : ((s.data.toList.take b).drop fr).length ≤ 1048576 := by rw [List.length_drop, List.length_take]; omega
   have hl2 : ((s.data.toList.take e).drop b).length ≤ 1048576 := by rw [List.length_drop, List.length_take]; omega
   have hNX := fun X3 => RepI.next (X3 := X3) hI HPA.out.1 (b, e)
   simp only at hNX
   rw [← hfr] at hNX
   generalize hX1 : (s.data.toList.take b).drop fr = X1 at hs1 hl1 hNX
   generalize hX2 : (s.data.toList.take e).drop b = X2 at hs2 hl2 hNX
   have HA := qd (fun q => (callsIn_wide.2 (roomAdd_any ⟨X1.toArray⟩ 1 g b12 4000 4000 st X (by rw [bszP]; exact hl1) (by omega) (by omega) (Nat.le_refl _) hI.rm) : CallsIn Fence.wide q _ _ _ _ _))
   rw [show ((1 : Nat) : Int) = 1 from rfl] at HA
   have HNX := qd hNX
   have HI := qd hI
   have HH := qd (And.intro hall (And.intro hpl (And.intro hbe hes)))
   have hf9 : (Fence.wide.inRound l2).fn 27 := trivial
   clear hB hNX hX1 hX2 hI hnx hall hpl hfr hsl
   gi_wp2
   refine ⟨trivial, fun _ => by omega, ?_⟩
   refine (HA.out _).mono ?_
   rintro en X5 ⟨⟨v2, rfl⟩, hr2, hb2⟩
   have hz2 := hb2.bel.size
   have hoth2 : ∀ q, q < w7.heap.size → q ≠ g → q ≠ b12 → q ≠ D → q ≠ D + 1 → X5.heap[q]? = w7.heap[q]? := fun q h0 h1 h2 h3 h4 => (hb2.oth q (Nat.lt_of_lt_of_le h0 HI.out.size) h1 h2).trans (HI.out.oth q h0 h1 h2 h3 h4)
   have hB2 := HB7.out X5 hoth2 (Nat.le_trans HI.out.size hz2)
   have z1 := hB2.pcs
   have z2 := hB2.sb
   have HR2 := qd hr2
   have HC2 := qd hb2
   have HO2 := qd hoth2
   have HP := qd (roomPut_any pc ap cp ⟨X2.toArray⟩ g b12 4000 4000 (addR 4000 st X1 1) X5.drew (by rw [bszP]; exact hl2) hps hpn (by omega) (Nat.le_refl _) hr2.drew (fun W hW => (HB7.out W (fun q h0 h1 h2 h3 h4 => (hW.oth q (by have := HI.out.size; show q < X5.heap.size; omega) h1 h2).trans (hoth2 q h0 h1 h2 h3 h4)) (Nat.le_trans HI.out.size (Nat.le_trans hz2 hW.bel.size))).row))
   rw [← HPA.out.2] at HP
   clear hB2 hr2 hb2 hoth2 y1 y2 HA
   gi_wp2
   refine wpIn_region_held_round (S := fun W => W.cell? ⟨b11, 0, none⟩ = some (.slice ap lp cp) ∧ W.cell? ⟨w.heap.size + 1, 0, none⟩ = some (.string s)) l2 (by kernel_rfl) (fun ⟨_, _, h⟩ => h) (by kernel_rfl) ⟨z1, z2⟩ (fun hHeld => ?_)
   refine wpAnyH_take (i := 0) (v := ?_) rfl (by kernel_rfl) (by kernel_rfl) (by kernel_rfl) (fun _ _ _ h => h) (Or.inl ⟨by kernel_rfl, ?_⟩) (by assumption) ?_
   rotate_left 1
   · intro w hSw
     try dsimp only at hSw
     obtain ⟨q1, q2⟩ := hSw
     go_simp
     try with_reducible rfl
   try simp only [nmA, Act.put]
   refine wpAnyH_take (i := 1) (v := ?_) rfl (by kernel_rfl) (by kernel_rfl) (by kernel_rfl) (fun _ _ _ h => h) (Or.inl ⟨by kernel_rfl, ?_⟩) (by assumption) ?_
   rotate_left 1
   · intro w hSw
     try dsimp only at hSw
     obtain ⟨q1, q2⟩ := hSw
     go_simp
     try with_reducible rfl
   try simp only [nmA, Act.put]
   refine wpAnyH_take (i := 2) (v := ?_) rfl (by kernel_rfl) (by kernel_rfl) (by kernel_rfl) (fun _ _ _ h => h) (Or.inl ⟨by kernel_rfl, ?_⟩) (by assumption) ?_
   rotate_left 1
   · intro w hSw
     try dsimp only at hSw
     obtain ⟨q1, q2⟩ := hSw
     go_simp
     try with_reducible rfl
   try simp only [nmA, Act.put]
   refine wpAnyH_take (i := 3) (v := ?_) rfl (by kernel_rfl) (by kernel_rfl) (by kernel_rfl) (fun _ _ _ h => h) (Or.inl ⟨by kernel_rfl, ?_⟩) (by assumption) ?_
   rotate_left 1
   · intro w hSw
     try dsimp only at hSw
     obtain ⟨q1, q2⟩ := hSw
     go_simp
     try with_reducible rfl
   try simp only [nmA, Act.put]
   refine wpAnyH_take (i := 4) (v := ?_) rfl (by kernel_rfl) (by kernel_rfl) (by kernel_rfl) (fun _ _ _ h => h) (Or.inl ⟨by kernel_rfl, ?_⟩) (by assumption) ?_
   rotate_left 1
   · intro w hSw
     try dsimp only at hSw
     obtain ⟨q1, q2⟩ := hSw
     go_simp
     try with_reducible rfl
   try simp only [nmA, Act.put]
   refine rdA 5 (fun K hK => ?_)
   go_simp
   refine HP.out.mono ?_
   rintro en X6 ⟨⟨v3, rfl⟩, hr3, hb3⟩
   have hz3 := hb3.bel.size
   have hX56 : X5.heap.size ≤ X6.heap.size := hz3
   have hoth3 : ∀ q, q < X.heap.size → q ≠ g → q ≠ b12 → X6.heap[q]? = X.heap[q]? := fun q h0 h1 h2 => (hb3.oth q (Nat.lt_of_lt_of_le h0 hz2) h1 h2).trans (HC2.out.oth q h0 h1 h2)
   have hB3 := HB7.out X6 (fun q h0 h1 h2 h3 h4 => (hb3.oth q (by have := HI.out.size; show q < X5.heap.size; omega) h1 h2).trans (HO2.out q h0 h1 h2 h3 h4)) (by have := HI.out.size; omega)
   have hl := HL.out
   have m6 : Boxed X6 D 3 (.int .i64 (pre.length : Int)) := (hoth3 D (by have := HI.out.size; omega) (by omega) (by omega)).trans HI.out.many
   have k6 : Boxed X6 (D + 1) 3 (.int .i64 (fr : Int)) := (hoth3 (D + 1) (by have := HI.out.size; omega) (by omega) (by omega)).trans (by have h := HI.out.behind; rw [HFR.out]; exact h)
   have c1 := m6.cell
   have f1 := m6.frozen
   have c2 := k6.cell
   have f2 := k6.frozen
   have c3 := hr3.c2
   have c4 := hB3.ab
   have hN1 : ¬ (D = b12) := by omega
   have hN2 : ¬ (D + 1 = b12) := by omega
   have hN3 : ¬ (D = w.heap.size + 1 + 1) := by omega
   have hN4 : ¬ (D + 1 = w.heap.size + 1 + 1) := by omega
   have hN5 : ¬ (b12 = D) := by omega
   have hN6 : ¬ (b12 = D + 1) := by omega
   have hN7 : ¬ (w.heap.size + 1 + 1 = D) := by omega
   have hN8 : ¬ (w.heap.size + 1 + 1 = D + 1) := by omega
   have hw1 : IntKind.i64.wrap ((pre.length : Int) + 1) = (pre.length : Int) + 1 := by rw [IntKind.wrap_i64]; have := HH.out.2.1; omega
   have HJ := qd (HNX.out X6 hr3 hoth3 ((hb3.bel.os.trans (rfl : X5.drew.os = X5.os)).trans HC2.out.bel.os) ((hb3.bel.tape.trans (rfl : X5.drew.tape = X5.tape)).trans HC2.out.bel.tape) ((hb3.bel.output.trans (rfl : X5.drew.output = X5.output)).trans HC2.out.bel.output) (Nat.le_trans hz2 hz3) ⟨by omega, by omega, by omega, by omega, by omega⟩ _ rfl)
   have HLV := qd (show ∀ q, q < X.heap.size → q ≠ g → q ≠ b12 → q ≠ D → q ≠ D + 1 → ((X6.setCell ⟨D, 0, none⟩ (.int .i64 ((pre.length : Int) + 1))).setCell ⟨D + 1, 0, none⟩ (.int .i64 (e : Int))).heap[q]? = X.heap[q]? from fun q h0 h1 h2 h3 h4 => ((Below.heap_setCell _ _ _ _ h4).trans (Below.heap_setCell _ _ _ _ h3)).trans (hoth3 q h0 h1 h2))
   have HSZ := qd (show X.heap.size ≤ ((X6.setCell ⟨D, 0, none⟩ (.int .i64 ((pre.length : Int) + 1))).setCell ⟨D + 1, 0, none⟩ (.int .i64 (e : Int))).heap.size from by simp; omega)
   refine hK.out _ _ ⟨hB3.pcs, hB3.sb⟩ (fun hHeld => ?_)
   clear hK K hHeld hB3 hr3 hb3 hoth3 hl m6 k6 HR2 HC2 HO2 HP z1 z2 hz2 hz3 hX56
   try simp only [nmA, Act.put]
   refine wpAnyH_done (by kernel_rfl) ?_ _
   generalize putR 4000 X2 (addR 4000 st X1 1) pc = st3 at *
   obtain ⟨T3, full⟩ := st3
   simp only at c3 HJ
   have hXz := HI.out.size
   have HKF := qd (show KeepsFrom w7.heap.size X ((X6.setCell ⟨D, 0, none⟩ (.int .i64 ((pre.length : Int) + 1))).setCell ⟨D + 1, 0, none⟩ (.int .i64 (e : Int))) from ⟨HSZ.out, fun q o hq h1 h2 => (HLV.out q (Array.getElem?_eq_some_iff.1 h1).1 (by have := HL.out; omega) (by have := HL.out; omega) (by have := HL.out; omega) (by have := HL.out; omega)).trans h1⟩)
   have HLE := qd (show Leaves (w7.heap.size + 2) m X ((X6.setCell ⟨D, 0, none⟩ (.int .i64 ((pre.length : Int) + 1))).setCell ⟨D + 1, 0, none⟩ (.int .i64 (e : Int))) from ⟨KeepsFrom.up HKF.out (by omega), fun q h1 h2 => HLV.out q (by omega) (by have := HL.out; omega) (by have := HL.out; omega) (by have := HL.out; omega) (by have := HL.out; omega)⟩)
   have HKB := qd (show KeepB (fun q => q < w.heap.size ∨ q = D + 2 ∨ q = D + 3) X ((X6.setCell ⟨D, 0, none⟩ (.int .i64 ((pre.length : Int) + 1))).setCell ⟨D + 1, 0, none⟩ (.int .i64 (e : Int))) from fun q hq => by
        have hl := HL.out
        rcases hq with hq | rfl | rfl
        · exact HLV.out q (by omega) (by omega) (by omega) (by omega) (by omega)
        · exact HLV.out _ (by omega) (by omega) (by omega) (by omega) (by omega)
        · exact HLV.out _ (by omega) (by omega) (by omega) (by omega) (by omega))
   have hmm := hm
   clear hW7 hm hmX hXz
   cases full <;> cases all
   all_goals gi_wp2
   · exact ⟨HKF.out, HLE.out, ⟨rfl, pre, (b, e), (T3, false), rfl, HH.out.1, .inr rfl, HJ.out⟩⟩
   · exact ⟨HKF.out, HLE.out, ⟨.inr rfl, T3, HJ.out⟩, HKB.out⟩
   · exact ⟨HKF.out, HLE.out, ⟨rfl, pre, (b, e), (T3, true), rfl, HH.out.1, .inl rfl, HJ.out⟩⟩
   · exact ⟨HKF.out, HLE.out, ⟨rfl, pre, (b, e), (T3, true), rfl, .inr rfl, .inl rfl, HJ.out⟩⟩
end Go.Proofs.YtcimhpdpfckgiaaGreatDoor.kit
