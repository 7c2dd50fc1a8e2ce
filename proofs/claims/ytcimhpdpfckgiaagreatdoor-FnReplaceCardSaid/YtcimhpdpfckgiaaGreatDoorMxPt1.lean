/-
  How a call owns a slice of pieces, append of one piece, and a room's cells; of no program but for the types' numbers. Conditions: each theorem names its own.
-/
import Derived.Test.YtcimhpdpfckgiaaGreatDoorMxEp0
import Derived.Test.YtcimhpdpfckgiaaGreatDoorMxInfo
import Derived.Lib.LazyBuf
import Derived.Deep.OwnRows
set_option linter.unusedVariables false
open Go.ChangeShapes Go.WideShapes Go.ChangeAt Go.RowKit
namespace Go.Proofs.YtcimhpdpfckgiaaGreatDoor.kit
def pcC (p : Pc) : List Value := [.string ⟨p.1.toArray⟩, .int .i64 (p.2 : Int)]
def pcVals (ps : List Pc) : List Value := ps.flatMap pcC
theorem pcVals_at (ps : List Pc) (j d : Nat) (hj : j < ps.length) (hd : d < 2) : (pcVals ps)[j * 2 + d]? = (pcC ps[j])[d]? := by
 induction ps generalizing j with
 | nil => simp at hj
 | cons t ps ih =>
   have hc : (pcC t).length = 2 := rfl
   show (pcC t ++ pcVals ps)[j * 2 + d]? = _
   cases j with
   | zero => rw [List.getElem?_append_left (by omega)]; simp
   | succ j =>
     rw [List.getElem?_append_right (by omega), hc, show (j + 1) * 2 + d - 2 = j * 2 + d by omega, ih j (by simpa using hj)]
     simp
def OwnPc (B : Nat) (w : World) (v : Value) (ps : List Pc) : Prop := w.ownsRow B 61 2 v ps.length (pcVals ps)
theorem ownPc_start {B : Nat} {w : World} (hB : B ≤ w.heap.size) : OwnPc B (w.alloc (.cells #[] 61)) (.slice (some ⟨w.heap.size, 0, none⟩) 0 0) [] :=
 World.ownsRow_made w #[] 0 hB (by simp [maxLen]) rfl
theorem OwnPc.alloc {B : Nat} {w : World} {v : Value} {ps : List Pc} (h : OwnPc B w v ps) (o : Obj) : OwnPc B (w.alloc o) v ps := World.ownsRow.alloc h o
theorem OwnPc.kept {B : Nat} {w w' : World} {v : Value} {ps : List Pc} (h : OwnPc B w v ps) (hb : Below w.heap.size w w') : OwnPc B w' v ps :=
 World.ownsRow.kept h ⟨hb.os, hb.tape, hb.output, hb.size, fun k hk _ => hb.block k hk⟩ (row := none) (by cases v.ownBlock <;> simp)
theorem pc_apart {B B' : Nat} {w : World} {v v' : Value} {ps : List Pc} {xs : List UInt8} (h : OwnPc B w v ps) (h' : Own 5 B' w v' xs) : v.ownBlock = none ∨ v.ownBlock ≠ v'.ownBlock := by
 rcases h.2 with ⟨rfl, _⟩ | ⟨g, cap, cur, rfl, hb, hg, _⟩
 · exact .inl rfl
 · refine .inr ?_
   rcases h'.2 with ⟨rfl, _⟩ | ⟨g', cap', cur', rfl, hb', hg', _⟩
   · simp [Value.ownBlock]
   · simp only [Value.ownBlock]
     intro e
     injection e with e
     subst e
     rw [hg] at hg'
     injection hg' with e
     injection e with _ e _
     exact absurd e (by decide)
theorem OwnPc.other {B : Nat} {w w' : World} {row : Option Nat} {v : Value} {ps : List Pc} (h : OwnPc B w v ps) (hg : w.grownBy w' row) (hne : v.ownBlock = none ∨ v.ownBlock ≠ row) : OwnPc B w' v ps := World.ownsRow.kept h hg hne
theorem add_atP (b o k : Nat) : (⟨b, o, none⟩ : Addr).add k = ⟨b, o + k, none⟩ := by unfold Addr.add; split <;> simp_all
def PcR (B : Nat) (w : World) (ps : List Pc) (a : Option Addr) : Prop := ∀ j (h : j < ps.length), ∃ g, a = some ⟨g, 0, none⟩ ∧ B ≤ g ∧ g < w.heap.size ∧ w.cell? ⟨g, j * 2, none⟩ = some (.string ⟨ps[j].1.toArray⟩) ∧ w.cell? ⟨g, j * 2 + 1, none⟩ = some (.int .i64 (ps[j].2 : Int))
theorem PcR.kept {B : Nat} {w w' : World} {ps : List Pc} {a : Option Addr} (h : PcR B w ps a) (hb : Below w.heap.size w w') : PcR B w' ps a := fun j hj => by
 obtain ⟨g, e, h1, h2, h3, h4⟩ := h j hj
 exact ⟨g, e, h1, Nat.lt_of_lt_of_le h2 hb.size, (hb.cell (p := ⟨g, j * 2, none⟩) h2).trans h3, (hb.cell (p := ⟨g, j * 2 + 1, none⟩) h2).trans h4⟩
theorem OwnPc.read {B : Nat} {w : World} {v : Value} {ps : List Pc} (h : OwnPc B w v ps) : ∃ a cap, v = .slice a ps.length cap ∧ PcR B w ps a := by
 rcases h.2 with ⟨rfl, h0⟩ | ⟨g, cap, cur, rfl, hb, hg, hr⟩
 · exact ⟨none, 0, by rw [h0], fun j hj => by omega⟩
 · have h2 : w.ownsRow B 61 2 (.slice (some ⟨g, 0, none⟩) ps.length cap) ps.length (pcVals ps) := h
   refine ⟨some ⟨g, 0, none⟩, cap, rfl, fun j hj => ⟨g, rfl, hb, (Array.getElem?_eq_some_iff.1 hg).1, ?_, ?_⟩⟩
   · have := World.ownsRow.cellAt h2 (j * 2 + 0) (by omega)
     rw [pcVals_at ps j 0 hj (by omega)] at this
     exact this
   · have := World.ownsRow.cellAt h2 (j * 2 + 1) (by omega)
     rw [pcVals_at ps j 1 hj (by omega)] at this
     exact this
theorem infoPiece : (Tryz.prog.info? 61).map (fun i => (i.zero, i.size, i.bytes)) = some (some (.agg #[.string ⟨#[]⟩, .int .i64 0]), 2, 24) := by kernel_rfl
theorem wp_append_piece {w : World} {ops : Array Oper} {rest : List Oper} {o : Oper} {a : Act} {Q : Exit → Act → World → Prop} (hgd : o.guard = none) (s x : Operand)
 (ho : o.op = .call { callee := .builtin .append, args := #[s, x], argTypes := #[52, 52] }) (B : Nat) (v : Value) (ps : List Pc) (hs : a.eval s = v) (hown : OwnPc B w v ps)
 (g : Nat) (c : Nat) (p : Pc) (hx : a.eval x = .slice (some ⟨g, 0, none⟩) 1 c) (h0 : w.cell? ⟨g, 0, none⟩ = some (.string ⟨p.1.toArray⟩)) (h1 : w.cell? ⟨g, 1, none⟩ = some (.int .i64 (p.2 : Int)))
 (hl : ps.length + 1 ≤ 1099511627776) (hB : B ≤ w.heap.size)
 (h : ∀ v' w', OwnPc B w' v' (ps ++ [p]) → w.grownBy w' v.ownBlock → Below B w w' → wpList Tryz.prog ops Q rest (a.put o.dst v') w') : wpList Tryz.prog ops Q (o :: rest) a w := by
 obtain ⟨i0, hi, hz0, hz1, hz2⟩ := info_parts infoPiece
 refine wpList_append_own _ hgd s x _ ho B 61 i0 _ 2 24 Tryz.underlying52 hi hz0 hz1 hz2 rfl (by decide) v ps.length _ hs hown ⟨g, 0, none⟩ 1 c (pcC p) hx (by simp [pcC]) ?_ ?_ ?_ ?_ hB ?_
 · intro j u hu
   have hj : j < 2 := (List.getElem?_eq_some_iff.1 hu).1
   rw [add_atP, Nat.zero_add]
   match j, hj with
   | 0, _ => rw [h0]; exact hu
   | 1, _ => rw [h1]; exact hu
 · intro u hu
   simp only [pcC, List.mem_cons, List.not_mem_nil, or_false] at hu
   rcases hu with rfl | rfl <;> rfl
 · simp only [maxLen]; omega
 · omega
 · intro v' w' h1 h2 h3
   refine h v' w' ?_ h2 (Below.grown (Below.refl _ _) h2 hB (fun k hk => (World.ownsRow.lt hown k hk).1))
   simpa [OwnPc, pcVals, List.flatMap_append] using h1
structure Rm (w : World) (g b size cap : Nat) (out : List UInt8) (full : Bool) : Prop where
 row : ∃ rest : List UInt8, w.rowIs g 5 size (Lib.Lz.bytes (out ++ rest)) ∧ out.length + rest.length = size
 bx : w.rowIs b 55 3 (fun j => if j = 0 then .slice (some ⟨g, 0, none⟩) size cap else if j = 1 then .int .i64 (out.length : Int) else .bool full)
 lt : g ≠ b
theorem Rm.gl {w : World} {g b size cap : Nat} {out : List UInt8} {full : Bool} (h : Rm w g b size cap out full) : g < w.heap.size := by
 obtain ⟨rest, h1, _⟩ := h.row; exact h1.lt
theorem Rm.le {w : World} {g b size cap : Nat} {out : List UInt8} {full : Bool} (h : Rm w g b size cap out full) : out.length ≤ size := by
 obtain ⟨rest, _, h⟩ := h.row; omega
theorem Rm.full {w : World} {g b size cap : Nat} {out : List UInt8} {full : Bool} (h : Rm w g b size cap out full) (v : Bool) : Rm (w.setCell ⟨b, 2, none⟩ (.bool v)) g b size cap out v := by
 obtain ⟨⟨rest, h1, h2⟩, h3, h4⟩ := h
 refine ⟨⟨rest, h1.setOther (by show g ≠ b; omega) _, h2⟩, ?_, h4⟩
 refine (h3.set 2 (.bool v)).congr fun i hi => ?_
 match i, hi with
 | 0, _ => rfl
 | 1, _ => rfl
 | 2, _ => rfl
theorem Rm.put {w : World} {g b size cap : Nat} {out : List UInt8} {full : Bool} (h : Rm w g b size cap out full) (s : List UInt8) (hs : out.length + s.length ≤ size) (n : Int) (hn : n = ((out ++ s).length : Int)) :
 Rm ((w.setCells g out.length (s.map fun x => Value.int .u8 (x.toNat : Int))).setCell ⟨b, 1, none⟩ (.int .i64 n)) g b size cap (out ++ s) full := by
 subst hn
 obtain ⟨⟨rest, h1, h2⟩, h3, h4⟩ := h
 refine ⟨⟨rest.drop s.length, ?_, by simp; omega⟩, ?_, h4⟩
 · refine (((rowIs_setCells (s.map fun x => Value.int .u8 (x.toNat : Int)) out.length _ _ h1).setOther (a := ⟨b, 1, none⟩) (by show g ≠ b; omega) _).congr fun j hj => ?_)
   simp only [List.length_map]
   unfold Lib.Lz.bytes
   by_cases ha : out.length ≤ j ∧ j < out.length + s.length
   · rw [if_pos ha, List.append_assoc, List.getElem?_append_right (by omega), List.getElem?_append_left (by omega), List.getElem?_map]
     rw [List.getElem?_eq_getElem (by omega)]; rfl
   · rw [if_neg ha]
     by_cases hb : j < out.length
     · have e1 : (out ++ rest)[j]? = out[j]? := List.getElem?_append_left hb
       have e2 : (out ++ s ++ rest.drop s.length)[j]? = out[j]? := by rw [List.append_assoc]; exact List.getElem?_append_left hb
       rw [e1, e2]
     · have e1 : (out ++ rest)[j]? = rest[j - out.length]? := List.getElem?_append_right (by omega)
       have e2 : (out ++ s ++ rest.drop s.length)[j]? = (rest.drop s.length)[j - (out ++ s).length]? := List.getElem?_append_right (by rw [List.length_append]; omega)
       rw [e1, e2, List.getElem?_drop, List.length_append, show s.length + (j - (out.length + s.length)) = j - out.length by omega]
 · refine (((rowIs_setCells_other (b := g) (b' := b) (by omega) (s.map fun x => Value.int .u8 (x.toNat : Int)) out.length _ h3).set 1 _).congr fun i hi => ?_)
   match i, hi with
   | 0, _ => rfl
   | 1, _ => rfl
   | 2, _ => rfl
theorem Rm.drew {w : World} {g b size cap : Nat} {out : List UInt8} {full : Bool} (h : Rm w g b size cap out full) : Rm w.drew g b size cap out full := ⟨h.row, h.bx, h.lt⟩
theorem Rm.alloc {w : World} {g b size cap : Nat} {out : List UInt8} {full : Bool} (h : Rm w g b size cap out full) (o : Obj) : Rm (w.alloc o) g b size cap out full := by
 obtain ⟨⟨rest, h1, h2⟩, h3, h4⟩ := h
 exact ⟨⟨rest, h1.alloc o, h2⟩, h3.alloc o, h4⟩
theorem drop_consP (s : ByteArray) (k : Nat) (h : k < s.size) : s.data.toList.drop k = s[k] :: s.data.toList.drop (k + 1) := by
 rw [List.drop_eq_getElem_cons (by simpa using h)]; rfl
theorem drop_allP (s : ByteArray) : s.data.toList.drop s.size = [] := List.drop_of_length_le (by simp)
theorem app_sP (out : List UInt8) (f : ByteArray) : (⟨out.toArray⟩ : ByteArray) ++ f = ⟨(out ++ f.data.toList).toArray⟩ := by
 apply ByteArray.ext; simp
theorem bszP (l : List UInt8) : (ByteArray.mk l.toArray).size = l.length := by simp [ByteArray.size]
theorem rsB_no {c : UInt8} (h : rsB c = false) : c.toNat ≠ 38 ∧ c.toNat ≠ 92 := by
 simp [rsB] at h; exact h
theorem ofNat38 {c : UInt8} (h : c.toNat = 38) : c = 38 := UInt8.toNat_inj.1 h
theorem ofNat92 {c : UInt8} (h : c.toNat = 92) : c = 92 := UInt8.toNat_inj.1 h
set_option maxRecDepth 100000 in
set_option maxHeartbeats 2000000 in
theorem specPut_any (s f : ByteArray) (w : World) (hs : s.size ≤ 1048576) (hf : f.size ≤ 1048576) :
 Calls Tryz.prog 14 #[.string s, .string f] w fun e w' => e = .returned (.string ⟨(putL f.data.toList s.data.toList).toArray⟩) ∧ w = w' := by
 go_enter Tryz.func14, Tryz.ntmps14
 go_wp2
 go_loop [5, 6] (fun o i => ∃ (k : Nat) (out : List UInt8), k ≤ s.size ∧ out.length ≤ k * 1048577 ∧ i = .int .i64 k ∧ o = .string ⟨out.toArray⟩ ∧ out ++ putL f.data.toList (s.data.toList.drop k) = putL f.data.toList s.data.toList) (fun _ i => s.size - (intOf i).toNat)
 case atStart => exact ⟨0, [], Nat.zero_le _, by simp, rfl, rfl, by simp⟩
 case round =>
  obtain ⟨k, out, hk, hlen, rfl, rfl, hrec⟩ := hrel
  have hbz := bszP out
  have HR := qd hrec
  clear hrec
  by_cases hlt : k < s.size
  · have hd := drop_consP s k hlt
    by_cases h1 : s[k].toNat = 38
    · have e1 : ((s[k].toNat : Int) == 38) = true := by simp; omega
      have HN := qd (show (out ++ f.data.toList) ++ putL f.data.toList (s.data.toList.drop (k + 1)) = putL f.data.toList s.data.toList by
       rw [← HR.out, hd, ofNat38 h1, putL_amp, List.append_assoc])
      have hl2 : (out ++ f.data.toList).length ≤ (k + 1) * 1048577 := by rw [List.length_append]; simp; omega
      have HL2 := qd hl2
      clear h1 hd hl2
      go_wp2
      go_round
      case rel => exact ⟨k + 1, out ++ f.data.toList, by omega, HL2.out, by go_num, by rw [app_sP], HN.out⟩
      case measure => simp [intOf]; omega
    · have e1 : ((s[k].toNat : Int) == 38) = false := by simp; omega
      have hone : ∀ (hno : s[k].toNat = 92 → ∀ d u, s.data.toList.drop (k + 1) = d :: u → rsB d = false), (out ++ [s[k]]) ++ putL f.data.toList (s.data.toList.drop (k + 1)) = putL f.data.toList s.data.toList := fun hno => by
       rw [← HR.out, hd, putL_one _ _ _ (fun e => h1 (by rw [e]; rfl)) (fun e => hno (by rw [e]; rfl))]; simp
      have HL2 := qd (show (out ++ [s[k]]).length ≤ (k + 1) * 1048577 by simp; omega)
      have hsl : ∀ (W : World), (Instr.slice 9 (.string s) (some (.int .i64 (k : Int))) (some (.int .i64 ((k : Int) + 1))) none).run Tryz.prog W = .ok (.string ⟨[s[k]].toArray⟩) W := by
       intro W
       rw [run_slice_string W _ s .i64 .i64 _ _ Tryz.underlying9 (by omega) (by omega) (by omega), Int.toNat_natCast, show ((k : Int) + 1).toNat = k + 1 by omega, ext_oneE s k hlt]
      by_cases h2 : s[k].toNat = 92
      · have e2 : ((s[k].toNat : Int) == 92) = true := by simp; omega
        by_cases h3 : k + 1 < s.size
        · have hd2 := drop_consP s (k + 1) h3
          have e3 : decide (k + 1 < s.size) = true := by simp; exact h3
          by_cases hr : rsB s[k + 1] = true
          · have HN := qd (show (out ++ [s[k + 1]]) ++ putL f.data.toList (s.data.toList.drop (k + 2)) = putL f.data.toList s.data.toList by
              rw [← HR.out, hd, hd2, ofNat92 h2, putL_esc _ _ _ hr]; simp)
            have HL3 := qd (show (out ++ [s[k + 1]]).length ≤ (k + 2) * 1048577 by simp; omega)
            have hsl2 : ∀ (W : World), (Instr.slice 9 (.string s) (some (.int .i64 ((k : Int) + 1))) (some (.int .i64 ((k : Int) + 2))) none).run Tryz.prog W = .ok (.string ⟨[s[k + 1]].toArray⟩) W := by
              intro W
              rw [run_slice_string W _ s .i64 .i64 _ _ Tryz.underlying9 (by omega) (by omega) (by omega), show ((k : Int) + 1).toNat = k + 1 by omega, show ((k : Int) + 2).toNat = k + 1 + 1 by omega, ext_oneE s (k + 1) h3]
            clear hsl hone hd hd2 h1 h2
            by_cases h4 : s[k + 1].toNat = 38
            · have e4 : ((s[k + 1].toNat : Int) == 38) = true := by simp; omega
              clear h4 hr
              go_wp2
              go_round
              case rel => exact ⟨k + 2, out ++ [s[k + 1]], by omega, HL3.out, by go_num, by rw [app_litE], HN.out⟩
              case measure => simp [intOf]; omega
            · have e4 : ((s[k + 1].toNat : Int) == 38) = false := by simp; omega
              have e5 : ((s[k + 1].toNat : Int) == 92) = true := by simp [rsB, h4] at hr; simp; omega
              clear h4 hr
              go_wp2
              go_round
              case rel => exact ⟨k + 2, out ++ [s[k + 1]], by omega, HL3.out, by go_num, by rw [app_litE], HN.out⟩
              case measure => simp [intOf]; omega
          · have hr : rsB s[k + 1] = false := by simpa using hr
            have HN := qd (hone (fun _ d u e => by rw [hd2] at e; injection e with e _; rw [← e]; exact hr))
            have hn := rsB_no hr
            have e4 : ((s[k + 1].toNat : Int) == 38) = false := by simp; omega
            have e5 : ((s[k + 1].toNat : Int) == 92) = false := by simp; omega
            clear hone hd hd2 h1 h2 hr hn
            go_wp2
            go_round
            case rel => exact ⟨k + 1, out ++ [s[k]], by omega, HL2.out, by go_num, by rw [app_litE], HN.out⟩
            case measure => simp [intOf]; omega
        · have HN := qd (hone (fun _ d u e => by rw [List.drop_of_length_le (by simp; omega)] at e; cases e))
          have e3 : decide (k + 1 < s.size) = false := by simp; omega
          clear hone hd h1 h2
          go_wp2
          go_round
          case rel => exact ⟨k + 1, out ++ [s[k]], by omega, HL2.out, by go_num, by rw [app_litE], HN.out⟩
          case measure => simp [intOf]; omega
      · have e2 : ((s[k].toNat : Int) == 92) = false := by simp; omega
        have HN := qd (hone (fun e => absurd e h2))
        clear hone hd h1 h2
        go_wp2
        go_round
        case rel => exact ⟨k + 1, out ++ [s[k]], by omega, HL2.out, by go_num, by rw [app_litE], HN.out⟩
        case measure => simp [intOf]; omega
  · obtain rfl : k = s.size := by omega
    have HN := qd (show out = putL f.data.toList s.data.toList by rw [← HR.out, drop_allP]; simp [putL])
    go_wp2
    go_ret
    exact ⟨ret_str (by rw [HN.out]), rfl⟩
theorem wp_append_bytesG {P : Program} {t e : TypeId} (ht : P.underlying t = some (.slice e)) (hinfo : (P.info? e).map (fun i => (i.zero, i.size, i.bytes)) = some (some (.int .u8 0), 1, 1))
 {w : World} {ops : Array Oper} {rest : List Oper} {o : Oper} {a : Act} {Q : Exit → Act → World → Prop} (hgd : o.guard = none) (s x : Operand)
 (ho : o.op = .call { callee := .builtin .append, args := #[s, x], argTypes := #[t, t] }) (B : Nat) (v : Value) (xs : List UInt8) (hs : a.eval s = v) (hown : Own e B w v xs)
 (ad : Addr) (c m : Nat) (news : List UInt8) (hm : m = news.length) (hx : a.eval x = .slice (some ad) m c) (hnews : ∀ (j : Nat) (h : j < news.length), w.cell? (ad.add j) = some (.int .u8 (news[j].toNat : Int)))
 (hl : xs.length + news.length ≤ 1099511627776) (hB : B ≤ w.heap.size)
 (h : ∀ v' w', Own e B w' v' (xs ++ news) → w.grownBy w' v.ownBlock → Below B w w' → wpList P ops Q rest (a.put o.dst v') w') : wpList P ops Q (o :: rest) a w := by
 obtain ⟨i0, hi, hz0, hz1, hz2⟩ := info_parts hinfo
 subst hm
 refine wpList_append_own _ hgd s x t ho B e i0 (.int .u8 0) 1 1 ht hi hz0 hz1 hz2 rfl (by decide) v xs.length _ hs hown ad news.length c (news.map fun c => .int .u8 (c.toNat : Int)) hx (by simp) ?_ ?_ ?_ ?_ hB ?_
 · intro j u hu
   rw [List.getElem?_map] at hu
   cases hj : news[j]? with
   | none => simp [hj] at hu
   | some c =>
     obtain ⟨hjl, hjc⟩ := List.getElem?_eq_some_iff.1 hj
     rw [hnews j hjl, hjc]; simpa [hj] using hu
 · intro u hu; simp at hu; obtain ⟨c, _, rfl⟩ := hu; rfl
 · simp only [maxLen]; omega
 · omega
 · intro v' w' h1 h2 h3
   refine h v' w' ?_ h2 (Below.grown (Below.refl _ _) h2 hB (fun k hk => (World.ownsRow.lt hown k hk).1))
   simpa [Own, List.map_append] using h1
theorem news2 (w : World) (o : Obj) (c : UInt8) (t : TypeId) : ∀ (j : Nat) (h : j < [c].length), ((w.alloc o).alloc (.cells #[.int .u8 (c.toNat : Int)] t)).cell? ((⟨w.heap.size + 1, 0, none⟩ : Addr).add j) = some (.int .u8 (([c][j]).toNat : Int)) := by
 have := news_one (w.alloc o) c t
 rwa [World.size_alloc] at this
theorem len1 (c : UInt8) : ([] : List UInt8).length + [c].length ≤ 1099511627776 := by simp
theorem le1 {B : Nat} {w : World} (h : B ≤ w.heap.size) (o : Obj) : B ≤ (w.alloc o).heap.size := by simp; omega
theorem le2 {B : Nat} {w : World} (h : B ≤ w.heap.size) (o o' : Obj) : B ≤ ((w.alloc o).alloc o').heap.size := by simp; omega
theorem cellP0 (w : World) (a b : Value) (t : TypeId) : (w.alloc (.cells #[a, b] t)).cell? ⟨w.heap.size, 0, none⟩ = some a := by
 rw [World.cell?_alloc_at _ _ _ _ rfl]; rfl
theorem cellP1 (w : World) (a b : Value) (t : TypeId) : (w.alloc (.cells #[a, b] t)).cell? ⟨w.heap.size, 1, none⟩ = some b := by
 rw [World.cell?_alloc_at _ _ _ _ rfl]; rfl
def RrPost (B : Nat) (w : World) (s : List UInt8) (e : Ending) (w' : World) : Prop := ∃ v ps, e = .returned v ∧ OwnPc B w' v ps ∧ PqAll s ps ∧ Below B w w'
theorem RrPost.of {B : Nat} {w : World} {s : List UInt8} {v : Value} {ps : List Pc} {w' : World} (h1 : OwnPc B w' v ps) (h2 : PqAll s ps) (h3 : Below B w w') : RrPost B w s (.returned v) w' := ⟨v, ps, rfl, h1, h2, h3⟩
set_option maxRecDepth 100000 in
set_option maxHeartbeats 4000000 in
theorem readRepl_any (s : ByteArray) (w : World) (hs : s.size ≤ 1048576) :
 Calls Tryz.prog 26 #[.string s] w (RrPost w.heap.size w s.data.toList) := by
 have hB0 := qd (show ∀ o o', Below w.heap.size w ((w.alloc o).alloc o') from fun o o' => ((Below.refl _ w).alloc (Nat.le_refl _) o).alloc (by simp) o')
 have hP0 := qd (show ∀ o, OwnPc w.heap.size ((w.alloc (.cells #[] 61)).alloc o) (.slice (some ⟨w.heap.size, 0, none⟩) 0 0) [] from fun o => (ownPc_start (Nat.le_refl _)).alloc o)
 have hO0 := qd (show ∀ o, Own 5 w.heap.size ((w.alloc o).alloc (.cells #[] 5)) (.slice (some ⟨w.heap.size + 1, 0, none⟩) 0 0) [] from fun o => by
  have := own_start (e := 5) (B := w.heap.size) (w := w.alloc o) (by simp)
  rwa [World.size_alloc] at this)
 have hss : s.data.toList.length = s.size := by simp
 have HSS := qd hss
 clear hss
 go_enter Tryz.func26, Tryz.ntmps26
 go_wp2
 go_loopw [3, 4, 5, 6] (fun v3 v4 tv i wr => ∃ (k : Nat) (ps : List Pc) (p : List UInt8) (t : Nat), k ≤ s.size ∧ i = .int .i64 k ∧ tv = .int .i64 t ∧ OwnPc w.heap.size wr v3 ps ∧ Own 5 w.heap.size wr v4 p ∧ PqAt s.data.toList ps p t (s.data.toList.drop k) ∧ Below w.heap.size w wr) (fun _ _ _ i _ => s.size - (intOf i).toNat)
 case atStart => exact ⟨0, [], [], 0, Nat.zero_le _, rfl, rfl, hP0.out _, hO0.out _, PqAt.start _, hB0.out _ _⟩
 case round =>
  obtain ⟨k, ps, p, t, hk, rfl, rfl, hown, hpl, hpq, hbel⟩ := hrel
  have hz := hbel.size
  have hq2 := hpq.2.1
  rw [HSS.out] at hq2
  have hq3 := hpq.2.2
  have HP := qd hown
  have HO := qd hpl
  have HQ := qd hpq
  have HB := qd hbel
  have ht9 : t ≤ 1048576 := by omega
  have hp8 : ps.length + 1 ≤ 1099511627776 := by omega
  have hl9 : p.length ≤ 1048576 := by omega
  have hbk := hpl.back (P := Tryz.prog) 22 9 Tryz.underlying22 Tryz.underlying5 Tryz.underlying9
  have hla : ∀ c : UInt8, p.length + [c].length ≤ 1099511627776 := fun c => by simp; omega
  have hzz : ∀ o, w.heap.size ≤ (wr.alloc o).heap.size := fun o => by simp; omega
  have HLA := qd hla
  have HZZ := qd hzz
  clear hla hzz hown hpl hpq hbel hq2 hq3
  by_cases hlt : k < s.size
  · have HD := qd (drop_consP s k hlt)
    by_cases h1 : s[k].toNat = 38
    · have e1 : ((s[k].toNat : Int) == 38) = true := by simp; omega
      have HN := qd (PqAt.amp (r := s.data.toList.drop (k + 1)) (by have := HQ.out; rwa [HD.out, ofNat38 h1] at this))
      clear h1 hbk
      go_wp2
      go_roundw
      case rel => exact ⟨k + 1, ps, p, t + 1, by omega, by go_num, by go_num, HP.out, HO.out, HN.out, HB.out⟩
      case measure => simp [intOf]; omega
    · have e1 : ((s[k].toNat : Int) == 38) = false := by simp; omega
      have HNE := qd (show s[k] ≠ 38 from fun e => h1 (by rw [e]; rfl))
      clear h1
      by_cases ht : 0 < t
      · have HF := qd (HQ.out.flush ht)
        have ht2 : (0 : Int) < (t : Int) := by omega
        have hone : ∀ (hno : s[k] = 92 → ∀ d u, s.data.toList.drop (k + 1) = d :: u → rsB d = false), PqAt s.data.toList (ps ++ [(p, t)]) ([] ++ [s[k]]) 0 (s.data.toList.drop (k + 1)) := fun hno => PqAt.one (by have := HF.out; rwa [HD.out] at this) HNE.out hno
        by_cases h2 : s[k].toNat = 92
        · have e2 : ((s[k].toNat : Int) == 92) = true := by simp; omega
          by_cases h3 : k + 1 < s.size
          · have HD2 := qd (drop_consP s (k + 1) h3)
            have e3 : decide (k + 1 < s.size) = true := by simp; exact h3
            have HC := qd (fun W => isRepl_any s[k + 1] W)
            by_cases hr : rsB s[k + 1] = true
            · rw [hr] at HC
              have HN := qd (PqAt.esc (d := s[k + 1]) (r := s.data.toList.drop (k + 1 + 1)) (by have := HF.out; rwa [HD.out, HD2.out, ofNat92 h2] at this) hr)
              clear hone h2 hr
              go_wp2_with (first
                | (go_at_call 30; refine (HC.out _).mono ?_; rintro e w1 ⟨rfl, rfl⟩)
                | (at_builtin; refine wp_append_piece rfl (.tmp 23) (.tmp 28) rfl w.heap.size _ ps rfl (HP.out.alloc _) wr.heap.size 1 (p, t) rfl (cellP0 _ _ _ _) (cellP1 _ _ _ _) hp8 (HZZ.out _) ?_; intro v2 w2 hp2 hg2 hb2; have HB2 := qd ((HB.out.alloc hz _).trans hb2); have hz2 := HB2.out.size; have HP2 := qd (hp2.alloc (.cells #[] 5)); have HB3 := qd (HB2.out.alloc hz2 (.cells #[] 5)); have hz3 : w2.heap.size < (w2.alloc (.cells #[] 5)).heap.size := (by simp); have HO2 := qd (own_start (e := 5) (w := w2) hz2); clear hp2 hg2 hb2)
                | (at_builtin; refine wp_append_bytesG Tryz.underlying22 Tryz.infoU8 rfl (.tmp 51) (.tmp 55) rfl w.heap.size _ [] rfl (HO2.out.alloc _) ⟨w2.heap.size + 1, 0, none⟩ 1 1 [s[k + 1]] rfl rfl (news2 _ _ _ _) (len1 _) (le2 hz2 _ _) ?_; intro v5 w5 ho5 hg5 hb5; have HP5 := qd ((HP2.out.alloc _).other hg5 (pc_apart HP2.out HO2.out)); have HO5 := qd ho5; have HB5 := qd ((HB3.out.alloc (le1 hz2 _) _).trans hb5); clear ho5 hg5 hb5))
              go_roundw
              case rel => exact ⟨k + 2, ps ++ [(p, t)], [] ++ [s[k + 1]], 0, by omega, by go_num, rfl, HP5.out, HO5.out, HN.out, HB5.out⟩
              case measure => simp [intOf]; omega
            · have hr : rsB s[k + 1] = false := by simpa using hr
              rw [hr] at HC
              have HN := qd (hone (fun _ d u e => by rw [HD2.out] at e; injection e with e _; rw [← e]; exact hr))
              clear hone h2 hr
              go_wp2_with (first
                | (go_at_call 30; refine (HC.out _).mono ?_; rintro e w1 ⟨rfl, rfl⟩)
                | (at_builtin; refine wp_append_piece rfl (.tmp 23) (.tmp 28) rfl w.heap.size _ ps rfl (HP.out.alloc _) wr.heap.size 1 (p, t) rfl (cellP0 _ _ _ _) (cellP1 _ _ _ _) hp8 (HZZ.out _) ?_; intro v2 w2 hp2 hg2 hb2; have HB2 := qd ((HB.out.alloc hz _).trans hb2); have hz2 := HB2.out.size; have HP2 := qd (hp2.alloc (.cells #[] 5)); have HB3 := qd (HB2.out.alloc hz2 (.cells #[] 5)); have hz3 : w2.heap.size < (w2.alloc (.cells #[] 5)).heap.size := (by simp); have HO2 := qd (own_start (e := 5) (w := w2) hz2); clear hp2 hg2 hb2)
                | (at_builtin; refine wp_append_bytesG Tryz.underlying22 Tryz.infoU8 rfl (.tmp 51) (.tmp 55) rfl w.heap.size _ [] rfl (HO2.out.alloc _) ⟨w2.heap.size + 1, 0, none⟩ 1 1 [s[k]] rfl rfl (news2 _ _ _ _) (len1 _) (le2 hz2 _ _) ?_; intro v5 w5 ho5 hg5 hb5; have HP5 := qd ((HP2.out.alloc _).other hg5 (pc_apart HP2.out HO2.out)); have HO5 := qd ho5; have HB5 := qd ((HB3.out.alloc (le1 hz2 _) _).trans hb5); clear ho5 hg5 hb5))
              go_roundw
              case rel => exact ⟨k + 1, ps ++ [(p, t)], [] ++ [s[k]], 0, by omega, by go_num, rfl, HP5.out, HO5.out, HN.out, HB5.out⟩
              case measure => simp [intOf]; omega
          · have HN := qd (hone (fun _ d u e => by rw [List.drop_of_length_le (by simp; omega)] at e; cases e))
            have e3 : decide (k + 1 < s.size) = false := by simp; omega
            clear hone h2
            go_wp2_with (first
              | (at_builtin; refine wp_append_piece rfl (.tmp 23) (.tmp 28) rfl w.heap.size _ ps rfl (HP.out.alloc _) wr.heap.size 1 (p, t) rfl (cellP0 _ _ _ _) (cellP1 _ _ _ _) hp8 (HZZ.out _) ?_; intro v2 w2 hp2 hg2 hb2; have HB2 := qd ((HB.out.alloc hz _).trans hb2); have hz2 := HB2.out.size; have HP2 := qd (hp2.alloc (.cells #[] 5)); have HB3 := qd (HB2.out.alloc hz2 (.cells #[] 5)); have hz3 : w2.heap.size < (w2.alloc (.cells #[] 5)).heap.size := (by simp); have HO2 := qd (own_start (e := 5) (w := w2) hz2); clear hp2 hg2 hb2)
              | (at_builtin; refine wp_append_bytesG Tryz.underlying22 Tryz.infoU8 rfl (.tmp 51) (.tmp 55) rfl w.heap.size _ [] rfl (HO2.out.alloc _) ⟨w2.heap.size + 1, 0, none⟩ 1 1 [s[k]] rfl rfl (news2 _ _ _ _) (len1 _) (le2 hz2 _ _) ?_; intro v5 w5 ho5 hg5 hb5; have HP5 := qd ((HP2.out.alloc _).other hg5 (pc_apart HP2.out HO2.out)); have HO5 := qd ho5; have HB5 := qd ((HB3.out.alloc (le1 hz2 _) _).trans hb5); clear ho5 hg5 hb5))
            go_roundw
            case rel => exact ⟨k + 1, ps ++ [(p, t)], [] ++ [s[k]], 0, by omega, by go_num, rfl, HP5.out, HO5.out, HN.out, HB5.out⟩
            case measure => simp [intOf]; omega
        · have e2 : ((s[k].toNat : Int) == 92) = false := by simp; omega
          have HN := qd (hone (fun e => absurd (by rw [e]; rfl) h2))
          clear hone h2
          go_wp2_with (first
            | (at_builtin; refine wp_append_piece rfl (.tmp 23) (.tmp 28) rfl w.heap.size _ ps rfl (HP.out.alloc _) wr.heap.size 1 (p, t) rfl (cellP0 _ _ _ _) (cellP1 _ _ _ _) hp8 (HZZ.out _) ?_; intro v2 w2 hp2 hg2 hb2; have HB2 := qd ((HB.out.alloc hz _).trans hb2); have hz2 := HB2.out.size; have HP2 := qd (hp2.alloc (.cells #[] 5)); have HB3 := qd (HB2.out.alloc hz2 (.cells #[] 5)); have hz3 : w2.heap.size < (w2.alloc (.cells #[] 5)).heap.size := (by simp); have HO2 := qd (own_start (e := 5) (w := w2) hz2); clear hp2 hg2 hb2)
            | (at_builtin; refine wp_append_bytesG Tryz.underlying22 Tryz.infoU8 rfl (.tmp 51) (.tmp 55) rfl w.heap.size _ [] rfl (HO2.out.alloc _) ⟨w2.heap.size + 1, 0, none⟩ 1 1 [s[k]] rfl rfl (news2 _ _ _ _) (len1 _) (le2 hz2 _ _) ?_; intro v5 w5 ho5 hg5 hb5; have HP5 := qd ((HP2.out.alloc _).other hg5 (pc_apart HP2.out HO2.out)); have HO5 := qd ho5; have HB5 := qd ((HB3.out.alloc (le1 hz2 _) _).trans hb5); clear ho5 hg5 hb5))
          go_roundw
          case rel => exact ⟨k + 1, ps ++ [(p, t)], [] ++ [s[k]], 0, by omega, by go_num, rfl, HP5.out, HO5.out, HN.out, HB5.out⟩
          case measure => simp [intOf]; omega
      · obtain rfl : t = 0 := by omega
        clear hbk ht
        have hone : ∀ (hno : s[k] = 92 → ∀ d u, s.data.toList.drop (k + 1) = d :: u → rsB d = false), PqAt s.data.toList ps (p ++ [s[k]]) 0 (s.data.toList.drop (k + 1)) := fun hno => PqAt.one (by have := HQ.out; rwa [HD.out] at this) HNE.out hno
        by_cases h2 : s[k].toNat = 92
        · have e2 : ((s[k].toNat : Int) == 92) = true := by simp; omega
          by_cases h3 : k + 1 < s.size
          · have HD2 := qd (drop_consP s (k + 1) h3)
            have e3 : decide (k + 1 < s.size) = true := by simp; exact h3
            have HC := qd (fun W => isRepl_any s[k + 1] W)
            by_cases hr : rsB s[k + 1] = true
            · rw [hr] at HC
              have HN := qd (PqAt.esc (d := s[k + 1]) (r := s.data.toList.drop (k + 1 + 1)) (by have := HQ.out; rwa [HD.out, HD2.out, ofNat92 h2] at this) hr)
              clear hone h2 hr
              go_wp2_with (first
                | (go_at_call 30; refine (HC.out _).mono ?_; rintro e w1 ⟨rfl, rfl⟩)
                | (at_builtin; refine wp_append_bytesG Tryz.underlying22 Tryz.infoU8 rfl (.tmp 51) (.tmp 55) rfl w.heap.size _ p rfl (HO.out.alloc _) ⟨wr.heap.size, 0, none⟩ 1 1 [s[k + 1]] rfl rfl (news_one _ s[k + 1] _) (HLA.out _) (HZZ.out _) ?_; intro v5 w5 ho5 hg5 hb5; have HP5 := qd ((HP.out.alloc _).other hg5 (pc_apart HP.out HO.out)); have HO5 := qd ho5; have HB5 := qd ((HB.out.alloc hz _).trans hb5); clear ho5 hg5 hb5))
              go_roundw
              case rel => exact ⟨k + 2, ps, p ++ [s[k + 1]], 0, by omega, by go_num, rfl, HP5.out, HO5.out, HN.out, HB5.out⟩
              case measure => simp [intOf]; omega
            · have hr : rsB s[k + 1] = false := by simpa using hr
              rw [hr] at HC
              have HN := qd (hone (fun _ d u e => by rw [HD2.out] at e; injection e with e _; rw [← e]; exact hr))
              clear hone h2 hr
              go_wp2_with (first
                | (go_at_call 30; refine (HC.out _).mono ?_; rintro e w1 ⟨rfl, rfl⟩)
                | (at_builtin; refine wp_append_bytesG Tryz.underlying22 Tryz.infoU8 rfl (.tmp 51) (.tmp 55) rfl w.heap.size _ p rfl (HO.out.alloc _) ⟨wr.heap.size, 0, none⟩ 1 1 [s[k]] rfl rfl (news_one _ s[k] _) (HLA.out _) (HZZ.out _) ?_; intro v5 w5 ho5 hg5 hb5; have HP5 := qd ((HP.out.alloc _).other hg5 (pc_apart HP.out HO.out)); have HO5 := qd ho5; have HB5 := qd ((HB.out.alloc hz _).trans hb5); clear ho5 hg5 hb5))
              go_roundw
              case rel => exact ⟨k + 1, ps, p ++ [s[k]], 0, by omega, by go_num, rfl, HP5.out, HO5.out, HN.out, HB5.out⟩
              case measure => simp [intOf]; omega
          · have HN := qd (hone (fun _ d u e => by rw [List.drop_of_length_le (by simp; omega)] at e; cases e))
            have e3 : decide (k + 1 < s.size) = false := by simp; omega
            clear hone h2
            go_wp2_with (at_builtin; refine wp_append_bytesG Tryz.underlying22 Tryz.infoU8 rfl (.tmp 51) (.tmp 55) rfl w.heap.size _ p rfl (HO.out.alloc _) ⟨wr.heap.size, 0, none⟩ 1 1 [s[k]] rfl rfl (news_one _ s[k] _) (HLA.out _) (HZZ.out _) ?_; intro v5 w5 ho5 hg5 hb5; have HP5 := qd ((HP.out.alloc _).other hg5 (pc_apart HP.out HO.out)); have HO5 := qd ho5; have HB5 := qd ((HB.out.alloc hz _).trans hb5); clear ho5 hg5 hb5)
            go_roundw
            case rel => exact ⟨k + 1, ps, p ++ [s[k]], 0, by omega, by go_num, rfl, HP5.out, HO5.out, HN.out, HB5.out⟩
            case measure => simp [intOf]; omega
        · have e2 : ((s[k].toNat : Int) == 92) = false := by simp; omega
          have HN := qd (hone (fun e => absurd (by rw [e]; rfl) h2))
          clear hone h2
          go_wp2_with (at_builtin; refine wp_append_bytesG Tryz.underlying22 Tryz.infoU8 rfl (.tmp 51) (.tmp 55) rfl w.heap.size _ p rfl (HO.out.alloc _) ⟨wr.heap.size, 0, none⟩ 1 1 [s[k]] rfl rfl (news_one _ s[k] _) (HLA.out _) (HZZ.out _) ?_; intro v5 w5 ho5 hg5 hb5; have HP5 := qd ((HP.out.alloc _).other hg5 (pc_apart HP.out HO.out)); have HO5 := qd ho5; have HB5 := qd ((HB.out.alloc hz _).trans hb5); clear ho5 hg5 hb5)
          go_roundw
          case rel => exact ⟨k + 1, ps, p ++ [s[k]], 0, by omega, by go_num, rfl, HP5.out, HO5.out, HN.out, HB5.out⟩
          case measure => simp [intOf]; omega
  · obtain rfl : k = s.size := by omega
    have HN := qd (PqAt.done (by have := HQ.out; rwa [drop_allP] at this))
    go_wp2_with (at_builtin; refine wp_append_piece rfl (.tmp 57) (.tmp 62) rfl w.heap.size _ ps rfl (HP.out.alloc _) wr.heap.size 1 (p, t) rfl (cellP0 _ _ _ _) (cellP1 _ _ _ _) hp8 (HZZ.out _) ?_; intro v2 w2 hp2 hg2 hb2; have HP2 := qd hp2; have HB2 := qd ((HB.out.alloc hz _).trans hb2); clear hp2 hg2 hb2)
    go_ret
    exact RrPost.of HP2.out HN.out HB2.out
end Go.Proofs.YtcimhpdpfckgiaaGreatDoor.kit
