/-
  Contract of impl.Put over this seat's translation. Conditions: texts of at most 1048576 bytes.
-/
import Derived.Test.YthffjcclcladoaaPt3
namespace Go.Proofs.Ythffjcclcladoaa.kit
open Go.ChangeShapes Go.WideShapes Go.ChangeAt Go.RowKit
set_option linter.unusedVariables false
set_option linter.unusedSimpArgs false

theorem Rm.start (w : World) (n : Nat) : Rm ((w.alloc (.cells (madeCells #[.int .u8 0] n) 5)).alloc (.cells #[.slice (some ⟨w.heap.size, 0, none⟩) n n, .int .i64 0, .bool false] 32)) w.heap.size (w.heap.size + 1) n n [] false := by
  refine ⟨⟨List.replicate n 0, ?_, by simp⟩, ?_, Nat.lt_succ_self w.heap.size⟩
  · refine ((World.rowIs_made w (.int .u8 0) n 5).alloc _).congr fun i hi => ?_
    simp [Lib.Lz.bytes, List.getElem?_replicate, hi]
  · have h := World.rowIs_alloc (w.alloc (.cells (madeCells #[.int .u8 0] n) 5)) #[.slice (some ⟨w.heap.size, 0, none⟩) n n, .int .i64 0, .bool false] 32 (fun j => if j = 0 then .slice (some ⟨w.heap.size, 0, none⟩) n n else if j = 1 then .int .i64 (([] : List UInt8).length : Int) else .bool false) (fun i hi => by
      match i, hi with
      | 0, _ => rfl
      | 1, _ => rfl
      | 2, _ => rfl)
    rw [World.size_alloc] at h
    exact h
theorem Rm.back {w : World} {g b cap : Nat} {out : List UInt8} {full : Bool} {size : Nat} (h : Rm w g b size cap out full) (hs : size = out.length) :
    (convert 30 9 (.slice (some ⟨g, 0, none⟩) size cap)).run Try.prog w = .ok (.string ⟨out.toArray⟩) w := by
  subst hs
  obtain ⟨rest, h1, h2⟩ := h.row
  obtain rfl : rest = [] := List.length_eq_zero_iff.1 (by omega)
  refine run_convert_bytes_back w 30 9 5 ⟨g, 0, none⟩ cap out Try.underlying30 Try.underlying5 Try.underlying9 fun j hj => ?_
  rw [add_atP, Nat.zero_add, h1.cell hj]
  simp [Lib.Lz.bytes, List.getElem?_append, hj]
theorem pqCat_take_len (f : List UInt8) (ps : List Pc) (k : Nat) (h : k < ps.length) : (pqCat f (ps.take (k + 1))).length = (pqCat f (ps.take k)).length + (ps[k].1.length + ps[k].2 * f.length) := by
  rw [List.take_succ_eq_append_getElem h, pqCat_app, pqCat_one]
  simp only [List.length_append, pqRep_len]
set_option maxRecDepth 100000 in
set_option maxHeartbeats 4000000 in
theorem implPut_any (s f : ByteArray) (w : World) (hs : s.size ≤ 1048576) (hf : f.size ≤ 1048576) :
    Calls Try.prog 6 #[.string s, .string f] w fun e w' => e = .returned (.string ⟨(putL f.data.toList s.data.toList).toArray⟩) ∧ Below w.heap.size w w' := by
  have HC := Lib.hid (readRepl_any s w hs)
  have hfl : f.data.toList.length = f.size := by simp
  have HFL := Lib.hid hfl
  have hsl : s.data.toList.length = s.size := by simp
  have HSL := Lib.hid hsl
  clear hfl hsl
  go_enter Try.func6, Try.ntmps6
  go_wp2_with fail
  refine HC.out.mono ?_
  rintro e w1 ⟨v1, ps, rfl, hown, ⟨hcat, hsum, hlen⟩, hb1⟩
  obtain ⟨a, pcap, rfl, hread⟩ := hown.read
  have HP := Lib.hid (show PcR 0 w1 ps a from fun j hj => by
    obtain ⟨g, e, _, h⟩ := hread j hj
    exact ⟨g, e, Nat.zero_le _, h⟩)
  have HB1 := Lib.hid hb1
  have HCAT := Lib.hid (hcat f.data.toList)
  rw [HSL.out] at hsum hlen
  have HSUM := Lib.hid hsum
  have hn9 : ps.length ≤ 1048577 := by omega
  have HT := Lib.hid (fun k => pqCat_bd f.data.toList (ps.take k) s.size (Nat.le_trans (pqSum_take ps k) HSUM.out) hs (by rw [HFL.out]; exact hf))
  clear hown hread hcat hsum hlen hb1
  go_wp2_with fail
  go_loopw [6, 14] (fun sz i wr => ∃ k : Nat, k ≤ ps.length ∧ i = .int .i64 k ∧ sz = .int .i64 ((pqCat f.data.toList (ps.take k)).length : Int) ∧ Below w1.heap.size w1 wr) (fun _ i _ => ps.length - (intOf i).toNat)
  case atStart => exact ⟨0, Nat.zero_le _, rfl, rfl, Below.refl _ _⟩
  case round =>
    obtain ⟨k, hk, rfl, rfl, hb⟩ := hrel
    have HB := Lib.hid hb
    have hbz := hb.size
    have hwz : w1.heap.size ≤ wr.heap.size := hb.size
    clear hb
    have hbd := HT.out k
    by_cases hlt : k < ps.length
    · obtain ⟨gp, rfl, _, hgp, p0, p1⟩ := (HP.out.kept HB.out) k hlt
      have hsum := pqSum_at ps k hlt
      have HN := Lib.hid (pqCat_take_len f.data.toList ps k hlt)
      have hbd2 := HT.out (k + 1)
      have HBD2 := Lib.hid hbd2
      clear hbd2
      obtain ⟨n2, hn2e⟩ : ∃ n2, n2 = (pqCat f.data.toList (ps.take (k + 1))).length := ⟨_, rfl⟩
      rw [← hn2e] at HN HBD2
      have HE2 := Lib.hid hn2e
      clear hn2e
      generalize (pqCat f.data.toList (ps.take k)).length = n1 at *
      generalize hpk : ps[k] = p at *
      obtain ⟨pl, pt⟩ := p
      simp only at p0 p1 HN hsum
      have hbzp := bszP pl
      obtain ⟨m, hm⟩ : ∃ m, m = pt * f.size := ⟨_, rfl⟩
      have hmul : (pt : Int) * (f.size : Int) = (m : Int) := by rw [hm]; rfl
      have hn2 : n2 = n1 + (pl.length + m) := by rw [HN.out, HFL.out, hm]
      have hb9 := HBD2.out
      have hm9 : m ≤ 1099512676352 := by omega
      have hpl9 : pl.length ≤ 1099512676352 := by omega
      have HN2 := Lib.hid hn2
      clear hm hn2 hpk hsum hb9
      go_wp2_with fail
      go_roundw
      case rel => exact ⟨k + 1, by omega, by go_num, by rw [← HE2.out, HN2.out]; go_num, HB.out.alloc hwz _⟩
      case measure => simp [intOf]; omega
    · obtain rfl : k = ps.length := by omega
      have HK := Lib.hid (show ps.take ps.length = ps from List.take_length)
      rw [HK.out] at hbd
      have HS := Lib.hid (show (pqCat f.data.toList (ps.take ps.length)).length = (pqCat f.data.toList ps).length by rw [HK.out])
      rw [HS.out]
      obtain ⟨n, hn⟩ : ∃ n, n = (pqCat f.data.toList ps).length := ⟨_, rfl⟩
      rw [← hn] at hbd ⊢
      have hmk : ∀ W, (Instr.makeSlice 30 (.int .i64 (n : Int)) (.int .i64 (n : Int))).run Try.prog W = .ok (.slice (some ⟨W.heap.size, 0, none⟩) n n) (W.alloc (.cells (madeCells #[.int .u8 0] n) 5)) := fun W =>
        run_make_row' (P := Try.prog) 30 5 (.int .u8 0) 1 Try.underlying30 Try.infoU8 rfl .i64 .i64 n (by omega) (by omega) W
      have HST := Lib.hid (Rm.start wr n)
      have HFIT := Lib.hid (show putR n f.data.toList ([], false) ps = (pqCat f.data.toList ps, false) from by rw [putR_fit (by simp; omega)]; rfl)
      have HNN := Lib.hid hn
      have HC2 := Lib.hid (fun W (h : Rm W wr.heap.size (wr.heap.size + 1) n n [] false) (hps : ∀ W', Ch2 wr.heap.size (wr.heap.size + 1) W W' → PcR 0 W' ps a) => roomPut_any ps a pcap f wr.heap.size (wr.heap.size + 1) n n ([], false) W hf (Nat.le_trans HSUM.out hs) hn9 (by omega) (Nat.le_refl _) h hps)
      rw [HFIT.out] at HC2
      have HPS := Lib.hid (show ∀ o o' W', Ch2 wr.heap.size (wr.heap.size + 1) ((wr.alloc o).alloc o') W' → PcR 0 W' ps a from fun o o' W' h => HP.out.kept (HB.out.trans ((((Below.refl wr.heap.size wr).alloc (Nat.le_refl _) o).alloc (by simp) o').trans h.bel |>.mono hbz)))
      have HBW := Lib.hid (show ∀ o o' W', Ch2 wr.heap.size (wr.heap.size + 1) ((wr.alloc o).alloc o') W' → Below w.heap.size w W' from fun o o' W' h => HB1.out.trans ((HB.out.trans ((((Below.refl wr.heap.size wr).alloc (Nat.le_refl _) o).alloc (by simp) o').trans h.bel |>.mono hbz)).mono HB1.out.size))
      clear hn
      go_wp2_with fail
      refine (HC2.out _ HST.out (HPS.out _ _)).mono ?_
      rintro e w4 ⟨⟨v4, rfl⟩, hr4, hb4⟩
      simp only at hr4
      have k0 := hr4.c0
      have hbk := hr4.back HNN.out
      have HB4 := Lib.hid (HBW.out _ _ _ hb4)
      rw [HCAT.out] at hbk
      clear hr4 hb4
      go_wp2_with fail
      go_ret
      exact ⟨rfl, HB4.out⟩
end Go.Proofs.Ythffjcclcladoaa.kit
