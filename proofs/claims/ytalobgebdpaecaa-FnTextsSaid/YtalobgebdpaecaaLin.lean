/-
  Contracts of spec.Lines and impl.Lines over this seat's translation: for every text of at most 1048576 bytes both give the parts between newlines without the last one where that is empty.
-/
import Derived.Test.YtalobgebdpaecaaColl
namespace Go.Proofs.Ytalobgebdpaecaa.kit
open Go.ChangeShapes Go.WideShapes Go.ChangeAt Go.RowKit
set_option linter.unusedVariables false

/-- The list without its last text where that is empty. -/
def trimLast (xs : List (List UInt8)) : List (List UInt8) := if xs.getLast? = some [] then xs.dropLast else xs
theorem trimLast_len (xs : List (List UInt8)) : (trimLast xs).length ≤ xs.length := by
  unfold trimLast; split <;> simp
theorem OwnS.block {e : TypeId} {B : Nat} {w : World} {v : Value} {xs : List (List UInt8)} (h : OwnS e B w v xs) (hx : 1 ≤ xs.length) : ∃ g cap, v = .slice (some ⟨g, 0, none⟩) xs.length cap ∧ xs.length ≤ cap ∧ cap ≤ maxLen ∧ ∀ (j : Nat) (hj : j < xs.length), w.cell? ⟨g, j, none⟩ = some (eS xs[j]) := by
  rcases h.2 with ⟨rfl, h0⟩ | ⟨g, cap, cur, rfl, hb, hg, hc, hm, hr⟩
  · omega
  · refine ⟨g, cap, rfl, hc, hm, fun j hj => ?_⟩
    have h2 : w.ownsRow B e 1 (.slice (some ⟨g, 0, none⟩) xs.length cap) xs.length (xs.map eS) := h
    rw [World.ownsRow.cellAt h2 j (by omega)]
    simp [hj]
theorem OwnS.pop {e : TypeId} {B : Nat} {w : World} {g cap n : Nat} {xs : List (List UInt8)} (h : OwnS e B w (.slice (some ⟨g, 0, none⟩) xs.length cap) xs) (hn : n = xs.length - 1) : OwnS e B w (.slice (some ⟨g, 0, none⟩) n cap) xs.dropLast := by
  rcases h.2 with ⟨h0, _⟩ | ⟨g', cap', cur, hv, hb, hg, hc, hm, hs, ht⟩
  · cases h0
  · cases hv
    subst hn
    refine ⟨by simp, .inr ⟨g, cap, cur, by simp, hb, hg, by simp; omega, hm, hs, ?_⟩⟩
    rw [List.map_dropLast, ← ht]
    simp only [Nat.mul_one, List.dropLast_eq_take, List.length_take, List.take_take]
    congr 1
    simp; omega

set_option maxHeartbeats 400000 in
theorem specLines_any (s : ByteArray) (w : World) (hs : s.size ≤ 1048576) :
    Calls Try.prog 21 #[.string s] w (CutPost w.heap.size w (trimLast (parts (isB 10) s.data.toList))) := by
  have HC := Lib.hid (fun W => specCut_any s 10 W hs)
  have hne := parts_ne (isB 10) s.data.toList
  have hle := parts_len (isB 10) s.data.toList
  rw [show s.data.toList.length = s.size by simp] at hle
  generalize parts (isB 10) s.data.toList = xs at *
  go_enter Try.func21, Try.ntmps21
  go_wp2_with fail
  refine (HC.out _).mono ?_
  rintro e w1 ⟨v, rfl, ho, hb⟩
  obtain ⟨g, cap, rfl, hcap, hmax, hcell⟩ := ho.block hne
  have hlast := hcell (xs.length - 1) (by omega)
  have HO := Lib.hid ho
  have HB := Lib.hid hb
  clear hcell ho hb
  unfold maxLen at hmax
  have i0 : (0 : Int) ≤ (xs.length : Int) - 1 := by omega
  have i1 : (xs.length : Int) - 1 < (xs.length : Int) := by omega
  have i2 : ((xs.length : Int) - 1).toNat = xs.length - 1 := by omega
  have HL : Hid (xs.getLast? = some (xs[xs.length - 1])) := Lib.hid (by rw [List.getLast?_eq_getElem?, List.getElem?_eq_getElem])
  generalize hlx : xs[xs.length - 1] = last at *
  clear hlx
  cases last with
  | nil =>
    have E : Hid (trimLast xs = xs.dropLast) := Lib.hid (by rw [trimLast, if_pos HL.out])
    simp only [eS] at hlast
    go_wp2
    go_ret
    exact ⟨_, rfl, by rw [E.out]; exact HO.out.pop (by omega), HB.out⟩
  | cons c r =>
    have E : Hid (trimLast xs = xs) := Lib.hid (by rw [trimLast, if_neg (by rw [HL.out]; simp)])
    simp only [eS] at hlast
    go_wp2
    go_ret
    exact ⟨_, rfl, by rw [E.out]; exact HO.out, HB.out⟩

set_option maxHeartbeats 400000 in
theorem implLines_any (s : ByteArray) (w : World) (hs : s.size ≤ 1048576) :
    Calls Try.prog 9 #[.string s] w (CutPost w.heap.size w (trimLast (parts (isB 10) s.data.toList))) := by
  have HC := Lib.hid (fun W => implCut_any s 10 W hs)
  have hne := parts_ne (isB 10) s.data.toList
  have hle := parts_len (isB 10) s.data.toList
  rw [show s.data.toList.length = s.size by simp] at hle
  generalize parts (isB 10) s.data.toList = xs at *
  go_enter Try.func9, Try.ntmps9
  go_wp2_with fail
  refine (HC.out _).mono ?_
  rintro e w1 ⟨v, rfl, ho, hb⟩
  obtain ⟨g, cap, rfl, hcap, hmax, hcell⟩ := ho.block hne
  have hlast := hcell (xs.length - 1) (by omega)
  have HO := Lib.hid ho
  have HB := Lib.hid hb
  clear hcell ho hb
  unfold maxLen at hmax
  have i0 : (0 : Int) ≤ (xs.length : Int) - 1 := by omega
  have i1 : (xs.length : Int) - 1 < (xs.length : Int) := by omega
  have i2 : ((xs.length : Int) - 1).toNat = xs.length - 1 := by omega
  have HL : Hid (xs.getLast? = some (xs[xs.length - 1])) := Lib.hid (by rw [List.getLast?_eq_getElem?, List.getElem?_eq_getElem])
  generalize hlx : xs[xs.length - 1] = last at *
  clear hlx
  cases last with
  | nil =>
    have E : Hid (trimLast xs = xs.dropLast) := Lib.hid (by rw [trimLast, if_pos HL.out])
    simp only [eS] at hlast
    go_wp2
    go_ret
    exact ⟨_, rfl, by rw [E.out]; exact HO.out.pop (by omega), HB.out⟩
  | cons c r =>
    have E : Hid (trimLast xs = xs) := Lib.hid (by rw [trimLast, if_neg (by rw [HL.out]; simp)])
    simp only [eS] at hlast
    go_wp2
    go_ret
    exact ⟨_, rfl, by rw [E.out]; exact HO.out, HB.out⟩
end Go.Proofs.Ytalobgebdpaecaa.kit
