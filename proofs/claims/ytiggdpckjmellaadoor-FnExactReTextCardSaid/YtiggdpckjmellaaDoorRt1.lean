/-
  Bytes told in runs, and the contract of spec.l04Runs over this seat's translation. Conditions: each theorem names its own.
-/
import Derived.Test.YtiggdpckjmellaaDoorInfo
import Derived.Test.YtiggdpckjmellaaDoorRe6
namespace Go.Proofs.YtiggdpckjmellaaDoor.kit
open Go.ChangeShapes Go.WideShapes Go.ChangeAt Go.RowKit
set_option linter.unusedVariables false

def foll (b c : UInt8) : Bool := c == b + 1
/-- Where a run ends that has come to e. -/
def rEnd (l : List UInt8) (e : Nat) : Nat := if 0 < e ∧ e < l.length ∧ foll (l.getD (e - 1) 0) (l.getD e 0) = true then rEnd l (e + 1) else e
termination_by l.length - e
def piece (l : List UInt8) (i e : Nat) : List UInt8 := if 3 ≤ e - i then [l.getD i 0, 45, l.getD (e - 1) 0] else (l.drop i).take (e - i)
theorem rEnd_ge (l : List UInt8) (e : Nat) : e ≤ rEnd l e := by
  rw [rEnd]
  split
  · have := rEnd_ge l (e + 1); omega
  · omega
termination_by l.length - e
theorem rEnd_le (l : List UInt8) (e : Nat) (h : e ≤ l.length) : rEnd l e ≤ l.length := by
  rw [rEnd]
  split
  · exact rEnd_le l (e + 1) (by omega)
  · exact h
termination_by l.length - e
theorem rEnd_go {l : List UInt8} {e : Nat} (h0 : 0 < e) (h1 : e < l.length) (h : foll (l.getD (e - 1) 0) (l.getD e 0) = true) : rEnd l e = rEnd l (e + 1) := by
  conv => lhs; rw [rEnd, if_pos ⟨h0, h1, h⟩]
theorem rEnd_stop {l : List UInt8} {e : Nat} (h : e < l.length → foll (l.getD (e - 1) 0) (l.getD e 0) = false) : rEnd l e = e := by
  rw [rEnd, if_neg (by rintro ⟨_, h1, h2⟩; rw [h h1] at h2; cases h2)]
def rTxt (l : List UInt8) (i : Nat) : List UInt8 := if i < l.length then piece l i (rEnd l (i + 1)) ++ rTxt l (rEnd l (i + 1)) else []
termination_by l.length - i
decreasing_by
  have := rEnd_ge l (i + 1); omega
theorem rTxt_go {l : List UInt8} {i : Nat} (h : i < l.length) : rTxt l i = piece l i (rEnd l (i + 1)) ++ rTxt l (rEnd l (i + 1)) := by
  conv => lhs; rw [rTxt, if_pos h]
theorem rTxt_end {l : List UInt8} {i : Nat} (h : ¬ i < l.length) : rTxt l i = [] := by rw [rTxt, if_neg h]
theorem wrap_next (b : UInt8) : IntKind.u8.wrap ((b.toNat : Int) + 1) = ((b + 1).toNat : Int) := by
  have := b.toNat_lt
  rw [UInt8.toNat_add]
  simp only [IntKind.wrap, IntKind.bits, IntKind.signed]
  simp
theorem getD_at (s : ByteArray) (k : Nat) (h : k < s.size) : s.data.toList.getD k 0 = s[k] := by
  rw [List.getD_eq_getElem?_getD, List.getElem?_eq_getElem (by simpa using h)]; rfl
theorem foll_at (s : ByteArray) (k j : Nat) (hk : k < s.size) (hj : j < s.size) : ((s[j].toNat : Int) == ((s[k].toNat : Int) + 1) % 256) = foll s[k] s[j] := by
  have h1 := wrap_next s[k]
  have h2 : ((s[k].toNat : Int) + 1) % 256 = ((s[k] + 1).toNat : Int) := by
    have := s[k].toNat_lt
    rw [UInt8.toNat_add]; simp
  rw [h2, foll, Bool.eq_iff_iff]
  simp only [beq_iff_eq]
  constructor
  · intro h; exact UInt8.toNat.inj (by omega)
  · intro h; rw [h]
theorem app_ext (l : List UInt8) (s : ByteArray) (i j : Nat) : (⟨l.toArray⟩ : ByteArray) ++ s.extract i j = ⟨(l ++ (s.data.toList.drop i).take (j - i)).toArray⟩ := by
  apply ByteArray.ext
  simp only [ByteArray.data_append, ByteArray.data_extract]
  apply Array.ext'
  simp [Array.toList_extract, List.extract_eq_take_drop]
theorem app_lit (l m : List UInt8) : (⟨l.toArray⟩ : ByteArray) ++ ⟨m.toArray⟩ = ⟨(l ++ m).toArray⟩ := by
  apply ByteArray.ext
  simp only [ByteArray.data_append]
  simp
theorem one_at (s : ByteArray) (i : Nat) (h : i < s.size) : (s.data.toList.drop i).take 1 = [s.data.toList.getD i 0] := by
  rw [getD_at s i h, List.drop_eq_getElem_cons (by simpa using h)]; rfl
theorem piece_long {l : List UInt8} {i e : Nat} (h : 3 ≤ e - i) : piece l i e = [l.getD i 0, 45, l.getD (e - 1) 0] := by rw [piece, if_pos h]
theorem piece_short {l : List UInt8} {i e : Nat} (h : ¬ 3 ≤ e - i) : piece l i e = (l.drop i).take (e - i) := by rw [piece, if_neg h]
end Go.Proofs.YtiggdpckjmellaaDoor.kit
