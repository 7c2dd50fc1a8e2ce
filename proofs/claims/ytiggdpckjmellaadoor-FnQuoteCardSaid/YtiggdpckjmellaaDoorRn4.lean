/-
  Contracts of ReadNum of both sides over this seat's translation: for every text both give the same number and place. Conditions: the text has at most a million bytes (1048576).
-/
import Derived.Test.YtiggdpckjmellaaDoorRs0
import Derived.Test.YtiggdpckjmellaaDoorRs1
import Derived.Test.YtiggdpckjmellaaDoorRs2
namespace Go.Proofs.YtiggdpckjmellaaDoor.kit
open Go.ChangeShapes Go.WideShapes Go.ChangeAt Go.RowKit
set_option linter.unusedVariables false

theorem empty_join {x y : ByteArray} (h : x.size + y.size = 0) : (x ++ y).toList.isEmpty = true := empty_of_size (by rw [ByteArray.size_append]; exact h)
theorem not_empty_join {x y : ByteArray} (h : ¬ x.size + y.size = 0) : (x ++ y).toList.isEmpty = false := not_empty_of_size (by rw [ByteArray.size_append]; exact h)
theorem blankOut (s : ByteArray) (i : Nat) (h : i < s.size) (hr : runEnd blnB s 0 = i) : blnB (s[i].toNat : Int) = false := by
  cases hb : blnB (s[i].toNat : Int)
  · rfl
  · exfalso
    obtain ⟨n, hn⟩ : ∃ n, n = s.size := ⟨_, rfl⟩
    have key : ∀ (d j : Nat), d = i - j → j ≤ i → runEnd blnB s j = i → False := by
      intro d
      induction d with
      | zero =>
        intro j hd hj hr
        obtain rfl : j = i := by omega
        have := runEnd_in h hb
        have h2 := runEnd_le blnB s (j + 1) (by omega)
        omega
      | succ d ih =>
        intro j hd hj hr
        have hjs : j < s.size := by omega
        cases hp : blnB (s[j].toNat : Int)
        · rw [runEnd_out hjs hp] at hr; omega
        · rw [← runEnd_in hjs hp] at hr; exact ih (j + 1) (by omega) (by omega) hr
    exact key _ 0 rfl (by omega) hr
theorem sat_low {v : Nat} (h : capB v = true) : min v 1000000000001 = v := by simp [capB] at h; omega
theorem sat_high {v : Nat} (h : capB v = false) : min v 1000000000001 = 1000000000001 := by simp [capB] at h; omega
theorem cap_le {v : Nat} (h : capB v = true) : v ≤ 1000000000000 := by simpa [capB] using h
theorem cap_gt {v : Nat} (h : capB v = false) : 1000000000000 < v := by simpa [capB] using h

end Go.Proofs.YtiggdpckjmellaaDoor.kit
