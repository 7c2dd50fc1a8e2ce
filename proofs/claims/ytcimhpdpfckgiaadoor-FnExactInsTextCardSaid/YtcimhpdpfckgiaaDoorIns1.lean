/-
  Contracts of laws.szIns, laws.toIns, impl.blankAhead, impl.reWord, and of impl.InsText and spec.InsText over this seat's translation: both give the same text 'insZ' of a step. Conditions: its texts have at most 1048576 bytes, and the tables are as listed, where the program's own is read.
-/
import Derived.Test.YtcimhpdpfckgiaaDoorIns0
import Derived.Test.YtcimhpdpfckgiaaDoorNt2
import Derived.Test.YtcimhpdpfckgiaaDoorQuoI
import Derived.Test.YtcimhpdpfckgiaaDoorQuoS
import Derived.Test.YtcimhpdpfckgiaaDoorVag
namespace Go.Proofs.YtcimhpdpfckgiaaDoor.kit
open Go.ChangeShapes Go.WideShapes Go.ChangeAt Go.RowKit
set_option linter.unusedVariables false
set_option linter.unusedSimpArgs false

def insCost (t : InD) : Nat := t.s.size + t.nm.size
theorem szIns_in (t : InD) (L : Int) (w : World) (hs : (insCost t : Int) ≤ L) (hL : L ≤ 1048576) :
    Calls Tryd.prog 4 #[t.v, .int .i64 L] w fun e w' => e = .returned (.int .i64 (L - t.s.size - t.nm.size)) ∧ Below w.heap.size w w' := by
  obtain ⟨op, n, kd, s, nm⟩ := t
  unfold InD.v
  unfold insCost at hs
  simp only at *
  go_enter Tryd.func4, Tryd.ntmps4
  go_wp2
  go_ret
  exact ⟨rfl, (Below.refl _ _).alloc (Nat.le_refl _) _⟩
theorem szIns_out (t : InD) (L : Int) (w : World) (hs : L < (insCost t : Int)) (hL : 0 ≤ L) (hL2 : L ≤ 1048576) (hm : t.s.size ≤ maxLen) (hm2 : t.nm.size ≤ maxLen) :
    Calls Tryd.prog 4 #[t.v, .int .i64 L] w fun e w' => e = .returned (.int .i64 (-1)) ∧ Below w.heap.size w w' := by
  obtain ⟨op, n, kd, s, nm⟩ := t
  unfold InD.v
  unfold insCost at hs
  simp only at *
  unfold maxLen at hm hm2
  by_cases h : (s.size : Int) ≤ L
  · go_enter Tryd.func4, Tryd.ntmps4
    go_wp2
    go_ret
    exact ⟨rfl, (Below.refl _ _).alloc (Nat.le_refl _) _⟩
  · go_enter Tryd.func4, Tryd.ntmps4
    go_wp2
    go_ret
    exact ⟨rfl, (Below.refl _ _).alloc (Nat.le_refl _) _⟩
theorem toIns_any (t : InD) (w : World) :
    Calls Tryd.prog 6 #[t.v] w fun e w' => e = .returned t.v ∧ Below w.heap.size w w' := by
  obtain ⟨op, n, kd, s, nm⟩ := t
  unfold InD.v
  simp only at *
  go_enter Tryd.func6, Tryd.ntmps6
  go_wp2
  exact bodyPost_ret (v := .agg #[.int .i64 op, .int .i64 n, .int .i64 kd, .string s, .string nm]) (by simp [results, Tryd.results6, go_sem]) rfl ⟨rfl, (((Below.refl _ _).alloc (Nat.le_refl _) _).alloc (by simp) _).alloc (by simp; omega) _⟩

/-- A blank ahead of a text that is not empty. -/
def baZ (s : ByteArray) : ByteArray := if s.size = 0 then ⟨#[]⟩ else ⟨#[32]⟩ ++ s
theorem baZ_le (s : ByteArray) : (baZ s).size ≤ s.size + 1 := by
  unfold baZ
  split
  · exact Nat.zero_le _
  · rw [ByteArray.size_append]; show 1 + s.size ≤ _; omega
theorem nil_of {s : ByteArray} (h : s.size = 0) : s = ⟨#[]⟩ := by
  obtain ⟨⟨l⟩⟩ := s
  cases l with
  | nil => rfl
  | cons a l => cases h
theorem blankAhead_any (s : ByteArray) (w : World) (hs : s.size ≤ 1048576) :
    Calls Tryd.prog 16 #[.string s] w fun e w' => e = .returned (.string (baZ s)) ∧ w = w' := by
  by_cases h : s.size = 0
  · obtain rfl := nil_of h
    go_enter Tryd.func16, Tryd.ntmps16
    go_wp2
    go_ret
    exact ⟨rfl, rfl⟩
  · have E : Hid (baZ s = ⟨#[32]⟩ ++ s) := Lib.hid (if_neg h)
    have h1 := not_empty_of_size h
    go_enter Tryd.func16, Tryd.ntmps16
    go_wp2
    go_ret
    exact ⟨by rw [E.out]; rfl, rfl⟩
theorem reWord_any (s : ByteArray) (w : World) (hs : s.size ≤ 1048576) :
    Calls Tryd.prog 14 #[.string s] w fun e w' => e = .returned (.string ((⟨#[47]⟩ ++ s) ++ ⟨#[47]⟩)) ∧ w = w' := by
  go_enter Tryd.func14, Tryd.ntmps14
  go_wp2
  go_ret
  exact ⟨rfl, rfl⟩

def manyZ (n : Int) : ByteArray := if n = 0 then ⟨#[]⟩ else ⟨(Lib.itoa n).toArray⟩
theorem manyZ_le (n : Int) (h1 : -9223372036854775808 ≤ n) (h2 : n ≤ 9223372036854775807) : (manyZ n).size ≤ 21 := by
  unfold manyZ
  split
  · exact Nat.zero_le _
  · exact Lib.itoa_length_le _ (by omega) (by omega)
theorem ntA_le30 (a : Int) : (ntA a).size ≤ 30 := by
  have hp : ∀ N : Nat, N ≤ 1000000000000 → (ntP N).size ≤ 28 := fun N hN => by
    have l0 : (Lib.itoa ((N : Int) / 1000000)).length ≤ 21 := Lib.itoa_length_le _ (by omega) (by omega)
    have l1 : (ptT (N % 1000000)).size ≤ 7 := ptT_le _ (Nat.mod_lt _ (by omega))
    unfold ntP
    rw [ByteArray.size_append]
    show (Lib.itoa ((N : Int) / 1000000)).toArray.size + _ ≤ 28
    rw [List.size_toArray]; omega
  unfold ntA
  split
  · rename_i hb
    have h2 : -1000000000000 ≤ a ∧ a ≤ 1000000000000 := by simpa [numB, inB] using hb
    split
    · rw [ByteArray.size_append]
      have := hp a.natAbs (by omega)
      show 1 + _ ≤ 30
      omega
    · have := hp a.toNat (by omega)
      omega
  · show 0 ≤ 30; omega
/-- The text of a step. -/
def insZ (t : InD) : ByteArray :=
  if 0 ≤ t.op ∧ t.op < 24 then
    (if t.op = 0 then (opW 0 ++ ⟨#[32]⟩) ++ ntA t.n else if t.op = 1 then (opW 1 ++ ⟨#[32]⟩) ++ ⟨(qbs t.s.data.toList ++ [34]).toArray⟩
     else if t.op = 2 then (opW 2 ++ ⟨#[32]⟩) ++ ((⟨#[47]⟩ ++ t.s) ++ ⟨#[47]⟩) else ((opW t.op.toNat ++ baZ t.s) ++ baZ t.nm) ++ baZ (manyZ t.n))
  else ⟨#[]⟩
end Go.Proofs.YtcimhpdpfckgiaaDoor.kit
