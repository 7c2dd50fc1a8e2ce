/-
  Contracts of slices.Contains at bytes, of strings.Repeat at a blank and at a nought, of impl.filled and impl.Fill over this seat's translation. Conditions: a text of at most 1048576 bytes; the flags lie in one block.
-/
import Derived.Test.YtcnmcfalobekmaaFl0
import Derived.Test.YtcnmcfalobekmaaShelf
namespace Go.Proofs.Ytcnmcfalobekmaa.kit
open Go.ChangeShapes Go.WideShapes Go.ChangeAt Go.RowKit
set_option linter.unusedVariables false

theorem wrap_u64n (n : Nat) (h : n < 18446744073709551616) : IntKind.u64.wrap (n : Int) = (n : Int) := by
  unfold IntKind.wrap
  simp [IntKind.signed, IntKind.bits]
  omega
/-- Bytes that lie in one block, from its beginning on. -/
def FlAt (w : World) (a : Option Addr) (xs : List UInt8) : Prop := ∀ (j : Nat) (h : j < xs.length), ∃ g, a = some ⟨g, 0, none⟩ ∧ w.cell? ⟨g, j, none⟩ = some (.int .u8 (xs[j].toNat : Int))
theorem bhas_take (xs : List UInt8) (c : UInt8) (j : Nat) (hj : j < xs.length) : (xs.take (j + 1)).contains c = ((xs.take j).contains c || c == xs[j]) := by
  rw [List.take_succ_eq_append_getElem hj, Bool.eq_iff_iff]
  simp only [List.contains_iff_mem, List.mem_append, List.mem_singleton, Bool.or_eq_true, beq_iff_eq]
theorem bhas_mono (xs : List UInt8) (c : UInt8) (j : Nat) (h : (xs.take j).contains c = true) : xs.contains c = true := by
  simp only [List.contains_iff_mem] at *
  exact List.mem_of_mem_take h
def bhas (xs : List UInt8) (c : UInt8) : Bool := xs.contains c
theorem u8_eq (c x : UInt8) : ((c.toNat : Int) == (x.toNat : Int)) = (c == x) := by
  rw [Bool.eq_iff_iff]; simp only [beq_iff_eq]
  constructor
  · intro h; exact UInt8.toNat_inj.1 (by omega)
  · intro h; rw [h]
set_option maxRecDepth 100000 in
set_option maxHeartbeats 1000000 in
theorem bidx_any (xs : List UInt8) (a : Option Addr) (cap : Nat) (c : UInt8) (w : World) (hn : xs.length ≤ 1048576) (h : FlAt w a xs) :
    Calls Try.prog 31 #[.slice a xs.length cap, .int .u8 (c.toNat : Int)] w fun e w' => ∃ z : Int, e = .returned (.int .i64 z) ∧ (0 ≤ z ↔ bhas xs c = true) ∧ w = w' := by
  have HI := Lib.hid h
  clear h
  go_enter Try.func31, Try.ntmps31
  go_wp2_with fail
  go_loop [8] (fun i => ∃ j : Nat, j ≤ xs.length ∧ i = .int .i64 (j : Int) ∧ (xs.take j).contains c = false) (fun i => xs.length - (intOf i).toNat)
  case atStart => exact ⟨0, Nat.zero_le _, rfl, rfl⟩
  case round =>
    obtain ⟨j, hj, rfl, hno⟩ := hrel
    have HN := Lib.hid hno
    clear hno
    by_cases hlt : j < xs.length
    · obtain ⟨g, rfl, hc⟩ := HI.out j hlt
      have HT := Lib.hid (bhas_take xs c j hlt)
      have HM := Lib.hid (show (xs.take (j + 1)).contains c = true → bhas xs c = true from bhas_mono xs c (j + 1))
      have hj0 : (0 : Int) ≤ j := by omega
      generalize xs[j] = x at *
      have he := u8_eq c x
      cases hx : (c == x)
      · rw [hx] at he
        go_wp2_with fail
        go_round
        case rel => exact ⟨j + 1, by omega, by go_num, by rw [HT.out, HN.out, hx]; rfl⟩
        case measure => simp [intOf]; omega
      · rw [hx] at he
        go_wp2_with fail
        go_ret
        exact ⟨_, rfl, ⟨fun _ => HM.out (by rw [HT.out, hx, Bool.or_true]), fun _ => hj0⟩, rfl⟩
    · obtain rfl : j = xs.length := by omega
      have HA := Lib.hid (show bhas xs c = false by unfold bhas; have := HN.out; rwa [List.take_length] at this)
      go_wp2_with fail
      go_ret
      exact ⟨_, rfl, ⟨fun h => by simp at h, fun h => by rw [HA.out] at h; cases h⟩, rfl⟩
theorem bhas_any (xs : List UInt8) (a : Option Addr) (cap : Nat) (c : UInt8) (w : World) (hn : xs.length ≤ 1048576) (h : FlAt w a xs) :
    Calls Try.prog 24 #[.slice a xs.length cap, .int .u8 (c.toNat : Int)] w fun e w' => e = .returned (.bool (bhas xs c)) ∧ w = w' := by
  have HI := Lib.hid (bidx_any xs a cap c w hn h)
  go_enter Try.func24, Try.ntmps24
  go_wp2_with fail
  refine HI.out.mono ?_
  rintro e w1 ⟨z, rfl, hz, rfl⟩
  have HZ := Lib.hid (show decide (0 ≤ z) = bhas xs c by rw [Bool.eq_iff_iff, decide_eq_true_eq]; exact hz)
  clear hz
  go_wp2_with fail
  go_ret
  exact ⟨ret_bool HZ.out, rfl⟩
theorem repL_one (c : UInt8) : ∀ n : Nat, Lib.repeatL [c] n = List.replicate n c
  | 0 => rfl
  | n + 1 => by rw [Lib.repeatL, repL_one c n]; rfl
theorem rep_any (c : UInt8) (n : Nat) (w : World) (hn : n ≤ 99) :
    Calls Try.prog 25 #[.string ⟨#[c]⟩, .int .i64 (n : Int)] w fun e w' => e = .returned (.string ⟨(List.replicate n c).toArray⟩) ∧ Below w.heap.size w w' := by
  refine (Try.strings_Repeat ⟨#[c]⟩ n w (by omega) (by show 1 * n ≤ _; omega)).mono ?_
  rintro e w' ⟨rfl, hb⟩
  refine ⟨?_, hb⟩
  rw [show (⟨#[c]⟩ : ByteArray).data.toList = [c] from rfl, repL_one]
theorem cutp_any (s : ByteArray) (w : World) :
    Calls Try.prog 26 #[.string s, .string ⟨#[45]⟩] w fun e w' => e = .returned (.tuple #[.string ⟨(if s.data.toList.head? = some 45 then s.data.toList.tail else s.data.toList).toArray⟩, .bool (decide (s.data.toList.head? = some 45))]) ∧ w = w' := by
  refine (Try.strings_CutPrefix s ⟨#[45]⟩ w).mono ?_
  rintro e w' ⟨rfl, rfl⟩
  refine ⟨?_, rfl⟩
  have e1 : Lib.hasPrefix s.data.toList (⟨#[45]⟩ : ByteArray).data.toList = decide (s.data.toList.head? = some 45) := by
    show [(45 : UInt8)].isPrefixOf s.data.toList = _
    cases h : s.data.toList with
    | nil => rfl
    | cons x l =>
      rw [Bool.eq_iff_iff]
      simp only [List.isPrefixOf, Bool.and_true, List.head?_cons, Option.some.injEq, beq_iff_eq, decide_eq_true_eq]
      exact eq_comm
  have e2 : Lib.trimPrefix s.data.toList (⟨#[45]⟩ : ByteArray).data.toList = if s.data.toList.head? = some 45 then s.data.toList.tail else s.data.toList := by
    unfold Lib.trimPrefix
    rw [e1]
    by_cases h : s.data.toList.head? = some 45
    · rw [if_pos h, if_pos (by simpa using h)]; exact List.drop_one
    · rw [if_neg h, if_neg (by simpa using h)]
  rw [e1, e2]
theorem add_atF (b o k : Nat) : (⟨b, o, none⟩ : Addr).add k = ⟨b, o + k, none⟩ := by unfold Addr.add; split <;> simp_all
/-- What a row of one's own tells. -/
theorem flAt_own {e : TypeId} {B : Nat} {w : World} {v : Value} {xs : List UInt8} (h : Own e B w v xs) : ∃ a cap, v = .slice a xs.length cap ∧ FlAt w a xs := by
  rcases h.is_slice with ⟨rfl, rfl⟩ | ⟨g, cap, rfl, _, _⟩
  · exact ⟨none, 0, rfl, fun j hj => absurd hj (by simp)⟩
  · exact ⟨_, cap, rfl, fun j hj => ⟨g, rfl, by have := World.ownsRow.cells h rfl j (.int .u8 (xs[j].toNat : Int)) (by simp [hj]); simpa [add_atF] using this⟩⟩
end Go.Proofs.Ytcnmcfalobekmaa.kit
