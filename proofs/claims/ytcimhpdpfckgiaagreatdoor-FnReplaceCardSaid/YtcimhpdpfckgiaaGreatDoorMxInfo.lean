/-
  Closed facts of this seat's program and the contract of spec.l01In. Conditions: none.
-/
import Derived.Test.YtcimhpdpfckgiaaGreatDoorRows
import Derived.Test.YtcimhpdpfckgiaaGreatDoorMxKit
import Derived.Lib.AppendStr
import Derived.Deep.RegionLaw
set_option linter.unusedVariables false
namespace Go.Proofs.YtcimhpdpfckgiaaGreatDoor.kit
open Go.ChangeShapes Go.WideShapes Go.ChangeAt Go.RowKit
theorem Tryz.infoU8 : (Tryz.prog.info? 5).map (fun i => (i.zero, i.size, i.bytes)) = some (some (.int .u8 0), 1, 1) := by kernel_rfl
def inB (x a b : Int) : Bool := decide (a ≤ x ∧ x ≤ b)
theorem in_any (x a b : Int) (w : World) :
 Calls Tryz.prog 52 #[.int .i64 x, .int .i64 a, .int .i64 b] w fun e w' => e = .returned (.bool (inB x a b)) ∧ w = w' := by
 by_cases h1 : a ≤ x
 · by_cases h2 : x ≤ b
   · have E := qd (show inB x a b = true by simp [inB, h1, h2])
     go_enter Tryz.func52, Tryz.ntmps52
     go_wp2
     go_ret
     exact ⟨ret_bool E.out.symm, rfl⟩
   · have E := qd (show inB x a b = false by simp [inB, h1, h2])
     go_enter Tryz.func52, Tryz.ntmps52
     go_wp2
     go_ret
     exact ⟨ret_bool E.out.symm, rfl⟩
 · have E := qd (show inB x a b = false by simp [inB, h1])
   go_enter Tryz.func52, Tryz.ntmps52
   go_wp2
   go_ret
   exact ⟨ret_bool E.out.symm, rfl⟩
end Go.Proofs.YtcimhpdpfckgiaaGreatDoor.kit
namespace Go.Proofs.YtcimhpdpfckgiaaGreatDoor.kit
def octB (c : UInt8) : Bool := decide (48 ≤ c.toNat ∧ c.toNat ≤ 55)
def octN (a b c : UInt8) : Nat := (a.toNat - 48) * 64 + (b.toNat - 48) * 8 + (c.toNat - 48)
def oct3 (a b c : UInt8) : Option UInt8 := if octB a && octB b && octB c && decide (octN a b c ≤ 255) then some (UInt8.ofNat (octN a b c)) else none
def rd : List UInt8 → Option (UInt8 × Nat)
 | [] => none
 | c :: r => if c = 92 then
     match r with
     | [] => none
     | d :: r2 => if d = 34 ∨ d = 92 then some (d, 2) else if d = 110 then some (10, 2) else if d = 116 then some (9, 2) else
       match r2 with
       | e :: f :: _ => (oct3 d e f).map fun b => (b, 4)
       | _ => none
   else some (c, 1)
end Go.Proofs.YtcimhpdpfckgiaaGreatDoor.kit
namespace Go.Proofs.YtcimhpdpfckgiaaGreatDoor.kit
open Go.ChangeShapes Go.WideShapes Go.ChangeAt Go.RowKit
def v8 (g : Nat → UInt8) : Nat → Int
 | 0 => 0
 | t + 1 => 8 * v8 g t + (g t).toNat - 48
def o3 (g : Nat → UInt8) : Option UInt8 := oct3 (g 0) (g 1) (g 2)
def at_ (s : ByteArray) (j : Nat) : UInt8 := s.data.toList.getD j 0
def esc (s : ByteArray) (i : Nat) : Option (UInt8 × Nat) := rd (92 :: s.data.toList.drop i)
end Go.Proofs.YtcimhpdpfckgiaaGreatDoor.kit
