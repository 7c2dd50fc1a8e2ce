/-
  NARROWER THAN 'FOR EVERY INPUT', by the rows' own cells (each row's printed sentence says how): FnExactReOk: loops · FnExactHas: loops · FnExactLeast: loops.
  DERIVED. THE GIVEN ROWS OF THIS SEAT. 5 by the template 'for every input the law returns true; each argument reads behind the call as it read before'; 0 by the template 'total and deterministic' (their statements: YtiggdpckjmellaaTotals.lean).
  GIVEN WITH THE SEED: the statements are not yours to turn. If you find one false, say at which input.
  Laid BY PROGRAM, IN A SANDBOX (cutbox-rows.mjs): the forced cells as the released guide's own fill.sh prints them over the translation 7aaa355f84bf49ff… (all of the seat's roots in one cut). By AI agents, Wed Nov 11 2026. No macro, syntax, notation, axiom, sorry.
-/
import Derived.Test.YtiggdpckjmellaaChecked
import GoSem.Claim
import GoSem.ClaimJoined
import GoSem.ClaimMapViews
import Derived.JoinedTies
import Derived.KernelRfl
namespace Go.Proofs.Ytiggdpckjmellaa
/- THE CELL 'sum', in the pinned program and in every row, IS THE sha256 OF THE DUMP (.gsa) THAT YtiggdpckjmellaaProg.lean LOADS. Nothing in Lean hashes anything: it is a label: what it is worth is what the hold of that sum in a sandbox is worth. -/
noncomputable def Try.pinned : Pinned := { name := "ytiggdpckjmellaa", sum := "7aaa355f84bf49ffac39544646edae24429cd2fa88a00036280b1cee77c132b1", checked := Try.checked }
namespace Rows
def none {H : Type} : Left H := { results := [], args := [] }

/-- 'laws.FnTexts': WHATEVER THE INPUT: true; the input reads as it did. -/
def fnTextsSpec : ChangeSpec := { name := "fnTexts", fn := fun _ => fun
  | [d] => { results := [.lit (.bool true)], args := [d] }
  | _ => none }
def fnTextsRow : OpenClaim := { program := "ytiggdpckjmellaa", sum := "7aaa355f84bf49ffac39544646edae24429cd2fa88a00036280b1cee77c132b1", func := "loop.example/g00560/laws.FnTexts", spec := "fnTexts", inPlace := ["internal/bytealg.IndexByteString", "internal/bytealg.IndexString"], unfollowed := true, recurses := true, named := ["internal/bytealg.MaxLen"], apart := false }
def FnTextsSaid : Prop := fnTextsRow.holds Try.pinned (OpenSpec.ofChange fnTextsSpec)

/-- ITS FALSE NEIGHBOUR: 'it returns false'. Refute it at one input. -/
def fnTextsWrong : ChangeSpec := { name := "fnTexts", fn := fun _ => fun
  | [d] => { results := [.lit (.bool false)], args := [d] }
  | _ => none }
def FnTextsWrongFalsely : Prop := fnTextsRow.holds Try.pinned (OpenSpec.ofChange fnTextsWrong)

/-- 'laws.FnExactReOk': WHATEVER THE INPUT: true; the input reads as it did. -/
def fnExactReOkSpec : ChangeSpec := { name := "fnExactReOk", fn := fun _ => fun
  | [d] => { results := [.lit (.bool true)], args := [d] }
  | _ => none }
def fnExactReOkRow : OpenClaim := { program := "ytiggdpckjmellaa", sum := "7aaa355f84bf49ffac39544646edae24429cd2fa88a00036280b1cee77c132b1", func := "loop.example/g00560/laws.FnExactReOk", spec := "fnExactReOk", recurses := true, loops := true, apart := false }
def FnExactReOkSaid : Prop := fnExactReOkRow.holds Try.pinned (OpenSpec.ofChange fnExactReOkSpec)

/-- ITS FALSE NEIGHBOUR: 'it returns false'. Refute it at one input. -/
def fnExactReOkWrong : ChangeSpec := { name := "fnExactReOk", fn := fun _ => fun
  | [d] => { results := [.lit (.bool false)], args := [d] }
  | _ => none }
def FnExactReOkWrongFalsely : Prop := fnExactReOkRow.holds Try.pinned (OpenSpec.ofChange fnExactReOkWrong)

/-- 'laws.FnExactParseRe': WHATEVER THE INPUT: true; the input reads as it did. -/
def fnExactParseReSpec : ChangeSpec := { name := "fnExactParseRe", fn := fun _ => fun
  | [d] => { results := [.lit (.bool true)], args := [d] }
  | _ => none }
def fnExactParseReRow : OpenClaim := { program := "ytiggdpckjmellaa", sum := "7aaa355f84bf49ffac39544646edae24429cd2fa88a00036280b1cee77c132b1", func := "loop.example/g00560/laws.FnExactParseRe", spec := "fnExactParseRe", inPlace := ["internal/bytealg.IndexByteString"], recurses := true, apart := false }
def FnExactParseReSaid : Prop := fnExactParseReRow.holds Try.pinned (OpenSpec.ofChange fnExactParseReSpec)

/-- ITS FALSE NEIGHBOUR: 'it returns false'. Refute it at one input. -/
def fnExactParseReWrong : ChangeSpec := { name := "fnExactParseRe", fn := fun _ => fun
  | [d] => { results := [.lit (.bool false)], args := [d] }
  | _ => none }
def FnExactParseReWrongFalsely : Prop := fnExactParseReRow.holds Try.pinned (OpenSpec.ofChange fnExactParseReWrong)

/-- 'laws.FnExactHas': WHATEVER THE INPUT: true; the input reads as it did. -/
def fnExactHasSpec : ChangeSpec := { name := "fnExactHas", fn := fun _ => fun
  | [d1, d2] => { results := [.lit (.bool true)], args := [d1, d2] }
  | _ => none }
def fnExactHasRow : OpenClaim := { program := "ytiggdpckjmellaa", sum := "7aaa355f84bf49ffac39544646edae24429cd2fa88a00036280b1cee77c132b1", func := "loop.example/g00560/laws.FnExactHas", spec := "fnExactHas", unfollowed := true, recurses := true, loops := true, apart := false }
def FnExactHasSaid : Prop := fnExactHasRow.holds Try.pinned (OpenSpec.ofChange fnExactHasSpec)

/-- ITS FALSE NEIGHBOUR: 'it returns false'. Refute it at one input. -/
def fnExactHasWrong : ChangeSpec := { name := "fnExactHas", fn := fun _ => fun
  | [d1, d2] => { results := [.lit (.bool false)], args := [d1, d2] }
  | _ => none }
def FnExactHasWrongFalsely : Prop := fnExactHasRow.holds Try.pinned (OpenSpec.ofChange fnExactHasWrong)

/-- 'laws.FnExactLeast': WHATEVER THE INPUT: true; the input reads as it did. -/
def fnExactLeastSpec : ChangeSpec := { name := "fnExactLeast", fn := fun _ => fun
  | [d] => { results := [.lit (.bool true)], args := [d] }
  | _ => none }
def fnExactLeastRow : OpenClaim := { program := "ytiggdpckjmellaa", sum := "7aaa355f84bf49ffac39544646edae24429cd2fa88a00036280b1cee77c132b1", func := "loop.example/g00560/laws.FnExactLeast", spec := "fnExactLeast", recurses := true, loops := true, apart := false }
def FnExactLeastSaid : Prop := fnExactLeastRow.holds Try.pinned (OpenSpec.ofChange fnExactLeastSpec)

/-- ITS FALSE NEIGHBOUR: 'it returns false'. Refute it at one input. -/
def fnExactLeastWrong : ChangeSpec := { name := "fnExactLeast", fn := fun _ => fun
  | [d] => { results := [.lit (.bool false)], args := [d] }
  | _ => none }
def FnExactLeastWrongFalsely : Prop := fnExactLeastRow.holds Try.pinned (OpenSpec.ofChange fnExactLeastWrong)

/- THE SECOND FORM. 'bulk': how many values and letters a reading holds, each counted each time it is reached (what is shared counts as often as it is met; a slice's spare places count too). A statement '..UptoSaid' is the law's where the arguments, and the package variables that the reading takes, are together of bulk at most 1048576: NARROWER than '..Said'. Prove '..Said' where nothing that the law and all that it calls make is longer than what came in: it says more and counts as full. Else prove '..UptoSaid'. A law counts once. -/
mutual
def uptoBulk {H : Type} : DataW H → Nat
  | .lit (.string bytes) => bytes.length + 1
  | .lit _ => 1
  | .nil => 1
  | .ptr d => uptoBulk d + 1
  | .slice elems spare => uptoBulkAll elems + uptoBulkAll spare + 1
  | .agg parts => uptoBulkAll parts + 1
  | .iface _ d => uptoBulk d + 1
  | .map entries => uptoBulkEntries entries + 1
  | .held _ => 1
def uptoBulkAll {H : Type} : List (DataW H) → Nat
  | [] => 0
  | d :: r => uptoBulk d + uptoBulkAll r
def uptoBulkEntries {H : Type} : List (Lit × DataW H) → Nat
  | [] => 0
  | x :: r => uptoBulkEntry x + uptoBulkEntries r
def uptoBulkEntry {H : Type} : Lit × DataW H → Nat
  | (.string bytes, d) => bytes.length + uptoBulk d + 1
  | (_, d) => uptoBulk d + 1
 end
def uptoSmall : (H : Type) → List (DataW H) → Bool := fun _ ds => decide (uptoBulkAll ds ≤ 1048576)
def OpenSpec.upto (s : _root_.Go.ChangeSpec) : _root_.Go.OpenSpec := { _root_.Go.OpenSpec.ofChange s with cond := some uptoSmall }

/-- 'laws.FnTexts', WHERE WHAT IT READS IS OF BULK AT MOST 1048576: true; the input reads as it did. -/
def fnTextsUptoRow : OpenClaim := { program := "ytiggdpckjmellaa", sum := "7aaa355f84bf49ffac39544646edae24429cd2fa88a00036280b1cee77c132b1", func := "loop.example/g00560/laws.FnTexts", spec := "fnTexts", inPlace := ["internal/bytealg.IndexByteString", "internal/bytealg.IndexString"], unfollowed := true, recurses := true, named := ["internal/bytealg.MaxLen"], apart := false, narrowed := true }
def FnTextsUptoSaid : Prop := fnTextsUptoRow.holds Try.pinned (OpenSpec.upto fnTextsSpec)

/-- 'laws.FnExactReOk', WHERE WHAT IT READS IS OF BULK AT MOST 1048576: true; the input reads as it did. -/
def fnExactReOkUptoRow : OpenClaim := { program := "ytiggdpckjmellaa", sum := "7aaa355f84bf49ffac39544646edae24429cd2fa88a00036280b1cee77c132b1", func := "loop.example/g00560/laws.FnExactReOk", spec := "fnExactReOk", recurses := true, loops := true, apart := false, narrowed := true }
def FnExactReOkUptoSaid : Prop := fnExactReOkUptoRow.holds Try.pinned (OpenSpec.upto fnExactReOkSpec)

/-- 'laws.FnExactParseRe', WHERE WHAT IT READS IS OF BULK AT MOST 1048576: true; the input reads as it did. -/
def fnExactParseReUptoRow : OpenClaim := { program := "ytiggdpckjmellaa", sum := "7aaa355f84bf49ffac39544646edae24429cd2fa88a00036280b1cee77c132b1", func := "loop.example/g00560/laws.FnExactParseRe", spec := "fnExactParseRe", inPlace := ["internal/bytealg.IndexByteString"], recurses := true, apart := false, narrowed := true }
def FnExactParseReUptoSaid : Prop := fnExactParseReUptoRow.holds Try.pinned (OpenSpec.upto fnExactParseReSpec)

/-- 'laws.FnExactHas', WHERE WHAT IT READS IS OF BULK AT MOST 1048576: true; the input reads as it did. -/
def fnExactHasUptoRow : OpenClaim := { program := "ytiggdpckjmellaa", sum := "7aaa355f84bf49ffac39544646edae24429cd2fa88a00036280b1cee77c132b1", func := "loop.example/g00560/laws.FnExactHas", spec := "fnExactHas", unfollowed := true, recurses := true, loops := true, apart := false, narrowed := true }
def FnExactHasUptoSaid : Prop := fnExactHasUptoRow.holds Try.pinned (OpenSpec.upto fnExactHasSpec)

/-- 'laws.FnExactLeast', WHERE WHAT IT READS IS OF BULK AT MOST 1048576: true; the input reads as it did. -/
def fnExactLeastUptoRow : OpenClaim := { program := "ytiggdpckjmellaa", sum := "7aaa355f84bf49ffac39544646edae24429cd2fa88a00036280b1cee77c132b1", func := "loop.example/g00560/laws.FnExactLeast", spec := "fnExactLeast", recurses := true, loops := true, apart := false, narrowed := true }
def FnExactLeastUptoSaid : Prop := fnExactLeastUptoRow.holds Try.pinned (OpenSpec.upto fnExactLeastSpec)

end Rows
end Go.Proofs.Ytiggdpckjmellaa
