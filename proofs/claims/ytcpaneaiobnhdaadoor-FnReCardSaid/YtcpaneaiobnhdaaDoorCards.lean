/-
  DERIVED. GIVEN WITH THE SEED: THE CARDS: each row of YtcpaneaiobnhdaaDoorRows.lean that lists a variable, with what it lists TIED to the program's text (the seventh form; the later family's looks); each row that meets fmt, with fmt's text TOLD by the authors' own Lean function (tested against real Go, not proved from fmt's source: count such statements apart). THE CARD IS WHAT COUNTS. Prove the row's statement (the work); the ties are given (YtcpaneaiobnhdaaDoorTie.lean); close each card by the builder's one call (the guide's Derived/Test/ToyasCard.lean, 'card_holds'). Laid BY PROGRAM, IN A SANDBOX (cutbox-door.mjs). By AI agents, Wed Nov 11 2026. No macro, syntax, notation, axiom, sorry.
-/
import Derived.Test.YtcpaneaiobnhdaaDoorRows
import GoSem.ClaimSeven
namespace Go.Proofs.YtcpaneaiobnhdaaDoor
namespace Rows

/-- THE TIED CARD OF 'laws.FnRe'. -/
def fnReCard : Claim7 := { stood := { row := fnReRow, standIns := [], harness := (true, "ee2496e91a945ad8f40203621143cfaa8f9a66e8dac508e23d5e4ed1d0b4387c"), looks := false }, kinds := [], alts := [], laidByText := true, laidKinds := [.data, .data, .data], laidTests := true, laidLooks := .later }
def FnReCardSaid : Prop := Claim7.holds Tryd.pinned (.plain (OpenSpec.ofChange fnReSpec)) fnReCard

/-- THE SECOND FORM's CARD OF 'laws.FnRe'. -/
def fnReUptoCard : Claim7 := { stood := { row := fnReUptoRow, standIns := [], harness := (true, "ee2496e91a945ad8f40203621143cfaa8f9a66e8dac508e23d5e4ed1d0b4387c"), looks := false }, kinds := [], alts := [], laidByText := true, laidKinds := [.data, .data, .data], laidTests := true, laidLooks := .later }
def FnReUptoCardSaid : Prop := Claim7.holds Tryd.pinned (.plain (OpenSpec.upto fnReSpec)) fnReUptoCard
end Rows
end Go.Proofs.YtcpaneaiobnhdaaDoor
