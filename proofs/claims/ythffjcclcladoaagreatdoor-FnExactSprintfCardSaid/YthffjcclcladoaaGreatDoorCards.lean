/-
  DERIVED. GIVEN WITH THE SEED: THE CARDS: each row of YthffjcclcladoaaGreatDoorRows.lean that lists a variable, with what it lists TIED to the program's text (the seventh form; the later family's looks); each row that meets fmt, with fmt's text TOLD by the authors' own Lean function (tested against real Go, not proved from fmt's source: count such statements apart). THE CARD IS WHAT COUNTS. Prove the row's statement (the work); the ties are given (YthffjcclcladoaaGreatDoorTie.lean); close each card by the builder's one call (the guide's Derived/Test/ToyasCard.lean, 'card_holds'). Laid BY PROGRAM, IN A SANDBOX (cutbox-door.mjs). By AI agents, Wed Nov 11 2026. No macro, syntax, notation, axiom, sorry.
-/
import Derived.Test.YthffjcclcladoaaGreatDoorRows
import GoSem.ClaimSeven
namespace Go.Proofs.YthffjcclcladoaaGreatDoor
namespace Rows

/-- THE TIED CARD OF 'laws.FnForm'. -/
def fnFormCard : Claim7 := { stood := { row := fnFormRow, standIns := [], harness := (true, "1fcfa8e585b1a029e8752e90aa7eaf7c7aaeab4cc4d93f4d404aa9bb1833bf3a"), looks := true }, kinds := [], alts := [], laidByText := true, laidKinds := [.data, .data, .data, .data, .pinned], laidTests := true, laidLooks := .later }
def FnFormCardSaid : Prop := Claim7.holds Tryz.pinned (.plain (OpenSpec.ofChange fnFormSpec)) fnFormCard

/-- THE TIED CARD OF 'laws.FnReplace'. -/
def fnReplaceCard : Claim7 := { stood := { row := fnReplaceRow, standIns := [], harness := (true, "1fcfa8e585b1a029e8752e90aa7eaf7c7aaeab4cc4d93f4d404aa9bb1833bf3a"), looks := true }, kinds := [], alts := [], laidByText := true, laidKinds := [.data], laidTests := true, laidLooks := .later }
def FnReplaceCardSaid : Prop := Claim7.holds Tryz.pinned (.plain (OpenSpec.ofChange fnReplaceSpec)) fnReplaceCard

/-- THE TIED CARD OF 'laws.FnExactSprintf'. -/
def fnExactSprintfCard : Claim7 := { stood := { row := fnExactSprintfRow, standIns := [], harness := (true, "1fcfa8e585b1a029e8752e90aa7eaf7c7aaeab4cc4d93f4d404aa9bb1833bf3a"), looks := true }, kinds := [], alts := [], laidByText := true, laidKinds := [.data, .data, .data, .data, .pinned], laidTests := true, laidLooks := .later }
def FnExactSprintfCardSaid : Prop := Claim7.holds Tryz.pinned (.plain (OpenSpec.ofChange fnExactSprintfSpec)) fnExactSprintfCard

/-- THE SECOND FORM's CARD OF 'laws.FnForm'. -/
def fnFormUptoCard : Claim7 := { stood := { row := fnFormUptoRow, standIns := [], harness := (true, "1fcfa8e585b1a029e8752e90aa7eaf7c7aaeab4cc4d93f4d404aa9bb1833bf3a"), looks := true }, kinds := [], alts := [], laidByText := true, laidKinds := [.data, .data, .data, .data, .pinned], laidTests := true, laidLooks := .later }
def FnFormUptoCardSaid : Prop := Claim7.holds Tryz.pinned (.plain (OpenSpec.upto fnFormSpec)) fnFormUptoCard

/-- THE SECOND FORM's CARD OF 'laws.FnReplace'. -/
def fnReplaceUptoCard : Claim7 := { stood := { row := fnReplaceUptoRow, standIns := [], harness := (true, "1fcfa8e585b1a029e8752e90aa7eaf7c7aaeab4cc4d93f4d404aa9bb1833bf3a"), looks := true }, kinds := [], alts := [], laidByText := true, laidKinds := [.data], laidTests := true, laidLooks := .later }
def FnReplaceUptoCardSaid : Prop := Claim7.holds Tryz.pinned (.plain (OpenSpec.upto fnReplaceSpec)) fnReplaceUptoCard

/-- THE SECOND FORM's CARD OF 'laws.FnExactSprintf'. -/
def fnExactSprintfUptoCard : Claim7 := { stood := { row := fnExactSprintfUptoRow, standIns := [], harness := (true, "1fcfa8e585b1a029e8752e90aa7eaf7c7aaeab4cc4d93f4d404aa9bb1833bf3a"), looks := true }, kinds := [], alts := [], laidByText := true, laidKinds := [.data, .data, .data, .data, .pinned], laidTests := true, laidLooks := .later }
def FnExactSprintfUptoCardSaid : Prop := Claim7.holds Tryz.pinned (.plain (OpenSpec.upto fnExactSprintfSpec)) fnExactSprintfUptoCard
end Rows
end Go.Proofs.YthffjcclcladoaaGreatDoor
