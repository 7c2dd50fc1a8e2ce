/-
  DERIVED. GIVEN WITH THE SEED: THE CARDS: each row of YtpidpimgoeeogaaDoorRows.lean that lists a variable, with what it lists TIED to the program's text (the seventh form; the later family's looks); each row that meets fmt, with fmt's text TOLD by the authors' own Lean function (tested against real Go, not proved from fmt's source: count such statements apart). THE CARD IS WHAT COUNTS. Prove the row's statement (the work); the ties are given (YtpidpimgoeeogaaDoorTie.lean); close each card by the builder's one call (the guide's Derived/Test/ToyasCard.lean, 'card_holds'). Laid BY PROGRAM, IN A SANDBOX (cutbox-door.mjs). By AI agents, Wed Nov 11 2026. No macro, syntax, notation, axiom, sorry.
-/
import Derived.Test.YtpidpimgoeeogaaDoorRows
import GoSem.ClaimSeven
namespace Go.Proofs.YtpidpimgoeeogaaDoor
namespace Rows

/-- THE TIED CARD OF 'laws.FnMatch'. -/
def fnMatchCard : Claim7 := { stood := { row := fnMatchRow, standIns := [], harness := (true, "f16506e34022b473c654a99c34fe7778589c7358e1d06d55d3a97ba7e1c05623"), looks := false }, kinds := [], alts := [], laidByText := true, laidKinds := [.data], laidTests := true, laidLooks := .later }
def FnMatchCardSaid : Prop := Claim7.holds Tryd.pinned (.plain (OpenSpec.ofChange fnMatchSpec)) fnMatchCard

/-- THE TIED CARD OF 'laws.FnExactMatchAt'. -/
def fnExactMatchAtCard : Claim7 := { stood := { row := fnExactMatchAtRow, standIns := [], harness := (true, "f16506e34022b473c654a99c34fe7778589c7358e1d06d55d3a97ba7e1c05623"), looks := false }, kinds := [], alts := [], laidByText := true, laidKinds := [.data], laidTests := true, laidLooks := .later }
def FnExactMatchAtCardSaid : Prop := Claim7.holds Tryd.pinned (.plain (OpenSpec.ofChange fnExactMatchAtSpec)) fnExactMatchAtCard

/-- THE TIED CARD OF 'laws.FnExactFindRe'. -/
def fnExactFindReCard : Claim7 := { stood := { row := fnExactFindReRow, standIns := [], harness := (true, "f16506e34022b473c654a99c34fe7778589c7358e1d06d55d3a97ba7e1c05623"), looks := false }, kinds := [], alts := [], laidByText := true, laidKinds := [.data], laidTests := true, laidLooks := .later }
def FnExactFindReCardSaid : Prop := Claim7.holds Tryd.pinned (.plain (OpenSpec.ofChange fnExactFindReSpec)) fnExactFindReCard

/-- THE TIED CARD OF 'laws.FnExactMatches'. -/
def fnExactMatchesCard : Claim7 := { stood := { row := fnExactMatchesRow, standIns := [], harness := (true, "f16506e34022b473c654a99c34fe7778589c7358e1d06d55d3a97ba7e1c05623"), looks := false }, kinds := [], alts := [], laidByText := true, laidKinds := [.data], laidTests := true, laidLooks := .later }
def FnExactMatchesCardSaid : Prop := Claim7.holds Tryd.pinned (.plain (OpenSpec.ofChange fnExactMatchesSpec)) fnExactMatchesCard

/-- THE TIED CARD OF 'laws.FnExactReplace'. -/
def fnExactReplaceCard : Claim7 := { stood := { row := fnExactReplaceRow, standIns := [], harness := (true, "f16506e34022b473c654a99c34fe7778589c7358e1d06d55d3a97ba7e1c05623"), looks := false }, kinds := [], alts := [], laidByText := true, laidKinds := [.data], laidTests := true, laidLooks := .later }
def FnExactReplaceCardSaid : Prop := Claim7.holds Tryd.pinned (.plain (OpenSpec.ofChange fnExactReplaceSpec)) fnExactReplaceCard

/-- THE TIED CARD OF 'laws.FnExactCodeName'. -/
def fnExactCodeNameCard : Claim7 := { stood := { row := fnExactCodeNameRow, standIns := [], harness := (true, "f16506e34022b473c654a99c34fe7778589c7358e1d06d55d3a97ba7e1c05623"), looks := false }, kinds := [], alts := [], laidByText := true, laidKinds := [.data], laidTests := true, laidLooks := .later }
def FnExactCodeNameCardSaid : Prop := Claim7.holds Tryd.pinned (.plain (OpenSpec.ofChange fnExactCodeNameSpec)) fnExactCodeNameCard

/-- THE SECOND FORM's CARD OF 'laws.FnMatch'. -/
def fnMatchUptoCard : Claim7 := { stood := { row := fnMatchUptoRow, standIns := [], harness := (true, "f16506e34022b473c654a99c34fe7778589c7358e1d06d55d3a97ba7e1c05623"), looks := false }, kinds := [], alts := [], laidByText := true, laidKinds := [.data], laidTests := true, laidLooks := .later }
def FnMatchUptoCardSaid : Prop := Claim7.holds Tryd.pinned (.plain (OpenSpec.upto fnMatchSpec)) fnMatchUptoCard

/-- THE SECOND FORM's CARD OF 'laws.FnExactMatchAt'. -/
def fnExactMatchAtUptoCard : Claim7 := { stood := { row := fnExactMatchAtUptoRow, standIns := [], harness := (true, "f16506e34022b473c654a99c34fe7778589c7358e1d06d55d3a97ba7e1c05623"), looks := false }, kinds := [], alts := [], laidByText := true, laidKinds := [.data], laidTests := true, laidLooks := .later }
def FnExactMatchAtUptoCardSaid : Prop := Claim7.holds Tryd.pinned (.plain (OpenSpec.upto fnExactMatchAtSpec)) fnExactMatchAtUptoCard

/-- THE SECOND FORM's CARD OF 'laws.FnExactFindRe'. -/
def fnExactFindReUptoCard : Claim7 := { stood := { row := fnExactFindReUptoRow, standIns := [], harness := (true, "f16506e34022b473c654a99c34fe7778589c7358e1d06d55d3a97ba7e1c05623"), looks := false }, kinds := [], alts := [], laidByText := true, laidKinds := [.data], laidTests := true, laidLooks := .later }
def FnExactFindReUptoCardSaid : Prop := Claim7.holds Tryd.pinned (.plain (OpenSpec.upto fnExactFindReSpec)) fnExactFindReUptoCard

/-- THE SECOND FORM's CARD OF 'laws.FnExactMatches'. -/
def fnExactMatchesUptoCard : Claim7 := { stood := { row := fnExactMatchesUptoRow, standIns := [], harness := (true, "f16506e34022b473c654a99c34fe7778589c7358e1d06d55d3a97ba7e1c05623"), looks := false }, kinds := [], alts := [], laidByText := true, laidKinds := [.data], laidTests := true, laidLooks := .later }
def FnExactMatchesUptoCardSaid : Prop := Claim7.holds Tryd.pinned (.plain (OpenSpec.upto fnExactMatchesSpec)) fnExactMatchesUptoCard

/-- THE SECOND FORM's CARD OF 'laws.FnExactReplace'. -/
def fnExactReplaceUptoCard : Claim7 := { stood := { row := fnExactReplaceUptoRow, standIns := [], harness := (true, "f16506e34022b473c654a99c34fe7778589c7358e1d06d55d3a97ba7e1c05623"), looks := false }, kinds := [], alts := [], laidByText := true, laidKinds := [.data], laidTests := true, laidLooks := .later }
def FnExactReplaceUptoCardSaid : Prop := Claim7.holds Tryd.pinned (.plain (OpenSpec.upto fnExactReplaceSpec)) fnExactReplaceUptoCard

/-- THE SECOND FORM's CARD OF 'laws.FnExactCodeName'. -/
def fnExactCodeNameUptoCard : Claim7 := { stood := { row := fnExactCodeNameUptoRow, standIns := [], harness := (true, "f16506e34022b473c654a99c34fe7778589c7358e1d06d55d3a97ba7e1c05623"), looks := false }, kinds := [], alts := [], laidByText := true, laidKinds := [.data], laidTests := true, laidLooks := .later }
def FnExactCodeNameUptoCardSaid : Prop := Claim7.holds Tryd.pinned (.plain (OpenSpec.upto fnExactCodeNameSpec)) fnExactCodeNameUptoCard
end Rows
end Go.Proofs.YtpidpimgoeeogaaDoor
