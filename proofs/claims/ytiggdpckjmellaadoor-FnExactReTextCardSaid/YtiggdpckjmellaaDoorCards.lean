/-
  DERIVED. GIVEN WITH THE SEED: THE CARDS: each row of YtiggdpckjmellaaDoorRows.lean that lists a variable, with what it lists TIED to the program's text (the seventh form; the later family's looks); each row that meets fmt, with fmt's text TOLD by the authors' own Lean function (tested against real Go, not proved from fmt's source: count such statements apart). THE CARD IS WHAT COUNTS. Prove the row's statement (the work); the ties are given (YtiggdpckjmellaaDoorTie.lean); close each card by the builder's one call (the guide's Derived/Test/ToyasCard.lean, 'card_holds'). Laid BY PROGRAM, IN A SANDBOX (cutbox-door.mjs). By AI agents, Wed Nov 11 2026. No macro, syntax, notation, axiom, sorry.
-/
import Derived.Test.YtiggdpckjmellaaDoorRows
import GoSem.ClaimSeven
namespace Go.Proofs.YtiggdpckjmellaaDoor
namespace Rows

/-- THE TIED CARD OF 'laws.FnQuote'. -/
def fnQuoteCard : Claim7 := { stood := { row := fnQuoteRow, standIns := [], harness := (true, "c92e13cac252cd96c95e99886eac8877d79c5c58210de23efd127195c1380e35"), looks := false }, kinds := [], alts := [], laidByText := true, laidKinds := [.data, .data, .data], laidTests := true, laidLooks := .later }
def FnQuoteCardSaid : Prop := Claim7.holds Tryd.pinned (.plain (OpenSpec.ofChange fnQuoteSpec)) fnQuoteCard

/-- THE TIED CARD OF 'laws.FnRe'. -/
def fnReCard : Claim7 := { stood := { row := fnReRow, standIns := [], harness := (true, "c92e13cac252cd96c95e99886eac8877d79c5c58210de23efd127195c1380e35"), looks := false }, kinds := [], alts := [], laidByText := true, laidKinds := [.data, .data, .data], laidTests := true, laidLooks := .later }
def FnReCardSaid : Prop := Claim7.holds Tryd.pinned (.plain (OpenSpec.ofChange fnReSpec)) fnReCard

/-- THE TIED CARD OF 'laws.FnMatch'. -/
def fnMatchCard : Claim7 := { stood := { row := fnMatchRow, standIns := [], harness := (true, "c92e13cac252cd96c95e99886eac8877d79c5c58210de23efd127195c1380e35"), looks := false }, kinds := [], alts := [], laidByText := true, laidKinds := [.data], laidTests := true, laidLooks := .later }
def FnMatchCardSaid : Prop := Claim7.holds Tryd.pinned (.plain (OpenSpec.ofChange fnMatchSpec)) fnMatchCard

/-- THE TIED CARD OF 'laws.FnExactReText'. -/
def fnExactReTextCard : Claim7 := { stood := { row := fnExactReTextRow, standIns := [], harness := (true, "c92e13cac252cd96c95e99886eac8877d79c5c58210de23efd127195c1380e35"), looks := false }, kinds := [], alts := [], laidByText := true, laidKinds := [.data, .data, .data], laidTests := true, laidLooks := .later }
def FnExactReTextCardSaid : Prop := Claim7.holds Tryd.pinned (.plain (OpenSpec.ofChange fnExactReTextSpec)) fnExactReTextCard

/-- THE TIED CARD OF 'laws.FnExactMatchAt'. -/
def fnExactMatchAtCard : Claim7 := { stood := { row := fnExactMatchAtRow, standIns := [], harness := (true, "c92e13cac252cd96c95e99886eac8877d79c5c58210de23efd127195c1380e35"), looks := false }, kinds := [], alts := [], laidByText := true, laidKinds := [.data], laidTests := true, laidLooks := .later }
def FnExactMatchAtCardSaid : Prop := Claim7.holds Tryd.pinned (.plain (OpenSpec.ofChange fnExactMatchAtSpec)) fnExactMatchAtCard

/-- THE TIED CARD OF 'laws.FnExactFindRe'. -/
def fnExactFindReCard : Claim7 := { stood := { row := fnExactFindReRow, standIns := [], harness := (true, "c92e13cac252cd96c95e99886eac8877d79c5c58210de23efd127195c1380e35"), looks := false }, kinds := [], alts := [], laidByText := true, laidKinds := [.data], laidTests := true, laidLooks := .later }
def FnExactFindReCardSaid : Prop := Claim7.holds Tryd.pinned (.plain (OpenSpec.ofChange fnExactFindReSpec)) fnExactFindReCard

/-- THE SECOND FORM's CARD OF 'laws.FnQuote'. -/
def fnQuoteUptoCard : Claim7 := { stood := { row := fnQuoteUptoRow, standIns := [], harness := (true, "c92e13cac252cd96c95e99886eac8877d79c5c58210de23efd127195c1380e35"), looks := false }, kinds := [], alts := [], laidByText := true, laidKinds := [.data, .data, .data], laidTests := true, laidLooks := .later }
def FnQuoteUptoCardSaid : Prop := Claim7.holds Tryd.pinned (.plain (OpenSpec.upto fnQuoteSpec)) fnQuoteUptoCard

/-- THE SECOND FORM's CARD OF 'laws.FnRe'. -/
def fnReUptoCard : Claim7 := { stood := { row := fnReUptoRow, standIns := [], harness := (true, "c92e13cac252cd96c95e99886eac8877d79c5c58210de23efd127195c1380e35"), looks := false }, kinds := [], alts := [], laidByText := true, laidKinds := [.data, .data, .data], laidTests := true, laidLooks := .later }
def FnReUptoCardSaid : Prop := Claim7.holds Tryd.pinned (.plain (OpenSpec.upto fnReSpec)) fnReUptoCard

/-- THE SECOND FORM's CARD OF 'laws.FnMatch'. -/
def fnMatchUptoCard : Claim7 := { stood := { row := fnMatchUptoRow, standIns := [], harness := (true, "c92e13cac252cd96c95e99886eac8877d79c5c58210de23efd127195c1380e35"), looks := false }, kinds := [], alts := [], laidByText := true, laidKinds := [.data], laidTests := true, laidLooks := .later }
def FnMatchUptoCardSaid : Prop := Claim7.holds Tryd.pinned (.plain (OpenSpec.upto fnMatchSpec)) fnMatchUptoCard

/-- THE SECOND FORM's CARD OF 'laws.FnExactReText'. -/
def fnExactReTextUptoCard : Claim7 := { stood := { row := fnExactReTextUptoRow, standIns := [], harness := (true, "c92e13cac252cd96c95e99886eac8877d79c5c58210de23efd127195c1380e35"), looks := false }, kinds := [], alts := [], laidByText := true, laidKinds := [.data, .data, .data], laidTests := true, laidLooks := .later }
def FnExactReTextUptoCardSaid : Prop := Claim7.holds Tryd.pinned (.plain (OpenSpec.upto fnExactReTextSpec)) fnExactReTextUptoCard

/-- THE SECOND FORM's CARD OF 'laws.FnExactMatchAt'. -/
def fnExactMatchAtUptoCard : Claim7 := { stood := { row := fnExactMatchAtUptoRow, standIns := [], harness := (true, "c92e13cac252cd96c95e99886eac8877d79c5c58210de23efd127195c1380e35"), looks := false }, kinds := [], alts := [], laidByText := true, laidKinds := [.data], laidTests := true, laidLooks := .later }
def FnExactMatchAtUptoCardSaid : Prop := Claim7.holds Tryd.pinned (.plain (OpenSpec.upto fnExactMatchAtSpec)) fnExactMatchAtUptoCard

/-- THE SECOND FORM's CARD OF 'laws.FnExactFindRe'. -/
def fnExactFindReUptoCard : Claim7 := { stood := { row := fnExactFindReUptoRow, standIns := [], harness := (true, "c92e13cac252cd96c95e99886eac8877d79c5c58210de23efd127195c1380e35"), looks := false }, kinds := [], alts := [], laidByText := true, laidKinds := [.data], laidTests := true, laidLooks := .later }
def FnExactFindReUptoCardSaid : Prop := Claim7.holds Tryd.pinned (.plain (OpenSpec.upto fnExactFindReSpec)) fnExactFindReUptoCard
end Rows
end Go.Proofs.YtiggdpckjmellaaDoor
