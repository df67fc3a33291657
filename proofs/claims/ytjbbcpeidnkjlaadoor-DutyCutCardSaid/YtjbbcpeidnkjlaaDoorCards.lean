/-
  DERIVED. GIVEN WITH THE SEED: THE CARDS: each row of YtjbbcpeidnkjlaaDoorRows.lean that lists a variable, with what it lists TIED to the program's text (the seventh form; the later family's looks); each row that meets fmt, with fmt's text TOLD by the authors' own Lean function (tested against real Go, not proved from fmt's source: count such statements apart). THE CARD IS WHAT COUNTS. Prove the row's statement (the work); the ties are given (YtjbbcpeidnkjlaaDoorTie.lean); close each card by the builder's one call (the guide's Derived/Test/ToyasCard.lean, 'card_holds'). Laid BY PROGRAM, IN A SANDBOX (cutbox-door.mjs). By AI agents, Wed Nov 11 2026. No macro, syntax, notation, axiom, sorry.
-/
import Derived.Test.YtjbbcpeidnkjlaaDoorRows
import GoSem.ClaimSeven
namespace Go.Proofs.YtjbbcpeidnkjlaaDoor
namespace Rows

/-- THE TIED CARD OF 'layoverlaw02.DutyLegal'. -/
def dutyLegalCard : Claim7 := { stood := { row := dutyLegalRow, standIns := [], harness := (true, "98a9b5e9fa3dc868e618900a1d3ab4ae1ab924ace13a72def373295dca1a489c"), looks := false }, kinds := [], alts := [], laidByText := true, laidKinds := [.data, .data], laidTests := true, laidLooks := .later }
def DutyLegalCardSaid : Prop := Claim7.holds Tryd.pinned (.plain (OpenSpec.ofChange dutyLegalSpec)) dutyLegalCard

/-- THE TIED CARD OF 'layoverlaw02.DutyDoes'. -/
def dutyDoesCard : Claim7 := { stood := { row := dutyDoesRow, standIns := [], harness := (true, "98a9b5e9fa3dc868e618900a1d3ab4ae1ab924ace13a72def373295dca1a489c"), looks := false }, kinds := [], alts := [], laidByText := true, laidKinds := [.data, .data], laidTests := true, laidLooks := .later }
def DutyDoesCardSaid : Prop := Claim7.holds Tryd.pinned (.plain (OpenSpec.ofChange dutyDoesSpec)) dutyDoesCard

/-- THE TIED CARD OF 'layoverlaw02.DutyBars'. -/
def dutyBarsCard : Claim7 := { stood := { row := dutyBarsRow, standIns := [], harness := (true, "98a9b5e9fa3dc868e618900a1d3ab4ae1ab924ace13a72def373295dca1a489c"), looks := false }, kinds := [], alts := [], laidByText := true, laidKinds := [.data, .data], laidTests := true, laidLooks := .later }
def DutyBarsCardSaid : Prop := Claim7.holds Tryd.pinned (.plain (OpenSpec.ofChange dutyBarsSpec)) dutyBarsCard

/-- THE TIED CARD OF 'layoverlaw02.DutyBounds'. -/
def dutyBoundsCard : Claim7 := { stood := { row := dutyBoundsRow, standIns := [], harness := (true, "98a9b5e9fa3dc868e618900a1d3ab4ae1ab924ace13a72def373295dca1a489c"), looks := false }, kinds := [], alts := [], laidByText := true, laidKinds := [.data, .data], laidTests := true, laidLooks := .later }
def DutyBoundsCardSaid : Prop := Claim7.holds Tryd.pinned (.plain (OpenSpec.ofChange dutyBoundsSpec)) dutyBoundsCard

/-- THE TIED CARD OF 'layoverlaw02.DutyNames'. -/
def dutyNamesCard : Claim7 := { stood := { row := dutyNamesRow, standIns := [], harness := (true, "98a9b5e9fa3dc868e618900a1d3ab4ae1ab924ace13a72def373295dca1a489c"), looks := false }, kinds := [], alts := [], laidByText := true, laidKinds := [.data, .data], laidTests := true, laidLooks := .later }
def DutyNamesCardSaid : Prop := Claim7.holds Tryd.pinned (.plain (OpenSpec.ofChange dutyNamesSpec)) dutyNamesCard

/-- THE TIED CARD OF 'layoverlaw02.DutyTruth'. -/
def dutyTruthCard : Claim7 := { stood := { row := dutyTruthRow, standIns := [], harness := (true, "98a9b5e9fa3dc868e618900a1d3ab4ae1ab924ace13a72def373295dca1a489c"), looks := false }, kinds := [], alts := [], laidByText := true, laidKinds := [.data, .data], laidTests := true, laidLooks := .later }
def DutyTruthCardSaid : Prop := Claim7.holds Tryd.pinned (.plain (OpenSpec.ofChange dutyTruthSpec)) dutyTruthCard

/-- THE TIED CARD OF 'layoverlaw02.DutyFewest'. -/
def dutyFewestCard : Claim7 := { stood := { row := dutyFewestRow, standIns := [], harness := (true, "98a9b5e9fa3dc868e618900a1d3ab4ae1ab924ace13a72def373295dca1a489c"), looks := false }, kinds := [], alts := [], laidByText := true, laidKinds := [.data, .data], laidTests := true, laidLooks := .later }
def DutyFewestCardSaid : Prop := Claim7.holds Tryd.pinned (.plain (OpenSpec.ofChange dutyFewestSpec)) dutyFewestCard

/-- THE TIED CARD OF 'layoverlaw02.DutyProved'. -/
def dutyProvedCard : Claim7 := { stood := { row := dutyProvedRow, standIns := [], harness := (true, "98a9b5e9fa3dc868e618900a1d3ab4ae1ab924ace13a72def373295dca1a489c"), looks := false }, kinds := [], alts := [], laidByText := true, laidKinds := [.data, .data], laidTests := true, laidLooks := .later }
def DutyProvedCardSaid : Prop := Claim7.holds Tryd.pinned (.plain (OpenSpec.ofChange dutyProvedSpec)) dutyProvedCard

/-- THE TIED CARD OF 'layoverlaw02.DutyBarred'. -/
def dutyBarredCard : Claim7 := { stood := { row := dutyBarredRow, standIns := [], harness := (true, "98a9b5e9fa3dc868e618900a1d3ab4ae1ab924ace13a72def373295dca1a489c"), looks := false }, kinds := [], alts := [], laidByText := true, laidKinds := [.data, .data], laidTests := true, laidLooks := .later }
def DutyBarredCardSaid : Prop := Claim7.holds Tryd.pinned (.plain (OpenSpec.ofChange dutyBarredSpec)) dutyBarredCard

/-- THE TIED CARD OF 'layoverlaw02.DutyEasier'. -/
def dutyEasierCard : Claim7 := { stood := { row := dutyEasierRow, standIns := [], harness := (true, "98a9b5e9fa3dc868e618900a1d3ab4ae1ab924ace13a72def373295dca1a489c"), looks := false }, kinds := [], alts := [], laidByText := true, laidKinds := [.data, .data], laidTests := true, laidLooks := .later }
def DutyEasierCardSaid : Prop := Claim7.holds Tryd.pinned (.plain (OpenSpec.ofChange dutyEasierSpec)) dutyEasierCard

/-- THE TIED CARD OF 'layoverlaw02.DutyCut'. -/
def dutyCutCard : Claim7 := { stood := { row := dutyCutRow, standIns := [], harness := (true, "98a9b5e9fa3dc868e618900a1d3ab4ae1ab924ace13a72def373295dca1a489c"), looks := false }, kinds := [], alts := [], laidByText := true, laidKinds := [.data, .data], laidTests := true, laidLooks := .later }
def DutyCutCardSaid : Prop := Claim7.holds Tryd.pinned (.plain (OpenSpec.ofChange dutyCutSpec)) dutyCutCard

/-- THE TIED CARD OF 'layoverlaw02.DutyLater'. -/
def dutyLaterCard : Claim7 := { stood := { row := dutyLaterRow, standIns := [], harness := (true, "98a9b5e9fa3dc868e618900a1d3ab4ae1ab924ace13a72def373295dca1a489c"), looks := false }, kinds := [], alts := [], laidByText := true, laidKinds := [.data, .data], laidTests := true, laidLooks := .later }
def DutyLaterCardSaid : Prop := Claim7.holds Tryd.pinned (.plain (OpenSpec.ofChange dutyLaterSpec)) dutyLaterCard

/-- THE SECOND FORM's CARD OF 'layoverlaw02.DutyLegal'. -/
def dutyLegalUptoCard : Claim7 := { stood := { row := dutyLegalUptoRow, standIns := [], harness := (true, "98a9b5e9fa3dc868e618900a1d3ab4ae1ab924ace13a72def373295dca1a489c"), looks := false }, kinds := [], alts := [], laidByText := true, laidKinds := [.data, .data], laidTests := true, laidLooks := .later }
def DutyLegalUptoCardSaid : Prop := Claim7.holds Tryd.pinned (.plain (OpenSpec.upto dutyLegalSpec)) dutyLegalUptoCard

/-- THE SECOND FORM's CARD OF 'layoverlaw02.DutyDoes'. -/
def dutyDoesUptoCard : Claim7 := { stood := { row := dutyDoesUptoRow, standIns := [], harness := (true, "98a9b5e9fa3dc868e618900a1d3ab4ae1ab924ace13a72def373295dca1a489c"), looks := false }, kinds := [], alts := [], laidByText := true, laidKinds := [.data, .data], laidTests := true, laidLooks := .later }
def DutyDoesUptoCardSaid : Prop := Claim7.holds Tryd.pinned (.plain (OpenSpec.upto dutyDoesSpec)) dutyDoesUptoCard

/-- THE SECOND FORM's CARD OF 'layoverlaw02.DutyBars'. -/
def dutyBarsUptoCard : Claim7 := { stood := { row := dutyBarsUptoRow, standIns := [], harness := (true, "98a9b5e9fa3dc868e618900a1d3ab4ae1ab924ace13a72def373295dca1a489c"), looks := false }, kinds := [], alts := [], laidByText := true, laidKinds := [.data, .data], laidTests := true, laidLooks := .later }
def DutyBarsUptoCardSaid : Prop := Claim7.holds Tryd.pinned (.plain (OpenSpec.upto dutyBarsSpec)) dutyBarsUptoCard

/-- THE SECOND FORM's CARD OF 'layoverlaw02.DutyBounds'. -/
def dutyBoundsUptoCard : Claim7 := { stood := { row := dutyBoundsUptoRow, standIns := [], harness := (true, "98a9b5e9fa3dc868e618900a1d3ab4ae1ab924ace13a72def373295dca1a489c"), looks := false }, kinds := [], alts := [], laidByText := true, laidKinds := [.data, .data], laidTests := true, laidLooks := .later }
def DutyBoundsUptoCardSaid : Prop := Claim7.holds Tryd.pinned (.plain (OpenSpec.upto dutyBoundsSpec)) dutyBoundsUptoCard

/-- THE SECOND FORM's CARD OF 'layoverlaw02.DutyNames'. -/
def dutyNamesUptoCard : Claim7 := { stood := { row := dutyNamesUptoRow, standIns := [], harness := (true, "98a9b5e9fa3dc868e618900a1d3ab4ae1ab924ace13a72def373295dca1a489c"), looks := false }, kinds := [], alts := [], laidByText := true, laidKinds := [.data, .data], laidTests := true, laidLooks := .later }
def DutyNamesUptoCardSaid : Prop := Claim7.holds Tryd.pinned (.plain (OpenSpec.upto dutyNamesSpec)) dutyNamesUptoCard

/-- THE SECOND FORM's CARD OF 'layoverlaw02.DutyTruth'. -/
def dutyTruthUptoCard : Claim7 := { stood := { row := dutyTruthUptoRow, standIns := [], harness := (true, "98a9b5e9fa3dc868e618900a1d3ab4ae1ab924ace13a72def373295dca1a489c"), looks := false }, kinds := [], alts := [], laidByText := true, laidKinds := [.data, .data], laidTests := true, laidLooks := .later }
def DutyTruthUptoCardSaid : Prop := Claim7.holds Tryd.pinned (.plain (OpenSpec.upto dutyTruthSpec)) dutyTruthUptoCard

/-- THE SECOND FORM's CARD OF 'layoverlaw02.DutyFewest'. -/
def dutyFewestUptoCard : Claim7 := { stood := { row := dutyFewestUptoRow, standIns := [], harness := (true, "98a9b5e9fa3dc868e618900a1d3ab4ae1ab924ace13a72def373295dca1a489c"), looks := false }, kinds := [], alts := [], laidByText := true, laidKinds := [.data, .data], laidTests := true, laidLooks := .later }
def DutyFewestUptoCardSaid : Prop := Claim7.holds Tryd.pinned (.plain (OpenSpec.upto dutyFewestSpec)) dutyFewestUptoCard

/-- THE SECOND FORM's CARD OF 'layoverlaw02.DutyProved'. -/
def dutyProvedUptoCard : Claim7 := { stood := { row := dutyProvedUptoRow, standIns := [], harness := (true, "98a9b5e9fa3dc868e618900a1d3ab4ae1ab924ace13a72def373295dca1a489c"), looks := false }, kinds := [], alts := [], laidByText := true, laidKinds := [.data, .data], laidTests := true, laidLooks := .later }
def DutyProvedUptoCardSaid : Prop := Claim7.holds Tryd.pinned (.plain (OpenSpec.upto dutyProvedSpec)) dutyProvedUptoCard

/-- THE SECOND FORM's CARD OF 'layoverlaw02.DutyBarred'. -/
def dutyBarredUptoCard : Claim7 := { stood := { row := dutyBarredUptoRow, standIns := [], harness := (true, "98a9b5e9fa3dc868e618900a1d3ab4ae1ab924ace13a72def373295dca1a489c"), looks := false }, kinds := [], alts := [], laidByText := true, laidKinds := [.data, .data], laidTests := true, laidLooks := .later }
def DutyBarredUptoCardSaid : Prop := Claim7.holds Tryd.pinned (.plain (OpenSpec.upto dutyBarredSpec)) dutyBarredUptoCard

/-- THE SECOND FORM's CARD OF 'layoverlaw02.DutyEasier'. -/
def dutyEasierUptoCard : Claim7 := { stood := { row := dutyEasierUptoRow, standIns := [], harness := (true, "98a9b5e9fa3dc868e618900a1d3ab4ae1ab924ace13a72def373295dca1a489c"), looks := false }, kinds := [], alts := [], laidByText := true, laidKinds := [.data, .data], laidTests := true, laidLooks := .later }
def DutyEasierUptoCardSaid : Prop := Claim7.holds Tryd.pinned (.plain (OpenSpec.upto dutyEasierSpec)) dutyEasierUptoCard

/-- THE SECOND FORM's CARD OF 'layoverlaw02.DutyCut'. -/
def dutyCutUptoCard : Claim7 := { stood := { row := dutyCutUptoRow, standIns := [], harness := (true, "98a9b5e9fa3dc868e618900a1d3ab4ae1ab924ace13a72def373295dca1a489c"), looks := false }, kinds := [], alts := [], laidByText := true, laidKinds := [.data, .data], laidTests := true, laidLooks := .later }
def DutyCutUptoCardSaid : Prop := Claim7.holds Tryd.pinned (.plain (OpenSpec.upto dutyCutSpec)) dutyCutUptoCard

/-- THE SECOND FORM's CARD OF 'layoverlaw02.DutyLater'. -/
def dutyLaterUptoCard : Claim7 := { stood := { row := dutyLaterUptoRow, standIns := [], harness := (true, "98a9b5e9fa3dc868e618900a1d3ab4ae1ab924ace13a72def373295dca1a489c"), looks := false }, kinds := [], alts := [], laidByText := true, laidKinds := [.data, .data], laidTests := true, laidLooks := .later }
def DutyLaterUptoCardSaid : Prop := Claim7.holds Tryd.pinned (.plain (OpenSpec.upto dutyLaterSpec)) dutyLaterUptoCard
end Rows
end Go.Proofs.YtjbbcpeidnkjlaaDoor
