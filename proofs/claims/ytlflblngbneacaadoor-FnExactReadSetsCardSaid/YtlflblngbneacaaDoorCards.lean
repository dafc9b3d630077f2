/-
  DERIVED. GIVEN WITH THE SEED: THE CARDS: each row of YtlflblngbneacaaDoorRows.lean that lists a variable, with what it lists TIED to the program's text (the seventh form; the later family's looks); each row that meets fmt, with fmt's text TOLD by the authors' own Lean function (tested against real Go, not proved from fmt's source: count such statements apart). THE CARD IS WHAT COUNTS. Prove the row's statement (the work); the ties are given (YtlflblngbneacaaDoorTie.lean); close each card by the builder's one call (the guide's Derived/Test/ToyasCard.lean, 'card_holds'). Laid BY PROGRAM, IN A SANDBOX (cutbox-door.mjs). By AI agents, Wed Nov 11 2026. No macro, syntax, notation, axiom, sorry.
-/
import Derived.Test.YtlflblngbneacaaDoorRows
import GoSem.ClaimSeven
namespace Go.Proofs.YtlflblngbneacaaDoor
namespace Rows

/-- THE TIED CARD OF 'laws.FnExactFormatCases'. -/
def fnExactFormatCasesCard : Claim7 := { stood := { row := fnExactFormatCasesRow, standIns := [], harness := (true, "b0755ce5995fbfe247f4ec5309b321ce1f844371dd771ee99eb84d85f01d7a24"), looks := true }, kinds := [], alts := [], laidByText := true, laidKinds := [.data, .data, .data, .handle, .sentinel], laidTests := true, laidLooks := .later }
def FnExactFormatCasesCardSaid : Prop := Claim7.holds Tryd.pinned (.plain (OpenSpec.ofChange fnExactFormatCasesSpec)) fnExactFormatCasesCard

/-- THE TIED CARD OF 'laws.FnExactFormatSigns'. -/
def fnExactFormatSignsCard : Claim7 := { stood := { row := fnExactFormatSignsRow, standIns := [], harness := (true, "b0755ce5995fbfe247f4ec5309b321ce1f844371dd771ee99eb84d85f01d7a24"), looks := true }, kinds := [], alts := [], laidByText := true, laidKinds := [.handle, .sentinel], laidTests := true, laidLooks := .later }
def FnExactFormatSignsCardSaid : Prop := Claim7.holds Tryd.pinned (.plain (OpenSpec.ofChange fnExactFormatSignsSpec)) fnExactFormatSignsCard

/-- THE TIED CARD OF 'laws.FnExactReadSigns'. -/
def fnExactReadSignsCard : Claim7 := { stood := { row := fnExactReadSignsRow, standIns := [], harness := (true, "b0755ce5995fbfe247f4ec5309b321ce1f844371dd771ee99eb84d85f01d7a24"), looks := true }, kinds := [], alts := [], laidByText := true, laidKinds := [.data, .sentinel, .sentinel, .pinned], laidTests := true, laidLooks := .later }
def FnExactReadSignsCardSaid : Prop := Claim7.holds Tryd.pinned (.plain (OpenSpec.ofChange fnExactReadSignsSpec)) fnExactReadSignsCard

/-- THE TIED CARD OF 'laws.FnExactFormatResults'. -/
def fnExactFormatResultsCard : Claim7 := { stood := { row := fnExactFormatResultsRow, standIns := [], harness := (true, "b0755ce5995fbfe247f4ec5309b321ce1f844371dd771ee99eb84d85f01d7a24"), looks := true }, kinds := [], alts := [], laidByText := true, laidKinds := [.handle, .sentinel], laidTests := true, laidLooks := .later }
def FnExactFormatResultsCardSaid : Prop := Claim7.holds Tryd.pinned (.plain (OpenSpec.ofChange fnExactFormatResultsSpec)) fnExactFormatResultsCard

/-- THE TIED CARD OF 'laws.FnExactReadResults'. -/
def fnExactReadResultsCard : Claim7 := { stood := { row := fnExactReadResultsRow, standIns := [], harness := (true, "b0755ce5995fbfe247f4ec5309b321ce1f844371dd771ee99eb84d85f01d7a24"), looks := true }, kinds := [], alts := [], laidByText := true, laidKinds := [.data, .sentinel, .sentinel, .pinned], laidTests := true, laidLooks := .later }
def FnExactReadResultsCardSaid : Prop := Claim7.holds Tryd.pinned (.plain (OpenSpec.ofChange fnExactReadResultsSpec)) fnExactReadResultsCard

/-- THE TIED CARD OF 'laws.FnExactFormatState'. -/
def fnExactFormatStateCard : Claim7 := { stood := { row := fnExactFormatStateRow, standIns := [], harness := (true, "b0755ce5995fbfe247f4ec5309b321ce1f844371dd771ee99eb84d85f01d7a24"), looks := true }, kinds := [], alts := [], laidByText := true, laidKinds := [.data, .data, .data], laidTests := true, laidLooks := .later }
def FnExactFormatStateCardSaid : Prop := Claim7.holds Tryd.pinned (.plain (OpenSpec.ofChange fnExactFormatStateSpec)) fnExactFormatStateCard

/-- THE TIED CARD OF 'laws.FnExactFormatPick'. -/
def fnExactFormatPickCard : Claim7 := { stood := { row := fnExactFormatPickRow, standIns := [], harness := (true, "b0755ce5995fbfe247f4ec5309b321ce1f844371dd771ee99eb84d85f01d7a24"), looks := true }, kinds := [], alts := [], laidByText := true, laidKinds := [.data, .data, .data], laidTests := true, laidLooks := .later }
def FnExactFormatPickCardSaid : Prop := Claim7.holds Tryd.pinned (.plain (OpenSpec.ofChange fnExactFormatPickSpec)) fnExactFormatPickCard

/-- THE TIED CARD OF 'laws.FnExactFormatSets'. -/
def fnExactFormatSetsCard : Claim7 := { stood := { row := fnExactFormatSetsRow, standIns := [], harness := (true, "b0755ce5995fbfe247f4ec5309b321ce1f844371dd771ee99eb84d85f01d7a24"), looks := true }, kinds := [], alts := [], laidByText := true, laidKinds := [.data, .data, .data, .handle, .sentinel], laidTests := true, laidLooks := .later }
def FnExactFormatSetsCardSaid : Prop := Claim7.holds Tryd.pinned (.plain (OpenSpec.ofChange fnExactFormatSetsSpec)) fnExactFormatSetsCard

/-- THE TIED CARD OF 'laws.FnExactReadSets'. -/
def fnExactReadSetsCard : Claim7 := { stood := { row := fnExactReadSetsRow, standIns := [], harness := (true, "b0755ce5995fbfe247f4ec5309b321ce1f844371dd771ee99eb84d85f01d7a24"), looks := true }, kinds := [], alts := [], laidByText := true, laidKinds := [.data, .data, .data, .sentinel, .sentinel], laidTests := true, laidLooks := .later }
def FnExactReadSetsCardSaid : Prop := Claim7.holds Tryd.pinned (.plain (OpenSpec.ofChange fnExactReadSetsSpec)) fnExactReadSetsCard

/-- THE SECOND FORM's CARD OF 'laws.FnExactFormatCases'. -/
def fnExactFormatCasesUptoCard : Claim7 := { stood := { row := fnExactFormatCasesUptoRow, standIns := [], harness := (true, "b0755ce5995fbfe247f4ec5309b321ce1f844371dd771ee99eb84d85f01d7a24"), looks := true }, kinds := [], alts := [], laidByText := true, laidKinds := [.data, .data, .data, .handle, .sentinel], laidTests := true, laidLooks := .later }
def FnExactFormatCasesUptoCardSaid : Prop := Claim7.holds Tryd.pinned (.plain (OpenSpec.upto fnExactFormatCasesSpec)) fnExactFormatCasesUptoCard

/-- THE SECOND FORM's CARD OF 'laws.FnExactFormatSigns'. -/
def fnExactFormatSignsUptoCard : Claim7 := { stood := { row := fnExactFormatSignsUptoRow, standIns := [], harness := (true, "b0755ce5995fbfe247f4ec5309b321ce1f844371dd771ee99eb84d85f01d7a24"), looks := true }, kinds := [], alts := [], laidByText := true, laidKinds := [.handle, .sentinel], laidTests := true, laidLooks := .later }
def FnExactFormatSignsUptoCardSaid : Prop := Claim7.holds Tryd.pinned (.plain (OpenSpec.upto fnExactFormatSignsSpec)) fnExactFormatSignsUptoCard

/-- THE SECOND FORM's CARD OF 'laws.FnExactReadSigns'. -/
def fnExactReadSignsUptoCard : Claim7 := { stood := { row := fnExactReadSignsUptoRow, standIns := [], harness := (true, "b0755ce5995fbfe247f4ec5309b321ce1f844371dd771ee99eb84d85f01d7a24"), looks := true }, kinds := [], alts := [], laidByText := true, laidKinds := [.data, .sentinel, .sentinel, .pinned], laidTests := true, laidLooks := .later }
def FnExactReadSignsUptoCardSaid : Prop := Claim7.holds Tryd.pinned (.plain (OpenSpec.upto fnExactReadSignsSpec)) fnExactReadSignsUptoCard

/-- THE SECOND FORM's CARD OF 'laws.FnExactFormatResults'. -/
def fnExactFormatResultsUptoCard : Claim7 := { stood := { row := fnExactFormatResultsUptoRow, standIns := [], harness := (true, "b0755ce5995fbfe247f4ec5309b321ce1f844371dd771ee99eb84d85f01d7a24"), looks := true }, kinds := [], alts := [], laidByText := true, laidKinds := [.handle, .sentinel], laidTests := true, laidLooks := .later }
def FnExactFormatResultsUptoCardSaid : Prop := Claim7.holds Tryd.pinned (.plain (OpenSpec.upto fnExactFormatResultsSpec)) fnExactFormatResultsUptoCard

/-- THE SECOND FORM's CARD OF 'laws.FnExactReadResults'. -/
def fnExactReadResultsUptoCard : Claim7 := { stood := { row := fnExactReadResultsUptoRow, standIns := [], harness := (true, "b0755ce5995fbfe247f4ec5309b321ce1f844371dd771ee99eb84d85f01d7a24"), looks := true }, kinds := [], alts := [], laidByText := true, laidKinds := [.data, .sentinel, .sentinel, .pinned], laidTests := true, laidLooks := .later }
def FnExactReadResultsUptoCardSaid : Prop := Claim7.holds Tryd.pinned (.plain (OpenSpec.upto fnExactReadResultsSpec)) fnExactReadResultsUptoCard

/-- THE SECOND FORM's CARD OF 'laws.FnExactFormatState'. -/
def fnExactFormatStateUptoCard : Claim7 := { stood := { row := fnExactFormatStateUptoRow, standIns := [], harness := (true, "b0755ce5995fbfe247f4ec5309b321ce1f844371dd771ee99eb84d85f01d7a24"), looks := true }, kinds := [], alts := [], laidByText := true, laidKinds := [.data, .data, .data], laidTests := true, laidLooks := .later }
def FnExactFormatStateUptoCardSaid : Prop := Claim7.holds Tryd.pinned (.plain (OpenSpec.upto fnExactFormatStateSpec)) fnExactFormatStateUptoCard

/-- THE SECOND FORM's CARD OF 'laws.FnExactFormatPick'. -/
def fnExactFormatPickUptoCard : Claim7 := { stood := { row := fnExactFormatPickUptoRow, standIns := [], harness := (true, "b0755ce5995fbfe247f4ec5309b321ce1f844371dd771ee99eb84d85f01d7a24"), looks := true }, kinds := [], alts := [], laidByText := true, laidKinds := [.data, .data, .data], laidTests := true, laidLooks := .later }
def FnExactFormatPickUptoCardSaid : Prop := Claim7.holds Tryd.pinned (.plain (OpenSpec.upto fnExactFormatPickSpec)) fnExactFormatPickUptoCard

/-- THE SECOND FORM's CARD OF 'laws.FnExactFormatSets'. -/
def fnExactFormatSetsUptoCard : Claim7 := { stood := { row := fnExactFormatSetsUptoRow, standIns := [], harness := (true, "b0755ce5995fbfe247f4ec5309b321ce1f844371dd771ee99eb84d85f01d7a24"), looks := true }, kinds := [], alts := [], laidByText := true, laidKinds := [.data, .data, .data, .handle, .sentinel], laidTests := true, laidLooks := .later }
def FnExactFormatSetsUptoCardSaid : Prop := Claim7.holds Tryd.pinned (.plain (OpenSpec.upto fnExactFormatSetsSpec)) fnExactFormatSetsUptoCard

/-- THE SECOND FORM's CARD OF 'laws.FnExactReadSets'. -/
def fnExactReadSetsUptoCard : Claim7 := { stood := { row := fnExactReadSetsUptoRow, standIns := [], harness := (true, "b0755ce5995fbfe247f4ec5309b321ce1f844371dd771ee99eb84d85f01d7a24"), looks := true }, kinds := [], alts := [], laidByText := true, laidKinds := [.data, .data, .data, .sentinel, .sentinel], laidTests := true, laidLooks := .later }
def FnExactReadSetsUptoCardSaid : Prop := Claim7.holds Tryd.pinned (.plain (OpenSpec.upto fnExactReadSetsSpec)) fnExactReadSetsUptoCard
end Rows
end Go.Proofs.YtlflblngbneacaaDoor
