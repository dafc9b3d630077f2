/-
  DERIVED. GIVEN WITH THE SEED: THE CARDS: each row of YtdfcjdepfikboaaDoorRows.lean that lists a variable, with what it lists TIED to the program's text (the seventh form; the later family's looks); each row that meets fmt, with fmt's text TOLD by the authors' own Lean function (tested against real Go, not proved from fmt's source: count such statements apart). THE CARD IS WHAT COUNTS. Prove the row's statement (the work); the ties are given (YtdfcjdepfikboaaDoorTie.lean); close each card by the builder's one call (the guide's Derived/Test/ToyasCard.lean, 'card_holds'). Laid BY PROGRAM, IN A SANDBOX (cutbox-door.mjs). By AI agents, Wed Nov 11 2026. No macro, syntax, notation, axiom, sorry.
-/
import Derived.Test.YtdfcjdepfikboaaDoorRows
import GoSem.ClaimSeven
namespace Go.Proofs.YtdfcjdepfikboaaDoor
namespace Rows

/-- THE TIED CARD OF 'laws.FnExactFormatWeighing'. -/
def fnExactFormatWeighingCard : Claim7 := { stood := { row := fnExactFormatWeighingRow, standIns := [], harness := (true, "ea9e4508207b5370c28d98621b21b18878ec287287e1bc04636aef7a26370ad9"), looks := true }, kinds := [], alts := [], laidByText := true, laidKinds := [.data, .data, .data], laidTests := true, laidLooks := .later }
def FnExactFormatWeighingCardSaid : Prop := Claim7.holds Tryd.pinned (.plain (OpenSpec.ofChange fnExactFormatWeighingSpec)) fnExactFormatWeighingCard

/-- THE TIED CARD OF 'laws.FnExactParseWeighing'. -/
def fnExactParseWeighingCard : Claim7 := { stood := { row := fnExactParseWeighingRow, standIns := [], harness := (true, "ea9e4508207b5370c28d98621b21b18878ec287287e1bc04636aef7a26370ad9"), looks := true }, kinds := [], alts := [], laidByText := true, laidKinds := [.data, .data, .data, .sentinel, .sentinel], laidTests := true, laidLooks := .later }
def FnExactParseWeighingCardSaid : Prop := Claim7.holds Tryd.pinned (.plain (OpenSpec.ofChange fnExactParseWeighingSpec)) fnExactParseWeighingCard

/-- THE SECOND FORM's CARD OF 'laws.FnExactFormatWeighing'. -/
def fnExactFormatWeighingUptoCard : Claim7 := { stood := { row := fnExactFormatWeighingUptoRow, standIns := [], harness := (true, "ea9e4508207b5370c28d98621b21b18878ec287287e1bc04636aef7a26370ad9"), looks := true }, kinds := [], alts := [], laidByText := true, laidKinds := [.data, .data, .data], laidTests := true, laidLooks := .later }
def FnExactFormatWeighingUptoCardSaid : Prop := Claim7.holds Tryd.pinned (.plain (OpenSpec.upto fnExactFormatWeighingSpec)) fnExactFormatWeighingUptoCard

/-- THE SECOND FORM's CARD OF 'laws.FnExactParseWeighing'. -/
def fnExactParseWeighingUptoCard : Claim7 := { stood := { row := fnExactParseWeighingUptoRow, standIns := [], harness := (true, "ea9e4508207b5370c28d98621b21b18878ec287287e1bc04636aef7a26370ad9"), looks := true }, kinds := [], alts := [], laidByText := true, laidKinds := [.data, .data, .data, .sentinel, .sentinel], laidTests := true, laidLooks := .later }
def FnExactParseWeighingUptoCardSaid : Prop := Claim7.holds Tryd.pinned (.plain (OpenSpec.upto fnExactParseWeighingSpec)) fnExactParseWeighingUptoCard
end Rows
end Go.Proofs.YtdfcjdepfikboaaDoor
