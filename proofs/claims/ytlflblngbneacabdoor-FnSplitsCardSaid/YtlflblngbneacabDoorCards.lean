/-
  DERIVED. GIVEN WITH THE SEED: THE CARDS: each row of YtlflblngbneacabDoorRows.lean that lists a variable, with what it lists TIED to the program's text (the seventh form; the later family's looks); each row that meets fmt, with fmt's text TOLD by the authors' own Lean function (tested against real Go, not proved from fmt's source: count such statements apart). THE CARD IS WHAT COUNTS. Prove the row's statement (the work); the ties are given (YtlflblngbneacabDoorTie.lean); close each card by the builder's one call (the guide's Derived/Test/ToyasCard.lean, 'card_holds'). Laid BY PROGRAM, IN A SANDBOX (cutbox-door.mjs). By AI agents, Wed Nov 11 2026. No macro, syntax, notation, axiom, sorry.
-/
import Derived.Test.YtlflblngbneacabDoorRows
import GoSem.ClaimSeven
namespace Go.Proofs.YtlflblngbneacabDoor
namespace Rows

/-- THE TIED CARD OF 'laws.FnExactRoundsLine'. -/
def fnExactRoundsLineCard : Claim7 := { stood := { row := fnExactRoundsLineRow, standIns := [], harness := (true, "a4bb8c96989863f31809d5a38115c218a53c99cd9f16ab59ca605c7573531836"), looks := true }, kinds := [], alts := [], goes := true, laidByText := true, laidKinds := [.data, .data, .data, .handle, .sentinel], laidTests := true, laidLooks := .later }
def FnExactRoundsLineCardSaid : Prop := Claim7.holds Tryd.pinned (.plain (OpenSpec.ofChange fnExactRoundsLineSpec)) fnExactRoundsLineCard

/-- THE TIED CARD OF 'laws.FnCases'. -/
def fnCasesCard : Claim7 := { stood := { row := fnCasesRow, standIns := [], harness := (true, "a4bb8c96989863f31809d5a38115c218a53c99cd9f16ab59ca605c7573531836"), looks := true }, kinds := [], alts := [], goes := true, laidByText := true, laidKinds := [.data, .data, .data, .handle, .sentinel], laidTests := true, laidLooks := .later }
def FnCasesCardSaid : Prop := Claim7.holds Tryd.pinned (.plain (OpenSpec.ofChange fnCasesSpec)) fnCasesCard

/-- THE TIED CARD OF 'laws.FnSplits'. -/
def fnSplitsCard : Claim7 := { stood := { row := fnSplitsRow, standIns := [], harness := (true, "a4bb8c96989863f31809d5a38115c218a53c99cd9f16ab59ca605c7573531836"), looks := true }, kinds := [], alts := [], goes := true, laidByText := true, laidKinds := [.data, .data, .data, .handle, .sentinel, .sentinel], laidTests := true, laidLooks := .later }
def FnSplitsCardSaid : Prop := Claim7.holds Tryd.pinned (.plain (OpenSpec.ofChange fnSplitsSpec)) fnSplitsCard

/-- THE TIED CARD OF 'laws.FnStates'. -/
def fnStatesCard : Claim7 := { stood := { row := fnStatesRow, standIns := [], harness := (true, "a4bb8c96989863f31809d5a38115c218a53c99cd9f16ab59ca605c7573531836"), looks := true }, kinds := [], alts := [], laidByText := true, laidKinds := [.data, .data, .data], laidTests := true, laidLooks := .later }
def FnStatesCardSaid : Prop := Claim7.holds Tryd.pinned (.plain (OpenSpec.ofChange fnStatesSpec)) fnStatesCard

/-- THE TIED CARD OF 'laws.FnTop'. -/
def fnTopCard : Claim7 := { stood := { row := fnTopRow, standIns := [], harness := (true, "a4bb8c96989863f31809d5a38115c218a53c99cd9f16ab59ca605c7573531836"), looks := true }, kinds := [], alts := [], goes := true, laidByText := true, laidKinds := [.data, .data, .data, .handle, .sentinel], laidTests := true, laidLooks := .later }
def FnTopCardSaid : Prop := Claim7.holds Tryd.pinned (.plain (OpenSpec.ofChange fnTopSpec)) fnTopCard

/-- THE TIED CARD OF 'laws.FnPools'. -/
def fnPoolsCard : Claim7 := { stood := { row := fnPoolsRow, standIns := [], harness := (true, "a4bb8c96989863f31809d5a38115c218a53c99cd9f16ab59ca605c7573531836"), looks := true }, kinds := [], alts := [], goes := true, laidByText := true, laidKinds := [.handle, .sentinel], laidTests := true, laidLooks := .later }
def FnPoolsCardSaid : Prop := Claim7.holds Tryd.pinned (.plain (OpenSpec.ofChange fnPoolsSpec)) fnPoolsCard

/-- THE TIED CARD OF 'laws.FnDisjunct'. -/
def fnDisjunctCard : Claim7 := { stood := { row := fnDisjunctRow, standIns := [], harness := (true, "a4bb8c96989863f31809d5a38115c218a53c99cd9f16ab59ca605c7573531836"), looks := true }, kinds := [], alts := [], goes := true, laidByText := true, laidKinds := [.handle, .sentinel], laidTests := true, laidLooks := .later }
def FnDisjunctCardSaid : Prop := Claim7.holds Tryd.pinned (.plain (OpenSpec.ofChange fnDisjunctSpec)) fnDisjunctCard

/-- THE TIED CARD OF 'laws.FnExactFormatWeighing'. -/
def fnExactFormatWeighingCard : Claim7 := { stood := { row := fnExactFormatWeighingRow, standIns := [], harness := (true, "a4bb8c96989863f31809d5a38115c218a53c99cd9f16ab59ca605c7573531836"), looks := true }, kinds := [], alts := [], goes := true, laidByText := true, laidKinds := [.data, .data, .data], laidTests := true, laidLooks := .later }
def FnExactFormatWeighingCardSaid : Prop := Claim7.holds Tryd.pinned (.plain (OpenSpec.ofChange fnExactFormatWeighingSpec)) fnExactFormatWeighingCard

/-- THE SECOND FORM's CARD OF 'laws.FnExactRoundsLine'. -/
def fnExactRoundsLineUptoCard : Claim7 := { stood := { row := fnExactRoundsLineUptoRow, standIns := [], harness := (true, "a4bb8c96989863f31809d5a38115c218a53c99cd9f16ab59ca605c7573531836"), looks := true }, kinds := [], alts := [], goes := true, laidByText := true, laidKinds := [.data, .data, .data, .handle, .sentinel], laidTests := true, laidLooks := .later }
def FnExactRoundsLineUptoCardSaid : Prop := Claim7.holds Tryd.pinned (.plain (OpenSpec.upto fnExactRoundsLineSpec)) fnExactRoundsLineUptoCard

/-- THE SECOND FORM's CARD OF 'laws.FnCases'. -/
def fnCasesUptoCard : Claim7 := { stood := { row := fnCasesUptoRow, standIns := [], harness := (true, "a4bb8c96989863f31809d5a38115c218a53c99cd9f16ab59ca605c7573531836"), looks := true }, kinds := [], alts := [], goes := true, laidByText := true, laidKinds := [.data, .data, .data, .handle, .sentinel], laidTests := true, laidLooks := .later }
def FnCasesUptoCardSaid : Prop := Claim7.holds Tryd.pinned (.plain (OpenSpec.upto fnCasesSpec)) fnCasesUptoCard

/-- THE SECOND FORM's CARD OF 'laws.FnSplits'. -/
def fnSplitsUptoCard : Claim7 := { stood := { row := fnSplitsUptoRow, standIns := [], harness := (true, "a4bb8c96989863f31809d5a38115c218a53c99cd9f16ab59ca605c7573531836"), looks := true }, kinds := [], alts := [], goes := true, laidByText := true, laidKinds := [.data, .data, .data, .handle, .sentinel, .sentinel], laidTests := true, laidLooks := .later }
def FnSplitsUptoCardSaid : Prop := Claim7.holds Tryd.pinned (.plain (OpenSpec.upto fnSplitsSpec)) fnSplitsUptoCard

/-- THE SECOND FORM's CARD OF 'laws.FnStates'. -/
def fnStatesUptoCard : Claim7 := { stood := { row := fnStatesUptoRow, standIns := [], harness := (true, "a4bb8c96989863f31809d5a38115c218a53c99cd9f16ab59ca605c7573531836"), looks := true }, kinds := [], alts := [], laidByText := true, laidKinds := [.data, .data, .data], laidTests := true, laidLooks := .later }
def FnStatesUptoCardSaid : Prop := Claim7.holds Tryd.pinned (.plain (OpenSpec.upto fnStatesSpec)) fnStatesUptoCard

/-- THE SECOND FORM's CARD OF 'laws.FnTop'. -/
def fnTopUptoCard : Claim7 := { stood := { row := fnTopUptoRow, standIns := [], harness := (true, "a4bb8c96989863f31809d5a38115c218a53c99cd9f16ab59ca605c7573531836"), looks := true }, kinds := [], alts := [], goes := true, laidByText := true, laidKinds := [.data, .data, .data, .handle, .sentinel], laidTests := true, laidLooks := .later }
def FnTopUptoCardSaid : Prop := Claim7.holds Tryd.pinned (.plain (OpenSpec.upto fnTopSpec)) fnTopUptoCard

/-- THE SECOND FORM's CARD OF 'laws.FnPools'. -/
def fnPoolsUptoCard : Claim7 := { stood := { row := fnPoolsUptoRow, standIns := [], harness := (true, "a4bb8c96989863f31809d5a38115c218a53c99cd9f16ab59ca605c7573531836"), looks := true }, kinds := [], alts := [], goes := true, laidByText := true, laidKinds := [.handle, .sentinel], laidTests := true, laidLooks := .later }
def FnPoolsUptoCardSaid : Prop := Claim7.holds Tryd.pinned (.plain (OpenSpec.upto fnPoolsSpec)) fnPoolsUptoCard

/-- THE SECOND FORM's CARD OF 'laws.FnDisjunct'. -/
def fnDisjunctUptoCard : Claim7 := { stood := { row := fnDisjunctUptoRow, standIns := [], harness := (true, "a4bb8c96989863f31809d5a38115c218a53c99cd9f16ab59ca605c7573531836"), looks := true }, kinds := [], alts := [], goes := true, laidByText := true, laidKinds := [.handle, .sentinel], laidTests := true, laidLooks := .later }
def FnDisjunctUptoCardSaid : Prop := Claim7.holds Tryd.pinned (.plain (OpenSpec.upto fnDisjunctSpec)) fnDisjunctUptoCard

/-- THE SECOND FORM's CARD OF 'laws.FnExactFormatWeighing'. -/
def fnExactFormatWeighingUptoCard : Claim7 := { stood := { row := fnExactFormatWeighingUptoRow, standIns := [], harness := (true, "a4bb8c96989863f31809d5a38115c218a53c99cd9f16ab59ca605c7573531836"), looks := true }, kinds := [], alts := [], goes := true, laidByText := true, laidKinds := [.data, .data, .data], laidTests := true, laidLooks := .later }
def FnExactFormatWeighingUptoCardSaid : Prop := Claim7.holds Tryd.pinned (.plain (OpenSpec.upto fnExactFormatWeighingSpec)) fnExactFormatWeighingUptoCard
end Rows
end Go.Proofs.YtlflblngbneacabDoor
