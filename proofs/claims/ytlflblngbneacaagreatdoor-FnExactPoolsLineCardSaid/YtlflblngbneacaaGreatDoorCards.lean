/-
  DERIVED. GIVEN WITH THE SEED: THE CARDS: each row of YtlflblngbneacaaGreatDoorRows.lean that lists a variable, with what it lists TIED to the program's text (the seventh form; the later family's looks); each row that meets fmt, with fmt's text TOLD by the authors' own Lean function (tested against real Go, not proved from fmt's source: count such statements apart). THE CARD IS WHAT COUNTS. Prove the row's statement (the work); the ties are given (YtlflblngbneacaaGreatDoorTie.lean); close each card by the builder's one call (the guide's Derived/Test/ToyasCard.lean, 'card_holds'). Laid BY PROGRAM, IN A SANDBOX (cutbox-door.mjs). By AI agents, Wed Nov 11 2026. No macro, syntax, notation, axiom, sorry.
-/
import Derived.Test.YtlflblngbneacaaGreatDoorRows
import GoSem.ClaimSeven
namespace Go.Proofs.YtlflblngbneacaaGreatDoor
namespace Rows

/-- THE TIED CARD OF 'laws.FnExactSplitLine'. -/
def fnExactSplitLineCard : Claim7 := { stood := { row := fnExactSplitLineRow, standIns := [], harness := (true, "24d0a0d67f9c35de91450df6bda62663e4226d90801f21c6951e362131673a4f"), looks := true }, kinds := [], alts := [], laidByText := true, laidKinds := [.data, .data, .data, .handle, .sentinel, .sentinel], laidTests := true, laidLooks := .later }
def FnExactSplitLineCardSaid : Prop := Claim7.holds Tryz.pinned (.plain (OpenSpec.ofChange fnExactSplitLineSpec)) fnExactSplitLineCard

/-- THE TIED CARD OF 'laws.FnExactStateLine'. -/
def fnExactStateLineCard : Claim7 := { stood := { row := fnExactStateLineRow, standIns := [], harness := (true, "24d0a0d67f9c35de91450df6bda62663e4226d90801f21c6951e362131673a4f"), looks := true }, kinds := [], alts := [], laidByText := true, laidKinds := [.data, .data, .data, .handle, .sentinel], laidTests := true, laidLooks := .later }
def FnExactStateLineCardSaid : Prop := Claim7.holds Tryz.pinned (.plain (OpenSpec.ofChange fnExactStateLineSpec)) fnExactStateLineCard

/-- THE TIED CARD OF 'laws.FnExactPoolsLine'. -/
def fnExactPoolsLineCard : Claim7 := { stood := { row := fnExactPoolsLineRow, standIns := [], harness := (true, "24d0a0d67f9c35de91450df6bda62663e4226d90801f21c6951e362131673a4f"), looks := true }, kinds := [], alts := [], laidByText := true, laidKinds := [.data, .data, .data, .handle, .sentinel], laidTests := true, laidLooks := .later }
def FnExactPoolsLineCardSaid : Prop := Claim7.holds Tryz.pinned (.plain (OpenSpec.ofChange fnExactPoolsLineSpec)) fnExactPoolsLineCard

/-- THE SECOND FORM's CARD OF 'laws.FnExactSplitLine'. -/
def fnExactSplitLineUptoCard : Claim7 := { stood := { row := fnExactSplitLineUptoRow, standIns := [], harness := (true, "24d0a0d67f9c35de91450df6bda62663e4226d90801f21c6951e362131673a4f"), looks := true }, kinds := [], alts := [], laidByText := true, laidKinds := [.data, .data, .data, .handle, .sentinel, .sentinel], laidTests := true, laidLooks := .later }
def FnExactSplitLineUptoCardSaid : Prop := Claim7.holds Tryz.pinned (.plain (OpenSpec.upto fnExactSplitLineSpec)) fnExactSplitLineUptoCard

/-- THE SECOND FORM's CARD OF 'laws.FnExactStateLine'. -/
def fnExactStateLineUptoCard : Claim7 := { stood := { row := fnExactStateLineUptoRow, standIns := [], harness := (true, "24d0a0d67f9c35de91450df6bda62663e4226d90801f21c6951e362131673a4f"), looks := true }, kinds := [], alts := [], laidByText := true, laidKinds := [.data, .data, .data, .handle, .sentinel], laidTests := true, laidLooks := .later }
def FnExactStateLineUptoCardSaid : Prop := Claim7.holds Tryz.pinned (.plain (OpenSpec.upto fnExactStateLineSpec)) fnExactStateLineUptoCard

/-- THE SECOND FORM's CARD OF 'laws.FnExactPoolsLine'. -/
def fnExactPoolsLineUptoCard : Claim7 := { stood := { row := fnExactPoolsLineUptoRow, standIns := [], harness := (true, "24d0a0d67f9c35de91450df6bda62663e4226d90801f21c6951e362131673a4f"), looks := true }, kinds := [], alts := [], laidByText := true, laidKinds := [.data, .data, .data, .handle, .sentinel], laidTests := true, laidLooks := .later }
def FnExactPoolsLineUptoCardSaid : Prop := Claim7.holds Tryz.pinned (.plain (OpenSpec.upto fnExactPoolsLineSpec)) fnExactPoolsLineUptoCard
end Rows
end Go.Proofs.YtlflblngbneacaaGreatDoor
