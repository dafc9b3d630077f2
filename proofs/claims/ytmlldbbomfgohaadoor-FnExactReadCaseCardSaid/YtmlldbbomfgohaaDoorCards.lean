/-
  DERIVED. GIVEN WITH THE SEED: THE CARDS: each row of YtmlldbbomfgohaaDoorRows.lean that lists a variable, with what it lists TIED to the program's text (the seventh form; the later family's looks); each row that meets fmt, with fmt's text TOLD by the authors' own Lean function (tested against real Go, not proved from fmt's source: count such statements apart). THE CARD IS WHAT COUNTS. Prove the row's statement (the work); the ties are given (YtmlldbbomfgohaaDoorTie.lean); close each card by the builder's one call (the guide's Derived/Test/ToyasCard.lean, 'card_holds'). Laid BY PROGRAM, IN A SANDBOX (cutbox-door.mjs). By AI agents, Wed Nov 11 2026. No macro, syntax, notation, axiom, sorry.
-/
import Derived.Test.YtmlldbbomfgohaaDoorRows
import GoSem.ClaimSeven
namespace Go.Proofs.YtmlldbbomfgohaaDoor
namespace Rows

/-- THE TIED CARD OF 'laws.FnExactCaseText'. -/
def fnExactCaseTextCard : Claim7 := { stood := { row := fnExactCaseTextRow, standIns := [], harness := (true, "1bc72be7d9ac4498ae2812ca1b24a739e4c8129642d419c12e0de78a3bdba8e9"), looks := false }, kinds := [], alts := [], laidByText := true, laidKinds := [.data, .data, .data], laidTests := true, laidLooks := .later }
def FnExactCaseTextCardSaid : Prop := Claim7.holds Tryd.pinned (.plain (OpenSpec.ofChange fnExactCaseTextSpec)) fnExactCaseTextCard

/-- THE TIED CARD OF 'laws.FnExactReadCase'. -/
def fnExactReadCaseCard : Claim7 := { stood := { row := fnExactReadCaseRow, standIns := [], harness := (true, "1bc72be7d9ac4498ae2812ca1b24a739e4c8129642d419c12e0de78a3bdba8e9"), looks := false }, kinds := [], alts := [], laidByText := true, laidKinds := [.data, .data, .data], laidTests := true, laidLooks := .later }
def FnExactReadCaseCardSaid : Prop := Claim7.holds Tryd.pinned (.plain (OpenSpec.ofChange fnExactReadCaseSpec)) fnExactReadCaseCard

/-- THE SECOND FORM's CARD OF 'laws.FnExactCaseText'. -/
def fnExactCaseTextUptoCard : Claim7 := { stood := { row := fnExactCaseTextUptoRow, standIns := [], harness := (true, "1bc72be7d9ac4498ae2812ca1b24a739e4c8129642d419c12e0de78a3bdba8e9"), looks := false }, kinds := [], alts := [], laidByText := true, laidKinds := [.data, .data, .data], laidTests := true, laidLooks := .later }
def FnExactCaseTextUptoCardSaid : Prop := Claim7.holds Tryd.pinned (.plain (OpenSpec.upto fnExactCaseTextSpec)) fnExactCaseTextUptoCard

/-- THE SECOND FORM's CARD OF 'laws.FnExactReadCase'. -/
def fnExactReadCaseUptoCard : Claim7 := { stood := { row := fnExactReadCaseUptoRow, standIns := [], harness := (true, "1bc72be7d9ac4498ae2812ca1b24a739e4c8129642d419c12e0de78a3bdba8e9"), looks := false }, kinds := [], alts := [], laidByText := true, laidKinds := [.data, .data, .data], laidTests := true, laidLooks := .later }
def FnExactReadCaseUptoCardSaid : Prop := Claim7.holds Tryd.pinned (.plain (OpenSpec.upto fnExactReadCaseSpec)) fnExactReadCaseUptoCard
end Rows
end Go.Proofs.YtmlldbbomfgohaaDoor
