/-
  DERIVED. GIVEN WITH THE SEED: THE CARDS: each row of YtnjgaenhjdjpfaaGreatDoorRows.lean that lists a variable, with what it lists TIED to the program's text (the seventh form; the later family's looks); each row that meets fmt, with fmt's text TOLD by the authors' own Lean function (tested against real Go, not proved from fmt's source: count such statements apart). THE CARD IS WHAT COUNTS. Prove the row's statement (the work); the ties are given (YtnjgaenhjdjpfaaGreatDoorTie.lean); close each card by the builder's one call (the guide's Derived/Test/ToyasCard.lean, 'card_holds'). Laid BY PROGRAM, IN A SANDBOX (cutbox-door.mjs). By AI agents, Wed Nov 11 2026. No macro, syntax, notation, axiom, sorry.
-/
import Derived.Test.YtnjgaenhjdjpfaaGreatDoorRows
import GoSem.ClaimSeven
namespace Go.Proofs.YtnjgaenhjdjpfaaGreatDoor
namespace Rows

/-- THE TIED CARD OF 'laws.FnExactStep'. -/
def fnExactStepCard : Claim7 := { stood := { row := fnExactStepRow, standIns := [], harness := (true, "da32615f169be20f48f7a9bbde09865f5cebdda6bf0b284835cb0a2f1da6a43d"), looks := false }, kinds := [], alts := [], laidByText := true, laidKinds := [.data, .data, .data, .data, .pinned], laidTests := true, laidLooks := .later }
def FnExactStepCardSaid : Prop := Claim7.holds Tryz.pinned (.plain (OpenSpec.ofChange fnExactStepSpec)) fnExactStepCard

/-- THE TIED CARD OF 'laws.FnExactStepMany'. -/
def fnExactStepManyCard : Claim7 := { stood := { row := fnExactStepManyRow, standIns := [], harness := (true, "da32615f169be20f48f7a9bbde09865f5cebdda6bf0b284835cb0a2f1da6a43d"), looks := false }, kinds := [], alts := [], laidByText := true, laidKinds := [.data, .data, .data, .data, .pinned], laidTests := true, laidLooks := .later }
def FnExactStepManyCardSaid : Prop := Claim7.holds Tryz.pinned (.plain (OpenSpec.ofChange fnExactStepManySpec)) fnExactStepManyCard

/-- THE TIED CARD OF 'laws.FnExactNormalOf'. -/
def fnExactNormalOfCard : Claim7 := { stood := { row := fnExactNormalOfRow, standIns := [], harness := (true, "da32615f169be20f48f7a9bbde09865f5cebdda6bf0b284835cb0a2f1da6a43d"), looks := false }, kinds := [], alts := [], laidByText := true, laidKinds := [.data, .data, .data, .data, .pinned], laidTests := true, laidLooks := .later }
def FnExactNormalOfCardSaid : Prop := Claim7.holds Tryz.pinned (.plain (OpenSpec.ofChange fnExactNormalOfSpec)) fnExactNormalOfCard

/-- THE TIED CARD OF 'laws.FnExactTermEqual'. -/
def fnExactTermEqualCard : Claim7 := { stood := { row := fnExactTermEqualRow, standIns := [], harness := (true, "da32615f169be20f48f7a9bbde09865f5cebdda6bf0b284835cb0a2f1da6a43d"), looks := false }, kinds := [], alts := [], laidByText := true, laidKinds := [.data, .data, .data, .data, .pinned], laidTests := true, laidLooks := .later }
def FnExactTermEqualCardSaid : Prop := Claim7.holds Tryz.pinned (.plain (OpenSpec.ofChange fnExactTermEqualSpec)) fnExactTermEqualCard

/-- THE TIED CARD OF 'laws.FnExactStepInside'. -/
def fnExactStepInsideCard : Claim7 := { stood := { row := fnExactStepInsideRow, standIns := [], harness := (true, "da32615f169be20f48f7a9bbde09865f5cebdda6bf0b284835cb0a2f1da6a43d"), looks := false }, kinds := [], alts := [], laidByText := true, laidKinds := [.data, .data, .data, .data, .pinned], laidTests := true, laidLooks := .later }
def FnExactStepInsideCardSaid : Prop := Claim7.holds Tryz.pinned (.plain (OpenSpec.ofChange fnExactStepInsideSpec)) fnExactStepInsideCard

/-- THE SECOND FORM's CARD OF 'laws.FnExactStep'. -/
def fnExactStepUptoCard : Claim7 := { stood := { row := fnExactStepUptoRow, standIns := [], harness := (true, "da32615f169be20f48f7a9bbde09865f5cebdda6bf0b284835cb0a2f1da6a43d"), looks := false }, kinds := [], alts := [], laidByText := true, laidKinds := [.data, .data, .data, .data, .pinned], laidTests := true, laidLooks := .later }
def FnExactStepUptoCardSaid : Prop := Claim7.holds Tryz.pinned (.plain (OpenSpec.upto fnExactStepSpec)) fnExactStepUptoCard

/-- THE SECOND FORM's CARD OF 'laws.FnExactStepMany'. -/
def fnExactStepManyUptoCard : Claim7 := { stood := { row := fnExactStepManyUptoRow, standIns := [], harness := (true, "da32615f169be20f48f7a9bbde09865f5cebdda6bf0b284835cb0a2f1da6a43d"), looks := false }, kinds := [], alts := [], laidByText := true, laidKinds := [.data, .data, .data, .data, .pinned], laidTests := true, laidLooks := .later }
def FnExactStepManyUptoCardSaid : Prop := Claim7.holds Tryz.pinned (.plain (OpenSpec.upto fnExactStepManySpec)) fnExactStepManyUptoCard

/-- THE SECOND FORM's CARD OF 'laws.FnExactNormalOf'. -/
def fnExactNormalOfUptoCard : Claim7 := { stood := { row := fnExactNormalOfUptoRow, standIns := [], harness := (true, "da32615f169be20f48f7a9bbde09865f5cebdda6bf0b284835cb0a2f1da6a43d"), looks := false }, kinds := [], alts := [], laidByText := true, laidKinds := [.data, .data, .data, .data, .pinned], laidTests := true, laidLooks := .later }
def FnExactNormalOfUptoCardSaid : Prop := Claim7.holds Tryz.pinned (.plain (OpenSpec.upto fnExactNormalOfSpec)) fnExactNormalOfUptoCard

/-- THE SECOND FORM's CARD OF 'laws.FnExactTermEqual'. -/
def fnExactTermEqualUptoCard : Claim7 := { stood := { row := fnExactTermEqualUptoRow, standIns := [], harness := (true, "da32615f169be20f48f7a9bbde09865f5cebdda6bf0b284835cb0a2f1da6a43d"), looks := false }, kinds := [], alts := [], laidByText := true, laidKinds := [.data, .data, .data, .data, .pinned], laidTests := true, laidLooks := .later }
def FnExactTermEqualUptoCardSaid : Prop := Claim7.holds Tryz.pinned (.plain (OpenSpec.upto fnExactTermEqualSpec)) fnExactTermEqualUptoCard

/-- THE SECOND FORM's CARD OF 'laws.FnExactStepInside'. -/
def fnExactStepInsideUptoCard : Claim7 := { stood := { row := fnExactStepInsideUptoRow, standIns := [], harness := (true, "da32615f169be20f48f7a9bbde09865f5cebdda6bf0b284835cb0a2f1da6a43d"), looks := false }, kinds := [], alts := [], laidByText := true, laidKinds := [.data, .data, .data, .data, .pinned], laidTests := true, laidLooks := .later }
def FnExactStepInsideUptoCardSaid : Prop := Claim7.holds Tryz.pinned (.plain (OpenSpec.upto fnExactStepInsideSpec)) fnExactStepInsideUptoCard
end Rows
end Go.Proofs.YtnjgaenhjdjpfaaGreatDoor
