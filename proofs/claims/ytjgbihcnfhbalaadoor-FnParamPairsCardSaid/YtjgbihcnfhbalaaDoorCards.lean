/-
  DERIVED. GIVEN WITH THE SEED: THE CARDS: each row of YtjgbihcnfhbalaaDoorRows.lean that lists a variable, with what it lists TIED to the program's text (the seventh form; the later family's looks); each row that meets fmt, with fmt's text TOLD by the authors' own Lean function (tested against real Go, not proved from fmt's source: count such statements apart). THE CARD IS WHAT COUNTS. Prove the row's statement (the work); the ties are given (YtjgbihcnfhbalaaDoorTie.lean); close each card by the builder's one call (the guide's Derived/Test/ToyasCard.lean, 'card_holds'). Laid BY PROGRAM, IN A SANDBOX (cutbox-door.mjs). By AI agents, Wed Nov 11 2026. No macro, syntax, notation, axiom, sorry.
-/
import Derived.Test.YtjgbihcnfhbalaaDoorRows
import GoSem.ClaimSeven
namespace Go.Proofs.YtjgbihcnfhbalaaDoor
namespace Rows

/-- THE TIED CARD OF 'laws.FnExactParamPair'. -/
def fnExactParamPairCard : Claim7 := { stood := { row := fnExactParamPairRow, standIns := [], harness := (true, "41c6df5c72de36a90f5990cbf87fe484815dda22cf1833483fbbcba1f061d99e"), looks := false }, kinds := [], alts := [], laidByText := true, laidKinds := [.data], laidTests := true, laidLooks := .later }
def FnExactParamPairCardSaid : Prop := Claim7.holds Tryd.pinned (.plain (OpenSpec.ofChange fnExactParamPairSpec)) fnExactParamPairCard

/-- THE TIED CARD OF 'laws.FnExactParamIs'. -/
def fnExactParamIsCard : Claim7 := { stood := { row := fnExactParamIsRow, standIns := [], harness := (true, "41c6df5c72de36a90f5990cbf87fe484815dda22cf1833483fbbcba1f061d99e"), looks := false }, kinds := [], alts := [], laidByText := true, laidKinds := [.data], laidTests := true, laidLooks := .later }
def FnExactParamIsCardSaid : Prop := Claim7.holds Tryd.pinned (.plain (OpenSpec.ofChange fnExactParamIsSpec)) fnExactParamIsCard

/-- THE TIED CARD OF 'laws.FnExactParamList'. -/
def fnExactParamListCard : Claim7 := { stood := { row := fnExactParamListRow, standIns := [], harness := (true, "41c6df5c72de36a90f5990cbf87fe484815dda22cf1833483fbbcba1f061d99e"), looks := false }, kinds := [], alts := [], laidByText := true, laidKinds := [.data], laidTests := true, laidLooks := .later }
def FnExactParamListCardSaid : Prop := Claim7.holds Tryd.pinned (.plain (OpenSpec.ofChange fnExactParamListSpec)) fnExactParamListCard

/-- THE TIED CARD OF 'laws.FnExactParamCount'. -/
def fnExactParamCountCard : Claim7 := { stood := { row := fnExactParamCountRow, standIns := [], harness := (true, "41c6df5c72de36a90f5990cbf87fe484815dda22cf1833483fbbcba1f061d99e"), looks := false }, kinds := [], alts := [], laidByText := true, laidKinds := [.data], laidTests := true, laidLooks := .later }
def FnExactParamCountCardSaid : Prop := Claim7.holds Tryd.pinned (.plain (OpenSpec.ofChange fnExactParamCountSpec)) fnExactParamCountCard

/-- THE TIED CARD OF 'laws.FnExactModuleRelation'. -/
def fnExactModuleRelationCard : Claim7 := { stood := { row := fnExactModuleRelationRow, standIns := [], harness := (true, "41c6df5c72de36a90f5990cbf87fe484815dda22cf1833483fbbcba1f061d99e"), looks := false }, kinds := [], alts := [], laidByText := true, laidKinds := [.data], laidTests := true, laidLooks := .later }
def FnExactModuleRelationCardSaid : Prop := Claim7.holds Tryd.pinned (.plain (OpenSpec.ofChange fnExactModuleRelationSpec)) fnExactModuleRelationCard

/-- THE TIED CARD OF 'laws.FnExactModuleAlike'. -/
def fnExactModuleAlikeCard : Claim7 := { stood := { row := fnExactModuleAlikeRow, standIns := [], harness := (true, "41c6df5c72de36a90f5990cbf87fe484815dda22cf1833483fbbcba1f061d99e"), looks := false }, kinds := [], alts := [], laidByText := true, laidKinds := [.data], laidTests := true, laidLooks := .later }
def FnExactModuleAlikeCardSaid : Prop := Claim7.holds Tryd.pinned (.plain (OpenSpec.ofChange fnExactModuleAlikeSpec)) fnExactModuleAlikeCard

/-- THE TIED CARD OF 'laws.FnExactModuleBest'. -/
def fnExactModuleBestCard : Claim7 := { stood := { row := fnExactModuleBestRow, standIns := [], harness := (true, "41c6df5c72de36a90f5990cbf87fe484815dda22cf1833483fbbcba1f061d99e"), looks := false }, kinds := [], alts := [], laidByText := true, laidKinds := [.data], laidTests := true, laidLooks := .later }
def FnExactModuleBestCardSaid : Prop := Claim7.holds Tryd.pinned (.plain (OpenSpec.ofChange fnExactModuleBestSpec)) fnExactModuleBestCard

/-- THE TIED CARD OF 'laws.FnExactRelated'. -/
def fnExactRelatedCard : Claim7 := { stood := { row := fnExactRelatedRow, standIns := [], harness := (true, "41c6df5c72de36a90f5990cbf87fe484815dda22cf1833483fbbcba1f061d99e"), looks := false }, kinds := [], alts := [], laidByText := true, laidKinds := [.data], laidTests := true, laidLooks := .later }
def FnExactRelatedCardSaid : Prop := Claim7.holds Tryd.pinned (.plain (OpenSpec.ofChange fnExactRelatedSpec)) fnExactRelatedCard

/-- THE TIED CARD OF 'laws.FnExactRelLift'. -/
def fnExactRelLiftCard : Claim7 := { stood := { row := fnExactRelLiftRow, standIns := [], harness := (true, "41c6df5c72de36a90f5990cbf87fe484815dda22cf1833483fbbcba1f061d99e"), looks := false }, kinds := [], alts := [], laidByText := true, laidKinds := [.data], laidTests := true, laidLooks := .later }
def FnExactRelLiftCardSaid : Prop := Claim7.holds Tryd.pinned (.plain (OpenSpec.ofChange fnExactRelLiftSpec)) fnExactRelLiftCard

/-- THE TIED CARD OF 'laws.FnParamList'. -/
def fnParamListCard : Claim7 := { stood := { row := fnParamListRow, standIns := [], harness := (true, "41c6df5c72de36a90f5990cbf87fe484815dda22cf1833483fbbcba1f061d99e"), looks := false }, kinds := [], alts := [], laidByText := true, laidKinds := [.data], laidTests := true, laidLooks := .later }
def FnParamListCardSaid : Prop := Claim7.holds Tryd.pinned (.plain (OpenSpec.ofChange fnParamListSpec)) fnParamListCard

/-- THE TIED CARD OF 'laws.FnParamPairs'. -/
def fnParamPairsCard : Claim7 := { stood := { row := fnParamPairsRow, standIns := [], harness := (true, "41c6df5c72de36a90f5990cbf87fe484815dda22cf1833483fbbcba1f061d99e"), looks := false }, kinds := [], alts := [], laidByText := true, laidKinds := [.data], laidTests := true, laidLooks := .later }
def FnParamPairsCardSaid : Prop := Claim7.holds Tryd.pinned (.plain (OpenSpec.ofChange fnParamPairsSpec)) fnParamPairsCard

/-- THE TIED CARD OF 'laws.FnParamPair'. -/
def fnParamPairCard : Claim7 := { stood := { row := fnParamPairRow, standIns := [], harness := (true, "41c6df5c72de36a90f5990cbf87fe484815dda22cf1833483fbbcba1f061d99e"), looks := false }, kinds := [], alts := [], laidByText := true, laidKinds := [.data], laidTests := true, laidLooks := .later }
def FnParamPairCardSaid : Prop := Claim7.holds Tryd.pinned (.plain (OpenSpec.ofChange fnParamPairSpec)) fnParamPairCard

/-- THE SECOND FORM's CARD OF 'laws.FnExactParamPair'. -/
def fnExactParamPairUptoCard : Claim7 := { stood := { row := fnExactParamPairUptoRow, standIns := [], harness := (true, "41c6df5c72de36a90f5990cbf87fe484815dda22cf1833483fbbcba1f061d99e"), looks := false }, kinds := [], alts := [], laidByText := true, laidKinds := [.data], laidTests := true, laidLooks := .later }
def FnExactParamPairUptoCardSaid : Prop := Claim7.holds Tryd.pinned (.plain (OpenSpec.upto fnExactParamPairSpec)) fnExactParamPairUptoCard

/-- THE SECOND FORM's CARD OF 'laws.FnExactParamIs'. -/
def fnExactParamIsUptoCard : Claim7 := { stood := { row := fnExactParamIsUptoRow, standIns := [], harness := (true, "41c6df5c72de36a90f5990cbf87fe484815dda22cf1833483fbbcba1f061d99e"), looks := false }, kinds := [], alts := [], laidByText := true, laidKinds := [.data], laidTests := true, laidLooks := .later }
def FnExactParamIsUptoCardSaid : Prop := Claim7.holds Tryd.pinned (.plain (OpenSpec.upto fnExactParamIsSpec)) fnExactParamIsUptoCard

/-- THE SECOND FORM's CARD OF 'laws.FnExactParamList'. -/
def fnExactParamListUptoCard : Claim7 := { stood := { row := fnExactParamListUptoRow, standIns := [], harness := (true, "41c6df5c72de36a90f5990cbf87fe484815dda22cf1833483fbbcba1f061d99e"), looks := false }, kinds := [], alts := [], laidByText := true, laidKinds := [.data], laidTests := true, laidLooks := .later }
def FnExactParamListUptoCardSaid : Prop := Claim7.holds Tryd.pinned (.plain (OpenSpec.upto fnExactParamListSpec)) fnExactParamListUptoCard

/-- THE SECOND FORM's CARD OF 'laws.FnExactParamCount'. -/
def fnExactParamCountUptoCard : Claim7 := { stood := { row := fnExactParamCountUptoRow, standIns := [], harness := (true, "41c6df5c72de36a90f5990cbf87fe484815dda22cf1833483fbbcba1f061d99e"), looks := false }, kinds := [], alts := [], laidByText := true, laidKinds := [.data], laidTests := true, laidLooks := .later }
def FnExactParamCountUptoCardSaid : Prop := Claim7.holds Tryd.pinned (.plain (OpenSpec.upto fnExactParamCountSpec)) fnExactParamCountUptoCard

/-- THE SECOND FORM's CARD OF 'laws.FnExactModuleRelation'. -/
def fnExactModuleRelationUptoCard : Claim7 := { stood := { row := fnExactModuleRelationUptoRow, standIns := [], harness := (true, "41c6df5c72de36a90f5990cbf87fe484815dda22cf1833483fbbcba1f061d99e"), looks := false }, kinds := [], alts := [], laidByText := true, laidKinds := [.data], laidTests := true, laidLooks := .later }
def FnExactModuleRelationUptoCardSaid : Prop := Claim7.holds Tryd.pinned (.plain (OpenSpec.upto fnExactModuleRelationSpec)) fnExactModuleRelationUptoCard

/-- THE SECOND FORM's CARD OF 'laws.FnExactModuleAlike'. -/
def fnExactModuleAlikeUptoCard : Claim7 := { stood := { row := fnExactModuleAlikeUptoRow, standIns := [], harness := (true, "41c6df5c72de36a90f5990cbf87fe484815dda22cf1833483fbbcba1f061d99e"), looks := false }, kinds := [], alts := [], laidByText := true, laidKinds := [.data], laidTests := true, laidLooks := .later }
def FnExactModuleAlikeUptoCardSaid : Prop := Claim7.holds Tryd.pinned (.plain (OpenSpec.upto fnExactModuleAlikeSpec)) fnExactModuleAlikeUptoCard

/-- THE SECOND FORM's CARD OF 'laws.FnExactModuleBest'. -/
def fnExactModuleBestUptoCard : Claim7 := { stood := { row := fnExactModuleBestUptoRow, standIns := [], harness := (true, "41c6df5c72de36a90f5990cbf87fe484815dda22cf1833483fbbcba1f061d99e"), looks := false }, kinds := [], alts := [], laidByText := true, laidKinds := [.data], laidTests := true, laidLooks := .later }
def FnExactModuleBestUptoCardSaid : Prop := Claim7.holds Tryd.pinned (.plain (OpenSpec.upto fnExactModuleBestSpec)) fnExactModuleBestUptoCard

/-- THE SECOND FORM's CARD OF 'laws.FnExactRelated'. -/
def fnExactRelatedUptoCard : Claim7 := { stood := { row := fnExactRelatedUptoRow, standIns := [], harness := (true, "41c6df5c72de36a90f5990cbf87fe484815dda22cf1833483fbbcba1f061d99e"), looks := false }, kinds := [], alts := [], laidByText := true, laidKinds := [.data], laidTests := true, laidLooks := .later }
def FnExactRelatedUptoCardSaid : Prop := Claim7.holds Tryd.pinned (.plain (OpenSpec.upto fnExactRelatedSpec)) fnExactRelatedUptoCard

/-- THE SECOND FORM's CARD OF 'laws.FnExactRelLift'. -/
def fnExactRelLiftUptoCard : Claim7 := { stood := { row := fnExactRelLiftUptoRow, standIns := [], harness := (true, "41c6df5c72de36a90f5990cbf87fe484815dda22cf1833483fbbcba1f061d99e"), looks := false }, kinds := [], alts := [], laidByText := true, laidKinds := [.data], laidTests := true, laidLooks := .later }
def FnExactRelLiftUptoCardSaid : Prop := Claim7.holds Tryd.pinned (.plain (OpenSpec.upto fnExactRelLiftSpec)) fnExactRelLiftUptoCard

/-- THE SECOND FORM's CARD OF 'laws.FnParamList'. -/
def fnParamListUptoCard : Claim7 := { stood := { row := fnParamListUptoRow, standIns := [], harness := (true, "41c6df5c72de36a90f5990cbf87fe484815dda22cf1833483fbbcba1f061d99e"), looks := false }, kinds := [], alts := [], laidByText := true, laidKinds := [.data], laidTests := true, laidLooks := .later }
def FnParamListUptoCardSaid : Prop := Claim7.holds Tryd.pinned (.plain (OpenSpec.upto fnParamListSpec)) fnParamListUptoCard

/-- THE SECOND FORM's CARD OF 'laws.FnParamPairs'. -/
def fnParamPairsUptoCard : Claim7 := { stood := { row := fnParamPairsUptoRow, standIns := [], harness := (true, "41c6df5c72de36a90f5990cbf87fe484815dda22cf1833483fbbcba1f061d99e"), looks := false }, kinds := [], alts := [], laidByText := true, laidKinds := [.data], laidTests := true, laidLooks := .later }
def FnParamPairsUptoCardSaid : Prop := Claim7.holds Tryd.pinned (.plain (OpenSpec.upto fnParamPairsSpec)) fnParamPairsUptoCard

/-- THE SECOND FORM's CARD OF 'laws.FnParamPair'. -/
def fnParamPairUptoCard : Claim7 := { stood := { row := fnParamPairUptoRow, standIns := [], harness := (true, "41c6df5c72de36a90f5990cbf87fe484815dda22cf1833483fbbcba1f061d99e"), looks := false }, kinds := [], alts := [], laidByText := true, laidKinds := [.data], laidTests := true, laidLooks := .later }
def FnParamPairUptoCardSaid : Prop := Claim7.holds Tryd.pinned (.plain (OpenSpec.upto fnParamPairSpec)) fnParamPairUptoCard
end Rows
end Go.Proofs.YtjgbihcnfhbalaaDoor
