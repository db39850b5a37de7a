/-
  DERIVED. GIVEN WITH THE SEED: THE CARDS: each row of YtbcgpcnbfaipbaaGreatDoorRows.lean that lists a variable, with what it lists TIED to the program's text (the seventh form; the later family's looks); each row that meets fmt, with fmt's text TOLD by the authors' own Lean function (tested against real Go, not proved from fmt's source: count such statements apart). THE CARD IS WHAT COUNTS. Prove the row's statement (the work); the ties are given (YtbcgpcnbfaipbaaGreatDoorTie.lean); close each card by the builder's one call (the guide's Derived/Test/ToyasCard.lean, 'card_holds'). Laid BY PROGRAM, IN A SANDBOX (cutbox-door.mjs). By AI agents, Wed Nov 11 2026. No macro, syntax, notation, axiom, sorry.
-/
import Derived.Test.YtbcgpcnbfaipbaaGreatDoorRows
import GoSem.ClaimSeven
namespace Go.Proofs.YtbcgpcnbfaipbaaGreatDoor
namespace Rows

/-- THE TIED CARD OF 'laws.FnTermCanon'. -/
def fnTermCanonCard : Claim7 := { stood := { row := fnTermCanonRow, standIns := [], harness := (true, "4d90f548116be614f9c1c421d90545f29b9ce86a0da144a33ab18fb9a0c5acb9"), looks := false }, kinds := [], alts := [], laidByText := true, laidKinds := [.data, .data, .data, .data, .pinned], laidTests := true, laidLooks := .later }
def FnTermCanonCardSaid : Prop := Claim7.holds Tryz.pinned (.plain (OpenSpec.ofChange fnTermCanonSpec)) fnTermCanonCard

/-- THE TIED CARD OF 'laws.FnTermAlike'. -/
def fnTermAlikeCard : Claim7 := { stood := { row := fnTermAlikeRow, standIns := [], harness := (true, "4d90f548116be614f9c1c421d90545f29b9ce86a0da144a33ab18fb9a0c5acb9"), looks := false }, kinds := [], alts := [], laidByText := true, laidKinds := [.data, .data, .data, .data, .pinned], laidTests := true, laidLooks := .later }
def FnTermAlikeCardSaid : Prop := Claim7.holds Tryz.pinned (.plain (OpenSpec.ofChange fnTermAlikeSpec)) fnTermAlikeCard

/-- THE TIED CARD OF 'laws.FnExactTermPut'. -/
def fnExactTermPutCard : Claim7 := { stood := { row := fnExactTermPutRow, standIns := [], harness := (true, "4d90f548116be614f9c1c421d90545f29b9ce86a0da144a33ab18fb9a0c5acb9"), looks := false }, kinds := [], alts := [], laidByText := true, laidKinds := [.data, .data, .data, .data, .pinned], laidTests := true, laidLooks := .later }
def FnExactTermPutCardSaid : Prop := Claim7.holds Tryz.pinned (.plain (OpenSpec.ofChange fnExactTermPutSpec)) fnExactTermPutCard

/-- THE TIED CARD OF 'laws.FnExactInferUnfold'. -/
def fnExactInferUnfoldCard : Claim7 := { stood := { row := fnExactInferUnfoldRow, standIns := [], harness := (true, "4d90f548116be614f9c1c421d90545f29b9ce86a0da144a33ab18fb9a0c5acb9"), looks := false }, kinds := [], alts := [], laidByText := true, laidKinds := [.data, .data, .data, .data, .pinned], laidTests := true, laidLooks := .later }
def FnExactInferUnfoldCardSaid : Prop := Claim7.holds Tryz.pinned (.plain (OpenSpec.ofChange fnExactInferUnfoldSpec)) fnExactInferUnfoldCard

/-- THE TIED CARD OF 'laws.FnExactStep'. -/
def fnExactStepCard : Claim7 := { stood := { row := fnExactStepRow, standIns := [], harness := (true, "4d90f548116be614f9c1c421d90545f29b9ce86a0da144a33ab18fb9a0c5acb9"), looks := false }, kinds := [], alts := [], laidByText := true, laidKinds := [.data, .data, .data, .data, .pinned], laidTests := true, laidLooks := .later }
def FnExactStepCardSaid : Prop := Claim7.holds Tryz.pinned (.plain (OpenSpec.ofChange fnExactStepSpec)) fnExactStepCard

/-- THE TIED CARD OF 'laws.FnExactStepMany'. -/
def fnExactStepManyCard : Claim7 := { stood := { row := fnExactStepManyRow, standIns := [], harness := (true, "4d90f548116be614f9c1c421d90545f29b9ce86a0da144a33ab18fb9a0c5acb9"), looks := false }, kinds := [], alts := [], laidByText := true, laidKinds := [.data, .data, .data, .data, .pinned], laidTests := true, laidLooks := .later }
def FnExactStepManyCardSaid : Prop := Claim7.holds Tryz.pinned (.plain (OpenSpec.ofChange fnExactStepManySpec)) fnExactStepManyCard

/-- THE TIED CARD OF 'laws.FnExactNormalOf'. -/
def fnExactNormalOfCard : Claim7 := { stood := { row := fnExactNormalOfRow, standIns := [], harness := (true, "4d90f548116be614f9c1c421d90545f29b9ce86a0da144a33ab18fb9a0c5acb9"), looks := false }, kinds := [], alts := [], laidByText := true, laidKinds := [.data, .data, .data, .data, .pinned], laidTests := true, laidLooks := .later }
def FnExactNormalOfCardSaid : Prop := Claim7.holds Tryz.pinned (.plain (OpenSpec.ofChange fnExactNormalOfSpec)) fnExactNormalOfCard

/-- THE TIED CARD OF 'laws.FnExactTermEqual'. -/
def fnExactTermEqualCard : Claim7 := { stood := { row := fnExactTermEqualRow, standIns := [], harness := (true, "4d90f548116be614f9c1c421d90545f29b9ce86a0da144a33ab18fb9a0c5acb9"), looks := false }, kinds := [], alts := [], laidByText := true, laidKinds := [.data, .data, .data, .data, .pinned], laidTests := true, laidLooks := .later }
def FnExactTermEqualCardSaid : Prop := Claim7.holds Tryz.pinned (.plain (OpenSpec.ofChange fnExactTermEqualSpec)) fnExactTermEqualCard

/-- THE TIED CARD OF 'laws.FnExactStepInside'. -/
def fnExactStepInsideCard : Claim7 := { stood := { row := fnExactStepInsideRow, standIns := [], harness := (true, "4d90f548116be614f9c1c421d90545f29b9ce86a0da144a33ab18fb9a0c5acb9"), looks := false }, kinds := [], alts := [], laidByText := true, laidKinds := [.data, .data, .data, .data, .pinned], laidTests := true, laidLooks := .later }
def FnExactStepInsideCardSaid : Prop := Claim7.holds Tryz.pinned (.plain (OpenSpec.ofChange fnExactStepInsideSpec)) fnExactStepInsideCard

/-- THE SECOND FORM's CARD OF 'laws.FnTermCanon'. -/
def fnTermCanonUptoCard : Claim7 := { stood := { row := fnTermCanonUptoRow, standIns := [], harness := (true, "4d90f548116be614f9c1c421d90545f29b9ce86a0da144a33ab18fb9a0c5acb9"), looks := false }, kinds := [], alts := [], laidByText := true, laidKinds := [.data, .data, .data, .data, .pinned], laidTests := true, laidLooks := .later }
def FnTermCanonUptoCardSaid : Prop := Claim7.holds Tryz.pinned (.plain (OpenSpec.upto fnTermCanonSpec)) fnTermCanonUptoCard

/-- THE SECOND FORM's CARD OF 'laws.FnTermAlike'. -/
def fnTermAlikeUptoCard : Claim7 := { stood := { row := fnTermAlikeUptoRow, standIns := [], harness := (true, "4d90f548116be614f9c1c421d90545f29b9ce86a0da144a33ab18fb9a0c5acb9"), looks := false }, kinds := [], alts := [], laidByText := true, laidKinds := [.data, .data, .data, .data, .pinned], laidTests := true, laidLooks := .later }
def FnTermAlikeUptoCardSaid : Prop := Claim7.holds Tryz.pinned (.plain (OpenSpec.upto fnTermAlikeSpec)) fnTermAlikeUptoCard

/-- THE SECOND FORM's CARD OF 'laws.FnExactTermPut'. -/
def fnExactTermPutUptoCard : Claim7 := { stood := { row := fnExactTermPutUptoRow, standIns := [], harness := (true, "4d90f548116be614f9c1c421d90545f29b9ce86a0da144a33ab18fb9a0c5acb9"), looks := false }, kinds := [], alts := [], laidByText := true, laidKinds := [.data, .data, .data, .data, .pinned], laidTests := true, laidLooks := .later }
def FnExactTermPutUptoCardSaid : Prop := Claim7.holds Tryz.pinned (.plain (OpenSpec.upto fnExactTermPutSpec)) fnExactTermPutUptoCard

/-- THE SECOND FORM's CARD OF 'laws.FnExactInferUnfold'. -/
def fnExactInferUnfoldUptoCard : Claim7 := { stood := { row := fnExactInferUnfoldUptoRow, standIns := [], harness := (true, "4d90f548116be614f9c1c421d90545f29b9ce86a0da144a33ab18fb9a0c5acb9"), looks := false }, kinds := [], alts := [], laidByText := true, laidKinds := [.data, .data, .data, .data, .pinned], laidTests := true, laidLooks := .later }
def FnExactInferUnfoldUptoCardSaid : Prop := Claim7.holds Tryz.pinned (.plain (OpenSpec.upto fnExactInferUnfoldSpec)) fnExactInferUnfoldUptoCard

/-- THE SECOND FORM's CARD OF 'laws.FnExactStep'. -/
def fnExactStepUptoCard : Claim7 := { stood := { row := fnExactStepUptoRow, standIns := [], harness := (true, "4d90f548116be614f9c1c421d90545f29b9ce86a0da144a33ab18fb9a0c5acb9"), looks := false }, kinds := [], alts := [], laidByText := true, laidKinds := [.data, .data, .data, .data, .pinned], laidTests := true, laidLooks := .later }
def FnExactStepUptoCardSaid : Prop := Claim7.holds Tryz.pinned (.plain (OpenSpec.upto fnExactStepSpec)) fnExactStepUptoCard

/-- THE SECOND FORM's CARD OF 'laws.FnExactStepMany'. -/
def fnExactStepManyUptoCard : Claim7 := { stood := { row := fnExactStepManyUptoRow, standIns := [], harness := (true, "4d90f548116be614f9c1c421d90545f29b9ce86a0da144a33ab18fb9a0c5acb9"), looks := false }, kinds := [], alts := [], laidByText := true, laidKinds := [.data, .data, .data, .data, .pinned], laidTests := true, laidLooks := .later }
def FnExactStepManyUptoCardSaid : Prop := Claim7.holds Tryz.pinned (.plain (OpenSpec.upto fnExactStepManySpec)) fnExactStepManyUptoCard

/-- THE SECOND FORM's CARD OF 'laws.FnExactNormalOf'. -/
def fnExactNormalOfUptoCard : Claim7 := { stood := { row := fnExactNormalOfUptoRow, standIns := [], harness := (true, "4d90f548116be614f9c1c421d90545f29b9ce86a0da144a33ab18fb9a0c5acb9"), looks := false }, kinds := [], alts := [], laidByText := true, laidKinds := [.data, .data, .data, .data, .pinned], laidTests := true, laidLooks := .later }
def FnExactNormalOfUptoCardSaid : Prop := Claim7.holds Tryz.pinned (.plain (OpenSpec.upto fnExactNormalOfSpec)) fnExactNormalOfUptoCard

/-- THE SECOND FORM's CARD OF 'laws.FnExactTermEqual'. -/
def fnExactTermEqualUptoCard : Claim7 := { stood := { row := fnExactTermEqualUptoRow, standIns := [], harness := (true, "4d90f548116be614f9c1c421d90545f29b9ce86a0da144a33ab18fb9a0c5acb9"), looks := false }, kinds := [], alts := [], laidByText := true, laidKinds := [.data, .data, .data, .data, .pinned], laidTests := true, laidLooks := .later }
def FnExactTermEqualUptoCardSaid : Prop := Claim7.holds Tryz.pinned (.plain (OpenSpec.upto fnExactTermEqualSpec)) fnExactTermEqualUptoCard

/-- THE SECOND FORM's CARD OF 'laws.FnExactStepInside'. -/
def fnExactStepInsideUptoCard : Claim7 := { stood := { row := fnExactStepInsideUptoRow, standIns := [], harness := (true, "4d90f548116be614f9c1c421d90545f29b9ce86a0da144a33ab18fb9a0c5acb9"), looks := false }, kinds := [], alts := [], laidByText := true, laidKinds := [.data, .data, .data, .data, .pinned], laidTests := true, laidLooks := .later }
def FnExactStepInsideUptoCardSaid : Prop := Claim7.holds Tryz.pinned (.plain (OpenSpec.upto fnExactStepInsideSpec)) fnExactStepInsideUptoCard
end Rows
end Go.Proofs.YtbcgpcnbfaipbaaGreatDoor
