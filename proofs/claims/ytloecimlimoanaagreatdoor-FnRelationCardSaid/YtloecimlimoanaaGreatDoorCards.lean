/-
  DERIVED. GIVEN WITH THE SEED: THE CARDS: each row of YtloecimlimoanaaGreatDoorRows.lean that lists a variable, with what it lists TIED to the program's text (the seventh form; the later family's looks); each row that meets fmt, with fmt's text TOLD by the authors' own Lean function (tested against real Go, not proved from fmt's source: count such statements apart). THE CARD IS WHAT COUNTS. Prove the row's statement (the work); the ties are given (YtloecimlimoanaaGreatDoorTie.lean); close each card by the builder's one call (the guide's Derived/Test/ToyasCard.lean, 'card_holds'). Laid BY PROGRAM, IN A SANDBOX (cutbox-door.mjs). By AI agents, Wed Nov 11 2026. No macro, syntax, notation, axiom, sorry.
-/
import Derived.Test.YtloecimlimoanaaGreatDoorRows
import GoSem.ClaimSeven
namespace Go.Proofs.YtloecimlimoanaaGreatDoor
namespace Rows

/-- THE TIED CARD OF 'laws.FnRelation'. -/
def fnRelationCard : Claim7 := { stood := { row := fnRelationRow, standIns := [], harness := (true, "1e09beb975d9ed2249ccd97d51437d36d456dae964aab47b0df6bd6618b4ab18"), looks := false }, kinds := [], alts := [], laidByText := true, laidKinds := [.data], laidTests := true, laidLooks := .later }
def FnRelationCardSaid : Prop := Claim7.holds Tryz.pinned (.plain (OpenSpec.ofChange fnRelationSpec)) fnRelationCard

/-- THE TIED CARD OF 'laws.FnBest'. -/
def fnBestCard : Claim7 := { stood := { row := fnBestRow, standIns := [], harness := (true, "1e09beb975d9ed2249ccd97d51437d36d456dae964aab47b0df6bd6618b4ab18"), looks := false }, kinds := [], alts := [], laidByText := true, laidKinds := [.data], laidTests := true, laidLooks := .later }
def FnBestCardSaid : Prop := Claim7.holds Tryz.pinned (.plain (OpenSpec.ofChange fnBestSpec)) fnBestCard

/-- THE SECOND FORM's CARD OF 'laws.FnRelation'. -/
def fnRelationUptoCard : Claim7 := { stood := { row := fnRelationUptoRow, standIns := [], harness := (true, "1e09beb975d9ed2249ccd97d51437d36d456dae964aab47b0df6bd6618b4ab18"), looks := false }, kinds := [], alts := [], laidByText := true, laidKinds := [.data], laidTests := true, laidLooks := .later }
def FnRelationUptoCardSaid : Prop := Claim7.holds Tryz.pinned (.plain (OpenSpec.upto fnRelationSpec)) fnRelationUptoCard

/-- THE SECOND FORM's CARD OF 'laws.FnBest'. -/
def fnBestUptoCard : Claim7 := { stood := { row := fnBestUptoRow, standIns := [], harness := (true, "1e09beb975d9ed2249ccd97d51437d36d456dae964aab47b0df6bd6618b4ab18"), looks := false }, kinds := [], alts := [], laidByText := true, laidKinds := [.data], laidTests := true, laidLooks := .later }
def FnBestUptoCardSaid : Prop := Claim7.holds Tryz.pinned (.plain (OpenSpec.upto fnBestSpec)) fnBestUptoCard
end Rows
end Go.Proofs.YtloecimlimoanaaGreatDoor
