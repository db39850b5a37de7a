/-
  DERIVED. GIVEN WITH THE SEED: THE CARDS: each row of YtbdmlogkedpbdaaDoorRows.lean that lists a variable, with what it lists TIED to the program's text (the seventh form; the later family's looks); each row that meets fmt, with fmt's text TOLD by the authors' own Lean function (tested against real Go, not proved from fmt's source: count such statements apart). THE CARD IS WHAT COUNTS. Prove the row's statement (the work); the ties are given (YtbdmlogkedpbdaaDoorTie.lean); close each card by the builder's one call (the guide's Derived/Test/ToyasCard.lean, 'card_holds'). Laid BY PROGRAM, IN A SANDBOX (cutbox-door.mjs). By AI agents, Wed Nov 11 2026. No macro, syntax, notation, axiom, sorry.
-/
import Derived.Test.YtbdmlogkedpbdaaDoorRows
import GoSem.ClaimSeven
namespace Go.Proofs.YtbdmlogkedpbdaaDoor
namespace Rows

/-- THE TIED CARD OF 'laws.FnGraph'. -/
def fnGraphCard : Claim7 := { stood := { row := fnGraphRow, standIns := [], harness := (true, "2ef9e29e9334a3411bd184c01ac540ced79124b933dd8c0ce4f930afb1a137cb"), looks := false }, kinds := [], alts := [], laidByText := true, laidKinds := [.data], laidTests := true, laidLooks := .later }
def FnGraphCardSaid : Prop := Claim7.holds Tryd.pinned (.plain (OpenSpec.ofChange fnGraphSpec)) fnGraphCard

/-- THE TIED CARD OF 'laws.FnRelFun'. -/
def fnRelFunCard : Claim7 := { stood := { row := fnRelFunRow, standIns := [], harness := (true, "2ef9e29e9334a3411bd184c01ac540ced79124b933dd8c0ce4f930afb1a137cb"), looks := false }, kinds := [], alts := [], laidByText := true, laidKinds := [.data], laidTests := true, laidLooks := .later }
def FnRelFunCardSaid : Prop := Claim7.holds Tryd.pinned (.plain (OpenSpec.ofChange fnRelFunSpec)) fnRelFunCard

/-- THE TIED CARD OF 'laws.FnExactRelated'. -/
def fnExactRelatedCard : Claim7 := { stood := { row := fnExactRelatedRow, standIns := [], harness := (true, "2ef9e29e9334a3411bd184c01ac540ced79124b933dd8c0ce4f930afb1a137cb"), looks := false }, kinds := [], alts := [], laidByText := true, laidKinds := [.data], laidTests := true, laidLooks := .later }
def FnExactRelatedCardSaid : Prop := Claim7.holds Tryd.pinned (.plain (OpenSpec.ofChange fnExactRelatedSpec)) fnExactRelatedCard

/-- THE TIED CARD OF 'laws.FnExactRelLift'. -/
def fnExactRelLiftCard : Claim7 := { stood := { row := fnExactRelLiftRow, standIns := [], harness := (true, "2ef9e29e9334a3411bd184c01ac540ced79124b933dd8c0ce4f930afb1a137cb"), looks := false }, kinds := [], alts := [], laidByText := true, laidKinds := [.data], laidTests := true, laidLooks := .later }
def FnExactRelLiftCardSaid : Prop := Claim7.holds Tryd.pinned (.plain (OpenSpec.ofChange fnExactRelLiftSpec)) fnExactRelLiftCard

/-- THE TIED CARD OF 'laws.FnExactParamPair'. -/
def fnExactParamPairCard : Claim7 := { stood := { row := fnExactParamPairRow, standIns := [], harness := (true, "2ef9e29e9334a3411bd184c01ac540ced79124b933dd8c0ce4f930afb1a137cb"), looks := false }, kinds := [], alts := [], laidByText := true, laidKinds := [.data], laidTests := true, laidLooks := .later }
def FnExactParamPairCardSaid : Prop := Claim7.holds Tryd.pinned (.plain (OpenSpec.ofChange fnExactParamPairSpec)) fnExactParamPairCard

/-- THE TIED CARD OF 'laws.FnExactParamIs'. -/
def fnExactParamIsCard : Claim7 := { stood := { row := fnExactParamIsRow, standIns := [], harness := (true, "2ef9e29e9334a3411bd184c01ac540ced79124b933dd8c0ce4f930afb1a137cb"), looks := false }, kinds := [], alts := [], laidByText := true, laidKinds := [.data], laidTests := true, laidLooks := .later }
def FnExactParamIsCardSaid : Prop := Claim7.holds Tryd.pinned (.plain (OpenSpec.ofChange fnExactParamIsSpec)) fnExactParamIsCard

/-- THE TIED CARD OF 'laws.FnExactParamList'. -/
def fnExactParamListCard : Claim7 := { stood := { row := fnExactParamListRow, standIns := [], harness := (true, "2ef9e29e9334a3411bd184c01ac540ced79124b933dd8c0ce4f930afb1a137cb"), looks := false }, kinds := [], alts := [], laidByText := true, laidKinds := [.data], laidTests := true, laidLooks := .later }
def FnExactParamListCardSaid : Prop := Claim7.holds Tryd.pinned (.plain (OpenSpec.ofChange fnExactParamListSpec)) fnExactParamListCard

/-- THE TIED CARD OF 'laws.FnExactParamCount'. -/
def fnExactParamCountCard : Claim7 := { stood := { row := fnExactParamCountRow, standIns := [], harness := (true, "2ef9e29e9334a3411bd184c01ac540ced79124b933dd8c0ce4f930afb1a137cb"), looks := false }, kinds := [], alts := [], laidByText := true, laidKinds := [.data], laidTests := true, laidLooks := .later }
def FnExactParamCountCardSaid : Prop := Claim7.holds Tryd.pinned (.plain (OpenSpec.ofChange fnExactParamCountSpec)) fnExactParamCountCard

/-- THE SECOND FORM's CARD OF 'laws.FnGraph'. -/
def fnGraphUptoCard : Claim7 := { stood := { row := fnGraphUptoRow, standIns := [], harness := (true, "2ef9e29e9334a3411bd184c01ac540ced79124b933dd8c0ce4f930afb1a137cb"), looks := false }, kinds := [], alts := [], laidByText := true, laidKinds := [.data], laidTests := true, laidLooks := .later }
def FnGraphUptoCardSaid : Prop := Claim7.holds Tryd.pinned (.plain (OpenSpec.upto fnGraphSpec)) fnGraphUptoCard

/-- THE SECOND FORM's CARD OF 'laws.FnRelFun'. -/
def fnRelFunUptoCard : Claim7 := { stood := { row := fnRelFunUptoRow, standIns := [], harness := (true, "2ef9e29e9334a3411bd184c01ac540ced79124b933dd8c0ce4f930afb1a137cb"), looks := false }, kinds := [], alts := [], laidByText := true, laidKinds := [.data], laidTests := true, laidLooks := .later }
def FnRelFunUptoCardSaid : Prop := Claim7.holds Tryd.pinned (.plain (OpenSpec.upto fnRelFunSpec)) fnRelFunUptoCard

/-- THE SECOND FORM's CARD OF 'laws.FnExactRelated'. -/
def fnExactRelatedUptoCard : Claim7 := { stood := { row := fnExactRelatedUptoRow, standIns := [], harness := (true, "2ef9e29e9334a3411bd184c01ac540ced79124b933dd8c0ce4f930afb1a137cb"), looks := false }, kinds := [], alts := [], laidByText := true, laidKinds := [.data], laidTests := true, laidLooks := .later }
def FnExactRelatedUptoCardSaid : Prop := Claim7.holds Tryd.pinned (.plain (OpenSpec.upto fnExactRelatedSpec)) fnExactRelatedUptoCard

/-- THE SECOND FORM's CARD OF 'laws.FnExactRelLift'. -/
def fnExactRelLiftUptoCard : Claim7 := { stood := { row := fnExactRelLiftUptoRow, standIns := [], harness := (true, "2ef9e29e9334a3411bd184c01ac540ced79124b933dd8c0ce4f930afb1a137cb"), looks := false }, kinds := [], alts := [], laidByText := true, laidKinds := [.data], laidTests := true, laidLooks := .later }
def FnExactRelLiftUptoCardSaid : Prop := Claim7.holds Tryd.pinned (.plain (OpenSpec.upto fnExactRelLiftSpec)) fnExactRelLiftUptoCard

/-- THE SECOND FORM's CARD OF 'laws.FnExactParamPair'. -/
def fnExactParamPairUptoCard : Claim7 := { stood := { row := fnExactParamPairUptoRow, standIns := [], harness := (true, "2ef9e29e9334a3411bd184c01ac540ced79124b933dd8c0ce4f930afb1a137cb"), looks := false }, kinds := [], alts := [], laidByText := true, laidKinds := [.data], laidTests := true, laidLooks := .later }
def FnExactParamPairUptoCardSaid : Prop := Claim7.holds Tryd.pinned (.plain (OpenSpec.upto fnExactParamPairSpec)) fnExactParamPairUptoCard

/-- THE SECOND FORM's CARD OF 'laws.FnExactParamIs'. -/
def fnExactParamIsUptoCard : Claim7 := { stood := { row := fnExactParamIsUptoRow, standIns := [], harness := (true, "2ef9e29e9334a3411bd184c01ac540ced79124b933dd8c0ce4f930afb1a137cb"), looks := false }, kinds := [], alts := [], laidByText := true, laidKinds := [.data], laidTests := true, laidLooks := .later }
def FnExactParamIsUptoCardSaid : Prop := Claim7.holds Tryd.pinned (.plain (OpenSpec.upto fnExactParamIsSpec)) fnExactParamIsUptoCard

/-- THE SECOND FORM's CARD OF 'laws.FnExactParamList'. -/
def fnExactParamListUptoCard : Claim7 := { stood := { row := fnExactParamListUptoRow, standIns := [], harness := (true, "2ef9e29e9334a3411bd184c01ac540ced79124b933dd8c0ce4f930afb1a137cb"), looks := false }, kinds := [], alts := [], laidByText := true, laidKinds := [.data], laidTests := true, laidLooks := .later }
def FnExactParamListUptoCardSaid : Prop := Claim7.holds Tryd.pinned (.plain (OpenSpec.upto fnExactParamListSpec)) fnExactParamListUptoCard

/-- THE SECOND FORM's CARD OF 'laws.FnExactParamCount'. -/
def fnExactParamCountUptoCard : Claim7 := { stood := { row := fnExactParamCountUptoRow, standIns := [], harness := (true, "2ef9e29e9334a3411bd184c01ac540ced79124b933dd8c0ce4f930afb1a137cb"), looks := false }, kinds := [], alts := [], laidByText := true, laidKinds := [.data], laidTests := true, laidLooks := .later }
def FnExactParamCountUptoCardSaid : Prop := Claim7.holds Tryd.pinned (.plain (OpenSpec.upto fnExactParamCountSpec)) fnExactParamCountUptoCard
end Rows
end Go.Proofs.YtbdmlogkedpbdaaDoor
