/-
  DERIVED. GIVEN WITH THE SEED: THE CARDS: each row of YticoeooeeejboaaDoorRows.lean that lists a variable, with what it lists TIED to the program's text (the seventh form; the later family's looks); each row that meets fmt, with fmt's text TOLD by the authors' own Lean function (tested against real Go, not proved from fmt's source: count such statements apart). THE CARD IS WHAT COUNTS. Prove the row's statement (the work); the ties are given (YticoeooeeejboaaDoorTie.lean); close each card by the builder's one call (the guide's Derived/Test/ToyasCard.lean, 'card_holds'). Laid BY PROGRAM, IN A SANDBOX (cutbox-door.mjs). By AI agents, Wed Nov 11 2026. No macro, syntax, notation, axiom, sorry.
-/
import Derived.Test.YticoeooeeejboaaDoorRows
import GoSem.ClaimSeven
namespace Go.Proofs.YticoeooeeejboaaDoor
namespace Rows

/-- THE TIED CARD OF 'laws.FnRelHas'. -/
def fnRelHasCard : Claim7 := { stood := { row := fnRelHasRow, standIns := [], harness := (true, "af041db8b215114c4e621c4933936f71cffaa7e9243bf96c94dc5a2637134916"), looks := false }, kinds := [], alts := [], laidByText := true, laidKinds := [.data], laidTests := true, laidLooks := .later }
def FnRelHasCardSaid : Prop := Claim7.holds Tryd.pinned (.plain (OpenSpec.ofChange fnRelHasSpec)) fnRelHasCard

/-- THE TIED CARD OF 'laws.FnRelSame'. -/
def fnRelSameCard : Claim7 := { stood := { row := fnRelSameRow, standIns := [], harness := (true, "af041db8b215114c4e621c4933936f71cffaa7e9243bf96c94dc5a2637134916"), looks := false }, kinds := [], alts := [], laidByText := true, laidKinds := [.data], laidTests := true, laidLooks := .later }
def FnRelSameCardSaid : Prop := Claim7.holds Tryd.pinned (.plain (OpenSpec.ofChange fnRelSameSpec)) fnRelSameCard

/-- THE TIED CARD OF 'laws.FnBack'. -/
def fnBackCard : Claim7 := { stood := { row := fnBackRow, standIns := [], harness := (true, "af041db8b215114c4e621c4933936f71cffaa7e9243bf96c94dc5a2637134916"), looks := false }, kinds := [], alts := [], laidByText := true, laidKinds := [.data], laidTests := true, laidLooks := .later }
def FnBackCardSaid : Prop := Claim7.holds Tryd.pinned (.plain (OpenSpec.ofChange fnBackSpec)) fnBackCard

/-- THE TIED CARD OF 'laws.FnRelJoin'. -/
def fnRelJoinCard : Claim7 := { stood := { row := fnRelJoinRow, standIns := [], harness := (true, "af041db8b215114c4e621c4933936f71cffaa7e9243bf96c94dc5a2637134916"), looks := false }, kinds := [], alts := [], laidByText := true, laidKinds := [.data], laidTests := true, laidLooks := .later }
def FnRelJoinCardSaid : Prop := Claim7.holds Tryd.pinned (.plain (OpenSpec.ofChange fnRelJoinSpec)) fnRelJoinCard

/-- THE TIED CARD OF 'laws.FnNumber'. -/
def fnNumberCard : Claim7 := { stood := { row := fnNumberRow, standIns := [], harness := (true, "af041db8b215114c4e621c4933936f71cffaa7e9243bf96c94dc5a2637134916"), looks := false }, kinds := [], alts := [], laidByText := true, laidKinds := [.data], laidTests := true, laidLooks := .later }
def FnNumberCardSaid : Prop := Claim7.holds Tryd.pinned (.plain (OpenSpec.ofChange fnNumberSpec)) fnNumberCard

/-- THE SECOND FORM's CARD OF 'laws.FnRelHas'. -/
def fnRelHasUptoCard : Claim7 := { stood := { row := fnRelHasUptoRow, standIns := [], harness := (true, "af041db8b215114c4e621c4933936f71cffaa7e9243bf96c94dc5a2637134916"), looks := false }, kinds := [], alts := [], laidByText := true, laidKinds := [.data], laidTests := true, laidLooks := .later }
def FnRelHasUptoCardSaid : Prop := Claim7.holds Tryd.pinned (.plain (OpenSpec.upto fnRelHasSpec)) fnRelHasUptoCard

/-- THE SECOND FORM's CARD OF 'laws.FnRelSame'. -/
def fnRelSameUptoCard : Claim7 := { stood := { row := fnRelSameUptoRow, standIns := [], harness := (true, "af041db8b215114c4e621c4933936f71cffaa7e9243bf96c94dc5a2637134916"), looks := false }, kinds := [], alts := [], laidByText := true, laidKinds := [.data], laidTests := true, laidLooks := .later }
def FnRelSameUptoCardSaid : Prop := Claim7.holds Tryd.pinned (.plain (OpenSpec.upto fnRelSameSpec)) fnRelSameUptoCard

/-- THE SECOND FORM's CARD OF 'laws.FnBack'. -/
def fnBackUptoCard : Claim7 := { stood := { row := fnBackUptoRow, standIns := [], harness := (true, "af041db8b215114c4e621c4933936f71cffaa7e9243bf96c94dc5a2637134916"), looks := false }, kinds := [], alts := [], laidByText := true, laidKinds := [.data], laidTests := true, laidLooks := .later }
def FnBackUptoCardSaid : Prop := Claim7.holds Tryd.pinned (.plain (OpenSpec.upto fnBackSpec)) fnBackUptoCard

/-- THE SECOND FORM's CARD OF 'laws.FnRelJoin'. -/
def fnRelJoinUptoCard : Claim7 := { stood := { row := fnRelJoinUptoRow, standIns := [], harness := (true, "af041db8b215114c4e621c4933936f71cffaa7e9243bf96c94dc5a2637134916"), looks := false }, kinds := [], alts := [], laidByText := true, laidKinds := [.data], laidTests := true, laidLooks := .later }
def FnRelJoinUptoCardSaid : Prop := Claim7.holds Tryd.pinned (.plain (OpenSpec.upto fnRelJoinSpec)) fnRelJoinUptoCard

/-- THE SECOND FORM's CARD OF 'laws.FnNumber'. -/
def fnNumberUptoCard : Claim7 := { stood := { row := fnNumberUptoRow, standIns := [], harness := (true, "af041db8b215114c4e621c4933936f71cffaa7e9243bf96c94dc5a2637134916"), looks := false }, kinds := [], alts := [], laidByText := true, laidKinds := [.data], laidTests := true, laidLooks := .later }
def FnNumberUptoCardSaid : Prop := Claim7.holds Tryd.pinned (.plain (OpenSpec.upto fnNumberSpec)) fnNumberUptoCard
end Rows
end Go.Proofs.YticoeooeeejboaaDoor
