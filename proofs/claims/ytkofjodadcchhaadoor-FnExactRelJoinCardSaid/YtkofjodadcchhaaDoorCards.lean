/-
  DERIVED. GIVEN WITH THE SEED: THE CARDS: each row of YtkofjodadcchhaaDoorRows.lean that lists a variable, with what it lists TIED to the program's text (the seventh form; the later family's looks); each row that meets fmt, with fmt's text TOLD by the authors' own Lean function (tested against real Go, not proved from fmt's source: count such statements apart). THE CARD IS WHAT COUNTS. Prove the row's statement (the work); the ties are given (YtkofjodadcchhaaDoorTie.lean); close each card by the builder's one call (the guide's Derived/Test/ToyasCard.lean, 'card_holds'). Laid BY PROGRAM, IN A SANDBOX (cutbox-door.mjs). By AI agents, Wed Nov 11 2026. No macro, syntax, notation, axiom, sorry.
-/
import Derived.Test.YtkofjodadcchhaaDoorRows
import GoSem.ClaimSeven
namespace Go.Proofs.YtkofjodadcchhaaDoor
namespace Rows

/-- THE TIED CARD OF 'laws.FnGraph'. -/
def fnGraphCard : Claim7 := { stood := { row := fnGraphRow, standIns := [], harness := (true, "7696d834b0b5b23ddf3c6b37cdd40dc096be7fb951088cea6a1cd794df10be15"), looks := false }, kinds := [], alts := [], laidByText := true, laidKinds := [.data], laidTests := true, laidLooks := .later }
def FnGraphCardSaid : Prop := Claim7.holds Tryd.pinned (.plain (OpenSpec.ofChange fnGraphSpec)) fnGraphCard

/-- THE TIED CARD OF 'laws.FnRelFun'. -/
def fnRelFunCard : Claim7 := { stood := { row := fnRelFunRow, standIns := [], harness := (true, "7696d834b0b5b23ddf3c6b37cdd40dc096be7fb951088cea6a1cd794df10be15"), looks := false }, kinds := [], alts := [], laidByText := true, laidKinds := [.data], laidTests := true, laidLooks := .later }
def FnRelFunCardSaid : Prop := Claim7.holds Tryd.pinned (.plain (OpenSpec.ofChange fnRelFunSpec)) fnRelFunCard

/-- THE TIED CARD OF 'laws.FnExactRelSame'. -/
def fnExactRelSameCard : Claim7 := { stood := { row := fnExactRelSameRow, standIns := [], harness := (true, "7696d834b0b5b23ddf3c6b37cdd40dc096be7fb951088cea6a1cd794df10be15"), looks := false }, kinds := [], alts := [], laidByText := true, laidKinds := [.data], laidTests := true, laidLooks := .later }
def FnExactRelSameCardSaid : Prop := Claim7.holds Tryd.pinned (.plain (OpenSpec.ofChange fnExactRelSameSpec)) fnExactRelSameCard

/-- THE TIED CARD OF 'laws.FnExactRelGraph'. -/
def fnExactRelGraphCard : Claim7 := { stood := { row := fnExactRelGraphRow, standIns := [], harness := (true, "7696d834b0b5b23ddf3c6b37cdd40dc096be7fb951088cea6a1cd794df10be15"), looks := false }, kinds := [], alts := [], laidByText := true, laidKinds := [.data], laidTests := true, laidLooks := .later }
def FnExactRelGraphCardSaid : Prop := Claim7.holds Tryd.pinned (.plain (OpenSpec.ofChange fnExactRelGraphSpec)) fnExactRelGraphCard

/-- THE TIED CARD OF 'laws.FnExactRelBack'. -/
def fnExactRelBackCard : Claim7 := { stood := { row := fnExactRelBackRow, standIns := [], harness := (true, "7696d834b0b5b23ddf3c6b37cdd40dc096be7fb951088cea6a1cd794df10be15"), looks := false }, kinds := [], alts := [], laidByText := true, laidKinds := [.data], laidTests := true, laidLooks := .later }
def FnExactRelBackCardSaid : Prop := Claim7.holds Tryd.pinned (.plain (OpenSpec.ofChange fnExactRelBackSpec)) fnExactRelBackCard

/-- THE TIED CARD OF 'laws.FnExactRelJoin'. -/
def fnExactRelJoinCard : Claim7 := { stood := { row := fnExactRelJoinRow, standIns := [], harness := (true, "7696d834b0b5b23ddf3c6b37cdd40dc096be7fb951088cea6a1cd794df10be15"), looks := false }, kinds := [], alts := [], laidByText := true, laidKinds := [.data], laidTests := true, laidLooks := .later }
def FnExactRelJoinCardSaid : Prop := Claim7.holds Tryd.pinned (.plain (OpenSpec.ofChange fnExactRelJoinSpec)) fnExactRelJoinCard

/-- THE TIED CARD OF 'laws.FnExactRelFun'. -/
def fnExactRelFunCard : Claim7 := { stood := { row := fnExactRelFunRow, standIns := [], harness := (true, "7696d834b0b5b23ddf3c6b37cdd40dc096be7fb951088cea6a1cd794df10be15"), looks := false }, kinds := [], alts := [], laidByText := true, laidKinds := [.data], laidTests := true, laidLooks := .later }
def FnExactRelFunCardSaid : Prop := Claim7.holds Tryd.pinned (.plain (OpenSpec.ofChange fnExactRelFunSpec)) fnExactRelFunCard

/-- THE TIED CARD OF 'laws.FnExactRelNumber'. -/
def fnExactRelNumberCard : Claim7 := { stood := { row := fnExactRelNumberRow, standIns := [], harness := (true, "7696d834b0b5b23ddf3c6b37cdd40dc096be7fb951088cea6a1cd794df10be15"), looks := false }, kinds := [], alts := [], laidByText := true, laidKinds := [.data], laidTests := true, laidLooks := .later }
def FnExactRelNumberCardSaid : Prop := Claim7.holds Tryd.pinned (.plain (OpenSpec.ofChange fnExactRelNumberSpec)) fnExactRelNumberCard

/-- THE TIED CARD OF 'laws.FnExactRelated'. -/
def fnExactRelatedCard : Claim7 := { stood := { row := fnExactRelatedRow, standIns := [], harness := (true, "7696d834b0b5b23ddf3c6b37cdd40dc096be7fb951088cea6a1cd794df10be15"), looks := false }, kinds := [], alts := [], laidByText := true, laidKinds := [.data], laidTests := true, laidLooks := .later }
def FnExactRelatedCardSaid : Prop := Claim7.holds Tryd.pinned (.plain (OpenSpec.ofChange fnExactRelatedSpec)) fnExactRelatedCard

/-- THE TIED CARD OF 'laws.FnExactRelLift'. -/
def fnExactRelLiftCard : Claim7 := { stood := { row := fnExactRelLiftRow, standIns := [], harness := (true, "7696d834b0b5b23ddf3c6b37cdd40dc096be7fb951088cea6a1cd794df10be15"), looks := false }, kinds := [], alts := [], laidByText := true, laidKinds := [.data], laidTests := true, laidLooks := .later }
def FnExactRelLiftCardSaid : Prop := Claim7.holds Tryd.pinned (.plain (OpenSpec.ofChange fnExactRelLiftSpec)) fnExactRelLiftCard

/-- THE SECOND FORM's CARD OF 'laws.FnGraph'. -/
def fnGraphUptoCard : Claim7 := { stood := { row := fnGraphUptoRow, standIns := [], harness := (true, "7696d834b0b5b23ddf3c6b37cdd40dc096be7fb951088cea6a1cd794df10be15"), looks := false }, kinds := [], alts := [], laidByText := true, laidKinds := [.data], laidTests := true, laidLooks := .later }
def FnGraphUptoCardSaid : Prop := Claim7.holds Tryd.pinned (.plain (OpenSpec.upto fnGraphSpec)) fnGraphUptoCard

/-- THE SECOND FORM's CARD OF 'laws.FnRelFun'. -/
def fnRelFunUptoCard : Claim7 := { stood := { row := fnRelFunUptoRow, standIns := [], harness := (true, "7696d834b0b5b23ddf3c6b37cdd40dc096be7fb951088cea6a1cd794df10be15"), looks := false }, kinds := [], alts := [], laidByText := true, laidKinds := [.data], laidTests := true, laidLooks := .later }
def FnRelFunUptoCardSaid : Prop := Claim7.holds Tryd.pinned (.plain (OpenSpec.upto fnRelFunSpec)) fnRelFunUptoCard

/-- THE SECOND FORM's CARD OF 'laws.FnExactRelSame'. -/
def fnExactRelSameUptoCard : Claim7 := { stood := { row := fnExactRelSameUptoRow, standIns := [], harness := (true, "7696d834b0b5b23ddf3c6b37cdd40dc096be7fb951088cea6a1cd794df10be15"), looks := false }, kinds := [], alts := [], laidByText := true, laidKinds := [.data], laidTests := true, laidLooks := .later }
def FnExactRelSameUptoCardSaid : Prop := Claim7.holds Tryd.pinned (.plain (OpenSpec.upto fnExactRelSameSpec)) fnExactRelSameUptoCard

/-- THE SECOND FORM's CARD OF 'laws.FnExactRelGraph'. -/
def fnExactRelGraphUptoCard : Claim7 := { stood := { row := fnExactRelGraphUptoRow, standIns := [], harness := (true, "7696d834b0b5b23ddf3c6b37cdd40dc096be7fb951088cea6a1cd794df10be15"), looks := false }, kinds := [], alts := [], laidByText := true, laidKinds := [.data], laidTests := true, laidLooks := .later }
def FnExactRelGraphUptoCardSaid : Prop := Claim7.holds Tryd.pinned (.plain (OpenSpec.upto fnExactRelGraphSpec)) fnExactRelGraphUptoCard

/-- THE SECOND FORM's CARD OF 'laws.FnExactRelBack'. -/
def fnExactRelBackUptoCard : Claim7 := { stood := { row := fnExactRelBackUptoRow, standIns := [], harness := (true, "7696d834b0b5b23ddf3c6b37cdd40dc096be7fb951088cea6a1cd794df10be15"), looks := false }, kinds := [], alts := [], laidByText := true, laidKinds := [.data], laidTests := true, laidLooks := .later }
def FnExactRelBackUptoCardSaid : Prop := Claim7.holds Tryd.pinned (.plain (OpenSpec.upto fnExactRelBackSpec)) fnExactRelBackUptoCard

/-- THE SECOND FORM's CARD OF 'laws.FnExactRelJoin'. -/
def fnExactRelJoinUptoCard : Claim7 := { stood := { row := fnExactRelJoinUptoRow, standIns := [], harness := (true, "7696d834b0b5b23ddf3c6b37cdd40dc096be7fb951088cea6a1cd794df10be15"), looks := false }, kinds := [], alts := [], laidByText := true, laidKinds := [.data], laidTests := true, laidLooks := .later }
def FnExactRelJoinUptoCardSaid : Prop := Claim7.holds Tryd.pinned (.plain (OpenSpec.upto fnExactRelJoinSpec)) fnExactRelJoinUptoCard

/-- THE SECOND FORM's CARD OF 'laws.FnExactRelFun'. -/
def fnExactRelFunUptoCard : Claim7 := { stood := { row := fnExactRelFunUptoRow, standIns := [], harness := (true, "7696d834b0b5b23ddf3c6b37cdd40dc096be7fb951088cea6a1cd794df10be15"), looks := false }, kinds := [], alts := [], laidByText := true, laidKinds := [.data], laidTests := true, laidLooks := .later }
def FnExactRelFunUptoCardSaid : Prop := Claim7.holds Tryd.pinned (.plain (OpenSpec.upto fnExactRelFunSpec)) fnExactRelFunUptoCard

/-- THE SECOND FORM's CARD OF 'laws.FnExactRelNumber'. -/
def fnExactRelNumberUptoCard : Claim7 := { stood := { row := fnExactRelNumberUptoRow, standIns := [], harness := (true, "7696d834b0b5b23ddf3c6b37cdd40dc096be7fb951088cea6a1cd794df10be15"), looks := false }, kinds := [], alts := [], laidByText := true, laidKinds := [.data], laidTests := true, laidLooks := .later }
def FnExactRelNumberUptoCardSaid : Prop := Claim7.holds Tryd.pinned (.plain (OpenSpec.upto fnExactRelNumberSpec)) fnExactRelNumberUptoCard

/-- THE SECOND FORM's CARD OF 'laws.FnExactRelated'. -/
def fnExactRelatedUptoCard : Claim7 := { stood := { row := fnExactRelatedUptoRow, standIns := [], harness := (true, "7696d834b0b5b23ddf3c6b37cdd40dc096be7fb951088cea6a1cd794df10be15"), looks := false }, kinds := [], alts := [], laidByText := true, laidKinds := [.data], laidTests := true, laidLooks := .later }
def FnExactRelatedUptoCardSaid : Prop := Claim7.holds Tryd.pinned (.plain (OpenSpec.upto fnExactRelatedSpec)) fnExactRelatedUptoCard

/-- THE SECOND FORM's CARD OF 'laws.FnExactRelLift'. -/
def fnExactRelLiftUptoCard : Claim7 := { stood := { row := fnExactRelLiftUptoRow, standIns := [], harness := (true, "7696d834b0b5b23ddf3c6b37cdd40dc096be7fb951088cea6a1cd794df10be15"), looks := false }, kinds := [], alts := [], laidByText := true, laidKinds := [.data], laidTests := true, laidLooks := .later }
def FnExactRelLiftUptoCardSaid : Prop := Claim7.holds Tryd.pinned (.plain (OpenSpec.upto fnExactRelLiftSpec)) fnExactRelLiftUptoCard
end Rows
end Go.Proofs.YtkofjodadcchhaaDoor
