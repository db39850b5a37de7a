/-
  DERIVED. GIVEN WITH THE SEED: THE CARDS: each row of YtloecimlimoanaaDoorRows.lean that lists a variable, with what it lists TIED to the program's text (the seventh form; the later family's looks); each row that meets fmt, with fmt's text TOLD by the authors' own Lean function (tested against real Go, not proved from fmt's source: count such statements apart). THE CARD IS WHAT COUNTS. Prove the row's statement (the work); the ties are given (YtloecimlimoanaaDoorTie.lean); close each card by the builder's one call (the guide's Derived/Test/ToyasCard.lean, 'card_holds'). Laid BY PROGRAM, IN A SANDBOX (cutbox-door.mjs). By AI agents, Wed Nov 11 2026. No macro, syntax, notation, axiom, sorry.
-/
import Derived.Test.YtloecimlimoanaaDoorRows
import GoSem.ClaimSeven
namespace Go.Proofs.YtloecimlimoanaaDoor
namespace Rows

/-- THE TIED CARD OF 'laws.FnRelated'. -/
def fnRelatedCard : Claim7 := { stood := { row := fnRelatedRow, standIns := [], harness := (true, "a604b90eee1050c04cea1f4a9eb019617fa5c978a9adb04873ad8b844d3f9099"), looks := false }, kinds := [], alts := [], laidByText := true, laidKinds := [.data], laidTests := true, laidLooks := .later }
def FnRelatedCardSaid : Prop := Claim7.holds Tryd.pinned (.plain (OpenSpec.ofChange fnRelatedSpec)) fnRelatedCard

/-- THE TIED CARD OF 'laws.FnLift'. -/
def fnLiftCard : Claim7 := { stood := { row := fnLiftRow, standIns := [], harness := (true, "a604b90eee1050c04cea1f4a9eb019617fa5c978a9adb04873ad8b844d3f9099"), looks := false }, kinds := [], alts := [], laidByText := true, laidKinds := [.data], laidTests := true, laidLooks := .later }
def FnLiftCardSaid : Prop := Claim7.holds Tryd.pinned (.plain (OpenSpec.ofChange fnLiftSpec)) fnLiftCard

/-- THE TIED CARD OF 'laws.FnIdentity'. -/
def fnIdentityCard : Claim7 := { stood := { row := fnIdentityRow, standIns := [], harness := (true, "a604b90eee1050c04cea1f4a9eb019617fa5c978a9adb04873ad8b844d3f9099"), looks := false }, kinds := [], alts := [], laidByText := true, laidKinds := [.data], laidTests := true, laidLooks := .later }
def FnIdentityCardSaid : Prop := Claim7.holds Tryd.pinned (.plain (OpenSpec.ofChange fnIdentitySpec)) fnIdentityCard

/-- THE TIED CARD OF 'laws.FnLarger'. -/
def fnLargerCard : Claim7 := { stood := { row := fnLargerRow, standIns := [], harness := (true, "a604b90eee1050c04cea1f4a9eb019617fa5c978a9adb04873ad8b844d3f9099"), looks := false }, kinds := [], alts := [], laidByText := true, laidKinds := [.data], laidTests := true, laidLooks := .later }
def FnLargerCardSaid : Prop := Claim7.holds Tryd.pinned (.plain (OpenSpec.ofChange fnLargerSpec)) fnLargerCard

/-- THE TIED CARD OF 'laws.FnParamPair'. -/
def fnParamPairCard : Claim7 := { stood := { row := fnParamPairRow, standIns := [], harness := (true, "a604b90eee1050c04cea1f4a9eb019617fa5c978a9adb04873ad8b844d3f9099"), looks := false }, kinds := [], alts := [], laidByText := true, laidKinds := [.data], laidTests := true, laidLooks := .later }
def FnParamPairCardSaid : Prop := Claim7.holds Tryd.pinned (.plain (OpenSpec.ofChange fnParamPairSpec)) fnParamPairCard

/-- THE TIED CARD OF 'laws.FnParamIs'. -/
def fnParamIsCard : Claim7 := { stood := { row := fnParamIsRow, standIns := [], harness := (true, "a604b90eee1050c04cea1f4a9eb019617fa5c978a9adb04873ad8b844d3f9099"), looks := false }, kinds := [], alts := [], laidByText := true, laidKinds := [.data], laidTests := true, laidLooks := .later }
def FnParamIsCardSaid : Prop := Claim7.holds Tryd.pinned (.plain (OpenSpec.ofChange fnParamIsSpec)) fnParamIsCard

/-- THE TIED CARD OF 'laws.FnModuleAlike'. -/
def fnModuleAlikeCard : Claim7 := { stood := { row := fnModuleAlikeRow, standIns := [], harness := (true, "a604b90eee1050c04cea1f4a9eb019617fa5c978a9adb04873ad8b844d3f9099"), looks := false }, kinds := [], alts := [], laidByText := true, laidKinds := [.data], laidTests := true, laidLooks := .later }
def FnModuleAlikeCardSaid : Prop := Claim7.holds Tryd.pinned (.plain (OpenSpec.ofChange fnModuleAlikeSpec)) fnModuleAlikeCard

/-- THE TIED CARD OF 'laws.FnExactRelated'. -/
def fnExactRelatedCard : Claim7 := { stood := { row := fnExactRelatedRow, standIns := [], harness := (true, "a604b90eee1050c04cea1f4a9eb019617fa5c978a9adb04873ad8b844d3f9099"), looks := false }, kinds := [], alts := [], laidByText := true, laidKinds := [.data], laidTests := true, laidLooks := .later }
def FnExactRelatedCardSaid : Prop := Claim7.holds Tryd.pinned (.plain (OpenSpec.ofChange fnExactRelatedSpec)) fnExactRelatedCard

/-- THE TIED CARD OF 'laws.FnExactRelLift'. -/
def fnExactRelLiftCard : Claim7 := { stood := { row := fnExactRelLiftRow, standIns := [], harness := (true, "a604b90eee1050c04cea1f4a9eb019617fa5c978a9adb04873ad8b844d3f9099"), looks := false }, kinds := [], alts := [], laidByText := true, laidKinds := [.data], laidTests := true, laidLooks := .later }
def FnExactRelLiftCardSaid : Prop := Claim7.holds Tryd.pinned (.plain (OpenSpec.ofChange fnExactRelLiftSpec)) fnExactRelLiftCard

/-- THE SECOND FORM's CARD OF 'laws.FnRelated'. -/
def fnRelatedUptoCard : Claim7 := { stood := { row := fnRelatedUptoRow, standIns := [], harness := (true, "a604b90eee1050c04cea1f4a9eb019617fa5c978a9adb04873ad8b844d3f9099"), looks := false }, kinds := [], alts := [], laidByText := true, laidKinds := [.data], laidTests := true, laidLooks := .later }
def FnRelatedUptoCardSaid : Prop := Claim7.holds Tryd.pinned (.plain (OpenSpec.upto fnRelatedSpec)) fnRelatedUptoCard

/-- THE SECOND FORM's CARD OF 'laws.FnLift'. -/
def fnLiftUptoCard : Claim7 := { stood := { row := fnLiftUptoRow, standIns := [], harness := (true, "a604b90eee1050c04cea1f4a9eb019617fa5c978a9adb04873ad8b844d3f9099"), looks := false }, kinds := [], alts := [], laidByText := true, laidKinds := [.data], laidTests := true, laidLooks := .later }
def FnLiftUptoCardSaid : Prop := Claim7.holds Tryd.pinned (.plain (OpenSpec.upto fnLiftSpec)) fnLiftUptoCard

/-- THE SECOND FORM's CARD OF 'laws.FnIdentity'. -/
def fnIdentityUptoCard : Claim7 := { stood := { row := fnIdentityUptoRow, standIns := [], harness := (true, "a604b90eee1050c04cea1f4a9eb019617fa5c978a9adb04873ad8b844d3f9099"), looks := false }, kinds := [], alts := [], laidByText := true, laidKinds := [.data], laidTests := true, laidLooks := .later }
def FnIdentityUptoCardSaid : Prop := Claim7.holds Tryd.pinned (.plain (OpenSpec.upto fnIdentitySpec)) fnIdentityUptoCard

/-- THE SECOND FORM's CARD OF 'laws.FnLarger'. -/
def fnLargerUptoCard : Claim7 := { stood := { row := fnLargerUptoRow, standIns := [], harness := (true, "a604b90eee1050c04cea1f4a9eb019617fa5c978a9adb04873ad8b844d3f9099"), looks := false }, kinds := [], alts := [], laidByText := true, laidKinds := [.data], laidTests := true, laidLooks := .later }
def FnLargerUptoCardSaid : Prop := Claim7.holds Tryd.pinned (.plain (OpenSpec.upto fnLargerSpec)) fnLargerUptoCard

/-- THE SECOND FORM's CARD OF 'laws.FnParamPair'. -/
def fnParamPairUptoCard : Claim7 := { stood := { row := fnParamPairUptoRow, standIns := [], harness := (true, "a604b90eee1050c04cea1f4a9eb019617fa5c978a9adb04873ad8b844d3f9099"), looks := false }, kinds := [], alts := [], laidByText := true, laidKinds := [.data], laidTests := true, laidLooks := .later }
def FnParamPairUptoCardSaid : Prop := Claim7.holds Tryd.pinned (.plain (OpenSpec.upto fnParamPairSpec)) fnParamPairUptoCard

/-- THE SECOND FORM's CARD OF 'laws.FnParamIs'. -/
def fnParamIsUptoCard : Claim7 := { stood := { row := fnParamIsUptoRow, standIns := [], harness := (true, "a604b90eee1050c04cea1f4a9eb019617fa5c978a9adb04873ad8b844d3f9099"), looks := false }, kinds := [], alts := [], laidByText := true, laidKinds := [.data], laidTests := true, laidLooks := .later }
def FnParamIsUptoCardSaid : Prop := Claim7.holds Tryd.pinned (.plain (OpenSpec.upto fnParamIsSpec)) fnParamIsUptoCard

/-- THE SECOND FORM's CARD OF 'laws.FnModuleAlike'. -/
def fnModuleAlikeUptoCard : Claim7 := { stood := { row := fnModuleAlikeUptoRow, standIns := [], harness := (true, "a604b90eee1050c04cea1f4a9eb019617fa5c978a9adb04873ad8b844d3f9099"), looks := false }, kinds := [], alts := [], laidByText := true, laidKinds := [.data], laidTests := true, laidLooks := .later }
def FnModuleAlikeUptoCardSaid : Prop := Claim7.holds Tryd.pinned (.plain (OpenSpec.upto fnModuleAlikeSpec)) fnModuleAlikeUptoCard

/-- THE SECOND FORM's CARD OF 'laws.FnExactRelated'. -/
def fnExactRelatedUptoCard : Claim7 := { stood := { row := fnExactRelatedUptoRow, standIns := [], harness := (true, "a604b90eee1050c04cea1f4a9eb019617fa5c978a9adb04873ad8b844d3f9099"), looks := false }, kinds := [], alts := [], laidByText := true, laidKinds := [.data], laidTests := true, laidLooks := .later }
def FnExactRelatedUptoCardSaid : Prop := Claim7.holds Tryd.pinned (.plain (OpenSpec.upto fnExactRelatedSpec)) fnExactRelatedUptoCard

/-- THE SECOND FORM's CARD OF 'laws.FnExactRelLift'. -/
def fnExactRelLiftUptoCard : Claim7 := { stood := { row := fnExactRelLiftUptoRow, standIns := [], harness := (true, "a604b90eee1050c04cea1f4a9eb019617fa5c978a9adb04873ad8b844d3f9099"), looks := false }, kinds := [], alts := [], laidByText := true, laidKinds := [.data], laidTests := true, laidLooks := .later }
def FnExactRelLiftUptoCardSaid : Prop := Claim7.holds Tryd.pinned (.plain (OpenSpec.upto fnExactRelLiftSpec)) fnExactRelLiftUptoCard
end Rows
end Go.Proofs.YtloecimlimoanaaDoor
