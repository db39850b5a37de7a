/-
  DERIVED. GIVEN WITH THE SEED: THE CARDS: each row of YtbcgpcnbfaipbaaDoorRows.lean that lists a variable, with what it lists TIED to the program's text (the seventh form; the later family's looks); each row that meets fmt, with fmt's text TOLD by the authors' own Lean function (tested against real Go, not proved from fmt's source: count such statements apart). THE CARD IS WHAT COUNTS. Prove the row's statement (the work); the ties are given (YtbcgpcnbfaipbaaDoorTie.lean); close each card by the builder's one call (the guide's Derived/Test/ToyasCard.lean, 'card_holds'). Laid BY PROGRAM, IN A SANDBOX (cutbox-door.mjs). By AI agents, Wed Nov 11 2026. No macro, syntax, notation, axiom, sorry.
-/
import Derived.Test.YtbcgpcnbfaipbaaDoorRows
import GoSem.ClaimSeven
namespace Go.Proofs.YtbcgpcnbfaipbaaDoor
namespace Rows

/-- THE TIED CARD OF 'laws.FnExactRedexCount'. -/
def fnExactRedexCountCard : Claim7 := { stood := { row := fnExactRedexCountRow, standIns := [], harness := (true, "f04b37a01711507fd5c1309f368d6380bba14f01900785ee404085e79dc9559f"), looks := false }, kinds := [], alts := [], laidByText := true, laidKinds := [.data, .pinned], laidTests := true, laidLooks := .later }
def FnExactRedexCountCardSaid : Prop := Claim7.holds Tryd.pinned (.plain (OpenSpec.ofChange fnExactRedexCountSpec)) fnExactRedexCountCard

/-- THE TIED CARD OF 'laws.FnExactNormalIs'. -/
def fnExactNormalIsCard : Claim7 := { stood := { row := fnExactNormalIsRow, standIns := [], harness := (true, "f04b37a01711507fd5c1309f368d6380bba14f01900785ee404085e79dc9559f"), looks := false }, kinds := [], alts := [], laidByText := true, laidKinds := [.data, .pinned], laidTests := true, laidLooks := .later }
def FnExactNormalIsCardSaid : Prop := Claim7.holds Tryd.pinned (.plain (OpenSpec.ofChange fnExactNormalIsSpec)) fnExactNormalIsCard

/-- THE SECOND FORM's CARD OF 'laws.FnExactRedexCount'. -/
def fnExactRedexCountUptoCard : Claim7 := { stood := { row := fnExactRedexCountUptoRow, standIns := [], harness := (true, "f04b37a01711507fd5c1309f368d6380bba14f01900785ee404085e79dc9559f"), looks := false }, kinds := [], alts := [], laidByText := true, laidKinds := [.data, .pinned], laidTests := true, laidLooks := .later }
def FnExactRedexCountUptoCardSaid : Prop := Claim7.holds Tryd.pinned (.plain (OpenSpec.upto fnExactRedexCountSpec)) fnExactRedexCountUptoCard

/-- THE SECOND FORM's CARD OF 'laws.FnExactNormalIs'. -/
def fnExactNormalIsUptoCard : Claim7 := { stood := { row := fnExactNormalIsUptoRow, standIns := [], harness := (true, "f04b37a01711507fd5c1309f368d6380bba14f01900785ee404085e79dc9559f"), looks := false }, kinds := [], alts := [], laidByText := true, laidKinds := [.data, .pinned], laidTests := true, laidLooks := .later }
def FnExactNormalIsUptoCardSaid : Prop := Claim7.holds Tryd.pinned (.plain (OpenSpec.upto fnExactNormalIsSpec)) fnExactNormalIsUptoCard
end Rows
end Go.Proofs.YtbcgpcnbfaipbaaDoor
