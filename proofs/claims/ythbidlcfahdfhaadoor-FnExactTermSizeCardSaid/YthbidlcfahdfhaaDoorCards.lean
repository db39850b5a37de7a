/-
  DERIVED. GIVEN WITH THE SEED: THE CARDS: each row of YthbidlcfahdfhaaDoorRows.lean that lists a variable, with what it lists TIED to the program's text (the seventh form; the later family's looks); each row that meets fmt, with fmt's text TOLD by the authors' own Lean function (tested against real Go, not proved from fmt's source: count such statements apart). THE CARD IS WHAT COUNTS. Prove the row's statement (the work); the ties are given (YthbidlcfahdfhaaDoorTie.lean); close each card by the builder's one call (the guide's Derived/Test/ToyasCard.lean, 'card_holds'). Laid BY PROGRAM, IN A SANDBOX (cutbox-door.mjs). By AI agents, Wed Nov 11 2026. No macro, syntax, notation, axiom, sorry.
-/
import Derived.Test.YthbidlcfahdfhaaDoorRows
import GoSem.ClaimSeven
namespace Go.Proofs.YthbidlcfahdfhaaDoor
namespace Rows

/-- THE TIED CARD OF 'laws.FnExactTermValid'. -/
def fnExactTermValidCard : Claim7 := { stood := { row := fnExactTermValidRow, standIns := [], harness := (true, "bb79d05d6db33975b08b28ed67c095bcda0aa8e8154bdbf6b5409d583463e7f3"), looks := false }, kinds := [], alts := [], laidByText := true, laidKinds := [.data, .pinned], laidTests := true, laidLooks := .later }
def FnExactTermValidCardSaid : Prop := Claim7.holds Tryd.pinned (.plain (OpenSpec.ofChange fnExactTermValidSpec)) fnExactTermValidCard

/-- THE TIED CARD OF 'laws.FnExactTermHead'. -/
def fnExactTermHeadCard : Claim7 := { stood := { row := fnExactTermHeadRow, standIns := [], harness := (true, "bb79d05d6db33975b08b28ed67c095bcda0aa8e8154bdbf6b5409d583463e7f3"), looks := false }, kinds := [], alts := [], laidByText := true, laidKinds := [.data, .pinned], laidTests := true, laidLooks := .later }
def FnExactTermHeadCardSaid : Prop := Claim7.holds Tryd.pinned (.plain (OpenSpec.ofChange fnExactTermHeadSpec)) fnExactTermHeadCard

/-- THE TIED CARD OF 'laws.FnExactTermKids'. -/
def fnExactTermKidsCard : Claim7 := { stood := { row := fnExactTermKidsRow, standIns := [], harness := (true, "bb79d05d6db33975b08b28ed67c095bcda0aa8e8154bdbf6b5409d583463e7f3"), looks := false }, kinds := [], alts := [], laidByText := true, laidKinds := [.data, .pinned], laidTests := true, laidLooks := .later }
def FnExactTermKidsCardSaid : Prop := Claim7.holds Tryd.pinned (.plain (OpenSpec.ofChange fnExactTermKidsSpec)) fnExactTermKidsCard

/-- THE TIED CARD OF 'laws.FnExactTermFree'. -/
def fnExactTermFreeCard : Claim7 := { stood := { row := fnExactTermFreeRow, standIns := [], harness := (true, "bb79d05d6db33975b08b28ed67c095bcda0aa8e8154bdbf6b5409d583463e7f3"), looks := false }, kinds := [], alts := [], laidByText := true, laidKinds := [.data, .pinned], laidTests := true, laidLooks := .later }
def FnExactTermFreeCardSaid : Prop := Claim7.holds Tryd.pinned (.plain (OpenSpec.ofChange fnExactTermFreeSpec)) fnExactTermFreeCard

/-- THE TIED CARD OF 'laws.FnExactTermCanon'. -/
def fnExactTermCanonCard : Claim7 := { stood := { row := fnExactTermCanonRow, standIns := [], harness := (true, "bb79d05d6db33975b08b28ed67c095bcda0aa8e8154bdbf6b5409d583463e7f3"), looks := false }, kinds := [], alts := [], laidByText := true, laidKinds := [.data, .data, .data, .data, .pinned], laidTests := true, laidLooks := .later }
def FnExactTermCanonCardSaid : Prop := Claim7.holds Tryd.pinned (.plain (OpenSpec.ofChange fnExactTermCanonSpec)) fnExactTermCanonCard

/-- THE TIED CARD OF 'laws.FnExactTermAlike'. -/
def fnExactTermAlikeCard : Claim7 := { stood := { row := fnExactTermAlikeRow, standIns := [], harness := (true, "bb79d05d6db33975b08b28ed67c095bcda0aa8e8154bdbf6b5409d583463e7f3"), looks := false }, kinds := [], alts := [], laidByText := true, laidKinds := [.data, .pinned], laidTests := true, laidLooks := .later }
def FnExactTermAlikeCardSaid : Prop := Claim7.holds Tryd.pinned (.plain (OpenSpec.ofChange fnExactTermAlikeSpec)) fnExactTermAlikeCard

/-- THE TIED CARD OF 'laws.FnExactTermUses'. -/
def fnExactTermUsesCard : Claim7 := { stood := { row := fnExactTermUsesRow, standIns := [], harness := (true, "bb79d05d6db33975b08b28ed67c095bcda0aa8e8154bdbf6b5409d583463e7f3"), looks := false }, kinds := [], alts := [], laidByText := true, laidKinds := [.data, .pinned], laidTests := true, laidLooks := .later }
def FnExactTermUsesCardSaid : Prop := Claim7.holds Tryd.pinned (.plain (OpenSpec.ofChange fnExactTermUsesSpec)) fnExactTermUsesCard

/-- THE TIED CARD OF 'laws.FnExactTermSize'. -/
def fnExactTermSizeCard : Claim7 := { stood := { row := fnExactTermSizeRow, standIns := [], harness := (true, "bb79d05d6db33975b08b28ed67c095bcda0aa8e8154bdbf6b5409d583463e7f3"), looks := false }, kinds := [], alts := [], laidByText := true, laidKinds := [.data, .pinned], laidTests := true, laidLooks := .later }
def FnExactTermSizeCardSaid : Prop := Claim7.holds Tryd.pinned (.plain (OpenSpec.ofChange fnExactTermSizeSpec)) fnExactTermSizeCard

/-- THE SECOND FORM's CARD OF 'laws.FnExactTermValid'. -/
def fnExactTermValidUptoCard : Claim7 := { stood := { row := fnExactTermValidUptoRow, standIns := [], harness := (true, "bb79d05d6db33975b08b28ed67c095bcda0aa8e8154bdbf6b5409d583463e7f3"), looks := false }, kinds := [], alts := [], laidByText := true, laidKinds := [.data, .pinned], laidTests := true, laidLooks := .later }
def FnExactTermValidUptoCardSaid : Prop := Claim7.holds Tryd.pinned (.plain (OpenSpec.upto fnExactTermValidSpec)) fnExactTermValidUptoCard

/-- THE SECOND FORM's CARD OF 'laws.FnExactTermHead'. -/
def fnExactTermHeadUptoCard : Claim7 := { stood := { row := fnExactTermHeadUptoRow, standIns := [], harness := (true, "bb79d05d6db33975b08b28ed67c095bcda0aa8e8154bdbf6b5409d583463e7f3"), looks := false }, kinds := [], alts := [], laidByText := true, laidKinds := [.data, .pinned], laidTests := true, laidLooks := .later }
def FnExactTermHeadUptoCardSaid : Prop := Claim7.holds Tryd.pinned (.plain (OpenSpec.upto fnExactTermHeadSpec)) fnExactTermHeadUptoCard

/-- THE SECOND FORM's CARD OF 'laws.FnExactTermKids'. -/
def fnExactTermKidsUptoCard : Claim7 := { stood := { row := fnExactTermKidsUptoRow, standIns := [], harness := (true, "bb79d05d6db33975b08b28ed67c095bcda0aa8e8154bdbf6b5409d583463e7f3"), looks := false }, kinds := [], alts := [], laidByText := true, laidKinds := [.data, .pinned], laidTests := true, laidLooks := .later }
def FnExactTermKidsUptoCardSaid : Prop := Claim7.holds Tryd.pinned (.plain (OpenSpec.upto fnExactTermKidsSpec)) fnExactTermKidsUptoCard

/-- THE SECOND FORM's CARD OF 'laws.FnExactTermFree'. -/
def fnExactTermFreeUptoCard : Claim7 := { stood := { row := fnExactTermFreeUptoRow, standIns := [], harness := (true, "bb79d05d6db33975b08b28ed67c095bcda0aa8e8154bdbf6b5409d583463e7f3"), looks := false }, kinds := [], alts := [], laidByText := true, laidKinds := [.data, .pinned], laidTests := true, laidLooks := .later }
def FnExactTermFreeUptoCardSaid : Prop := Claim7.holds Tryd.pinned (.plain (OpenSpec.upto fnExactTermFreeSpec)) fnExactTermFreeUptoCard

/-- THE SECOND FORM's CARD OF 'laws.FnExactTermCanon'. -/
def fnExactTermCanonUptoCard : Claim7 := { stood := { row := fnExactTermCanonUptoRow, standIns := [], harness := (true, "bb79d05d6db33975b08b28ed67c095bcda0aa8e8154bdbf6b5409d583463e7f3"), looks := false }, kinds := [], alts := [], laidByText := true, laidKinds := [.data, .data, .data, .data, .pinned], laidTests := true, laidLooks := .later }
def FnExactTermCanonUptoCardSaid : Prop := Claim7.holds Tryd.pinned (.plain (OpenSpec.upto fnExactTermCanonSpec)) fnExactTermCanonUptoCard

/-- THE SECOND FORM's CARD OF 'laws.FnExactTermAlike'. -/
def fnExactTermAlikeUptoCard : Claim7 := { stood := { row := fnExactTermAlikeUptoRow, standIns := [], harness := (true, "bb79d05d6db33975b08b28ed67c095bcda0aa8e8154bdbf6b5409d583463e7f3"), looks := false }, kinds := [], alts := [], laidByText := true, laidKinds := [.data, .pinned], laidTests := true, laidLooks := .later }
def FnExactTermAlikeUptoCardSaid : Prop := Claim7.holds Tryd.pinned (.plain (OpenSpec.upto fnExactTermAlikeSpec)) fnExactTermAlikeUptoCard

/-- THE SECOND FORM's CARD OF 'laws.FnExactTermUses'. -/
def fnExactTermUsesUptoCard : Claim7 := { stood := { row := fnExactTermUsesUptoRow, standIns := [], harness := (true, "bb79d05d6db33975b08b28ed67c095bcda0aa8e8154bdbf6b5409d583463e7f3"), looks := false }, kinds := [], alts := [], laidByText := true, laidKinds := [.data, .pinned], laidTests := true, laidLooks := .later }
def FnExactTermUsesUptoCardSaid : Prop := Claim7.holds Tryd.pinned (.plain (OpenSpec.upto fnExactTermUsesSpec)) fnExactTermUsesUptoCard

/-- THE SECOND FORM's CARD OF 'laws.FnExactTermSize'. -/
def fnExactTermSizeUptoCard : Claim7 := { stood := { row := fnExactTermSizeUptoRow, standIns := [], harness := (true, "bb79d05d6db33975b08b28ed67c095bcda0aa8e8154bdbf6b5409d583463e7f3"), looks := false }, kinds := [], alts := [], laidByText := true, laidKinds := [.data, .pinned], laidTests := true, laidLooks := .later }
def FnExactTermSizeUptoCardSaid : Prop := Claim7.holds Tryd.pinned (.plain (OpenSpec.upto fnExactTermSizeSpec)) fnExactTermSizeUptoCard
end Rows
end Go.Proofs.YthbidlcfahdfhaaDoor
