/-
  No cell of these rows narrows 'for every input' (looked for: loops, veiled, ifaces, maps, wideKeys, modest, calm, conditions, laid).
  DERIVED. THE GIVEN ROWS OF THIS SEAT. 4 by the template 'for every input the law returns true; each argument reads behind the call as it read before'; 0 by the template 'total and deterministic' (their statements: YtkofjodadcchhaaTotals.lean).
  GIVEN WITH THE SEED: the statements are not yours to turn. If you find one false, say at which input.
  Laid BY PROGRAM, IN A SANDBOX (cutbox-rows.mjs): the forced cells as the released guide's own fill.sh prints them over the translation a6e1f8385134b831… (all of the seat's roots in one cut). By AI agents, Wed Nov 11 2026. No macro, syntax, notation, axiom, sorry.
-/
import Derived.Test.YtkofjodadcchhaaChecked
import GoSem.Claim
import GoSem.ClaimJoined
import GoSem.ClaimMapViews
import Derived.JoinedTies
import Derived.KernelRfl
namespace Go.Proofs.Ytkofjodadcchhaa
/- THE CELL 'sum', in the pinned program and in every row, IS THE sha256 OF THE DUMP (.gsa) THAT YtkofjodadcchhaaProg.lean LOADS. Nothing in Lean hashes anything: it is a label: what it is worth is what the hold of that sum in a sandbox is worth. -/
noncomputable def Try.pinned : Pinned := { name := "ytkofjodadcchhaa", sum := "a6e1f8385134b8316160ee8eb54ee0b065adb6c6cd04ed02af33f5c8a43b6419", checked := Try.checked }
namespace Rows
def none {H : Type} : Left H := { results := [], args := [] }

/-- 'laws.FnExactTypeJoin': WHATEVER THE INPUT: true; the input reads as it did. -/
def fnExactTypeJoinSpec : ChangeSpec := { name := "fnExactTypeJoin", fn := fun _ => fun
  | [d1, d2] => { results := [.lit (.bool true)], args := [d1, d2] }
  | _ => none }
def fnExactTypeJoinRow : OpenClaim := { program := "ytkofjodadcchhaa", sum := "a6e1f8385134b8316160ee8eb54ee0b065adb6c6cd04ed02af33f5c8a43b6419", func := "loop.example/parametric/laws.FnExactTypeJoin", spec := "fnExactTypeJoin", inPlace := ["internal/bytealg.IndexByteString"], recurses := true, plainKeys := false, apart := false }
def FnExactTypeJoinSaid : Prop := fnExactTypeJoinRow.holds Try.pinned (OpenSpec.ofChange fnExactTypeJoinSpec)

/-- ITS FALSE NEIGHBOUR: 'it returns false'. Refute it at one input. -/
def fnExactTypeJoinWrong : ChangeSpec := { name := "fnExactTypeJoin", fn := fun _ => fun
  | [d1, d2] => { results := [.lit (.bool false)], args := [d1, d2] }
  | _ => none }
def FnExactTypeJoinWrongFalsely : Prop := fnExactTypeJoinRow.holds Try.pinned (OpenSpec.ofChange fnExactTypeJoinWrong)

/-- 'laws.FnExactTypeApart': WHATEVER THE INPUT: true; the input reads as it did. -/
def fnExactTypeApartSpec : ChangeSpec := { name := "fnExactTypeApart", fn := fun _ => fun
  | [d1, d2] => { results := [.lit (.bool true)], args := [d1, d2] }
  | _ => none }
def fnExactTypeApartRow : OpenClaim := { program := "ytkofjodadcchhaa", sum := "a6e1f8385134b8316160ee8eb54ee0b065adb6c6cd04ed02af33f5c8a43b6419", func := "loop.example/parametric/laws.FnExactTypeApart", spec := "fnExactTypeApart", inPlace := ["internal/bytealg.IndexByteString"], recurses := true, plainKeys := false, apart := false }
def FnExactTypeApartSaid : Prop := fnExactTypeApartRow.holds Try.pinned (OpenSpec.ofChange fnExactTypeApartSpec)

/-- ITS FALSE NEIGHBOUR: 'it returns false'. Refute it at one input. -/
def fnExactTypeApartWrong : ChangeSpec := { name := "fnExactTypeApart", fn := fun _ => fun
  | [d1, d2] => { results := [.lit (.bool false)], args := [d1, d2] }
  | _ => none }
def FnExactTypeApartWrongFalsely : Prop := fnExactTypeApartRow.holds Try.pinned (OpenSpec.ofChange fnExactTypeApartWrong)

/-- 'laws.FnExactRelValid': WHATEVER THE INPUT: true; the input reads as it did. -/
def fnExactRelValidSpec : ChangeSpec := { name := "fnExactRelValid", fn := fun _ => fun
  | [d] => { results := [.lit (.bool true)], args := [d] }
  | _ => none }
def fnExactRelValidRow : OpenClaim := { program := "ytkofjodadcchhaa", sum := "a6e1f8385134b8316160ee8eb54ee0b065adb6c6cd04ed02af33f5c8a43b6419", func := "loop.example/parametric/laws.FnExactRelValid", spec := "fnExactRelValid", plainKeys := false, apart := false }
def FnExactRelValidSaid : Prop := fnExactRelValidRow.holds Try.pinned (OpenSpec.ofChange fnExactRelValidSpec)

/-- ITS FALSE NEIGHBOUR: 'it returns false'. Refute it at one input. -/
def fnExactRelValidWrong : ChangeSpec := { name := "fnExactRelValid", fn := fun _ => fun
  | [d] => { results := [.lit (.bool false)], args := [d] }
  | _ => none }
def FnExactRelValidWrongFalsely : Prop := fnExactRelValidRow.holds Try.pinned (OpenSpec.ofChange fnExactRelValidWrong)

/-- 'laws.FnExactRelHas': WHATEVER THE INPUT: true; the input reads as it did. -/
def fnExactRelHasSpec : ChangeSpec := { name := "fnExactRelHas", fn := fun _ => fun
  | [d1, d2, d3] => { results := [.lit (.bool true)], args := [d1, d2, d3] }
  | _ => none }
def fnExactRelHasRow : OpenClaim := { program := "ytkofjodadcchhaa", sum := "a6e1f8385134b8316160ee8eb54ee0b065adb6c6cd04ed02af33f5c8a43b6419", func := "loop.example/parametric/laws.FnExactRelHas", spec := "fnExactRelHas", plainKeys := false, apart := false }
def FnExactRelHasSaid : Prop := fnExactRelHasRow.holds Try.pinned (OpenSpec.ofChange fnExactRelHasSpec)

/-- ITS FALSE NEIGHBOUR: 'it returns false'. Refute it at one input. -/
def fnExactRelHasWrong : ChangeSpec := { name := "fnExactRelHas", fn := fun _ => fun
  | [d1, d2, d3] => { results := [.lit (.bool false)], args := [d1, d2, d3] }
  | _ => none }
def FnExactRelHasWrongFalsely : Prop := fnExactRelHasRow.holds Try.pinned (OpenSpec.ofChange fnExactRelHasWrong)

/- THE SECOND FORM. 'bulk': how many values and letters a reading holds, each counted each time it is reached (what is shared counts as often as it is met; a slice's spare places count too). A statement '..UptoSaid' is the law's where the arguments, and the package variables that the reading takes, are together of bulk at most 1048576: NARROWER than '..Said'. Prove '..Said' where nothing that the law and all that it calls make is longer than what came in: it says more and counts as full. Else prove '..UptoSaid'. A law counts once. -/
mutual
def uptoBulk {H : Type} : DataW H → Nat
  | .lit (.string bytes) => bytes.length + 1
  | .lit _ => 1
  | .nil => 1
  | .ptr d => uptoBulk d + 1
  | .slice elems spare => uptoBulkAll elems + uptoBulkAll spare + 1
  | .agg parts => uptoBulkAll parts + 1
  | .iface _ d => uptoBulk d + 1
  | .map entries => uptoBulkEntries entries + 1
  | .held _ => 1
def uptoBulkAll {H : Type} : List (DataW H) → Nat
  | [] => 0
  | d :: r => uptoBulk d + uptoBulkAll r
def uptoBulkEntries {H : Type} : List (Lit × DataW H) → Nat
  | [] => 0
  | x :: r => uptoBulkEntry x + uptoBulkEntries r
def uptoBulkEntry {H : Type} : Lit × DataW H → Nat
  | (.string bytes, d) => bytes.length + uptoBulk d + 1
  | (_, d) => uptoBulk d + 1
 end
def uptoSmall : (H : Type) → List (DataW H) → Bool := fun _ ds => decide (uptoBulkAll ds ≤ 1048576)
def OpenSpec.upto (s : _root_.Go.ChangeSpec) : _root_.Go.OpenSpec := { _root_.Go.OpenSpec.ofChange s with cond := some uptoSmall }

/-- 'laws.FnExactTypeJoin', WHERE WHAT IT READS IS OF BULK AT MOST 1048576: true; the input reads as it did. -/
def fnExactTypeJoinUptoRow : OpenClaim := { program := "ytkofjodadcchhaa", sum := "a6e1f8385134b8316160ee8eb54ee0b065adb6c6cd04ed02af33f5c8a43b6419", func := "loop.example/parametric/laws.FnExactTypeJoin", spec := "fnExactTypeJoin", inPlace := ["internal/bytealg.IndexByteString"], recurses := true, plainKeys := false, apart := false, narrowed := true }
def FnExactTypeJoinUptoSaid : Prop := fnExactTypeJoinUptoRow.holds Try.pinned (OpenSpec.upto fnExactTypeJoinSpec)

/-- 'laws.FnExactTypeApart', WHERE WHAT IT READS IS OF BULK AT MOST 1048576: true; the input reads as it did. -/
def fnExactTypeApartUptoRow : OpenClaim := { program := "ytkofjodadcchhaa", sum := "a6e1f8385134b8316160ee8eb54ee0b065adb6c6cd04ed02af33f5c8a43b6419", func := "loop.example/parametric/laws.FnExactTypeApart", spec := "fnExactTypeApart", inPlace := ["internal/bytealg.IndexByteString"], recurses := true, plainKeys := false, apart := false, narrowed := true }
def FnExactTypeApartUptoSaid : Prop := fnExactTypeApartUptoRow.holds Try.pinned (OpenSpec.upto fnExactTypeApartSpec)

/-- 'laws.FnExactRelValid', WHERE WHAT IT READS IS OF BULK AT MOST 1048576: true; the input reads as it did. -/
def fnExactRelValidUptoRow : OpenClaim := { program := "ytkofjodadcchhaa", sum := "a6e1f8385134b8316160ee8eb54ee0b065adb6c6cd04ed02af33f5c8a43b6419", func := "loop.example/parametric/laws.FnExactRelValid", spec := "fnExactRelValid", plainKeys := false, apart := false, narrowed := true }
def FnExactRelValidUptoSaid : Prop := fnExactRelValidUptoRow.holds Try.pinned (OpenSpec.upto fnExactRelValidSpec)

/-- 'laws.FnExactRelHas', WHERE WHAT IT READS IS OF BULK AT MOST 1048576: true; the input reads as it did. -/
def fnExactRelHasUptoRow : OpenClaim := { program := "ytkofjodadcchhaa", sum := "a6e1f8385134b8316160ee8eb54ee0b065adb6c6cd04ed02af33f5c8a43b6419", func := "loop.example/parametric/laws.FnExactRelHas", spec := "fnExactRelHas", plainKeys := false, apart := false, narrowed := true }
def FnExactRelHasUptoSaid : Prop := fnExactRelHasUptoRow.holds Try.pinned (OpenSpec.upto fnExactRelHasSpec)

end Rows
end Go.Proofs.Ytkofjodadcchhaa
