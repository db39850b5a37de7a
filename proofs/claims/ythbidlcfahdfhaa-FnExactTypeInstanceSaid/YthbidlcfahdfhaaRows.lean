/-
  No cell of these rows narrows 'for every input' (looked for: loops, veiled, ifaces, maps, wideKeys, modest, calm, conditions, laid).
  DERIVED. THE GIVEN ROWS OF THIS SEAT. 14 by the template 'for every input the law returns true; each argument reads behind the call as it read before'; 0 by the template 'total and deterministic' (their statements: YthbidlcfahdfhaaTotals.lean).
  GIVEN WITH THE SEED: the statements are not yours to turn. If you find one false, say at which input.
  Laid BY PROGRAM, IN A SANDBOX (cutbox-rows.mjs): the forced cells as the released guide's own fill.sh prints them over the translation cfd5d2bd74aebb41… (all of the seat's roots in one cut). By AI agents, Wed Nov 11 2026. No macro, syntax, notation, axiom, sorry.
-/
import Derived.Test.YthbidlcfahdfhaaChecked
import GoSem.Claim
import GoSem.ClaimJoined
import GoSem.ClaimMapViews
import Derived.JoinedTies
import Derived.KernelRfl
namespace Go.Proofs.Ythbidlcfahdfhaa
/- THE CELL 'sum', in the pinned program and in every row, IS THE sha256 OF THE DUMP (.gsa) THAT YthbidlcfahdfhaaProg.lean LOADS. Nothing in Lean hashes anything: it is a label: what it is worth is what the hold of that sum in a sandbox is worth. -/
noncomputable def Try.pinned : Pinned := { name := "ythbidlcfahdfhaa", sum := "cfd5d2bd74aebb41ca3325aa7c41107a6288783a540acc426071048098ae9f02", checked := Try.checked }
namespace Rows
def none {H : Type} : Left H := { results := [], args := [] }

/-- 'laws.FnJoin': WHATEVER THE INPUT: true; the input reads as it did. -/
def fnJoinSpec : ChangeSpec := { name := "fnJoin", fn := fun _ => fun
  | [d] => { results := [.lit (.bool true)], args := [d] }
  | _ => none }
def fnJoinRow : OpenClaim := { program := "ythbidlcfahdfhaa", sum := "cfd5d2bd74aebb41ca3325aa7c41107a6288783a540acc426071048098ae9f02", func := "loop.example/parametric/laws.FnJoin", spec := "fnJoin", inPlace := ["internal/bytealg.IndexByteString"], recurses := true, plainKeys := false, apart := false }
def FnJoinSaid : Prop := fnJoinRow.holds Try.pinned (OpenSpec.ofChange fnJoinSpec)

/-- ITS FALSE NEIGHBOUR: 'it returns false'. Refute it at one input. -/
def fnJoinWrong : ChangeSpec := { name := "fnJoin", fn := fun _ => fun
  | [d] => { results := [.lit (.bool false)], args := [d] }
  | _ => none }
def FnJoinWrongFalsely : Prop := fnJoinRow.holds Try.pinned (OpenSpec.ofChange fnJoinWrong)

/-- 'laws.FnPositive': WHATEVER THE INPUT: true; the input reads as it did. -/
def fnPositiveSpec : ChangeSpec := { name := "fnPositive", fn := fun _ => fun
  | [d] => { results := [.lit (.bool true)], args := [d] }
  | _ => none }
def fnPositiveRow : OpenClaim := { program := "ythbidlcfahdfhaa", sum := "cfd5d2bd74aebb41ca3325aa7c41107a6288783a540acc426071048098ae9f02", func := "loop.example/parametric/laws.FnPositive", spec := "fnPositive", inPlace := ["internal/bytealg.IndexByteString"], recurses := true, plainKeys := false, apart := false }
def FnPositiveSaid : Prop := fnPositiveRow.holds Try.pinned (OpenSpec.ofChange fnPositiveSpec)

/-- ITS FALSE NEIGHBOUR: 'it returns false'. Refute it at one input. -/
def fnPositiveWrong : ChangeSpec := { name := "fnPositive", fn := fun _ => fun
  | [d] => { results := [.lit (.bool false)], args := [d] }
  | _ => none }
def FnPositiveWrongFalsely : Prop := fnPositiveRow.holds Try.pinned (OpenSpec.ofChange fnPositiveWrong)

/-- 'laws.FnExactTypeValid': WHATEVER THE INPUT: true; the input reads as it did. -/
def fnExactTypeValidSpec : ChangeSpec := { name := "fnExactTypeValid", fn := fun _ => fun
  | [d] => { results := [.lit (.bool true)], args := [d] }
  | _ => none }
def fnExactTypeValidRow : OpenClaim := { program := "ythbidlcfahdfhaa", sum := "cfd5d2bd74aebb41ca3325aa7c41107a6288783a540acc426071048098ae9f02", func := "loop.example/parametric/laws.FnExactTypeValid", spec := "fnExactTypeValid", inPlace := ["internal/bytealg.IndexByteString"], recurses := true, plainKeys := false, apart := false }
def FnExactTypeValidSaid : Prop := fnExactTypeValidRow.holds Try.pinned (OpenSpec.ofChange fnExactTypeValidSpec)

/-- ITS FALSE NEIGHBOUR: 'it returns false'. Refute it at one input. -/
def fnExactTypeValidWrong : ChangeSpec := { name := "fnExactTypeValid", fn := fun _ => fun
  | [d] => { results := [.lit (.bool false)], args := [d] }
  | _ => none }
def FnExactTypeValidWrongFalsely : Prop := fnExactTypeValidRow.holds Try.pinned (OpenSpec.ofChange fnExactTypeValidWrong)

/-- 'laws.FnExactTypeVars': WHATEVER THE INPUT: true; the input reads as it did. -/
def fnExactTypeVarsSpec : ChangeSpec := { name := "fnExactTypeVars", fn := fun _ => fun
  | [d] => { results := [.lit (.bool true)], args := [d] }
  | _ => none }
def fnExactTypeVarsRow : OpenClaim := { program := "ythbidlcfahdfhaa", sum := "cfd5d2bd74aebb41ca3325aa7c41107a6288783a540acc426071048098ae9f02", func := "loop.example/parametric/laws.FnExactTypeVars", spec := "fnExactTypeVars", inPlace := ["internal/bytealg.IndexByteString"], recurses := true, plainKeys := false, apart := false }
def FnExactTypeVarsSaid : Prop := fnExactTypeVarsRow.holds Try.pinned (OpenSpec.ofChange fnExactTypeVarsSpec)

/-- ITS FALSE NEIGHBOUR: 'it returns false'. Refute it at one input. -/
def fnExactTypeVarsWrong : ChangeSpec := { name := "fnExactTypeVars", fn := fun _ => fun
  | [d] => { results := [.lit (.bool false)], args := [d] }
  | _ => none }
def FnExactTypeVarsWrongFalsely : Prop := fnExactTypeVarsRow.holds Try.pinned (OpenSpec.ofChange fnExactTypeVarsWrong)

/-- 'laws.FnExactTypeParts': WHATEVER THE INPUT: true; the input reads as it did. -/
def fnExactTypePartsSpec : ChangeSpec := { name := "fnExactTypeParts", fn := fun _ => fun
  | [d] => { results := [.lit (.bool true)], args := [d] }
  | _ => none }
def fnExactTypePartsRow : OpenClaim := { program := "ythbidlcfahdfhaa", sum := "cfd5d2bd74aebb41ca3325aa7c41107a6288783a540acc426071048098ae9f02", func := "loop.example/parametric/laws.FnExactTypeParts", spec := "fnExactTypeParts", inPlace := ["internal/bytealg.IndexByteString"], recurses := true, plainKeys := false, apart := false }
def FnExactTypePartsSaid : Prop := fnExactTypePartsRow.holds Try.pinned (OpenSpec.ofChange fnExactTypePartsSpec)

/-- ITS FALSE NEIGHBOUR: 'it returns false'. Refute it at one input. -/
def fnExactTypePartsWrong : ChangeSpec := { name := "fnExactTypeParts", fn := fun _ => fun
  | [d] => { results := [.lit (.bool false)], args := [d] }
  | _ => none }
def FnExactTypePartsWrongFalsely : Prop := fnExactTypePartsRow.holds Try.pinned (OpenSpec.ofChange fnExactTypePartsWrong)

/-- 'laws.FnExactTypeCanon': WHATEVER THE INPUT: true; the input reads as it did. -/
def fnExactTypeCanonSpec : ChangeSpec := { name := "fnExactTypeCanon", fn := fun _ => fun
  | [d] => { results := [.lit (.bool true)], args := [d] }
  | _ => none }
def fnExactTypeCanonRow : OpenClaim := { program := "ythbidlcfahdfhaa", sum := "cfd5d2bd74aebb41ca3325aa7c41107a6288783a540acc426071048098ae9f02", func := "loop.example/parametric/laws.FnExactTypeCanon", spec := "fnExactTypeCanon", inPlace := ["internal/bytealg.IndexByteString"], recurses := true, plainKeys := false, apart := false }
def FnExactTypeCanonSaid : Prop := fnExactTypeCanonRow.holds Try.pinned (OpenSpec.ofChange fnExactTypeCanonSpec)

/-- ITS FALSE NEIGHBOUR: 'it returns false'. Refute it at one input. -/
def fnExactTypeCanonWrong : ChangeSpec := { name := "fnExactTypeCanon", fn := fun _ => fun
  | [d] => { results := [.lit (.bool false)], args := [d] }
  | _ => none }
def FnExactTypeCanonWrongFalsely : Prop := fnExactTypeCanonRow.holds Try.pinned (OpenSpec.ofChange fnExactTypeCanonWrong)

/-- 'laws.FnExactTypeAlike': WHATEVER THE INPUT: true; the input reads as it did. -/
def fnExactTypeAlikeSpec : ChangeSpec := { name := "fnExactTypeAlike", fn := fun _ => fun
  | [d1, d2] => { results := [.lit (.bool true)], args := [d1, d2] }
  | _ => none }
def fnExactTypeAlikeRow : OpenClaim := { program := "ythbidlcfahdfhaa", sum := "cfd5d2bd74aebb41ca3325aa7c41107a6288783a540acc426071048098ae9f02", func := "loop.example/parametric/laws.FnExactTypeAlike", spec := "fnExactTypeAlike", inPlace := ["internal/bytealg.IndexByteString"], recurses := true, plainKeys := false, apart := false }
def FnExactTypeAlikeSaid : Prop := fnExactTypeAlikeRow.holds Try.pinned (OpenSpec.ofChange fnExactTypeAlikeSpec)

/-- ITS FALSE NEIGHBOUR: 'it returns false'. Refute it at one input. -/
def fnExactTypeAlikeWrong : ChangeSpec := { name := "fnExactTypeAlike", fn := fun _ => fun
  | [d1, d2] => { results := [.lit (.bool false)], args := [d1, d2] }
  | _ => none }
def FnExactTypeAlikeWrongFalsely : Prop := fnExactTypeAlikeRow.holds Try.pinned (OpenSpec.ofChange fnExactTypeAlikeWrong)

/-- 'laws.FnExactTypePut': WHATEVER THE INPUT: true; the input reads as it did. -/
def fnExactTypePutSpec : ChangeSpec := { name := "fnExactTypePut", fn := fun _ => fun
  | [d1, d2, d3] => { results := [.lit (.bool true)], args := [d1, d2, d3] }
  | _ => none }
def fnExactTypePutRow : OpenClaim := { program := "ythbidlcfahdfhaa", sum := "cfd5d2bd74aebb41ca3325aa7c41107a6288783a540acc426071048098ae9f02", func := "loop.example/parametric/laws.FnExactTypePut", spec := "fnExactTypePut", inPlace := ["internal/bytealg.IndexByteString"], recurses := true, plainKeys := false, apart := false }
def FnExactTypePutSaid : Prop := fnExactTypePutRow.holds Try.pinned (OpenSpec.ofChange fnExactTypePutSpec)

/-- ITS FALSE NEIGHBOUR: 'it returns false'. Refute it at one input. -/
def fnExactTypePutWrong : ChangeSpec := { name := "fnExactTypePut", fn := fun _ => fun
  | [d1, d2, d3] => { results := [.lit (.bool false)], args := [d1, d2, d3] }
  | _ => none }
def FnExactTypePutWrongFalsely : Prop := fnExactTypePutRow.holds Try.pinned (OpenSpec.ofChange fnExactTypePutWrong)

/-- 'laws.FnExactTypeInstance': WHATEVER THE INPUT: true; the input reads as it did. -/
def fnExactTypeInstanceSpec : ChangeSpec := { name := "fnExactTypeInstance", fn := fun _ => fun
  | [d1, d2] => { results := [.lit (.bool true)], args := [d1, d2] }
  | _ => none }
def fnExactTypeInstanceRow : OpenClaim := { program := "ythbidlcfahdfhaa", sum := "cfd5d2bd74aebb41ca3325aa7c41107a6288783a540acc426071048098ae9f02", func := "loop.example/parametric/laws.FnExactTypeInstance", spec := "fnExactTypeInstance", inPlace := ["internal/bytealg.IndexByteString"], recurses := true, plainKeys := false, apart := false }
def FnExactTypeInstanceSaid : Prop := fnExactTypeInstanceRow.holds Try.pinned (OpenSpec.ofChange fnExactTypeInstanceSpec)

/-- ITS FALSE NEIGHBOUR: 'it returns false'. Refute it at one input. -/
def fnExactTypeInstanceWrong : ChangeSpec := { name := "fnExactTypeInstance", fn := fun _ => fun
  | [d1, d2] => { results := [.lit (.bool false)], args := [d1, d2] }
  | _ => none }
def FnExactTypeInstanceWrongFalsely : Prop := fnExactTypeInstanceRow.holds Try.pinned (OpenSpec.ofChange fnExactTypeInstanceWrong)

/-- 'laws.FnExactTypeJoin': WHATEVER THE INPUT: true; the input reads as it did. -/
def fnExactTypeJoinSpec : ChangeSpec := { name := "fnExactTypeJoin", fn := fun _ => fun
  | [d1, d2] => { results := [.lit (.bool true)], args := [d1, d2] }
  | _ => none }
def fnExactTypeJoinRow : OpenClaim := { program := "ythbidlcfahdfhaa", sum := "cfd5d2bd74aebb41ca3325aa7c41107a6288783a540acc426071048098ae9f02", func := "loop.example/parametric/laws.FnExactTypeJoin", spec := "fnExactTypeJoin", inPlace := ["internal/bytealg.IndexByteString"], recurses := true, plainKeys := false, apart := false }
def FnExactTypeJoinSaid : Prop := fnExactTypeJoinRow.holds Try.pinned (OpenSpec.ofChange fnExactTypeJoinSpec)

/-- ITS FALSE NEIGHBOUR: 'it returns false'. Refute it at one input. -/
def fnExactTypeJoinWrong : ChangeSpec := { name := "fnExactTypeJoin", fn := fun _ => fun
  | [d1, d2] => { results := [.lit (.bool false)], args := [d1, d2] }
  | _ => none }
def FnExactTypeJoinWrongFalsely : Prop := fnExactTypeJoinRow.holds Try.pinned (OpenSpec.ofChange fnExactTypeJoinWrong)

/-- 'laws.FnExactTypeApart': WHATEVER THE INPUT: true; the input reads as it did. -/
def fnExactTypeApartSpec : ChangeSpec := { name := "fnExactTypeApart", fn := fun _ => fun
  | [d1, d2] => { results := [.lit (.bool true)], args := [d1, d2] }
  | _ => none }
def fnExactTypeApartRow : OpenClaim := { program := "ythbidlcfahdfhaa", sum := "cfd5d2bd74aebb41ca3325aa7c41107a6288783a540acc426071048098ae9f02", func := "loop.example/parametric/laws.FnExactTypeApart", spec := "fnExactTypeApart", inPlace := ["internal/bytealg.IndexByteString"], recurses := true, plainKeys := false, apart := false }
def FnExactTypeApartSaid : Prop := fnExactTypeApartRow.holds Try.pinned (OpenSpec.ofChange fnExactTypeApartSpec)

/-- ITS FALSE NEIGHBOUR: 'it returns false'. Refute it at one input. -/
def fnExactTypeApartWrong : ChangeSpec := { name := "fnExactTypeApart", fn := fun _ => fun
  | [d1, d2] => { results := [.lit (.bool false)], args := [d1, d2] }
  | _ => none }
def FnExactTypeApartWrongFalsely : Prop := fnExactTypeApartRow.holds Try.pinned (OpenSpec.ofChange fnExactTypeApartWrong)

/-- 'laws.FnExactTypePositive': WHATEVER THE INPUT: true; the input reads as it did. -/
def fnExactTypePositiveSpec : ChangeSpec := { name := "fnExactTypePositive", fn := fun _ => fun
  | [d1, d2] => { results := [.lit (.bool true)], args := [d1, d2] }
  | _ => none }
def fnExactTypePositiveRow : OpenClaim := { program := "ythbidlcfahdfhaa", sum := "cfd5d2bd74aebb41ca3325aa7c41107a6288783a540acc426071048098ae9f02", func := "loop.example/parametric/laws.FnExactTypePositive", spec := "fnExactTypePositive", inPlace := ["internal/bytealg.IndexByteString"], recurses := true, plainKeys := false, apart := false }
def FnExactTypePositiveSaid : Prop := fnExactTypePositiveRow.holds Try.pinned (OpenSpec.ofChange fnExactTypePositiveSpec)

/-- ITS FALSE NEIGHBOUR: 'it returns false'. Refute it at one input. -/
def fnExactTypePositiveWrong : ChangeSpec := { name := "fnExactTypePositive", fn := fun _ => fun
  | [d1, d2] => { results := [.lit (.bool false)], args := [d1, d2] }
  | _ => none }
def FnExactTypePositiveWrongFalsely : Prop := fnExactTypePositiveRow.holds Try.pinned (OpenSpec.ofChange fnExactTypePositiveWrong)

/-- 'laws.FnExactTypeNegative': WHATEVER THE INPUT: true; the input reads as it did. -/
def fnExactTypeNegativeSpec : ChangeSpec := { name := "fnExactTypeNegative", fn := fun _ => fun
  | [d1, d2] => { results := [.lit (.bool true)], args := [d1, d2] }
  | _ => none }
def fnExactTypeNegativeRow : OpenClaim := { program := "ythbidlcfahdfhaa", sum := "cfd5d2bd74aebb41ca3325aa7c41107a6288783a540acc426071048098ae9f02", func := "loop.example/parametric/laws.FnExactTypeNegative", spec := "fnExactTypeNegative", inPlace := ["internal/bytealg.IndexByteString"], recurses := true, plainKeys := false, apart := false }
def FnExactTypeNegativeSaid : Prop := fnExactTypeNegativeRow.holds Try.pinned (OpenSpec.ofChange fnExactTypeNegativeSpec)

/-- ITS FALSE NEIGHBOUR: 'it returns false'. Refute it at one input. -/
def fnExactTypeNegativeWrong : ChangeSpec := { name := "fnExactTypeNegative", fn := fun _ => fun
  | [d1, d2] => { results := [.lit (.bool false)], args := [d1, d2] }
  | _ => none }
def FnExactTypeNegativeWrongFalsely : Prop := fnExactTypeNegativeRow.holds Try.pinned (OpenSpec.ofChange fnExactTypeNegativeWrong)

/-- 'laws.FnExactTypeSize': WHATEVER THE INPUT: true; the input reads as it did. -/
def fnExactTypeSizeSpec : ChangeSpec := { name := "fnExactTypeSize", fn := fun _ => fun
  | [d] => { results := [.lit (.bool true)], args := [d] }
  | _ => none }
def fnExactTypeSizeRow : OpenClaim := { program := "ythbidlcfahdfhaa", sum := "cfd5d2bd74aebb41ca3325aa7c41107a6288783a540acc426071048098ae9f02", func := "loop.example/parametric/laws.FnExactTypeSize", spec := "fnExactTypeSize", inPlace := ["internal/bytealg.IndexByteString"], recurses := true, plainKeys := false, apart := false }
def FnExactTypeSizeSaid : Prop := fnExactTypeSizeRow.holds Try.pinned (OpenSpec.ofChange fnExactTypeSizeSpec)

/-- ITS FALSE NEIGHBOUR: 'it returns false'. Refute it at one input. -/
def fnExactTypeSizeWrong : ChangeSpec := { name := "fnExactTypeSize", fn := fun _ => fun
  | [d] => { results := [.lit (.bool false)], args := [d] }
  | _ => none }
def FnExactTypeSizeWrongFalsely : Prop := fnExactTypeSizeRow.holds Try.pinned (OpenSpec.ofChange fnExactTypeSizeWrong)

/- THE SECOND FORM. 'bulk': how many values and letters a reading holds, each counted each time it is reached (what is shared counts as often as it is met; a slice's spare places count too). A statement '..UptoSaid' is the law's where the arguments, and the package variables that the reading takes, are together of bulk at most 1048576: NARROWER than '..Said'. Prove '..Said' where nothing that the law and all that it calls make is longer than what came in: it says more and counts as full. Else prove '..UptoSaid'. A law counts once. -/
mutual
def uptoBulk {H : Type} : DataW H → Nat
  | .lit (.string bytes) => bytes.length + 1
  | .lit _ => 1
  | .nil => 1
  | .ptr d => uptoBulk d + 1
  | .slice elems spare => uptoBulkAll elems + uptoBulkAll spare + 1
  | .agg parts => uptoBulkAll parts + 1
  | .iface _ d => uptoBulk d + 1
  | .map entries => uptoBulkEntries entries + 1
  | .held _ => 1
def uptoBulkAll {H : Type} : List (DataW H) → Nat
  | [] => 0
  | d :: r => uptoBulk d + uptoBulkAll r
def uptoBulkEntries {H : Type} : List (Lit × DataW H) → Nat
  | [] => 0
  | x :: r => uptoBulkEntry x + uptoBulkEntries r
def uptoBulkEntry {H : Type} : Lit × DataW H → Nat
  | (.string bytes, d) => bytes.length + uptoBulk d + 1
  | (_, d) => uptoBulk d + 1
 end
def uptoSmall : (H : Type) → List (DataW H) → Bool := fun _ ds => decide (uptoBulkAll ds ≤ 1048576)
def OpenSpec.upto (s : _root_.Go.ChangeSpec) : _root_.Go.OpenSpec := { _root_.Go.OpenSpec.ofChange s with cond := some uptoSmall }

/-- 'laws.FnJoin', WHERE WHAT IT READS IS OF BULK AT MOST 1048576: true; the input reads as it did. -/
def fnJoinUptoRow : OpenClaim := { program := "ythbidlcfahdfhaa", sum := "cfd5d2bd74aebb41ca3325aa7c41107a6288783a540acc426071048098ae9f02", func := "loop.example/parametric/laws.FnJoin", spec := "fnJoin", inPlace := ["internal/bytealg.IndexByteString"], recurses := true, plainKeys := false, apart := false, narrowed := true }
def FnJoinUptoSaid : Prop := fnJoinUptoRow.holds Try.pinned (OpenSpec.upto fnJoinSpec)

/-- 'laws.FnPositive', WHERE WHAT IT READS IS OF BULK AT MOST 1048576: true; the input reads as it did. -/
def fnPositiveUptoRow : OpenClaim := { program := "ythbidlcfahdfhaa", sum := "cfd5d2bd74aebb41ca3325aa7c41107a6288783a540acc426071048098ae9f02", func := "loop.example/parametric/laws.FnPositive", spec := "fnPositive", inPlace := ["internal/bytealg.IndexByteString"], recurses := true, plainKeys := false, apart := false, narrowed := true }
def FnPositiveUptoSaid : Prop := fnPositiveUptoRow.holds Try.pinned (OpenSpec.upto fnPositiveSpec)

/-- 'laws.FnExactTypeValid', WHERE WHAT IT READS IS OF BULK AT MOST 1048576: true; the input reads as it did. -/
def fnExactTypeValidUptoRow : OpenClaim := { program := "ythbidlcfahdfhaa", sum := "cfd5d2bd74aebb41ca3325aa7c41107a6288783a540acc426071048098ae9f02", func := "loop.example/parametric/laws.FnExactTypeValid", spec := "fnExactTypeValid", inPlace := ["internal/bytealg.IndexByteString"], recurses := true, plainKeys := false, apart := false, narrowed := true }
def FnExactTypeValidUptoSaid : Prop := fnExactTypeValidUptoRow.holds Try.pinned (OpenSpec.upto fnExactTypeValidSpec)

/-- 'laws.FnExactTypeVars', WHERE WHAT IT READS IS OF BULK AT MOST 1048576: true; the input reads as it did. -/
def fnExactTypeVarsUptoRow : OpenClaim := { program := "ythbidlcfahdfhaa", sum := "cfd5d2bd74aebb41ca3325aa7c41107a6288783a540acc426071048098ae9f02", func := "loop.example/parametric/laws.FnExactTypeVars", spec := "fnExactTypeVars", inPlace := ["internal/bytealg.IndexByteString"], recurses := true, plainKeys := false, apart := false, narrowed := true }
def FnExactTypeVarsUptoSaid : Prop := fnExactTypeVarsUptoRow.holds Try.pinned (OpenSpec.upto fnExactTypeVarsSpec)

/-- 'laws.FnExactTypeParts', WHERE WHAT IT READS IS OF BULK AT MOST 1048576: true; the input reads as it did. -/
def fnExactTypePartsUptoRow : OpenClaim := { program := "ythbidlcfahdfhaa", sum := "cfd5d2bd74aebb41ca3325aa7c41107a6288783a540acc426071048098ae9f02", func := "loop.example/parametric/laws.FnExactTypeParts", spec := "fnExactTypeParts", inPlace := ["internal/bytealg.IndexByteString"], recurses := true, plainKeys := false, apart := false, narrowed := true }
def FnExactTypePartsUptoSaid : Prop := fnExactTypePartsUptoRow.holds Try.pinned (OpenSpec.upto fnExactTypePartsSpec)

/-- 'laws.FnExactTypeCanon', WHERE WHAT IT READS IS OF BULK AT MOST 1048576: true; the input reads as it did. -/
def fnExactTypeCanonUptoRow : OpenClaim := { program := "ythbidlcfahdfhaa", sum := "cfd5d2bd74aebb41ca3325aa7c41107a6288783a540acc426071048098ae9f02", func := "loop.example/parametric/laws.FnExactTypeCanon", spec := "fnExactTypeCanon", inPlace := ["internal/bytealg.IndexByteString"], recurses := true, plainKeys := false, apart := false, narrowed := true }
def FnExactTypeCanonUptoSaid : Prop := fnExactTypeCanonUptoRow.holds Try.pinned (OpenSpec.upto fnExactTypeCanonSpec)

/-- 'laws.FnExactTypeAlike', WHERE WHAT IT READS IS OF BULK AT MOST 1048576: true; the input reads as it did. -/
def fnExactTypeAlikeUptoRow : OpenClaim := { program := "ythbidlcfahdfhaa", sum := "cfd5d2bd74aebb41ca3325aa7c41107a6288783a540acc426071048098ae9f02", func := "loop.example/parametric/laws.FnExactTypeAlike", spec := "fnExactTypeAlike", inPlace := ["internal/bytealg.IndexByteString"], recurses := true, plainKeys := false, apart := false, narrowed := true }
def FnExactTypeAlikeUptoSaid : Prop := fnExactTypeAlikeUptoRow.holds Try.pinned (OpenSpec.upto fnExactTypeAlikeSpec)

/-- 'laws.FnExactTypePut', WHERE WHAT IT READS IS OF BULK AT MOST 1048576: true; the input reads as it did. -/
def fnExactTypePutUptoRow : OpenClaim := { program := "ythbidlcfahdfhaa", sum := "cfd5d2bd74aebb41ca3325aa7c41107a6288783a540acc426071048098ae9f02", func := "loop.example/parametric/laws.FnExactTypePut", spec := "fnExactTypePut", inPlace := ["internal/bytealg.IndexByteString"], recurses := true, plainKeys := false, apart := false, narrowed := true }
def FnExactTypePutUptoSaid : Prop := fnExactTypePutUptoRow.holds Try.pinned (OpenSpec.upto fnExactTypePutSpec)

/-- 'laws.FnExactTypeInstance', WHERE WHAT IT READS IS OF BULK AT MOST 1048576: true; the input reads as it did. -/
def fnExactTypeInstanceUptoRow : OpenClaim := { program := "ythbidlcfahdfhaa", sum := "cfd5d2bd74aebb41ca3325aa7c41107a6288783a540acc426071048098ae9f02", func := "loop.example/parametric/laws.FnExactTypeInstance", spec := "fnExactTypeInstance", inPlace := ["internal/bytealg.IndexByteString"], recurses := true, plainKeys := false, apart := false, narrowed := true }
def FnExactTypeInstanceUptoSaid : Prop := fnExactTypeInstanceUptoRow.holds Try.pinned (OpenSpec.upto fnExactTypeInstanceSpec)

/-- 'laws.FnExactTypeJoin', WHERE WHAT IT READS IS OF BULK AT MOST 1048576: true; the input reads as it did. -/
def fnExactTypeJoinUptoRow : OpenClaim := { program := "ythbidlcfahdfhaa", sum := "cfd5d2bd74aebb41ca3325aa7c41107a6288783a540acc426071048098ae9f02", func := "loop.example/parametric/laws.FnExactTypeJoin", spec := "fnExactTypeJoin", inPlace := ["internal/bytealg.IndexByteString"], recurses := true, plainKeys := false, apart := false, narrowed := true }
def FnExactTypeJoinUptoSaid : Prop := fnExactTypeJoinUptoRow.holds Try.pinned (OpenSpec.upto fnExactTypeJoinSpec)

/-- 'laws.FnExactTypeApart', WHERE WHAT IT READS IS OF BULK AT MOST 1048576: true; the input reads as it did. -/
def fnExactTypeApartUptoRow : OpenClaim := { program := "ythbidlcfahdfhaa", sum := "cfd5d2bd74aebb41ca3325aa7c41107a6288783a540acc426071048098ae9f02", func := "loop.example/parametric/laws.FnExactTypeApart", spec := "fnExactTypeApart", inPlace := ["internal/bytealg.IndexByteString"], recurses := true, plainKeys := false, apart := false, narrowed := true }
def FnExactTypeApartUptoSaid : Prop := fnExactTypeApartUptoRow.holds Try.pinned (OpenSpec.upto fnExactTypeApartSpec)

/-- 'laws.FnExactTypePositive', WHERE WHAT IT READS IS OF BULK AT MOST 1048576: true; the input reads as it did. -/
def fnExactTypePositiveUptoRow : OpenClaim := { program := "ythbidlcfahdfhaa", sum := "cfd5d2bd74aebb41ca3325aa7c41107a6288783a540acc426071048098ae9f02", func := "loop.example/parametric/laws.FnExactTypePositive", spec := "fnExactTypePositive", inPlace := ["internal/bytealg.IndexByteString"], recurses := true, plainKeys := false, apart := false, narrowed := true }
def FnExactTypePositiveUptoSaid : Prop := fnExactTypePositiveUptoRow.holds Try.pinned (OpenSpec.upto fnExactTypePositiveSpec)

/-- 'laws.FnExactTypeNegative', WHERE WHAT IT READS IS OF BULK AT MOST 1048576: true; the input reads as it did. -/
def fnExactTypeNegativeUptoRow : OpenClaim := { program := "ythbidlcfahdfhaa", sum := "cfd5d2bd74aebb41ca3325aa7c41107a6288783a540acc426071048098ae9f02", func := "loop.example/parametric/laws.FnExactTypeNegative", spec := "fnExactTypeNegative", inPlace := ["internal/bytealg.IndexByteString"], recurses := true, plainKeys := false, apart := false, narrowed := true }
def FnExactTypeNegativeUptoSaid : Prop := fnExactTypeNegativeUptoRow.holds Try.pinned (OpenSpec.upto fnExactTypeNegativeSpec)

/-- 'laws.FnExactTypeSize', WHERE WHAT IT READS IS OF BULK AT MOST 1048576: true; the input reads as it did. -/
def fnExactTypeSizeUptoRow : OpenClaim := { program := "ythbidlcfahdfhaa", sum := "cfd5d2bd74aebb41ca3325aa7c41107a6288783a540acc426071048098ae9f02", func := "loop.example/parametric/laws.FnExactTypeSize", spec := "fnExactTypeSize", inPlace := ["internal/bytealg.IndexByteString"], recurses := true, plainKeys := false, apart := false, narrowed := true }
def FnExactTypeSizeUptoSaid : Prop := fnExactTypeSizeUptoRow.holds Try.pinned (OpenSpec.upto fnExactTypeSizeSpec)

end Rows
end Go.Proofs.Ythbidlcfahdfhaa
