/-
  No cell of these rows narrows 'for every input' (looked for: loops, veiled, ifaces, maps, wideKeys, modest, calm, conditions, laid).
  DERIVED. THE GIVEN ROWS OF THIS SEAT. 8 by the template 'for every input the law returns true; each argument reads behind the call as it read before'; 0 by the template 'total and deterministic' (their statements: YtmpadnnpmbgdcaaTotals.lean).
  GIVEN WITH THE SEED: the statements are not yours to turn. If you find one false, say at which input.
  Laid BY PROGRAM, IN A SANDBOX (cutbox-rows.mjs): the forced cells as the released guide's own fill.sh prints them over the translation 294b21f23213d676… (all of the seat's roots in one cut). By AI agents, Wed Nov 11 2026. No macro, syntax, notation, axiom, sorry.
-/
import Derived.Test.YtmpadnnpmbgdcaaChecked
import GoSem.Claim
import GoSem.ClaimJoined
import GoSem.ClaimMapViews
import Derived.JoinedTies
import Derived.KernelRfl
namespace Go.Proofs.Ytmpadnnpmbgdcaa
/- THE CELL 'sum', in the pinned program and in every row, IS THE sha256 OF THE DUMP (.gsa) THAT YtmpadnnpmbgdcaaProg.lean LOADS. Nothing in Lean hashes anything: it is a label: what it is worth is what the hold of that sum in a sandbox is worth. -/
noncomputable def Try.pinned : Pinned := { name := "ytmpadnnpmbgdcaa", sum := "294b21f23213d676b90de04e6917a13154a001db2fb1c26c002c12545496a41d", checked := Try.checked }
namespace Rows
def none {H : Type} : Left H := { results := [], args := [] }

/-- 'laws.FnExactTypePut': WHATEVER THE INPUT: true; the input reads as it did. -/
def fnExactTypePutSpec : ChangeSpec := { name := "fnExactTypePut", fn := fun _ => fun
  | [d1, d2, d3] => { results := [.lit (.bool true)], args := [d1, d2, d3] }
  | _ => none }
def fnExactTypePutRow : OpenClaim := { program := "ytmpadnnpmbgdcaa", sum := "294b21f23213d676b90de04e6917a13154a001db2fb1c26c002c12545496a41d", func := "loop.example/parametric/laws.FnExactTypePut", spec := "fnExactTypePut", inPlace := ["internal/bytealg.IndexByteString"], recurses := true, plainKeys := false, apart := false }
def FnExactTypePutSaid : Prop := fnExactTypePutRow.holds Try.pinned (OpenSpec.ofChange fnExactTypePutSpec)

/-- ITS FALSE NEIGHBOUR: 'it returns false'. Refute it at one input. -/
def fnExactTypePutWrong : ChangeSpec := { name := "fnExactTypePut", fn := fun _ => fun
  | [d1, d2, d3] => { results := [.lit (.bool false)], args := [d1, d2, d3] }
  | _ => none }
def FnExactTypePutWrongFalsely : Prop := fnExactTypePutRow.holds Try.pinned (OpenSpec.ofChange fnExactTypePutWrong)

/-- 'laws.FnExactTypeJoin': WHATEVER THE INPUT: true; the input reads as it did. -/
def fnExactTypeJoinSpec : ChangeSpec := { name := "fnExactTypeJoin", fn := fun _ => fun
  | [d1, d2] => { results := [.lit (.bool true)], args := [d1, d2] }
  | _ => none }
def fnExactTypeJoinRow : OpenClaim := { program := "ytmpadnnpmbgdcaa", sum := "294b21f23213d676b90de04e6917a13154a001db2fb1c26c002c12545496a41d", func := "loop.example/parametric/laws.FnExactTypeJoin", spec := "fnExactTypeJoin", inPlace := ["internal/bytealg.IndexByteString"], recurses := true, plainKeys := false, apart := false }
def FnExactTypeJoinSaid : Prop := fnExactTypeJoinRow.holds Try.pinned (OpenSpec.ofChange fnExactTypeJoinSpec)

/-- ITS FALSE NEIGHBOUR: 'it returns false'. Refute it at one input. -/
def fnExactTypeJoinWrong : ChangeSpec := { name := "fnExactTypeJoin", fn := fun _ => fun
  | [d1, d2] => { results := [.lit (.bool false)], args := [d1, d2] }
  | _ => none }
def FnExactTypeJoinWrongFalsely : Prop := fnExactTypeJoinRow.holds Try.pinned (OpenSpec.ofChange fnExactTypeJoinWrong)

/-- 'laws.FnExactTypeApart': WHATEVER THE INPUT: true; the input reads as it did. -/
def fnExactTypeApartSpec : ChangeSpec := { name := "fnExactTypeApart", fn := fun _ => fun
  | [d1, d2] => { results := [.lit (.bool true)], args := [d1, d2] }
  | _ => none }
def fnExactTypeApartRow : OpenClaim := { program := "ytmpadnnpmbgdcaa", sum := "294b21f23213d676b90de04e6917a13154a001db2fb1c26c002c12545496a41d", func := "loop.example/parametric/laws.FnExactTypeApart", spec := "fnExactTypeApart", inPlace := ["internal/bytealg.IndexByteString"], recurses := true, plainKeys := false, apart := false }
def FnExactTypeApartSaid : Prop := fnExactTypeApartRow.holds Try.pinned (OpenSpec.ofChange fnExactTypeApartSpec)

/-- ITS FALSE NEIGHBOUR: 'it returns false'. Refute it at one input. -/
def fnExactTypeApartWrong : ChangeSpec := { name := "fnExactTypeApart", fn := fun _ => fun
  | [d1, d2] => { results := [.lit (.bool false)], args := [d1, d2] }
  | _ => none }
def FnExactTypeApartWrongFalsely : Prop := fnExactTypeApartRow.holds Try.pinned (OpenSpec.ofChange fnExactTypeApartWrong)

/-- 'laws.FnExactModelValid': WHATEVER THE INPUT: true; the input reads as it did. -/
def fnExactModelValidSpec : ChangeSpec := { name := "fnExactModelValid", fn := fun _ => fun
  | [d1, d2] => { results := [.lit (.bool true)], args := [d1, d2] }
  | _ => none }
def fnExactModelValidRow : OpenClaim := { program := "ytmpadnnpmbgdcaa", sum := "294b21f23213d676b90de04e6917a13154a001db2fb1c26c002c12545496a41d", func := "loop.example/parametric/laws.FnExactModelValid", spec := "fnExactModelValid", inPlace := ["internal/bytealg.IndexByteString"], recurses := true, plainKeys := false, apart := false }
def FnExactModelValidSaid : Prop := fnExactModelValidRow.holds Try.pinned (OpenSpec.ofChange fnExactModelValidSpec)

/-- ITS FALSE NEIGHBOUR: 'it returns false'. Refute it at one input. -/
def fnExactModelValidWrong : ChangeSpec := { name := "fnExactModelValid", fn := fun _ => fun
  | [d1, d2] => { results := [.lit (.bool false)], args := [d1, d2] }
  | _ => none }
def FnExactModelValidWrongFalsely : Prop := fnExactModelValidRow.holds Try.pinned (OpenSpec.ofChange fnExactModelValidWrong)

/-- 'laws.FnExactSetCount': WHATEVER THE INPUT: true; the input reads as it did. -/
def fnExactSetCountSpec : ChangeSpec := { name := "fnExactSetCount", fn := fun _ => fun
  | [d1, d2, d3] => { results := [.lit (.bool true)], args := [d1, d2, d3] }
  | _ => none }
def fnExactSetCountRow : OpenClaim := { program := "ytmpadnnpmbgdcaa", sum := "294b21f23213d676b90de04e6917a13154a001db2fb1c26c002c12545496a41d", func := "loop.example/parametric/laws.FnExactSetCount", spec := "fnExactSetCount", inPlace := ["internal/bytealg.IndexByteString"], recurses := true, plainKeys := false, apart := false }
def FnExactSetCountSaid : Prop := fnExactSetCountRow.holds Try.pinned (OpenSpec.ofChange fnExactSetCountSpec)

/-- ITS FALSE NEIGHBOUR: 'it returns false'. Refute it at one input. -/
def fnExactSetCountWrong : ChangeSpec := { name := "fnExactSetCount", fn := fun _ => fun
  | [d1, d2, d3] => { results := [.lit (.bool false)], args := [d1, d2, d3] }
  | _ => none }
def FnExactSetCountWrongFalsely : Prop := fnExactSetCountRow.holds Try.pinned (OpenSpec.ofChange fnExactSetCountWrong)

/-- 'laws.FnExactSetPair': WHATEVER THE INPUT: true; the input reads as it did. -/
def fnExactSetPairSpec : ChangeSpec := { name := "fnExactSetPair", fn := fun _ => fun
  | [d1, d2, d3, d4] => { results := [.lit (.bool true)], args := [d1, d2, d3, d4] }
  | _ => none }
def fnExactSetPairRow : OpenClaim := { program := "ytmpadnnpmbgdcaa", sum := "294b21f23213d676b90de04e6917a13154a001db2fb1c26c002c12545496a41d", func := "loop.example/parametric/laws.FnExactSetPair", spec := "fnExactSetPair", inPlace := ["internal/bytealg.IndexByteString"], recurses := true, plainKeys := false, apart := false }
def FnExactSetPairSaid : Prop := fnExactSetPairRow.holds Try.pinned (OpenSpec.ofChange fnExactSetPairSpec)

/-- ITS FALSE NEIGHBOUR: 'it returns false'. Refute it at one input. -/
def fnExactSetPairWrong : ChangeSpec := { name := "fnExactSetPair", fn := fun _ => fun
  | [d1, d2, d3, d4] => { results := [.lit (.bool false)], args := [d1, d2, d3, d4] }
  | _ => none }
def FnExactSetPairWrongFalsely : Prop := fnExactSetPairRow.holds Try.pinned (OpenSpec.ofChange fnExactSetPairWrong)

/-- 'laws.FnExactSetAt': WHATEVER THE INPUT: true; the input reads as it did. -/
def fnExactSetAtSpec : ChangeSpec := { name := "fnExactSetAt", fn := fun _ => fun
  | [d1, d2, d3, d4, d5] => { results := [.lit (.bool true)], args := [d1, d2, d3, d4, d5] }
  | _ => none }
def fnExactSetAtRow : OpenClaim := { program := "ytmpadnnpmbgdcaa", sum := "294b21f23213d676b90de04e6917a13154a001db2fb1c26c002c12545496a41d", func := "loop.example/parametric/laws.FnExactSetAt", spec := "fnExactSetAt", inPlace := ["internal/bytealg.IndexByteString"], recurses := true, plainKeys := false, apart := false }
def FnExactSetAtSaid : Prop := fnExactSetAtRow.holds Try.pinned (OpenSpec.ofChange fnExactSetAtSpec)

/-- ITS FALSE NEIGHBOUR: 'it returns false'. Refute it at one input. -/
def fnExactSetAtWrong : ChangeSpec := { name := "fnExactSetAt", fn := fun _ => fun
  | [d1, d2, d3, d4, d5] => { results := [.lit (.bool false)], args := [d1, d2, d3, d4, d5] }
  | _ => none }
def FnExactSetAtWrongFalsely : Prop := fnExactSetAtRow.holds Try.pinned (OpenSpec.ofChange fnExactSetAtWrong)

/-- 'laws.FnExactSetFun': WHATEVER THE INPUT: true; the input reads as it did. -/
def fnExactSetFunSpec : ChangeSpec := { name := "fnExactSetFun", fn := fun _ => fun
  | [d1, d2, d3, d4] => { results := [.lit (.bool true)], args := [d1, d2, d3, d4] }
  | _ => none }
def fnExactSetFunRow : OpenClaim := { program := "ytmpadnnpmbgdcaa", sum := "294b21f23213d676b90de04e6917a13154a001db2fb1c26c002c12545496a41d", func := "loop.example/parametric/laws.FnExactSetFun", spec := "fnExactSetFun", inPlace := ["internal/bytealg.IndexByteString"], unfollowed := true, recurses := true, plainKeys := false, apart := false }
def FnExactSetFunSaid : Prop := fnExactSetFunRow.holds Try.pinned (OpenSpec.ofChange fnExactSetFunSpec)

/-- ITS FALSE NEIGHBOUR: 'it returns false'. Refute it at one input. -/
def fnExactSetFunWrong : ChangeSpec := { name := "fnExactSetFun", fn := fun _ => fun
  | [d1, d2, d3, d4] => { results := [.lit (.bool false)], args := [d1, d2, d3, d4] }
  | _ => none }
def FnExactSetFunWrongFalsely : Prop := fnExactSetFunRow.holds Try.pinned (OpenSpec.ofChange fnExactSetFunWrong)

/- THE SECOND FORM. 'bulk': how many values and letters a reading holds, each counted each time it is reached (what is shared counts as often as it is met; a slice's spare places count too). A statement '..UptoSaid' is the law's where the arguments, and the package variables that the reading takes, are together of bulk at most 1048576: NARROWER than '..Said'. Prove '..Said' where nothing that the law and all that it calls make is longer than what came in: it says more and counts as full. Else prove '..UptoSaid'. A law counts once. -/
mutual
def uptoBulk {H : Type} : DataW H → Nat
  | .lit (.string bytes) => bytes.length + 1
  | .lit _ => 1
  | .nil => 1
  | .ptr d => uptoBulk d + 1
  | .slice elems spare => uptoBulkAll elems + uptoBulkAll spare + 1
  | .agg parts => uptoBulkAll parts + 1
  | .iface _ d => uptoBulk d + 1
  | .map entries => uptoBulkEntries entries + 1
  | .held _ => 1
def uptoBulkAll {H : Type} : List (DataW H) → Nat
  | [] => 0
  | d :: r => uptoBulk d + uptoBulkAll r
def uptoBulkEntries {H : Type} : List (Lit × DataW H) → Nat
  | [] => 0
  | x :: r => uptoBulkEntry x + uptoBulkEntries r
def uptoBulkEntry {H : Type} : Lit × DataW H → Nat
  | (.string bytes, d) => bytes.length + uptoBulk d + 1
  | (_, d) => uptoBulk d + 1
 end
def uptoSmall : (H : Type) → List (DataW H) → Bool := fun _ ds => decide (uptoBulkAll ds ≤ 1048576)
def OpenSpec.upto (s : _root_.Go.ChangeSpec) : _root_.Go.OpenSpec := { _root_.Go.OpenSpec.ofChange s with cond := some uptoSmall }

/-- 'laws.FnExactTypePut', WHERE WHAT IT READS IS OF BULK AT MOST 1048576: true; the input reads as it did. -/
def fnExactTypePutUptoRow : OpenClaim := { program := "ytmpadnnpmbgdcaa", sum := "294b21f23213d676b90de04e6917a13154a001db2fb1c26c002c12545496a41d", func := "loop.example/parametric/laws.FnExactTypePut", spec := "fnExactTypePut", inPlace := ["internal/bytealg.IndexByteString"], recurses := true, plainKeys := false, apart := false, narrowed := true }
def FnExactTypePutUptoSaid : Prop := fnExactTypePutUptoRow.holds Try.pinned (OpenSpec.upto fnExactTypePutSpec)

/-- 'laws.FnExactTypeJoin', WHERE WHAT IT READS IS OF BULK AT MOST 1048576: true; the input reads as it did. -/
def fnExactTypeJoinUptoRow : OpenClaim := { program := "ytmpadnnpmbgdcaa", sum := "294b21f23213d676b90de04e6917a13154a001db2fb1c26c002c12545496a41d", func := "loop.example/parametric/laws.FnExactTypeJoin", spec := "fnExactTypeJoin", inPlace := ["internal/bytealg.IndexByteString"], recurses := true, plainKeys := false, apart := false, narrowed := true }
def FnExactTypeJoinUptoSaid : Prop := fnExactTypeJoinUptoRow.holds Try.pinned (OpenSpec.upto fnExactTypeJoinSpec)

/-- 'laws.FnExactTypeApart', WHERE WHAT IT READS IS OF BULK AT MOST 1048576: true; the input reads as it did. -/
def fnExactTypeApartUptoRow : OpenClaim := { program := "ytmpadnnpmbgdcaa", sum := "294b21f23213d676b90de04e6917a13154a001db2fb1c26c002c12545496a41d", func := "loop.example/parametric/laws.FnExactTypeApart", spec := "fnExactTypeApart", inPlace := ["internal/bytealg.IndexByteString"], recurses := true, plainKeys := false, apart := false, narrowed := true }
def FnExactTypeApartUptoSaid : Prop := fnExactTypeApartUptoRow.holds Try.pinned (OpenSpec.upto fnExactTypeApartSpec)

/-- 'laws.FnExactModelValid', WHERE WHAT IT READS IS OF BULK AT MOST 1048576: true; the input reads as it did. -/
def fnExactModelValidUptoRow : OpenClaim := { program := "ytmpadnnpmbgdcaa", sum := "294b21f23213d676b90de04e6917a13154a001db2fb1c26c002c12545496a41d", func := "loop.example/parametric/laws.FnExactModelValid", spec := "fnExactModelValid", inPlace := ["internal/bytealg.IndexByteString"], recurses := true, plainKeys := false, apart := false, narrowed := true }
def FnExactModelValidUptoSaid : Prop := fnExactModelValidUptoRow.holds Try.pinned (OpenSpec.upto fnExactModelValidSpec)

/-- 'laws.FnExactSetCount', WHERE WHAT IT READS IS OF BULK AT MOST 1048576: true; the input reads as it did. -/
def fnExactSetCountUptoRow : OpenClaim := { program := "ytmpadnnpmbgdcaa", sum := "294b21f23213d676b90de04e6917a13154a001db2fb1c26c002c12545496a41d", func := "loop.example/parametric/laws.FnExactSetCount", spec := "fnExactSetCount", inPlace := ["internal/bytealg.IndexByteString"], recurses := true, plainKeys := false, apart := false, narrowed := true }
def FnExactSetCountUptoSaid : Prop := fnExactSetCountUptoRow.holds Try.pinned (OpenSpec.upto fnExactSetCountSpec)

/-- 'laws.FnExactSetPair', WHERE WHAT IT READS IS OF BULK AT MOST 1048576: true; the input reads as it did. -/
def fnExactSetPairUptoRow : OpenClaim := { program := "ytmpadnnpmbgdcaa", sum := "294b21f23213d676b90de04e6917a13154a001db2fb1c26c002c12545496a41d", func := "loop.example/parametric/laws.FnExactSetPair", spec := "fnExactSetPair", inPlace := ["internal/bytealg.IndexByteString"], recurses := true, plainKeys := false, apart := false, narrowed := true }
def FnExactSetPairUptoSaid : Prop := fnExactSetPairUptoRow.holds Try.pinned (OpenSpec.upto fnExactSetPairSpec)

/-- 'laws.FnExactSetAt', WHERE WHAT IT READS IS OF BULK AT MOST 1048576: true; the input reads as it did. -/
def fnExactSetAtUptoRow : OpenClaim := { program := "ytmpadnnpmbgdcaa", sum := "294b21f23213d676b90de04e6917a13154a001db2fb1c26c002c12545496a41d", func := "loop.example/parametric/laws.FnExactSetAt", spec := "fnExactSetAt", inPlace := ["internal/bytealg.IndexByteString"], recurses := true, plainKeys := false, apart := false, narrowed := true }
def FnExactSetAtUptoSaid : Prop := fnExactSetAtUptoRow.holds Try.pinned (OpenSpec.upto fnExactSetAtSpec)

/-- 'laws.FnExactSetFun', WHERE WHAT IT READS IS OF BULK AT MOST 1048576: true; the input reads as it did. -/
def fnExactSetFunUptoRow : OpenClaim := { program := "ytmpadnnpmbgdcaa", sum := "294b21f23213d676b90de04e6917a13154a001db2fb1c26c002c12545496a41d", func := "loop.example/parametric/laws.FnExactSetFun", spec := "fnExactSetFun", inPlace := ["internal/bytealg.IndexByteString"], unfollowed := true, recurses := true, plainKeys := false, apart := false, narrowed := true }
def FnExactSetFunUptoSaid : Prop := fnExactSetFunUptoRow.holds Try.pinned (OpenSpec.upto fnExactSetFunSpec)

end Rows
end Go.Proofs.Ytmpadnnpmbgdcaa
