/-
  NARROWER THAN 'FOR EVERY INPUT', by the rows' own cells (each row's printed sentence says how): FnExactParamPair: laid · FnExactParamIs: laid · FnExactParamList: laid · FnExactParamCount: laid · FnExactModuleRelation: laid · FnExactModuleAlike: laid · FnExactModuleBest: laid · FnExactRelated: laid · FnExactRelLift: laid · FnParamList: laid · FnParamPairs: laid · FnParamPair: laid.
  DERIVED. THE GIVEN ROWS OF THIS SEAT. 12 by the template 'for every input the law returns true; each argument reads behind the call as it read before'; 0 by the template 'total and deterministic' (their statements: YtjgbihcnfhbalaaDoorTotals.lean).
  GIVEN WITH THE SEED: the statements are not yours to turn. If you find one false, say at which input.
  Laid BY PROGRAM, IN A SANDBOX (cutbox-rows.mjs): the forced cells as the released guide's own fill.sh prints them over the translation e14caed7749ecea0… (all of the seat's roots in one cut). By AI agents, Wed Nov 11 2026. No macro, syntax, notation, axiom, sorry.
-/
import Derived.Test.YtjgbihcnfhbalaaDoorChecked
import GoSem.Claim
import GoSem.ClaimJoined
import GoSem.ClaimMapViews
import Derived.JoinedTies
import Derived.KernelRfl
namespace Go.Proofs.YtjgbihcnfhbalaaDoor
/- THE CELL 'sum', in the pinned program and in every row, IS THE sha256 OF THE DUMP (.gsa) THAT YtjgbihcnfhbalaaDoorProg.lean LOADS. Nothing in Lean hashes anything: it is a label: what it is worth is what the hold of that sum in a sandbox is worth. -/
noncomputable def Tryd.pinned : Pinned := { name := "ytjgbihcnfhbalaadoor", sum := "e14caed7749ecea0edaee0bec17c3def2e3622270bde7d2949239bbd3208c1db", checked := Tryd.checked }
namespace Rows
def none {H : Type} : Left H := { results := [], args := [] }

/- WHAT THE LISTED PACKAGE-LEVEL VARIABLES READ AS WHEN THE CALL BEGINS. Each datum BY PROGRAM (the guide's laid-datum.mjs) off the statement by which the dump's own 'gosem.cut.vars' lays the variable. In a bare row this is a premise. The card (YtjgbihcnfhbalaaDoorCards.lean) ties it to the program's text. -/
def laid_math_bits_deBruijn64tab {H : Type} : DataW H := .agg [.lit (.int .u8 0), .lit (.int .u8 1), .lit (.int .u8 56), .lit (.int .u8 2), .lit (.int .u8 57), .lit (.int .u8 49), .lit (.int .u8 28), .lit (.int .u8 3), .lit (.int .u8 61), .lit (.int .u8 58), .lit (.int .u8 42), .lit (.int .u8 50), .lit (.int .u8 38), .lit (.int .u8 29), .lit (.int .u8 17), .lit (.int .u8 4), .lit (.int .u8 62), .lit (.int .u8 47), .lit (.int .u8 59), .lit (.int .u8 36), .lit (.int .u8 45), .lit (.int .u8 43), .lit (.int .u8 51), .lit (.int .u8 22), .lit (.int .u8 53), .lit (.int .u8 39), .lit (.int .u8 33), .lit (.int .u8 30), .lit (.int .u8 24), .lit (.int .u8 18), .lit (.int .u8 12), .lit (.int .u8 5), .lit (.int .u8 63), .lit (.int .u8 55), .lit (.int .u8 48), .lit (.int .u8 27), .lit (.int .u8 60), .lit (.int .u8 41), .lit (.int .u8 37), .lit (.int .u8 16), .lit (.int .u8 46), .lit (.int .u8 35), .lit (.int .u8 44), .lit (.int .u8 21), .lit (.int .u8 52), .lit (.int .u8 32), .lit (.int .u8 23), .lit (.int .u8 11), .lit (.int .u8 54), .lit (.int .u8 26), .lit (.int .u8 40), .lit (.int .u8 15), .lit (.int .u8 34), .lit (.int .u8 20), .lit (.int .u8 31), .lit (.int .u8 10), .lit (.int .u8 25), .lit (.int .u8 14), .lit (.int .u8 19), .lit (.int .u8 9), .lit (.int .u8 13), .lit (.int .u8 8), .lit (.int .u8 7), .lit (.int .u8 6)]

/-- 'laws.FnExactParamPair': WHATEVER THE INPUT: true; the input reads as it did. -/
def fnExactParamPairSpec : ChangeSpec := { name := "fnExactParamPair", fn := fun _ => fun
  | [d1, d2, d3, d4, d5] => { results := [.lit (.bool true)], args := [d1, d2, d3, d4, d5] }
  | _ => none }
def fnExactParamPairRow : OpenClaim := { program := "ytjgbihcnfhbalaadoor", sum := "e14caed7749ecea0edaee0bec17c3def2e3622270bde7d2949239bbd3208c1db", func := "loop.example/parametric/laws.FnExactParamPair", spec := "fnExactParamPair", inPlace := ["internal/bytealg.IndexByteString"], unfollowed := true, recurses := true, named := ["math/bits.deBruijn64tab"], plainKeys := false, apart := false, laid := [("math/bits.deBruijn64tab", laid_math_bits_deBruijn64tab)] }
def FnExactParamPairSaid : Prop := fnExactParamPairRow.holds Tryd.pinned (OpenSpec.ofChange fnExactParamPairSpec)

/-- ITS FALSE NEIGHBOUR: 'it returns false'. Refute it at one input. -/
def fnExactParamPairWrong : ChangeSpec := { name := "fnExactParamPair", fn := fun _ => fun
  | [d1, d2, d3, d4, d5] => { results := [.lit (.bool false)], args := [d1, d2, d3, d4, d5] }
  | _ => none }
def FnExactParamPairWrongFalsely : Prop := fnExactParamPairRow.holds Tryd.pinned (OpenSpec.ofChange fnExactParamPairWrong)

/-- 'laws.FnExactParamIs': WHATEVER THE INPUT: true; the input reads as it did. -/
def fnExactParamIsSpec : ChangeSpec := { name := "fnExactParamIs", fn := fun _ => fun
  | [d1, d2, d3] => { results := [.lit (.bool true)], args := [d1, d2, d3] }
  | _ => none }
def fnExactParamIsRow : OpenClaim := { program := "ytjgbihcnfhbalaadoor", sum := "e14caed7749ecea0edaee0bec17c3def2e3622270bde7d2949239bbd3208c1db", func := "loop.example/parametric/laws.FnExactParamIs", spec := "fnExactParamIs", inPlace := ["internal/bytealg.IndexByteString"], unfollowed := true, recurses := true, named := ["math/bits.deBruijn64tab"], plainKeys := false, apart := false, laid := [("math/bits.deBruijn64tab", laid_math_bits_deBruijn64tab)] }
def FnExactParamIsSaid : Prop := fnExactParamIsRow.holds Tryd.pinned (OpenSpec.ofChange fnExactParamIsSpec)

/-- ITS FALSE NEIGHBOUR: 'it returns false'. Refute it at one input. -/
def fnExactParamIsWrong : ChangeSpec := { name := "fnExactParamIs", fn := fun _ => fun
  | [d1, d2, d3] => { results := [.lit (.bool false)], args := [d1, d2, d3] }
  | _ => none }
def FnExactParamIsWrongFalsely : Prop := fnExactParamIsRow.holds Tryd.pinned (OpenSpec.ofChange fnExactParamIsWrong)

/-- 'laws.FnExactParamList': WHATEVER THE INPUT: true; the input reads as it did. -/
def fnExactParamListSpec : ChangeSpec := { name := "fnExactParamList", fn := fun _ => fun
  | [d1, d2] => { results := [.lit (.bool true)], args := [d1, d2] }
  | _ => none }
def fnExactParamListRow : OpenClaim := { program := "ytjgbihcnfhbalaadoor", sum := "e14caed7749ecea0edaee0bec17c3def2e3622270bde7d2949239bbd3208c1db", func := "loop.example/parametric/laws.FnExactParamList", spec := "fnExactParamList", inPlace := ["internal/bytealg.IndexByteString"], unfollowed := true, recurses := true, named := ["math/bits.deBruijn64tab"], plainKeys := false, apart := false, laid := [("math/bits.deBruijn64tab", laid_math_bits_deBruijn64tab)] }
def FnExactParamListSaid : Prop := fnExactParamListRow.holds Tryd.pinned (OpenSpec.ofChange fnExactParamListSpec)

/-- ITS FALSE NEIGHBOUR: 'it returns false'. Refute it at one input. -/
def fnExactParamListWrong : ChangeSpec := { name := "fnExactParamList", fn := fun _ => fun
  | [d1, d2] => { results := [.lit (.bool false)], args := [d1, d2] }
  | _ => none }
def FnExactParamListWrongFalsely : Prop := fnExactParamListRow.holds Tryd.pinned (OpenSpec.ofChange fnExactParamListWrong)

/-- 'laws.FnExactParamCount': WHATEVER THE INPUT: true; the input reads as it did. -/
def fnExactParamCountSpec : ChangeSpec := { name := "fnExactParamCount", fn := fun _ => fun
  | [d1, d2] => { results := [.lit (.bool true)], args := [d1, d2] }
  | _ => none }
def fnExactParamCountRow : OpenClaim := { program := "ytjgbihcnfhbalaadoor", sum := "e14caed7749ecea0edaee0bec17c3def2e3622270bde7d2949239bbd3208c1db", func := "loop.example/parametric/laws.FnExactParamCount", spec := "fnExactParamCount", inPlace := ["internal/bytealg.IndexByteString"], unfollowed := true, recurses := true, named := ["math/bits.deBruijn64tab"], plainKeys := false, apart := false, laid := [("math/bits.deBruijn64tab", laid_math_bits_deBruijn64tab)] }
def FnExactParamCountSaid : Prop := fnExactParamCountRow.holds Tryd.pinned (OpenSpec.ofChange fnExactParamCountSpec)

/-- ITS FALSE NEIGHBOUR: 'it returns false'. Refute it at one input. -/
def fnExactParamCountWrong : ChangeSpec := { name := "fnExactParamCount", fn := fun _ => fun
  | [d1, d2] => { results := [.lit (.bool false)], args := [d1, d2] }
  | _ => none }
def FnExactParamCountWrongFalsely : Prop := fnExactParamCountRow.holds Tryd.pinned (OpenSpec.ofChange fnExactParamCountWrong)

/-- 'laws.FnExactModuleRelation': WHATEVER THE INPUT: true; the input reads as it did. -/
def fnExactModuleRelationSpec : ChangeSpec := { name := "fnExactModuleRelation", fn := fun _ => fun
  | [d1, d2, d3, d4, d5] => { results := [.lit (.bool true)], args := [d1, d2, d3, d4, d5] }
  | _ => none }
def fnExactModuleRelationRow : OpenClaim := { program := "ytjgbihcnfhbalaadoor", sum := "e14caed7749ecea0edaee0bec17c3def2e3622270bde7d2949239bbd3208c1db", func := "loop.example/parametric/laws.FnExactModuleRelation", spec := "fnExactModuleRelation", inPlace := ["internal/bytealg.IndexByteString"], unfollowed := true, recurses := true, named := ["math/bits.deBruijn64tab"], plainKeys := false, apart := false, laid := [("math/bits.deBruijn64tab", laid_math_bits_deBruijn64tab)] }
def FnExactModuleRelationSaid : Prop := fnExactModuleRelationRow.holds Tryd.pinned (OpenSpec.ofChange fnExactModuleRelationSpec)

/-- ITS FALSE NEIGHBOUR: 'it returns false'. Refute it at one input. -/
def fnExactModuleRelationWrong : ChangeSpec := { name := "fnExactModuleRelation", fn := fun _ => fun
  | [d1, d2, d3, d4, d5] => { results := [.lit (.bool false)], args := [d1, d2, d3, d4, d5] }
  | _ => none }
def FnExactModuleRelationWrongFalsely : Prop := fnExactModuleRelationRow.holds Tryd.pinned (OpenSpec.ofChange fnExactModuleRelationWrong)

/-- 'laws.FnExactModuleAlike': WHATEVER THE INPUT: true; the input reads as it did. -/
def fnExactModuleAlikeSpec : ChangeSpec := { name := "fnExactModuleAlike", fn := fun _ => fun
  | [d1, d2, d3, d4, d5] => { results := [.lit (.bool true)], args := [d1, d2, d3, d4, d5] }
  | _ => none }
def fnExactModuleAlikeRow : OpenClaim := { program := "ytjgbihcnfhbalaadoor", sum := "e14caed7749ecea0edaee0bec17c3def2e3622270bde7d2949239bbd3208c1db", func := "loop.example/parametric/laws.FnExactModuleAlike", spec := "fnExactModuleAlike", inPlace := ["internal/bytealg.IndexByteString"], unfollowed := true, recurses := true, named := ["math/bits.deBruijn64tab"], plainKeys := false, apart := false, laid := [("math/bits.deBruijn64tab", laid_math_bits_deBruijn64tab)] }
def FnExactModuleAlikeSaid : Prop := fnExactModuleAlikeRow.holds Tryd.pinned (OpenSpec.ofChange fnExactModuleAlikeSpec)

/-- ITS FALSE NEIGHBOUR: 'it returns false'. Refute it at one input. -/
def fnExactModuleAlikeWrong : ChangeSpec := { name := "fnExactModuleAlike", fn := fun _ => fun
  | [d1, d2, d3, d4, d5] => { results := [.lit (.bool false)], args := [d1, d2, d3, d4, d5] }
  | _ => none }
def FnExactModuleAlikeWrongFalsely : Prop := fnExactModuleAlikeRow.holds Tryd.pinned (OpenSpec.ofChange fnExactModuleAlikeWrong)

/-- 'laws.FnExactModuleBest': WHATEVER THE INPUT: true; the input reads as it did. -/
def fnExactModuleBestSpec : ChangeSpec := { name := "fnExactModuleBest", fn := fun _ => fun
  | [d1, d2, d3, d4, d5] => { results := [.lit (.bool true)], args := [d1, d2, d3, d4, d5] }
  | _ => none }
def fnExactModuleBestRow : OpenClaim := { program := "ytjgbihcnfhbalaadoor", sum := "e14caed7749ecea0edaee0bec17c3def2e3622270bde7d2949239bbd3208c1db", func := "loop.example/parametric/laws.FnExactModuleBest", spec := "fnExactModuleBest", inPlace := ["internal/bytealg.IndexByteString"], unfollowed := true, recurses := true, named := ["math/bits.deBruijn64tab"], plainKeys := false, apart := false, laid := [("math/bits.deBruijn64tab", laid_math_bits_deBruijn64tab)] }
def FnExactModuleBestSaid : Prop := fnExactModuleBestRow.holds Tryd.pinned (OpenSpec.ofChange fnExactModuleBestSpec)

/-- ITS FALSE NEIGHBOUR: 'it returns false'. Refute it at one input. -/
def fnExactModuleBestWrong : ChangeSpec := { name := "fnExactModuleBest", fn := fun _ => fun
  | [d1, d2, d3, d4, d5] => { results := [.lit (.bool false)], args := [d1, d2, d3, d4, d5] }
  | _ => none }
def FnExactModuleBestWrongFalsely : Prop := fnExactModuleBestRow.holds Tryd.pinned (OpenSpec.ofChange fnExactModuleBestWrong)

/-- 'laws.FnExactRelated': WHATEVER THE INPUT: true; the input reads as it did. -/
def fnExactRelatedSpec : ChangeSpec := { name := "fnExactRelated", fn := fun _ => fun
  | [d1, d2, d3, d4, d5] => { results := [.lit (.bool true)], args := [d1, d2, d3, d4, d5] }
  | _ => none }
def fnExactRelatedRow : OpenClaim := { program := "ytjgbihcnfhbalaadoor", sum := "e14caed7749ecea0edaee0bec17c3def2e3622270bde7d2949239bbd3208c1db", func := "loop.example/parametric/laws.FnExactRelated", spec := "fnExactRelated", inPlace := ["internal/bytealg.IndexByteString"], unfollowed := true, recurses := true, named := ["math/bits.deBruijn64tab"], plainKeys := false, apart := false, laid := [("math/bits.deBruijn64tab", laid_math_bits_deBruijn64tab)] }
def FnExactRelatedSaid : Prop := fnExactRelatedRow.holds Tryd.pinned (OpenSpec.ofChange fnExactRelatedSpec)

/-- ITS FALSE NEIGHBOUR: 'it returns false'. Refute it at one input. -/
def fnExactRelatedWrong : ChangeSpec := { name := "fnExactRelated", fn := fun _ => fun
  | [d1, d2, d3, d4, d5] => { results := [.lit (.bool false)], args := [d1, d2, d3, d4, d5] }
  | _ => none }
def FnExactRelatedWrongFalsely : Prop := fnExactRelatedRow.holds Tryd.pinned (OpenSpec.ofChange fnExactRelatedWrong)

/-- 'laws.FnExactRelLift': WHATEVER THE INPUT: true; the input reads as it did. -/
def fnExactRelLiftSpec : ChangeSpec := { name := "fnExactRelLift", fn := fun _ => fun
  | [d1, d2, d3] => { results := [.lit (.bool true)], args := [d1, d2, d3] }
  | _ => none }
def fnExactRelLiftRow : OpenClaim := { program := "ytjgbihcnfhbalaadoor", sum := "e14caed7749ecea0edaee0bec17c3def2e3622270bde7d2949239bbd3208c1db", func := "loop.example/parametric/laws.FnExactRelLift", spec := "fnExactRelLift", inPlace := ["internal/bytealg.IndexByteString"], unfollowed := true, recurses := true, named := ["math/bits.deBruijn64tab"], plainKeys := false, apart := false, laid := [("math/bits.deBruijn64tab", laid_math_bits_deBruijn64tab)] }
def FnExactRelLiftSaid : Prop := fnExactRelLiftRow.holds Tryd.pinned (OpenSpec.ofChange fnExactRelLiftSpec)

/-- ITS FALSE NEIGHBOUR: 'it returns false'. Refute it at one input. -/
def fnExactRelLiftWrong : ChangeSpec := { name := "fnExactRelLift", fn := fun _ => fun
  | [d1, d2, d3] => { results := [.lit (.bool false)], args := [d1, d2, d3] }
  | _ => none }
def FnExactRelLiftWrongFalsely : Prop := fnExactRelLiftRow.holds Tryd.pinned (OpenSpec.ofChange fnExactRelLiftWrong)

/-- 'laws.FnParamList': WHATEVER THE INPUT: true; the input reads as it did. -/
def fnParamListSpec : ChangeSpec := { name := "fnParamList", fn := fun _ => fun
  | [d] => { results := [.lit (.bool true)], args := [d] }
  | _ => none }
def fnParamListRow : OpenClaim := { program := "ytjgbihcnfhbalaadoor", sum := "e14caed7749ecea0edaee0bec17c3def2e3622270bde7d2949239bbd3208c1db", func := "loop.example/parametric/laws.FnParamList", spec := "fnParamList", inPlace := ["internal/bytealg.IndexByteString"], unfollowed := true, recurses := true, named := ["math/bits.deBruijn64tab"], plainKeys := false, apart := false, laid := [("math/bits.deBruijn64tab", laid_math_bits_deBruijn64tab)] }
def FnParamListSaid : Prop := fnParamListRow.holds Tryd.pinned (OpenSpec.ofChange fnParamListSpec)

/-- ITS FALSE NEIGHBOUR: 'it returns false'. Refute it at one input. -/
def fnParamListWrong : ChangeSpec := { name := "fnParamList", fn := fun _ => fun
  | [d] => { results := [.lit (.bool false)], args := [d] }
  | _ => none }
def FnParamListWrongFalsely : Prop := fnParamListRow.holds Tryd.pinned (OpenSpec.ofChange fnParamListWrong)

/-- 'laws.FnParamPairs': WHATEVER THE INPUT: true; the input reads as it did. -/
def fnParamPairsSpec : ChangeSpec := { name := "fnParamPairs", fn := fun _ => fun
  | [d] => { results := [.lit (.bool true)], args := [d] }
  | _ => none }
def fnParamPairsRow : OpenClaim := { program := "ytjgbihcnfhbalaadoor", sum := "e14caed7749ecea0edaee0bec17c3def2e3622270bde7d2949239bbd3208c1db", func := "loop.example/parametric/laws.FnParamPairs", spec := "fnParamPairs", inPlace := ["internal/bytealg.IndexByteString"], unfollowed := true, recurses := true, named := ["math/bits.deBruijn64tab"], plainKeys := false, apart := false, laid := [("math/bits.deBruijn64tab", laid_math_bits_deBruijn64tab)] }
def FnParamPairsSaid : Prop := fnParamPairsRow.holds Tryd.pinned (OpenSpec.ofChange fnParamPairsSpec)

/-- ITS FALSE NEIGHBOUR: 'it returns false'. Refute it at one input. -/
def fnParamPairsWrong : ChangeSpec := { name := "fnParamPairs", fn := fun _ => fun
  | [d] => { results := [.lit (.bool false)], args := [d] }
  | _ => none }
def FnParamPairsWrongFalsely : Prop := fnParamPairsRow.holds Tryd.pinned (OpenSpec.ofChange fnParamPairsWrong)

/-- 'laws.FnParamPair': WHATEVER THE INPUT: true; the input reads as it did. -/
def fnParamPairSpec : ChangeSpec := { name := "fnParamPair", fn := fun _ => fun
  | [d1, d2] => { results := [.lit (.bool true)], args := [d1, d2] }
  | _ => none }
def fnParamPairRow : OpenClaim := { program := "ytjgbihcnfhbalaadoor", sum := "e14caed7749ecea0edaee0bec17c3def2e3622270bde7d2949239bbd3208c1db", func := "loop.example/parametric/laws.FnParamPair", spec := "fnParamPair", inPlace := ["internal/bytealg.IndexByteString"], unfollowed := true, recurses := true, named := ["math/bits.deBruijn64tab"], plainKeys := false, apart := false, laid := [("math/bits.deBruijn64tab", laid_math_bits_deBruijn64tab)] }
def FnParamPairSaid : Prop := fnParamPairRow.holds Tryd.pinned (OpenSpec.ofChange fnParamPairSpec)

/-- ITS FALSE NEIGHBOUR: 'it returns false'. Refute it at one input. -/
def fnParamPairWrong : ChangeSpec := { name := "fnParamPair", fn := fun _ => fun
  | [d1, d2] => { results := [.lit (.bool false)], args := [d1, d2] }
  | _ => none }
def FnParamPairWrongFalsely : Prop := fnParamPairRow.holds Tryd.pinned (OpenSpec.ofChange fnParamPairWrong)

/- THE SECOND FORM. 'bulk': how many values and letters a reading holds, each counted each time it is reached (what is shared counts as often as it is met; a slice's spare places count too). A statement '..UptoSaid' is the law's where the arguments, and the package variables that the reading takes, are together of bulk at most 1048576: NARROWER than '..Said'. Prove '..Said' where nothing that the law and all that it calls make is longer than what came in: it says more and counts as full. Else prove '..UptoSaid'. A law counts once. -/
mutual
def uptoBulk {H : Type} : DataW H → Nat
  | .lit (.string bytes) => bytes.length + 1
  | .lit _ => 1
  | .nil => 1
  | .ptr d => uptoBulk d + 1
  | .slice elems spare => uptoBulkAll elems + uptoBulkAll spare + 1
  | .agg parts => uptoBulkAll parts + 1
  | .iface _ d => uptoBulk d + 1
  | .map entries => uptoBulkEntries entries + 1
  | .held _ => 1
def uptoBulkAll {H : Type} : List (DataW H) → Nat
  | [] => 0
  | d :: r => uptoBulk d + uptoBulkAll r
def uptoBulkEntries {H : Type} : List (Lit × DataW H) → Nat
  | [] => 0
  | x :: r => uptoBulkEntry x + uptoBulkEntries r
def uptoBulkEntry {H : Type} : Lit × DataW H → Nat
  | (.string bytes, d) => bytes.length + uptoBulk d + 1
  | (_, d) => uptoBulk d + 1
 end
def uptoSmall : (H : Type) → List (DataW H) → Bool := fun _ ds => decide (uptoBulkAll ds ≤ 1048576)
def OpenSpec.upto (s : _root_.Go.ChangeSpec) : _root_.Go.OpenSpec := { _root_.Go.OpenSpec.ofChange s with cond := some uptoSmall }

/-- 'laws.FnExactParamPair', WHERE WHAT IT READS IS OF BULK AT MOST 1048576: true; the input reads as it did. -/
def fnExactParamPairUptoRow : OpenClaim := { program := "ytjgbihcnfhbalaadoor", sum := "e14caed7749ecea0edaee0bec17c3def2e3622270bde7d2949239bbd3208c1db", func := "loop.example/parametric/laws.FnExactParamPair", spec := "fnExactParamPair", inPlace := ["internal/bytealg.IndexByteString"], unfollowed := true, recurses := true, named := ["math/bits.deBruijn64tab"], plainKeys := false, apart := false, laid := [("math/bits.deBruijn64tab", laid_math_bits_deBruijn64tab)], narrowed := true }
def FnExactParamPairUptoSaid : Prop := fnExactParamPairUptoRow.holds Tryd.pinned (OpenSpec.upto fnExactParamPairSpec)

/-- 'laws.FnExactParamIs', WHERE WHAT IT READS IS OF BULK AT MOST 1048576: true; the input reads as it did. -/
def fnExactParamIsUptoRow : OpenClaim := { program := "ytjgbihcnfhbalaadoor", sum := "e14caed7749ecea0edaee0bec17c3def2e3622270bde7d2949239bbd3208c1db", func := "loop.example/parametric/laws.FnExactParamIs", spec := "fnExactParamIs", inPlace := ["internal/bytealg.IndexByteString"], unfollowed := true, recurses := true, named := ["math/bits.deBruijn64tab"], plainKeys := false, apart := false, laid := [("math/bits.deBruijn64tab", laid_math_bits_deBruijn64tab)], narrowed := true }
def FnExactParamIsUptoSaid : Prop := fnExactParamIsUptoRow.holds Tryd.pinned (OpenSpec.upto fnExactParamIsSpec)

/-- 'laws.FnExactParamList', WHERE WHAT IT READS IS OF BULK AT MOST 1048576: true; the input reads as it did. -/
def fnExactParamListUptoRow : OpenClaim := { program := "ytjgbihcnfhbalaadoor", sum := "e14caed7749ecea0edaee0bec17c3def2e3622270bde7d2949239bbd3208c1db", func := "loop.example/parametric/laws.FnExactParamList", spec := "fnExactParamList", inPlace := ["internal/bytealg.IndexByteString"], unfollowed := true, recurses := true, named := ["math/bits.deBruijn64tab"], plainKeys := false, apart := false, laid := [("math/bits.deBruijn64tab", laid_math_bits_deBruijn64tab)], narrowed := true }
def FnExactParamListUptoSaid : Prop := fnExactParamListUptoRow.holds Tryd.pinned (OpenSpec.upto fnExactParamListSpec)

/-- 'laws.FnExactParamCount', WHERE WHAT IT READS IS OF BULK AT MOST 1048576: true; the input reads as it did. -/
def fnExactParamCountUptoRow : OpenClaim := { program := "ytjgbihcnfhbalaadoor", sum := "e14caed7749ecea0edaee0bec17c3def2e3622270bde7d2949239bbd3208c1db", func := "loop.example/parametric/laws.FnExactParamCount", spec := "fnExactParamCount", inPlace := ["internal/bytealg.IndexByteString"], unfollowed := true, recurses := true, named := ["math/bits.deBruijn64tab"], plainKeys := false, apart := false, laid := [("math/bits.deBruijn64tab", laid_math_bits_deBruijn64tab)], narrowed := true }
def FnExactParamCountUptoSaid : Prop := fnExactParamCountUptoRow.holds Tryd.pinned (OpenSpec.upto fnExactParamCountSpec)

/-- 'laws.FnExactModuleRelation', WHERE WHAT IT READS IS OF BULK AT MOST 1048576: true; the input reads as it did. -/
def fnExactModuleRelationUptoRow : OpenClaim := { program := "ytjgbihcnfhbalaadoor", sum := "e14caed7749ecea0edaee0bec17c3def2e3622270bde7d2949239bbd3208c1db", func := "loop.example/parametric/laws.FnExactModuleRelation", spec := "fnExactModuleRelation", inPlace := ["internal/bytealg.IndexByteString"], unfollowed := true, recurses := true, named := ["math/bits.deBruijn64tab"], plainKeys := false, apart := false, laid := [("math/bits.deBruijn64tab", laid_math_bits_deBruijn64tab)], narrowed := true }
def FnExactModuleRelationUptoSaid : Prop := fnExactModuleRelationUptoRow.holds Tryd.pinned (OpenSpec.upto fnExactModuleRelationSpec)

/-- 'laws.FnExactModuleAlike', WHERE WHAT IT READS IS OF BULK AT MOST 1048576: true; the input reads as it did. -/
def fnExactModuleAlikeUptoRow : OpenClaim := { program := "ytjgbihcnfhbalaadoor", sum := "e14caed7749ecea0edaee0bec17c3def2e3622270bde7d2949239bbd3208c1db", func := "loop.example/parametric/laws.FnExactModuleAlike", spec := "fnExactModuleAlike", inPlace := ["internal/bytealg.IndexByteString"], unfollowed := true, recurses := true, named := ["math/bits.deBruijn64tab"], plainKeys := false, apart := false, laid := [("math/bits.deBruijn64tab", laid_math_bits_deBruijn64tab)], narrowed := true }
def FnExactModuleAlikeUptoSaid : Prop := fnExactModuleAlikeUptoRow.holds Tryd.pinned (OpenSpec.upto fnExactModuleAlikeSpec)

/-- 'laws.FnExactModuleBest', WHERE WHAT IT READS IS OF BULK AT MOST 1048576: true; the input reads as it did. -/
def fnExactModuleBestUptoRow : OpenClaim := { program := "ytjgbihcnfhbalaadoor", sum := "e14caed7749ecea0edaee0bec17c3def2e3622270bde7d2949239bbd3208c1db", func := "loop.example/parametric/laws.FnExactModuleBest", spec := "fnExactModuleBest", inPlace := ["internal/bytealg.IndexByteString"], unfollowed := true, recurses := true, named := ["math/bits.deBruijn64tab"], plainKeys := false, apart := false, laid := [("math/bits.deBruijn64tab", laid_math_bits_deBruijn64tab)], narrowed := true }
def FnExactModuleBestUptoSaid : Prop := fnExactModuleBestUptoRow.holds Tryd.pinned (OpenSpec.upto fnExactModuleBestSpec)

/-- 'laws.FnExactRelated', WHERE WHAT IT READS IS OF BULK AT MOST 1048576: true; the input reads as it did. -/
def fnExactRelatedUptoRow : OpenClaim := { program := "ytjgbihcnfhbalaadoor", sum := "e14caed7749ecea0edaee0bec17c3def2e3622270bde7d2949239bbd3208c1db", func := "loop.example/parametric/laws.FnExactRelated", spec := "fnExactRelated", inPlace := ["internal/bytealg.IndexByteString"], unfollowed := true, recurses := true, named := ["math/bits.deBruijn64tab"], plainKeys := false, apart := false, laid := [("math/bits.deBruijn64tab", laid_math_bits_deBruijn64tab)], narrowed := true }
def FnExactRelatedUptoSaid : Prop := fnExactRelatedUptoRow.holds Tryd.pinned (OpenSpec.upto fnExactRelatedSpec)

/-- 'laws.FnExactRelLift', WHERE WHAT IT READS IS OF BULK AT MOST 1048576: true; the input reads as it did. -/
def fnExactRelLiftUptoRow : OpenClaim := { program := "ytjgbihcnfhbalaadoor", sum := "e14caed7749ecea0edaee0bec17c3def2e3622270bde7d2949239bbd3208c1db", func := "loop.example/parametric/laws.FnExactRelLift", spec := "fnExactRelLift", inPlace := ["internal/bytealg.IndexByteString"], unfollowed := true, recurses := true, named := ["math/bits.deBruijn64tab"], plainKeys := false, apart := false, laid := [("math/bits.deBruijn64tab", laid_math_bits_deBruijn64tab)], narrowed := true }
def FnExactRelLiftUptoSaid : Prop := fnExactRelLiftUptoRow.holds Tryd.pinned (OpenSpec.upto fnExactRelLiftSpec)

/-- 'laws.FnParamList', WHERE WHAT IT READS IS OF BULK AT MOST 1048576: true; the input reads as it did. -/
def fnParamListUptoRow : OpenClaim := { program := "ytjgbihcnfhbalaadoor", sum := "e14caed7749ecea0edaee0bec17c3def2e3622270bde7d2949239bbd3208c1db", func := "loop.example/parametric/laws.FnParamList", spec := "fnParamList", inPlace := ["internal/bytealg.IndexByteString"], unfollowed := true, recurses := true, named := ["math/bits.deBruijn64tab"], plainKeys := false, apart := false, laid := [("math/bits.deBruijn64tab", laid_math_bits_deBruijn64tab)], narrowed := true }
def FnParamListUptoSaid : Prop := fnParamListUptoRow.holds Tryd.pinned (OpenSpec.upto fnParamListSpec)

/-- 'laws.FnParamPairs', WHERE WHAT IT READS IS OF BULK AT MOST 1048576: true; the input reads as it did. -/
def fnParamPairsUptoRow : OpenClaim := { program := "ytjgbihcnfhbalaadoor", sum := "e14caed7749ecea0edaee0bec17c3def2e3622270bde7d2949239bbd3208c1db", func := "loop.example/parametric/laws.FnParamPairs", spec := "fnParamPairs", inPlace := ["internal/bytealg.IndexByteString"], unfollowed := true, recurses := true, named := ["math/bits.deBruijn64tab"], plainKeys := false, apart := false, laid := [("math/bits.deBruijn64tab", laid_math_bits_deBruijn64tab)], narrowed := true }
def FnParamPairsUptoSaid : Prop := fnParamPairsUptoRow.holds Tryd.pinned (OpenSpec.upto fnParamPairsSpec)

/-- 'laws.FnParamPair', WHERE WHAT IT READS IS OF BULK AT MOST 1048576: true; the input reads as it did. -/
def fnParamPairUptoRow : OpenClaim := { program := "ytjgbihcnfhbalaadoor", sum := "e14caed7749ecea0edaee0bec17c3def2e3622270bde7d2949239bbd3208c1db", func := "loop.example/parametric/laws.FnParamPair", spec := "fnParamPair", inPlace := ["internal/bytealg.IndexByteString"], unfollowed := true, recurses := true, named := ["math/bits.deBruijn64tab"], plainKeys := false, apart := false, laid := [("math/bits.deBruijn64tab", laid_math_bits_deBruijn64tab)], narrowed := true }
def FnParamPairUptoSaid : Prop := fnParamPairUptoRow.holds Tryd.pinned (OpenSpec.upto fnParamPairSpec)

end Rows
end Go.Proofs.YtjgbihcnfhbalaaDoor
