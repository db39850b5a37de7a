/-
  NARROWER THAN 'FOR EVERY INPUT', by the rows' own cells (each row's printed sentence says how): FnRelated: laid · FnLift: laid · FnIdentity: laid · FnLarger: laid · FnParamPair: laid · FnParamIs: laid · FnModuleAlike: laid · FnExactRelated: laid · FnExactRelLift: laid.
  DERIVED. THE GIVEN ROWS OF THIS SEAT. 9 by the template 'for every input the law returns true; each argument reads behind the call as it read before'; 0 by the template 'total and deterministic' (their statements: YtloecimlimoanaaDoorTotals.lean).
  GIVEN WITH THE SEED: the statements are not yours to turn. If you find one false, say at which input.
  Laid BY PROGRAM, IN A SANDBOX (cutbox-rows.mjs): the forced cells as the released guide's own fill.sh prints them over the translation 1112761d16749416… (all of the seat's roots in one cut). By AI agents, Wed Nov 11 2026. No macro, syntax, notation, axiom, sorry.
-/
import Derived.Test.YtloecimlimoanaaDoorChecked
import GoSem.Claim
import GoSem.ClaimJoined
import GoSem.ClaimMapViews
import Derived.JoinedTies
import Derived.KernelRfl
namespace Go.Proofs.YtloecimlimoanaaDoor
/- THE CELL 'sum', in the pinned program and in every row, IS THE sha256 OF THE DUMP (.gsa) THAT YtloecimlimoanaaDoorProg.lean LOADS. Nothing in Lean hashes anything: it is a label: what it is worth is what the hold of that sum in a sandbox is worth. -/
noncomputable def Tryd.pinned : Pinned := { name := "ytloecimlimoanaadoor", sum := "1112761d167494166eb5a8dac826bdd4a1347d8148d1319acf64475ed9554e39", checked := Tryd.checked }
namespace Rows
def none {H : Type} : Left H := { results := [], args := [] }

/- WHAT THE LISTED PACKAGE-LEVEL VARIABLES READ AS WHEN THE CALL BEGINS. Each datum BY PROGRAM (the guide's laid-datum.mjs) off the statement by which the dump's own 'gosem.cut.vars' lays the variable. In a bare row this is a premise. The card (YtloecimlimoanaaDoorCards.lean) ties it to the program's text. -/
def laid_math_bits_deBruijn64tab {H : Type} : DataW H := .agg [.lit (.int .u8 0), .lit (.int .u8 1), .lit (.int .u8 56), .lit (.int .u8 2), .lit (.int .u8 57), .lit (.int .u8 49), .lit (.int .u8 28), .lit (.int .u8 3), .lit (.int .u8 61), .lit (.int .u8 58), .lit (.int .u8 42), .lit (.int .u8 50), .lit (.int .u8 38), .lit (.int .u8 29), .lit (.int .u8 17), .lit (.int .u8 4), .lit (.int .u8 62), .lit (.int .u8 47), .lit (.int .u8 59), .lit (.int .u8 36), .lit (.int .u8 45), .lit (.int .u8 43), .lit (.int .u8 51), .lit (.int .u8 22), .lit (.int .u8 53), .lit (.int .u8 39), .lit (.int .u8 33), .lit (.int .u8 30), .lit (.int .u8 24), .lit (.int .u8 18), .lit (.int .u8 12), .lit (.int .u8 5), .lit (.int .u8 63), .lit (.int .u8 55), .lit (.int .u8 48), .lit (.int .u8 27), .lit (.int .u8 60), .lit (.int .u8 41), .lit (.int .u8 37), .lit (.int .u8 16), .lit (.int .u8 46), .lit (.int .u8 35), .lit (.int .u8 44), .lit (.int .u8 21), .lit (.int .u8 52), .lit (.int .u8 32), .lit (.int .u8 23), .lit (.int .u8 11), .lit (.int .u8 54), .lit (.int .u8 26), .lit (.int .u8 40), .lit (.int .u8 15), .lit (.int .u8 34), .lit (.int .u8 20), .lit (.int .u8 31), .lit (.int .u8 10), .lit (.int .u8 25), .lit (.int .u8 14), .lit (.int .u8 19), .lit (.int .u8 9), .lit (.int .u8 13), .lit (.int .u8 8), .lit (.int .u8 7), .lit (.int .u8 6)]

/-- 'laws.FnRelated': WHATEVER THE INPUT: true; the input reads as it did. -/
def fnRelatedSpec : ChangeSpec := { name := "fnRelated", fn := fun _ => fun
  | [d] => { results := [.lit (.bool true)], args := [d] }
  | _ => none }
def fnRelatedRow : OpenClaim := { program := "ytloecimlimoanaadoor", sum := "1112761d167494166eb5a8dac826bdd4a1347d8148d1319acf64475ed9554e39", func := "loop.example/parametric/laws.FnRelated", spec := "fnRelated", inPlace := ["internal/bytealg.IndexByteString"], unfollowed := true, recurses := true, named := ["math/bits.deBruijn64tab"], plainKeys := false, apart := false, laid := [("math/bits.deBruijn64tab", laid_math_bits_deBruijn64tab)] }
def FnRelatedSaid : Prop := fnRelatedRow.holds Tryd.pinned (OpenSpec.ofChange fnRelatedSpec)

/-- ITS FALSE NEIGHBOUR: 'it returns false'. Refute it at one input. -/
def fnRelatedWrong : ChangeSpec := { name := "fnRelated", fn := fun _ => fun
  | [d] => { results := [.lit (.bool false)], args := [d] }
  | _ => none }
def FnRelatedWrongFalsely : Prop := fnRelatedRow.holds Tryd.pinned (OpenSpec.ofChange fnRelatedWrong)

/-- 'laws.FnLift': WHATEVER THE INPUT: true; the input reads as it did. -/
def fnLiftSpec : ChangeSpec := { name := "fnLift", fn := fun _ => fun
  | [d1, d2] => { results := [.lit (.bool true)], args := [d1, d2] }
  | _ => none }
def fnLiftRow : OpenClaim := { program := "ytloecimlimoanaadoor", sum := "1112761d167494166eb5a8dac826bdd4a1347d8148d1319acf64475ed9554e39", func := "loop.example/parametric/laws.FnLift", spec := "fnLift", inPlace := ["internal/bytealg.IndexByteString"], unfollowed := true, recurses := true, named := ["math/bits.deBruijn64tab"], plainKeys := false, apart := false, laid := [("math/bits.deBruijn64tab", laid_math_bits_deBruijn64tab)] }
def FnLiftSaid : Prop := fnLiftRow.holds Tryd.pinned (OpenSpec.ofChange fnLiftSpec)

/-- ITS FALSE NEIGHBOUR: 'it returns false'. Refute it at one input. -/
def fnLiftWrong : ChangeSpec := { name := "fnLift", fn := fun _ => fun
  | [d1, d2] => { results := [.lit (.bool false)], args := [d1, d2] }
  | _ => none }
def FnLiftWrongFalsely : Prop := fnLiftRow.holds Tryd.pinned (OpenSpec.ofChange fnLiftWrong)

/-- 'laws.FnIdentity': WHATEVER THE INPUT: true; the input reads as it did. -/
def fnIdentitySpec : ChangeSpec := { name := "fnIdentity", fn := fun _ => fun
  | [d] => { results := [.lit (.bool true)], args := [d] }
  | _ => none }
def fnIdentityRow : OpenClaim := { program := "ytloecimlimoanaadoor", sum := "1112761d167494166eb5a8dac826bdd4a1347d8148d1319acf64475ed9554e39", func := "loop.example/parametric/laws.FnIdentity", spec := "fnIdentity", inPlace := ["internal/bytealg.IndexByteString"], unfollowed := true, recurses := true, named := ["math/bits.deBruijn64tab"], plainKeys := false, apart := false, laid := [("math/bits.deBruijn64tab", laid_math_bits_deBruijn64tab)] }
def FnIdentitySaid : Prop := fnIdentityRow.holds Tryd.pinned (OpenSpec.ofChange fnIdentitySpec)

/-- ITS FALSE NEIGHBOUR: 'it returns false'. Refute it at one input. -/
def fnIdentityWrong : ChangeSpec := { name := "fnIdentity", fn := fun _ => fun
  | [d] => { results := [.lit (.bool false)], args := [d] }
  | _ => none }
def FnIdentityWrongFalsely : Prop := fnIdentityRow.holds Tryd.pinned (OpenSpec.ofChange fnIdentityWrong)

/-- 'laws.FnLarger': WHATEVER THE INPUT: true; the input reads as it did. -/
def fnLargerSpec : ChangeSpec := { name := "fnLarger", fn := fun _ => fun
  | [d] => { results := [.lit (.bool true)], args := [d] }
  | _ => none }
def fnLargerRow : OpenClaim := { program := "ytloecimlimoanaadoor", sum := "1112761d167494166eb5a8dac826bdd4a1347d8148d1319acf64475ed9554e39", func := "loop.example/parametric/laws.FnLarger", spec := "fnLarger", inPlace := ["internal/bytealg.IndexByteString"], unfollowed := true, recurses := true, named := ["math/bits.deBruijn64tab"], plainKeys := false, apart := false, laid := [("math/bits.deBruijn64tab", laid_math_bits_deBruijn64tab)] }
def FnLargerSaid : Prop := fnLargerRow.holds Tryd.pinned (OpenSpec.ofChange fnLargerSpec)

/-- ITS FALSE NEIGHBOUR: 'it returns false'. Refute it at one input. -/
def fnLargerWrong : ChangeSpec := { name := "fnLarger", fn := fun _ => fun
  | [d] => { results := [.lit (.bool false)], args := [d] }
  | _ => none }
def FnLargerWrongFalsely : Prop := fnLargerRow.holds Tryd.pinned (OpenSpec.ofChange fnLargerWrong)

/-- 'laws.FnParamPair': WHATEVER THE INPUT: true; the input reads as it did. -/
def fnParamPairSpec : ChangeSpec := { name := "fnParamPair", fn := fun _ => fun
  | [d1, d2] => { results := [.lit (.bool true)], args := [d1, d2] }
  | _ => none }
def fnParamPairRow : OpenClaim := { program := "ytloecimlimoanaadoor", sum := "1112761d167494166eb5a8dac826bdd4a1347d8148d1319acf64475ed9554e39", func := "loop.example/parametric/laws.FnParamPair", spec := "fnParamPair", inPlace := ["internal/bytealg.IndexByteString"], unfollowed := true, recurses := true, named := ["math/bits.deBruijn64tab"], plainKeys := false, apart := false, laid := [("math/bits.deBruijn64tab", laid_math_bits_deBruijn64tab)] }
def FnParamPairSaid : Prop := fnParamPairRow.holds Tryd.pinned (OpenSpec.ofChange fnParamPairSpec)

/-- ITS FALSE NEIGHBOUR: 'it returns false'. Refute it at one input. -/
def fnParamPairWrong : ChangeSpec := { name := "fnParamPair", fn := fun _ => fun
  | [d1, d2] => { results := [.lit (.bool false)], args := [d1, d2] }
  | _ => none }
def FnParamPairWrongFalsely : Prop := fnParamPairRow.holds Tryd.pinned (OpenSpec.ofChange fnParamPairWrong)

/-- 'laws.FnParamIs': WHATEVER THE INPUT: true; the input reads as it did. -/
def fnParamIsSpec : ChangeSpec := { name := "fnParamIs", fn := fun _ => fun
  | [d] => { results := [.lit (.bool true)], args := [d] }
  | _ => none }
def fnParamIsRow : OpenClaim := { program := "ytloecimlimoanaadoor", sum := "1112761d167494166eb5a8dac826bdd4a1347d8148d1319acf64475ed9554e39", func := "loop.example/parametric/laws.FnParamIs", spec := "fnParamIs", inPlace := ["internal/bytealg.IndexByteString"], unfollowed := true, recurses := true, named := ["math/bits.deBruijn64tab"], plainKeys := false, apart := false, laid := [("math/bits.deBruijn64tab", laid_math_bits_deBruijn64tab)] }
def FnParamIsSaid : Prop := fnParamIsRow.holds Tryd.pinned (OpenSpec.ofChange fnParamIsSpec)

/-- ITS FALSE NEIGHBOUR: 'it returns false'. Refute it at one input. -/
def fnParamIsWrong : ChangeSpec := { name := "fnParamIs", fn := fun _ => fun
  | [d] => { results := [.lit (.bool false)], args := [d] }
  | _ => none }
def FnParamIsWrongFalsely : Prop := fnParamIsRow.holds Tryd.pinned (OpenSpec.ofChange fnParamIsWrong)

/-- 'laws.FnModuleAlike': WHATEVER THE INPUT: true; the input reads as it did. -/
def fnModuleAlikeSpec : ChangeSpec := { name := "fnModuleAlike", fn := fun _ => fun
  | [d] => { results := [.lit (.bool true)], args := [d] }
  | _ => none }
def fnModuleAlikeRow : OpenClaim := { program := "ytloecimlimoanaadoor", sum := "1112761d167494166eb5a8dac826bdd4a1347d8148d1319acf64475ed9554e39", func := "loop.example/parametric/laws.FnModuleAlike", spec := "fnModuleAlike", inPlace := ["internal/bytealg.IndexByteString"], unfollowed := true, recurses := true, named := ["math/bits.deBruijn64tab"], plainKeys := false, apart := false, laid := [("math/bits.deBruijn64tab", laid_math_bits_deBruijn64tab)] }
def FnModuleAlikeSaid : Prop := fnModuleAlikeRow.holds Tryd.pinned (OpenSpec.ofChange fnModuleAlikeSpec)

/-- ITS FALSE NEIGHBOUR: 'it returns false'. Refute it at one input. -/
def fnModuleAlikeWrong : ChangeSpec := { name := "fnModuleAlike", fn := fun _ => fun
  | [d] => { results := [.lit (.bool false)], args := [d] }
  | _ => none }
def FnModuleAlikeWrongFalsely : Prop := fnModuleAlikeRow.holds Tryd.pinned (OpenSpec.ofChange fnModuleAlikeWrong)

/-- 'laws.FnExactRelated': WHATEVER THE INPUT: true; the input reads as it did. -/
def fnExactRelatedSpec : ChangeSpec := { name := "fnExactRelated", fn := fun _ => fun
  | [d1, d2, d3, d4, d5] => { results := [.lit (.bool true)], args := [d1, d2, d3, d4, d5] }
  | _ => none }
def fnExactRelatedRow : OpenClaim := { program := "ytloecimlimoanaadoor", sum := "1112761d167494166eb5a8dac826bdd4a1347d8148d1319acf64475ed9554e39", func := "loop.example/parametric/laws.FnExactRelated", spec := "fnExactRelated", inPlace := ["internal/bytealg.IndexByteString"], unfollowed := true, recurses := true, named := ["math/bits.deBruijn64tab"], plainKeys := false, apart := false, laid := [("math/bits.deBruijn64tab", laid_math_bits_deBruijn64tab)] }
def FnExactRelatedSaid : Prop := fnExactRelatedRow.holds Tryd.pinned (OpenSpec.ofChange fnExactRelatedSpec)

/-- ITS FALSE NEIGHBOUR: 'it returns false'. Refute it at one input. -/
def fnExactRelatedWrong : ChangeSpec := { name := "fnExactRelated", fn := fun _ => fun
  | [d1, d2, d3, d4, d5] => { results := [.lit (.bool false)], args := [d1, d2, d3, d4, d5] }
  | _ => none }
def FnExactRelatedWrongFalsely : Prop := fnExactRelatedRow.holds Tryd.pinned (OpenSpec.ofChange fnExactRelatedWrong)

/-- 'laws.FnExactRelLift': WHATEVER THE INPUT: true; the input reads as it did. -/
def fnExactRelLiftSpec : ChangeSpec := { name := "fnExactRelLift", fn := fun _ => fun
  | [d1, d2, d3] => { results := [.lit (.bool true)], args := [d1, d2, d3] }
  | _ => none }
def fnExactRelLiftRow : OpenClaim := { program := "ytloecimlimoanaadoor", sum := "1112761d167494166eb5a8dac826bdd4a1347d8148d1319acf64475ed9554e39", func := "loop.example/parametric/laws.FnExactRelLift", spec := "fnExactRelLift", inPlace := ["internal/bytealg.IndexByteString"], unfollowed := true, recurses := true, named := ["math/bits.deBruijn64tab"], plainKeys := false, apart := false, laid := [("math/bits.deBruijn64tab", laid_math_bits_deBruijn64tab)] }
def FnExactRelLiftSaid : Prop := fnExactRelLiftRow.holds Tryd.pinned (OpenSpec.ofChange fnExactRelLiftSpec)

/-- ITS FALSE NEIGHBOUR: 'it returns false'. Refute it at one input. -/
def fnExactRelLiftWrong : ChangeSpec := { name := "fnExactRelLift", fn := fun _ => fun
  | [d1, d2, d3] => { results := [.lit (.bool false)], args := [d1, d2, d3] }
  | _ => none }
def FnExactRelLiftWrongFalsely : Prop := fnExactRelLiftRow.holds Tryd.pinned (OpenSpec.ofChange fnExactRelLiftWrong)

/- THE SECOND FORM. 'bulk': how many values and letters a reading holds, each counted each time it is reached (what is shared counts as often as it is met; a slice's spare places count too). A statement '..UptoSaid' is the law's where the arguments, and the package variables that the reading takes, are together of bulk at most 1048576: NARROWER than '..Said'. Prove '..Said' where nothing that the law and all that it calls make is longer than what came in: it says more and counts as full. Else prove '..UptoSaid'. A law counts once. -/
mutual
def uptoBulk {H : Type} : DataW H → Nat
  | .lit (.string bytes) => bytes.length + 1
  | .lit _ => 1
  | .nil => 1
  | .ptr d => uptoBulk d + 1
  | .slice elems spare => uptoBulkAll elems + uptoBulkAll spare + 1
  | .agg parts => uptoBulkAll parts + 1
  | .iface _ d => uptoBulk d + 1
  | .map entries => uptoBulkEntries entries + 1
  | .held _ => 1
def uptoBulkAll {H : Type} : List (DataW H) → Nat
  | [] => 0
  | d :: r => uptoBulk d + uptoBulkAll r
def uptoBulkEntries {H : Type} : List (Lit × DataW H) → Nat
  | [] => 0
  | x :: r => uptoBulkEntry x + uptoBulkEntries r
def uptoBulkEntry {H : Type} : Lit × DataW H → Nat
  | (.string bytes, d) => bytes.length + uptoBulk d + 1
  | (_, d) => uptoBulk d + 1
 end
def uptoSmall : (H : Type) → List (DataW H) → Bool := fun _ ds => decide (uptoBulkAll ds ≤ 1048576)
def OpenSpec.upto (s : _root_.Go.ChangeSpec) : _root_.Go.OpenSpec := { _root_.Go.OpenSpec.ofChange s with cond := some uptoSmall }

/-- 'laws.FnRelated', WHERE WHAT IT READS IS OF BULK AT MOST 1048576: true; the input reads as it did. -/
def fnRelatedUptoRow : OpenClaim := { program := "ytloecimlimoanaadoor", sum := "1112761d167494166eb5a8dac826bdd4a1347d8148d1319acf64475ed9554e39", func := "loop.example/parametric/laws.FnRelated", spec := "fnRelated", inPlace := ["internal/bytealg.IndexByteString"], unfollowed := true, recurses := true, named := ["math/bits.deBruijn64tab"], plainKeys := false, apart := false, laid := [("math/bits.deBruijn64tab", laid_math_bits_deBruijn64tab)], narrowed := true }
def FnRelatedUptoSaid : Prop := fnRelatedUptoRow.holds Tryd.pinned (OpenSpec.upto fnRelatedSpec)

/-- 'laws.FnLift', WHERE WHAT IT READS IS OF BULK AT MOST 1048576: true; the input reads as it did. -/
def fnLiftUptoRow : OpenClaim := { program := "ytloecimlimoanaadoor", sum := "1112761d167494166eb5a8dac826bdd4a1347d8148d1319acf64475ed9554e39", func := "loop.example/parametric/laws.FnLift", spec := "fnLift", inPlace := ["internal/bytealg.IndexByteString"], unfollowed := true, recurses := true, named := ["math/bits.deBruijn64tab"], plainKeys := false, apart := false, laid := [("math/bits.deBruijn64tab", laid_math_bits_deBruijn64tab)], narrowed := true }
def FnLiftUptoSaid : Prop := fnLiftUptoRow.holds Tryd.pinned (OpenSpec.upto fnLiftSpec)

/-- 'laws.FnIdentity', WHERE WHAT IT READS IS OF BULK AT MOST 1048576: true; the input reads as it did. -/
def fnIdentityUptoRow : OpenClaim := { program := "ytloecimlimoanaadoor", sum := "1112761d167494166eb5a8dac826bdd4a1347d8148d1319acf64475ed9554e39", func := "loop.example/parametric/laws.FnIdentity", spec := "fnIdentity", inPlace := ["internal/bytealg.IndexByteString"], unfollowed := true, recurses := true, named := ["math/bits.deBruijn64tab"], plainKeys := false, apart := false, laid := [("math/bits.deBruijn64tab", laid_math_bits_deBruijn64tab)], narrowed := true }
def FnIdentityUptoSaid : Prop := fnIdentityUptoRow.holds Tryd.pinned (OpenSpec.upto fnIdentitySpec)

/-- 'laws.FnLarger', WHERE WHAT IT READS IS OF BULK AT MOST 1048576: true; the input reads as it did. -/
def fnLargerUptoRow : OpenClaim := { program := "ytloecimlimoanaadoor", sum := "1112761d167494166eb5a8dac826bdd4a1347d8148d1319acf64475ed9554e39", func := "loop.example/parametric/laws.FnLarger", spec := "fnLarger", inPlace := ["internal/bytealg.IndexByteString"], unfollowed := true, recurses := true, named := ["math/bits.deBruijn64tab"], plainKeys := false, apart := false, laid := [("math/bits.deBruijn64tab", laid_math_bits_deBruijn64tab)], narrowed := true }
def FnLargerUptoSaid : Prop := fnLargerUptoRow.holds Tryd.pinned (OpenSpec.upto fnLargerSpec)

/-- 'laws.FnParamPair', WHERE WHAT IT READS IS OF BULK AT MOST 1048576: true; the input reads as it did. -/
def fnParamPairUptoRow : OpenClaim := { program := "ytloecimlimoanaadoor", sum := "1112761d167494166eb5a8dac826bdd4a1347d8148d1319acf64475ed9554e39", func := "loop.example/parametric/laws.FnParamPair", spec := "fnParamPair", inPlace := ["internal/bytealg.IndexByteString"], unfollowed := true, recurses := true, named := ["math/bits.deBruijn64tab"], plainKeys := false, apart := false, laid := [("math/bits.deBruijn64tab", laid_math_bits_deBruijn64tab)], narrowed := true }
def FnParamPairUptoSaid : Prop := fnParamPairUptoRow.holds Tryd.pinned (OpenSpec.upto fnParamPairSpec)

/-- 'laws.FnParamIs', WHERE WHAT IT READS IS OF BULK AT MOST 1048576: true; the input reads as it did. -/
def fnParamIsUptoRow : OpenClaim := { program := "ytloecimlimoanaadoor", sum := "1112761d167494166eb5a8dac826bdd4a1347d8148d1319acf64475ed9554e39", func := "loop.example/parametric/laws.FnParamIs", spec := "fnParamIs", inPlace := ["internal/bytealg.IndexByteString"], unfollowed := true, recurses := true, named := ["math/bits.deBruijn64tab"], plainKeys := false, apart := false, laid := [("math/bits.deBruijn64tab", laid_math_bits_deBruijn64tab)], narrowed := true }
def FnParamIsUptoSaid : Prop := fnParamIsUptoRow.holds Tryd.pinned (OpenSpec.upto fnParamIsSpec)

/-- 'laws.FnModuleAlike', WHERE WHAT IT READS IS OF BULK AT MOST 1048576: true; the input reads as it did. -/
def fnModuleAlikeUptoRow : OpenClaim := { program := "ytloecimlimoanaadoor", sum := "1112761d167494166eb5a8dac826bdd4a1347d8148d1319acf64475ed9554e39", func := "loop.example/parametric/laws.FnModuleAlike", spec := "fnModuleAlike", inPlace := ["internal/bytealg.IndexByteString"], unfollowed := true, recurses := true, named := ["math/bits.deBruijn64tab"], plainKeys := false, apart := false, laid := [("math/bits.deBruijn64tab", laid_math_bits_deBruijn64tab)], narrowed := true }
def FnModuleAlikeUptoSaid : Prop := fnModuleAlikeUptoRow.holds Tryd.pinned (OpenSpec.upto fnModuleAlikeSpec)

/-- 'laws.FnExactRelated', WHERE WHAT IT READS IS OF BULK AT MOST 1048576: true; the input reads as it did. -/
def fnExactRelatedUptoRow : OpenClaim := { program := "ytloecimlimoanaadoor", sum := "1112761d167494166eb5a8dac826bdd4a1347d8148d1319acf64475ed9554e39", func := "loop.example/parametric/laws.FnExactRelated", spec := "fnExactRelated", inPlace := ["internal/bytealg.IndexByteString"], unfollowed := true, recurses := true, named := ["math/bits.deBruijn64tab"], plainKeys := false, apart := false, laid := [("math/bits.deBruijn64tab", laid_math_bits_deBruijn64tab)], narrowed := true }
def FnExactRelatedUptoSaid : Prop := fnExactRelatedUptoRow.holds Tryd.pinned (OpenSpec.upto fnExactRelatedSpec)

/-- 'laws.FnExactRelLift', WHERE WHAT IT READS IS OF BULK AT MOST 1048576: true; the input reads as it did. -/
def fnExactRelLiftUptoRow : OpenClaim := { program := "ytloecimlimoanaadoor", sum := "1112761d167494166eb5a8dac826bdd4a1347d8148d1319acf64475ed9554e39", func := "loop.example/parametric/laws.FnExactRelLift", spec := "fnExactRelLift", inPlace := ["internal/bytealg.IndexByteString"], unfollowed := true, recurses := true, named := ["math/bits.deBruijn64tab"], plainKeys := false, apart := false, laid := [("math/bits.deBruijn64tab", laid_math_bits_deBruijn64tab)], narrowed := true }
def FnExactRelLiftUptoSaid : Prop := fnExactRelLiftUptoRow.holds Tryd.pinned (OpenSpec.upto fnExactRelLiftSpec)

end Rows
end Go.Proofs.YtloecimlimoanaaDoor
