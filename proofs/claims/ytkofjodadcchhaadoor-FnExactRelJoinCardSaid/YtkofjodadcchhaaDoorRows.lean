/-
  NARROWER THAN 'FOR EVERY INPUT', by the rows' own cells (each row's printed sentence says how): FnGraph: laid · FnRelFun: laid · FnExactRelSame: laid · FnExactRelGraph: laid · FnExactRelBack: laid · FnExactRelJoin: laid · FnExactRelFun: laid · FnExactRelNumber: laid · FnExactRelated: laid · FnExactRelLift: laid.
  DERIVED. THE GIVEN ROWS OF THIS SEAT. 10 by the template 'for every input the law returns true; each argument reads behind the call as it read before'; 0 by the template 'total and deterministic' (their statements: YtkofjodadcchhaaDoorTotals.lean).
  GIVEN WITH THE SEED: the statements are not yours to turn. If you find one false, say at which input.
  Laid BY PROGRAM, IN A SANDBOX (cutbox-rows.mjs): the forced cells as the released guide's own fill.sh prints them over the translation 4ce1a16b935878d6… (all of the seat's roots in one cut). By AI agents, Wed Nov 11 2026. No macro, syntax, notation, axiom, sorry.
-/
import Derived.Test.YtkofjodadcchhaaDoorChecked
import GoSem.Claim
import GoSem.ClaimJoined
import GoSem.ClaimMapViews
import Derived.JoinedTies
import Derived.KernelRfl
namespace Go.Proofs.YtkofjodadcchhaaDoor
/- THE CELL 'sum', in the pinned program and in every row, IS THE sha256 OF THE DUMP (.gsa) THAT YtkofjodadcchhaaDoorProg.lean LOADS. Nothing in Lean hashes anything: it is a label: what it is worth is what the hold of that sum in a sandbox is worth. -/
noncomputable def Tryd.pinned : Pinned := { name := "ytkofjodadcchhaadoor", sum := "4ce1a16b935878d6bc28614de3dd94051f6baa76828b0da94bef0c020e58fa50", checked := Tryd.checked }
namespace Rows
def none {H : Type} : Left H := { results := [], args := [] }

/- WHAT THE LISTED PACKAGE-LEVEL VARIABLES READ AS WHEN THE CALL BEGINS. Each datum BY PROGRAM (the guide's laid-datum.mjs) off the statement by which the dump's own 'gosem.cut.vars' lays the variable. In a bare row this is a premise. The card (YtkofjodadcchhaaDoorCards.lean) ties it to the program's text. -/
def laid_math_bits_deBruijn64tab {H : Type} : DataW H := .agg [.lit (.int .u8 0), .lit (.int .u8 1), .lit (.int .u8 56), .lit (.int .u8 2), .lit (.int .u8 57), .lit (.int .u8 49), .lit (.int .u8 28), .lit (.int .u8 3), .lit (.int .u8 61), .lit (.int .u8 58), .lit (.int .u8 42), .lit (.int .u8 50), .lit (.int .u8 38), .lit (.int .u8 29), .lit (.int .u8 17), .lit (.int .u8 4), .lit (.int .u8 62), .lit (.int .u8 47), .lit (.int .u8 59), .lit (.int .u8 36), .lit (.int .u8 45), .lit (.int .u8 43), .lit (.int .u8 51), .lit (.int .u8 22), .lit (.int .u8 53), .lit (.int .u8 39), .lit (.int .u8 33), .lit (.int .u8 30), .lit (.int .u8 24), .lit (.int .u8 18), .lit (.int .u8 12), .lit (.int .u8 5), .lit (.int .u8 63), .lit (.int .u8 55), .lit (.int .u8 48), .lit (.int .u8 27), .lit (.int .u8 60), .lit (.int .u8 41), .lit (.int .u8 37), .lit (.int .u8 16), .lit (.int .u8 46), .lit (.int .u8 35), .lit (.int .u8 44), .lit (.int .u8 21), .lit (.int .u8 52), .lit (.int .u8 32), .lit (.int .u8 23), .lit (.int .u8 11), .lit (.int .u8 54), .lit (.int .u8 26), .lit (.int .u8 40), .lit (.int .u8 15), .lit (.int .u8 34), .lit (.int .u8 20), .lit (.int .u8 31), .lit (.int .u8 10), .lit (.int .u8 25), .lit (.int .u8 14), .lit (.int .u8 19), .lit (.int .u8 9), .lit (.int .u8 13), .lit (.int .u8 8), .lit (.int .u8 7), .lit (.int .u8 6)]

/-- 'laws.FnGraph': WHATEVER THE INPUT: true; the input reads as it did. -/
def fnGraphSpec : ChangeSpec := { name := "fnGraph", fn := fun _ => fun
  | [d1, d2] => { results := [.lit (.bool true)], args := [d1, d2] }
  | _ => none }
def fnGraphRow : OpenClaim := { program := "ytkofjodadcchhaadoor", sum := "4ce1a16b935878d6bc28614de3dd94051f6baa76828b0da94bef0c020e58fa50", func := "loop.example/parametric/laws.FnGraph", spec := "fnGraph", unfollowed := true, recurses := true, named := ["math/bits.deBruijn64tab"], plainKeys := false, apart := false, laid := [("math/bits.deBruijn64tab", laid_math_bits_deBruijn64tab)] }
def FnGraphSaid : Prop := fnGraphRow.holds Tryd.pinned (OpenSpec.ofChange fnGraphSpec)

/-- ITS FALSE NEIGHBOUR: 'it returns false'. Refute it at one input. -/
def fnGraphWrong : ChangeSpec := { name := "fnGraph", fn := fun _ => fun
  | [d1, d2] => { results := [.lit (.bool false)], args := [d1, d2] }
  | _ => none }
def FnGraphWrongFalsely : Prop := fnGraphRow.holds Tryd.pinned (OpenSpec.ofChange fnGraphWrong)

/-- 'laws.FnRelFun': WHATEVER THE INPUT: true; the input reads as it did. -/
def fnRelFunSpec : ChangeSpec := { name := "fnRelFun", fn := fun _ => fun
  | [d] => { results := [.lit (.bool true)], args := [d] }
  | _ => none }
def fnRelFunRow : OpenClaim := { program := "ytkofjodadcchhaadoor", sum := "4ce1a16b935878d6bc28614de3dd94051f6baa76828b0da94bef0c020e58fa50", func := "loop.example/parametric/laws.FnRelFun", spec := "fnRelFun", unfollowed := true, recurses := true, named := ["math/bits.deBruijn64tab"], plainKeys := false, apart := false, laid := [("math/bits.deBruijn64tab", laid_math_bits_deBruijn64tab)] }
def FnRelFunSaid : Prop := fnRelFunRow.holds Tryd.pinned (OpenSpec.ofChange fnRelFunSpec)

/-- ITS FALSE NEIGHBOUR: 'it returns false'. Refute it at one input. -/
def fnRelFunWrong : ChangeSpec := { name := "fnRelFun", fn := fun _ => fun
  | [d] => { results := [.lit (.bool false)], args := [d] }
  | _ => none }
def FnRelFunWrongFalsely : Prop := fnRelFunRow.holds Tryd.pinned (OpenSpec.ofChange fnRelFunWrong)

/-- 'laws.FnExactRelSame': WHATEVER THE INPUT: true; the input reads as it did. -/
def fnExactRelSameSpec : ChangeSpec := { name := "fnExactRelSame", fn := fun _ => fun
  | [d] => { results := [.lit (.bool true)], args := [d] }
  | _ => none }
def fnExactRelSameRow : OpenClaim := { program := "ytkofjodadcchhaadoor", sum := "4ce1a16b935878d6bc28614de3dd94051f6baa76828b0da94bef0c020e58fa50", func := "loop.example/parametric/laws.FnExactRelSame", spec := "fnExactRelSame", unfollowed := true, recurses := true, named := ["math/bits.deBruijn64tab"], plainKeys := false, apart := false, laid := [("math/bits.deBruijn64tab", laid_math_bits_deBruijn64tab)] }
def FnExactRelSameSaid : Prop := fnExactRelSameRow.holds Tryd.pinned (OpenSpec.ofChange fnExactRelSameSpec)

/-- ITS FALSE NEIGHBOUR: 'it returns false'. Refute it at one input. -/
def fnExactRelSameWrong : ChangeSpec := { name := "fnExactRelSame", fn := fun _ => fun
  | [d] => { results := [.lit (.bool false)], args := [d] }
  | _ => none }
def FnExactRelSameWrongFalsely : Prop := fnExactRelSameRow.holds Tryd.pinned (OpenSpec.ofChange fnExactRelSameWrong)

/-- 'laws.FnExactRelGraph': WHATEVER THE INPUT: true; the input reads as it did. -/
def fnExactRelGraphSpec : ChangeSpec := { name := "fnExactRelGraph", fn := fun _ => fun
  | [d1, d2] => { results := [.lit (.bool true)], args := [d1, d2] }
  | _ => none }
def fnExactRelGraphRow : OpenClaim := { program := "ytkofjodadcchhaadoor", sum := "4ce1a16b935878d6bc28614de3dd94051f6baa76828b0da94bef0c020e58fa50", func := "loop.example/parametric/laws.FnExactRelGraph", spec := "fnExactRelGraph", unfollowed := true, recurses := true, named := ["math/bits.deBruijn64tab"], plainKeys := false, apart := false, laid := [("math/bits.deBruijn64tab", laid_math_bits_deBruijn64tab)] }
def FnExactRelGraphSaid : Prop := fnExactRelGraphRow.holds Tryd.pinned (OpenSpec.ofChange fnExactRelGraphSpec)

/-- ITS FALSE NEIGHBOUR: 'it returns false'. Refute it at one input. -/
def fnExactRelGraphWrong : ChangeSpec := { name := "fnExactRelGraph", fn := fun _ => fun
  | [d1, d2] => { results := [.lit (.bool false)], args := [d1, d2] }
  | _ => none }
def FnExactRelGraphWrongFalsely : Prop := fnExactRelGraphRow.holds Tryd.pinned (OpenSpec.ofChange fnExactRelGraphWrong)

/-- 'laws.FnExactRelBack': WHATEVER THE INPUT: true; the input reads as it did. -/
def fnExactRelBackSpec : ChangeSpec := { name := "fnExactRelBack", fn := fun _ => fun
  | [d] => { results := [.lit (.bool true)], args := [d] }
  | _ => none }
def fnExactRelBackRow : OpenClaim := { program := "ytkofjodadcchhaadoor", sum := "4ce1a16b935878d6bc28614de3dd94051f6baa76828b0da94bef0c020e58fa50", func := "loop.example/parametric/laws.FnExactRelBack", spec := "fnExactRelBack", unfollowed := true, recurses := true, named := ["math/bits.deBruijn64tab"], plainKeys := false, apart := false, laid := [("math/bits.deBruijn64tab", laid_math_bits_deBruijn64tab)] }
def FnExactRelBackSaid : Prop := fnExactRelBackRow.holds Tryd.pinned (OpenSpec.ofChange fnExactRelBackSpec)

/-- ITS FALSE NEIGHBOUR: 'it returns false'. Refute it at one input. -/
def fnExactRelBackWrong : ChangeSpec := { name := "fnExactRelBack", fn := fun _ => fun
  | [d] => { results := [.lit (.bool false)], args := [d] }
  | _ => none }
def FnExactRelBackWrongFalsely : Prop := fnExactRelBackRow.holds Tryd.pinned (OpenSpec.ofChange fnExactRelBackWrong)

/-- 'laws.FnExactRelJoin': WHATEVER THE INPUT: true; the input reads as it did. -/
def fnExactRelJoinSpec : ChangeSpec := { name := "fnExactRelJoin", fn := fun _ => fun
  | [d1, d2] => { results := [.lit (.bool true)], args := [d1, d2] }
  | _ => none }
def fnExactRelJoinRow : OpenClaim := { program := "ytkofjodadcchhaadoor", sum := "4ce1a16b935878d6bc28614de3dd94051f6baa76828b0da94bef0c020e58fa50", func := "loop.example/parametric/laws.FnExactRelJoin", spec := "fnExactRelJoin", unfollowed := true, recurses := true, named := ["math/bits.deBruijn64tab"], plainKeys := false, apart := false, laid := [("math/bits.deBruijn64tab", laid_math_bits_deBruijn64tab)] }
def FnExactRelJoinSaid : Prop := fnExactRelJoinRow.holds Tryd.pinned (OpenSpec.ofChange fnExactRelJoinSpec)

/-- ITS FALSE NEIGHBOUR: 'it returns false'. Refute it at one input. -/
def fnExactRelJoinWrong : ChangeSpec := { name := "fnExactRelJoin", fn := fun _ => fun
  | [d1, d2] => { results := [.lit (.bool false)], args := [d1, d2] }
  | _ => none }
def FnExactRelJoinWrongFalsely : Prop := fnExactRelJoinRow.holds Tryd.pinned (OpenSpec.ofChange fnExactRelJoinWrong)

/-- 'laws.FnExactRelFun': WHATEVER THE INPUT: true; the input reads as it did. -/
def fnExactRelFunSpec : ChangeSpec := { name := "fnExactRelFun", fn := fun _ => fun
  | [d] => { results := [.lit (.bool true)], args := [d] }
  | _ => none }
def fnExactRelFunRow : OpenClaim := { program := "ytkofjodadcchhaadoor", sum := "4ce1a16b935878d6bc28614de3dd94051f6baa76828b0da94bef0c020e58fa50", func := "loop.example/parametric/laws.FnExactRelFun", spec := "fnExactRelFun", unfollowed := true, recurses := true, named := ["math/bits.deBruijn64tab"], plainKeys := false, apart := false, laid := [("math/bits.deBruijn64tab", laid_math_bits_deBruijn64tab)] }
def FnExactRelFunSaid : Prop := fnExactRelFunRow.holds Tryd.pinned (OpenSpec.ofChange fnExactRelFunSpec)

/-- ITS FALSE NEIGHBOUR: 'it returns false'. Refute it at one input. -/
def fnExactRelFunWrong : ChangeSpec := { name := "fnExactRelFun", fn := fun _ => fun
  | [d] => { results := [.lit (.bool false)], args := [d] }
  | _ => none }
def FnExactRelFunWrongFalsely : Prop := fnExactRelFunRow.holds Tryd.pinned (OpenSpec.ofChange fnExactRelFunWrong)

/-- 'laws.FnExactRelNumber': WHATEVER THE INPUT: true; the input reads as it did. -/
def fnExactRelNumberSpec : ChangeSpec := { name := "fnExactRelNumber", fn := fun _ => fun
  | [d1, d2, d3] => { results := [.lit (.bool true)], args := [d1, d2, d3] }
  | _ => none }
def fnExactRelNumberRow : OpenClaim := { program := "ytkofjodadcchhaadoor", sum := "4ce1a16b935878d6bc28614de3dd94051f6baa76828b0da94bef0c020e58fa50", func := "loop.example/parametric/laws.FnExactRelNumber", spec := "fnExactRelNumber", unfollowed := true, recurses := true, named := ["math/bits.deBruijn64tab"], plainKeys := false, apart := false, laid := [("math/bits.deBruijn64tab", laid_math_bits_deBruijn64tab)] }
def FnExactRelNumberSaid : Prop := fnExactRelNumberRow.holds Tryd.pinned (OpenSpec.ofChange fnExactRelNumberSpec)

/-- ITS FALSE NEIGHBOUR: 'it returns false'. Refute it at one input. -/
def fnExactRelNumberWrong : ChangeSpec := { name := "fnExactRelNumber", fn := fun _ => fun
  | [d1, d2, d3] => { results := [.lit (.bool false)], args := [d1, d2, d3] }
  | _ => none }
def FnExactRelNumberWrongFalsely : Prop := fnExactRelNumberRow.holds Tryd.pinned (OpenSpec.ofChange fnExactRelNumberWrong)

/-- 'laws.FnExactRelated': WHATEVER THE INPUT: true; the input reads as it did. -/
def fnExactRelatedSpec : ChangeSpec := { name := "fnExactRelated", fn := fun _ => fun
  | [d1, d2, d3, d4, d5] => { results := [.lit (.bool true)], args := [d1, d2, d3, d4, d5] }
  | _ => none }
def fnExactRelatedRow : OpenClaim := { program := "ytkofjodadcchhaadoor", sum := "4ce1a16b935878d6bc28614de3dd94051f6baa76828b0da94bef0c020e58fa50", func := "loop.example/parametric/laws.FnExactRelated", spec := "fnExactRelated", inPlace := ["internal/bytealg.IndexByteString"], unfollowed := true, recurses := true, named := ["math/bits.deBruijn64tab"], plainKeys := false, apart := false, laid := [("math/bits.deBruijn64tab", laid_math_bits_deBruijn64tab)] }
def FnExactRelatedSaid : Prop := fnExactRelatedRow.holds Tryd.pinned (OpenSpec.ofChange fnExactRelatedSpec)

/-- ITS FALSE NEIGHBOUR: 'it returns false'. Refute it at one input. -/
def fnExactRelatedWrong : ChangeSpec := { name := "fnExactRelated", fn := fun _ => fun
  | [d1, d2, d3, d4, d5] => { results := [.lit (.bool false)], args := [d1, d2, d3, d4, d5] }
  | _ => none }
def FnExactRelatedWrongFalsely : Prop := fnExactRelatedRow.holds Tryd.pinned (OpenSpec.ofChange fnExactRelatedWrong)

/-- 'laws.FnExactRelLift': WHATEVER THE INPUT: true; the input reads as it did. -/
def fnExactRelLiftSpec : ChangeSpec := { name := "fnExactRelLift", fn := fun _ => fun
  | [d1, d2, d3] => { results := [.lit (.bool true)], args := [d1, d2, d3] }
  | _ => none }
def fnExactRelLiftRow : OpenClaim := { program := "ytkofjodadcchhaadoor", sum := "4ce1a16b935878d6bc28614de3dd94051f6baa76828b0da94bef0c020e58fa50", func := "loop.example/parametric/laws.FnExactRelLift", spec := "fnExactRelLift", inPlace := ["internal/bytealg.IndexByteString"], unfollowed := true, recurses := true, named := ["math/bits.deBruijn64tab"], plainKeys := false, apart := false, laid := [("math/bits.deBruijn64tab", laid_math_bits_deBruijn64tab)] }
def FnExactRelLiftSaid : Prop := fnExactRelLiftRow.holds Tryd.pinned (OpenSpec.ofChange fnExactRelLiftSpec)

/-- ITS FALSE NEIGHBOUR: 'it returns false'. Refute it at one input. -/
def fnExactRelLiftWrong : ChangeSpec := { name := "fnExactRelLift", fn := fun _ => fun
  | [d1, d2, d3] => { results := [.lit (.bool false)], args := [d1, d2, d3] }
  | _ => none }
def FnExactRelLiftWrongFalsely : Prop := fnExactRelLiftRow.holds Tryd.pinned (OpenSpec.ofChange fnExactRelLiftWrong)

/- THE SECOND FORM. 'bulk': how many values and letters a reading holds, each counted each time it is reached (what is shared counts as often as it is met; a slice's spare places count too). A statement '..UptoSaid' is the law's where the arguments, and the package variables that the reading takes, are together of bulk at most 1048576: NARROWER than '..Said'. Prove '..Said' where nothing that the law and all that it calls make is longer than what came in: it says more and counts as full. Else prove '..UptoSaid'. A law counts once. -/
mutual
def uptoBulk {H : Type} : DataW H → Nat
  | .lit (.string bytes) => bytes.length + 1
  | .lit _ => 1
  | .nil => 1
  | .ptr d => uptoBulk d + 1
  | .slice elems spare => uptoBulkAll elems + uptoBulkAll spare + 1
  | .agg parts => uptoBulkAll parts + 1
  | .iface _ d => uptoBulk d + 1
  | .map entries => uptoBulkEntries entries + 1
  | .held _ => 1
def uptoBulkAll {H : Type} : List (DataW H) → Nat
  | [] => 0
  | d :: r => uptoBulk d + uptoBulkAll r
def uptoBulkEntries {H : Type} : List (Lit × DataW H) → Nat
  | [] => 0
  | x :: r => uptoBulkEntry x + uptoBulkEntries r
def uptoBulkEntry {H : Type} : Lit × DataW H → Nat
  | (.string bytes, d) => bytes.length + uptoBulk d + 1
  | (_, d) => uptoBulk d + 1
 end
def uptoSmall : (H : Type) → List (DataW H) → Bool := fun _ ds => decide (uptoBulkAll ds ≤ 1048576)
def OpenSpec.upto (s : _root_.Go.ChangeSpec) : _root_.Go.OpenSpec := { _root_.Go.OpenSpec.ofChange s with cond := some uptoSmall }

/-- 'laws.FnGraph', WHERE WHAT IT READS IS OF BULK AT MOST 1048576: true; the input reads as it did. -/
def fnGraphUptoRow : OpenClaim := { program := "ytkofjodadcchhaadoor", sum := "4ce1a16b935878d6bc28614de3dd94051f6baa76828b0da94bef0c020e58fa50", func := "loop.example/parametric/laws.FnGraph", spec := "fnGraph", unfollowed := true, recurses := true, named := ["math/bits.deBruijn64tab"], plainKeys := false, apart := false, laid := [("math/bits.deBruijn64tab", laid_math_bits_deBruijn64tab)], narrowed := true }
def FnGraphUptoSaid : Prop := fnGraphUptoRow.holds Tryd.pinned (OpenSpec.upto fnGraphSpec)

/-- 'laws.FnRelFun', WHERE WHAT IT READS IS OF BULK AT MOST 1048576: true; the input reads as it did. -/
def fnRelFunUptoRow : OpenClaim := { program := "ytkofjodadcchhaadoor", sum := "4ce1a16b935878d6bc28614de3dd94051f6baa76828b0da94bef0c020e58fa50", func := "loop.example/parametric/laws.FnRelFun", spec := "fnRelFun", unfollowed := true, recurses := true, named := ["math/bits.deBruijn64tab"], plainKeys := false, apart := false, laid := [("math/bits.deBruijn64tab", laid_math_bits_deBruijn64tab)], narrowed := true }
def FnRelFunUptoSaid : Prop := fnRelFunUptoRow.holds Tryd.pinned (OpenSpec.upto fnRelFunSpec)

/-- 'laws.FnExactRelSame', WHERE WHAT IT READS IS OF BULK AT MOST 1048576: true; the input reads as it did. -/
def fnExactRelSameUptoRow : OpenClaim := { program := "ytkofjodadcchhaadoor", sum := "4ce1a16b935878d6bc28614de3dd94051f6baa76828b0da94bef0c020e58fa50", func := "loop.example/parametric/laws.FnExactRelSame", spec := "fnExactRelSame", unfollowed := true, recurses := true, named := ["math/bits.deBruijn64tab"], plainKeys := false, apart := false, laid := [("math/bits.deBruijn64tab", laid_math_bits_deBruijn64tab)], narrowed := true }
def FnExactRelSameUptoSaid : Prop := fnExactRelSameUptoRow.holds Tryd.pinned (OpenSpec.upto fnExactRelSameSpec)

/-- 'laws.FnExactRelGraph', WHERE WHAT IT READS IS OF BULK AT MOST 1048576: true; the input reads as it did. -/
def fnExactRelGraphUptoRow : OpenClaim := { program := "ytkofjodadcchhaadoor", sum := "4ce1a16b935878d6bc28614de3dd94051f6baa76828b0da94bef0c020e58fa50", func := "loop.example/parametric/laws.FnExactRelGraph", spec := "fnExactRelGraph", unfollowed := true, recurses := true, named := ["math/bits.deBruijn64tab"], plainKeys := false, apart := false, laid := [("math/bits.deBruijn64tab", laid_math_bits_deBruijn64tab)], narrowed := true }
def FnExactRelGraphUptoSaid : Prop := fnExactRelGraphUptoRow.holds Tryd.pinned (OpenSpec.upto fnExactRelGraphSpec)

/-- 'laws.FnExactRelBack', WHERE WHAT IT READS IS OF BULK AT MOST 1048576: true; the input reads as it did. -/
def fnExactRelBackUptoRow : OpenClaim := { program := "ytkofjodadcchhaadoor", sum := "4ce1a16b935878d6bc28614de3dd94051f6baa76828b0da94bef0c020e58fa50", func := "loop.example/parametric/laws.FnExactRelBack", spec := "fnExactRelBack", unfollowed := true, recurses := true, named := ["math/bits.deBruijn64tab"], plainKeys := false, apart := false, laid := [("math/bits.deBruijn64tab", laid_math_bits_deBruijn64tab)], narrowed := true }
def FnExactRelBackUptoSaid : Prop := fnExactRelBackUptoRow.holds Tryd.pinned (OpenSpec.upto fnExactRelBackSpec)

/-- 'laws.FnExactRelJoin', WHERE WHAT IT READS IS OF BULK AT MOST 1048576: true; the input reads as it did. -/
def fnExactRelJoinUptoRow : OpenClaim := { program := "ytkofjodadcchhaadoor", sum := "4ce1a16b935878d6bc28614de3dd94051f6baa76828b0da94bef0c020e58fa50", func := "loop.example/parametric/laws.FnExactRelJoin", spec := "fnExactRelJoin", unfollowed := true, recurses := true, named := ["math/bits.deBruijn64tab"], plainKeys := false, apart := false, laid := [("math/bits.deBruijn64tab", laid_math_bits_deBruijn64tab)], narrowed := true }
def FnExactRelJoinUptoSaid : Prop := fnExactRelJoinUptoRow.holds Tryd.pinned (OpenSpec.upto fnExactRelJoinSpec)

/-- 'laws.FnExactRelFun', WHERE WHAT IT READS IS OF BULK AT MOST 1048576: true; the input reads as it did. -/
def fnExactRelFunUptoRow : OpenClaim := { program := "ytkofjodadcchhaadoor", sum := "4ce1a16b935878d6bc28614de3dd94051f6baa76828b0da94bef0c020e58fa50", func := "loop.example/parametric/laws.FnExactRelFun", spec := "fnExactRelFun", unfollowed := true, recurses := true, named := ["math/bits.deBruijn64tab"], plainKeys := false, apart := false, laid := [("math/bits.deBruijn64tab", laid_math_bits_deBruijn64tab)], narrowed := true }
def FnExactRelFunUptoSaid : Prop := fnExactRelFunUptoRow.holds Tryd.pinned (OpenSpec.upto fnExactRelFunSpec)

/-- 'laws.FnExactRelNumber', WHERE WHAT IT READS IS OF BULK AT MOST 1048576: true; the input reads as it did. -/
def fnExactRelNumberUptoRow : OpenClaim := { program := "ytkofjodadcchhaadoor", sum := "4ce1a16b935878d6bc28614de3dd94051f6baa76828b0da94bef0c020e58fa50", func := "loop.example/parametric/laws.FnExactRelNumber", spec := "fnExactRelNumber", unfollowed := true, recurses := true, named := ["math/bits.deBruijn64tab"], plainKeys := false, apart := false, laid := [("math/bits.deBruijn64tab", laid_math_bits_deBruijn64tab)], narrowed := true }
def FnExactRelNumberUptoSaid : Prop := fnExactRelNumberUptoRow.holds Tryd.pinned (OpenSpec.upto fnExactRelNumberSpec)

/-- 'laws.FnExactRelated', WHERE WHAT IT READS IS OF BULK AT MOST 1048576: true; the input reads as it did. -/
def fnExactRelatedUptoRow : OpenClaim := { program := "ytkofjodadcchhaadoor", sum := "4ce1a16b935878d6bc28614de3dd94051f6baa76828b0da94bef0c020e58fa50", func := "loop.example/parametric/laws.FnExactRelated", spec := "fnExactRelated", inPlace := ["internal/bytealg.IndexByteString"], unfollowed := true, recurses := true, named := ["math/bits.deBruijn64tab"], plainKeys := false, apart := false, laid := [("math/bits.deBruijn64tab", laid_math_bits_deBruijn64tab)], narrowed := true }
def FnExactRelatedUptoSaid : Prop := fnExactRelatedUptoRow.holds Tryd.pinned (OpenSpec.upto fnExactRelatedSpec)

/-- 'laws.FnExactRelLift', WHERE WHAT IT READS IS OF BULK AT MOST 1048576: true; the input reads as it did. -/
def fnExactRelLiftUptoRow : OpenClaim := { program := "ytkofjodadcchhaadoor", sum := "4ce1a16b935878d6bc28614de3dd94051f6baa76828b0da94bef0c020e58fa50", func := "loop.example/parametric/laws.FnExactRelLift", spec := "fnExactRelLift", inPlace := ["internal/bytealg.IndexByteString"], unfollowed := true, recurses := true, named := ["math/bits.deBruijn64tab"], plainKeys := false, apart := false, laid := [("math/bits.deBruijn64tab", laid_math_bits_deBruijn64tab)], narrowed := true }
def FnExactRelLiftUptoSaid : Prop := fnExactRelLiftUptoRow.holds Tryd.pinned (OpenSpec.upto fnExactRelLiftSpec)

end Rows
end Go.Proofs.YtkofjodadcchhaaDoor
