/- Graphs of lists, in the model. -/
import Derived.Test.YticoeooeeejboaaReq
namespace Go.Proofs.Yticoeooeeejboaa
open Go.RowKit Go.ChangeMaps Go.Shelf

/-- the pairs of a list's graph -/
def graphL (lst : List Int) (n : Int) (k : Nat) : List Int := (List.range k).map fun (i : Nat) => (i : Int) * n + lst.getD i 0

theorem graphL_more (lst : List Int) (n : Int) (k : Nat) : graphL lst n (k + 1) = graphL lst n k ++ [(k : Int) * n + lst.getD k 0] := by
  unfold graphL
  rw [List.range_succ, List.map_append]
  rfl

theorem graphL_len (lst : List Int) (n : Int) (k : Nat) : (graphL lst n k).length = k := by simp [graphL]

end Go.Proofs.Yticoeooeeejboaa
