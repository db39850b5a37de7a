/- RelGraph of the model and of the program. -/
import Derived.Test.YticoeooeeejboaaGra2
namespace Go.Proofs.Yticoeooeeejboaa
open Go.RowKit Go.ChangeMaps Go.Shelf

/-- a list has a graph -/
def GraphOk (lst : List Int) (n : Int) : Prop := (1 ≤ lst.length ∧ lst.length ≤ 128) ∧ (1 ≤ n ∧ n ≤ 128) ∧ ∀ z ∈ lst, 0 ≤ z ∧ z < n

open Classical in
noncomputable def graphO (lst : List Int) (n : Int) : Option (Int × Int × List Int) := if GraphOk lst n then some ((lst.length : Int), n, graphL lst n lst.length) else none

theorem graphO_no {lst : List Int} {n : Int} (h : ¬ GraphOk lst n) : graphO lst n = none := if_neg h
theorem graphO_yes {lst : List Int} {n : Int} (h : GraphOk lst n) : graphO lst n = some ((lst.length : Int), n, graphL lst n lst.length) := if_pos h

end Go.Proofs.Yticoeooeeejboaa
