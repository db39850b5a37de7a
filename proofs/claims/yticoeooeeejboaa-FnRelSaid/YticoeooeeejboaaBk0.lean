/- RelBack: what is asked. -/
import Derived.Test.YticoeooeeejboaaGra3
import Derived.Test.YticoeooeeejboaaShas
namespace Go.Proofs.Yticoeooeeejboaa
open Go.RowKit Go.ChangeMaps Go.Shelf

/-- a relation with its sides exchanged, if it is one -/
noncomputable def backO (L R : Int) (ps : List Int) : Option (Int × Int × List Int) :=
  open Classical in if RelOk L R ps then some (R, L, (pairsOf R.toNat L.toNat (fun j i => memR R.toNat ps i j)).map Int.ofNat) else none

theorem backO_no {L R : Int} {ps : List Int} (h : ¬ RelOk L R ps) : backO L R ps = none := if_neg h
theorem backO_yes {l r : Nat} {ps : List Int} (h : RelOk l r ps) : backO l r ps = some ((r : Int), (l : Int), (pairsOf r l (fun j i => memR r ps i j)).map Int.ofNat) := if_pos h
end Go.Proofs.Yticoeooeeejboaa
