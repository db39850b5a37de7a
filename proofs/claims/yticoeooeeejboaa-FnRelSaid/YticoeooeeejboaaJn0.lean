/- RelJoin: what is asked. -/
import Derived.Test.YticoeooeeejboaaGra3
import Derived.Test.YticoeooeeejboaaShas
namespace Go.Proofs.Yticoeooeeejboaa
open Go.RowKit Go.ChangeMaps Go.Shelf

/-- related by some number in the middle, of the first so many -/
def midB (r : Nat) (ps : List Int) (r2 : Nat) (qs : List Int) (n i k : Nat) : Bool := (List.range n).any fun j => memR r ps i j && memR r2 qs j k

theorem midB_zero (r : Nat) (ps : List Int) (r2 : Nat) (qs : List Int) (i k : Nat) : midB r ps r2 qs 0 i k = false := rfl

theorem midB_more (r : Nat) (ps : List Int) (r2 : Nat) (qs : List Int) (n i k : Nat) : midB r ps r2 qs (n + 1) i k = (midB r ps r2 qs n i k || (memR r ps i n && memR r2 qs n k)) := by
  unfold midB
  rw [List.range_succ, List.any_append]
  simp

def JoinOk (L R : Int) (ps : List Int) (L2 R2 : Int) (qs : List Int) : Prop := RelOk L R ps ∧ RelOk L2 R2 qs ∧ R = L2

open Classical in
/-- what a relation and another are together, if they fit -/
noncomputable def joinO (L R : Int) (ps : List Int) (L2 R2 : Int) (qs : List Int) : Option (Int × Int × List Int) :=
  if JoinOk L R ps L2 R2 qs then some (L, R2, (pairsOf L.toNat R2.toNat (midB R.toNat ps R2.toNat qs R.toNat)).map Int.ofNat) else none

theorem joinO_no {L R : Int} {ps : List Int} {L2 R2 : Int} {qs : List Int} (h : ¬ JoinOk L R ps L2 R2 qs) : joinO L R ps L2 R2 qs = none := if_neg h
theorem joinO_yes {l r : Nat} {ps : List Int} {r2 : Nat} {qs : List Int} (h : JoinOk l r ps r r2 qs) : joinO l r ps r r2 qs = some ((l : Int), (r2 : Int), (pairsOf l r2 (midB r ps r2 qs r)).map Int.ofNat) := if_pos h
end Go.Proofs.Yticoeooeeejboaa
