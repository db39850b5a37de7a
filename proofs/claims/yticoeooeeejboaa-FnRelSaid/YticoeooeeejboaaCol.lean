/- slices.Collect over the numbers of a bit set. -/
import Derived.Test.YticoeooeeejboaaNum
import Derived.Test.YticoeooeeejboaaRf
import Derived.Test.YticoeooeeejboaaLrm
import Derived.Maps.AppendAt
namespace Go.Proofs.Yticoeooeeejboaa
open Go.RowKit Go.ChangeMaps Go.Shelf

attribute [local go_sem] Oper.semAt_some

theorem Fr.putObj {W : World} (l : Nat) (o : Obj) : Fr (fun b => b = l) W (W.putObj l o) := ⟨rfl, rfl, rfl, by simp, fun _ _ h => World.putObj_heap_other h⟩

/-- what came in so far -/
structure CJ (w : World) (D : Nat) (rec : LoopState → Option Code → Loop) (pre : List Nat) (W : World) : Prop where
  fr : Fr No w W
  box : ∃ A n c, Blk W w.heap.size 23 #[.slice A n c] ∧ OR W (D + 2) A n c (pre.map Int.ofNat)
  lp : W.heap[D + 1]? = some (.loop (rec .ready none))
  df : W.heap[D]? = some (.deferred (some []))
  sz : D + 2 ≤ W.heap.size

theorem elems_len (N : Nat) (P : Nat → Bool) : (elems N P).length ≤ N := by
  unfold elems
  exact Nat.le_trans (List.length_filter_le _ _) (by simp)

def ColP (N : Nat) (P : Nat → Bool) (w : World) (e : Ending) (w' : World) : Prop := ∃ A n c, e = .returned (.slice A n c) ∧ Fr No w w' ∧ OR w' w.heap.size A n c ((elems N P).map Int.ofNat)

end Go.Proofs.Yticoeooeeejboaa
