/- RelGraph of the program. -/
import Derived.Test.YticoeooeeejboaaGra3
namespace Go.Proofs.Yticoeooeeejboaa
open Go.RowKit Go.ChangeMaps Go.Shelf

theorem graph_pairs {lst : List Int} {n : Nat} (hz : ∀ z ∈ lst, 0 ≤ z ∧ z < (n : Int)) : (pairsOf lst.length n (fun i k => decide ((k : Int) = lst.getD i 0))).map Int.ofNat = graphL lst n lst.length := by
  have hg : ∀ i, i < lst.length → 0 ≤ lst.getD i 0 ∧ lst.getD i 0 < (n : Int) := fun i hi => by
    rw [List.getD_eq_getElem?_getD, List.getElem?_eq_getElem hi]
    exact hz _ (List.getElem_mem hi)
  rw [pairsOf_single (f := fun i => (lst.getD i 0).toNat) lst.length (fun i hi => elems_single (by have := hg i hi; omega) (fun j _ => decide_eq_decide.2 (by have := hg i hi; omega))), List.map_map]
  unfold graphL
  refine List.map_congr_left fun i hi => ?_
  have h := hg i (List.mem_range.1 hi)
  show ((i * n + (lst.getD i 0).toNat : Nat) : Int) = (i : Int) * (n : Int) + lst.getD i 0
  rw [Int.natCast_add, Int.natCast_mul, Int.toNat_of_nonneg h.1]

end Go.Proofs.Yticoeooeeejboaa
