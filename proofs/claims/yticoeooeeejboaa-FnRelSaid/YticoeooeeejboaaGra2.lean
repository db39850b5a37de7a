/- RelSame and RelGraph of the model. -/
import Derived.Test.YticoeooeeejboaaGra
namespace Go.Proofs.Yticoeooeeejboaa
open Go.RowKit Go.ChangeMaps Go.Shelf

theorem same_graph (m : Nat) : graphL ((List.range m).map Int.ofNat) m m = (List.range m).map fun i => ((i * m + i : Nat) : Int) := by
  unfold graphL
  refine List.map_congr_left fun i hi => ?_
  have h := List.mem_range.1 hi
  rw [List.getD_eq_getElem?_getD, List.getElem?_map, List.getElem?_range h]
  simp

/-- the result's cell holds what a call has handed back -/
theorem ret_facts {w w3 : World} (hb : Blk w3 w.heap.size 25 #[.int .i64 0, .int .i64 0, .slice none 0 0]) :
    (w3.cell? ⟨w.heap.size, 0, none⟩ = some (.int .i64 0) ∧ w3.cell? ⟨w.heap.size, 1, none⟩ = some (.int .i64 0) ∧ w3.cell? ⟨w.heap.size, 2, none⟩ = some (.slice none 0 0)) ∧ (w3.frozen? ⟨w.heap.size, 0, none⟩ = false ∧ w3.frozen? ⟨w.heap.size, 1, none⟩ = false ∧ w3.frozen? ⟨w.heap.size, 2, none⟩ = false) :=
  ⟨⟨(hb.cell 0).trans rfl, (hb.cell 1).trans rfl, (hb.cell 2).trans rfl⟩, hb.frozen 0, hb.frozen 1, hb.frozen 2⟩

end Go.Proofs.Yticoeooeeejboaa
