/- Graphs of lists, in the model. · RelSame and RelGraph of the model. · RelGraph of the model and of the program. · RelGraph of the program. -/
import Derived.Test.YtloecimlimoanaaGreatDoorReq
/- Graphs of lists, in the model. -/
namespace Go.Proofs.YtloecimlimoanaaGreatDoor
open Go.RowKit Go.ChangeMaps Go.Shelf

/-- the pairs of a list's graph -/
def graphL (lst : List Int) (n : Int) (k : Nat) : List Int := (List.range k).map fun (i : Nat) => (i : Int) * n + lst.getD i 0

theorem graphL_more (lst : List Int) (n : Int) (k : Nat) : graphL lst n (k + 1) = graphL lst n k ++ [(k : Int) * n + lst.getD k 0] := by
  unfold graphL
  rw [List.range_succ, List.map_append]
  rfl

theorem graphL_len (lst : List Int) (n : Int) (k : Nat) : (graphL lst n k).length = k := by simp [graphL]

end Go.Proofs.YtloecimlimoanaaGreatDoor

/- RelSame and RelGraph of the model. -/
namespace Go.Proofs.YtloecimlimoanaaGreatDoor
open Go.RowKit Go.ChangeMaps Go.Shelf

theorem same_graph (m : Nat) : graphL ((List.range m).map Int.ofNat) m m = (List.range m).map fun i => ((i * m + i : Nat) : Int) := by
  unfold graphL
  refine List.map_congr_left fun i hi => ?_
  have h := List.mem_range.1 hi
  rw [List.getD_eq_getElem?_getD, List.getElem?_map, List.getElem?_range h]
  simp

/-- the result's cell holds what a call has handed back -/
theorem ret_facts {w w3 : World} (hb : Blk w3 w.heap.size 27 #[.int .i64 0, .int .i64 0, .slice none 0 0]) :
    (w3.cell? ⟨w.heap.size, 0, none⟩ = some (.int .i64 0) ∧ w3.cell? ⟨w.heap.size, 1, none⟩ = some (.int .i64 0) ∧ w3.cell? ⟨w.heap.size, 2, none⟩ = some (.slice none 0 0)) ∧ (w3.frozen? ⟨w.heap.size, 0, none⟩ = false ∧ w3.frozen? ⟨w.heap.size, 1, none⟩ = false ∧ w3.frozen? ⟨w.heap.size, 2, none⟩ = false) :=
  ⟨⟨(hb.cell 0).trans rfl, (hb.cell 1).trans rfl, (hb.cell 2).trans rfl⟩, hb.frozen 0, hb.frozen 1, hb.frozen 2⟩

end Go.Proofs.YtloecimlimoanaaGreatDoor

/- RelGraph of the model and of the program. -/
namespace Go.Proofs.YtloecimlimoanaaGreatDoor
open Go.RowKit Go.ChangeMaps Go.Shelf

/-- a list has a graph -/
def GraphOk (lst : List Int) (n : Int) : Prop := (1 ≤ lst.length ∧ lst.length ≤ 128) ∧ (1 ≤ n ∧ n ≤ 128) ∧ ∀ z ∈ lst, 0 ≤ z ∧ z < n

open Classical in
noncomputable def graphO (lst : List Int) (n : Int) : Option (Int × Int × List Int) := if GraphOk lst n then some ((lst.length : Int), n, graphL lst n lst.length) else none

theorem graphO_no {lst : List Int} {n : Int} (h : ¬ GraphOk lst n) : graphO lst n = none := if_neg h
theorem graphO_yes {lst : List Int} {n : Int} (h : GraphOk lst n) : graphO lst n = some ((lst.length : Int), n, graphL lst n lst.length) := if_pos h

end Go.Proofs.YtloecimlimoanaaGreatDoor

/- RelGraph of the program. -/
namespace Go.Proofs.YtloecimlimoanaaGreatDoor
open Go.RowKit Go.ChangeMaps Go.Shelf

theorem graph_pairs {lst : List Int} {n : Nat} (hz : ∀ z ∈ lst, 0 ≤ z ∧ z < (n : Int)) : (pairsOf lst.length n (fun i k => decide ((k : Int) = lst.getD i 0))).map Int.ofNat = graphL lst n lst.length := by
  have hg : ∀ i, i < lst.length → 0 ≤ lst.getD i 0 ∧ lst.getD i 0 < (n : Int) := fun i hi => by
    rw [List.getD_eq_getElem?_getD, List.getElem?_eq_getElem hi]
    exact hz _ (List.getElem_mem hi)
  rw [pairsOf_single (f := fun i => (lst.getD i 0).toNat) lst.length (fun i hi => elems_single (by have := hg i hi; omega) (fun j _ => decide_eq_decide.2 (by have := hg i hi; omega))), List.map_map]
  unfold graphL
  refine List.map_congr_left fun i hi => ?_
  have h := hg i (List.mem_range.1 hi)
  show ((i * n + (lst.getD i 0).toNat : Nat) : Int) = (i : Int) * (n : Int) + lst.getD i 0
  rw [Int.natCast_add, Int.natCast_mul, Int.toNat_of_nonneg h.1]

end Go.Proofs.YtloecimlimoanaaGreatDoor
