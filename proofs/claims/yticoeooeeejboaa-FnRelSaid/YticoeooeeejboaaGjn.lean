/- Graphs of lists: their lists; graphs joined. -/
import Derived.Test.YticoeooeeejboaaGra4
import Derived.Test.YticoeooeeejboaaJn0
import Derived.Test.YticoeooeeejboaaRfun
namespace Go.Proofs.Yticoeooeeejboaa

theorem mem_pairs {l r : Nat} {R : Nat → Nat → Bool} (hr : 0 < r) {i j : Nat} (hi : i < l) (hj : j < r) : memR r ((pairsOf l r R).map Int.ofNat) i j = R i j := by
  have hd : (i * r + j) / r = i := by rw [Nat.mul_comm, Nat.mul_add_div hr, Nat.div_eq_of_lt hj, Nat.add_zero]
  have hm : (i * r + j) % r = j := by rw [Nat.mul_comm, Nat.mul_add_mod, Nat.mod_eq_of_lt hj]
  have hlt : i * r + j < l * r := Nat.lt_of_lt_of_le (Nat.add_lt_add_left hj _) (by rw [← Nat.succ_mul]; exact Nat.mul_le_mul_right r hi)
  unfold memR
  rw [pairsOf_eq r R hr]
  apply Bool.eq_iff_iff.2
  rw [decide_eq_true_iff]
  constructor
  · intro h
    obtain ⟨p, hp, e⟩ := List.mem_map.1 h
    have e : p = i * r + j := by
      have : (p : Int) = ((i * r + j : Nat) : Int) := e
      omega
    subst e
    have := (List.mem_filter.1 hp).2
    rwa [hd, hm] at this
  · intro h
    exact List.mem_map.2 ⟨i * r + j, List.mem_filter.2 ⟨List.mem_range.2 hlt, by rw [hd, hm]; exact h⟩, rfl⟩

theorem pairs_ok {l r : Nat} {R : Nat → Nat → Bool} (h1 : 1 ≤ l) (h2 : l ≤ 128) (h3 : 1 ≤ r) (h4 : r ≤ 128) : RelOk l r ((pairsOf l r R).map Int.ofNat) := by
  refine ⟨by omega, by omega, ?_, ?_⟩
  · rw [pairsOf_eq r R (by omega), List.pairwise_map]
    exact ((sorted_range (l * r)).filter _).imp fun {a b} h => by simpa using h
  · intro p hp
    rw [pairsOf_eq r R (by omega)] at hp
    obtain ⟨q, hq, rfl⟩ := List.mem_map.1 hp
    have := List.mem_range.1 (List.mem_filter.1 hq).1
    rw [← Int.natCast_mul]
    exact ⟨Int.natCast_nonneg q, Int.ofNat_lt.2 this⟩

/-- the relation of a list -/
def gR (lst : List Int) : Nat → Nat → Bool := fun i k => decide ((k : Int) = lst.getD i 0)

theorem GraphOk.nat {lst : List Int} {n : Int} (h : GraphOk lst n) : ∃ N : Nat, n = N ∧ 1 ≤ N ∧ N ≤ 128 := ⟨n.toNat, by have := h.2.1; omega, by have := h.2.1; omega, by have := h.2.1; omega⟩

theorem GraphOk.at {lst : List Int} {n : Int} (h : GraphOk lst n) {i : Nat} (hi : i < lst.length) : 0 ≤ lst.getD i 0 ∧ lst.getD i 0 < n := by
  rw [List.getD_eq_getElem?_getD, List.getElem?_eq_getElem hi]
  exact h.2.2 _ (List.getElem_mem hi)

/-- the list of a graph is the list -/
theorem fun_graph {lst : List Int} {N : Nat} (h : GraphOk lst (N : Int)) : funO lst.length N (graphL lst N lst.length) = some lst := by
  obtain ⟨h1, h2, h3⟩ := id h
  rw [← graph_pairs h3]
  rw [fun_of_rows (f := fun i => (lst.getD i 0).toNat) (pairs_ok h1.1 h1.2 (by omega) (by omega)) ?_]
  · congr 1
    apply List.ext_getElem?
    intro i
    by_cases hi : i < lst.length
    · have h4 := h.at hi
      rw [List.getElem?_map, List.getElem?_range hi, Option.map_some, List.getElem?_eq_getElem hi]
      rw [List.getD_eq_getElem?_getD, List.getElem?_eq_getElem hi] at h4 ⊢
      simp only [Option.getD_some] at h4 ⊢
      congr 1
      omega
    · rw [List.getElem?_eq_none (by simpa using hi), List.getElem?_eq_none (by omega)]
  · intro i hi
    have h4 := h.at hi
    refine ⟨by omega, ?_⟩
    have e : elems N (memR N ((pairsOf lst.length N (fun i k => decide ((k : Int) = lst.getD i 0))).map Int.ofNat) i) = elems N (gR lst i) := by
      unfold elems
      apply List.filter_congr
      intro k hk
      exact mem_pairs (by omega) hi (List.mem_range.1 hk)
    rw [e]
    exact elems_single (by omega) (fun j _ => decide_eq_decide.2 (by omega))

/-- graphs joined are the graph of one list behind the other -/
theorem join_graph {lst sec both : List Int} {N : Nat} (h : GraphOk lst (N : Int)) (hs : GraphOk sec 3) (hl : sec.length = N) (hb : both.length = lst.length) (hat : ∀ i, i < lst.length → both.getD i 0 = sec.getD (lst.getD i 0).toNat 0) :
    joinO lst.length N (graphL lst N lst.length) N 3 (graphL sec 3 sec.length) = some ((lst.length : Int), 3, graphL both 3 both.length) ∧ GraphOk both 3 := by
  obtain ⟨h1, h2, h3⟩ := id h
  obtain ⟨g1, g2, g3⟩ := id hs
  have hbz : ∀ z ∈ both, 0 ≤ z ∧ z < ((3 : Nat) : Int) := fun z hz => by
    obtain ⟨i, hi, rfl⟩ := List.getElem_of_mem hz
    have hil : i < lst.length := by omega
    have h4 := h.at hil
    have h5 := hat i hil
    rw [List.getD_eq_getElem?_getD, List.getElem?_eq_getElem hi, Option.getD_some] at h5
    rw [h5]
    exact hs.at (by omega)
  refine ⟨?_, ⟨by omega, ⟨by omega, by omega⟩, hbz⟩⟩
  have e3 : (3 : Int) = ((3 : Nat) : Int) := rfl
  have g3' : ∀ z ∈ sec, 0 ≤ z ∧ z < ((3 : Nat) : Int) := g3
  have p1 : RelOk lst.length N (graphL lst N lst.length) := by rw [← graph_pairs h3]; exact pairs_ok h1.1 h1.2 (by omega) (by omega)
  have p2 : RelOk N ((3 : Nat) : Int) (graphL sec ((3 : Nat) : Int) sec.length) := by
    rw [← graph_pairs g3', ← hl]
    exact pairs_ok g1.1 g1.2 (by omega) (by omega)
  rw [e3, joinO_yes ⟨p1, p2, rfl⟩, ← graph_pairs hbz, hb]
  congr 3
  congr 1
  apply pairsOf_congr
  intro i hi k hk
  have h4 := h.at hi
  have hm : midB N (graphL lst N lst.length) 3 (graphL sec ((3 : Nat) : Int) sec.length) N i k = (List.range N).any fun j => gR lst i j && gR sec j k := by
    unfold midB
    apply Bool.eq_iff_iff.2
    simp only [List.any_eq_true, List.mem_range]
    constructor
    · rintro ⟨j, hj, hh⟩
      rw [← graph_pairs h3, mem_pairs (by omega) hi hj, ← graph_pairs g3', mem_pairs (by omega) (by omega) hk] at hh
      exact ⟨j, hj, hh⟩
    · rintro ⟨j, hj, hh⟩
      refine ⟨j, hj, ?_⟩
      rw [← graph_pairs h3, mem_pairs (by omega) hi hj, ← graph_pairs g3', mem_pairs (by omega) (by omega) hk]
      exact hh
  rw [hm]
  apply Bool.eq_iff_iff.2
  rw [hat i hi, List.any_eq_true, decide_eq_true_iff]
  unfold gR
  simp only [List.mem_range, Bool.and_eq_true, decide_eq_true_iff]
  constructor
  · rintro ⟨j, hj, e1, e2⟩
    have : (lst.getD i 0).toNat = j := by omega
    rw [this]; exact e2
  · intro e
    exact ⟨(lst.getD i 0).toNat, by omega, by omega, e⟩
end Go.Proofs.Yticoeooeeejboaa
