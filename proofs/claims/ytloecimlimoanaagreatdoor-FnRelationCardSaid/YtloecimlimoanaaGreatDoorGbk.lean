/- RelJoin: what is asked. · RelBack: what is asked. · Graphs of lists: their lists; graphs joined. · Relations back and joined: what is so of them. -/
import Derived.Test.YtloecimlimoanaaGreatDoorGra
import Derived.Test.YtloecimlimoanaaGreatDoorShas
import Derived.Test.YtloecimlimoanaaGreatDoorRfun
import Derived.Test.YtloecimlimoanaaGreatDoorWri
import Derived.Test.YtloecimlimoanaaGreatDoorReq
/- RelJoin: what is asked. -/
namespace Go.Proofs.YtloecimlimoanaaGreatDoor
open Go.RowKit Go.ChangeMaps Go.Shelf

/-- related by some number in the middle, of the first so many -/
def midB (r : Nat) (ps : List Int) (r2 : Nat) (qs : List Int) (n i k : Nat) : Bool := (List.range n).any fun j => memR r ps i j && memR r2 qs j k

theorem midB_zero (r : Nat) (ps : List Int) (r2 : Nat) (qs : List Int) (i k : Nat) : midB r ps r2 qs 0 i k = false := rfl

theorem midB_more (r : Nat) (ps : List Int) (r2 : Nat) (qs : List Int) (n i k : Nat) : midB r ps r2 qs (n + 1) i k = (midB r ps r2 qs n i k || (memR r ps i n && memR r2 qs n k)) := by
  unfold midB
  rw [List.range_succ, List.any_append]
  simp

def JoinOk (L R : Int) (ps : List Int) (L2 R2 : Int) (qs : List Int) : Prop := RelOk L R ps ∧ RelOk L2 R2 qs ∧ R = L2

open Classical in
/-- what a relation and another are together, if they fit -/
noncomputable def joinO (L R : Int) (ps : List Int) (L2 R2 : Int) (qs : List Int) : Option (Int × Int × List Int) :=
  if JoinOk L R ps L2 R2 qs then some (L, R2, (pairsOf L.toNat R2.toNat (midB R.toNat ps R2.toNat qs R.toNat)).map Int.ofNat) else none

theorem joinO_no {L R : Int} {ps : List Int} {L2 R2 : Int} {qs : List Int} (h : ¬ JoinOk L R ps L2 R2 qs) : joinO L R ps L2 R2 qs = none := if_neg h
theorem joinO_yes {l r : Nat} {ps : List Int} {r2 : Nat} {qs : List Int} (h : JoinOk l r ps r r2 qs) : joinO l r ps r r2 qs = some ((l : Int), (r2 : Int), (pairsOf l r2 (midB r ps r2 qs r)).map Int.ofNat) := if_pos h
end Go.Proofs.YtloecimlimoanaaGreatDoor

/- RelBack: what is asked. -/
namespace Go.Proofs.YtloecimlimoanaaGreatDoor
open Go.RowKit Go.ChangeMaps Go.Shelf

/-- a relation with its sides exchanged, if it is one -/
noncomputable def backO (L R : Int) (ps : List Int) : Option (Int × Int × List Int) :=
  open Classical in if RelOk L R ps then some (R, L, (pairsOf R.toNat L.toNat (fun j i => memR R.toNat ps i j)).map Int.ofNat) else none

theorem backO_no {L R : Int} {ps : List Int} (h : ¬ RelOk L R ps) : backO L R ps = none := if_neg h
theorem backO_yes {l r : Nat} {ps : List Int} (h : RelOk l r ps) : backO l r ps = some ((r : Int), (l : Int), (pairsOf r l (fun j i => memR r ps i j)).map Int.ofNat) := if_pos h
end Go.Proofs.YtloecimlimoanaaGreatDoor

/- Graphs of lists: their lists; graphs joined. -/
namespace Go.Proofs.YtloecimlimoanaaGreatDoor

theorem mem_pairs {l r : Nat} {R : Nat → Nat → Bool} (hr : 0 < r) {i j : Nat} (hi : i < l) (hj : j < r) : memR r ((pairsOf l r R).map Int.ofNat) i j = R i j := by
  have hd : (i * r + j) / r = i := by rw [Nat.mul_comm, Nat.mul_add_div hr, Nat.div_eq_of_lt hj, Nat.add_zero]
  have hm : (i * r + j) % r = j := by rw [Nat.mul_comm, Nat.mul_add_mod, Nat.mod_eq_of_lt hj]
  have hlt : i * r + j < l * r := Nat.lt_of_lt_of_le (Nat.add_lt_add_left hj _) (by rw [← Nat.succ_mul]; exact Nat.mul_le_mul_right r hi)
  unfold memR
  rw [pairsOf_eq r R hr]
  apply Bool.eq_iff_iff.2
  rw [decide_eq_true_iff]
  constructor
  · intro h
    obtain ⟨p, hp, e⟩ := List.mem_map.1 h
    have e : p = i * r + j := by
      have : (p : Int) = ((i * r + j : Nat) : Int) := e
      omega
    subst e
    have := (List.mem_filter.1 hp).2
    rwa [hd, hm] at this
  · intro h
    exact List.mem_map.2 ⟨i * r + j, List.mem_filter.2 ⟨List.mem_range.2 hlt, by rw [hd, hm]; exact h⟩, rfl⟩

theorem pairs_ok {l r : Nat} {R : Nat → Nat → Bool} (h1 : 1 ≤ l) (h2 : l ≤ 128) (h3 : 1 ≤ r) (h4 : r ≤ 128) : RelOk l r ((pairsOf l r R).map Int.ofNat) := by
  refine ⟨by omega, by omega, ?_, ?_⟩
  · rw [pairsOf_eq r R (by omega), List.pairwise_map]
    exact ((sorted_range (l * r)).filter _).imp fun {a b} h => by simpa using h
  · intro p hp
    rw [pairsOf_eq r R (by omega)] at hp
    obtain ⟨q, hq, rfl⟩ := List.mem_map.1 hp
    have := List.mem_range.1 (List.mem_filter.1 hq).1
    rw [← Int.natCast_mul]
    exact ⟨Int.natCast_nonneg q, Int.ofNat_lt.2 this⟩

/-- the relation of a list -/
def gR (lst : List Int) : Nat → Nat → Bool := fun i k => decide ((k : Int) = lst.getD i 0)

theorem GraphOk.nat {lst : List Int} {n : Int} (h : GraphOk lst n) : ∃ N : Nat, n = N ∧ 1 ≤ N ∧ N ≤ 128 := ⟨n.toNat, by have := h.2.1; omega, by have := h.2.1; omega, by have := h.2.1; omega⟩

theorem GraphOk.at {lst : List Int} {n : Int} (h : GraphOk lst n) {i : Nat} (hi : i < lst.length) : 0 ≤ lst.getD i 0 ∧ lst.getD i 0 < n := by
  rw [List.getD_eq_getElem?_getD, List.getElem?_eq_getElem hi]
  exact h.2.2 _ (List.getElem_mem hi)

/-- the list of a graph is the list -/
theorem fun_graph {lst : List Int} {N : Nat} (h : GraphOk lst (N : Int)) : funO lst.length N (graphL lst N lst.length) = some lst := by
  obtain ⟨h1, h2, h3⟩ := id h
  rw [← graph_pairs h3]
  rw [fun_of_rows (f := fun i => (lst.getD i 0).toNat) (pairs_ok h1.1 h1.2 (by omega) (by omega)) ?_]
  · congr 1
    apply List.ext_getElem?
    intro i
    by_cases hi : i < lst.length
    · have h4 := h.at hi
      rw [List.getElem?_map, List.getElem?_range hi, Option.map_some, List.getElem?_eq_getElem hi]
      rw [List.getD_eq_getElem?_getD, List.getElem?_eq_getElem hi] at h4 ⊢
      simp only [Option.getD_some] at h4 ⊢
      congr 1
      omega
    · rw [List.getElem?_eq_none (by simpa using hi), List.getElem?_eq_none (by omega)]
  · intro i hi
    have h4 := h.at hi
    refine ⟨by omega, ?_⟩
    have e : elems N (memR N ((pairsOf lst.length N (fun i k => decide ((k : Int) = lst.getD i 0))).map Int.ofNat) i) = elems N (gR lst i) := by
      unfold elems
      apply List.filter_congr
      intro k hk
      exact mem_pairs (by omega) hi (List.mem_range.1 hk)
    rw [e]
    exact elems_single (by omega) (fun j _ => decide_eq_decide.2 (by omega))

/-- graphs joined are the graph of one list behind the other -/
theorem join_graph {lst sec both : List Int} {N : Nat} (h : GraphOk lst (N : Int)) (hs : GraphOk sec 3) (hl : sec.length = N) (hb : both.length = lst.length) (hat : ∀ i, i < lst.length → both.getD i 0 = sec.getD (lst.getD i 0).toNat 0) :
    joinO lst.length N (graphL lst N lst.length) N 3 (graphL sec 3 sec.length) = some ((lst.length : Int), 3, graphL both 3 both.length) ∧ GraphOk both 3 := by
  obtain ⟨h1, h2, h3⟩ := id h
  obtain ⟨g1, g2, g3⟩ := id hs
  have hbz : ∀ z ∈ both, 0 ≤ z ∧ z < ((3 : Nat) : Int) := fun z hz => by
    obtain ⟨i, hi, rfl⟩ := List.getElem_of_mem hz
    have hil : i < lst.length := by omega
    have h4 := h.at hil
    have h5 := hat i hil
    rw [List.getD_eq_getElem?_getD, List.getElem?_eq_getElem hi, Option.getD_some] at h5
    rw [h5]
    exact hs.at (by omega)
  refine ⟨?_, ⟨by omega, ⟨by omega, by omega⟩, hbz⟩⟩
  have e3 : (3 : Int) = ((3 : Nat) : Int) := rfl
  have g3' : ∀ z ∈ sec, 0 ≤ z ∧ z < ((3 : Nat) : Int) := g3
  have p1 : RelOk lst.length N (graphL lst N lst.length) := by rw [← graph_pairs h3]; exact pairs_ok h1.1 h1.2 (by omega) (by omega)
  have p2 : RelOk N ((3 : Nat) : Int) (graphL sec ((3 : Nat) : Int) sec.length) := by
    rw [← graph_pairs g3', ← hl]
    exact pairs_ok g1.1 g1.2 (by omega) (by omega)
  rw [e3, joinO_yes ⟨p1, p2, rfl⟩, ← graph_pairs hbz, hb]
  congr 3
  congr 1
  apply pairsOf_congr
  intro i hi k hk
  have h4 := h.at hi
  have hm : midB N (graphL lst N lst.length) 3 (graphL sec ((3 : Nat) : Int) sec.length) N i k = (List.range N).any fun j => gR lst i j && gR sec j k := by
    unfold midB
    apply Bool.eq_iff_iff.2
    simp only [List.any_eq_true, List.mem_range]
    constructor
    · rintro ⟨j, hj, hh⟩
      rw [← graph_pairs h3, mem_pairs (by omega) hi hj, ← graph_pairs g3', mem_pairs (by omega) (by omega) hk] at hh
      exact ⟨j, hj, hh⟩
    · rintro ⟨j, hj, hh⟩
      refine ⟨j, hj, ?_⟩
      rw [← graph_pairs h3, mem_pairs (by omega) hi hj, ← graph_pairs g3', mem_pairs (by omega) (by omega) hk]
      exact hh
  rw [hm]
  apply Bool.eq_iff_iff.2
  rw [hat i hi, List.any_eq_true, decide_eq_true_iff]
  unfold gR
  simp only [List.mem_range, Bool.and_eq_true, decide_eq_true_iff]
  constructor
  · rintro ⟨j, hj, e1, e2⟩
    have : (lst.getD i 0).toNat = j := by omega
    rw [this]; exact e2
  · intro e
    exact ⟨(lst.getD i 0).toNat, by omega, by omega, e⟩
end Go.Proofs.YtloecimlimoanaaGreatDoor

/- Relations back and joined: what is so of them. -/
namespace Go.Proofs.YtloecimlimoanaaGreatDoor

theorem elems_len_more (n : Nat) (P : Nat → Bool) : (elems (n + 1) P).length = (elems n P).length + (if P n then 1 else 0) := by
  rw [elems_more, List.length_append]
  split <;> rfl

theorem swap_more (R : Nat → Nat → Bool) (l : Nat) : ∀ r, (pairsOf r (l + 1) (fun j i => R i j)).length = (pairsOf r l (fun j i => R i j)).length + (elems r (R l)).length := by
  intro r
  induction r with
  | zero => rfl
  | succ r ih =>
    rw [pairsOf_succ, pairsOf_succ, List.length_append, List.length_append, List.length_map, List.length_map, ih, elems_len_more, elems_len_more]
    omega

/-- the other way round there are as many -/
theorem swap_len (R : Nat → Nat → Bool) (r : Nat) : ∀ l, (pairsOf r l (fun j i => R i j)).length = (pairsOf l r R).length := by
  intro l
  induction l with
  | zero =>
    have h : ∀ r, (pairsOf r 0 (fun j i => R i j)).length = 0 := by
      intro r
      induction r with
      | zero => rfl
      | succ r ih => rw [pairsOf_succ, List.length_append, ih]; rfl
    rw [h]; rfl
  | succ l ih => rw [swap_more, ih, pairsOf_succ, List.length_append, List.length_map]

theorem RelOk.nat {L R : Int} {ps : List Int} (h : RelOk L R ps) : ∃ l r : Nat, L = l ∧ R = r ∧ 1 ≤ l ∧ l ≤ 128 ∧ 1 ≤ r ∧ r ≤ 128 := ⟨L.toNat, R.toNat, by have := h.left; omega, by have := h.right; omega, by have := h.left; omega, by have := h.left; omega, by have := h.right; omega, by have := h.right; omega⟩

/-- a relation with its sides exchanged -/
def bk (l r : Nat) (ps : List Int) : List Int := (pairsOf r l (fun j i => memR r ps i j)).map Int.ofNat

theorem bk_mem {l r : Nat} {ps : List Int} (hl : 0 < l) {i j : Nat} (hi : i < l) (hj : j < r) : memR l (bk l r ps) j i = memR r ps i j := mem_pairs hl hj hi

theorem bk_ok {l r : Nat} {ps : List Int} (h : RelOk l r ps) : RelOk r l (bk l r ps) := by
  have h1 := h.left
  have h2 := h.right
  exact pairs_ok (by omega) (by omega) (by omega) (by omega)

/-- back and back -/
theorem bk_bk {l r : Nat} {ps : List Int} (h : RelOk l r ps) : bk r l (bk l r ps) = ps := by
  have h1 := h.left
  unfold bk
  have e : pairsOf l r (fun j i => memR l ((pairsOf r l (fun j i => memR r ps i j)).map Int.ofNat) i j) = pairsOf l r (memR r ps) := pairsOf_congr (fun i hi j hj => mem_pairs (by omega) hj hi)
  rw [e]
  exact h.pairs.symm

theorem bk_len {l r : Nat} {ps : List Int} (h : RelOk l r ps) : (bk l r ps).length = ps.length := by
  unfold bk
  rw [List.length_map, swap_len (memR r ps) r l]
  have e := congrArg List.length h.pairs
  rw [List.length_map] at e
  exact e.symm

/-- a relation and another together -/
def jn (l r : Nat) (ps : List Int) (r2 : Nat) (qs : List Int) : List Int := (pairsOf l r2 (midB r ps r2 qs r)).map Int.ofNat

theorem jn_ok {l r : Nat} {ps : List Int} {r2 : Nat} {qs : List Int} (h : RelOk l r ps) (h2 : RelOk r r2 qs) : RelOk l r2 (jn l r ps r2 qs) := by
  have h1 := h.left
  have h2 := h2.right
  exact pairs_ok (by omega) (by omega) (by omega) (by omega)

theorem jn_mem {l r : Nat} {ps : List Int} {r2 : Nat} {qs : List Int} (h : 0 < r2) {i k : Nat} (hi : i < l) (hk : k < r2) : memR r2 (jn l r ps r2 qs) i k = midB r ps r2 qs r i k := mem_pairs h hi hk

/-- joined back in the opposite order -/
theorem jn_bk {l r : Nat} {ps : List Int} {r2 : Nat} {qs : List Int} (h : RelOk l r ps) (h2 : RelOk r r2 qs) : jn r2 r (bk r r2 qs) l (bk l r ps) = bk l r2 (jn l r ps r2 qs) := by
  have h1 := h.left
  have h3 := h.right
  have h4 := h2.right
  conv => lhs; unfold jn
  conv => rhs; unfold bk
  congr 1
  apply pairsOf_congr
  intro k hk i hi
  rw [jn_mem (by omega) hi hk]
  unfold midB
  apply Bool.eq_iff_iff.2
  simp only [List.any_eq_true, List.mem_range, Bool.and_eq_true]
  constructor
  · rintro ⟨j, hj, e1, e2⟩
    rw [bk_mem (by omega) hj hk] at e1
    rw [bk_mem (by omega) hi hj] at e2
    exact ⟨j, hj, e2, e1⟩
  · rintro ⟨j, hj, e1, e2⟩
    exact ⟨j, hj, by rw [bk_mem (by omega) hj hk]; exact e2, by rw [bk_mem (by omega) hi hj]; exact e1⟩

/-- the relation of equal numbers -/
def smL (n : Nat) : List Int := (pairsOf n n (fun i j => decide (j = i))).map Int.ofNat

theorem sm_ok {n : Nat} (h1 : 1 ≤ n) (h2 : n ≤ 128) : RelOk n n (smL n) := pairs_ok h1 h2 h1 h2
theorem sm_mem {n i j : Nat} (h : 0 < n) (hi : i < n) (hj : j < n) : memR n (smL n) i j = decide (j = i) := mem_pairs h hi hj

theorem jn_sm {l r : Nat} {ps : List Int} (h : RelOk l r ps) : jn l r ps r (smL r) = ps := by
  have h1 := h.right
  unfold jn
  rw [pairsOf_congr (Q := memR r ps)]
  · exact h.pairs.symm
  · intro i hi k hk
    unfold midB
    apply Bool.eq_iff_iff.2
    simp only [List.any_eq_true, List.mem_range, Bool.and_eq_true]
    constructor
    · rintro ⟨j, hj, e1, e2⟩
      rw [sm_mem (by omega) hj hk, decide_eq_true_iff] at e2
      subst e2
      exact e1
    · intro e
      exact ⟨k, hk, e, by rw [sm_mem (by omega) hk hk]; simp⟩

theorem bk_sm {n : Nat} (h1 : 1 ≤ n) : bk n n (smL n) = smL n := by
  conv => lhs; unfold bk
  conv => rhs; unfold smL
  congr 1
  apply pairsOf_congr
  intro i hi j hj
  rw [sm_mem (by omega) hj hi]
  exact decide_eq_decide.2 ⟨fun h => h.symm, fun h => h.symm⟩

theorem fun_sm {n : Nat} (h1 : 1 ≤ n) (h2 : n ≤ 128) : funO n n (smL n) = some ((List.range n).map Int.ofNat) := by
  rw [fun_of_rows (f := fun i => i) (sm_ok h1 h2)]
  · rfl
  · intro i hi
    refine ⟨hi, ?_⟩
    have e : elems n (memR n (smL n) i) = elems n (fun j => decide (j = i)) := by
      unfold elems
      apply List.filter_congr
      intro k hk
      exact sm_mem (by omega) hi (List.mem_range.1 hk)
    rw [e]
    exact elems_single hi (fun j _ => rfl)

theorem backO_bk {l r : Nat} {ps : List Int} (h : RelOk l r ps) : backO l r ps = some ((r : Int), (l : Int), bk l r ps) := backO_yes h
theorem joinO_jn {l r : Nat} {ps : List Int} {r2 : Nat} {qs : List Int} (h : RelOk l r ps) (h2 : RelOk r r2 qs) : joinO l r ps r r2 qs = some ((l : Int), (r2 : Int), jn l r ps r2 qs) := joinO_yes ⟨h, h2, rfl⟩
theorem sameO_sm {n : Nat} (h1 : 1 ≤ n) (h2 : n ≤ 128) : sameO n = some ((n : Int), (n : Int), smL n) := by
  unfold sameO
  rw [if_pos ⟨by omega, by omega⟩]
  unfold smL
  rw [same_pairs]
  rfl

theorem bk_le {l r : Nat} {ps : List Int} (h : RelOk l r ps) : ps.length ≤ 16384 := by
  have h1 := h.left
  have h2 := h.right
  have e := congrArg List.length h.pairs
  rw [List.length_map, pairsOf_eq r _ (by omega)] at e
  have h3 := List.length_filter_le (fun p => memR r ps (p / r) (p % r)) (List.range (l * r))
  rw [List.length_range] at h3
  have h4 := Nat.mul_le_mul (show l ≤ 128 by omega) (show r ≤ 128 by omega)
  omega
end Go.Proofs.YtloecimlimoanaaGreatDoor
