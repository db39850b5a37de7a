/- Relations back and joined: what is so of them. -/
import Derived.Test.YticoeooeeejboaaGjn
import Derived.Test.YticoeooeeejboaaBk0
import Derived.Test.YticoeooeeejboaaRnum
import Derived.Test.YticoeooeeejboaaReq
namespace Go.Proofs.Yticoeooeeejboaa

theorem elems_len_more (n : Nat) (P : Nat → Bool) : (elems (n + 1) P).length = (elems n P).length + (if P n then 1 else 0) := by
  rw [elems_more, List.length_append]
  split <;> rfl

theorem swap_more (R : Nat → Nat → Bool) (l : Nat) : ∀ r, (pairsOf r (l + 1) (fun j i => R i j)).length = (pairsOf r l (fun j i => R i j)).length + (elems r (R l)).length := by
  intro r
  induction r with
  | zero => rfl
  | succ r ih =>
    rw [pairsOf_succ, pairsOf_succ, List.length_append, List.length_append, List.length_map, List.length_map, ih, elems_len_more, elems_len_more]
    omega

/-- the other way round there are as many -/
theorem swap_len (R : Nat → Nat → Bool) (r : Nat) : ∀ l, (pairsOf r l (fun j i => R i j)).length = (pairsOf l r R).length := by
  intro l
  induction l with
  | zero =>
    have h : ∀ r, (pairsOf r 0 (fun j i => R i j)).length = 0 := by
      intro r
      induction r with
      | zero => rfl
      | succ r ih => rw [pairsOf_succ, List.length_append, ih]; rfl
    rw [h]; rfl
  | succ l ih => rw [swap_more, ih, pairsOf_succ, List.length_append, List.length_map]

theorem RelOk.nat {L R : Int} {ps : List Int} (h : RelOk L R ps) : ∃ l r : Nat, L = l ∧ R = r ∧ 1 ≤ l ∧ l ≤ 128 ∧ 1 ≤ r ∧ r ≤ 128 := ⟨L.toNat, R.toNat, by have := h.left; omega, by have := h.right; omega, by have := h.left; omega, by have := h.left; omega, by have := h.right; omega, by have := h.right; omega⟩

/-- a relation with its sides exchanged -/
def bk (l r : Nat) (ps : List Int) : List Int := (pairsOf r l (fun j i => memR r ps i j)).map Int.ofNat

theorem bk_mem {l r : Nat} {ps : List Int} (hl : 0 < l) {i j : Nat} (hi : i < l) (hj : j < r) : memR l (bk l r ps) j i = memR r ps i j := mem_pairs hl hj hi

theorem bk_ok {l r : Nat} {ps : List Int} (h : RelOk l r ps) : RelOk r l (bk l r ps) := by
  have h1 := h.left
  have h2 := h.right
  exact pairs_ok (by omega) (by omega) (by omega) (by omega)

/-- back and back -/
theorem bk_bk {l r : Nat} {ps : List Int} (h : RelOk l r ps) : bk r l (bk l r ps) = ps := by
  have h1 := h.left
  unfold bk
  have e : pairsOf l r (fun j i => memR l ((pairsOf r l (fun j i => memR r ps i j)).map Int.ofNat) i j) = pairsOf l r (memR r ps) := pairsOf_congr (fun i hi j hj => mem_pairs (by omega) hj hi)
  rw [e]
  exact h.pairs.symm

theorem bk_len {l r : Nat} {ps : List Int} (h : RelOk l r ps) : (bk l r ps).length = ps.length := by
  unfold bk
  rw [List.length_map, swap_len (memR r ps) r l]
  have e := congrArg List.length h.pairs
  rw [List.length_map] at e
  exact e.symm

/-- a relation and another together -/
def jn (l r : Nat) (ps : List Int) (r2 : Nat) (qs : List Int) : List Int := (pairsOf l r2 (midB r ps r2 qs r)).map Int.ofNat

theorem jn_ok {l r : Nat} {ps : List Int} {r2 : Nat} {qs : List Int} (h : RelOk l r ps) (h2 : RelOk r r2 qs) : RelOk l r2 (jn l r ps r2 qs) := by
  have h1 := h.left
  have h2 := h2.right
  exact pairs_ok (by omega) (by omega) (by omega) (by omega)

theorem jn_mem {l r : Nat} {ps : List Int} {r2 : Nat} {qs : List Int} (h : 0 < r2) {i k : Nat} (hi : i < l) (hk : k < r2) : memR r2 (jn l r ps r2 qs) i k = midB r ps r2 qs r i k := mem_pairs h hi hk

/-- joined back in the opposite order -/
theorem jn_bk {l r : Nat} {ps : List Int} {r2 : Nat} {qs : List Int} (h : RelOk l r ps) (h2 : RelOk r r2 qs) : jn r2 r (bk r r2 qs) l (bk l r ps) = bk l r2 (jn l r ps r2 qs) := by
  have h1 := h.left
  have h3 := h.right
  have h4 := h2.right
  conv => lhs; unfold jn
  conv => rhs; unfold bk
  congr 1
  apply pairsOf_congr
  intro k hk i hi
  rw [jn_mem (by omega) hi hk]
  unfold midB
  apply Bool.eq_iff_iff.2
  simp only [List.any_eq_true, List.mem_range, Bool.and_eq_true]
  constructor
  · rintro ⟨j, hj, e1, e2⟩
    rw [bk_mem (by omega) hj hk] at e1
    rw [bk_mem (by omega) hi hj] at e2
    exact ⟨j, hj, e2, e1⟩
  · rintro ⟨j, hj, e1, e2⟩
    exact ⟨j, hj, by rw [bk_mem (by omega) hj hk]; exact e2, by rw [bk_mem (by omega) hi hj]; exact e1⟩

/-- the relation of equal numbers -/
def smL (n : Nat) : List Int := (pairsOf n n (fun i j => decide (j = i))).map Int.ofNat

theorem sm_ok {n : Nat} (h1 : 1 ≤ n) (h2 : n ≤ 128) : RelOk n n (smL n) := pairs_ok h1 h2 h1 h2
theorem sm_mem {n i j : Nat} (h : 0 < n) (hi : i < n) (hj : j < n) : memR n (smL n) i j = decide (j = i) := mem_pairs h hi hj

theorem jn_sm {l r : Nat} {ps : List Int} (h : RelOk l r ps) : jn l r ps r (smL r) = ps := by
  have h1 := h.right
  unfold jn
  rw [pairsOf_congr (Q := memR r ps)]
  · exact h.pairs.symm
  · intro i hi k hk
    unfold midB
    apply Bool.eq_iff_iff.2
    simp only [List.any_eq_true, List.mem_range, Bool.and_eq_true]
    constructor
    · rintro ⟨j, hj, e1, e2⟩
      rw [sm_mem (by omega) hj hk, decide_eq_true_iff] at e2
      subst e2
      exact e1
    · intro e
      exact ⟨k, hk, e, by rw [sm_mem (by omega) hk hk]; simp⟩

theorem bk_sm {n : Nat} (h1 : 1 ≤ n) : bk n n (smL n) = smL n := by
  conv => lhs; unfold bk
  conv => rhs; unfold smL
  congr 1
  apply pairsOf_congr
  intro i hi j hj
  rw [sm_mem (by omega) hj hi]
  exact decide_eq_decide.2 ⟨fun h => h.symm, fun h => h.symm⟩

theorem fun_sm {n : Nat} (h1 : 1 ≤ n) (h2 : n ≤ 128) : funO n n (smL n) = some ((List.range n).map Int.ofNat) := by
  rw [fun_of_rows (f := fun i => i) (sm_ok h1 h2)]
  · rfl
  · intro i hi
    refine ⟨hi, ?_⟩
    have e : elems n (memR n (smL n) i) = elems n (fun j => decide (j = i)) := by
      unfold elems
      apply List.filter_congr
      intro k hk
      exact sm_mem (by omega) hi (List.mem_range.1 hk)
    rw [e]
    exact elems_single hi (fun j _ => rfl)

theorem backO_bk {l r : Nat} {ps : List Int} (h : RelOk l r ps) : backO l r ps = some ((r : Int), (l : Int), bk l r ps) := backO_yes h
theorem joinO_jn {l r : Nat} {ps : List Int} {r2 : Nat} {qs : List Int} (h : RelOk l r ps) (h2 : RelOk r r2 qs) : joinO l r ps r r2 qs = some ((l : Int), (r2 : Int), jn l r ps r2 qs) := joinO_yes ⟨h, h2, rfl⟩
theorem sameO_sm {n : Nat} (h1 : 1 ≤ n) (h2 : n ≤ 128) : sameO n = some ((n : Int), (n : Int), smL n) := by
  unfold sameO
  rw [if_pos ⟨by omega, by omega⟩]
  unfold smL
  rw [same_pairs]
  rfl

theorem bk_le {l r : Nat} {ps : List Int} (h : RelOk l r ps) : ps.length ≤ 16384 := by
  have h1 := h.left
  have h2 := h.right
  have e := congrArg List.length h.pairs
  rw [List.length_map, pairsOf_eq r _ (by omega)] at e
  have h3 := List.length_filter_le (fun p => memR r ps (p / r) (p % r)) (List.range (l * r))
  rw [List.length_range] at h3
  have h4 := Nat.mul_le_mul (show l ≤ 128 by omega) (show r ≤ 128 by omega)
  omega
end Go.Proofs.Yticoeooeeejboaa
