/- Parametric elements, as plain data: related by whatever relation. -/
import Derived.Test.YtloecimlimoanaaGreatDoorRpu
import Derived.Test.YtloecimlimoanaaGreatDoorLawPp
namespace Go.Proofs.YtloecimlimoanaaGreatDoor

/-- a number with these bits -/
theorem num_ex : ∀ (N : Nat) (P : Nat → Bool), ∃ k, k < 2 ^ N ∧ ∀ p, p < N → k.testBit p = P p := by
  intro N
  induction N with
  | zero => intro P; exact ⟨0, by simp, fun p h => by omega⟩
  | succ N ih =>
    intro P
    obtain ⟨k, hk, hb⟩ := ih P
    cases hP : P N with
    | false =>
      refine ⟨k, by rw [Nat.pow_succ]; omega, fun p hp => ?_⟩
      by_cases e : p = N
      · subst e; rw [hP]; exact Nat.testBit_lt_two_pow hk
      · exact hb p (by omega)
    | true =>
      refine ⟨2 ^ N + k, by rw [Nat.pow_succ]; omega, fun p hp => ?_⟩
      by_cases e : p = N
      · subst e; rw [hP, Nat.testBit_two_pow_add_eq, Nat.testBit_lt_two_pow hk]; rfl
      · rw [Nat.testBit_two_pow_add_gt (by omega)]; exact hb p (by omega)

theorem numR_at {m n k i x y : Nat} (hx : x < m) (hy : y < n) : numR m n k i x y = k.testBit (x * n + y) := by
  have hlt : x * n + y < m * n := by
    have h := Nat.mul_le_mul (show x + 1 ≤ m by omega) (Nat.le_refl n)
    rw [Nat.add_one_mul] at h
    omega
  unfold numR memR numP
  apply Bool.eq_iff_iff.2
  rw [decide_eq_true_iff, List.mem_map]
  constructor
  · rintro ⟨p, hp, e⟩
    have e : p = x * n + y := by
      have e : (p : Int) = ((x * n + y : Nat) : Int) := e
      exact_mod_cast e
    rw [e] at hp
    exact (elems_mem.1 hp).2
  · intro h
    exact ⟨x * n + y, elems_mem.2 ⟨hlt, h⟩, rfl⟩

/-- what is related depends on the variables' numbers alone -/
theorem relT_ext {μ ν : Nat → Option Nat} (hμ : Sizes μ) (hν : Sizes ν) {ρ ρ' : Nat → Nat → Nat → Bool} (hρ : ∀ i m n, μ i = some m → ν i = some n → ∀ x y, x < m → y < n → ρ' i x y = ρ i x y) :
    ∀ (t : Ty) (c c' : Nat), t.cnt μ = some c → t.cnt ν = some c' → ∀ x y, x < c → y < c' → relT μ ν ρ' t x y = relT μ ν ρ t x y := fun t c c' h h' x y hx hy => by
  have h1 := relT_swap hμ hν (ρ := ρ) (ρ' := fun i y x => ρ i x y) (fun i m n _ _ x y _ _ => rfl) t c c' h h' x y hx hy
  have h2 := relT_swap hμ hν (ρ := ρ') (ρ' := fun i y x => ρ i x y) (fun i m n h1 h2 x y hx hy => (hρ i m n h1 h2 x y hx hy).symm) t c c' h h' x y hx hy
  rw [← h2, h1]

theorem relOk_nat {m n : Nat} {ps : List Int} (h : RelOk (m : Int) (n : Int) ps) : 1 ≤ m ∧ m ≤ 128 ∧ 1 ≤ n ∧ n ≤ 128 := by
  have h1 := h.left
  have h2 := h.right
  omega

/-- the relation of one variable -/
theorem spIs_one {m n : Nat} {ps : List Int} (h1 : 1 ≤ m) (h3 : m ≤ 3) (g1 : 1 ≤ n) (g3 : n ≤ 3) (h : RelOk (m : Int) (n : Int) ps) : SpIs [[97]] [((m : Int), (n : Int), ps)] [(0, m)] [(0, n)] :=
  ⟨spD_model h1 h3, spD_model g1 g3, fun r hr => by
    simp at hr
    subst hr
    exact h⟩

/-- parametric elements are related by each relation -/
theorem PairIs.all {s : List UInt8} {m n : Nat} {x y : Int} (h : PairIs s m n x y) : ∃ (t : Ty) (c c' xN yN : Nat), Ty.Is s t ∧ OnlyA t ∧ t.kn (sz1 m) = some c ∧ t.kn (sz1 n) = some c' ∧ x = xN ∧ y = yN ∧ xN < c ∧ yN < c' ∧ ∀ ρ, relT (sz1 m) (sz1 n) ρ t xN yN = true := by
  obtain ⟨t, mN, nN, c, c', xN, yN, h1, h2, e1, e2, hin, h6, h7, h8, h9, h10, h11, h12⟩ := h
  have e1 : m = mN := by omega
  have e2 : n = nN := by omega
  subst e1 e2
  obtain ⟨i1, i2, i3, i4⟩ := hin
  have hμ := sz1_sizes (m := m) (by omega) (by omega)
  have hν := sz1_sizes (m := n) (by omega) (by omega)
  refine ⟨t, c, c', xN, yN, h1, h2, h6, h7, h8, h9, h10, h11, fun ρ => ?_⟩
  obtain ⟨k, hk, hb⟩ := num_ex (m * n) (fun p => ρ 0 (p / n) (p % n))
  have h := h12 k hk
  rw [← h]
  refine relT_ext hμ hν (fun i a b ha hb' x y hx hy => ?_) t c c' (kn_cnt h6) (kn_cnt h7) xN yN h10 h11
  obtain ⟨rfl, rfl⟩ := sz1_some ha
  obtain ⟨_, rfl⟩ := sz1_some hb'
  rw [numR_at hx hy]
  have hlt : x * b + y < a * b := by
    have h := Nat.mul_le_mul (show x + 1 ≤ a by omega) (Nat.le_refl b)
    rw [Nat.add_one_mul] at h
    omega
  rw [hb _ hlt]
  have d1 : (x * b + y) / b = x := by rw [Nat.mul_comm, Nat.mul_add_div (by omega), Nat.div_eq_of_lt hy]; rfl
  have d2 : (x * b + y) % b = y := by rw [Nat.mul_comm, Nat.mul_add_mod, Nat.mod_eq_of_lt hy]
  rw [d1, d2]

theorem PairIs.rel {s : List UInt8} {m n : Nat} {x y : Int} {ps : List Int} (h : PairIs s m n x y) (hr : RelOk (m : Int) (n : Int) ps) : RelatedIs s [[97]] [((m : Int), (n : Int), ps)] x y := by
  have hin := h.in3
  obtain ⟨i1, i2, i3, i4⟩ := hin
  obtain ⟨t, c, c', xN, yN, h1, h2, h3, h4, h5, h6, h7, h8, h9⟩ := h.all
  exact ⟨t, [(0, m)], [(0, n)], c, c', xN, yN, h1, spIs_one (by omega) (by omega) (by omega) (by omega) hr, h3, h4, h5, h6, h7, h8, h9 _⟩

/-- and the other way round -/
theorem PairIs.swap {s : List UInt8} {m n : Nat} {x y : Int} (h : PairIs s m n x y) : PairIs s n m y x := by
  have hin := h.in3
  obtain ⟨i1, i2, i3, i4⟩ := hin
  obtain ⟨t, c, c', xN, yN, h1, h2, h3, h4, h5, h6, h7, h8, h9⟩ := h.all
  refine ⟨t, n, m, c', c, yN, xN, h1, h2, rfl, rfl, ⟨i3, i4, i1, i2⟩, h4, h3, h6, h5, h8, h7, fun k _ => ?_⟩
  rw [relT_swap (sz1_sizes (m := m) (by omega) (by omega)) (sz1_sizes (m := n) (by omega) (by omega)) (ρ := fun i x y => numR n m k i y x) (fun i a b _ _ x y _ _ => rfl) t c c' (kn_cnt h3) (kn_cnt h4) xN yN h7 h8]
  exact h9 _
end Go.Proofs.YtloecimlimoanaaGreatDoor
