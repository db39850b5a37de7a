/- Lifted relations, as plain data: turned round, of equal numbers, of larger relations, of pairs. -/
import Derived.Test.YtloecimlimoanaaGreatDoorRdl
import Derived.Test.YtloecimlimoanaaGreatDoorGbk
namespace Go.Proofs.YtloecimlimoanaaGreatDoor

theorem cnt_n_mk {μ : Nat → Option Nat} {f : Bool} {l r : Ty} {a b : Nat} (hl : l.cnt μ = some a) (hr : r.cnt μ = some b) : (Ty.n f l r).cnt μ = cap (if f then b ^ a else a * b) := by
  simp only [Ty.cnt, hl, hr]

theorem dm_lt {a b x : Nat} (hx : x < a * b) : x / b < a := Nat.div_lt_of_lt_mul (by rw [Nat.mul_comm]; exact hx)

/-- the other way round -/
theorem relT_swap {μ ν : Nat → Option Nat} (hμ : Sizes μ) (hν : Sizes ν) {ρ ρ' : Nat → Nat → Nat → Bool} (hρ : ∀ i m n, μ i = some m → ν i = some n → ∀ x y, x < m → y < n → ρ' i y x = ρ i x y) :
    ∀ (t : Ty) (c c' : Nat), t.cnt μ = some c → t.cnt ν = some c' → ∀ x y, x < c → y < c' → relT ν μ ρ' t y x = relT μ ν ρ t x y := by
  intro t
  induction t with
  | v i => intro c c' h h' x y hx hy; exact hρ i c c' h h' x y hx hy
  | o => intro c c' _ _ x y _ _; simp only [relT]; exact Bool.eq_iff_iff.2 (by simp; exact eq_comm)
  | n f l r ihl ihr =>
    intro c c' hc hc' x y hx hy
    obtain ⟨a, b, ha, hb, hce, _⟩ := Ty.cnt_n hc
    obtain ⟨a', b', ha', hb', hce', _⟩ := Ty.cnt_n hc'
    have hb1 := (r.cnt_bounds hμ b hb).1
    have hb1' := (r.cnt_bounds hν b' hb').1
    have hl := ihl a a' ha ha'
    have hr := ihr b b' hb hb'
    cases f with
    | false =>
      simp only [Bool.false_eq_true, if_false] at hce hce'
      subst hce hce'
      simp only [relT, Ty.cn_of hb, Ty.cn_of hb']
      rw [hl _ _ (dm_lt hx) (dm_lt hy), hr _ _ (Nat.mod_lt _ hb1) (Nat.mod_lt _ hb1')]
    | true =>
      simp only [relT, Ty.cn_of hb, Ty.cn_of hb', Ty.cn_of ha, Ty.cn_of ha']
      apply Bool.eq_iff_iff.2
      simp only [List.all_eq_true, List.mem_range]
      constructor
      · intro h k hk j hj
        have := h j hj k hk
        rw [hl _ _ hk hj, hr _ _ (Nat.mod_lt _ hb1) (Nat.mod_lt _ hb1')] at this
        exact this
      · intro h j hj k hk
        rw [hl _ _ hk hj, hr _ _ (Nat.mod_lt _ hb1) (Nat.mod_lt _ hb1')]
        exact h k hk j hj

/-- numbers of which all digits are equal -/
theorem dig_same {m : Nat} (_ : 1 ≤ m) : ∀ (p x y : Nat), x < m ^ p → y < m ^ p → (∀ a, a < p → x / m ^ a % m = y / m ^ a % m) → x = y := by
  intro p
  induction p with
  | zero => intro x y hx hy _; simp at hx hy; omega
  | succ p ih =>
    intro x y hx hy h
    have h0 := h 0 (by omega)
    simp at h0
    rw [Nat.pow_succ] at hx hy
    have hx' : x / m < m ^ p := Nat.div_lt_of_lt_mul (by rw [Nat.mul_comm]; exact hx)
    have hy' : y / m < m ^ p := Nat.div_lt_of_lt_mul (by rw [Nat.mul_comm]; exact hy)
    have e : x / m = y / m := ih _ _ hx' hy' (fun a ha => by
      have := h (a + 1) (by omega)
      rw [Nat.pow_succ, Nat.mul_comm, ← Nat.div_div_eq_div_mul, ← Nat.div_div_eq_div_mul] at this
      exact this)
    rw [← Nat.div_add_mod x m, ← Nat.div_add_mod y m, e, h0]

/-- equal numbers, lifted: equal elements -/
theorem relT_same {μ : Nat → Option Nat} (hμ : Sizes μ) {ρ : Nat → Nat → Nat → Bool} (hρ : ∀ i m, μ i = some m → ∀ x y, x < m → y < m → (ρ i x y = true ↔ x = y)) :
    ∀ (t : Ty) (c : Nat), t.cnt μ = some c → ∀ x y, x < c → y < c → (relT μ μ ρ t x y = true ↔ x = y) := by
  intro t
  induction t with
  | v i => intro c h x y hx hy; exact hρ i c h x y hx hy
  | o => intro c _ x y _ _; simp [relT]
  | n f l r ihl ihr =>
    intro c hc x y hx hy
    obtain ⟨a, b, ha, hb, hce, _⟩ := Ty.cnt_n hc
    have hb1 := (r.cnt_bounds hμ b hb).1
    have hl := ihl a ha
    have hr := ihr b hb
    cases f with
    | false =>
      simp only [Bool.false_eq_true, if_false] at hce
      subst hce
      simp only [relT, Bool.and_eq_true, Ty.cn_of hb]
      rw [hl _ _ (dm_lt hx) (dm_lt hy), hr _ _ (Nat.mod_lt _ hb1) (Nat.mod_lt _ hb1)]
      constructor
      · rintro ⟨e1, e2⟩
        rw [← Nat.div_add_mod x b, ← Nat.div_add_mod y b, e1, e2]
      · rintro rfl; exact ⟨rfl, rfl⟩
    | true =>
      simp only [if_true] at hce
      subst hce
      simp only [relT, List.all_eq_true, List.mem_range, Ty.cn_of ha, Ty.cn_of hb]
      constructor
      · intro h
        refine dig_same hb1 a x y hx hy (fun k hk => ?_)
        have h1 := h k hk k hk
        rw [(hl k k hk hk).2 rfl] at h1
        simpa using (hr _ _ (Nat.mod_lt _ hb1) (Nat.mod_lt _ hb1)).1 (by simpa using h1)
      · rintro rfl k hk j hj
        cases hkj : relT μ μ ρ l k j with
        | false => rfl
        | true =>
          have := (hl k j hk hj).1 hkj
          subst this
          simpa using (hr _ _ (Nat.mod_lt _ hb1) (Nat.mod_lt _ hb1)).2 rfl

/-- a larger relation of the one variable: lifted, it is larger where the variable stands on the right side of things -/
theorem relT_more {μ ν : Nat → Option Nat} {ρ ρ' : Nat → Nat → Nat → Bool} {i : Nat} (hρ : ∀ j x y, ρ j x y = true → ρ' j x y = true) :
    ∀ (t : Ty), (∀ j, t.has j → j = i) → (only true t i = true → ∀ x y, relT μ ν ρ t x y = true → relT μ ν ρ' t x y = true) ∧ (only false t i = true → ∀ x y, relT μ ν ρ' t x y = true → relT μ ν ρ t x y = true) := by
  intro t
  induction t with
  | v j =>
    intro h
    have : j = i := h j rfl
    subst this
    exact ⟨fun _ x y hr => hρ _ _ _ hr, fun ho => by simp [only] at ho⟩
  | o => intro _; exact ⟨fun _ x y h => h, fun _ x y h => h⟩
  | n f l r ihl ihr =>
    intro h
    have hl := ihl (fun j hj => h j (.inl hj))
    have hr := ihr (fun j hj => h j (.inr hj))
    cases f with
    | false =>
      constructor
      · intro ho x y hxy
        simp only [only, Bool.and_eq_true, relT] at ho hxy ⊢
        exact ⟨hl.1 (by simpa using ho.1) _ _ hxy.1, hr.1 ho.2 _ _ hxy.2⟩
      · intro ho x y hxy
        simp only [only, Bool.and_eq_true, relT] at ho hxy ⊢
        exact ⟨hl.2 (by simpa using ho.1) _ _ hxy.1, hr.2 ho.2 _ _ hxy.2⟩
    | true =>
      constructor
      · intro ho x y hxy
        simp only [only, Bool.and_eq_true, relT, List.all_eq_true, List.mem_range, Bool.or_eq_true, Bool.not_eq_true'] at ho hxy ⊢
        intro k hk j hj
        rcases hxy k hk j hj with h1 | h1
        · left
          cases hc : relT μ ν ρ' l k j with
          | false => rfl
          | true =>
            have := hl.2 (by simpa using ho.1) _ _ hc
            rw [this] at h1; cases h1
        · right; exact hr.1 ho.2 _ _ h1
      · intro ho x y hxy
        simp only [only, Bool.and_eq_true, relT, List.all_eq_true, List.mem_range, Bool.or_eq_true, Bool.not_eq_true'] at ho hxy ⊢
        intro k hk j hj
        rcases hxy k hk j hj with h1 | h1
        · left
          cases hc : relT μ ν ρ l k j with
          | false => rfl
          | true =>
            have := hl.1 (by simpa using ho.1) _ _ hc
            rw [this] at h1; cases h1
        · right; exact hr.2 ho.2 _ _ h1

/-- in pairs -/
theorem relT_pair {μ ν : Nat → Option Nat} {ρ : Nat → Nat → Nat → Bool} {t : Ty} {c c' x y : Nat} (hc : t.cnt μ = some c) (hc' : t.cnt ν = some c') (hx : x < c) (hy : y < c') (h : relT μ ν ρ t x y = true) : relT μ ν ρ (.n false t t) (x * c + x) (y * c' + y) = true := by
  have e1 : (x * c + x) / c = x := by rw [Nat.mul_comm, Nat.mul_add_div (by omega), Nat.div_eq_of_lt hx]; rfl
  have e2 : (x * c + x) % c = x := by rw [Nat.mul_comm, Nat.mul_add_mod, Nat.mod_eq_of_lt hx]
  have e3 : (y * c' + y) / c' = y := by rw [Nat.mul_comm, Nat.mul_add_div (by omega), Nat.div_eq_of_lt hy]; rfl
  have e4 : (y * c' + y) % c' = y := by rw [Nat.mul_comm, Nat.mul_add_mod, Nat.mod_eq_of_lt hy]
  simp only [relT, Ty.cn_of hc, Ty.cn_of hc', e1, e2, e3, e4, h, Bool.and_self]
end Go.Proofs.YtloecimlimoanaaGreatDoor
