/- Counts of types in a model, as plain numbers; digits of elements. · Lifted relations, as plain data: what is related; elements by their digits. -/
import Derived.Test.YtloecimlimoanaaGreatDoorTy
/- Counts of types in a model, as plain numbers; digits of elements. -/
namespace Go.Proofs.YtloecimlimoanaaGreatDoor

def cap (x : Nat) : Option Nat := if x ≤ 4096 then some x else none

/-- The count of a type, if it is known. -/
def Ty.cnt (μ : Nat → Option Nat) : Ty → Option Nat
  | .v i => μ i
  | .o => some 2
  | .n f l r => match l.cnt μ, r.cnt μ with
    | some a, some b => cap (if f then b ^ a else a * b)
    | _, _ => none

theorem cap_some {x y : Nat} (h : cap x = some y) : x = y ∧ y ≤ 4096 := by
  unfold cap at h
  split at h
  · injection h with h; omega
  · cases h

theorem cap_none {x : Nat} (h : cap x = none) : 4096 < x := by
  unfold cap at h
  split at h
  · cases h
  · omega

/-- sizes of variables are from 1 to 4 -/
def Sizes (μ : Nat → Option Nat) : Prop := ∀ n c, μ n = some c → 1 ≤ c ∧ c ≤ 4

theorem Ty.cnt_n {μ : Nat → Option Nat} {f : Bool} {l r : Ty} {c : Nat} (h : (Ty.n f l r).cnt μ = some c) : ∃ a b, l.cnt μ = some a ∧ r.cnt μ = some b ∧ c = (if f then b ^ a else a * b) ∧ c ≤ 4096 := by
  simp only [Ty.cnt] at h
  rcases hl : l.cnt μ with _ | a
  · simp [hl] at h
  · rcases hr : r.cnt μ with _ | b
    · simp [hl, hr] at h
    · simp only [hl, hr] at h
      obtain ⟨h1, h2⟩ := cap_some h
      exact ⟨a, b, rfl, rfl, h1.symm, h2⟩

theorem Ty.cnt_bounds {μ : Nat → Option Nat} (hμ : Sizes μ) (t : Ty) : ∀ c, t.cnt μ = some c → 1 ≤ c ∧ c ≤ 4096 := by
  induction t with
  | v n => intro c h; have := hμ n c h; omega
  | o => intro c h; simp only [Ty.cnt, Option.some.injEq] at h; omega
  | n f l r hl hr =>
    intro c h
    obtain ⟨a, b, h1, h2, rfl, h4⟩ := cnt_n h
    have ha := hl a h1
    have hb := hr b h2
    refine ⟨?_, h4⟩
    cases f
    · exact Nat.mul_pos ha.1 hb.1
    · exact Nat.pow_pos hb.1

/-! Powers, as the model finds them: never beyond 4097. -/
theorem min_pow (b i : Nat) (hb : 1 ≤ b) : min 4097 (min 4097 (b ^ i) * b) = min 4097 (b ^ (i + 1)) := by
  rw [Nat.pow_succ]
  by_cases h : b ^ i ≤ 4097
  · rw [Nat.min_eq_right h]
  · rw [Nat.min_eq_left (by omega : 4097 ≤ b ^ i)]
    have h1 : 4097 * 1 ≤ 4097 * b := Nat.mul_le_mul_left _ hb
    have h2 : 4097 * b ≤ b ^ i * b := Nat.mul_le_mul_right _ (by omega)
    omega

/-- as the program finds them: it stops beyond 4096 -/
theorem pow_big {b i a : Nat} (hb : 1 ≤ b) (hi : i ≤ a) (h : 4096 < b ^ i) : 4096 < b ^ a :=
  Nat.lt_of_lt_of_le h (Nat.pow_le_pow_right hb hi)

/-! Digits. -/
/-- what digits make -/
def undig (n : Nat) : List Nat → Nat
  | [] => 0
  | d :: ds => undig n ds * n + d

theorem undig_lt {n : Nat} : ∀ {ds : List Nat}, (∀ d ∈ ds, d < n) → undig n ds < n ^ ds.length
  | [], _ => by simp [undig]
  | d :: ds, h => by
    have h1 := undig_lt (n := n) (ds := ds) fun x hx => h x (by simp [hx])
    have h2 := h d (by simp)
    simp only [undig, List.length_cons, Nat.pow_succ]
    have h3 : (undig n ds + 1) * n ≤ n ^ ds.length * n := Nat.mul_le_mul_right _ h1
    have h4 : (undig n ds + 1) * n = undig n ds * n + n := by rw [Nat.add_mul]; omega
    omega

theorem undig_drop {n : Nat} {ds : List Nat} {i d : Nat} (h : ds[i]? = some d) : undig n (ds.drop i) = undig n (ds.drop (i + 1)) * n + d := by
  have hl := (List.getElem?_eq_some_iff.1 h).1
  rw [List.drop_eq_getElem_cons hl]
  rw [List.getElem?_eq_getElem hl] at h
  injection h with h
  rw [h]
  rfl

/-- digit i of k -/
def dig (n k i : Nat) : Nat := k / n ^ i % n

theorem div_step (n k i : Nat) : k / n ^ i / n = k / n ^ (i + 1) := by rw [Nat.div_div_eq_div_mul, Nat.pow_succ]

theorem dig_last {n k a : Nat} (h : k < n ^ (a + 1)) : k / n ^ a = dig n k a := by
  unfold dig
  rw [Nat.mod_eq_of_lt]
  rw [Nat.div_lt_iff_lt_mul (by
    rcases Nat.eq_zero_or_pos n with rfl | hn
    · rw [Nat.pow_succ, Nat.mul_zero] at h; omega
    · exact Nat.pow_pos hn)]
  rw [Nat.pow_succ, Nat.mul_comm] at h
  exact h
end Go.Proofs.YtloecimlimoanaaGreatDoor

/- Lifted relations, as plain data: what is related; elements by their digits. -/
namespace Go.Proofs.YtloecimlimoanaaGreatDoor

/-- the count, or 0 -/
def Ty.cn (μ : Nat → Option Nat) (t : Ty) : Nat := (t.cnt μ).getD 0

/-- what is related, with relations of the variables -/
def relT (μ ν : Nat → Option Nat) (ρ : Nat → Nat → Nat → Bool) : Ty → Nat → Nat → Bool
  | .v i, x, y => ρ i x y
  | .o, x, y => x == y
  | .n false l r, x, y => relT μ ν ρ l (x / r.cn μ) (y / r.cn ν) && relT μ ν ρ r (x % r.cn μ) (y % r.cn ν)
  | .n true l r, x, y => (List.range (l.cn μ)).all fun a => (List.range (l.cn ν)).all fun b => !relT μ ν ρ l a b || relT μ ν ρ r (x / r.cn μ ^ a % r.cn μ) (y / r.cn ν ^ b % r.cn ν)

/-- elements whose digits are in sets -/
def inD (n : Nat) : List (Nat → Bool) → Nat → Bool
  | [], e => e == 0
  | D :: Ds, e => match Ds with
    | [] => D e
    | _ :: _ => D (e % n) && inD n Ds (e / n)

theorem inD_one (n : Nat) (D : Nat → Bool) (e : Nat) : inD n [D] e = D e := rfl
theorem inD_two (n : Nat) (D D1 : Nat → Bool) (Ds : List (Nat → Bool)) (e : Nat) : inD n (D :: D1 :: Ds) e = (D (e % n) && inD n (D1 :: Ds) (e / n)) := by
  conv => lhs; unfold inD

/-- one digit more: from the sets behind -/
theorem inD_step {n N : Nat} (hn : 1 ≤ n) {D : Nat → Bool} {Ds : List (Nat → Bool)} (hD : Ds ≠ [] → ∀ d, D d = true → d < n) (h0 : 1 ≤ N) (x : Nat) (hx : x < N) :
    ((List.range N).filter (inD n Ds)).any (fun e => decide (e * n ≤ x) && D (x - e * n)) = inD n (D :: Ds) x := by
  rw [List.any_filter]
  cases Ds with
  | nil =>
    rw [inD_one]
    apply Bool.eq_iff_iff.2
    rw [List.any_eq_true]
    constructor
    · rintro ⟨e, _, he⟩
      simp [inD] at he
      obtain ⟨rfl, h1⟩ := he
      simpa using h1
    · intro h
      exact ⟨0, List.mem_range.2 h0, by simp [inD, h]⟩
  | cons D1 Ds =>
    rw [inD_two]
    apply Bool.eq_iff_iff.2
    rw [List.any_eq_true]
    constructor
    · rintro ⟨e, _, he⟩
      simp only [Bool.and_eq_true, decide_eq_true_eq] at he ⊢
      obtain ⟨h1, h2, h3⟩ := he
      have hd := hD (by simp) _ h3
      have e1 : x = n * e + (x - e * n) := by rw [Nat.mul_comm n e]; omega
      have e2 : x % n = x - e * n := by
        conv => lhs; rw [e1]
        rw [Nat.mul_add_mod, Nat.mod_eq_of_lt hd]
      have e3 : x / n = e := by
        conv => lhs; rw [e1]
        rw [Nat.mul_add_div (by omega), Nat.div_eq_of_lt hd]
        rfl
      rw [e2, e3]
      exact ⟨h3, h1⟩
    · intro h
      simp only [Bool.and_eq_true] at h
      have hle : x / n * n ≤ x := Nat.div_mul_le_self _ _
      have hm : x - x / n * n = x % n := by have := Nat.div_add_mod' x n; omega
      refine ⟨x / n, List.mem_range.2 (Nat.lt_of_le_of_lt (Nat.div_le_self _ _) hx), ?_⟩
      simp only [Bool.and_eq_true, decide_eq_true_eq]
      exact ⟨h.2, hle, by rw [hm]; exact h.1⟩

/-- all digits, of a function -/
theorem inD_all {n : Nat} (hn : 1 ≤ n) : ∀ (Ds : List (Nat → Bool)) (y : Nat), Ds ≠ [] → y < n ^ Ds.length → (inD n Ds y = true ↔ ∀ (j : Nat) (D : Nat → Bool), Ds[j]? = some D → D (y / n ^ j % n) = true)
  | [], _, h, _ => (h rfl).elim
  | [D], y, _, hy => by
    rw [inD_one]
    have hy : y < n := by simpa using hy
    constructor
    · intro h j D' hj
      cases j with
      | zero => simp at hj; subst hj; simpa [Nat.mod_eq_of_lt hy] using h
      | succ j => simp at hj
    · intro h
      have := h 0 D rfl
      simpa [Nat.mod_eq_of_lt hy] using this
  | D :: D1 :: Ds, y, _, hy => by
    rw [inD_two, Bool.and_eq_true]
    have hy2 : y / n < n ^ (D1 :: Ds).length := by
      rw [Nat.div_lt_iff_lt_mul (by omega)]
      simpa [Nat.pow_succ] using hy
    rw [inD_all hn (D1 :: Ds) (y / n) (by simp) hy2]
    constructor
    · rintro ⟨h1, h2⟩ j D' hj
      cases j with
      | zero => simp at hj; subst hj; simpa using h1
      | succ j =>
        have := h2 j D' (by simpa using hj)
        rwa [Nat.div_div_eq_div_mul, ← Nat.pow_succ'] at this
    · intro h
      refine ⟨by simpa using h 0 D rfl, fun j D' hj => ?_⟩
      have := h (j + 1) D' (by simpa using hj)
      rwa [Nat.div_div_eq_div_mul, ← Nat.pow_succ']

/-- elements of the sets behind are small -/
theorem inD_lt {n m : Nat} (hn : 1 ≤ n) : ∀ (Ds : List (Nat → Bool)) (e : Nat), (∀ D ∈ Ds, ∀ d, D d = true → d < n) → inD n Ds e = true → e < n ^ Ds.length
  | [], e, _, h => by simp [inD] at h; simp [h]
  | [D], e, hD, h => by rw [inD_one] at h; simpa using hD D (by simp) e h
  | D :: D1 :: Ds, e, hD, h => by
    rw [inD_two, Bool.and_eq_true] at h
    have := inD_lt (m := m) hn (D1 :: Ds) (e / n) (fun D' h' => hD D' (List.mem_cons_of_mem _ h')) h.2
    rw [Nat.div_lt_iff_lt_mul (by omega)] at this
    simpa [Nat.pow_succ] using this

/-- room for the elements of a function -/
theorem room_fun {n k : Nat} (hn : 1 ≤ n) {Ds : List (Nat → Bool)} (hk : Ds.length = k) (hD : ∀ D ∈ Ds, ∀ d, D d = true → d < n) {j e : Nat} (hj : j < k) (h : inD n (Ds.drop (j + 1)) e = true) : e * n + n ≤ n ^ k := by
  have h1 := inD_lt (m := 0) hn (Ds.drop (j + 1)) e (fun D h => hD D (List.mem_of_mem_drop h)) h
  rw [List.length_drop, hk] at h1
  have h2 : e * n + n ≤ n ^ (k - (j + 1)) * n := by rw [← Nat.succ_mul]; exact Nat.mul_le_mul_right n h1
  rw [← Nat.pow_succ] at h2
  exact Nat.le_trans h2 (Nat.pow_le_pow_right hn (by omega))

/-- room for pairs -/
theorem room_pair {n a : Nat} (hn : 1 ≤ n) {D0 D1 : Nat → Bool} (hD : ∀ d, D1 d = true → d < a) {j e : Nat} (hj : j < 2) (h : inD n ([D0, D1].drop (j + 1)) e = true) : e * n + (if j = 0 then n else a) ≤ a * n := by
  match j, hj with
  | 0, _ =>
    have h : D1 e = true := h
    have := hD e h
    rw [if_pos rfl, ← Nat.succ_mul]
    exact Nat.mul_le_mul_right n this
  | 1, _ =>
    have h : (e == 0) = true := h
    have : e = 0 := by simpa using h
    subst this
    simp
    exact Nat.le_mul_of_pos_right a hn

/-- what the digits of related functions are in -/
def digF (μ ν : Nat → Option Nat) (ρ : Nat → Nat → Nat → Bool) (l r : Ty) (x j : Nat) (m : Nat) (d : Nat) : Bool := (List.range m).all fun i => !relT μ ν ρ l i j || relT μ ν ρ r (x / r.cn μ ^ i % r.cn μ) d

theorem digF_zero (μ ν : Nat → Option Nat) (ρ : Nat → Nat → Nat → Bool) (l r : Ty) (x j d : Nat) : digF μ ν ρ l r x j 0 d = true := rfl
theorem digF_more (μ ν : Nat → Option Nat) (ρ : Nat → Nat → Nat → Bool) (l r : Ty) (x j m d : Nat) : digF μ ν ρ l r x j (m + 1) d = (digF μ ν ρ l r x j m d && (!relT μ ν ρ l m j || relT μ ν ρ r (x / r.cn μ ^ m % r.cn μ) d)) := by
  unfold digF
  rw [List.range_succ, List.all_append]
  simp

/-- related functions -/
theorem rel_fun {μ ν : Nat → Option Nat} {ρ : Nat → Nat → Nat → Bool} {l r : Ty} {x y n b : Nat} (hn : 1 ≤ n) (hr : r.cn ν = n) (hb : l.cn ν = b) (hb1 : 1 ≤ b) (hy : y < n ^ b) :
    inD n ((List.range b).map fun j d => decide (d < n) && digF μ ν ρ l r x j (l.cn μ) d) y = relT μ ν ρ (.n true l r) x y := by
  apply Bool.eq_iff_iff.2
  rw [inD_all hn _ y (by intro h; rw [List.map_eq_nil_iff, List.range_eq_nil] at h; omega) (by simpa using hy)]
  unfold relT digF
  rw [List.all_eq_true]
  simp only [List.all_eq_true, List.mem_range, hb, hr]
  constructor
  · intro h a ha j hj
    have := h j _ (by rw [List.getElem?_map, List.getElem?_range hj]; rfl)
    simp only [Bool.and_eq_true, List.all_eq_true, List.mem_range] at this
    exact this.2 a ha
  · intro h j D hD
    rw [List.getElem?_map] at hD
    by_cases hj : j < b
    · rw [List.getElem?_range hj] at hD
      simp only [Option.map_some, Option.some.injEq] at hD
      subst hD
      simp only [Bool.and_eq_true, List.all_eq_true, List.mem_range, decide_eq_true_eq]
      exact ⟨Nat.mod_lt _ hn, fun a ha => h a ha j hj⟩
    · rw [List.getElem?_eq_none (by simpa using hj)] at hD
      cases hD

theorem rel_pair {μ ν : Nat → Option Nat} {ρ : Nat → Nat → Nat → Bool} {l r : Ty} {x y n : Nat} (hr : r.cn ν = n) {D0 D1 : Nat → Bool} (h0 : D0 (y % n) = relT μ ν ρ r (x % r.cn μ) (y % n)) (h1 : D1 (y / n) = relT μ ν ρ l (x / r.cn μ) (y / n)) :
    inD n [D0, D1] y = relT μ ν ρ (.n false l r) x y := by
  rw [inD_two, inD_one, h0, h1]
  conv => rhs; unfold relT
  rw [hr, Bool.and_comm]
end Go.Proofs.YtloecimlimoanaaGreatDoor
