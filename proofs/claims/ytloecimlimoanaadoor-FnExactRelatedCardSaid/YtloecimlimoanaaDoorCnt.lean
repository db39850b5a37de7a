/- Counts of types in a model, as plain numbers; digits of elements. -/
import Derived.Test.YtloecimlimoanaaDoorTy
namespace Go.Proofs.YtloecimlimoanaaDoor

def cap (x : Nat) : Option Nat := if x ≤ 4096 then some x else none

/-- The count of a type, if it is known. -/
def Ty.cnt (μ : Nat → Option Nat) : Ty → Option Nat
  | .v i => μ i
  | .o => some 2
  | .n f l r => match l.cnt μ, r.cnt μ with
    | some a, some b => cap (if f then b ^ a else a * b)
    | _, _ => none

theorem cap_some {x y : Nat} (h : cap x = some y) : x = y ∧ y ≤ 4096 := by
  unfold cap at h
  split at h
  · injection h with h; omega
  · cases h

theorem cap_none {x : Nat} (h : cap x = none) : 4096 < x := by
  unfold cap at h
  split at h
  · cases h
  · omega

/-- sizes of variables are from 1 to 4 -/
def Sizes (μ : Nat → Option Nat) : Prop := ∀ n c, μ n = some c → 1 ≤ c ∧ c ≤ 4

theorem Ty.cnt_n {μ : Nat → Option Nat} {f : Bool} {l r : Ty} {c : Nat} (h : (Ty.n f l r).cnt μ = some c) : ∃ a b, l.cnt μ = some a ∧ r.cnt μ = some b ∧ c = (if f then b ^ a else a * b) ∧ c ≤ 4096 := by
  simp only [Ty.cnt] at h
  rcases hl : l.cnt μ with _ | a
  · simp [hl] at h
  · rcases hr : r.cnt μ with _ | b
    · simp [hl, hr] at h
    · simp only [hl, hr] at h
      obtain ⟨h1, h2⟩ := cap_some h
      exact ⟨a, b, rfl, rfl, h1.symm, h2⟩

theorem Ty.cnt_bounds {μ : Nat → Option Nat} (hμ : Sizes μ) (t : Ty) : ∀ c, t.cnt μ = some c → 1 ≤ c ∧ c ≤ 4096 := by
  induction t with
  | v n => intro c h; have := hμ n c h; omega
  | o => intro c h; simp only [Ty.cnt, Option.some.injEq] at h; omega
  | n f l r hl hr =>
    intro c h
    obtain ⟨a, b, h1, h2, rfl, h4⟩ := cnt_n h
    have ha := hl a h1
    have hb := hr b h2
    refine ⟨?_, h4⟩
    cases f
    · exact Nat.mul_pos ha.1 hb.1
    · exact Nat.pow_pos hb.1

/-! Powers, as the model finds them: never beyond 4097. -/
theorem min_pow (b i : Nat) (hb : 1 ≤ b) : min 4097 (min 4097 (b ^ i) * b) = min 4097 (b ^ (i + 1)) := by
  rw [Nat.pow_succ]
  by_cases h : b ^ i ≤ 4097
  · rw [Nat.min_eq_right h]
  · rw [Nat.min_eq_left (by omega : 4097 ≤ b ^ i)]
    have h1 : 4097 * 1 ≤ 4097 * b := Nat.mul_le_mul_left _ hb
    have h2 : 4097 * b ≤ b ^ i * b := Nat.mul_le_mul_right _ (by omega)
    omega

/-- as the program finds them: it stops beyond 4096 -/
theorem pow_big {b i a : Nat} (hb : 1 ≤ b) (hi : i ≤ a) (h : 4096 < b ^ i) : 4096 < b ^ a :=
  Nat.lt_of_lt_of_le h (Nat.pow_le_pow_right hb hi)

/-! Digits. -/
/-- what digits make -/
def undig (n : Nat) : List Nat → Nat
  | [] => 0
  | d :: ds => undig n ds * n + d

theorem undig_lt {n : Nat} : ∀ {ds : List Nat}, (∀ d ∈ ds, d < n) → undig n ds < n ^ ds.length
  | [], _ => by simp [undig]
  | d :: ds, h => by
    have h1 := undig_lt (n := n) (ds := ds) fun x hx => h x (by simp [hx])
    have h2 := h d (by simp)
    simp only [undig, List.length_cons, Nat.pow_succ]
    have h3 : (undig n ds + 1) * n ≤ n ^ ds.length * n := Nat.mul_le_mul_right _ h1
    have h4 : (undig n ds + 1) * n = undig n ds * n + n := by rw [Nat.add_mul]; omega
    omega

theorem undig_drop {n : Nat} {ds : List Nat} {i d : Nat} (h : ds[i]? = some d) : undig n (ds.drop i) = undig n (ds.drop (i + 1)) * n + d := by
  have hl := (List.getElem?_eq_some_iff.1 h).1
  rw [List.drop_eq_getElem_cons hl]
  rw [List.getElem?_eq_getElem hl] at h
  injection h with h
  rw [h]
  rfl

/-- digit i of k -/
def dig (n k i : Nat) : Nat := k / n ^ i % n

theorem div_step (n k i : Nat) : k / n ^ i / n = k / n ^ (i + 1) := by rw [Nat.div_div_eq_div_mul, Nat.pow_succ]

theorem dig_last {n k a : Nat} (h : k < n ^ (a + 1)) : k / n ^ a = dig n k a := by
  unfold dig
  rw [Nat.mod_eq_of_lt]
  rw [Nat.div_lt_iff_lt_mul (by
    rcases Nat.eq_zero_or_pos n with rfl | hn
    · rw [Nat.pow_succ, Nat.mul_zero] at h; omega
    · exact Nat.pow_pos hn)]
  rw [Nat.pow_succ, Nat.mul_comm] at h
  exact h
end Go.Proofs.YtloecimlimoanaaDoor
