/- What two types become when they are joined, as plain data: the most general one is one but for its letters; bindings made one behind another. -/
import Derived.Test.YtngbpcphkfmncaaCan
namespace Go.Proofs.Ytngbpcphkfmncaa

/-- types put for all variables -/
def Ty.app (θ : Nat → Ty) : Ty → Ty
  | .v k => θ k
  | .o => .o
  | .n f l r => .n f (l.app θ) (r.app θ)

theorem Ty.put_app (t : Ty) (σ : Nat → Option Ty) : t.put σ = t.app (fun n => (σ n).getD (.v n)) := by
  induction t with
  | v k => rfl
  | o => rfl
  | n f l r hl hr => simp only [Ty.put, Ty.app, hl, hr]

theorem Ty.app_v (t : Ty) : t.app .v = t := by
  induction t with
  | v k => rfl
  | o => rfl
  | n f l r hl hr => simp only [Ty.app, hl, hr]

theorem Ty.app_app (t : Ty) (θ ρ : Nat → Ty) : (t.app θ).app ρ = t.app (fun n => (θ n).app ρ) := by
  induction t with
  | v k => rfl
  | o => rfl
  | n f l r hl hr => simp only [Ty.app, hl, hr]

theorem Ty.app_congr (t : Ty) {θ ρ : Nat → Ty} (h : ∀ n, t.has n → θ n = ρ n) : t.app θ = t.app ρ := by
  induction t with
  | v k => exact h k rfl
  | o => rfl
  | n f l r hl hr => simp only [Ty.app, hl fun n hn => h n (.inl hn), hr fun n hn => h n (.inr hn)]

theorem Ty.app_inj (t : Ty) {θ ρ : Nat → Ty} (h : t.app θ = t.app ρ) : ∀ n, t.has n → θ n = ρ n := by
  induction t with
  | v k => intro n hn; cases hn; exact h
  | o => intro n hn; exact hn.elim
  | n f l r hl hr =>
    simp only [Ty.app, Ty.n.injEq] at h
    intro n hn
    rcases hn with hn | hn
    · exact hl h.2.1 n hn
    · exact hr h.2.2 n hn

theorem Ty.app_has (t : Ty) {θ : Nat → Ty} {n : Nat} : (t.app θ).has n ↔ ∃ m, t.has m ∧ (θ m).has n := by
  induction t with
  | v k => exact ⟨fun h => ⟨k, rfl, h⟩, fun ⟨m, hm, h⟩ => by cases hm; exact h⟩
  | o => exact ⟨fun h => h.elim, fun ⟨_, hm, _⟩ => hm.elim⟩
  | n f l r hl hr =>
    constructor
    · intro h
      rcases h with h | h
      · obtain ⟨m, hm, h⟩ := hl.1 h
        exact ⟨m, .inl hm, h⟩
      · obtain ⟨m, hm, h⟩ := hr.1 h
        exact ⟨m, .inr hm, h⟩
    · rintro ⟨m, hm, h⟩
      rcases hm with hm | hm
      · exact .inl (hl.2 ⟨m, hm, h⟩)
      · exact .inr (hr.2 ⟨m, hm, h⟩)

theorem Ty.app_size (t : Ty) (θ : Nat → Ty) : t.size ≤ (t.app θ).size := by
  induction t with
  | v k => exact Ty.size_pos _
  | o => exact Nat.le_refl _
  | n f l r hl hr => simp only [Ty.app, Ty.size]; omega

theorem Ty.has_size (t : Ty) {θ : Nat → Ty} {n : Nat} (h : t.has n) : (θ n).size ≤ (t.app θ).size := by
  induction t with
  | v k => cases h; exact Nat.le_refl _
  | o => exact h.elim
  | n f l r hl hr =>
    simp only [Ty.app, Ty.size]
    rcases h with h | h
    · have := hl h; omega
    · have := hr h; omega

/-- a variable in a type that is not that variable alone makes it larger -/
theorem Ty.has_less (t : Ty) {θ : Nat → Ty} {n : Nat} (h : t.has n) (hn : t ≠ .v n) : (θ n).size < (t.app θ).size := by
  cases t with
  | v k => cases h; exact absurd rfl hn
  | o => exact h.elim
  | n f l r =>
    simp only [Ty.app, Ty.size]
    rcases h with h | h
    · have := Ty.has_size l (θ := θ) h; omega
    · have := Ty.has_size r (θ := θ) h; omega

theorem addV_ren (t : Ty) {f : Nat → Nat} : ∀ vs : List Nat, (∀ x y, (x ∈ vs ∨ t.has x) → (y ∈ vs ∨ t.has y) → f x = f y → x = y) → addV (vs.map f) (t.app fun n => .v (f n)) = (addV vs t).map f := by
  induction t with
  | v k =>
    intro vs h
    have hm : f k ∈ vs.map f ↔ k ∈ vs := by
      constructor
      · intro hk
        obtain ⟨x, hx, hxk⟩ := List.mem_map.1 hk
        exact h x k (.inl hx) (.inr rfl) hxk ▸ hx
      · exact fun hk => List.mem_map_of_mem hk
    simp only [Ty.app, addV, hm]
    split <;> simp
  | o => intro vs h; rfl
  | n g l r hl hr =>
    intro vs h
    simp only [Ty.app, addV]
    rw [hl vs (fun x y hx hy => h x y (hx.imp id .inl) (hy.imp id .inl)), hr]
    intro x y hx hy
    refine h x y ?_ ?_
    · rcases hx with hx | hx
      · exact ((addV_mem l vs x).1 hx).imp id .inl
      · exact .inr (.inr hx)
    · rcases hy with hy | hy
      · exact ((addV_mem l vs y).1 hy).imp id .inl
      · exact .inr (.inr hy)

theorem canon_ren (t : Ty) {f : Nat → Nat} (h : ∀ x y, t.has x → t.has y → f x = f y → x = y) : (t.app fun n => .v (f n)).canon = t.canon := by
  have ha := addV_ren t (f := f) [] (fun x y hx hy => h x y (hx.resolve_left (by simp)) (hy.resolve_left (by simp)))
  have hd := addV_nodup (t.app fun n => .v (f n)) [] List.nodup_nil
  rw [List.map_nil] at ha
  rw [ha] at hd
  simp only [Ty.canon]
  rw [ha, Ty.put_app, Ty.put_app, Ty.app_app]
  refine Ty.app_congr t fun n hn => ?_
  have hm : n ∈ addV [] t := (addV_mem t [] n).2 (.inr hn)
  obtain ⟨j, hj⟩ := List.getElem?_of_mem hm
  simp only [Ty.app]
  rw [asg_cms (addV_nodup t [] List.nodup_nil) hj, asg_cms hd (by rw [List.getElem?_map, hj]; rfl)]
  rfl

/-- types that are instances of each other have one canonical type -/
theorem canon_both {t u : Ty} {ρ ρ' : Nat → Ty} (h : t.app ρ = u) (h' : u.app ρ' = t) : u.canon = t.canon := by
  have hb : ∀ n, t.has n → (ρ n).app ρ' = .v n := by
    refine Ty.app_inj t (θ := fun n => (ρ n).app ρ') (ρ := .v) ?_
    rw [← Ty.app_app, h, h', Ty.app_v]
  let f : Nat → Nat := fun n => match ρ n with | .v m => m | _ => n
  have hf : ∀ n, t.has n → ρ n = .v (f n) := by
    intro n hn
    have := hb n hn
    show ρ n = .v (match ρ n with | .v m => m | _ => n)
    cases hr : ρ n with
    | v m => rfl
    | o => rw [hr] at this; exact absurd this (by simp [Ty.app])
    | n g l r => rw [hr] at this; exact absurd this (by simp [Ty.app])
  have hu : u = t.app fun n => .v (f n) := by rw [← h]; exact Ty.app_congr t hf
  rw [hu]
  refine canon_ren t fun x y hx hy hxy => ?_
  have h1 := hb x hx
  have h2 := hb y hy
  rw [hf x hx] at h1
  rw [hf y hy, ← hxy] at h2
  rw [h1] at h2
  exact Ty.v.inj h2

/-- types put for variables, of which all that make two types equal are instances -/
def Mgu (a b : Ty) (σ : Nat → Ty) : Prop := a.app σ = b.app σ ∧ ∀ θ : Nat → Ty, a.app θ = b.app θ → ∃ ρ : Nat → Ty, ∀ n, (σ n).app ρ = θ n

theorem mgu_one {a b : Ty} {σ τ : Nat → Ty} (h : Mgu a b σ) (k : Mgu a b τ) : (a.app σ).canon = (a.app τ).canon := by
  obtain ⟨ρ, hρ⟩ := h.2 τ k.1
  obtain ⟨ρ', hρ'⟩ := k.2 σ h.1
  refine canon_both (ρ := ρ') (ρ' := ρ) ?_ ?_
  · rw [Ty.app_app]; exact Ty.app_congr a fun n _ => hρ' n
  · rw [Ty.app_app]; exact Ty.app_congr a fun n _ => hρ n

theorem mgu_least {a b : Ty} {σ θ : Nat → Ty} (h : Mgu a b σ) (k : a.app θ = b.app θ) : (a.app σ).size ≤ (a.app θ).size := by
  obtain ⟨ρ, hρ⟩ := h.2 θ k
  have : a.app θ = (a.app σ).app ρ := by rw [Ty.app_app]; exact Ty.app_congr a fun n _ => (hρ n).symm
  rw [this]
  exact Ty.app_size _ _

/-- what two types become: nothing where there is no way, or what is too large -/
def JoinIs (a b : Ty) (r : Option Ty) : Prop :=
  match r with
  | some t => ∃ σ, Mgu a b σ ∧ (a.app σ).size ≤ 40 ∧ t = (a.app σ).canon
  | none => ∀ σ, a.app σ = b.app σ → 40 < (a.app σ).size

theorem join_one {a b : Ty} {r s : Option Ty} (h : JoinIs a b r) (k : JoinIs a b s) : r = s := by
  cases r with
  | none =>
    cases s with
    | none => rfl
    | some t => obtain ⟨σ, hσ, hs, _⟩ := k; have := h σ hσ.1; omega
  | some t =>
    obtain ⟨σ, hσ, hs, ht⟩ := h
    cases s with
    | none => have := k σ hσ.1; omega
    | some u =>
      obtain ⟨τ, hτ, _, hu⟩ := k
      rw [ht, hu, mgu_one hσ hτ]

/-! Bindings made one behind another, and what all of them do. -/

def Sol (θ : Nat → Ty) (ms : List (Nat × Ty)) : Prop := ∀ p ∈ ms, θ p.1 = p.2.app θ

/-- one type put for one variable -/
def one (x : Nat) (t : Ty) : Nat → Ty := fun z => if z = x then t else .v z

theorem one_out (t : Ty) {x : Nat} {s : Ty} (h : ¬ t.has x) : t.app (one x s) = t := by
  have : t.app (one x s) = t.app .v := by
    refine Ty.app_congr t fun n hn => ?_
    have : n ≠ x := fun hx => h (hx ▸ hn)
    simp [one, this]
  rw [this, Ty.app_v]

inductive Tri : List (Nat × Ty) → (Nat → Ty) → Prop
  | nil : Tri [] .v
  | snoc {ms : List (Nat × Ty)} {σ : Nat → Ty} {x : Nat} {t : Ty} : Tri ms σ → (∀ p ∈ ms, p.1 ≠ x) → ¬ (t.app σ).has x → (∀ p ∈ ms, t ≠ .v p.1) → Tri (ms ++ [(x, t)]) (fun y => (σ y).app (one x (t.app σ)))

theorem Tri.out {ms : List (Nat × Ty)} {σ : Nat → Ty} (h : Tri ms σ) : ∀ x, (∀ p ∈ ms, p.1 ≠ x) → σ x = .v x := by
  induction h with
  | nil => intro x _; rfl
  | @snoc ms σ y t hT hy ht hv ih =>
    intro x hx
    have h1 := ih x fun p hp => hx p (List.mem_append_left _ hp)
    have h2 : y ≠ x := hx (y, t) (by simp)
    have h3 : x ≠ y := fun h => h2 h.symm
    simp only [h1, Ty.app, one, h3, if_false]

/-- what is put has no variable that is bound -/
theorem Tri.free {ms : List (Nat × Ty)} {σ : Nat → Ty} (h : Tri ms σ) : ∀ x, ∀ p ∈ ms, ¬ (σ x).has p.1 := by
  induction h with
  | nil => intro x p hp; simp at hp
  | @snoc ms σ y t hT hy ht hv ih =>
    intro x p hp hh
    obtain ⟨m, hm, hh⟩ := (Ty.app_has _).1 hh
    have key : ∀ q ∈ ms, ¬ (t.app σ).has q.1 := fun q hq hx => by
      obtain ⟨k, _, hk⟩ := (Ty.app_has _).1 hx
      exact ih k q hq hk
    rcases List.mem_append.1 hp with hp | hp
    · by_cases e : m = y
      · simp only [one, e, if_true] at hh
        exact key p hp hh
      · simp only [one, e, if_false] at hh
        cases hh
        exact ih x p hp hm
    · simp only [List.mem_singleton] at hp
      subst hp
      by_cases e : m = y
      · simp only [one, e, if_true] at hh
        exact ht hh
      · simp only [one, e, if_false] at hh
        exact e hh

theorem Tri.idem {ms : List (Nat × Ty)} {σ : Nat → Ty} (h : Tri ms σ) (t : Ty) : (t.app σ).app σ = t.app σ := by
  rw [Ty.app_app]
  refine Ty.app_congr t fun n _ => ?_
  have : (σ n).app σ = (σ n).app .v := by
    refine Ty.app_congr _ fun m hm => h.out m fun p hp hpm => ?_
    exact h.free n p hp (hpm ▸ hm)
  rw [this, Ty.app_v]

theorem Tri.sol {ms : List (Nat × Ty)} {σ : Nat → Ty} (h : Tri ms σ) : Sol σ ms := by
  induction h with
  | nil => intro p hp; simp at hp
  | @snoc ms σ y t hT hy ht hv ih =>
    intro p hp
    rcases List.mem_append.1 hp with hp | hp
    · show (σ p.1).app _ = _
      rw [ih p hp, Ty.app_app]
    · simp only [List.mem_singleton] at hp
      subst hp
      show (σ y).app _ = t.app _
      rw [hT.out y hy]
      simp only [Ty.app, one, if_true]
      rw [← Ty.app_app, one_out _ ht]

/-- all that keep the bindings are instances of what the bindings do -/
theorem Tri.most {ms : List (Nat × Ty)} {σ : Nat → Ty} (h : Tri ms σ) {θ : Nat → Ty} (hθ : Sol θ ms) : ∀ n, (σ n).app θ = θ n := by
  induction h with
  | nil => intro n; rfl
  | @snoc ms σ y t hT hy ht hv ih =>
    intro n
    have h1 := ih fun p hp => hθ p (List.mem_append_left _ hp)
    have h2 : θ y = t.app θ := hθ (y, t) (by simp)
    show ((σ n).app _).app θ = _
    rw [Ty.app_app]
    have : (σ n).app (fun m => (one y (t.app σ) m).app θ) = (σ n).app θ := by
      refine Ty.app_congr _ fun m _ => ?_
      by_cases e : m = y
      · simp only [one, e, if_true]
        rw [Ty.app_app, h2]
        exact Ty.app_congr _ fun k _ => h1 k
      · simp only [one, e, if_false, Ty.app]
    rw [this, h1]

theorem Tri.all {ms : List (Nat × Ty)} {σ : Nat → Ty} (h : Tri ms σ) {θ : Nat → Ty} (hθ : Sol θ ms) (t : Ty) : (t.app σ).app θ = t.app θ := by
  rw [Ty.app_app]; exact Ty.app_congr t fun n _ => h.most hθ n

/-- a variable in a type other than it: no way to make them equal -/
theorem no_way {ms : List (Nat × Ty)} {σ : Nat → Ty} (h : Tri ms σ) {x : Nat} {t : Ty} (_ : ∀ p ∈ ms, p.1 ≠ x) (ho : (t.app σ).has x) (hn : t.app σ ≠ .v x) {θ : Nat → Ty} (hθ : Sol θ ms) : θ x ≠ t.app θ := by
  intro he
  have := Ty.has_less _ (θ := θ) ho hn
  rw [h.all hθ, ← he] at this
  omega

/-- a binding more -/
theorem Tri.bind {ms : List (Nat × Ty)} {σ : Nat → Ty} (h : Tri ms σ) {x : Nat} {t : Ty} (hx : ∀ p ∈ ms, p.1 ≠ x) (ho : ¬ (t.app σ).has x) (hv : ∀ p ∈ ms, t ≠ .v p.1) :
    ∃ τ, Tri (ms ++ [(x, t)]) τ ∧ τ x = t.app τ ∧ ∀ θ, Sol θ ms → θ x = t.app θ → Sol θ (ms ++ [(x, t)]) := by
  have hT := Tri.snoc h hx ho hv
  refine ⟨_, hT, hT.sol (x, t) (by simp), fun θ hθ he p hp => ?_⟩
  rcases List.mem_append.1 hp with hp | hp
  · exact hθ p hp
  · simp only [List.mem_singleton] at hp
    subst hp
    exact he

/-- what holds of a solver's end makes the type that two become -/
theorem Tri.join {ms : List (Nat × Ty)} {σ : Nat → Ty} (h : Tri ms σ) {a b : Ty} (he : a.app σ = b.app σ) (hm : ∀ θ : Nat → Ty, a.app θ = b.app θ → Sol θ ms) : Mgu a b σ :=
  ⟨he, fun θ hθ => ⟨θ, h.most (hm θ hθ)⟩⟩

end Go.Proofs.Ytngbpcphkfmncaa
