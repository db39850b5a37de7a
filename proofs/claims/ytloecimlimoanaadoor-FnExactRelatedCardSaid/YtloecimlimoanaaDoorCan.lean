/- Types put for variables, canonical types, matching, as plain data. -/
import Derived.Test.YtloecimlimoanaaDoorTy
namespace Go.Proofs.YtloecimlimoanaaDoor

/-- the variables of a type behind others -/
def addV : List Nat → Ty → List Nat
  | vs, .v n => if n ∈ vs then vs else vs ++ [n]
  | vs, .o => vs
  | vs, .n _ l r => addV (addV vs l) r

/-- types put for variables -/
def Ty.put (σ : Nat → Option Ty) : Ty → Ty
  | .v k => (σ k).getD (.v k)
  | .o => .o
  | .n f l r => .n f (l.put σ) (r.put σ)

/-- the first type that stands with a number -/
def asg : List (Nat × Ty) → Nat → Option Ty
  | [], _ => none
  | p :: r, n => if p.1 = n then some p.2 else asg r n

theorem asg_none {ms : List (Nat × Ty)} {n : Nat} : asg ms n = none ↔ ∀ p ∈ ms, p.1 ≠ n := by
  induction ms with
  | nil => simp [asg]
  | cons p r ih =>
    by_cases h : p.1 = n
    · simp [asg, h]
    · simp [asg, h, ih]

theorem asg_mem {ms : List (Nat × Ty)} {n : Nat} {t : Ty} (h : asg ms n = some t) : (n, t) ∈ ms := by
  induction ms with
  | nil => cases h
  | cons p r ih =>
    by_cases hp : p.1 = n
    · simp only [asg, hp, if_true, Option.some.injEq] at h
      subst h; subst hp
      simp
    · simp only [asg, hp, if_false] at h
      exact List.mem_cons_of_mem _ (ih h)

theorem asg_snoc (ms : List (Nat × Ty)) (k : Nat) (t : Ty) (n : Nat) : asg (ms ++ [(k, t)]) n = (match asg ms n with | some u => some u | none => if k = n then some t else none) := by
  induction ms with
  | nil => simp [asg]
  | cons p r ih =>
    by_cases h : p.1 = n
    · simp [asg, h]
    · simp [asg, h, ih]

theorem asg_skip {ms : List (Nat × Ty)} {n j : Nat} (h : ∀ p ∈ ms.take j, p.1 ≠ n) : asg ms n = asg (ms.drop j) n := by
  induction ms generalizing j with
  | nil => simp
  | cons p r ih =>
    cases j with
    | zero => rfl
    | succ j =>
      simp only [List.take_succ_cons, List.mem_cons, forall_eq_or_imp] at h
      simp only [asg, h.1, if_false, List.drop_succ_cons]
      exact ih h.2

theorem asg_at {ms : List (Nat × Ty)} {n j : Nat} {t : Ty} (h : ∀ p ∈ ms.take j, p.1 ≠ n) (hj : ms[j]? = some (n, t)) : asg ms n = some t := by
  rw [asg_skip h]
  obtain ⟨hl, e⟩ := List.getElem?_eq_some_iff.1 hj
  rw [List.drop_eq_getElem_cons hl, e]
  simp [asg]

/-- variables in order -/
def cms (vs : List Nat) : List (Nat × Ty) := vs.zipIdx.map fun p => (p.1, Ty.v p.2)

theorem cms_len (vs : List Nat) : (cms vs).length = vs.length := by simp [cms]
theorem cms_get (vs : List Nat) (j : Nat) : (cms vs)[j]? = vs[j]?.map fun n => (n, Ty.v j) := by
  simp [cms, List.getElem?_zipIdx]
  cases vs[j]? <;> simp
theorem cms_take (vs : List Nat) (j n : Nat) (h : vs[j]? = some n) : cms (vs.take (j + 1)) = cms (vs.take j) ++ [(n, .v j)] := by
  have hl := (List.getElem?_eq_some_iff.1 h).1
  rw [List.take_add_one, h]
  simp [cms, List.zipIdx_append]
  omega

def Ty.canon (t : Ty) : Ty := t.put (asg (cms (addV [] t)))

theorem addV_pre (t : Ty) : ∀ vs : List Nat, ∃ x, addV vs t = vs ++ x := by
  induction t with
  | v n => intro vs; simp only [addV]; split; exact ⟨[], by simp⟩; exact ⟨_, rfl⟩
  | o => intro vs; exact ⟨[], by simp [addV]⟩
  | n f l r hl hr =>
    intro vs
    obtain ⟨x, hx⟩ := hl vs
    obtain ⟨y, hy⟩ := hr (addV vs l)
    exact ⟨x ++ y, by rw [addV, hy, hx]; simp⟩

theorem addV_nodup (t : Ty) : ∀ vs : List Nat, vs.Nodup → (addV vs t).Nodup := by
  induction t with
  | v n =>
    intro vs h
    simp only [addV]
    split
    · exact h
    · rename_i hn
      rw [List.nodup_append]
      refine ⟨h, by simp, fun a ha b hb => ?_⟩
      simp at hb; subst hb; rintro rfl; exact hn ha
  | o => intro vs h; exact h
  | n f l r hl hr => intro vs h; exact hr _ (hl vs h)

/-- the variables of a type -/
def Ty.has : Ty → Nat → Prop
  | .v k, x => k = x
  | .o, _ => False
  | .n _ l r, x => l.has x ∨ r.has x

theorem addV_mem (t : Ty) : ∀ (vs : List Nat) (n : Nat), n ∈ addV vs t ↔ n ∈ vs ∨ t.has n := by
  induction t with
  | v k =>
    intro vs n
    simp only [addV, Ty.has]
    split
    · rename_i h
      exact ⟨.inl, fun h' => by rcases h' with h' | rfl; exact h'; exact h⟩
    · simp [eq_comm]
  | o => intro vs n; simp [addV, Ty.has]
  | n f l r hl hr => intro vs n; simp [addV, Ty.has, hr, hl, or_assoc]

theorem Ty.put_congr (t : Ty) {σ τ : Nat → Option Ty} (h : ∀ n, t.has n → σ n = τ n) : t.put σ = t.put τ := by
  induction t with
  | v k => simp [put, h k rfl]
  | o => rfl
  | n f l r hl hr => simp [put, hl fun n hn => h n (.inl hn), hr fun n hn => h n (.inr hn)]

theorem Ty.lets_has (t : Ty) : t.lets ↔ ∀ n, t.has n → n < 25 := by
  induction t with
  | v k => simp [lets, has]
  | o => simp [lets, has]
  | n f l r hl hr =>
    simp only [lets, has, hl, hr]
    exact ⟨fun h n hn => hn.elim (h.1 n) (h.2 n), fun h => ⟨fun n hn => h n (.inl hn), fun n hn => h n (.inr hn)⟩⟩

theorem Ty.put_lets (t : Ty) {σ : Nat → Option Ty} (h : ∀ n, t.has n → ((σ n).getD (.v n)).lets) : (t.put σ).lets := by
  induction t with
  | v k => exact h k rfl
  | o => trivial
  | n f l r hl hr => exact ⟨hl fun n hn => h n (.inl hn), hr fun n hn => h n (.inr hn)⟩

theorem nodup_bound : ∀ (N : Nat) (l : List Nat), l.Nodup → (∀ x ∈ l, x < N) → l.length ≤ N
  | 0, l, _, h => by
    cases l with
    | nil => simp
    | cons x l => have := h x (by simp); omega
  | N + 1, l, hn, h => by
    have h1 := nodup_bound N (l.erase N) (hn.erase N) (fun x hx => by
      have h2 := h x (List.mem_of_mem_erase hx)
      have : x ≠ N := fun e => by subst e; exact (List.Nodup.not_mem_erase hn) hx
      omega)
    have h2 := List.length_erase (a := N) (l := l)
    split at h2 <;> omega

theorem vars_bound {t : Ty} (h : t.lets) : (addV [] t).length ≤ 25 :=
  nodup_bound 25 _ (addV_nodup t [] List.nodup_nil) fun x hx => by
    have := (addV_mem t [] x).1 hx
    simp at this
    exact (Ty.lets_has t).1 h x this

theorem asg_cms {vs : List Nat} (hn : vs.Nodup) {n j : Nat} (h : vs[j]? = some n) : asg (cms vs) n = some (.v j) := by
  refine asg_at (j := j) ?_ (by rw [cms_get, h]; rfl)
  intro p hp e
  obtain ⟨i, hi⟩ := List.getElem?_of_mem hp
  rw [List.getElem?_take] at hi
  split at hi
  · rename_i hij
    rw [cms_get] at hi
    rcases hv : vs[i]? with _ | x
    · rw [hv] at hi; cases hi
    · rw [hv] at hi
      simp at hi
      rw [← hi] at e
      simp at e
      rw [e] at hv
      have hl := (List.getElem?_eq_some_iff.1 hv).1
      have := (List.getElem?_inj hl hn).1 (hv.trans h.symm)
      omega
  · cases hi

theorem Ty.canon_lets {t : Ty} (h : t.lets) : t.canon.lets := by
  refine t.put_lets fun n hn => ?_
  have hm : n ∈ addV [] t := (addV_mem t [] n).2 (.inr hn)
  obtain ⟨j, hj⟩ := List.getElem?_of_mem hm
  rw [asg_cms (addV_nodup t [] List.nodup_nil) hj]
  have := (List.getElem?_eq_some_iff.1 hj).1
  have := vars_bound h
  show j < 25
  omega

theorem Ty.canon_size (t : Ty) : t.canon.size = t.size := by
  have : ∀ (u : Ty) (σ : Nat → Option Ty), (∀ n, u.has n → ∃ j, σ n = some (.v j)) → (u.put σ).size = u.size := by
    intro u σ h
    induction u with
    | v k => obtain ⟨j, e⟩ := h k rfl; simp [put, e, size]
    | o => rfl
    | n f l r hl hr => simp [put, size, hl fun n hn => h n (.inl hn), hr fun n hn => h n (.inr hn)]
  refine this t _ fun n hn => ?_
  have hm : n ∈ addV [] t := (addV_mem t [] n).2 (.inr hn)
  obtain ⟨j, hj⟩ := List.getElem?_of_mem hm
  exact ⟨j, asg_cms (addV_nodup t [] List.nodup_nil) hj⟩

theorem canon_text {t u : Ty} (ht : t.lets) (hu : u.lets) : t.canon.text = u.canon.text ↔ t.canon = u.canon :=
  ⟨fun h => Ty.text_inj (Ty.canon_lets ht) (Ty.canon_lets hu) h, fun h => by rw [h]⟩

/-! Matching. -/
def mt : Ty → Ty → List (Nat × Ty) → Option (List (Nat × Ty))
  | .v n, t, ms => match asg ms n with | some u => if u = t then some ms else none | none => some (ms ++ [(n, t)])
  | .o, .o, ms => some ms
  | .n f l r, .n f' l' r', ms => if f = f' then (match mt l l' ms with | some ms' => mt r r' ms' | none => none) else none
  | _, _, _ => none
end Go.Proofs.YtloecimlimoanaaDoor
