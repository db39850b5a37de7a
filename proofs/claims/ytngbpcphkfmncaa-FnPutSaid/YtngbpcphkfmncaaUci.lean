/- Instances and canonical types, as plain data. -/
import Derived.Test.YtngbpcphkfmncaaUni
namespace Go.Proofs.Ytngbpcphkfmncaa

theorem asgU_snoc {ms : List (Nat × Ty)} {k n : Nat} {u v : Ty} (h : asg (ms ++ [(k, u)]) n = some v) : asg ms n = some v ∨ (n = k ∧ v = u) := by
  induction ms with
  | nil =>
    simp only [List.nil_append, asg] at h
    split at h
    · rename_i e
      exact .inr ⟨e.symm, (Option.some.inj h).symm⟩
    · cases h
  | cons p r ih =>
    simp only [List.cons_append, asg] at h ⊢
    split at h
    · rename_i e
      rw [if_pos e]
      exact .inl h
    · rename_i e
      rw [if_neg e]
      exact ih h

theorem asgU_more {ms x : List (Nat × Ty)} {n : Nat} {v : Ty} (h : asg ms n = some v) : asg (ms ++ x) n = some v := by
  induction ms with
  | nil => cases h
  | cons p r ih =>
    simp only [List.cons_append, asg] at h ⊢
    split at h
    · rename_i e
      rw [if_pos e]
      exact h
    · rename_i e
      rw [if_neg e]
      exact ih h

theorem asgU_new {ms : List (Nat × Ty)} {k : Nat} {u : Ty} (h : asg ms k = none) : asg (ms ++ [(k, u)]) k = some u := by
  induction ms with
  | nil => simp [asg]
  | cons p r ih =>
    simp only [List.cons_append, asg] at h ⊢
    split at h
    · cases h
    · rename_i e
      rw [if_neg e]
      exact ih h

theorem mtU_yes (t : Ty) : ∀ (u : Ty) (ms : List (Nat × Ty)) (ρ : Nat → Ty), t.app ρ = u → (∀ n v, asg ms n = some v → v = ρ n) → ∃ ms', mt t u ms = some ms' ∧ ∀ n v, asg ms' n = some v → v = ρ n := by
  induction t with
  | v k =>
    intro u ms ρ h hm
    simp only [Ty.app] at h
    cases ha : asg ms k with
    | some x =>
      have e : x = u := by rw [hm k x ha, h]
      exact ⟨ms, by simp [mt, ha, e], hm⟩
    | none =>
      refine ⟨ms ++ [(k, u)], by simp [mt, ha], fun n v hv => ?_⟩
      rcases asgU_snoc hv with h1 | ⟨rfl, rfl⟩
      · exact hm n v h1
      · exact h.symm
  | o =>
    intro u ms ρ h hm
    subst h
    exact ⟨ms, rfl, hm⟩
  | n f l r hl hr =>
    intro u ms ρ h hm
    subst h
    obtain ⟨m1, e1, h1⟩ := hl _ ms ρ rfl hm
    obtain ⟨m2, e2, h2⟩ := hr _ m1 ρ rfl h1
    exact ⟨m2, by simp [Ty.app, mt, e1, e2], h2⟩

theorem mtU_sound (t : Ty) : ∀ (u : Ty) (ms ms' : List (Nat × Ty)), mt t u ms = some ms' → (∀ n v, asg ms n = some v → asg ms' n = some v) ∧ ∀ ρ : Nat → Ty, (∀ n v, asg ms' n = some v → ρ n = v) → t.app ρ = u := by
  induction t with
  | v k =>
    intro u ms ms' h
    simp only [mt] at h
    cases ha : asg ms k with
    | some x =>
      rw [ha] at h
      simp only at h
      split at h
      · rename_i e
        injection h with h
        subst h
        exact ⟨fun _ _ h => h, fun ρ hρ => by rw [← e]; exact hρ k x ha⟩
      · cases h
    | none =>
      rw [ha] at h
      simp only at h
      injection h with h
      subst h
      exact ⟨fun _ _ h => asgU_more h, fun ρ hρ => hρ k u (asgU_new ha)⟩
  | o =>
    intro u ms ms' h
    cases u with
    | o =>
      simp only [mt] at h
      injection h with h
      subst h
      exact ⟨fun _ _ h => h, fun _ _ => rfl⟩
    | v j => simp [mt] at h
    | n f l r => simp [mt] at h
  | n f l r hl hr =>
    intro u ms ms' h
    cases u with
    | o => simp [mt] at h
    | v j => simp [mt] at h
    | n f' l' r' =>
      simp only [mt] at h
      split at h
      · rename_i ef
        subst ef
        cases e1 : mt l l' ms with
        | none => rw [e1] at h; cases h
        | some m1 =>
          rw [e1] at h
          simp only at h
          obtain ⟨a1, b1⟩ := hl l' ms m1 e1
          obtain ⟨a2, b2⟩ := hr r' m1 ms' h
          exact ⟨fun n v hn => a2 n v (a1 n v hn), fun ρ hρ => by
            simp only [Ty.app]
            rw [b1 ρ (fun n v hn => hρ n v (a2 n v hn)), b2 ρ hρ]⟩
      · cases h

theorem inst_iff {t u : Ty} : (mt t u []).isSome = true ↔ ∃ ρ : Nat → Ty, t.app ρ = u := by
  constructor
  · intro h
    obtain ⟨ms, hm⟩ := Option.isSome_iff_exists.1 h
    exact ⟨fun n => (asg ms n).getD (.v n), (mtU_sound t u [] ms hm).2 _ fun n v hn => by simp [hn]⟩
  · rintro ⟨ρ, h⟩
    obtain ⟨ms, hm, _⟩ := mtU_yes t u [] ρ h (fun n v hv => by cases hv)
    rw [hm]
    rfl

/-- a canonical type is the type with its letters turned -/
theorem canon_turn (t : Ty) : ∃ f : Nat → Nat, t.canon = t.app (fun n => .v (f n)) ∧ (∀ x y, t.has x → t.has y → f x = f y → x = y) := by
  have hd := addV_nodup t [] List.nodup_nil
  have hx : ∀ n, t.has n → ∃ j, (addV [] t)[j]? = some n ∧ asg (cms (addV [] t)) n = some (.v j) := by
    intro n hn
    obtain ⟨j, hj⟩ := List.getElem?_of_mem ((addV_mem t [] n).2 (.inr hn))
    exact ⟨j, hj, asg_cms hd hj⟩
  refine ⟨fun n => match asg (cms (addV [] t)) n with | some (.v m) => m | _ => n, ?_, ?_⟩
  · simp only [Ty.canon]
    rw [Ty.put_app]
    refine Ty.app_congr t fun n hn => ?_
    obtain ⟨j, _, e⟩ := hx n hn
    simp [e]
  · intro x y h1 h2 e
    obtain ⟨j, g1, e1⟩ := hx x h1
    obtain ⟨k, g2, e2⟩ := hx y h2
    simp only [e1, e2] at e
    subst e
    rw [g1] at g2
    exact Option.some.inj g2

theorem canon_inv (t : Ty) : ∃ ρ ρ' : Nat → Ty, t.app ρ = t.canon ∧ t.canon.app ρ' = t := by
  have hd := addV_nodup t [] List.nodup_nil
  refine ⟨fun n => (asg (cms (addV [] t)) n).getD (.v n), fun j => .v ((addV [] t).getD j 0), (Ty.put_app _ _).symm, ?_⟩
  simp only [Ty.canon]
  rw [Ty.put_app, Ty.app_app]
  refine (Ty.app_congr t fun n hn => ?_).trans (Ty.app_v t)
  obtain ⟨j, hj⟩ := List.getElem?_of_mem ((addV_mem t [] n).2 (.inr hn))
  rw [asg_cms hd hj]
  simp [Ty.app, List.getD_eq_getElem?_getD, hj]

theorem canon_idem (t : Ty) : t.canon.canon = t.canon := by
  obtain ⟨ρ, ρ', h, h'⟩ := canon_inv t
  exact canon_both h h'

theorem canon_vars (t : Ty) : (addV [] t.canon).length = (addV [] t).length := by
  obtain ⟨f, e, hf⟩ := canon_turn t
  have h := addV_ren t (f := f) [] (fun x y hx hy => hf x y (hx.resolve_left (by simp)) (hy.resolve_left (by simp)))
  rw [List.map_nil, ← e] at h
  rw [h, List.length_map]

theorem alike_both {t u : Ty} : t.canon = u.canon ↔ (∃ ρ : Nat → Ty, t.app ρ = u) ∧ ∃ ρ : Nat → Ty, u.app ρ = t := by
  constructor
  · intro h
    obtain ⟨a, a', h1, h2⟩ := canon_inv t
    obtain ⟨b, b', h3, h4⟩ := canon_inv u
    refine ⟨⟨fun n => (a n).app b', ?_⟩, ⟨fun n => (b n).app a', ?_⟩⟩
    · rw [← Ty.app_app, h1, h, h4]
    · rw [← Ty.app_app, h3, ← h, h2]
  · rintro ⟨⟨ρ, h⟩, ⟨ρ', h'⟩⟩
    exact (canon_both h h').symm
end Go.Proofs.Ytngbpcphkfmncaa
