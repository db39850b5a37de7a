import Derived.Test.YtngbpcphkfmncaaMtch
namespace Go.Proofs.Ytngbpcphkfmncaa
open Go.RowKit Go.ChangeMaps

set_option maxRecDepth 100000 in
set_option maxHeartbeats 1000000 in
theorem match_n (q m mb : Nat) (ps : List Nat) (D : List Ty) (f : Bool) (l r : Ty) (ihl : MtSaid q m mb ps D l) (ihr : MtSaid q m mb ps D r) : MtSaid q m mb ps D (.n f l r) := by
  intro w p p' u ms hP hB hne hh hu
  obtain ⟨pl, pr, k, hb, hl, hr⟩ := hh.kids hP
  have HB := Lib.hid hb
  have hno := hP.ne_map hB
  have c0 : w.cell? ⟨p, 0, none⟩ = some (S [Ty.sign f]) := (hb.cell 0).trans rfl
  by_cases hns : sgn u = [Ty.sign f]
  · obtain ⟨l', r', rfl⟩ := sgn_n hns
    obtain ⟨pl', pr', k', hb', hl', hr'⟩ := hu.kids hP
    have CELLS : Hid (∀ w', Fr (One mb) w w' → (w'.cell? ⟨p, 0, none⟩ = some (S [Ty.sign f]) ∧ w'.cell? ⟨p, 2, none⟩ = some (Ptr pl) ∧ w'.cell? ⟨p, 3, none⟩ = some (Ptr pr)) ∧
        w'.cell? ⟨p', 0, none⟩ = some (S [Ty.sign f]) ∧ w'.cell? ⟨p', 2, none⟩ = some (Ptr pl') ∧ w'.cell? ⟨p', 3, none⟩ = some (Ptr pr')) := by
      intro w' hf
      have b1 := hb.fr hf (fun e => hno.2 (by unfold One at e; exact e ▸ hh.memp))
      have b2 := hb'.fr hf (fun e => hno.2 (by unfold One at e; exact e ▸ hu.memp))
      exact ⟨⟨(b1.cell 0).trans rfl, (b1.cell 2).trans rfl, (b1.cell 3).trans rfl⟩, (b2.cell 0).trans rfl, (b2.cell 2).trans rfl, (b2.cell 3).trans rfl⟩
    have IL : Hid (∀ w', w' = w.drew → Calls Try.prog 44 #[Ptr pl, Ptr pl', .map (some mb)] w' fun e w2 => MtR q m mb ps D w (mt l l' ms) e w2) := fun w' h => by
      subst h
      exact (ihl w.drew pl pl' l' ms hP.drew (hB.grew ((Fr.refl _ _).drew) hne (Grew.refl 0 _ _)) hne hl hl').mono fun e w2 ⟨h1, h2, h3, h4⟩ => ⟨h1, ((Fr.refl _ w).drew).trans h2, h3, h4⟩
    obtain ⟨⟨_, b2, b3⟩, b4, b5, b6⟩ := CELLS.out w (Fr.refl _ _)
    rcases hm : mt l l' ms with _ | ms1
    · have FIN : Hid (∀ w', Fr (One mb) w w' → Pool w' q m ps D → MtR q m mb ps D w (mt (.n f l r) (.n f l' r') ms) (.returned (.bool false)) w') := by
        intro w' h1 h2
        refine ⟨by simp [mt, hm], h1, h2, fun ms' h => ?_⟩
        simp [mt, hm] at h
      rw [hm] at IL
      have IL2 : Hid (∀ w', w' = w.drew → Calls Try.prog 44 #[Ptr pl, Ptr pl', .map (some mb)] w' fun e w2 => e = .returned (.bool false) ∧ Fr (One mb) w w2 ∧ Pool w2 q m ps D) :=
        fun w' h => (IL.out w' h).mono fun e w2 h => ⟨h.1, h.2.1, h.2.2.1⟩
      clear hb hP hh hB hl hr hu hb' hl' hr' ihl ihr hno hns IL
      go_enter Try.func44, Try.ntmps44
      go_wp2_with fail
      refine (compound_yes _ _ _ _ _ _ _ _ HB.out).mono ?_
      rintro e w' ⟨rfl, rfl⟩
      go_wp2_with fail
      refine wp_region_held_drew (S := (fun w' => w'.cell? ⟨p, 0, none⟩ = some (S [Ty.sign f]) ∧ w'.cell? ⟨p, 2, none⟩ = some (Ptr pl) ∧ w'.cell? ⟨p, 3, none⟩ = some (Ptr pr) ∧ w'.cell? ⟨p', 0, none⟩ = some (S [Ty.sign f]) ∧ w'.cell? ⟨p', 2, none⟩ = some (Ptr pl') ∧ w'.cell? ⟨p', 3, none⟩ = some (Ptr pr'))) (by kernel_rfl) ?hS (fun hHeld => ?_)
      case hS => (first | exact ⟨c0, b2, b3, b4, b5, b6⟩ | (dsimp only; exact ⟨c0, b2, b3, b4, b5, b6⟩))
      refine wpAnyH_take (i := 0) (v := ?v0) (by simp only [List.getElem?_toArray, List.getElem?_cons_zero]; rfl) (by kernel_rfl) (by kernel_rfl) (by kernel_rfl) (by exact fun _ _ _ h => h) (Or.inl ⟨by rfl, ?hy0⟩) (by assumption) ?rest0
      case hy0 => (intro w hSw; (try dsimp only at hSw); go_simp; try with_reducible rfl)
      try simp only [Act.put, List.setIfInBounds_toArray, List.set_cons_zero, List.set_cons_succ]
      refine wpAnyH_take (i := 1) (v := ?v1) (by simp only [List.getElem?_toArray, List.getElem?_cons_succ, List.getElem?_cons_zero]; rfl) (by kernel_rfl) (by kernel_rfl) (by kernel_rfl) (by exact fun _ _ _ h => h) (Or.inl ⟨by rfl, ?hy1⟩) (by assumption) ?rest1
      case hy1 => (intro w hSw; (try dsimp only at hSw); go_simp; try with_reducible rfl)
      try simp only [Act.put, List.setIfInBounds_toArray, List.set_cons_zero, List.set_cons_succ]
      refine wpAnyH_take (i := 2) (v := ?v2) (by simp only [List.getElem?_toArray, List.getElem?_cons_succ, List.getElem?_cons_zero]; rfl) (by kernel_rfl) (by kernel_rfl) (by kernel_rfl) (by exact fun _ _ _ h => h) (Or.inl ⟨by rfl, ?hy2⟩) (by assumption) ?rest2
      case hy2 => (intro w hSw; (try dsimp only at hSw); go_simp; try with_reducible rfl)
      try simp only [Act.put, List.setIfInBounds_toArray, List.set_cons_zero, List.set_cons_succ]
      refine wpAnyH_take (i := 3) (v := ?v3) (by simp only [List.getElem?_toArray, List.getElem?_cons_succ, List.getElem?_cons_zero]; rfl) (by kernel_rfl) (by kernel_rfl) (by kernel_rfl) (by exact fun _ _ _ h => h) (Or.inl ⟨by rfl, ?hy3⟩) (by assumption) ?rest3
      case hy3 => (intro w hSw; (try dsimp only at hSw); go_simp; try with_reducible rfl)
      try simp only [Act.put, List.setIfInBounds_toArray, List.set_cons_zero, List.set_cons_succ]
      refine wpAnyH_take (i := 4) (v := ?v4) (by simp only [List.getElem?_toArray, List.getElem?_cons_succ, List.getElem?_cons_zero]; rfl) (by kernel_rfl) (by kernel_rfl) (by kernel_rfl) (by exact fun _ _ _ h => h) (Or.inl ⟨by rfl, ?hy4⟩) (by assumption) ?rest4
      case hy4 => (intro w hSw; (try dsimp only at hSw); go_simp; try with_reducible rfl)
      try simp only [Act.put, List.setIfInBounds_toArray, List.set_cons_zero, List.set_cons_succ]
      refine wpAnyH_take (i := 5) (v := ?v5) (by simp only [List.getElem?_toArray, List.getElem?_cons_succ, List.getElem?_cons_zero]; rfl) (by kernel_rfl) (by kernel_rfl) (by kernel_rfl) (by exact fun _ _ _ h => h) (Or.inl ⟨by rfl, ?hy5⟩) (by assumption) ?rest5
      case hy5 => (intro w hSw; (try dsimp only at hSw); go_simp; try with_reducible rfl)
      try simp only [Act.put, List.setIfInBounds_toArray, List.set_cons_zero, List.set_cons_succ]
      refine wpAnyH_take (i := 6) (v := ?v6) (by simp only [List.getElem?_toArray, List.getElem?_cons_succ, List.getElem?_cons_zero]; rfl) (by kernel_rfl) (by kernel_rfl) (by kernel_rfl) (by exact fun _ _ _ h => h) (Or.inl ⟨by rfl, ?hy6⟩) (by assumption) ?rest6
      case hy6 => (intro w hSw; (try dsimp only at hSw); go_simp; try with_reducible rfl)
      try simp only [Act.put, List.setIfInBounds_toArray, List.set_cons_zero, List.set_cons_succ]
      refine wpAnyH_take (i := 7) (v := ?v7) (by simp only [List.getElem?_toArray, List.getElem?_cons_succ, List.getElem?_cons_zero]; rfl) (by kernel_rfl) (by kernel_rfl) (by kernel_rfl) (by exact fun _ _ _ h => h) (Or.inl ⟨by rfl, ?hy7⟩) (by assumption) ?rest7
      case hy7 => (intro w hSw; (try dsimp only at hSw); go_simp; try with_reducible rfl)
      try simp only [Act.put, List.setIfInBounds_toArray, List.set_cons_zero, List.set_cons_succ]
      refine wpAnyH_take (i := 8) (v := ?v8) (by simp only [List.getElem?_toArray, List.getElem?_cons_succ, List.getElem?_cons_zero]; rfl) (by kernel_rfl) (by kernel_rfl) (by kernel_rfl) (by exact fun _ _ _ h => h) (Or.inl ⟨by rfl, ?hy8⟩) (by assumption) ?rest8
      case hy8 => (intro w hSw; (try dsimp only at hSw); go_simp; try with_reducible rfl)
      try simp only [Act.put, List.setIfInBounds_toArray, List.set_cons_zero, List.set_cons_succ]
      refine wpAnyH_take (i := 9) (v := ?v9) (by simp only [List.getElem?_toArray, List.getElem?_cons_succ, List.getElem?_cons_zero]; rfl) (by kernel_rfl) (by kernel_rfl) (by kernel_rfl) (by exact fun _ _ _ h => h) (Or.inl ⟨by rfl, ?hy9⟩) (by assumption) ?rest9
      case hy9 => (intro w hSw; (try dsimp only at hSw); go_simp; try with_reducible rfl)
      try simp only [Act.put, List.setIfInBounds_toArray, List.set_cons_zero, List.set_cons_succ]
      refine wpAnyH_take (i := 10) (v := ?v10) (by simp only [List.getElem?_toArray, List.getElem?_cons_succ, List.getElem?_cons_zero]; rfl) (by kernel_rfl) (by kernel_rfl) (by kernel_rfl) (by exact fun _ _ _ h => h) (Or.inl ⟨by rfl, ?hy10⟩) (by assumption) ?rest10
      case hy10 => (intro w hSw; (try dsimp only at hSw); go_simp; try with_reducible rfl)
      try simp only [Act.put, List.setIfInBounds_toArray, List.set_cons_zero, List.set_cons_succ]
      refine wpAnyH_take (i := 11) (v := ?v11) (by simp only [List.getElem?_toArray, List.getElem?_cons_succ, List.getElem?_cons_zero]; rfl) (by kernel_rfl) (by kernel_rfl) (by kernel_rfl) (by exact fun _ _ _ h => h) (Or.inl ⟨by rfl, ?hy11⟩) (by assumption) ?rest11
      case hy11 => (intro w hSw; (try dsimp only at hSw); go_simp; try with_reducible rfl)
      try simp only [Act.put, List.setIfInBounds_toArray, List.set_cons_zero, List.set_cons_succ]
      refine wpAnyH_take (i := 12) (v := ?v12) (by simp only [List.getElem?_toArray, List.getElem?_cons_succ, List.getElem?_cons_zero]; rfl) (by kernel_rfl) (by kernel_rfl) (by kernel_rfl) (by exact fun _ _ _ h => h) (Or.inl ⟨by rfl, ?hy12⟩) (by assumption) ?rest12
      case hy12 => (intro w hSw; (try dsimp only at hSw); go_simp; try with_reducible rfl)
      try simp only [Act.put, List.setIfInBounds_toArray, List.set_cons_zero, List.set_cons_succ]
      refine wpAnyH_take (i := 13) (v := ?v13) (by simp only [List.getElem?_toArray, List.getElem?_cons_succ, List.getElem?_cons_zero]; rfl) (by kernel_rfl) (by kernel_rfl) (by kernel_rfl) (by exact fun _ _ _ h => h) (Or.inl ⟨by rfl, ?hy13⟩) (by assumption) ?rest13
      case hy13 => (intro w hSw; (try dsimp only at hSw); go_simp; try with_reducible rfl)
      try simp only [Act.put, List.setIfInBounds_toArray, List.set_cons_zero, List.set_cons_succ]
      refine wpAnyH_take (i := 14) (v := ?v14) (by simp only [List.getElem?_toArray, List.getElem?_cons_succ, List.getElem?_cons_zero]; rfl) (by kernel_rfl) (by kernel_rfl) (by kernel_rfl) (by exact fun _ _ _ h => h) (Or.inl ⟨by rfl, ?hy14⟩) (by assumption) ?rest14
      case hy14 => (intro w hSw; (try dsimp only at hSw); go_simp; try with_reducible rfl)
      try simp only [Act.put, List.setIfInBounds_toArray, List.set_cons_zero, List.set_cons_succ]
      refine wpAnyH_take (i := 15) (v := ?v15) (by simp only [List.getElem?_toArray, List.getElem?_cons_succ, List.getElem?_cons_zero]; rfl) (by kernel_rfl) (by kernel_rfl) (by kernel_rfl) (by exact fun _ _ _ h => h) (Or.inl ⟨by rfl, ?hy15⟩) (by assumption) ?rest15
      case hy15 => (intro w hSw; (try dsimp only at hSw); go_simp; try with_reducible rfl)
      try simp only [Act.put, List.setIfInBounds_toArray, List.set_cons_zero, List.set_cons_succ]
      refine wpAnyH_take (i := 16) (v := ?v16) (by simp only [List.getElem?_toArray, List.getElem?_cons_succ, List.getElem?_cons_zero]; rfl) (by kernel_rfl) (by kernel_rfl) (by kernel_rfl) (by exact fun _ _ _ h => h) (Or.inl ⟨by rfl, ?hy16⟩) (by assumption) ?rest16
      case hy16 => (intro w hSw; (try dsimp only at hSw); go_simp; try with_reducible rfl)
      try simp only [Act.put, List.setIfInBounds_toArray, List.set_cons_zero, List.set_cons_succ]
      refine wpAnyH_take (i := 17) (v := ?v17) (by simp only [List.getElem?_toArray, List.getElem?_cons_succ, List.getElem?_cons_zero]; rfl) (by kernel_rfl) (by kernel_rfl) (by kernel_rfl) (by exact fun _ _ _ h => h) (Or.inl ⟨by rfl, ?hy17⟩) (by assumption) ?rest17
      case hy17 => (intro w hSw; (try dsimp only at hSw); go_simp; try with_reducible rfl)
      try simp only [Act.put, List.setIfInBounds_toArray, List.set_cons_zero, List.set_cons_succ]
      refine wpAnyH_take (i := 18) (v := ?v18) (by simp only [List.getElem?_toArray, List.getElem?_cons_succ, List.getElem?_cons_zero]; rfl) (by kernel_rfl) (by kernel_rfl) (by kernel_rfl) (by exact fun _ _ _ h => h) (Or.inl ⟨by rfl, ?hy18⟩) (by assumption) ?rest18
      case hy18 => (intro w hSw; (try dsimp only at hSw); go_simp; try with_reducible rfl)
      try simp only [Act.put, List.setIfInBounds_toArray, List.set_cons_zero, List.set_cons_succ]
      refine wpAnyH_ready (rs := [19]) (by kernel_rfl) (by simp) ?_
      refine AllReadyH.cons rfl (fun K hK => ?_) AllReadyH.nil
      go_simp
      (with_reducible refine (IL2.out _ rfl).mono ?_); rintro e1 w1 ⟨rfl, hf1, hp1⟩; obtain ⟨⟨d0, d2, d3⟩, d4, d5, d6⟩ := CELLS.out w1 hf1; have HF1 := Lib.hid hf1; have HP1 := Lib.hid hp1; clear hf1 hp1
      refine hK.out _ _ ?hS2 (fun hHeld2 => ?_)
      case hS2 => exact ⟨d0, d2, d3, d4, d5, d6⟩
      clear hK K hHeld
      try simp only [Act.put, List.setIfInBounds_toArray, List.set_cons_zero, List.set_cons_succ]
      refine wpAnyH_take (i := 20) (v := ?v20) (by simp only [List.getElem?_toArray, List.getElem?_cons_succ, List.getElem?_cons_zero]; rfl) (by kernel_rfl) (by kernel_rfl) (by kernel_rfl) (by exact fun _ _ _ h => h) (Or.inl ⟨by rfl, ?hy20⟩) (by assumption) ?rest20
      case hy20 => (intro w hSw; (try dsimp only at hSw); go_simp; try with_reducible rfl)
      try simp only [Act.put, List.setIfInBounds_toArray, List.set_cons_zero, List.set_cons_succ]
      refine wpAnyH_take (i := 21) (v := ?v21) (by simp only [List.getElem?_toArray, List.getElem?_cons_succ, List.getElem?_cons_zero]; rfl) (by kernel_rfl) (by kernel_rfl) (by kernel_rfl) (by exact fun _ _ _ h => h) (Or.inl ⟨by rfl, ?hy21⟩) (by assumption) ?rest21
      case hy21 => (intro w hSw; (try dsimp only at hSw); go_simp; try with_reducible rfl)
      try simp only [Act.put, List.setIfInBounds_toArray, List.set_cons_zero, List.set_cons_succ]
      refine wpAnyH_take (i := 22) (v := undef) (by simp only [List.getElem?_toArray, List.getElem?_cons_succ, List.getElem?_cons_zero]; rfl) (by kernel_rfl) (by kernel_rfl) (by kernel_rfl) (by exact fun _ _ _ h => h) (Or.inr ⟨by rfl, rfl⟩) (by assumption) ?_
      try simp only [Act.put, List.setIfInBounds_toArray, List.set_cons_zero, List.set_cons_succ]
      refine wpAnyH_take (i := 23) (v := undef) (by simp only [List.getElem?_toArray, List.getElem?_cons_succ, List.getElem?_cons_zero]; rfl) (by kernel_rfl) (by kernel_rfl) (by kernel_rfl) (by exact fun _ _ _ h => h) (Or.inr ⟨by rfl, rfl⟩) (by assumption) ?_
      try simp only [Act.put, List.setIfInBounds_toArray, List.set_cons_zero, List.set_cons_succ]
      refine wpAnyH_take (i := 24) (v := undef) (by simp only [List.getElem?_toArray, List.getElem?_cons_succ, List.getElem?_cons_zero]; rfl) (by kernel_rfl) (by kernel_rfl) (by kernel_rfl) (by exact fun _ _ _ h => h) (Or.inr ⟨by rfl, rfl⟩) (by assumption) ?_
      try simp only [Act.put, List.setIfInBounds_toArray, List.set_cons_zero, List.set_cons_succ]
      refine wpAnyH_take (i := 25) (v := undef) (by simp only [List.getElem?_toArray, List.getElem?_cons_succ, List.getElem?_cons_zero]; rfl) (by kernel_rfl) (by kernel_rfl) (by kernel_rfl) (by exact fun _ _ _ h => h) (Or.inr ⟨by rfl, rfl⟩) (by assumption) ?_
      try simp only [Act.put, List.setIfInBounds_toArray, List.set_cons_zero, List.set_cons_succ]
      refine wpAnyH_take (i := 26) (v := undef) (by simp only [List.getElem?_toArray, List.getElem?_cons_succ, List.getElem?_cons_zero]; rfl) (by kernel_rfl) (by kernel_rfl) (by kernel_rfl) (by exact fun _ _ _ h => h) (Or.inr ⟨by rfl, rfl⟩) (by assumption) ?_
      try simp only [Act.put, List.setIfInBounds_toArray, List.set_cons_zero, List.set_cons_succ]
      refine wpAnyH_take (i := 27) (v := undef) (by simp only [List.getElem?_toArray, List.getElem?_cons_succ, List.getElem?_cons_zero]; rfl) (by kernel_rfl) (by kernel_rfl) (by kernel_rfl) (by exact fun _ _ _ h => h) (Or.inr ⟨by rfl, rfl⟩) (by assumption) ?_
      try simp only [Act.put, List.setIfInBounds_toArray, List.set_cons_zero, List.set_cons_succ]
      refine wpAnyH_take (i := 28) (v := undef) (by simp only [List.getElem?_toArray, List.getElem?_cons_succ, List.getElem?_cons_zero]; rfl) (by kernel_rfl) (by kernel_rfl) (by kernel_rfl) (by exact fun _ _ _ h => h) (Or.inr ⟨by rfl, rfl⟩) (by assumption) ?_
      try simp only [Act.put, List.setIfInBounds_toArray, List.set_cons_zero, List.set_cons_succ]
      refine wpAnyH_take (i := 29) (v := undef) (by simp only [List.getElem?_toArray, List.getElem?_cons_succ, List.getElem?_cons_zero]; rfl) (by kernel_rfl) (by kernel_rfl) (by kernel_rfl) (by exact fun _ _ _ h => h) (Or.inr ⟨by rfl, rfl⟩) (by assumption) ?_
      try simp only [Act.put, List.setIfInBounds_toArray, List.set_cons_zero, List.set_cons_succ]
      refine wpAnyH_take (i := 30) (v := undef) (by simp only [List.getElem?_toArray, List.getElem?_cons_succ, List.getElem?_cons_zero]; rfl) (by kernel_rfl) (by kernel_rfl) (by kernel_rfl) (by exact fun _ _ _ h => h) (Or.inr ⟨by rfl, rfl⟩) (by assumption) ?_
      try simp only [Act.put, List.setIfInBounds_toArray, List.set_cons_zero, List.set_cons_succ]
      refine wpAnyH_take (i := 31) (v := undef) (by simp only [List.getElem?_toArray, List.getElem?_cons_succ, List.getElem?_cons_zero]; rfl) (by kernel_rfl) (by kernel_rfl) (by kernel_rfl) (by exact fun _ _ _ h => h) (Or.inr ⟨by rfl, rfl⟩) (by assumption) ?_
      try simp only [Act.put, List.setIfInBounds_toArray, List.set_cons_zero, List.set_cons_succ]
      refine wpAnyH_take (i := 32) (v := ?v32) (by simp only [List.getElem?_toArray, List.getElem?_cons_succ, List.getElem?_cons_zero]; rfl) (by kernel_rfl) (by kernel_rfl) (by kernel_rfl) (by exact fun _ _ _ h => h) (Or.inl ⟨by rfl, ?hy32⟩) (by assumption) ?rest32
      case hy32 => (intro w hSw; (try dsimp only at hSw); go_simp; try with_reducible rfl)
      try simp only [Act.put, List.setIfInBounds_toArray, List.set_cons_zero, List.set_cons_succ]
      refine wpAnyH_take (i := 33) (v := ?v33) (by simp only [List.getElem?_toArray, List.getElem?_cons_succ, List.getElem?_cons_zero]; rfl) (by kernel_rfl) (by kernel_rfl) (by kernel_rfl) (by exact fun _ _ _ h => h) (Or.inl ⟨by rfl, ?hy33⟩) (by assumption) ?rest33
      case hy33 => (intro w hSw; (try dsimp only at hSw); go_simp; try with_reducible rfl)
      try simp only [Act.put, List.setIfInBounds_toArray, List.set_cons_zero, List.set_cons_succ]
      refine wpAnyH_done (by kernel_rfl) ?_ _
      go_wp2_with fail
      go_ret
      first | exact FIN.out _ HF1.out HP1.out | (refine (?_ : MtR _ _ _ _ _ _ _ (.returned (.bool false)) _); exact FIN.out _ HF1.out HP1.out)
    · have FIN : Hid (∀ w1 w3 e, Fr (One mb) w w1 → MtR q m mb ps D w1 (mt r r' ms1) e w3 → MtR q m mb ps D w (mt (.n f l r) (.n f l' r') ms) e w3) := by
        rintro w1 w3 e h1 ⟨h2, h3, h4, h5⟩
        have hq : mt (.n f l r) (.n f l' r') ms = mt r r' ms1 := by simp [mt, hm]
        rw [hq]
        exact ⟨h2, h1.trans h3, h4, h5⟩
      have IR : Hid (∀ w1, Pool w1 q m ps D → ByAt w1 mb ps D (asg ms1) → Fr (One mb) w w1 → Calls Try.prog 44 #[Ptr pr, Ptr pr', .map (some mb)] w1 fun e w2 => ∃ b, e = .returned (.bool b) ∧ Fr (One mb) w w2 ∧ MtR q m mb ps D w (mt (.n f l r) (.n f l' r') ms) e w2) := fun w1 h1 h2 h3 =>
        (ihr w1 pr pr' r' ms1 h1 h2 hne hr hr').mono fun e w2 h => ⟨_, h.1, h3.trans h.2.1, FIN.out w1 w2 e h3 h⟩
      rw [hm] at IL
      have IL2 : Hid (∀ w', w' = w.drew → Calls Try.prog 44 #[Ptr pl, Ptr pl', .map (some mb)] w' fun e w2 => e = .returned (.bool true) ∧ Fr (One mb) w w2 ∧ Pool w2 q m ps D ∧ ByAt w2 mb ps D (asg ms1)) :=
        fun w' h => (IL.out w' h).mono fun e w2 h => ⟨h.1, h.2.1, h.2.2.1, h.2.2.2 _ rfl⟩
      clear hb hP hh hB hl hr hu hb' hl' hr' ihl ihr hno hns FIN IL
      go_enter Try.func44, Try.ntmps44
      go_wp2_with fail
      refine (compound_yes _ _ _ _ _ _ _ _ HB.out).mono ?_
      rintro e w' ⟨rfl, rfl⟩
      go_wp2_with fail
      go_region_held3 (fun w' => w'.cell? ⟨p, 0, none⟩ = some (S [Ty.sign f]) ∧ w'.cell? ⟨p, 2, none⟩ = some (Ptr pl) ∧ w'.cell? ⟨p, 3, none⟩ = some (Ptr pr) ∧ w'.cell? ⟨p', 0, none⟩ = some (S [Ty.sign f]) ∧ w'.cell? ⟨p', 2, none⟩ = some (Ptr pl') ∧ w'.cell? ⟨p', 3, none⟩ = some (Ptr pr')) (go_keep)
        (first | (go_at_call 44; ((with_reducible refine (IL2.out _ rfl).mono ?_); rintro e1 w1 ⟨rfl, hf1, hp1, hby1⟩; obtain ⟨⟨d0, d2, d3⟩, d4, d5, d6⟩ := CELLS.out w1 hf1; have HF1 := Lib.hid hf1; have HP1 := Lib.hid hp1; have HBY1 := Lib.hid hby1; clear hf1 hp1 hby1)) | (go_at_call 44; ((with_reducible refine (IR.out _ HP1.out HBY1.out HF1.out).mono ?_); rintro e2 w2 ⟨b, rfl, hf2, hm2⟩; obtain ⟨⟨e0, e2, e3⟩, e4, e5, e6⟩ := CELLS.out w2 hf2; have HM2 := Lib.hid hm2; clear hf2 hm2)))
      go_wp2_with fail
      go_ret
      exact HM2.out
  · exact match_no q m mb ps D f l r w p p' u ms hP hh hu hns

theorem match_any (q m mb : Nat) (ps : List Nat) (D : List Ty) (t : Ty) : MtSaid q m mb ps D t := by
  induction t with
  | v n => exact match_v q m mb ps D n
  | o => exact match_o q m mb ps D
  | n f l r ihl ihr => exact match_n q m mb ps D f l r ihl ihr
end Go.Proofs.Ytngbpcphkfmncaa
