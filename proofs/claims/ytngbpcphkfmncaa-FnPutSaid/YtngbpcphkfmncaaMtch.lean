import Derived.Test.YtngbpcphkfmncaaCanon
import Derived.Deep.RegionHeld3
import Derived.BigQuiet
namespace Go.Proofs.Ytngbpcphkfmncaa
open Go.RowKit Go.ChangeMaps

/-- the map of what is put, behind a match -/
def MtR (q m mb : Nat) (ps : List Nat) (D : List Ty) (w : World) (r : Option (List (Nat × Ty))) (e : Ending) (w' : World) : Prop :=
  e = .returned (.bool r.isSome) ∧ Fr (One mb) w w' ∧ Pool w' q m ps D ∧ ∀ ms', r = some ms' → ByAt w' mb ps D (asg ms')

def MtSaid (q m mb : Nat) (ps : List Nat) (D : List Ty) (t : Ty) : Prop := ∀ (w : World) (p p' : Nat) (u : Ty) (ms : List (Nat × Ty)), Pool w q m ps D → ByAt w mb ps D (asg ms) → mb ≠ m → Has ps D t p → Has ps D u p' →
  Calls Try.prog 44 #[Ptr p, Ptr p', .map (some mb)] w fun e w' => MtR q m mb ps D w (mt t u ms) e w'

theorem mt_o (u : Ty) (ms : List (Nat × Ty)) : mt .o u ms = if u = .o then some ms else none := by
  cases u <;> simp [mt]

theorem mt_n_none (f : Bool) (l r u : Ty) (ms : List (Nat × Ty)) (h : sgn u ≠ [Ty.sign f]) : mt (.n f l r) u ms = none := by
  cases u with
  | v n => simp [mt]
  | o => simp [mt]
  | n f' l' r' =>
    have : f ≠ f' := fun e => h (by rw [e]; rfl)
    simp [mt, this]

theorem sgn_n {f : Bool} {u : Ty} (h : sgn u = [Ty.sign f]) : ∃ l r, u = .n f l r := by
  cases u with
  | v n => cases h
  | o => exfalso; cases f <;> simp [sgn, Ty.sign] at h
  | n f' l r =>
    simp [sgn] at h
    exact ⟨l, r, by rw [Ty.sign_inj h]⟩

set_option maxRecDepth 100000 in
set_option maxHeartbeats 1000000 in
theorem match_v (q m mb : Nat) (ps : List Nat) (D : List Ty) (n : Nat) : MtSaid q m mb ps D (.v n) := by
  intro w p p' u ms hP hB hne hh hu
  obtain ⟨x, y, k, hb, rfl, rfl⟩ := hh.blk hP
  have c0 : w.cell? ⟨p, 0, none⟩ = some (S []) := (hb.cell 0).trans rfl
  have c1 : w.cell? ⟨p, 1, none⟩ = some (.int .i64 n) := (hb.cell 1).trans rfl
  obtain ⟨v, hlook, hv⟩ := hB.look n
  rcases hv with ⟨hs, rfl⟩ | ⟨t, p2, hs, rfl, hh2⟩
  · obtain ⟨w2, hrun, hB2, hturn, hsz⟩ := hB.store n u p' hu
    rw [asg_more hs] at hB2
    have hno := hP.ne_map hB
    have hf : Fr (One mb) w w2 := (Fr.refl _ w).turned hturn (.inl rfl)
    have hP2 : Pool w2 q m ps D := hP.fr hf hno.1 (fun e => hne e.symm) (fun x hx e => hno.2 (by unfold One at e; exact e ▸ hx))
    obtain ⟨xa, ya, ka, hbu, _⟩ := hu.blk hP2
    have hrunE := run_eql_node hbu hbu
    rw [show (p' == p') = true by simp] at hrunE
    have d1 : w2.cell? ⟨p, 1, none⟩ = some (.int .i64 n) := ((hb.fr hf (fun e => hno.2 (by unfold One at e; exact e ▸ hh.memp))).cell 1).trans rfl
    obtain ⟨v2, hlook2, hv2⟩ := hB2.look n
    have hv2' : v2 = Ptr p' := by
      rcases hv2 with ⟨h, _⟩ | ⟨t', p3, h, rfl, hh3⟩
      · simp [asg_snoc, hs] at h
      · rw [asg_snoc, hs] at h
        simp at h
        rw [(Has.inj hP2 hh3 hu).2 h.symm]
    subst hv2'
    have FIN : Hid (MtR q m mb ps D w (mt (.v n) u ms) (.returned (.bool true)) w2) := by
      refine ⟨by simp [mt, hs], hf, hP2, fun ms' h => ?_⟩
      simp [mt, hs] at h
      subst h; exact hB2
    clear hb hP hB hh hu hs hB2 hturn hsz hno hf hP2 hv2 hbu
    go_enter Try.func44, Try.ntmps44
    go_wp2_with fail
    go_ret
    exact FIN.out
  · obtain ⟨xa, ya, ka, hbu, _⟩ := hu.blk hP
    obtain ⟨xb, yb, kb, hb2, _⟩ := hh2.blk hP
    have hrunE := run_eql_node hb2 hbu
    by_cases hpe : p2 = p'
    · subst hpe
      rw [show (p2 == p2) = true by simp] at hrunE
      have htu : t = u := (Has.inj hP hh2 hu).1 rfl
      have FIN : Hid (MtR q m mb ps D w (mt (.v n) u ms) (.returned (.bool true)) w) := by
        refine ⟨by simp [mt, hs, htu], Fr.refl _ _, hP, fun ms' h => ?_⟩
        simp [mt, hs, htu] at h
        subst h; exact hB
      clear hb hP hB hh hu hs hh2 htu hbu hb2
      go_enter Try.func44, Try.ntmps44
      go_wp2_with fail
      go_ret
      exact FIN.out
    · have htu : t ≠ u := fun e => hpe ((Has.inj hP hh2 hu).2 e)
      rw [show (p2 == p') = false by simpa using hpe] at hrunE
      have FIN : Hid (MtR q m mb ps D w (mt (.v n) u ms) (.returned (.bool false)) w) := by
        refine ⟨by simp [mt, hs, htu], Fr.refl _ _, hP, fun ms' h => ?_⟩
        simp [mt, hs, htu] at h
      clear hb hP hB hh hu hs hh2 htu hbu hb2
      go_enter Try.func44, Try.ntmps44
      go_wp2_with fail
      go_ret
      exact FIN.out

set_option maxRecDepth 100000 in
set_option maxHeartbeats 1000000 in
theorem match_o (q m mb : Nat) (ps : List Nat) (D : List Ty) : MtSaid q m mb ps D .o := by
  intro w p p' u ms hP hB hne hh hu
  obtain ⟨x, y, k, hb, rfl, rfl⟩ := hh.blk hP
  have c0 : w.cell? ⟨p, 0, none⟩ = some (S [111]) := (hb.cell 0).trans rfl
  have HB := Lib.hid hb
  obtain ⟨xa, ya, ka, hbu, _⟩ := hu.blk hP
  have hrunE := run_eql_node hb hbu
  by_cases hpe : p = p'
  · have htu : u = .o := ((Has.inj hP hh hu).1 hpe).symm
    subst hpe
    rw [show (p == p) = true by simp] at hrunE
    have FIN : Hid (MtR q m mb ps D w (mt .o u ms) (.returned (.bool true)) w) := by
      refine ⟨by simp [mt_o, htu], Fr.refl _ _, hP, fun ms' h => ?_⟩
      simp [mt_o, htu] at h
      subst h; exact hB
    clear hb hP hB hh hu htu hbu
    go_enter Try.func44, Try.ntmps44
    go_wp2_with fail
    refine (compound_no _ _ _ _ _ _ _ HB.out).mono ?_
    rintro e w' ⟨rfl, rfl⟩
    go_wp2_with fail
    go_ret
    exact FIN.out
  · have htu : u ≠ .o := fun e => hpe ((Has.inj hP hh hu).2 e.symm)
    rw [show (p == p') = false by simpa using hpe] at hrunE
    have FIN : Hid (MtR q m mb ps D w (mt .o u ms) (.returned (.bool false)) w) := by
      refine ⟨by simp [mt_o, htu], Fr.refl _ _, hP, fun ms' h => ?_⟩
      simp [mt_o, htu] at h
    clear hb hP hB hh hu htu hbu
    go_enter Try.func44, Try.ntmps44
    go_wp2_with fail
    refine (compound_no _ _ _ _ _ _ _ HB.out).mono ?_
    rintro e w' ⟨rfl, rfl⟩
    go_wp2_with fail
    go_ret
    exact FIN.out

set_option maxRecDepth 100000 in
set_option maxHeartbeats 1000000 in
theorem match_no (q m mb : Nat) (ps : List Nat) (D : List Ty) (f : Bool) (l r : Ty) (w : World) (p p' : Nat) (u : Ty) (ms : List (Nat × Ty)) (hP : Pool w q m ps D) (hh : Has ps D (.n f l r) p) (hu : Has ps D u p') (hns : ¬ sgn u = [Ty.sign f]) :
    Calls Try.prog 44 #[Ptr p, Ptr p', .map (some mb)] w fun e w' => MtR q m mb ps D w (mt (.n f l r) u ms) e w' := by
  obtain ⟨pl, pr, k, hb, hl, hr⟩ := hh.kids hP
  have HB := Lib.hid hb
  have c0 : w.cell? ⟨p, 0, none⟩ = some (S [Ty.sign f]) := (hb.cell 0).trans rfl
  obtain ⟨x, y, k', hb', _⟩ := hu.blk hP
  have c1 : w.cell? ⟨p', 0, none⟩ = some (S (sgn u)) := (hb'.cell 0).trans rfl
  have HX := Lib.hid (mt_n_none f l r u ms hns)
  have HP := Lib.hid hP
  have hd : ([Ty.sign f] == sgn u) = false := by
    rw [Bool.eq_false_iff]
    intro h
    exact hns (eq_of_beq h).symm
  clear hb hP hh hl hr hu hb' hns
  go_enter Try.func44, Try.ntmps44
  go_wp2_with fail
  refine (compound_yes _ _ _ _ _ _ _ _ HB.out).mono ?_
  rintro e w' ⟨rfl, rfl⟩
  go_wp2_with fail
  go_quiet (fail)
  go_wp2_with fail
  go_ret
  exact ⟨by rw [HX.out]; rfl, (Fr.refl _ _).drewN _, HP.out.drewN _, fun ms' h => by rw [HX.out] at h; cases h⟩

end Go.Proofs.Ytngbpcphkfmncaa
