import Derived.Test.YtngbpcphkfmncaaPut
import Derived.Deep.RegionHeld3
namespace Go.Proofs.Ytngbpcphkfmncaa
open Go.RowKit Go.ChangeMaps

set_option maxRecDepth 100000 in
set_option maxHeartbeats 1000000 in
theorem put_n (q m mb : Nat) (σ : Nat → Option Ty) (f : Bool) (l r : Ty) (ihl : PutSaid q m mb σ l) (ihr : PutSaid q m mb σ r) : PutSaid q m mb σ (.n f l r) := by
  intro w ps D p hP hB hne hh hsz
  simp only [Ty.put, Ty.size] at hsz
  obtain ⟨pl, pr, k, hb, hl, hr⟩ := hh.kids hP
  have HB := Lib.hid hb
  have CELLS : Hid (∀ w', Fr (One m) w w' → w'.cell? ⟨p, 0, none⟩ = some (S [Ty.sign f]) ∧ w'.cell? ⟨p, 2, none⟩ = some (Ptr pl) ∧ w'.cell? ⟨p, 3, none⟩ = some (Ptr pr)) := by
    intro w' hf
    have hpm : ¬ One m p := by
      intro e
      unfold One at e
      obtain ⟨g, ⟨es, clk, hm, _⟩, _⟩ := hP.map
      rw [← e] at hm
      have := hm.symm.trans hb
      simp at this
    have hb' := hb.fr hf hpm
    exact ⟨(hb'.cell 0).trans rfl, (hb'.cell 2).trans rfl, (hb'.cell 3).trans rfl⟩
  have IL : Hid (∀ w', w' = w.drew → Calls Try.prog 36 #[Ptr q, Ptr pl, .map (some mb)] w' fun e w2 => ∃ ps1 D1 p1, Made w q m ps D (l.put σ) e w2 ps1 D1 p1) := fun w' h => by
    subst h
    exact (ihl w.drew ps D pl hP.drew (hB.grew ((Fr.refl _ _).drew) hne (Grew.refl 0 _ _)) hne hl (by omega)).mono fun e w2 ⟨ps1, D1, p1, h⟩ => ⟨ps1, D1, p1, h.ret, h.pool, h.grew, h.has, ((Fr.refl _ w).drew).trans h.fr⟩
  have IR : Hid (∀ w1 ps1 D1 p1 e1, Made w q m ps D (l.put σ) e1 w1 ps1 D1 p1 → Calls Try.prog 36 #[Ptr q, Ptr pr, .map (some mb)] w1 fun e w2 => ∃ ps2 D2 p2, Made w1 q m ps1 D1 (r.put σ) e w2 ps2 D2 p2 ∧ Fr (One m) w w2) := fun w1 ps1 D1 p1 e1 h1 =>
    (ihr w1 ps1 D1 pr h1.pool (hB.grew h1.fr hne h1.grew) hne (hr.grew h1.grew) (by omega)).mono fun e w2 ⟨ps2, D2, p2, h⟩ => ⟨ps2, D2, p2, h, h1.fr.trans h.fr⟩
  have PT : Hid (∀ w1 ps1 D1 p1 e1 w2 ps2 D2 p2 e2, Made w q m ps D (l.put σ) e1 w1 ps1 D1 p1 → Made w1 q m ps1 D1 (r.put σ) e2 w2 ps2 D2 p2 →
      Calls Try.prog 64 #[Ptr q, S [Ty.sign f], Ptr p1, Ptr p2] w2 fun e w3 => MadeAny w q m ps D (Ty.put σ (.n f l r)) e w3 ∧ (∃ p3, e = .returned (Ptr p3)) ∧ Fr (One m) w w3) := fun w1 ps1 D1 p1 e1 w2 ps2 D2 p2 e2 h1 h2 =>
    (parts_any w2 q m ps2 D2 f (l.put σ) (r.put σ) p1 p2 h2.pool (h1.has.grew h2.grew) h2.has (by omega)).mono fun e w3 ⟨ps3, D3, p3, h⟩ => ⟨⟨ps3, D3, p3, h.ret, h.pool, (h1.grew.trans h2.grew h1.fr.size).trans h.grew (h1.fr.trans h2.fr).size, h.has, (h1.fr.trans h2.fr).trans h.fr⟩, ⟨p3, h.ret⟩, (h1.fr.trans h2.fr).trans h.fr⟩
  clear hb hl hr hP hh hB ihl ihr hsz
  obtain ⟨b0, b2, b3⟩ := CELLS.out w (Fr.refl _ _)
  go_enter Try.func36, Try.ntmps36
  go_wp2_with fail
  refine (compound_yes _ _ _ _ _ _ _ _ HB.out).mono ?_
  rintro e w' ⟨rfl, rfl⟩
  go_wp2_with fail
  go_region_held3 (fun w' => w'.cell? ⟨p, 0, none⟩ = some (S [Ty.sign f]) ∧ w'.cell? ⟨p, 2, none⟩ = some (Ptr pl) ∧ w'.cell? ⟨p, 3, none⟩ = some (Ptr pr)) (go_keep)
    (first | (go_at_call 36; ((with_reducible refine (IL.out _ rfl).mono ?_); rintro e1 w1 ⟨ps1, D1, p1, h1⟩; obtain rfl := h1.ret; have H1 := Lib.hid h1; obtain ⟨d0, d2, d3⟩ := CELLS.out w1 h1.fr; clear h1)) | (go_at_call 36; ((with_reducible refine (IR.out _ _ _ _ _ H1.out).mono ?_); rintro e2 w2 ⟨ps2, D2, p2, h2, hf2⟩; obtain rfl := h2.ret; have H2 := Lib.hid h2; obtain ⟨e0, e2, e3⟩ := CELLS.out w2 hf2; clear h2)) | (go_at_call 64; ((with_reducible refine (PT.out _ _ _ _ _ _ _ _ _ _ H1.out H2.out).mono ?_); rintro e3 w3 ⟨h3, ⟨p3, rfl⟩, hf3⟩; obtain ⟨g0, g2, g3⟩ := CELLS.out w3 hf3; have H3 := Lib.hid h3; clear h3)))
  go_wp2_with fail
  go_ret
  exact H3.out

theorem put_any (q m mb : Nat) (σ : Nat → Option Ty) (t : Ty) : PutSaid q m mb σ t := by
  induction t with
  | v n => exact put_v q m mb σ n
  | o => exact put_o q m mb σ
  | n f l r ihl ihr => exact put_n q m mb σ f l r ihl ihr
end Go.Proofs.Ytngbpcphkfmncaa
