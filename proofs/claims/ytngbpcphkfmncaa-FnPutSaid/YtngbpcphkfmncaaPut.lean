import Derived.Test.YtngbpcphkfmncaaLetter
namespace Go.Proofs.Ytngbpcphkfmncaa
open Go.RowKit Go.ChangeMaps

/-- the map at mb holds, at a variable's number, the node of the type that is put for it -/
def ByAt (w : World) (mb : Nat) (ps : List Nat) (D : List Ty) (σ : Nat → Option Ty) : Prop :=
  ∃ k f, MapAt w encI mb k f ∧ (∀ n t, σ n = some t → ∃ p, f n = some (Ptr p) ∧ Has ps D t p) ∧ ∀ n : Nat, σ n = none → f n = none

theorem ByAt.grew {w w' : World} {mb m B : Nat} {ps ps' : List Nat} {D D' : List Ty} {σ : Nat → Option Ty} (h : ByAt w mb ps D σ) (hf : Fr (One m) w w') (hm : mb ≠ m) (hg : Grew B ps D ps' D') : ByAt w' mb ps' D' σ := by
  obtain ⟨k, f, h1, h2, h3⟩ := h
  exact ⟨k, f, h1.keep (hf.block mb h1.lt hm), fun n t hn => by obtain ⟨p, hp, hh⟩ := h2 n t hn; exact ⟨p, hp, hh.grew hg⟩, h3⟩

theorem ByAt.look {w : World} {mb : Nat} {ps : List Nat} {D : List Ty} {σ : Nat → Option Ty} (h : ByAt w mb ps D σ) (n : Nat) :
    ∃ v, (Instr.lookup 60 (.map (some mb)) (.int .i64 n) false).run Try.prog w = .ok v w ∧ ((σ n = none ∧ v = .pointer none) ∨ ∃ t p, σ n = some t ∧ v = Ptr p ∧ Has ps D t p) := by
  obtain ⟨k, f, h1, h2, h3⟩ := h
  refine ⟨_, h1.lookup (int_kind Try.underlying3) Try.underlying60 (zero_node w) (n : Int), ?_⟩
  rcases hs : σ n with _ | t
  · exact .inl ⟨rfl, by rw [h3 n hs]; rfl⟩
  · obtain ⟨p, hp, hh⟩ := h2 n t hs
    exact .inr ⟨t, p, rfl, by rw [hp]; rfl, hh⟩

def PutSaid (q m mb : Nat) (σ : Nat → Option Ty) (t : Ty) : Prop := ∀ (w : World) (ps : List Nat) (D : List Ty) (p : Nat), Pool w q m ps D → ByAt w mb ps D σ → mb ≠ m → Has ps D t p → (t.put σ).size ≤ 1000000 →
  Calls Try.prog 36 #[Ptr q, Ptr p, .map (some mb)] w fun e w' => MadeAny w q m ps D (t.put σ) e w'

theorem put_o (q m mb : Nat) (σ : Nat → Option Ty) : PutSaid q m mb σ .o := by
  intro w ps D p hP hB hne hh _
  obtain ⟨x, y, k, hb, rfl, rfl⟩ := hh.blk hP
  have c0 : w.cell? ⟨p, 0, none⟩ = some (S [111]) := (hb.cell 0).trans rfl
  have HB := Lib.hid hb
  have FIN : Hid (MadeAny w q m ps D (Ty.put σ .o) (.returned (Ptr p)) w) := ⟨ps, D, p, rfl, hP, Grew.refl _ _ _, hh, Fr.refl _ _⟩
  clear hb hP hh hB
  go_enter Try.func36, Try.ntmps36
  go_wp2_with fail
  refine (compound_no _ _ _ _ _ _ _ HB.out).mono ?_
  rintro e w' ⟨rfl, rfl⟩
  go_wp2_with fail
  go_ret
  exact FIN.out

set_option maxRecDepth 100000 in
set_option maxHeartbeats 1000000 in
theorem put_v (q m mb : Nat) (σ : Nat → Option Ty) (j : Nat) : PutSaid q m mb σ (.v j) := by
  intro w ps D p hP hB hne hh _
  obtain ⟨x, y, k, hb, rfl, rfl⟩ := hh.blk hP
  have c0 : w.cell? ⟨p, 0, none⟩ = some (S []) := (hb.cell 0).trans rfl
  have c1 : w.cell? ⟨p, 1, none⟩ = some (.int .i64 j) := (hb.cell 1).trans rfl
  have HB := Lib.hid hb
  obtain ⟨v, hlook, hv⟩ := hB.look j
  rcases hv with ⟨hs, rfl⟩ | ⟨t, p', hs, rfl, hh'⟩
  · have FIN : Hid (MadeAny w q m ps D (Ty.put σ (.v j)) (.returned (Ptr p)) w) := ⟨ps, D, p, rfl, hP, Grew.refl _ _ _, by simp only [Ty.put, hs]; exact hh, Fr.refl _ _⟩
    clear hb hP hh hB hs
    go_enter Try.func36, Try.ntmps36
    go_wp2_with fail
    refine (compound_no _ _ _ _ _ _ _ HB.out).mono ?_
    rintro e w' ⟨rfl, rfl⟩
    go_wp2_with fail
    go_ret
    exact FIN.out
  · have FIN : Hid (MadeAny w q m ps D (Ty.put σ (.v j)) (.returned (Ptr p')) w) := ⟨ps, D, p', rfl, hP, Grew.refl _ _ _, by simp only [Ty.put, hs]; exact hh', Fr.refl _ _⟩
    clear hb hP hh hh' hB hs
    go_enter Try.func36, Try.ntmps36
    go_wp2_with fail
    refine (compound_no _ _ _ _ _ _ _ HB.out).mono ?_
    rintro e w' ⟨rfl, rfl⟩
    go_wp2_with fail
    go_ret
    exact FIN.out
end Go.Proofs.Ytngbpcphkfmncaa
