/- Law1 · Signs · Law2 -/
import Derived.Test.YtloecimlimoanaaGreatDoorSpec2
import Derived.Test.YtloecimlimoanaaGreatDoorRead
import Derived.Test.YtloecimlimoanaaGreatDoorPtr
/- Law1 -/
namespace Go.Proofs.YtloecimlimoanaaGreatDoor
open Go.RowKit Go.ChangeMaps

theorem Fr.kept {w w' : World} (h : Fr No w w') : Below w.heap.size w w' := h.below (Nat.le_refl _) (fun _ h => h.elim)

theorem str_S (a : ByteArray) : Value.string a = S a.data.toList := rfl
theorem str_len {a : ByteArray} (h : a.size ≤ maxLen) : a.data.toList.length ≤ maxLen := by
  rw [Array.length_toList]; exact h

end Go.Proofs.YtloecimlimoanaaGreatDoor

/- Signs -/
namespace Go.Proofs.YtloecimlimoanaaGreatDoor
open Go.RowKit Go.ChangeMaps

/-- a variable stands nowhere negative (true), or nowhere positive (false) -/
def only : Bool → Ty → Nat → Bool
  | b, .v j, i => b || j != i
  | _, .o, _ => true
  | b, .n f l r, i => only (if f then !b else b) l i && only b r i

/-- it stands positive somewhere, and negative somewhere -/
def signs : Ty → Nat → Bool × Bool
  | .v j, i => (j == i, false)
  | .o, _ => (false, false)
  | .n f l r, i => if f then ((signs l i).2 || (signs r i).1, (signs l i).1 || (signs r i).2) else ((signs l i).1 || (signs r i).1, (signs l i).2 || (signs r i).2)

theorem only_signs (t : Ty) (i : Nat) : only true t i = !(signs t i).2 ∧ only false t i = !(signs t i).1 := by
  induction t with
  | v j => simp [only, signs, bne]
  | o => simp [only, signs]
  | n f l r hl hr => cases f <;> simp [only, signs, hl, hr]

theorem var_iff (nm : List UInt8) : isVar nm = true ↔ ∃ i, i < 25 ∧ nm = [Ty.letter i] := by
  constructor
  · intro h
    match nm, h with
    | [c], h =>
      have ha : isAtomTy [c] = true := by rw [atom_var, h]; simp
      obtain ⟨t, h1, h2, h3, _⟩ := atom_ty ha
      cases t with
      | v i => exact ⟨i, h1, h2⟩
      | o =>
        simp [Ty.atom] at h2
        subst h2
        simp [isVar] at h
      | n f l r => cases h3
  · rintro ⟨i, hi, rfl⟩
    have h1 := Ty.letter_range hi
    have h2 := (Ty.letter_ne hi).1
    simp [isVar, h1.1, h1.2.1, h2]

theorem is_var {nm : List UInt8} {t : Ty} (h : Ty.Is nm t) : (∃ i, t = .v i ∧ i < 25 ∧ nm = [Ty.letter i]) ∨ (sgn t ≠ [] ∧ ∀ i, i < 25 → nm ≠ [Ty.letter i]) := by
  obtain ⟨h1, h2, h3⟩ := h
  cases t with
  | v i => exact .inl ⟨i, rfl, h2, h1⟩
  | o =>
    refine .inr ⟨by simp [sgn], fun i hi e => ?_⟩
    rw [h1] at e
    simp [Ty.text] at e
    exact (Ty.letter_ne hi).1 e.symm
  | n f l r =>
    refine .inr ⟨by simp [sgn], fun i hi e => ?_⟩
    rw [h1] at e
    simp [Ty.text] at e

theorem var_is {i : Nat} (hi : i < 25) : Ty.Is [Ty.letter i] (.v i) := ⟨rfl, hi, by simp [Ty.size]⟩

/-- one pointer, one type -/
theorem Has.inj {w : World} {q m : Nat} {ps : List Nat} {D : List Ty} {t t' : Ty} {p p' : Nat} (hP : Pool w q m ps D) (h : Has ps D t p) (h' : Has ps D t' p') : p = p' ↔ t = t' := by
  obtain ⟨i, h1, h2⟩ := h
  obtain ⟨i', h1', h2'⟩ := h'
  constructor
  · rintro rfl
    obtain ⟨x, y, b, _⟩ := hP.node i t p h1 h2
    obtain ⟨x', y', b', _⟩ := hP.node i' t' p h1' h2'
    have e := (Blk.eq b b').2
    simp at e
    have : i = i' := by omega
    subst this
    rw [h1] at h1'
    injection h1'
  · rintro rfl
    have : i = i' := (List.getElem?_inj (List.getElem?_eq_some_iff.1 h1).1 hP.nodup).1 (h1.trans h1'.symm)
    subst this
    rw [h2] at h2'
    injection h2'

/-- the parts of a type in the pool -/
theorem Has.kids {w : World} {q m : Nat} {ps : List Nat} {D : List Ty} {f : Bool} {l r : Ty} {p : Nat} (hP : Pool w q m ps D) (h : Has ps D (.n f l r) p) :
    ∃ pl pr i, Blk w p 97 #[S [Ty.sign f], .int .i64 0, Ptr pl, Ptr pr, .int .i64 (Ty.n f l r).size, .int .i64 i] ∧ Has ps D l pl ∧ Has ps D r pr := by
  obtain ⟨x, y, i, hb, il, ir, pl, pr, h1, h2, h3, h4, rfl, rfl⟩ := h.blk hP
  exact ⟨pl, pr, i, hb, ⟨il, h1, h3⟩, ⟨ir, h2, h4⟩⟩

set_option maxHeartbeats 400000 in
theorem compound_yes (w : World) (p : Nat) (a b : Value) (pl : Nat) (pr c d : Value) (h : Blk w p 97 #[a, b, Ptr pl, pr, c, d]) :
    Calls Tryz.prog 69 #[Ptr p] w fun e w' => e = .returned (.bool true) ∧ w = w' := by
  have c2 : w.cell? ⟨p, 2, none⟩ = some (Ptr pl) := (h.cell 2).trans rfl
  go_enter Tryz.func69, Tryz.ntmps69
  go_wp2
  go_ret
  exact ⟨rfl, rfl⟩

set_option maxHeartbeats 400000 in
theorem compound_no (w : World) (p : Nat) (a b pr c d : Value) (h : Blk w p 97 #[a, b, .pointer none, pr, c, d]) :
    Calls Tryz.prog 69 #[Ptr p] w fun e w' => e = .returned (.bool false) ∧ w = w' := by
  have c2 : w.cell? ⟨p, 2, none⟩ = some (.pointer none) := (h.cell 2).trans rfl
  go_enter Tryz.func69, Tryz.ntmps69
  go_wp2
  go_ret
  exact ⟨rfl, rfl⟩

end Go.Proofs.YtloecimlimoanaaGreatDoor

/- Law2 -/
namespace Go.Proofs.YtloecimlimoanaaGreatDoor
open Go.RowKit Go.ChangeMaps

def VarPost (w : World) (q m : Nat) (ps : List Nat) (D : List Ty) (nm : List UInt8) (e : Ending) (w' : World) : Prop :=
  ∃ ps' D', Pool w' q m ps' D' ∧ Grew w.heap.size ps D ps' D' ∧ Fr (One m) w w' ∧
    ((∃ i p, i < 25 ∧ nm = [Ty.letter i] ∧ Has ps' D' (.v i) p ∧ e = .returned (Ptr p)) ∨ ((∀ i, i < 25 → nm ≠ [Ty.letter i]) ∧ e = .returned (.pointer none)))

set_option maxHeartbeats 1000000 in
theorem readVar_any (w : World) (q m : Nat) (ps : List Nat) (D : List Ty) (nm : List UInt8) (hP : Pool w q m ps D) (hs : nm.length ≤ maxLen) :
    Calls Tryz.prog 45 #[Ptr q, S nm] w fun e w' => VarPost w q m ps D nm e w' := by
  go_enter Tryz.func45, Tryz.ntmps45
  go_wp2_with fail
  refine (read_any w q m ps D nm 0 hP (by omega) hs).mono ?_
  rintro e w1 ⟨ps1, D1, hP1, hg, hf, hor⟩
  rcases hor with ⟨t, p, hi, hh, he⟩ | ⟨hno, he⟩
  · obtain rfl := he
    rw [Ty.shift_zero] at hh
    obtain ⟨x, y, k, hb, _⟩ := hh.blk hP1
    have c0 : w1.cell? ⟨p, 0, none⟩ = some (S (sgn t)) := (hb.cell 0).trans rfl
    clear hb
    rcases is_var hi with ⟨i, rfl, hi25, hnm⟩ | ⟨hsg, hno⟩
    · have HNM := Lib.hid hnm
      clear hnm
      have hsg : sgn (.v i) = [] := rfl
      rw [hsg] at c0
      clear hsg
      go_wp2
      go_ret
      exact ⟨ps1, D1, hP1, hg, hf, .inl ⟨i, p, hi25, HNM.out, hh, rfl⟩⟩
    · have hse : (sgn t).isEmpty = false := by cases h : sgn t; exact absurd h hsg; rfl
      have HNO := Lib.hid hno
      clear hno
      generalize sgn t = sg at c0 hse
      clear hsg
      go_wp2
      go_ret
      exact ⟨ps1, D1, hP1, hg, hf, .inr ⟨HNO.out, rfl⟩⟩
  · obtain rfl := he
    have HNO : Hid (∀ i, i < 25 → nm ≠ [Ty.letter i]) := fun i hi e => hno (.v i) (by rw [e]; exact var_is hi)
    clear hno
    go_wp2
    go_ret
    exact ⟨ps1, D1, hP1, hg, hf, .inr ⟨HNO.out, rfl⟩⟩

set_option maxHeartbeats 1000000 in
theorem var_any2 (a : List UInt8) (w : World) (ha : a.length ≤ maxLen) :
    Calls Tryz.prog 84 #[S a] w fun e w' => e = .returned (.bool (isVar a)) ∧ w = w' := by
  by_cases h : a.length ≤ 6000
  · exact var_any a w h
  · match a, h with
    | [], h => simp at h
    | [c], h => simp at h
    | c :: c' :: a, h =>
      unfold maxLen at ha
      simp at ha
      have n1 : ((a.length : Int) + 1 + 1 == 1) = false := beq_eq_false_iff_ne.2 (by omega)
      clear h
      go_enter Tryz.func84, Tryz.ntmps84
      go_wp2
      go_ret
      exact ⟨rfl, rfl⟩

def OnlyP (b : Bool) (s nm : List UInt8) : Prop := ∃ t i, Ty.Is s t ∧ i < 25 ∧ nm = [Ty.letter i] ∧ only b t i = true

end Go.Proofs.YtloecimlimoanaaGreatDoor
