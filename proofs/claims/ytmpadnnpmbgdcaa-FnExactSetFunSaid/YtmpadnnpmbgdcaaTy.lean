/- Types of the program as plain data: their texts, their sizes, that a text has one reading. -/
namespace Go.Proofs.Ytmpadnnpmbgdcaa

inductive Ty where
  | v (n : Nat)
  | o
  | n (fn : Bool) (l r : Ty)
  deriving DecidableEq, Repr

namespace Ty

/-- The letter of a variable's number: a, b, .., without o. -/
def letter (i : Nat) : UInt8 := UInt8.ofNat (if i < 14 then 97 + i else 98 + i)

def sign (f : Bool) : UInt8 := if f then 62 else 42

def text : Ty → List UInt8
  | v i => [letter i]
  | o => [111]
  | n f l r => 40 :: sign f :: 32 :: (l.text ++ 32 :: (r.text ++ [41]))

def size : Ty → Nat
  | n _ l r => 1 + l.size + r.size
  | _ => 1

/-- All variables have letters. -/
def lets : Ty → Prop
  | v i => i < 25
  | o => True
  | n _ l r => l.lets ∧ r.lets

def shift (s : Nat) : Ty → Ty
  | v i => v (s + i)
  | o => o
  | n f l r => n f (l.shift s) (r.shift s)

theorem shift_zero (t : Ty) : t.shift 0 = t := by
  induction t with
  | v i => simp [shift]
  | o => rfl
  | n f l r hl hr => simp [shift, hl, hr]

theorem size_shift (s : Nat) (t : Ty) : (t.shift s).size = t.size := by
  induction t with
  | v i => rfl
  | o => rfl
  | n f l r hl hr => simp [shift, size, hl, hr]

theorem size_pos (t : Ty) : 1 ≤ t.size := by cases t <;> simp [size] <;> omega

theorem text_ne_nil (t : Ty) : t.text ≠ [] := by cases t <;> simp [text]

theorem letter_toNat {i : Nat} (h : i < 25) : (letter i).toNat = if i < 14 then 97 + i else 98 + i := by
  unfold letter
  split <;> (rw [UInt8.toNat_ofNat']; omega)

theorem letter_inj {i j : Nat} (hi : i < 25) (hj : j < 25) (h : letter i = letter j) : i = j := by
  have := congrArg UInt8.toNat h
  rw [letter_toNat hi, letter_toNat hj] at this
  split at this <;> split at this <;> omega

theorem letter_range {i : Nat} (h : i < 25) : 97 ≤ (letter i).toNat ∧ (letter i).toNat ≤ 122 ∧ (letter i).toNat ≠ 111 := by
  rw [letter_toNat h]; split <;> omega

theorem letter_ne {i : Nat} (h : i < 25) : letter i ≠ 111 ∧ letter i ≠ 40 ∧ letter i ≠ 41 ∧ letter i ≠ 32 ∧ letter i ≠ 62 ∧ letter i ≠ 42 := by
  have := letter_range h
  refine ⟨?_, ?_, ?_, ?_, ?_, ?_⟩ <;> (intro e; rw [e] at this; revert this; decide)

theorem sign_inj {a b : Bool} (h : sign a = sign b) : a = b := by
  cases a <;> cases b <;> simp [sign] at h ⊢

/-- A text has one reading at its front. -/
theorem text_unique (t : Ty) : ∀ (t' : Ty) (r r' : List UInt8), t.lets → t'.lets → t.text ++ r = t'.text ++ r' → t = t' ∧ r = r' := by
  induction t with
  | v i =>
    intro t' r r' h h' e
    cases t' with
    | v j =>
      simp [text] at e
      exact ⟨by rw [letter_inj h h' e.1], e.2⟩
    | o => simp [text] at e; exact absurd e.1 (letter_ne h).1
    | n f l q => simp [text] at e; exact absurd e.1 (letter_ne h).2.1
  | o =>
    intro t' r r' h h' e
    cases t' with
    | v j => simp [text] at e; exact absurd e.1.symm (letter_ne h').1
    | o => simp [text] at e; exact ⟨rfl, e⟩
    | n f l q => simp [text] at e
  | n f l q hl hq =>
    intro t' r r' h h' e
    cases t' with
    | v j => simp [text] at e; exact absurd e.1.symm (letter_ne h').2.1
    | o => simp [text] at e
    | n f' l' q' =>
      simp only [text, List.cons_append, List.append_assoc, List.cons.injEq, true_and] at e
      obtain ⟨e1, e2⟩ := e
      obtain ⟨rfl, e3⟩ := hl l' _ _ h.1 h'.1 e2
      simp only [List.cons.injEq, true_and] at e3
      obtain ⟨rfl, e4⟩ := hq q' _ _ h.2 h'.2 e3
      simp at e4
      exact ⟨by rw [sign_inj e1], e4⟩

theorem text_inj {t t' : Ty} (h : t.lets) (h' : t'.lets) (e : t.text = t'.text) : t = t' :=
  (text_unique t t' [] [] h h' (by simpa using e)).1

/-- What a text is, within the bound on atoms. -/
def Is (s : List UInt8) (t : Ty) : Prop := s = t.text ∧ t.lets ∧ t.size ≤ 40

theorem Is.unique {s : List UInt8} {t t' : Ty} (h : Is s t) (h' : Is s t') : t = t' :=
  text_inj h.2.1 h'.2.1 (h.1.symm.trans h'.1)

theorem length_text (t : Ty) : t.text.length ≤ 6 * t.size := by
  induction t with
  | v i => simp [text, size]
  | o => simp [text, size]
  | n f l r hl hr => simp [text, size]; omega

/-- A type is read at the front of a text, with so many atoms read ahead of it. -/
def Rd (u : List UInt8) (k : Nat) (t : Ty) (rest : List UInt8) : Prop := u = t.text ++ rest ∧ t.lets ∧ k + t.size ≤ 40

theorem Rd.unique {u : List UInt8} {k : Nat} {t t' : Ty} {r r' : List UInt8} (h : Rd u k t r) (h' : Rd u k t' r') : t = t' ∧ r = r' :=
  text_unique t t' r r' h.2.1 h'.2.1 (h.1.symm.trans h'.1)

end Ty
end Go.Proofs.Ytmpadnnpmbgdcaa
