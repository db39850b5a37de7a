/- Types of the program as plain data: their texts, their sizes, that a text has one reading. · Trees that the model reads, as plain data: their texts, their reading, and the types among them. -/
/- Types of the program as plain data: their texts, their sizes, that a text has one reading. -/
namespace Go.Proofs.YtloecimlimoanaaGreatDoor

inductive Ty where
  | v (n : Nat)
  | o
  | n (fn : Bool) (l r : Ty)
  deriving DecidableEq, Repr

namespace Ty

/-- The letter of a variable's number: a, b, .., without o. -/
def letter (i : Nat) : UInt8 := UInt8.ofNat (if i < 14 then 97 + i else 98 + i)

def sign (f : Bool) : UInt8 := if f then 62 else 42

def text : Ty → List UInt8
  | v i => [letter i]
  | o => [111]
  | n f l r => 40 :: sign f :: 32 :: (l.text ++ 32 :: (r.text ++ [41]))

def size : Ty → Nat
  | n _ l r => 1 + l.size + r.size
  | _ => 1

/-- All variables have letters. -/
def lets : Ty → Prop
  | v i => i < 25
  | o => True
  | n _ l r => l.lets ∧ r.lets

def shift (s : Nat) : Ty → Ty
  | v i => v (s + i)
  | o => o
  | n f l r => n f (l.shift s) (r.shift s)

theorem shift_zero (t : Ty) : t.shift 0 = t := by
  induction t with
  | v i => simp [shift]
  | o => rfl
  | n f l r hl hr => simp [shift, hl, hr]

theorem size_shift (s : Nat) (t : Ty) : (t.shift s).size = t.size := by
  induction t with
  | v i => rfl
  | o => rfl
  | n f l r hl hr => simp [shift, size, hl, hr]

theorem size_pos (t : Ty) : 1 ≤ t.size := by cases t <;> simp [size] <;> omega

theorem text_ne_nil (t : Ty) : t.text ≠ [] := by cases t <;> simp [text]

theorem letter_toNat {i : Nat} (h : i < 25) : (letter i).toNat = if i < 14 then 97 + i else 98 + i := by
  unfold letter
  split <;> (rw [UInt8.toNat_ofNat']; omega)

theorem letter_inj {i j : Nat} (hi : i < 25) (hj : j < 25) (h : letter i = letter j) : i = j := by
  have := congrArg UInt8.toNat h
  rw [letter_toNat hi, letter_toNat hj] at this
  split at this <;> split at this <;> omega

theorem letter_range {i : Nat} (h : i < 25) : 97 ≤ (letter i).toNat ∧ (letter i).toNat ≤ 122 ∧ (letter i).toNat ≠ 111 := by
  rw [letter_toNat h]; split <;> omega

theorem letter_ne {i : Nat} (h : i < 25) : letter i ≠ 111 ∧ letter i ≠ 40 ∧ letter i ≠ 41 ∧ letter i ≠ 32 ∧ letter i ≠ 62 ∧ letter i ≠ 42 := by
  have := letter_range h
  refine ⟨?_, ?_, ?_, ?_, ?_, ?_⟩ <;> (intro e; rw [e] at this; revert this; decide)

theorem sign_inj {a b : Bool} (h : sign a = sign b) : a = b := by
  cases a <;> cases b <;> simp [sign] at h ⊢

/-- A text has one reading at its front. -/
theorem text_unique (t : Ty) : ∀ (t' : Ty) (r r' : List UInt8), t.lets → t'.lets → t.text ++ r = t'.text ++ r' → t = t' ∧ r = r' := by
  induction t with
  | v i =>
    intro t' r r' h h' e
    cases t' with
    | v j =>
      simp [text] at e
      exact ⟨by rw [letter_inj h h' e.1], e.2⟩
    | o => simp [text] at e; exact absurd e.1 (letter_ne h).1
    | n f l q => simp [text] at e; exact absurd e.1 (letter_ne h).2.1
  | o =>
    intro t' r r' h h' e
    cases t' with
    | v j => simp [text] at e; exact absurd e.1.symm (letter_ne h').1
    | o => simp [text] at e; exact ⟨rfl, e⟩
    | n f l q => simp [text] at e
  | n f l q hl hq =>
    intro t' r r' h h' e
    cases t' with
    | v j => simp [text] at e; exact absurd e.1.symm (letter_ne h').2.1
    | o => simp [text] at e
    | n f' l' q' =>
      simp only [text, List.cons_append, List.append_assoc, List.cons.injEq, true_and] at e
      obtain ⟨e1, e2⟩ := e
      obtain ⟨rfl, e3⟩ := hl l' _ _ h.1 h'.1 e2
      simp only [List.cons.injEq, true_and] at e3
      obtain ⟨rfl, e4⟩ := hq q' _ _ h.2 h'.2 e3
      simp at e4
      exact ⟨by rw [sign_inj e1], e4⟩

theorem text_inj {t t' : Ty} (h : t.lets) (h' : t'.lets) (e : t.text = t'.text) : t = t' :=
  (text_unique t t' [] [] h h' (by simpa using e)).1

/-- What a text is, within the bound on atoms. -/
def Is (s : List UInt8) (t : Ty) : Prop := s = t.text ∧ t.lets ∧ t.size ≤ 40

theorem Is.unique {s : List UInt8} {t t' : Ty} (h : Is s t) (h' : Is s t') : t = t' :=
  text_inj h.2.1 h'.2.1 (h.1.symm.trans h'.1)

theorem length_text (t : Ty) : t.text.length ≤ 6 * t.size := by
  induction t with
  | v i => simp [text, size]
  | o => simp [text, size]
  | n f l r hl hr => simp [text, size]; omega

/-- A type is read at the front of a text, with so many atoms read ahead of it. -/
def Rd (u : List UInt8) (k : Nat) (t : Ty) (rest : List UInt8) : Prop := u = t.text ++ rest ∧ t.lets ∧ k + t.size ≤ 40

theorem Rd.unique {u : List UInt8} {k : Nat} {t t' : Ty} {r r' : List UInt8} (h : Rd u k t r) (h' : Rd u k t' r') : t = t' ∧ r = r' :=
  text_unique t t' r r' h.2.1 h'.2.1 (h.1.symm.trans h'.1)

end Ty
end Go.Proofs.YtloecimlimoanaaGreatDoor

/- Trees that the model reads, as plain data: their texts, their reading, and the types among them. -/
namespace Go.Proofs.YtloecimlimoanaaGreatDoor

/-- A list of trees: each an atom with the trees below it. -/
inductive Fo where
  | nil
  | cons (a : List UInt8) (k : Fo) (r : Fo)

namespace Fo
def len : Fo → Nat
  | nil => 0
  | cons _ _ r => r.len + 1

def snoc : Fo → List UInt8 → Fo → Fo
  | nil, a, k => cons a k nil
  | cons b j r, a, k => cons b j (r.snoc a k)

theorem len_snoc (f : Fo) (a : List UInt8) (k : Fo) : (f.snoc a k).len = f.len + 1 := by
  induction f with
  | nil => rfl
  | cons b j r _ ih => simp [snoc, len, ih]

theorem len_zero {f : Fo} (h : f.len = 0) : f = nil := by cases f <;> simp [len] at h ⊢
end Fo

/-- A byte that can stand in an atom. -/
def isByte (c : UInt8) : Bool := (97 ≤ c.toNat && c.toNat ≤ 122) || (48 ≤ c.toNat && c.toNat ≤ 57) || c == 42 || c == 62

/-- The trees behind an opening bracket, one by one. -/
def rdLoop (rd : List UInt8 → Option (List UInt8 × Fo × List UInt8)) : Nat → List UInt8 → Fo → Option (List UInt8 × Fo × List UInt8)
  | 0, _, _ => none
  | n + 1, u, acc => match rd u with
    | none => none
    | some (_, _, []) => none
    | some (a, k, c :: rest) => if c = 41 then some ([], acc.snoc a k, rest) else if c = 32 then rdLoop rd n rest (acc.snoc a k) else none

/-- A tree at the front of a text, and what is behind it. -/
def rdTree : Nat → List UInt8 → Option (List UInt8 × Fo × List UInt8)
  | 0, _ => none
  | _ + 1, [] => none
  | d + 1, c :: u =>
    if c = 40 then rdLoop (rdTree d) (u.length + 1) u .nil
    else if (c :: u).takeWhile isByte = [] then none else some ((c :: u).takeWhile isByte, .nil, (c :: u).dropWhile isByte)

/-- Types as trees: an atom, or no atom and three trees. -/
def Ty.atom : Ty → List UInt8
  | .v i => [letter i]
  | .o => [111]
  | .n _ _ _ => []
def Ty.kids : Ty → Fo
  | .n f l r => .cons [sign f] .nil (.cons l.atom l.kids (.cons r.atom r.kids .nil))
  | _ => .nil

theorem Ty.atom_n (f : Bool) (l r : Ty) : (Ty.n f l r).atom = [] := rfl
theorem Ty.kids_n (f : Bool) (l r : Ty) : (Ty.n f l r).kids = .cons [sign f] .nil (.cons l.atom l.kids (.cons r.atom r.kids .nil)) := rfl

/-- nesting -/
def Ty.deep : Ty → Nat
  | .n _ l r => max l.deep r.deep + 1
  | _ => 0

theorem Ty.deep_le (t : Ty) : t.deep + 1 ≤ t.size := by
  induction t with
  | v i => simp [deep, size]
  | o => simp [deep, size]
  | n f l r hl hr => simp [deep, size]; omega

theorem byte_all : ∀ c : Fin 256, (isByte (UInt8.ofNat c.val) = ((97 ≤ c.val && c.val ≤ 122) || (48 ≤ c.val && c.val ≤ 57) || c.val == 42 || c.val == 62)) := by decide +kernel

theorem byte_sign (f : Bool) : isByte (Ty.sign f) = true ∧ Ty.sign f ≠ 40 := by cases f <;> decide
theorem byte_letter {i : Nat} (h : i < 25) : isByte (Ty.letter i) = true := by
  have := Ty.letter_range h
  unfold isByte
  simp [this.1, this.2.1]
theorem byte_o : isByte 111 = true := by decide
theorem byte_space : isByte 32 = false := by decide
theorem byte_close : isByte 41 = false := by decide

/-- The reading of one atom byte with no atom byte behind it. -/
theorem rd_atom (d : Nat) (c : UInt8) (r : List UInt8) (hc : isByte c = true) (h40 : c ≠ 40) (hr : ∀ x y, r = x :: y → isByte x = false) :
    rdTree (d + 1) (c :: r) = some ([c], .nil, r) := by
  have h1 : r.takeWhile isByte = [] := by
    cases r with
    | nil => rfl
    | cons x y => simp [List.takeWhile, hr x y rfl]
  have h2 : r.dropWhile isByte = r := by
    cases r with
    | nil => rfl
    | cons x y => simp [List.dropWhile, hr x y rfl]
  simp [rdTree, h40, List.takeWhile, List.dropWhile, hc, h1, h2]

/-- A type's text is read as its tree. -/
theorem rd_type (t : Ty) : ∀ (d : Nat) (r : List UInt8), t.lets → t.deep + 2 ≤ d → (∀ x y, r = x :: y → isByte x = false) →
    rdTree d (t.text ++ r) = some (t.atom, t.kids, r) := by
  induction t with
  | v i =>
    intro d r h hd hr
    obtain ⟨d, rfl⟩ : ∃ n, d = n + 1 := ⟨d - 1, by omega⟩
    exact rd_atom d _ r (byte_letter h) (Ty.letter_ne h).2.1 hr
  | o =>
    intro d r h hd hr
    obtain ⟨d, rfl⟩ : ∃ n, d = n + 1 := ⟨d - 1, by omega⟩
    exact rd_atom d _ r byte_o (by decide) hr
  | n f a b ha hb =>
    intro d r h hd hr
    simp only [Ty.deep] at hd
    obtain ⟨d, rfl⟩ : ∃ n, d = n + 1 := ⟨d - 1, by omega⟩
    have e : (Ty.n f a b).text ++ r = 40 :: (Ty.sign f :: 32 :: (a.text ++ 32 :: (b.text ++ 41 :: r))) := by simp [Ty.text]
    rw [e]
    have hsp : ∀ (z : List UInt8) (x : UInt8) (y : List UInt8), 32 :: z = x :: y → isByte x = false := by
      intro z x y e; injection e with e _; rw [← e]; exact byte_space
    have hcl : ∀ (z : List UInt8) (x : UInt8) (y : List UInt8), 41 :: z = x :: y → isByte x = false := by
      intro z x y e; injection e with e _; rw [← e]; exact byte_close
    obtain ⟨d, rfl⟩ : ∃ n, d = n + 1 := ⟨d - 1, by omega⟩
    have r0 := rd_atom d (Ty.sign f) (32 :: (a.text ++ 32 :: (b.text ++ 41 :: r))) (byte_sign f).1 (byte_sign f).2 (hsp _)
    have r1 := ha (d + 1) (32 :: (b.text ++ 41 :: r)) h.1 (by omega) (hsp _)
    have r2 := hb (d + 1) (41 :: r) h.2 (by omega) (hcl _)
    rw [rdTree, if_pos rfl]
    generalize hn : (Ty.sign f :: 32 :: (a.text ++ 32 :: (b.text ++ 41 :: r))).length = n
    obtain ⟨n, rfl⟩ : ∃ k, n = k + 2 := ⟨n - 2, by simp at hn; omega⟩
    simp [rdLoop, r0, r1, r2, Fo.snoc, Ty.atom, Ty.kids]

/-! What is read is the text. -/
def Fo.texts : Fo → List UInt8
  | .nil => []
  | .cons a k .nil => (if a = [] then 40 :: (k.texts ++ [41]) else a)
  | .cons a k (.cons b j r) => (if a = [] then 40 :: (k.texts ++ [41]) else a) ++ 32 :: (Fo.cons b j r).texts

def treeText (a : List UInt8) (k : Fo) : List UInt8 := if a = [] then 40 :: (k.texts ++ [41]) else a

theorem texts_snoc (f : Fo) (a : List UInt8) (k : Fo) : (f.snoc a k).texts = (match f with | .nil => [] | _ => f.texts ++ [32]) ++ treeText a k := by
  induction f with
  | nil => simp [Fo.snoc, Fo.texts, treeText]
  | cons b j r _ ih =>
    cases r with
    | nil => simp [Fo.snoc, Fo.texts, treeText]
    | cons b' j' r' => simp only [Fo.snoc, Fo.texts] at ih ⊢; rw [ih]; simp

theorem rd_loop_text (rd : List UInt8 → Option (List UInt8 × Fo × List UInt8)) (hrd : ∀ u a k r, rd u = some (a, k, r) → u = treeText a k ++ r) :
    ∀ (n : Nat) (u : List UInt8) (acc : Fo) (a : List UInt8) (k : Fo) (r : List UInt8), rdLoop rd n u acc = some (a, k, r) →
      a = [] ∧ (match acc with | .nil => [] | _ => acc.texts ++ [32]) ++ u = k.texts ++ 41 :: r := by
  intro n
  induction n with
  | zero => intro u acc a k r h; cases h
  | succ n ih =>
    intro u acc a k r h
    unfold rdLoop at h
    rcases hu : rd u with _ | ⟨a1, k1, r1⟩
    · rw [hu] at h; cases h
    · rw [hu] at h
      have e1 := hrd u a1 k1 r1 hu
      cases r1 with
      | nil => cases h
      | cons c r1 =>
        simp only at h
        by_cases h41 : c = 41
        · rw [if_pos h41] at h
          simp only [Option.some.injEq, Prod.mk.injEq] at h
          obtain ⟨rfl, rfl, rfl⟩ := h
          refine ⟨rfl, ?_⟩
          rw [texts_snoc, e1, h41]
          simp
        · rw [if_neg h41] at h
          by_cases h32 : c = 32
          · rw [if_pos h32] at h
            obtain ⟨h1, h2⟩ := ih _ _ _ _ _ h
            refine ⟨h1, ?_⟩
            rw [← h2, e1, h32]
            have hne : ∀ (z : List UInt8), (match acc.snoc a1 k1 with | .nil => [] | _ => z) = z := by
              intro z; cases acc <;> rfl
            rw [hne, texts_snoc]
            simp
          · rw [if_neg h32] at h; cases h

theorem rd_text (d : Nat) : ∀ u a k r, rdTree d u = some (a, k, r) → u = treeText a k ++ r := by
  induction d with
  | zero => intro u a k r h; cases h
  | succ d ih =>
    intro u a k r h
    cases u with
    | nil => cases h
    | cons c u =>
      unfold rdTree at h
      by_cases h40 : c = 40
      · rw [if_pos h40] at h
        obtain ⟨h1, h2⟩ := rd_loop_text _ ih _ _ _ _ _ _ h
        simp at h2
        rw [h40, h1, h2]
        simp [treeText]
      · rw [if_neg h40] at h
        split at h
        · cases h
        · rename_i hne
          simp only [Option.some.injEq, Prod.mk.injEq] at h
          obtain ⟨rfl, rfl, rfl⟩ := h
          rw [treeText, if_neg hne]
          exact (List.takeWhile_append_dropWhile).symm

/-! Which trees are types. -/
def isAtomTy (a : List UInt8) : Bool := a == [111] || (match a with | [c] => 97 ≤ c.toNat && c.toNat ≤ 122 | _ => false)

def isTy : List UInt8 → Fo → Bool
  | a, .cons a0 _ (.cons a1 k1 (.cons a2 k2 .nil)) => if a = [] then (a0 == [62] || a0 == [42]) && isTy a1 k1 && isTy a2 k2 else isAtomTy a
  | a, _ => if a = [] then false else isAtomTy a

def Fo.size : Fo → Nat
  | .nil => 0
  | .cons a k r => (if a = [] then k.size else 1) + r.size

def treeSize (a : List UInt8) (k : Fo) : Nat := if a = [] then k.size else 1

/-- atoms have no parts -/
def Fo.wf : Fo → Prop
  | .nil => True
  | .cons a k r => (a ≠ [] → k = .nil) ∧ k.wf ∧ r.wf

theorem wf_snoc (f : Fo) (a : List UInt8) (k : Fo) (hf : f.wf) (ha : a ≠ [] → k = .nil) (hk : k.wf) : (f.snoc a k).wf := by
  induction f with
  | nil => exact ⟨ha, hk, trivial⟩
  | cons b j r _ ih => exact ⟨hf.1, hf.2.1, ih hf.2.2⟩

theorem rd_loop_wf (rd : List UInt8 → Option (List UInt8 × Fo × List UInt8)) (hrd : ∀ u a k r, rd u = some (a, k, r) → (a ≠ [] → k = .nil) ∧ k.wf) :
    ∀ (n : Nat) (u : List UInt8) (acc : Fo) (a : List UInt8) (k : Fo) (r : List UInt8), acc.wf → rdLoop rd n u acc = some (a, k, r) → (a ≠ [] → k = .nil) ∧ k.wf := by
  intro n
  induction n with
  | zero => intro u acc a k r _ h; cases h
  | succ n ih =>
    intro u acc a k r hacc h
    unfold rdLoop at h
    rcases hu : rd u with _ | ⟨a1, k1, r1⟩
    · rw [hu] at h; cases h
    · rw [hu] at h
      have e1 := hrd u a1 k1 r1 hu
      cases r1 with
      | nil => cases h
      | cons c r1 =>
        simp only at h
        split at h
        · simp only [Option.some.injEq, Prod.mk.injEq] at h
          obtain ⟨rfl, rfl, rfl⟩ := h
          exact ⟨fun h => absurd rfl h, wf_snoc _ _ _ hacc e1.1 e1.2⟩
        · split at h
          · exact ih _ _ _ _ _ (wf_snoc _ _ _ hacc e1.1 e1.2) h
          · cases h

theorem rd_wf (d : Nat) : ∀ u a k r, rdTree d u = some (a, k, r) → (a ≠ [] → k = .nil) ∧ k.wf := by
  induction d with
  | zero => intro u a k r h; cases h
  | succ d ih =>
    intro u a k r h
    cases u with
    | nil => cases h
    | cons c u =>
      unfold rdTree at h
      split at h
      · exact rd_loop_wf _ ih _ _ .nil _ _ _ trivial h
      · split at h
        · cases h
        · simp only [Option.some.injEq, Prod.mk.injEq] at h
          obtain ⟨rfl, rfl, rfl⟩ := h
          exact ⟨fun _ => rfl, trivial⟩

theorem atom_ty {a : List UInt8} (h : isAtomTy a = true) : ∃ t : Ty, t.lets ∧ a = t.atom ∧ t.kids = .nil ∧ t.size = 1 := by
  unfold isAtomTy at h
  rw [Bool.or_eq_true] at h
  rcases h with h | h
  · exact ⟨.o, trivial, by simpa [Ty.atom] using h, rfl, rfl⟩
  · match a, h with
    | [c], h =>
      simp only [Bool.and_eq_true, decide_eq_true_eq] at h
      by_cases ho : c.toNat = 111
      · refine ⟨.o, trivial, ?_, rfl, rfl⟩
        have : c = 111 := UInt8.toNat_inj.1 ho
        rw [this]; rfl
      · refine ⟨.v (if c.toNat < 111 then c.toNat - 97 else c.toNat - 98), ?_, ?_, rfl, rfl⟩
        · show (if c.toNat < 111 then c.toNat - 97 else c.toNat - 98) < 25
          split <;> omega
        · have : Ty.letter (if c.toNat < 111 then c.toNat - 97 else c.toNat - 98) = c := by
            apply UInt8.toNat_inj.1
            rw [Ty.letter_toNat (by split <;> omega)]
            split <;> split <;> omega
          simp [Ty.atom, this]

theorem ty_atom (t : Ty) (h : t.lets) : (t.kids = .nil → isAtomTy t.atom = true) ∧ (t.kids ≠ .nil → t.atom = []) := by
  cases t with
  | v i =>
    refine ⟨fun _ => ?_, fun h => absurd rfl h⟩
    have := Ty.letter_range h
    simp [Ty.atom, isAtomTy, this.1, this.2.1]
  | o => exact ⟨fun _ => by simp [Ty.atom, isAtomTy], fun h => absurd rfl h⟩
  | n f l r => exact ⟨fun h => (by cases h), fun _ => rfl⟩

theorem is_ty (t : Ty) : t.lets → isTy t.atom t.kids = true ∧ treeSize t.atom t.kids = t.size := by
  induction t with
  | v i =>
    intro h
    have := (ty_atom (.v i) h).1 rfl
    simp only [Ty.atom, Ty.kids] at this ⊢
    simp [isTy, this, treeSize, Ty.size]
  | o => intro _; exact ⟨by decide, by decide⟩
  | n f l r hl hr =>
    intro h
    have h1 := hl h.1
    have h2 := hr h.2
    refine ⟨?_, ?_⟩
    · rw [Ty.atom_n, Ty.kids_n]
      simp only [isTy, if_true, h1.1, h2.1]
      cases f <;> simp [Ty.sign]
    · rw [Ty.atom_n, Ty.kids_n]
      simp only [treeSize] at h1 h2
      simp only [treeSize, Fo.size, Ty.size, h1.2, h2.2]
      simp
      omega

/-- Every tree that passes is the tree of a type, if atoms have no parts. -/
theorem ty_of (a : List UInt8) (k : Fo) : (a ≠ [] → k = .nil) → k.wf → isTy a k = true → ∃ t : Ty, t.lets ∧ a = t.atom ∧ k = t.kids := by
  match a, k with
  | a, .cons a0 k0 (.cons a1 k1 (.cons a2 k2 .nil)) =>
    intro ha hk h
    by_cases he : a = []
    · subst he
      simp only [isTy, if_true, Bool.and_eq_true] at h
      obtain ⟨⟨h0, h1⟩, h2⟩ := h
      obtain ⟨t1, l1, e1, e2⟩ := ty_of a1 k1 hk.2.2.1 hk.2.2.2.1 h1
      obtain ⟨t2, l2, e3, e4⟩ := ty_of a2 k2 hk.2.2.2.2.1 hk.2.2.2.2.2.1 h2
      have h0' : a0 = [62] ∨ a0 = [42] := by simpa using h0
      have hk0 : k0 = .nil := hk.1 (by rcases h0' with rfl | rfl <;> simp)
      subst hk0; subst e1; subst e2; subst e3; subst e4
      rcases h0' with rfl | rfl
      · exact ⟨.n true t1 t2, ⟨l1, l2⟩, rfl, rfl⟩
      · exact ⟨.n false t1 t2, ⟨l1, l2⟩, rfl, rfl⟩
    · have := ha he
      cases this
  | a, .nil =>
    intro _ _ h
    by_cases he : a = []
    · subst he; simp [isTy] at h
    · simp [isTy, he] at h
      obtain ⟨t, h1, h2, h3, _⟩ := atom_ty h
      exact ⟨t, h1, h2, h3.symm⟩
  | a, .cons _ _ .nil =>
    intro ha _ h
    by_cases he : a = []
    · subst he; simp [isTy] at h
    · have := ha he; cases this
  | a, .cons _ _ (.cons _ _ .nil) =>
    intro ha _ h
    by_cases he : a = []
    · subst he; simp [isTy] at h
    · have := ha he; cases this
  | a, .cons _ _ (.cons _ _ (.cons _ _ (.cons _ _ _))) =>
    intro ha _ h
    by_cases he : a = []
    · subst he; simp [isTy] at h
    · have := ha he; cases this
termination_by k

theorem text_tree (t : Ty) (h : t.lets) : treeText t.atom t.kids = t.text := by
  induction t with
  | v i => simp [treeText, Ty.atom, Ty.text]
  | o => simp [treeText, Ty.atom, Ty.text]
  | n f l r hl hr =>
    have e1 := hl h.1
    have e2 := hr h.2
    simp only [treeText] at e1 e2
    rw [Ty.atom_n, Ty.kids_n]
    simp [treeText, Fo.texts, Ty.text, e1, e2]

/-- The model's word on a text: it reads to its end, as a type of few atoms. -/
theorem read_is (u : List UInt8) : (∃ a k, rdTree 301 u = some (a, k, []) ∧ isTy a k = true ∧ treeSize a k ≤ 40) ↔ ∃ t, Ty.Is u t := by
  constructor
  · rintro ⟨a, k, h, h1, h2⟩
    obtain ⟨w1, w2⟩ := rd_wf _ _ _ _ _ h
    obtain ⟨t, l, rfl, rfl⟩ := ty_of a k w1 w2 h1
    have e := rd_text _ _ _ _ _ h
    rw [text_tree t l, List.append_nil] at e
    exact ⟨t, e, l, by rw [← (is_ty t l).2]; exact h2⟩
  · rintro ⟨t, h1, h2, h3⟩
    have hd := t.deep_le
    have := rd_type t 301 [] h2 (by omega) (fun x y e => by cases e)
    rw [List.append_nil] at this
    exact ⟨t.atom, t.kids, h1 ▸ this, (is_ty t h2).1, by rw [(is_ty t h2).2]; exact h3⟩

/-- The tree of a text that is a type. -/
theorem read_ty {u : List UInt8} {t : Ty} (h : Ty.Is u t) : rdTree 301 u = some (t.atom, t.kids, []) := by
  have hd := t.deep_le
  have h3 := h.2.2
  have := rd_type t 301 [] h.2.1 (by omega) (fun x y e => by cases e)
  rw [List.append_nil] at this
  exact h.1 ▸ this
end Go.Proofs.YtloecimlimoanaaGreatDoor
