/- Names around a term; how the reader makes terms. -/
import Derived.Test.YthbidlcfahdfhaaDoorTnew
import Derived.Test.YthbidlcfahdfhaaDoorShead
namespace Go.Proofs.YthbidlcfahdfhaaDoor
open Go.RowKit Go.ChangeMaps

/-- The slice at A holds these texts. -/
def NSl (w : World) (A : Option Addr) (xs : List (List UInt8)) : Prop :=
  ∀ (j : Nat) (x : List UInt8), xs[j]? = some x → ∃ g o, A = some ⟨g, o, none⟩ ∧ w.cell? ⟨g, o + j, none⟩ = some (S x)

theorem NSl.fr {w w' : World} {A : Option Addr} {xs : List (List UInt8)} {T : Nat → Prop} (h : NSl w A xs) (hf : Fr T w w') (hT : ∀ g o, A = some ⟨g, o, none⟩ → ¬ T g) : NSl w' A xs := by
  intro j x hj
  obtain ⟨g, o, e, hc⟩ := h j x hj
  exact ⟨g, o, e, (hf.cell (p := ⟨g, o + j, none⟩) (block_lt hc) (hT g o e)).trans hc⟩

/-- how far away a name is bound: from the last on -/
def depR (x : List UInt8) : List (List UInt8) → Nat → Option Nat
  | [], _ => none
  | b :: r, j => if b = x then some j else depR x r (j + 1)

def depOf (x : List UInt8) (bs : List (List UInt8)) : Option Nat := depR x bs.reverse 0

theorem depR_skip (x : List UInt8) : ∀ (l : List (List UInt8)) (i j : Nat), (∀ y ∈ l.take j, y ≠ x) → j ≤ l.length → depR x l i = depR x (l.drop j) (i + j)
  | l, i, 0, _, _ => by simp
  | [], i, j + 1, _, h => by simp at h
  | b :: l, i, j + 1, h, hj => by
    simp only [List.take_succ_cons, List.mem_cons, forall_eq_or_imp] at h
    simp only [depR, h.1, if_false, List.drop_succ_cons]
    rw [depR_skip x l (i + 1) j h.2 (by simpa using hj)]
    congr 1; omega

theorem depR_none (x : List UInt8) (l : List (List UInt8)) (i : Nat) (h : ∀ y ∈ l, y ≠ x) : depR x l i = none := by
  have := depR_skip x l i l.length (by rw [List.take_length]; exact h) (Nat.le_refl _)
  rw [this, List.drop_length]; rfl

/-- the part in which a name is bound -/
def insB (bs : List (List UInt8)) (h x : List UInt8) (i : Nat) : List (List UInt8) := if bindsB h = true ∧ i + 1 = kidsOf h then bs ++ [x] else bs

def hd1 : Fo → List UInt8
  | .nil => []
  | .cons a _ _ => a
def hd2 : Fo → List UInt8
  | .cons _ _ (.cons a _ _) => a
  | _ => []

/-- what stands for a name: nothing if it is bound -/
def nmA (bs : List (List UInt8)) (x : List UInt8) : List UInt8 := match depOf x bs with | some _ => [] | none => x

/-- a term's head, its atom and its depth -/
def ndH (a : List UInt8) (k : Fo) : List UInt8 := if a = [] then hd1 k else if a = tTrue ∨ a = tFalse then hTruth else hName
def ndA (bs : List (List UInt8)) (a : List UInt8) (k : Fo) : List UInt8 :=
  if a = [] then (if bindsB (hd1 k) then hd2 k else []) else if a = tTrue ∨ a = tFalse then a else nmA bs a
def ndD (bs : List (List UInt8)) (a : List UInt8) : Nat := if a = [] then 0 else if a = tTrue ∨ a = tFalse then 0 else (depOf a bs).getD 0

inductive Md where
  | kids (bs : List (List UInt8)) (h x : List UInt8) (i : Nat)
  | parts (bs : List (List UInt8))
  | name (bs : List (List UInt8)) (h : List UInt8)

/-- the program's term of a tree -/
def cv : Fo → Md → Ts
  | .nil, _ => .nil
  | .cons a k r, .kids bs h x i => .cons (ndH a k) (ndA (insB bs h x i) a k) (ndD (insB bs h x i) a) (cv k (.parts (insB bs h x i))) (cv r (.kids bs h x (i + 1)))
  | .cons h _ r, .parts bs => if bindsB h then cv r (.name bs h) else cv r (.kids bs h [] 0)
  | .cons x _ r, .name bs h => cv r (.kids bs h x 0)

theorem cv_snoc (bs : List (List UInt8)) (h x a : List UInt8) (k : Fo) : ∀ (f : Fo) (i : Nat), cv (f.snoc a k) (.kids bs h x i) = (cv f (.kids bs h x i)).snoc (ndH a k) (ndA (insB bs h x (i + f.len)) a k) (ndD (insB bs h x (i + f.len)) a) (cv k (.parts (insB bs h x (i + f.len))))
  | .nil, i => by simp [Fo.snoc, cv, Ts.snoc, Fo.len]
  | .cons b j r, i => by
    have := cv_snoc bs h x a k r (i + 1)
    simp only [Fo.snoc, cv, Ts.snoc, Fo.len]
    rw [this, show i + 1 + r.len = i + (r.len + 1) by omega]

theorem cv_kids_len (bs : List (List UInt8)) (h x : List UInt8) : ∀ (f : Fo) (i : Nat), (cv f (.kids bs h x i)).len = f.len
  | .nil, i => rfl
  | .cons b j r, i => by simp [cv, Ts.len, Fo.len, cv_kids_len bs h x r (i + 1)]
end Go.Proofs.YthbidlcfahdfhaaDoor
