/- Terms of the program in memory. -/
import Derived.Test.YthbidlcfahdfhaaDoorTrd
import Derived.Maps.AppendAt
namespace Go.Proofs.YthbidlcfahdfhaaDoor
open Go.RowKit Go.ChangeMaps

/-- A list of terms: each a head, an atom, a depth, and its parts. -/
inductive Ts where
  | nil
  | cons (h a : List UInt8) (d : Nat) (k : Ts) (r : Ts)

namespace Ts
def len : Ts → Nat
  | nil => 0
  | cons _ _ _ _ r => r.len + 1

def size : Ts → Nat
  | nil => 0
  | cons h _ _ k r => (if bindsB h then 2 else 1) + k.size + r.size

def snoc : Ts → List UInt8 → List UInt8 → Nat → Ts → Ts
  | nil, h, a, d, k => cons h a d k nil
  | cons h' a' d' k' r, h, a, d, k => cons h' a' d' k' (r.snoc h a d k)

theorem len_snoc (f : Ts) (h a : List UInt8) (d : Nat) (k : Ts) : (f.snoc h a d k).len = f.len + 1 := by
  induction f with
  | nil => rfl
  | cons h' a' d' k' r _ ih => simp [snoc, len, ih]

theorem size_snoc (f : Ts) (h a : List UInt8) (d : Nat) (k : Ts) : (f.snoc h a d k).size = f.size + ((if bindsB h then 2 else 1) + k.size) := by
  induction f with
  | nil => simp [snoc, size]
  | cons h' a' d' k' r _ ih => simp [snoc, size, ih]; omega

/-- the term at a place -/
def nth : Ts → Nat → Option (List UInt8 × List UInt8 × Nat × Ts)
  | nil, _ => none
  | cons h a d k _, 0 => some (h, a, d, k)
  | cons _ _ _ _ r, j + 1 => r.nth j

theorem nth_lt : ∀ (f : Ts) (j : Nat), j < f.len → ∃ x, f.nth j = some x
  | nil, j, h => by simp [len] at h
  | cons h a d k r, 0, _ => ⟨_, rfl⟩
  | cons h a d k r, j + 1, hj => nth_lt r j (by simp [len] at hj; omega)

/-- the sizes of the first terms -/
def sizeTo : Ts → Nat → Nat
  | nil, _ => 0
  | _, 0 => 0
  | cons h _ _ k r, j + 1 => (if bindsB h then 2 else 1) + k.size + r.sizeTo j

theorem sizeTo_zero (f : Ts) : f.sizeTo 0 = 0 := by cases f <;> rfl
theorem sizeTo_succ : ∀ (f : Ts) (j : Nat) (h a : List UInt8) (d : Nat) (k : Ts), f.nth j = some (h, a, d, k) → f.sizeTo (j + 1) = f.sizeTo j + ((if bindsB h then 2 else 1) + k.size)
  | nil, _, _, _, _, _, e => by cases e
  | cons h a d k r, 0, h', a', d', k', e => by
    simp only [nth, Option.some.injEq, Prod.mk.injEq] at e
    obtain ⟨rfl, rfl, rfl, rfl⟩ := e
    simp [sizeTo, sizeTo_zero]
  | cons h a d k r, j + 1, h', a', d', k', e => by
    have := sizeTo_succ r j h' a' d' k' e
    simp only [sizeTo]
    omega
theorem sizeTo_len : ∀ f : Ts, f.sizeTo f.len = f.size
  | nil => rfl
  | cons h a d k r => by simp [sizeTo, len, size, sizeTo_len r]
theorem sizeTo_le : ∀ (f : Ts) (j : Nat), f.sizeTo j ≤ f.size
  | nil, _ => by simp [sizeTo]
  | cons h a d k r, 0 => by simp [sizeTo]
  | cons h a d k r, j + 1 => by have := sizeTo_le r j; simp only [sizeTo, size]; omega
end Ts

/-- The pointers xs lead to these terms; all blocks lie in T. -/
def TEl (w : World) (T : Nat → Prop) : Ts → List Value → Prop
  | .nil, xs => xs = []
  | .cons h a d k r, xs => ∃ p A c ys xs', xs = Ptr p :: xs' ∧ T p ∧ Blk w p 43 #[S h, S a, .int .i64 d, .slice A k.len c, .int .i64 ((if bindsB h then 2 else 1) + k.size : Nat)] ∧ TEl w T k ys ∧
      (k.len = 0 ∨ ∃ b o, A = some ⟨b, o, none⟩ ∧ T b ∧ ∀ (j : Nat) u, ys[j]? = some u → w.cell? ⟨b, o + j, none⟩ = some u) ∧ TEl w T r xs'

theorem TEl.mono {w w' : World} {T T' : Nat → Prop} (hT : ∀ b, T b → T' b) (hw : ∀ b, T b → w'.heap[b]? = w.heap[b]?) : ∀ {f : Ts} {xs : List Value}, TEl w T f xs → TEl w' T' f xs := by
  intro f
  induction f with
  | nil => intro xs h; exact h
  | cons h a d k r ihk ihr =>
    intro xs hx
    obtain ⟨p, A, c, ys, xs', e, hp, hb, hk, hs, hr⟩ := hx
    refine ⟨p, A, c, ys, xs', e, hT p hp, hb.keep (hw p hp), ihk hk, ?_, ihr hr⟩
    rcases hs with hs | ⟨b, o, e2, hTb, hc⟩
    · exact .inl hs
    · exact .inr ⟨b, o, e2, hT b hTb, fun j u hj => by rw [← hc j u hj]; exact World.cell?_of_block (w := w) (hw b hTb)⟩

theorem TEl.length {w : World} {T : Nat → Prop} : ∀ {f : Ts} {xs : List Value}, TEl w T f xs → xs.length = f.len := by
  intro f
  induction f with
  | nil => intro xs h; rw [h]; rfl
  | cons h a d k r _ ihr =>
    intro xs hx
    obtain ⟨p, A, c, ys, xs', rfl, _, _, _, _, hr⟩ := hx
    simp [Ts.len, ihr hr]

/-- A term in memory. -/
def Tm (w : World) (T : Nat → Prop) (p : Nat) (h a : List UInt8) (d : Nat) (k : Ts) : Prop := TEl w T (.cons h a d k .nil) [Ptr p]

theorem TEl.snoc {w : World} {T : Nat → Prop} {p : Nat} {h a : List UInt8} {d : Nat} {k : Ts} (hp : Tm w T p h a d k) : ∀ {f : Ts} {xs : List Value}, TEl w T f xs → TEl w T (f.snoc h a d k) (xs ++ [Ptr p]) := by
  intro f
  induction f with
  | nil => intro xs hx; rw [hx]; exact hp
  | cons h' a' d' k' r _ ihr =>
    intro xs hx
    obtain ⟨p', A, c, ys, xs', rfl, h1, h2, h3, h4, hr⟩ := hx
    exact ⟨p', A, c, ys, xs' ++ [Ptr p], rfl, h1, h2, h3, h4, ihr hr⟩

/-- the slice at A holds these terms -/
def TSl (w : World) (T : Nat → Prop) (A : Option Addr) (k : Ts) : Prop := ∃ ys, TEl w T k ys ∧ (k.len = 0 ∨ ∃ b o, A = some ⟨b, o, none⟩ ∧ T b ∧ ∀ (j : Nat) u, ys[j]? = some u → w.cell? ⟨b, o + j, none⟩ = some u)

theorem Tm.open_ {w : World} {T : Nat → Prop} {p : Nat} {h a : List UInt8} {d : Nat} {k : Ts} (hp : Tm w T p h a d k) :
    T p ∧ ∃ A c, Blk w p 43 #[S h, S a, .int .i64 d, .slice A k.len c, .int .i64 ((if bindsB h then 2 else 1) + k.size : Nat)] ∧ TSl w T A k := by
  obtain ⟨p', A, c, ys, xs', e, h1, h2, h3, h4, hr⟩ := hp
  injection e with e1 e2
  injection e1 with e1
  injection e1 with e1
  injection e1 with e1 _ _
  subst e1
  exact ⟨h1, A, c, h2, ys, h3, h4⟩

theorem Tm.mk {w : World} {T : Nat → Prop} {p : Nat} {h a : List UInt8} {d : Nat} {k : Ts} {A : Option Addr} {c : Nat} (hT : T p)
    (hb : Blk w p 43 #[S h, S a, .int .i64 d, .slice A k.len c, .int .i64 ((if bindsB h then 2 else 1) + k.size : Nat)]) (hs : TSl w T A k) : Tm w T p h a d k := by
  obtain ⟨ys, h3, h4⟩ := hs
  exact ⟨p, A, c, ys, [], rfl, hT, hb, h3, h4, rfl⟩

theorem Tm.mono {w w' : World} {T T' : Nat → Prop} {p : Nat} {h a : List UInt8} {d : Nat} {k : Ts} (hp : Tm w T p h a d k) (hT : ∀ b, T b → T' b) (hw : ∀ b, T b → w'.heap[b]? = w.heap[b]?) : Tm w' T' p h a d k := TEl.mono hT hw hp

theorem TSl.mono {w w' : World} {T T' : Nat → Prop} {A : Option Addr} {k : Ts} (hs : TSl w T A k) (hT : ∀ b, T b → T' b) (hw : ∀ b, T b → w'.heap[b]? = w.heap[b]?) : TSl w' T' A k := by
  obtain ⟨ys, h3, h4⟩ := hs
  refine ⟨ys, h3.mono hT hw, ?_⟩
  rcases h4 with h4 | ⟨b, o, e2, hTb, hc⟩
  · exact .inl h4
  · exact .inr ⟨b, o, e2, hT b hTb, fun j u hj => by rw [← hc j u hj]; exact World.cell?_of_block (w := w) (hw b hTb)⟩

/-- the pointer at a place -/
theorem TEl.at_ {w : World} {T : Nat → Prop} : ∀ {f : Ts} {xs : List Value}, TEl w T f xs → ∀ (j : Nat) (h a : List UInt8) (d : Nat) (k : Ts), f.nth j = some (h, a, d, k) → ∃ p, xs[j]? = some (Ptr p) ∧ Tm w T p h a d k := by
  intro f
  induction f with
  | nil => intro xs _ j h a d k e; cases e
  | cons h' a' d' k' r _ ihr =>
    intro xs hx j h a d k e
    obtain ⟨p', A, c, ys, xs', rfl, h1, h2, h3, h4, hr⟩ := hx
    cases j with
    | zero =>
      simp only [Ts.nth, Option.some.injEq, Prod.mk.injEq] at e
      obtain ⟨rfl, rfl, rfl, rfl⟩ := e
      exact ⟨p', rfl, p', A, c, ys, [], rfl, h1, h2, h3, h4, rfl⟩
    | succ j =>
      obtain ⟨p, hp, ht⟩ := ihr hr j h a d k e
      exact ⟨p, by simpa using hp, ht⟩

theorem TSl.at_ {w : World} {T : Nat → Prop} {A : Option Addr} {f : Ts} (hs : TSl w T A f) {j : Nat} (hj : j < f.len) : ∃ b o p h a d k, A = some ⟨b, o, none⟩ ∧ T b ∧ f.nth j = some (h, a, d, k) ∧ w.cell? ⟨b, o + j, none⟩ = some (Ptr p) ∧ Tm w T p h a d k := by
  obtain ⟨ys, h3, h4⟩ := hs
  obtain ⟨⟨h, a, d, k⟩, hn⟩ := Ts.nth_lt f j hj
  obtain ⟨p, hp, ht⟩ := h3.at_ j h a d k hn
  rcases h4 with h4 | ⟨b, o, e2, hTb, hc⟩
  · omega
  · exact ⟨b, o, p, h, a, d, k, e2, hTb, hn, hc j _ hp, ht⟩
end Go.Proofs.YthbidlcfahdfhaaDoor
