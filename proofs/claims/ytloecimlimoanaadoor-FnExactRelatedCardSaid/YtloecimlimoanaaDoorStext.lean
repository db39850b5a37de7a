import Derived.Test.YtloecimlimoanaaDoorShead
import Derived.Test.YtloecimlimoanaaDoorHas
namespace Go.Proofs.YtloecimlimoanaaDoor
open Go.RowKit Go.ChangeMaps

theorem val_str {a : ByteArray} {b : List UInt8} (h : a.data.toList = b) : Value.string a = S b := by
  subst h
  rfl

namespace Fo
/-- the texts of the first trees, with spaces between -/
def textTo : Fo → Nat → List UInt8
  | nil, _ => []
  | cons _ _ _, 0 => []
  | cons a k _, 1 => treeText a k
  | cons a k r, j + 2 => treeText a k ++ 32 :: r.textTo (j + 1)

def cnt : Fo → Nat
  | nil => 0
  | cons _ k r => 1 + k.cnt + r.cnt

theorem nth_cnt : ∀ (f : Fo) (j : Nat) (a : List UInt8) (k : Fo), f.nth j = some (a, k) → k.cnt < f.cnt
  | nil, _, _, _, h => by cases h
  | cons a k r, 0, a', k', h => by
    simp only [nth, Option.some.injEq, Prod.mk.injEq] at h
    obtain ⟨rfl, rfl⟩ := h
    simp only [cnt]; omega
  | cons a k r, j + 1, a', k', h => by
    have := nth_cnt r j a' k' h
    simp only [cnt]; omega

theorem textTo_zero (f : Fo) : f.textTo 0 = [] := by cases f <;> rfl

theorem textTo_succ : ∀ (f : Fo) (j : Nat) (a : List UInt8) (k : Fo), f.nth j = some (a, k) → f.textTo (j + 1) = (if j = 0 then [] else f.textTo j ++ [32]) ++ treeText a k
  | nil, _, _, _, h => by cases h
  | cons a k r, 0, a', k', h => by
    simp only [nth, Option.some.injEq, Prod.mk.injEq] at h
    obtain ⟨rfl, rfl⟩ := h
    simp [textTo]
  | cons a k r, 1, a', k', h => by
    have := textTo_succ r 0 a' k' h
    simp only [if_true, List.nil_append] at this
    simp [textTo, this]
  | cons a k r, j + 2, a', k', h => by
    have := textTo_succ r (j + 1) a' k' h
    simp only [textTo]
    rw [this]
    simp

theorem textTo_len : ∀ (f : Fo), f.textTo f.len = f.texts
  | nil => rfl
  | cons a k nil => by simp [len, textTo, texts, treeText]
  | cons a k (cons b j r) => by
    have := textTo_len (cons b j r)
    simp only [len, textTo, texts, treeText] at this ⊢
    rw [this]

theorem textTo_le : ∀ (f : Fo) (j : Nat), (f.textTo j).length ≤ f.texts.length + 1
  | nil, _ => by simp [textTo]
  | cons a k r, 0 => by simp [textTo]
  | cons a k nil, 1 => by simp [textTo, texts, treeText]
  | cons a k (cons b j' r), 1 => by
    simp only [textTo, texts, treeText, List.length_append]
    omega
  | cons a k nil, j + 2 => by simp [textTo, texts, treeText]
  | cons a k (cons b j' r), j + 2 => by
    have := textTo_le (cons b j' r) (j + 1)
    simp only [textTo, texts, treeText, List.length_append, List.length_cons] at this ⊢
    omega

theorem nth_text {f : Fo} {j : Nat} {a : List UInt8} {k : Fo} (h : f.nth j = some (a, k)) : (treeText a k).length ≤ f.texts.length + 1 := by
  have h1 := textTo_succ f j a k h
  have h2 := textTo_le f (j + 1)
  rw [h1] at h2
  simp only [List.length_append] at h2
  omega
end Fo

end Go.Proofs.YtloecimlimoanaaDoor
