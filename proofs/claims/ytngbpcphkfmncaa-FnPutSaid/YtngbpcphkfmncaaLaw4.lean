import Derived.Test.YtngbpcphkfmncaaTvars2
import Derived.Test.YtngbpcphkfmncaaMark
namespace Go.Proofs.Ytngbpcphkfmncaa
open Go.RowKit Go.ChangeMaps

def VarsIs (s : List UInt8) (xs : List (List UInt8)) (b : Bool) : Prop := (∃ t, Ty.Is s t ∧ xs = letS (addV [] t) ∧ b = true) ∨ ((∀ t, ¬ Ty.Is s t) ∧ xs = [] ∧ b = false)

theorem VarsIs.one {s : List UInt8} {xs xs' : List (List UInt8)} {b b' : Bool} (h : VarsIs s xs b) (h' : VarsIs s xs' b') : xs' = xs ∧ b' = b := by
  rcases h with ⟨t, i1, rfl, rfl⟩ | ⟨n1, rfl, rfl⟩ <;> rcases h' with ⟨t', i2, rfl, rfl⟩ | ⟨n2, rfl, rfl⟩
  · have := i1.unique i2
    subst this
    exact ⟨rfl, rfl⟩
  · exact absurd i1 (n2 t)
  · exact absurd i2 (n1 t')
  · exact ⟨rfl, rfl⟩

theorem VarsIs.len {s : List UInt8} {xs : List (List UInt8)} {b : Bool} (h : VarsIs s xs b) : xs.length ≤ 40 := by
  rcases h with ⟨t, i1, rfl, rfl⟩ | ⟨n1, rfl, rfl⟩
  · have h1 := addV_len t []
    have h2 := i1.2.2
    simp [letS] at h1 ⊢
    omega
  · simp

end Go.Proofs.Ytngbpcphkfmncaa
