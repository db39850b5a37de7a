/- Slices of texts and of integers that the laws copy, measure and compare. -/
import Derived.Test.YtngbpcphkfmncaaMark
import Derived.Test.YtngbpcphkfmncaaShead
import Derived.Test.YtngbpcphkfmncaaIsl
import Derived.OwnWalk
namespace Go.Proofs.Ytngbpcphkfmncaa
open Go.RowKit Go.ChangeMaps

theorem SSl.keep {w w' : World} {A : Option Addr} {xs : List (List UInt8)} {T : Nat → Prop} (h : SSl w A xs) (hf : Fr T w w') (hT : ∀ b, T b → w.heap.size ≤ b) : SSl w' A xs := by
  intro j x hj
  obtain ⟨g, o, e, hc⟩ := h j x hj
  have hl := block_lt hc
  exact ⟨g, o, e, (hf.cell (p := ⟨g, o + j, none⟩) hl (fun h => by have := hT _ h; simp at this; omega)).trans hc⟩

/-- A copy in new memory. -/
def CopyS (xs : List (List UInt8)) (w : World) (e : Ending) (w' : World) : Prop :=
  ∃ g, e = .returned (.slice (some ⟨g, 0, none⟩) xs.length xs.length) ∧ w.heap.size ≤ g ∧ Fr No w w' ∧ w'.ownsRow w.heap.size 9 1 (.slice (some ⟨g, 0, none⟩) xs.length xs.length) xs.length (xs.map S)
/-- what is left of the measure -/
def SzS (xs : List (List UInt8)) (left : Int) (w : World) (e : Ending) (w' : World) : Prop := ∃ n : Int, e = .returned (.int .i64 n) ∧ -1 ≤ n ∧ n ≤ left ∧ (0 ≤ n → (xs.length : Int) ≤ left) ∧ w = w'

end Go.Proofs.Ytngbpcphkfmncaa
