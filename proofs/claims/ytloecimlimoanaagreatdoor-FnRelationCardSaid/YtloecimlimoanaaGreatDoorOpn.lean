/- Slices of texts and of integers that the laws copy, measure and compare. · Slices of texts and of integers that come in; calls of the laws' helpers. -/
import Derived.Test.YtloecimlimoanaaGreatDoorMark
import Derived.Test.YtloecimlimoanaaGreatDoorShead
import Derived.Test.YtloecimlimoanaaGreatDoorRdr
import Derived.OwnWalk
import Derived.OpenShut
import Derived.Deep.Strs
/- Slices of texts and of integers that the laws copy, measure and compare. -/
namespace Go.Proofs.YtloecimlimoanaaGreatDoor
open Go.RowKit Go.ChangeMaps

theorem SSl.keep {w w' : World} {A : Option Addr} {xs : List (List UInt8)} {T : Nat → Prop} (h : SSl w A xs) (hf : Fr T w w') (hT : ∀ b, T b → w.heap.size ≤ b) : SSl w' A xs := by
  intro j x hj
  obtain ⟨g, o, e, hc⟩ := h j x hj
  have hl := block_lt hc
  exact ⟨g, o, e, (hf.cell (p := ⟨g, o + j, none⟩) hl (fun h => by have := hT _ h; simp at this; omega)).trans hc⟩

/-- A copy in new memory. -/
def CopyS (xs : List (List UInt8)) (w : World) (e : Ending) (w' : World) : Prop :=
  ∃ g, e = .returned (.slice (some ⟨g, 0, none⟩) xs.length xs.length) ∧ w.heap.size ≤ g ∧ Fr No w w' ∧ w'.ownsRow w.heap.size 9 1 (.slice (some ⟨g, 0, none⟩) xs.length xs.length) xs.length (xs.map S)
/-- what is left of the measure -/
def SzS (xs : List (List UInt8)) (left : Int) (w : World) (e : Ending) (w' : World) : Prop := ∃ n : Int, e = .returned (.int .i64 n) ∧ -1 ≤ n ∧ n ≤ left ∧ (0 ≤ n → (xs.length : Int) ≤ left) ∧ w = w'

end Go.Proofs.YtloecimlimoanaaGreatDoor

/- Slices of texts and of integers that come in; calls of the laws' helpers. -/
namespace Go.Proofs.YtloecimlimoanaaGreatDoor
open Go.RowKit Go.ChangeMaps Go.ChangeShapes Go.WideShapes

/-- what is told of a slice of texts that came in -/
def StrsIn (w : World) (a : Option Addr) (len cap : Nat) (xs : List (List UInt8)) : Prop :=
  len = xs.length ∧ len ≤ cap ∧ len ≤ maxLen ∧ SSl w a xs ∧ ∀ x ∈ xs, x.length ≤ maxLen

theorem strs_in {H : Type} {enc : TypeId × Value → H} {P : Program} {w : World} {base : Nat} {spare : Nat → Bool} {held : Bool} {t e : TypeId} {fuel : Nat} {a : Option Addr} {len cap : Nat} {x : DataW H × List MemPlace}
    (ht : P.underlying t = some (.slice e)) (he : P.underlying e = some .string) (hc : P.cellsOf e = 1) (h : DataW.trod enc P w base spare held fuel t (Value.cells (.slice a len cap)).toList = some x) : ∃ xs, StrsIn w a len cap xs := by
  rcases Go.Deep.open_strs ht he hc h with ⟨hcs, _⟩ | ⟨b, l, c, m, Sx, hcs, _, hlc, hcm, hm, _, hcell⟩
  · simp [Value.cells] at hcs
    obtain ⟨rfl, rfl, rfl⟩ := hcs
    exact ⟨[], rfl, Nat.le_refl _, Nat.zero_le _, fun j x hj => by simp at hj, by simp⟩
  · simp [Value.cells] at hcs
    obtain ⟨rfl, rfl, rfl⟩ := hcs
    have hlm : len ≤ m := by rw [hm]; split <;> omega
    refine ⟨(List.range len).map fun i => (Sx i).data.toList, by simp, hlc, Nat.le_trans hlc hcm, ?_, ?_⟩
    · intro j x hj
      rw [List.getElem?_map] at hj
      by_cases hjl : j < len
      · rw [List.getElem?_range hjl] at hj
        simp at hj
        subst hj
        have h0 := (hcell 0 (by omega)).1
        have hj := (hcell j (by omega)).1
        have hb := spot_of h0
        refine ⟨b.block, b.off, by rw [← hb], ?_⟩
        rw [hb, addr_add] at hj
        exact hj
      · rw [List.getElem?_eq_none (by simp; omega)] at hj
        cases hj
    · intro x hx
      obtain ⟨i, hi, rfl⟩ := List.mem_map.1 hx
      have := (hcell i (by have := List.mem_range.1 hi; omega)).2
      rw [Array.length_toList]
      exact this

/-! Calls of the helpers, in whatever world of the law. -/
end Go.Proofs.YtloecimlimoanaaGreatDoor
