/- Slices of texts and of integers that come in; calls of the laws' helpers. -/
import Derived.Test.YtloecimlimoanaaDoorSlz
import Derived.OpenShut
import Derived.Deep.Strs
namespace Go.Proofs.YtloecimlimoanaaDoor
open Go.RowKit Go.ChangeMaps Go.ChangeShapes Go.WideShapes

/-- what is told of a slice of texts that came in -/
def StrsIn (w : World) (a : Option Addr) (len cap : Nat) (xs : List (List UInt8)) : Prop :=
  len = xs.length ∧ len ≤ cap ∧ len ≤ maxLen ∧ SSl w a xs ∧ ∀ x ∈ xs, x.length ≤ maxLen

theorem strs_in {H : Type} {enc : TypeId × Value → H} {P : Program} {w : World} {base : Nat} {spare : Nat → Bool} {held : Bool} {t e : TypeId} {fuel : Nat} {a : Option Addr} {len cap : Nat} {x : DataW H × List MemPlace}
    (ht : P.underlying t = some (.slice e)) (he : P.underlying e = some .string) (hc : P.cellsOf e = 1) (h : DataW.trod enc P w base spare held fuel t (Value.cells (.slice a len cap)).toList = some x) : ∃ xs, StrsIn w a len cap xs := by
  rcases Go.Deep.open_strs ht he hc h with ⟨hcs, _⟩ | ⟨b, l, c, m, Sx, hcs, _, hlc, hcm, hm, _, hcell⟩
  · simp [Value.cells] at hcs
    obtain ⟨rfl, rfl, rfl⟩ := hcs
    exact ⟨[], rfl, Nat.le_refl _, Nat.zero_le _, fun j x hj => by simp at hj, by simp⟩
  · simp [Value.cells] at hcs
    obtain ⟨rfl, rfl, rfl⟩ := hcs
    have hlm : len ≤ m := by rw [hm]; split <;> omega
    refine ⟨(List.range len).map fun i => (Sx i).data.toList, by simp, hlc, Nat.le_trans hlc hcm, ?_, ?_⟩
    · intro j x hj
      rw [List.getElem?_map] at hj
      by_cases hjl : j < len
      · rw [List.getElem?_range hjl] at hj
        simp at hj
        subst hj
        have h0 := (hcell 0 (by omega)).1
        have hj := (hcell j (by omega)).1
        have hb := spot_of h0
        refine ⟨b.block, b.off, by rw [← hb], ?_⟩
        rw [hb, addr_add] at hj
        exact hj
      · rw [List.getElem?_eq_none (by simp; omega)] at hj
        cases hj
    · intro x hx
      obtain ⟨i, hi, rfl⟩ := List.mem_map.1 hx
      have := (hcell i (by have := List.mem_range.1 hi; omega)).2
      rw [Array.length_toList]
      exact this

/-! Calls of the helpers, in whatever world of the law. -/
theorem copyS_in {w : World} {A : Option Addr} {xs : List (List UInt8)} {n c : Nat} (h : SSl w A xs) (hn : n = xs.length) (hl : n ≤ 2000000) (w' : World) (hf : Fr No w w') :
    Calls Tryd.prog 40 #[.slice A n c] w' fun e w2 => ∃ g, e = .returned (.slice (some ⟨g, 0, none⟩) n n) ∧ Fr No w' w2 ∧ Fr No w w2 ∧ ∀ w3, Fr No w2 w3 → SSl w3 (some ⟨g, 0, none⟩) xs := by
  subst hn
  refine (copyS_any w' A xs c (h.keep hf (fun _ h => h.elim)) hl).mono ?_
  rintro e w2 ⟨g, rfl, _, hf2, ho⟩
  exact ⟨g, rfl, hf2, hf.trans hf2, fun w3 hf3 => (SSl.of_own ho).keep hf3 (fun _ h => h.elim)⟩

theorem sameS_in {w : World} {A A' : Option Addr} {xs : List (List UInt8)} {n c c' : Nat} {w0 : World} (hw : Fr No w0 w) (h : SSl w A xs) (h' : SSl w A' xs) (hn : n = xs.length) (hl : n ≤ 2000000) :
    Calls Tryd.prog 42 #[.slice A n c, .slice A' n c'] w fun e w2 => e = .returned (.bool true) ∧ Fr No w w2 ∧ Fr No w0 w2 := by
  subst hn
  refine (eqs_big w A A' xs xs c c' h h' hl hl).mono ?_
  rintro e w2 ⟨b, rfl, hb, m, rfl⟩
  obtain rfl : b = true := hb.2 rfl
  exact ⟨rfl, (Fr.refl No w).drewN m, hw.drewN m⟩

end Go.Proofs.YtloecimlimoanaaDoor
