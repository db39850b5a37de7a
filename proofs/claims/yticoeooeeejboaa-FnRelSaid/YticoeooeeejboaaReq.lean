/- The relation of equal numbers; RelSame of the program. -/
import Derived.Test.YticoeooeeejboaaWri
namespace Go.Proofs.Yticoeooeeejboaa
open Go.RowKit Go.ChangeMaps Go.Shelf

/-- an addition in one row, the others stay -/
theorem RowsTo.add {w w' : World} {l r B : Nat} {R : Nat → Nat → Bool} {Rb : Nat} {gs : Nat → Nat} (h2 : RowsTo w Rb l r l B gs R) {i k : Nat} (hi : i < l)
    (ha : AddP (gs i) r (fun j => R i j || decide (j = k)) w w') : RowsTo w' Rb l r l B gs (fun i' j => R i' j || (decide (i' = i) && decide (j = k))) ∧ (∀ g t cs, Blk w g t cs → t ≠ 48 → Blk w' g t cs) := by
  obtain ⟨hf, ws, hw, hbits⟩ := ha
  obtain ⟨_, ws0, hw0, _⟩ := h2.each i hi
  have hk : ∀ g t cs, Blk w g t cs → t ≠ 48 → Blk w' g t cs := fun g t cs hb ht => hb.fr hf (fun e => by
    have e : g = gs i := e
    subst e
    exact ht (hb.eq hw0).1)
  refine ⟨⟨hk _ _ _ h2.rows (by decide), h2.low, fun i' hi' => ?_, h2.inj⟩, hk⟩
  obtain ⟨h3, ws', h4, h5⟩ := h2.each i' hi'
  by_cases e : i' = i
  · subst e
    exact ⟨h3, ws, hw, hbits.congr (fun j _ => by simp)⟩
  · exact ⟨h3, ws', h4.fr hf (fun h => e (h2.inj i' i hi' hi h)), h5.congr (fun j _ => by simp [e])⟩

theorem RowsTo.congr {w : World} {Rb l r j B : Nat} {gs : Nat → Nat} {R Q : Nat → Nat → Bool} (h : RowsTo w Rb l r j B gs R) (hq : ∀ i, i < j → ∀ k, k < r → R i k = Q i k) : RowsTo w Rb l r j B gs Q :=
  ⟨h.rows, h.low, fun i hi => by
    obtain ⟨h3, ws, h4, h5⟩ := h.each i hi
    exact ⟨h3, ws, h4, h5.congr (hq i hi)⟩, h.inj⟩

def EqP (n : Nat) (w : World) (e : Ending) (w' : World) : Prop := ∃ b, e = .returned (Ptr b) ∧ Fr No w w' ∧ RelAt w' b n n w.heap.size (fun i j => decide (j = i))

open Classical in
/-- the relation of equal numbers, if there is one -/
noncomputable def sameO (n : Int) : Option (Int × Int × List Int) := if 1 ≤ n ∧ n ≤ 128 then some (n, n, (List.range n.toNat).map fun i => ((i * n.toNat + i : Nat) : Int)) else none

theorem same_pairs (n : Nat) : (pairsOf n n (fun i j => decide (j = i))).map Int.ofNat = (List.range n).map fun i => ((i * n + i : Nat) : Int) := by
  rw [pairsOf_single (f := fun i => i) n (fun i hi => elems_single hi (fun j _ => rfl)), List.map_map]
  rfl

end Go.Proofs.Yticoeooeeejboaa
