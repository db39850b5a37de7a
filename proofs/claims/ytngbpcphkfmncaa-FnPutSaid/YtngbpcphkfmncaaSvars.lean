/- Svars · Svars2 · Svars3 -/
import Derived.Test.YtngbpcphkfmncaaVars
import Derived.Test.YtngbpcphkfmncaaHas
import Derived.Test.YtngbpcphkfmncaaStext
import Derived.Deep.RegionHeld3
/- Svars -/
namespace Go.Proofs.Ytngbpcphkfmncaa
open Go.RowKit Go.ChangeMaps

def letS (vs : List Nat) : List (List UInt8) := vs.map fun n => [Ty.letter n]

theorem let_mem {vs : List Nat} (hv : ∀ n ∈ vs, n < 25) {n : Nat} (hn : n < 25) : [Ty.letter n] ∈ letS vs ↔ n ∈ vs := by
  simp only [letS, List.mem_map]
  constructor
  · rintro ⟨k, hk, e⟩
    simp at e
    have := Ty.letter_inj (hv k hk) hn e
    exact this ▸ hk
  · intro h; exact ⟨n, h, rfl⟩

theorem addV_lt (t : Ty) : ∀ vs : List Nat, (∀ n ∈ vs, n < 25) → t.lets → ∀ n ∈ addV vs t, n < 25 := by
  induction t with
  | v k =>
    intro vs hv hk n hn
    simp only [addV] at hn
    split at hn
    · exact hv n hn
    · rcases List.mem_append.1 hn with h | h
      · exact hv n h
      · simp at h; rw [h]; exact hk
  | o => intro vs hv _; exact hv
  | n f l r hl hr => intro vs hv h; exact hr _ (hl vs hv h.1) h.2

/-- texts in a row of the call's own; of what lies below B nothing turns; what is kept above B lies in K -/
def AddS (B : Nat) (vs : List Nat) (w : World) (v : Value) (e : Ending) (w' : World) : Prop :=
  ∃ A c, e = .returned (.slice A (letS vs).length c) ∧ Fr (fun b => v.ownBlock = some b) w w' ∧ w'.ownsRow B 9 1 (.slice A (letS vs).length c) (letS vs).length ((letS vs).map S) ∧
    ((Value.slice A (letS vs).length c).ownBlock = v.ownBlock ∨ ∀ b, (Value.slice A (letS vs).length c).ownBlock = some b → w.heap.size ≤ b)

end Go.Proofs.Ytngbpcphkfmncaa

/- Svars2 -/
namespace Go.Proofs.Ytngbpcphkfmncaa
open Go.RowKit Go.ChangeMaps

theorem isVar_letter {n : Nat} (h : n < 25) : isVar [Ty.letter n] = true := (var_iff _).2 ⟨n, h, rfl⟩

theorem letS_snoc (vs : List Nat) (n : Nat) : letS (vs ++ [n]) = letS vs ++ [[Ty.letter n]] := by simp [letS]
theorem letS_len (vs : List Nat) : (letS vs).length = vs.length := by simp [letS]

end Go.Proofs.Ytngbpcphkfmncaa

/- Svars3 -/
namespace Go.Proofs.Ytngbpcphkfmncaa
open Go.RowKit Go.ChangeMaps

end Go.Proofs.Ytngbpcphkfmncaa
