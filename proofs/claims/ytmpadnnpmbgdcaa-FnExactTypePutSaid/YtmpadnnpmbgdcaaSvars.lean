import Derived.Test.YtmpadnnpmbgdcaaVars
import Derived.Test.YtmpadnnpmbgdcaaHas
import Derived.Test.YtmpadnnpmbgdcaaStext
namespace Go.Proofs.Ytmpadnnpmbgdcaa
open Go.RowKit Go.ChangeMaps

def letS (vs : List Nat) : List (List UInt8) := vs.map fun n => [Ty.letter n]

theorem let_mem {vs : List Nat} (hv : ∀ n ∈ vs, n < 25) {n : Nat} (hn : n < 25) : [Ty.letter n] ∈ letS vs ↔ n ∈ vs := by
  simp only [letS, List.mem_map]
  constructor
  · rintro ⟨k, hk, e⟩
    simp at e
    have := Ty.letter_inj (hv k hk) hn e
    exact this ▸ hk
  · intro h; exact ⟨n, h, rfl⟩

theorem addV_lt (t : Ty) : ∀ vs : List Nat, (∀ n ∈ vs, n < 25) → t.lets → ∀ n ∈ addV vs t, n < 25 := by
  induction t with
  | v k =>
    intro vs hv hk n hn
    simp only [addV] at hn
    split at hn
    · exact hv n hn
    · rcases List.mem_append.1 hn with h | h
      · exact hv n h
      · simp at h; rw [h]; exact hk
  | o => intro vs hv _; exact hv
  | n f l r hl hr => intro vs hv h; exact hr _ (hl vs hv h.1) h.2

/-- texts in a row of the call's own; of what lies below B nothing turns; what is kept above B lies in K -/
def AddS (B : Nat) (vs : List Nat) (w : World) (v : Value) (e : Ending) (w' : World) : Prop :=
  ∃ A c, e = .returned (.slice A (letS vs).length c) ∧ Fr (fun b => v.ownBlock = some b) w w' ∧ w'.ownsRow B 9 1 (.slice A (letS vs).length c) (letS vs).length ((letS vs).map S) ∧
    ((Value.slice A (letS vs).length c).ownBlock = v.ownBlock ∨ ∀ b, (Value.slice A (letS vs).length c).ownBlock = some b → w.heap.size ≤ b)

/-- The model's tree k lies away from the row. -/
def SvSaid (t : Ty) : Prop := ∀ (w : World) (A : Option Addr) (c : Nat) (T : Nat → Prop) (B : Nat) (V : Option Addr) (vc : Nat) (vs : List Nat), (∀ n ∈ vs, n < 25) → vs.length + t.size ≤ 1000 → B ≤ w.heap.size →
  (∀ b, T b → b < w.heap.size ∧ (Value.slice V (letS vs).length vc).ownBlock ≠ some b) → Sl w T A t.kids → w.ownsRow B 9 1 (.slice V (letS vs).length vc) (letS vs).length ((letS vs).map S) →
  Calls Try.prog 45 #[.agg #[S t.atom, .slice A t.kids.len c], .slice V (letS vs).length vc] w fun e w' => AddS B (addV vs t) w (.slice V (letS vs).length vc) e w'

end Go.Proofs.Ytmpadnnpmbgdcaa
