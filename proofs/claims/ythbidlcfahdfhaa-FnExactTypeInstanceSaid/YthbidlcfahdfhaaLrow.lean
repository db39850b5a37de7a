/- Rows of texts that a call owns, marked and held. -/
import Derived.Test.YthbidlcfahdfhaaHeld
namespace Go.Proofs.Ythbidlcfahdfhaa
open Go.RowKit Go.ChangeMaps

/-- a row of texts of the call's own: its block lies at B or above -/
def Row (w : World) (B : Nat) (A : Option Addr) (c : Nat) (xs : List (List UInt8)) : Prop := w.ownsRow B 9 1 (.slice A xs.length c) xs.length (xs.map S)

theorem row_low {w : World} {B : Nat} {A : Option Addr} {c : Nat} {xs : List (List UInt8)} (h : Row w B A c xs) : ∀ b, (Value.slice A xs.length c).ownBlock = some b → B ≤ b ∧ b < w.heap.size := fun b hb => h.lt b hb

theorem marks_one (B : Nat) (w : World) (A : Option Addr) (xs : List (List UInt8)) (n c : Nat) (r : Int) (hr : r = ((1 + n : Nat) : Int)) (hn : xs.length = n) (ho : Row w B A c xs) (hl : n ≤ 900) :
    Calls Try.prog 31 #[.slice A n c, .int .i64 1] w fun e w' => e = .returned (.int .i64 r) ∧ Fr (fun b => (Value.slice A n c).ownBlock = some b) w w' ∧ ∃ ys, Marked 1 n n ys ∧ ys.length = n ∧ Row w' B A c ys := by
  subst hr; subst hn
  refine (marks_any B w A xs xs.length 1 c rfl ho (by omega) (by omega)).mono ?_
  rintro e w' ⟨rfl, h1, ys, h2, h3⟩
  have hl := h2.1
  refine ⟨rfl, h1, ys, h2, hl, ?_⟩
  unfold Row
  rw [hl]
  exact h3

theorem held_one (B : Nat) (w : World) (A : Option Addr) (ys : List (List UInt8)) (n c : Nat) (r : Int) (hr : r = ((1 + n : Nat) : Int)) (hm : Marked 1 n n ys) (ho : Row w B A c ys) (hl : n ≤ 900) :
    Calls Try.prog 32 #[.slice A n c, .int .i64 1] w fun e w' => e = .returned (.int .i64 r) ∧ Fr No w w' := by
  subst hr
  refine held_any w A ys n 1 c hm (SSl.of_own ho) ?_ (by omega) (by omega)
  rintro g o rfl
  exact (ho.lt g rfl).2

theorem Row.fr {w w' : World} {B : Nat} {A : Option Addr} {c : Nat} {xs : List (List UInt8)} {T : Nat → Prop} (h : Row w B A c xs) (hf : Fr T w w') (hs : ∀ b, (Value.slice A xs.length c).ownBlock = some b → ¬ T b) : Row w' B A c xs := own_fr h hf hs

end Go.Proofs.Ythbidlcfahdfhaa
