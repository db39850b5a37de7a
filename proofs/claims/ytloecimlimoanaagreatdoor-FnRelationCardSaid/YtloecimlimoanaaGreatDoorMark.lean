/- Mark · Eqs · Marks · Held · Rows of texts that a call owns, marked and held. -/
import Derived.Test.YtloecimlimoanaaGreatDoorHas
import Derived.Laws.BytesArg
import Derived.StillTactics
import Derived.StillTailTactics
import Derived.Laws.OwnMore
import Derived.Deep.RegionHeld3
/- Mark -/
namespace Go.Proofs.YtloecimlimoanaaGreatDoor
open Go.RowKit Go.ChangeMaps

def digs : Nat → Nat → List UInt8 → List UInt8
  | 0, _, acc => acc
  | n + 1, k, acc => if k = 0 then acc else digs n (k / 10) (UInt8.ofNat (48 + k % 10) :: acc)

def markOf (k : Nat) : List UInt8 := if k = 0 then [109, 48] else 109 :: digs k k []

theorem digs_one : ∀ (n m k : Nat) (acc : List UInt8), k ≤ n → k ≤ m → digs n k acc = digs m k acc
  | 0, 0, _, _, _, _ => rfl
  | 0, m + 1, k, acc, h, _ => by
    have : k = 0 := by omega
    simp [digs, this]
  | n + 1, 0, k, acc, _, h => by
    have : k = 0 := by omega
    simp [digs, this]
  | n + 1, m + 1, k, acc, h1, h2 => by
    simp only [digs]
    split
    · rfl
    · exact digs_one n m (k / 10) _ (by omega) (by omega)

theorem digs_step (k : Nat) (hk : 0 < k) (acc : List UInt8) : digs k k acc = digs (k / 10) (k / 10) (UInt8.ofNat (48 + k % 10) :: acc) := by
  obtain ⟨n, rfl⟩ : ∃ n, k = n + 1 := ⟨k - 1, by omega⟩
  rw [digs, if_neg (by omega)]
  exact digs_one _ _ _ _ (by omega) (Nat.le_refl _)

theorem byte_text (W : World) (o : Obj) (z : Int) (h : o = .cells #[.int .u8 z] 5) :
    (convert 22 9 (.slice (some ⟨W.heap.size, 0, none⟩) 1 1)).run Tryz.prog (W.alloc o) = .ok (S [UInt8.ofNat z.toNat]) (W.alloc o) := by
  subst h
  have := run_convert_bytes_arg (P := Tryz.prog) (W.alloc (.cells #[.int .u8 z] 5)) 22 5 Tryz.underlying22 Tryz.underlying5 W.heap.size 0 1 1 [z] rfl
    (fun i hi => by
      have : i = 0 := by omega
      subst this
      rw [World.cell?_alloc_new]
      rfl) 9 Tryz.underlying9
  exact this

end Go.Proofs.YtloecimlimoanaaGreatDoor

/- Eqs -/
namespace Go.Proofs.YtloecimlimoanaaGreatDoor
open Go.RowKit Go.ChangeMaps

theorem eq_take_more {xs ys : List (List UInt8)} {j : Nat} {x y : List UInt8} (h : xs.take j = ys.take j) (hx : xs[j]? = some x) (hy : ys[j]? = some y) (hxy : x = y) : xs.take (j + 1) = ys.take (j + 1) := by
  rw [List.take_add_one, List.take_add_one, h, hx, hy, hxy]

def EqS (xs ys : List (List UInt8)) (w : World) (e : Ending) (w' : World) : Prop := ∃ b : Bool, e = .returned (.bool b) ∧ (b = true ↔ xs = ys) ∧ ∃ n, w' = w.drewN n

end Go.Proofs.YtloecimlimoanaaGreatDoor

/- Marks -/
namespace Go.Proofs.YtloecimlimoanaaGreatDoor
open Go.RowKit Go.ChangeMaps

/-- the first j texts bear marks from k on -/
def Marked (k j n : Nat) (ys : List (List UInt8)) : Prop := ys.length = n ∧ ∀ i, i < j → ys[i]? = some (markOf (k + i))

theorem Marked.more {k j n : Nat} {ys : List (List UInt8)} (h : Marked k j n ys) (hj : j < n) : Marked k (j + 1) n (ys.set j (markOf (k + j))) := by
  refine ⟨by simp [h.1], fun i hi => ?_⟩
  by_cases he : i = j
  · subst he
    rw [List.getElem?_set_self (by rw [h.1]; exact hj)]
  · rw [List.getElem?_set_ne (Ne.symm he)]
    exact h.2 i (by omega)

def MarkP (B : Nat) (A : Option Addr) (c n k : Nat) (w : World) (e : Ending) (w' : World) : Prop :=
  e = .returned (.int .i64 ((k + n : Nat) : Int)) ∧ Fr (fun b => (Value.slice A n c).ownBlock = some b) w w' ∧ ∃ ys, Marked k n n ys ∧ w'.ownsRow B 9 1 (.slice A n c) n (ys.map S)

end Go.Proofs.YtloecimlimoanaaGreatDoor

/- Held -/
namespace Go.Proofs.YtloecimlimoanaaGreatDoor
open Go.RowKit Go.ChangeMaps

end Go.Proofs.YtloecimlimoanaaGreatDoor

/- Rows of texts that a call owns, marked and held. -/
namespace Go.Proofs.YtloecimlimoanaaGreatDoor
open Go.RowKit Go.ChangeMaps

/-- a row of texts of the call's own: its block lies at B or above -/
def Row (w : World) (B : Nat) (A : Option Addr) (c : Nat) (xs : List (List UInt8)) : Prop := w.ownsRow B 9 1 (.slice A xs.length c) xs.length (xs.map S)

theorem row_low {w : World} {B : Nat} {A : Option Addr} {c : Nat} {xs : List (List UInt8)} (h : Row w B A c xs) : ∀ b, (Value.slice A xs.length c).ownBlock = some b → B ≤ b ∧ b < w.heap.size := fun b hb => h.lt b hb

theorem Row.fr {w w' : World} {B : Nat} {A : Option Addr} {c : Nat} {xs : List (List UInt8)} {T : Nat → Prop} (h : Row w B A c xs) (hf : Fr T w w') (hs : ∀ b, (Value.slice A xs.length c).ownBlock = some b → ¬ T b) : Row w' B A c xs := own_fr h hf hs

end Go.Proofs.YtloecimlimoanaaGreatDoor
