/- Relations that the laws copy, measure, compare. · Own rows of integers: marked and held, alone and in relations. -/
import Derived.Test.YtloecimlimoanaaGreatDoorRdr
import Derived.Deep.RegionHeld3
import Derived.Lib.SmallJoins
/- Relations that the laws copy, measure, compare. -/
namespace Go.Proofs.YtloecimlimoanaaGreatDoor
open Go.RowKit Go.ChangeMaps

/-- what is left of the measure -/
def SzR (n : Nat) (left : Int) (w : World) (e : Ending) (w' : World) : Prop := ∃ m : Int, e = .returned (.int .i64 m) ∧ -1 ≤ m ∧ m ≤ left ∧ (0 ≤ m → m + (n : Int) ≤ left) ∧ Fr No w w'

theorem own_far {w : World} {B g n c : Nat} {e : TypeId} {xs : List Value} (h : w.ownsRow B e 1 (.slice (some ⟨g, 0, none⟩) n c) n xs) {p : Addr} (hp : g ≠ p.block) (u : Value) : (w.setCell p u).ownsRow B e 1 (.slice (some ⟨g, 0, none⟩) n c) n xs := by
  refine ⟨h.1, ?_⟩
  rcases h.2 with h | ⟨g', cap, cur, hv, h2, h3, h4⟩
  · exact .inl h
  · right
    injection hv with e1 e2 e3
    injection e1 with e1
    injection e1 with e1
    subst e1 e3
    exact ⟨g, c, cur, rfl, h2, (Below.heap_setCell w p u g hp).trans h3, h4⟩

theorem own_low {w : World} {B B' g n c : Nat} {e : TypeId} {xs : List Value} (h : w.ownsRow B e 1 (.slice (some ⟨g, 0, none⟩) n c) n xs) (hB : B' ≤ B) : w.ownsRow B' e 1 (.slice (some ⟨g, 0, none⟩) n c) n xs := by
  refine ⟨h.1, ?_⟩
  rcases h.2 with h | ⟨g', cap, cur, hv, h2, h3⟩
  · exact .inl h
  · exact .inr ⟨g', cap, cur, hv, Nat.le_trans hB h2, h3⟩

/-- a copy of a relation, in new memory -/
def CopyR (L R : Int) (ps : List Int) (w : World) (e : Ending) (w' : World) : Prop :=
  ∃ g, e = .returned (RV L R (some ⟨g, 0, none⟩) ps.length ps.length) ∧ w.heap.size ≤ g ∧ Fr No w w' ∧ w'.ownsRow w.heap.size 3 1 (.slice (some ⟨g, 0, none⟩) ps.length ps.length) ps.length (ps.map (Value.int .i64))

/-- whether two relations are the same -/
def EqR (L R : Int) (xs : List Int) (L' R' : Int) (ys : List Int) (w : World) (e : Ending) (w' : World) : Prop := ∃ b : Bool, e = .returned (.bool b) ∧ (b = true ↔ (L = L' ∧ R = R' ∧ xs = ys)) ∧ Fr No w w'

/-- what is told of a relation that came in -/
def RelIn (w : World) (L R : Int) (A : Option Addr) (n c : Nat) (ps : List Int) : Prop :=
  (-9223372036854775808 ≤ L ∧ L ≤ 9223372036854775807) ∧ (-9223372036854775808 ≤ R ∧ R ≤ 9223372036854775807) ∧ IntsIn w A n c ps

theorem i64_wf {n : Int} (h : (Lit.int .i64 n).wf = true) : -9223372036854775808 ≤ n ∧ n ≤ 9223372036854775807 := by
  simp [Lit.wf, IntKind.min, IntKind.max, IntKind.signed, IntKind.bits] at h
  omega

end Go.Proofs.YtloecimlimoanaaGreatDoor

/- Own rows of integers: marked and held, alone and in relations. -/
namespace Go.Proofs.YtloecimlimoanaaGreatDoor
open Go.RowKit Go.ChangeMaps

/-- an own row of integers -/
def OR (w : World) (B : Nat) (A : Option Addr) (n c : Nat) (xs : List Int) : Prop := n = xs.length ∧ w.ownsRow B 3 1 (.slice A n c) n (xs.map (Value.int .i64))

/-- the block of a slice -/
def Own (A : Option Addr) : Nat → Prop := fun b => ∃ a, A = some a ∧ a.block = b

theorem OR.isl {w : World} {B : Nat} {A : Option Addr} {n c : Nat} {xs : List Int} (h : OR w B A n c xs) : ISl w A xs := by
  obtain ⟨rfl, h⟩ := h
  exact ISl.of_own h

theorem OR.bounds {w : World} {B : Nat} {A : Option Addr} {n c : Nat} {xs : List Int} (h : OR w B A n c xs) {b : Nat} (hb : Own A b) : B ≤ b ∧ b < w.heap.size := by
  obtain ⟨a, rfl, rfl⟩ := hb
  rcases h.2.2 with ⟨hv, _⟩ | ⟨g, cap, cur, hv, h2, h3, _⟩
  · cases hv
  · injection hv with e1 e2 e3
    injection e1 with e1
    subst e1
    exact ⟨h2, (Array.getElem?_eq_some_iff.1 h3).1⟩

theorem OR.fr {w w' : World} {B : Nat} {A : Option Addr} {n c : Nat} {xs : List Int} {T : Nat → Prop} (h : OR w B A n c xs) (hf : Fr T w w') (hT : ∀ b, Own A b → ¬ T b) : OR w' B A n c xs := by
  refine ⟨h.1, h.2.1, ?_⟩
  rcases h.2.2 with h | ⟨g, cap, cur, hv, h2, h3, h4⟩
  · exact .inl h
  · right
    injection hv with e1 e2 e3
    subst e1
    have hl := (Array.getElem?_eq_some_iff.1 h3).1
    exact ⟨g, cap, cur, by rw [e3], h2, (hf.block g hl (hT g ⟨_, rfl, rfl⟩)).trans h3, h4⟩

theorem OR.no {w w' : World} {B : Nat} {A : Option Addr} {n c : Nat} {xs : List Int} (h : OR w B A n c xs) (hf : Fr No w w') : OR w' B A n c xs := h.fr hf (fun _ _ h => h)

/-- rows of different times lie apart -/
theorem OR.apart {w w' : World} {B B' : Nat} {A A' : Option Addr} {n c n' c' : Nat} {xs ys : List Int} (h : OR w B A n c xs) (h' : OR w' B' A' n' c' ys) (hB : w.heap.size ≤ B') : ∀ b, Own A' b → ¬ Own A b := fun b h1 h2 => by
  have := (h.bounds h2).2
  have := (h'.bounds h1).1
  omega

theorem OR.low {w : World} {B B' : Nat} {A : Option Addr} {n c : Nat} {xs : List Int} (h : OR w B A n c xs) (hB : B' ≤ B) : OR w B' A n c xs := by
  refine ⟨h.1, h.2.1, ?_⟩
  rcases h.2.2 with h | ⟨g, cap, cur, hv, h2, h3⟩
  · exact .inl h
  · exact .inr ⟨g, cap, cur, hv, Nat.le_trans hB h2, h3⟩

/-- a block of another type is not a row's -/
theorem OR.other {w : World} {B : Nat} {A : Option Addr} {n c : Nat} {xs : List Int} (h : OR w B A n c xs) {b : Nat} {t : TypeId} {cs : Array Value} (hb : Blk w b t cs) (ht : t ≠ 3) : ¬ Own A b := by
  rintro ⟨a, rfl, rfl⟩
  rcases h.2.2 with ⟨hv, _⟩ | ⟨g, cap, cur, hv, h2, h3, _⟩
  · cases hv
  · injection hv with e1 e2 e3
    injection e1 with e1
    subst e1
    unfold Blk at hb
    rw [hb] at h3
    injection h3 with h3
    injection h3 with _ h3 _
    exact ht h3

/-- the marks from k on -/
def marksI (k : Nat) (n : Nat) : List Int := (List.range n).map fun i => ((k + i : Nat) : Int)

theorem marksI_len (k n : Nat) : (marksI k n).length = n := by simp [marksI]

/-- marking: so many marks, the rest as it was -/
def MarkR (A : Option Addr) (B c : Nat) (n k : Nat) (w : World) (e : Ending) (w' : World) : Prop := e = .returned (.int .i64 ((k + n : Nat) : Int)) ∧ Fr (Own A) w w' ∧ w'.heap.size = w.heap.size ∧ OR w' B A n c (marksI k n)

theorem mark_take {k n j : Nat} {ys : List Value} (h : ys.take j = ((marksI k n).map (Value.int .i64)).take j) (hl : j < ys.length) (hj : j < n) : (ys.set j (.int .i64 ((k : Int) + (j : Int)))).take (j + 1) = ((marksI k n).map (Value.int .i64)).take (j + 1) := by
  rw [List.take_add_one, List.take_add_one, List.take_set_of_le (Nat.le_refl _), h, List.getElem?_set_self hl]
  congr 1
  simp [marksI, hj]

/-- holding: the marks are found -/
def HeldP (n k : Nat) (w : World) (e : Ending) (w' : World) : Prop := e = .returned (.int .i64 ((k + n : Nat) : Int)) ∧ Fr No w w'

theorem marksI_at {k n j : Nat} (h : j < n) : (marksI k n)[j]? = some ((k + j : Nat) : Int) := by simp [marksI, h]

end Go.Proofs.YtloecimlimoanaaGreatDoor
