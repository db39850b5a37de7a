import Derived.Test.YthbidlcfahdfhaaSread3
namespace Go.Proofs.Ythbidlcfahdfhaa
open Go.RowKit Go.ChangeMaps

theorem ret_bool {a b : Bool} (h : a = b) : Ending.returned (.bool a) = .returned (.bool b) := by rw [h]

theorem block_lt {w : World} {b o : Nat} {v : Value} (h : w.cell? ⟨b, o, none⟩ = some v) : b < w.heap.size := by
  rcases Nat.lt_or_ge b w.heap.size with hl | hl
  · exact hl
  · unfold World.cell? at h
    simp [Array.getElem?_eq_none hl] at h

/-! The first atom. -/
def headOf (a : List UInt8) (k : Fo) : List UInt8 := if a = [] then (match k with | .nil => [] | .cons b _ _ => b) else []

set_option maxHeartbeats 1000000 in
theorem head_any (w : World) (T : Nat → Prop) (a : List UInt8) (k : Fo) (A : Option Addr) (c : Nat) (h : Sl w T A k) :
    Calls Try.prog 99 #[.agg #[S a, .slice A k.len c]] w fun e w' => e = .returned (S (headOf a k)) ∧ Fr No w w' := by
  by_cases ha : a = []
  · subst ha
    match k with
    | .nil =>
      go_enter Try.func99, Try.ntmps99
      go_wp2
      go_ret
      exact ⟨rfl, (Fr.refl _ _).alloc _⟩
    | .cons b j r =>
      rcases h with h | ⟨g, o, ys, rfl, _, hel, hc⟩
      · simp [Fo.len] at h
      · obtain ⟨A', c', xs', rfl, _, _⟩ := hel
        have h0 : w.cell? ⟨g, o, none⟩ = some (S b) := hc 0 _ rfl
        have hl : g < w.heap.size := block_lt h0
        have n0 : (((Fo.cons b j r).len : Int) == 0) = false := beq_eq_false_iff_ne.2 (by simp [Fo.len]; omega)
        have n1 : 0 < (Fo.cons b j r).len := by simp [Fo.len]
        clear hc
        generalize (Fo.cons b j r).len = n at n0 n1 ⊢
        go_enter Try.func99, Try.ntmps99
        go_wp2
        go_ret
        exact ⟨rfl, (Fr.refl _ _).alloc _⟩
  · have hae : a.isEmpty = false := by cases a; exact absurd rfl ha; rfl
    have he : headOf a k = [] := by simp [headOf, ha]
    rw [he]
    clear he
    go_enter Try.func99, Try.ntmps99
    go_wp2
    go_ret
    exact ⟨rfl, (Fr.refl _ _).alloc _⟩

/-- no atom is too long -/
def Fo.atoms : Fo → Prop
  | .nil => True
  | .cons a k r => a.length ≤ 6000 ∧ k.atoms ∧ r.atoms

theorem len3 {k : Fo} (h : k.len = 3) : ∃ a0 k0 a1 k1 a2 k2, k = .cons a0 k0 (.cons a1 k1 (.cons a2 k2 .nil)) := by
  match k with
  | .nil => simp [Fo.len] at h
  | .cons _ _ .nil => simp [Fo.len] at h
  | .cons _ _ (.cons _ _ .nil) => simp [Fo.len] at h
  | .cons a0 k0 (.cons a1 k1 (.cons a2 k2 .nil)) => exact ⟨a0, k0, a1, k1, a2, k2, rfl⟩
  | .cons _ _ (.cons _ _ (.cons _ _ (.cons _ _ _))) => simp [Fo.len] at h

/-- three trees in memory -/
theorem Sl.three {w : World} {T : Nat → Prop} {A : Option Addr} {a0 a1 a2 : List UInt8} {k0 k1 k2 : Fo} (h : Sl w T A (.cons a0 k0 (.cons a1 k1 (.cons a2 k2 .nil)))) :
    ∃ g o A0 c0 A1 c1 A2 c2, A = some ⟨g, o, none⟩ ∧ T g ∧ w.cell? ⟨g, o, none⟩ = some (S a0) ∧ w.cell? ⟨g, o + 1, none⟩ = some (.slice A0 k0.len c0) ∧ w.cell? ⟨g, o + 2, none⟩ = some (S a1) ∧ w.cell? ⟨g, o + 3, none⟩ = some (.slice A1 k1.len c1) ∧
      w.cell? ⟨g, o + 4, none⟩ = some (S a2) ∧ w.cell? ⟨g, o + 5, none⟩ = some (.slice A2 k2.len c2) ∧ Sl w T A0 k0 ∧ Sl w T A1 k1 ∧ Sl w T A2 k2 ∧ g < w.heap.size := by
  rcases h with h | ⟨g, o, ys, rfl, hT, hel, hc⟩
  · simp [Fo.len] at h
  · obtain ⟨A0, c0, x0, rfl, s0, A1, c1, x1, rfl, s1, A2, c2, x2, rfl, s2, rfl⟩ := hel
    have h0 : w.cell? ⟨g, o, none⟩ = some (S a0) := hc 0 _ rfl
    exact ⟨g, o, A0, c0, A1, c1, A2, c2, rfl, hT, h0, hc 1 _ rfl, hc 2 _ rfl, hc 3 _ rfl, hc 4 _ rfl, hc 5 _ rfl, s0, s1, s2, block_lt h0⟩

theorem Sl.fr {w w' : World} {T : Nat → Prop} {A : Option Addr} {k : Fo} (h : Sl w T A k) (hT : ∀ b, T b → b < w.heap.size) (hf : Fr No w w') : Sl w' T A k :=
  h.mono (fun _ h => h) (fun b hb => hf.block b (hT b hb) (fun h => h))

end Go.Proofs.Ythbidlcfahdfhaa
