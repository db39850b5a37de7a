import Derived.Test.YthbidlcfahdfhaaPre
import Derived.Test.YthbidlcfahdfhaaTree
namespace Go.Proofs.Ythbidlcfahdfhaa
open Go.RowKit Go.ChangeMaps

set_option maxHeartbeats 1000000 in
theorem byte_yes (n : Int) (w : World) (h : (97 ≤ n ∧ n ≤ 122) ∨ (48 ≤ n ∧ n ≤ 57) ∨ n = 42 ∨ n = 62) :
    Calls Try.prog 107 #[.int .u8 n] w fun e w' => e = .returned (.bool true) ∧ w = w' := by
  rcases h with ⟨h1, h2⟩ | ⟨h1, h2⟩ | rfl | rfl
  · go_enter Try.func107, Try.ntmps107
    go_wp2
    go_ret
    exact ⟨rfl, rfl⟩
  · have h3 : n < 97 := by omega
    go_enter Try.func107, Try.ntmps107
    go_wp2
    go_ret
    exact ⟨rfl, rfl⟩
  · go_enter Try.func107, Try.ntmps107
    go_wp2
    go_ret
    exact ⟨rfl, rfl⟩
  · go_enter Try.func107, Try.ntmps107
    go_wp2
    go_ret
    exact ⟨rfl, rfl⟩

set_option maxHeartbeats 1000000 in
theorem byte_no (n : Int) (w : World) (h : n < 42 ∨ (42 < n ∧ n < 48) ∨ (57 < n ∧ n < 62) ∨ (62 < n ∧ n < 97) ∨ 122 < n) :
    Calls Try.prog 107 #[.int .u8 n] w fun e w' => e = .returned (.bool false) ∧ w = w' := by
  have e1 : (n == 42) = false := beq_eq_false_iff_ne.2 (by omega)
  have e2 : (n == 62) = false := beq_eq_false_iff_ne.2 (by omega)
  rcases h with h1 | ⟨h1, h2⟩ | ⟨h1, h2⟩ | ⟨h1, h2⟩ | h1
  all_goals
    go_enter Try.func107, Try.ntmps107
    go_wp2
    go_ret
    first | exact ⟨rfl, rfl⟩ | exact ⟨congrArg (fun b => Ending.returned (Value.bool b)) (by simp; omega), rfl⟩

theorem byte_any (c : UInt8) (w : World) :
    Calls Try.prog 107 #[.int .u8 c.toNat] w fun e w' => e = .returned (.bool (isByte c)) ∧ w = w' := by
  have hlt := c.toNat_lt
  by_cases h : isByte c = true
  · rw [h]
    refine byte_yes _ w ?_
    unfold isByte at h
    simp only [Bool.or_eq_true, Bool.and_eq_true, decide_eq_true_eq, beq_iff_eq] at h
    rcases h with ((⟨a, b⟩ | ⟨a, b⟩) | rfl) | rfl
    · exact .inl ⟨by omega, by omega⟩
    · exact .inr (.inl ⟨by omega, by omega⟩)
    · exact .inr (.inr (.inl rfl))
    · exact .inr (.inr (.inr rfl))
  · rw [Bool.eq_false_iff.2 h]
    refine byte_no _ w ?_
    unfold isByte at h
    simp only [Bool.or_eq_true, Bool.and_eq_true, decide_eq_true_eq, beq_iff_eq, not_or] at h
    obtain ⟨⟨⟨h1, h2⟩, h3⟩, h4⟩ := h
    have h3' : c.toNat ≠ 42 := fun e => h3 (UInt8.toNat_inj.1 e)
    have h4' : c.toNat ≠ 62 := fun e => h4 (UInt8.toNat_inj.1 e)
    omega

/-! Trees in memory. -/
def Elems (w : World) (T : Nat → Prop) : Fo → List Value → Prop
  | .nil, xs => xs = []
  | .cons a k r, xs => ∃ A c xs', xs = S a :: .slice A k.len c :: xs' ∧ (k.len = 0 ∨ ∃ b o ys, A = some ⟨b, o, none⟩ ∧ T b ∧ Elems w T k ys ∧ ∀ j u, ys[j]? = some u → w.cell? ⟨b, o + j, none⟩ = some u) ∧ Elems w T r xs'

/-- The slice at A is the list of trees k. -/
def Sl (w : World) (T : Nat → Prop) (A : Option Addr) (k : Fo) : Prop :=
  k.len = 0 ∨ ∃ b o ys, A = some ⟨b, o, none⟩ ∧ T b ∧ Elems w T k ys ∧ ∀ j u, ys[j]? = some u → w.cell? ⟨b, o + j, none⟩ = some u

theorem Elems.mono {w w' : World} {T T' : Nat → Prop} (hT : ∀ b, T b → T' b) (hw : ∀ b, T b → w'.heap[b]? = w.heap[b]?) : ∀ {f : Fo} {xs : List Value}, Elems w T f xs → Elems w' T' f xs := by
  intro f
  induction f with
  | nil => intro xs h; exact h
  | cons a k r ihk ihr =>
    intro xs h
    obtain ⟨A, c, xs', h1, h2, h3⟩ := h
    refine ⟨A, c, xs', h1, ?_, ihr h3⟩
    rcases h2 with h2 | ⟨b, o, ys, g1, g2, g3, g4⟩
    · exact .inl h2
    · exact .inr ⟨b, o, ys, g1, hT b g2, ihk g3, fun j u hj => by rw [← g4 j u hj]; exact World.cell?_of_block (w := w) (hw b g2)⟩

theorem Sl.mono {w w' : World} {T T' : Nat → Prop} {A : Option Addr} {k : Fo} (h : Sl w T A k) (hT : ∀ b, T b → T' b) (hw : ∀ b, T b → w'.heap[b]? = w.heap[b]?) : Sl w' T' A k := by
  rcases h with h2 | ⟨b, o, ys, g1, g2, g3, g4⟩
  · exact .inl h2
  · exact .inr ⟨b, o, ys, g1, hT b g2, g3.mono hT hw, fun j u hj => by rw [← g4 j u hj]; exact World.cell?_of_block (w := w) (hw b g2)⟩

theorem Elems.length {w : World} {T : Nat → Prop} : ∀ {f : Fo} {xs : List Value}, Elems w T f xs → xs.length = f.len * 2 := by
  intro f
  induction f with
  | nil => intro xs h; rw [h]; rfl
  | cons a k r _ ihr =>
    intro xs h
    obtain ⟨A, c, xs', rfl, _, h3⟩ := h
    simp [Fo.len, ihr h3]; omega

theorem Elems.snoc {w : World} {T : Nat → Prop} {a : List UInt8} {k : Fo} {A : Option Addr} {c : Nat} (h : Sl w T A k) : ∀ {f : Fo} {xs : List Value}, Elems w T f xs → Elems w T (f.snoc a k) (xs ++ [S a, .slice A k.len c]) := by
  intro f
  induction f with
  | nil =>
    intro xs h'
    rw [h']
    exact ⟨A, c, [], rfl, h, rfl⟩
  | cons b j r _ ihr =>
    intro xs h'
    obtain ⟨A', c', xs', rfl, h2, h3⟩ := h'
    exact ⟨A', c', xs' ++ [S a, .slice A k.len c], rfl, h2, ihr h3⟩

theorem Elems.one {w : World} {T : Nat → Prop} : ∀ {f : Fo} {xs : List Value}, Elems w T f xs → ∀ u ∈ xs, u.oneCell' = true := by
  intro f
  induction f with
  | nil => intro xs h u hu; rw [h] at hu; cases hu
  | cons b j r _ ihr =>
    intro xs h' u hu
    obtain ⟨A', c', xs', rfl, h2, h3⟩ := h'
    simp only [List.mem_cons] at hu
    rcases hu with rfl | rfl | hu
    · rfl
    · rfl
    · exact ihr h3 u hu
end Go.Proofs.Ythbidlcfahdfhaa
