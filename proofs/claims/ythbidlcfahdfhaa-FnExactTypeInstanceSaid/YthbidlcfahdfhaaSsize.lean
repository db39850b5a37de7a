import Derived.Test.YthbidlcfahdfhaaShead
namespace Go.Proofs.Ythbidlcfahdfhaa
open Go.RowKit Go.ChangeMaps

namespace Fo
def nth : Fo → Nat → Option (List UInt8 × Fo)
  | nil, _ => none
  | cons a k _, 0 => some (a, k)
  | cons _ _ r, j + 1 => r.nth j

def sizeTo : Fo → Nat → Nat
  | nil, _ => 0
  | cons _ _ _, 0 => 0
  | cons a k r, j + 1 => treeSize a k + r.sizeTo j

theorem sizeTo_zero (f : Fo) : f.sizeTo 0 = 0 := by cases f <;> rfl

theorem sizeTo_succ : ∀ (f : Fo) (j : Nat) (a : List UInt8) (k : Fo), f.nth j = some (a, k) → f.sizeTo (j + 1) = f.sizeTo j + treeSize a k
  | nil, _, _, _, h => by cases h
  | cons a k r, 0, a', k', h => by
    simp only [nth, Option.some.injEq, Prod.mk.injEq] at h
    obtain ⟨rfl, rfl⟩ := h
    simp [sizeTo, sizeTo_zero]
  | cons a k r, j + 1, a', k', h => by
    have := sizeTo_succ r j a' k' h
    simp only [sizeTo]
    omega

theorem sizeTo_len : ∀ (f : Fo), f.sizeTo f.len = f.size
  | nil => rfl
  | cons a k r => by
    have := sizeTo_len r
    simp only [len, sizeTo, size, treeSize]
    omega

theorem sizeTo_le : ∀ (f : Fo) (j : Nat), f.sizeTo j ≤ f.size
  | nil, _ => Nat.le_refl _
  | cons a k r, 0 => by simp [sizeTo]
  | cons a k r, j + 1 => by
    have := sizeTo_le r j
    simp only [sizeTo, size, treeSize]
    omega

theorem nth_small : ∀ (f : Fo) (j : Nat) (a : List UInt8) (k : Fo), f.nth j = some (a, k) → SizeOf.sizeOf k < SizeOf.sizeOf f
  | nil, _, _, _, h => by cases h
  | cons a k r, 0, a', k', h => by
    simp only [nth, Option.some.injEq, Prod.mk.injEq] at h
    obtain ⟨rfl, rfl⟩ := h
    simp; omega
  | cons a k r, j + 1, a', k', h => by
    have := nth_small r j a' k' h
    simp; omega

theorem nth_size {f : Fo} {j : Nat} {a : List UInt8} {k : Fo} (h : f.nth j = some (a, k)) : treeSize a k ≤ f.size := by
  have h1 := sizeTo_succ f j a k h
  have h2 := sizeTo_le f (j + 1)
  omega
end Fo

theorem Elems.nth {w : World} {T : Nat → Prop} : ∀ {f : Fo} {xs : List Value} (j : Nat), Elems w T f xs → j < f.len →
    ∃ a k A c, f.nth j = some (a, k) ∧ xs[j * 2]? = some (S a) ∧ xs[j * 2 + 1]? = some (.slice A k.len c) ∧ Sl w T A k := by
  intro f
  induction f with
  | nil => intro xs j _ h; simp [Fo.len] at h
  | cons a k r _ ihr =>
    intro xs j h hj
    obtain ⟨A, c, xs', rfl, h2, h3⟩ := h
    cases j with
    | zero => exact ⟨a, k, A, c, rfl, rfl, rfl, h2⟩
    | succ j =>
      obtain ⟨a', k', A', c', g1, g2, g3, g4⟩ := ihr j h3 (by simpa [Fo.len] using hj)
      refine ⟨a', k', A', c', g1, ?_, ?_, g4⟩
      · rw [show (j + 1) * 2 = j * 2 + 1 + 1 by omega]; exact g2
      · rw [show (j + 1) * 2 + 1 = j * 2 + 1 + 1 + 1 by omega]; exact g3

theorem Sl.nth {w : World} {T : Nat → Prop} {A : Option Addr} {k : Fo} (h : Sl w T A k) {j : Nat} (hj : j < k.len) :
    ∃ g o a' k' A' c', A = some ⟨g, o, none⟩ ∧ T g ∧ k.nth j = some (a', k') ∧ w.cell? ⟨g, o + j * 2, none⟩ = some (S a') ∧ w.cell? ⟨g, o + j * 2 + 1, none⟩ = some (.slice A' k'.len c') ∧ Sl w T A' k' := by
  rcases h with h | ⟨g, o, ys, rfl, hT, hel, hc⟩
  · omega
  · obtain ⟨a', k', A', c', g1, g2, g3, g4⟩ := hel.nth j hj
    exact ⟨g, o, a', k', A', c', rfl, hT, g1, hc _ _ g2, by have := hc _ _ g3; rwa [← Nat.add_assoc] at this, g4⟩

theorem ret_int {a b : Int} (h : a = b) : Ending.returned (.int .i64 a) = .returned (.int .i64 b) := by rw [h]

/-- no list is too long -/
def Fo.short : Fo → Prop
  | .nil => True
  | .cons _ k r => k.len ≤ 100000 ∧ k.short ∧ r.short

theorem short_nth : ∀ {f : Fo} {j : Nat} {a : List UInt8} {k : Fo}, f.short → f.nth j = some (a, k) → k.len ≤ 100000 ∧ k.short
  | .nil, _, _, _, _, h => by cases h
  | .cons a k r, 0, a', k', hs, h => by
    simp only [Fo.nth, Option.some.injEq, Prod.mk.injEq] at h
    obtain ⟨rfl, rfl⟩ := h
    exact ⟨hs.1, hs.2.1⟩
  | .cons a k r, j + 1, a', k', hs, h => short_nth (f := r) (j := j) hs.2.2 h

def SizeSaid (k : Fo) : Prop := ∀ (a : List UInt8) (A : Option Addr) (c : Nat) (w : World) (T : Nat → Prop), treeSize a k ≤ 100000 → k.len ≤ 100000 → k.short → (∀ b, T b → b < w.heap.size) → Sl w T A k →
  Calls Try.prog 75 #[.agg #[S a, .slice A k.len c]] w fun e w' => e = .returned (.int .i64 (treeSize a k)) ∧ Fr No w w'

set_option maxRecDepth 100000 in
set_option maxHeartbeats 1000000 in
theorem size_node (k : Fo) (hN : ∀ a' k' j, k.nth j = some (a', k') → SizeSaid k') (A : Option Addr) (c : Nat) (w : World) (T : Nat → Prop) (hs : k.size ≤ 100000) (hk : k.len ≤ 100000) (hsh : k.short) (hT : ∀ b, T b → b < w.heap.size) (h : Sl w T A k) :
    Calls Try.prog 75 #[.agg #[S [], .slice A k.len c]] w fun e w' => e = .returned (.int .i64 k.size) ∧ Fr No w w' := by
  have HN := Lib.hid hN
  clear hN
  have b0 := Blk.new w 49 #[S [], .slice A k.len c]
  have hk' : (k.len : Int) ≤ 100000 := by omega
  go_enter Try.func75, Try.ntmps75
  go_wp2_with fail
  go_loopw [3, 4] (fun v i wr => ∃ j : Nat, j ≤ k.len ∧ i = .int .i64 j ∧ v = .int .i64 (k.sizeTo j) ∧ Fr No w wr ∧ Blk wr w.heap.size 49 #[S [], .slice A k.len c]) (fun _ i _ => k.len - (intOf i).toNat)
  case atStart => exact ⟨0, Nat.zero_le _, rfl, by rw [Fo.sizeTo_zero]; rfl, (Fr.refl _ _).alloc _, b0⟩
  case round =>
    obtain ⟨j, hj, rfl, rfl, hfr, hb⟩ := hrel
    have c1 : wr.cell? ⟨w.heap.size, 1, none⟩ = some (.slice A k.len c) := (hb.cell 1).trans rfl
    have hbd := Fo.sizeTo_le k j
    have z1 : (0 : Int) ≤ (k.sizeTo j : Int) := by omega
    have z2 : (k.sizeTo j : Int) ≤ 100000 := by omega
    by_cases hlt : j < k.len
    · obtain ⟨g, o, a', k', A', c', rfl, hg, hn, q0, q1, hsl⟩ := (h.fr hT hfr).nth hlt
      have hsz := Fo.nth_size hn
      have hsucc := Fo.sizeTo_succ k j a' k' hn
      have HS := Lib.hid hsucc
      have hlg := block_lt q0
      have hshort := short_nth hsh hn
      have z3 : (treeSize a' k' : Int) ≤ 100000 := by omega
      clear hsucc hbd
      go_wp2_with fail
      refine (HN.out a' k' j hn a' A' c' wr T (by omega) hshort.1 hshort.2 (fun b hb => Nat.lt_of_lt_of_le (hT b hb) hfr.size) hsl).mono ?_
      rintro e w1 ⟨rfl, hf⟩
      have hb1 := hb.fr hf (fun h => h)
      have c1' : w1.cell? ⟨w.heap.size, 1, none⟩ = some (.slice (some ⟨g, o, none⟩) k.len c) := (hb1.cell 1).trans rfl
      go_wp2
      go_roundw
      case rel => exact ⟨j + 1, by omega, by go_num, by rw [HS.out]; go_num, hfr.trans hf, hb1⟩
      case measure => simp [intOf]; omega
    · have hjl : j = k.len := by omega
      subst hjl
      have HZ : Hid ((k.sizeTo k.len : Int) = k.size) := by rw [Fo.sizeTo_len]; rfl
      go_wp2
      go_ret
      exact ⟨ret_int HZ.out, hfr⟩

theorem size_any (N : Nat) : ∀ k : Fo, SizeOf.sizeOf k < N → SizeSaid k := by
  induction N with
  | zero => intro k h; omega
  | succ N ih =>
    intro k hN a A c w T hs hk hsh hT h
    by_cases he : a = []
    · subst he
      simp only [treeSize, if_true] at hs ⊢
      exact size_node k (fun a' k' j hn => ih k' (by have := Fo.nth_small k j a' k' hn; omega)) A c w T hs hk hsh hT h
    · have hae : a.isEmpty = false := by cases a; exact absurd rfl he; rfl
      simp only [treeSize, if_neg he]
      generalize k.len = n
      clear hs hk hsh h
      go_enter Try.func75, Try.ntmps75
      go_wp2
      go_ret
      exact ⟨rfl, (Fr.refl _ _).alloc _⟩
end Go.Proofs.Ythbidlcfahdfhaa
