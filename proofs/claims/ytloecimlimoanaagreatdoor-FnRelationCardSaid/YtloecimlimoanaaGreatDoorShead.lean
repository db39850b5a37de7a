/- Shead · Ssize · Spec -/
import Derived.Test.YtloecimlimoanaaGreatDoorSread
/- Shead -/
namespace Go.Proofs.YtloecimlimoanaaGreatDoor
open Go.RowKit Go.ChangeMaps

/-! The first atom. -/
def headOf (a : List UInt8) (k : Fo) : List UInt8 := if a = [] then (match k with | .nil => [] | .cons b _ _ => b) else []

set_option maxHeartbeats 1000000 in
theorem head_any (w : World) (T : Nat → Prop) (a : List UInt8) (k : Fo) (A : Option Addr) (c : Nat) (h : Sl w T A k) :
    Calls Tryz.prog 96 #[.agg #[S a, .slice A k.len c]] w fun e w' => e = .returned (S (headOf a k)) ∧ Fr No w w' := by
  by_cases ha : a = []
  · subst ha
    match k with
    | .nil =>
      go_enter Tryz.func96, Tryz.ntmps96
      go_wp2
      go_ret
      exact ⟨rfl, (Fr.refl _ _).alloc _⟩
    | .cons b j r =>
      rcases h with h | ⟨g, o, ys, rfl, _, hel, hc⟩
      · simp [Fo.len] at h
      · obtain ⟨A', c', xs', rfl, _, _⟩ := hel
        have h0 : w.cell? ⟨g, o, none⟩ = some (S b) := hc 0 _ rfl
        have hl : g < w.heap.size := block_lt h0
        have n0 : (((Fo.cons b j r).len : Int) == 0) = false := beq_eq_false_iff_ne.2 (by simp [Fo.len]; omega)
        have n1 : 0 < (Fo.cons b j r).len := by simp [Fo.len]
        clear hc
        generalize (Fo.cons b j r).len = n at n0 n1 ⊢
        go_enter Tryz.func96, Tryz.ntmps96
        go_wp2
        go_ret
        exact ⟨rfl, (Fr.refl _ _).alloc _⟩
  · have hae : a.isEmpty = false := by cases a; exact absurd rfl ha; rfl
    have he : headOf a k = [] := by simp [headOf, ha]
    rw [he]
    clear he
    go_enter Tryz.func96, Tryz.ntmps96
    go_wp2
    go_ret
    exact ⟨rfl, (Fr.refl _ _).alloc _⟩

/-- no atom is too long -/
def Fo.atoms : Fo → Prop
  | .nil => True
  | .cons a k r => a.length ≤ 6000 ∧ k.atoms ∧ r.atoms

theorem len3 {k : Fo} (h : k.len = 3) : ∃ a0 k0 a1 k1 a2 k2, k = .cons a0 k0 (.cons a1 k1 (.cons a2 k2 .nil)) := by
  match k with
  | .nil => simp [Fo.len] at h
  | .cons _ _ .nil => simp [Fo.len] at h
  | .cons _ _ (.cons _ _ .nil) => simp [Fo.len] at h
  | .cons a0 k0 (.cons a1 k1 (.cons a2 k2 .nil)) => exact ⟨a0, k0, a1, k1, a2, k2, rfl⟩
  | .cons _ _ (.cons _ _ (.cons _ _ (.cons _ _ _))) => simp [Fo.len] at h

/-- three trees in memory -/
theorem Sl.three {w : World} {T : Nat → Prop} {A : Option Addr} {a0 a1 a2 : List UInt8} {k0 k1 k2 : Fo} (h : Sl w T A (.cons a0 k0 (.cons a1 k1 (.cons a2 k2 .nil)))) :
    ∃ g o A0 c0 A1 c1 A2 c2, A = some ⟨g, o, none⟩ ∧ T g ∧ w.cell? ⟨g, o, none⟩ = some (S a0) ∧ w.cell? ⟨g, o + 1, none⟩ = some (.slice A0 k0.len c0) ∧ w.cell? ⟨g, o + 2, none⟩ = some (S a1) ∧ w.cell? ⟨g, o + 3, none⟩ = some (.slice A1 k1.len c1) ∧
      w.cell? ⟨g, o + 4, none⟩ = some (S a2) ∧ w.cell? ⟨g, o + 5, none⟩ = some (.slice A2 k2.len c2) ∧ Sl w T A0 k0 ∧ Sl w T A1 k1 ∧ Sl w T A2 k2 ∧ g < w.heap.size := by
  rcases h with h | ⟨g, o, ys, rfl, hT, hel, hc⟩
  · simp [Fo.len] at h
  · obtain ⟨A0, c0, x0, rfl, s0, A1, c1, x1, rfl, s1, A2, c2, x2, rfl, s2, rfl⟩ := hel
    have h0 : w.cell? ⟨g, o, none⟩ = some (S a0) := hc 0 _ rfl
    exact ⟨g, o, A0, c0, A1, c1, A2, c2, rfl, hT, h0, hc 1 _ rfl, hc 2 _ rfl, hc 3 _ rfl, hc 4 _ rfl, hc 5 _ rfl, s0, s1, s2, block_lt h0⟩

theorem Sl.fr {w w' : World} {T : Nat → Prop} {A : Option Addr} {k : Fo} (h : Sl w T A k) (hT : ∀ b, T b → b < w.heap.size) (hf : Fr No w w') : Sl w' T A k :=
  h.mono (fun _ h => h) (fun b hb => hf.block b (hT b hb) (fun h => h))

end Go.Proofs.YtloecimlimoanaaGreatDoor

/- Ssize -/
namespace Go.Proofs.YtloecimlimoanaaGreatDoor
open Go.RowKit Go.ChangeMaps

namespace Fo
def nth : Fo → Nat → Option (List UInt8 × Fo)
  | nil, _ => none
  | cons a k _, 0 => some (a, k)
  | cons _ _ r, j + 1 => r.nth j

def sizeTo : Fo → Nat → Nat
  | nil, _ => 0
  | cons _ _ _, 0 => 0
  | cons a k r, j + 1 => treeSize a k + r.sizeTo j

theorem sizeTo_zero (f : Fo) : f.sizeTo 0 = 0 := by cases f <;> rfl

theorem sizeTo_succ : ∀ (f : Fo) (j : Nat) (a : List UInt8) (k : Fo), f.nth j = some (a, k) → f.sizeTo (j + 1) = f.sizeTo j + treeSize a k
  | nil, _, _, _, h => by cases h
  | cons a k r, 0, a', k', h => by
    simp only [nth, Option.some.injEq, Prod.mk.injEq] at h
    obtain ⟨rfl, rfl⟩ := h
    simp [sizeTo, sizeTo_zero]
  | cons a k r, j + 1, a', k', h => by
    have := sizeTo_succ r j a' k' h
    simp only [sizeTo]
    omega

theorem sizeTo_len : ∀ (f : Fo), f.sizeTo f.len = f.size
  | nil => rfl
  | cons a k r => by
    have := sizeTo_len r
    simp only [len, sizeTo, size, treeSize]
    omega

theorem sizeTo_le : ∀ (f : Fo) (j : Nat), f.sizeTo j ≤ f.size
  | nil, _ => Nat.le_refl _
  | cons a k r, 0 => by simp [sizeTo]
  | cons a k r, j + 1 => by
    have := sizeTo_le r j
    simp only [sizeTo, size, treeSize]
    omega

theorem nth_small : ∀ (f : Fo) (j : Nat) (a : List UInt8) (k : Fo), f.nth j = some (a, k) → SizeOf.sizeOf k < SizeOf.sizeOf f
  | nil, _, _, _, h => by cases h
  | cons a k r, 0, a', k', h => by
    simp only [nth, Option.some.injEq, Prod.mk.injEq] at h
    obtain ⟨rfl, rfl⟩ := h
    simp; omega
  | cons a k r, j + 1, a', k', h => by
    have := nth_small r j a' k' h
    simp; omega

theorem nth_size {f : Fo} {j : Nat} {a : List UInt8} {k : Fo} (h : f.nth j = some (a, k)) : treeSize a k ≤ f.size := by
  have h1 := sizeTo_succ f j a k h
  have h2 := sizeTo_le f (j + 1)
  omega
end Fo

theorem Elems.nth {w : World} {T : Nat → Prop} : ∀ {f : Fo} {xs : List Value} (j : Nat), Elems w T f xs → j < f.len →
    ∃ a k A c, f.nth j = some (a, k) ∧ xs[j * 2]? = some (S a) ∧ xs[j * 2 + 1]? = some (.slice A k.len c) ∧ Sl w T A k := by
  intro f
  induction f with
  | nil => intro xs j _ h; simp [Fo.len] at h
  | cons a k r _ ihr =>
    intro xs j h hj
    obtain ⟨A, c, xs', rfl, h2, h3⟩ := h
    cases j with
    | zero => exact ⟨a, k, A, c, rfl, rfl, rfl, h2⟩
    | succ j =>
      obtain ⟨a', k', A', c', g1, g2, g3, g4⟩ := ihr j h3 (by simpa [Fo.len] using hj)
      refine ⟨a', k', A', c', g1, ?_, ?_, g4⟩
      · rw [show (j + 1) * 2 = j * 2 + 1 + 1 by omega]; exact g2
      · rw [show (j + 1) * 2 + 1 = j * 2 + 1 + 1 + 1 by omega]; exact g3

theorem Sl.nth {w : World} {T : Nat → Prop} {A : Option Addr} {k : Fo} (h : Sl w T A k) {j : Nat} (hj : j < k.len) :
    ∃ g o a' k' A' c', A = some ⟨g, o, none⟩ ∧ T g ∧ k.nth j = some (a', k') ∧ w.cell? ⟨g, o + j * 2, none⟩ = some (S a') ∧ w.cell? ⟨g, o + j * 2 + 1, none⟩ = some (.slice A' k'.len c') ∧ Sl w T A' k' := by
  rcases h with h | ⟨g, o, ys, rfl, hT, hel, hc⟩
  · omega
  · obtain ⟨a', k', A', c', g1, g2, g3, g4⟩ := hel.nth j hj
    exact ⟨g, o, a', k', A', c', rfl, hT, g1, hc _ _ g2, by have := hc _ _ g3; rwa [← Nat.add_assoc] at this, g4⟩

theorem ret_int {a b : Int} (h : a = b) : Ending.returned (.int .i64 a) = .returned (.int .i64 b) := by rw [h]

/-- no list is too long -/
def Fo.short : Fo → Prop
  | .nil => True
  | .cons _ k r => k.len ≤ 100000 ∧ k.short ∧ r.short

theorem short_nth : ∀ {f : Fo} {j : Nat} {a : List UInt8} {k : Fo}, f.short → f.nth j = some (a, k) → k.len ≤ 100000 ∧ k.short
  | .nil, _, _, _, _, h => by cases h
  | .cons a k r, 0, a', k', hs, h => by
    simp only [Fo.nth, Option.some.injEq, Prod.mk.injEq] at h
    obtain ⟨rfl, rfl⟩ := h
    exact ⟨hs.1, hs.2.1⟩
  | .cons a k r, j + 1, a', k', hs, h => short_nth (f := r) (j := j) hs.2.2 h

def SizeSaid (k : Fo) : Prop := ∀ (a : List UInt8) (A : Option Addr) (c : Nat) (w : World) (T : Nat → Prop), treeSize a k ≤ 100000 → k.len ≤ 100000 → k.short → (∀ b, T b → b < w.heap.size) → Sl w T A k →
  Calls Tryz.prog 83 #[.agg #[S a, .slice A k.len c]] w fun e w' => e = .returned (.int .i64 (treeSize a k)) ∧ Fr No w w'

set_option maxRecDepth 100000 in
set_option maxHeartbeats 1000000 in
theorem size_node (k : Fo) (hN : ∀ a' k' j, k.nth j = some (a', k') → SizeSaid k') (A : Option Addr) (c : Nat) (w : World) (T : Nat → Prop) (hs : k.size ≤ 100000) (hk : k.len ≤ 100000) (hsh : k.short) (hT : ∀ b, T b → b < w.heap.size) (h : Sl w T A k) :
    Calls Tryz.prog 83 #[.agg #[S [], .slice A k.len c]] w fun e w' => e = .returned (.int .i64 k.size) ∧ Fr No w w' := by
  have HN := Lib.hid hN
  clear hN
  have b0 := Blk.new w 46 #[S [], .slice A k.len c]
  have hk' : (k.len : Int) ≤ 100000 := by omega
  go_enter Tryz.func83, Tryz.ntmps83
  go_wp2_with fail
  go_loopw [3, 4] (fun v i wr => ∃ j : Nat, j ≤ k.len ∧ i = .int .i64 j ∧ v = .int .i64 (k.sizeTo j) ∧ Fr No w wr ∧ Blk wr w.heap.size 46 #[S [], .slice A k.len c]) (fun _ i _ => k.len - (intOf i).toNat)
  case atStart => exact ⟨0, Nat.zero_le _, rfl, by rw [Fo.sizeTo_zero]; rfl, (Fr.refl _ _).alloc _, b0⟩
  case round =>
    obtain ⟨j, hj, rfl, rfl, hfr, hb⟩ := hrel
    have c1 : wr.cell? ⟨w.heap.size, 1, none⟩ = some (.slice A k.len c) := (hb.cell 1).trans rfl
    have hbd := Fo.sizeTo_le k j
    have z1 : (0 : Int) ≤ (k.sizeTo j : Int) := by omega
    have z2 : (k.sizeTo j : Int) ≤ 100000 := by omega
    by_cases hlt : j < k.len
    · obtain ⟨g, o, a', k', A', c', rfl, hg, hn, q0, q1, hsl⟩ := (h.fr hT hfr).nth hlt
      have hsz := Fo.nth_size hn
      have hsucc := Fo.sizeTo_succ k j a' k' hn
      have HS := Lib.hid hsucc
      have hlg := block_lt q0
      have hshort := short_nth hsh hn
      have z3 : (treeSize a' k' : Int) ≤ 100000 := by omega
      clear hsucc hbd
      go_wp2_with fail
      refine (HN.out a' k' j hn a' A' c' wr T (by omega) hshort.1 hshort.2 (fun b hb => Nat.lt_of_lt_of_le (hT b hb) hfr.size) hsl).mono ?_
      rintro e w1 ⟨rfl, hf⟩
      have hb1 := hb.fr hf (fun h => h)
      have c1' : w1.cell? ⟨w.heap.size, 1, none⟩ = some (.slice (some ⟨g, o, none⟩) k.len c) := (hb1.cell 1).trans rfl
      go_wp2
      go_roundw
      case rel => exact ⟨j + 1, by omega, by go_num, by rw [HS.out]; go_num, hfr.trans hf, hb1⟩
      case measure => simp [intOf]; omega
    · have hjl : j = k.len := by omega
      subst hjl
      have HZ : Hid ((k.sizeTo k.len : Int) = k.size) := by rw [Fo.sizeTo_len]; rfl
      go_wp2
      go_ret
      exact ⟨ret_int HZ.out, hfr⟩

theorem size_any (N : Nat) : ∀ k : Fo, SizeOf.sizeOf k < N → SizeSaid k := by
  induction N with
  | zero => intro k h; omega
  | succ N ih =>
    intro k hN a A c w T hs hk hsh hT h
    by_cases he : a = []
    · subst he
      simp only [treeSize, if_true] at hs ⊢
      exact size_node k (fun a' k' j hn => ih k' (by have := Fo.nth_small k j a' k' hn; omega)) A c w T hs hk hsh hT h
    · have hae : a.isEmpty = false := by cases a; exact absurd rfl he; rfl
      simp only [treeSize, if_neg he]
      generalize k.len = n
      clear hs hk hsh h
      go_enter Tryz.func83, Tryz.ntmps83
      go_wp2
      go_ret
      exact ⟨rfl, (Fr.refl _ _).alloc _⟩
end Go.Proofs.YtloecimlimoanaaGreatDoor

/- Spec -/
namespace Go.Proofs.YtloecimlimoanaaGreatDoor
open Go.RowKit Go.ChangeMaps

def TB (f : Fo) : Prop := f.len ≤ f.texts.length + 1 ∧ f.size ≤ f.texts.length ∧ (f.texts.length ≤ 6000 → f.atoms ∧ f.short)

theorem tree_bounds {a : List UInt8} {k : Fo} (h : TB k) (hw : a ≠ [] → k = .nil) :
    1 ≤ (treeText a k).length ∧ treeSize a k ≤ (treeText a k).length ∧ ((treeText a k).length ≤ 6000 → a.length ≤ 6000 ∧ k.atoms ∧ k.len ≤ 100000 ∧ k.short) := by
  obtain ⟨h1, h2, h3⟩ := h
  unfold treeText treeSize
  by_cases ha : a = []
  · subst ha
    simp only [if_true, List.length_cons, List.length_append, List.length_nil]
    refine ⟨by omega, by omega, fun h => ?_⟩
    have h4 := h3 (by omega)
    exact ⟨by omega, h4.1, by omega, h4.2⟩
  · have hk := hw ha
    subst hk
    simp only [if_neg ha]
    have : 0 < a.length := List.length_pos_iff.2 ha
    exact ⟨by omega, by omega, fun h => ⟨h, trivial, by simp [Fo.len], trivial⟩⟩

theorem texts_bounds : ∀ (f : Fo), f.wf → TB f
  | .nil, _ => ⟨by simp [Fo.len], by simp [Fo.size], fun _ => ⟨trivial, trivial⟩⟩
  | .cons a k .nil, hw => by
    obtain ⟨h1, h2, h3⟩ := tree_bounds (a := a) (texts_bounds k hw.2.1) hw.1
    have e : (Fo.cons a k .nil).texts = treeText a k := rfl
    refine ⟨by rw [e]; simp [Fo.len], by rw [e]; simpa [Fo.size, treeSize] using h2, fun h => ?_⟩
    rw [e] at h
    have h4 := h3 h
    exact ⟨⟨h4.1, h4.2.1, trivial⟩, h4.2.2.1, h4.2.2.2, trivial⟩
  | .cons a k (.cons b j r), hw => by
    obtain ⟨h1, h2, h3⟩ := tree_bounds (a := a) (texts_bounds k hw.2.1) hw.1
    obtain ⟨g1, g2, g3⟩ := texts_bounds (.cons b j r) hw.2.2
    have e : (Fo.cons a k (.cons b j r)).texts.length = (treeText a k).length + ((Fo.cons b j r).texts.length + 1) := by
      show (treeText a k ++ 32 :: (Fo.cons b j r).texts).length = _
      simp
    generalize Fo.cons b j r = q at *
    refine ⟨by rw [e]; simp only [Fo.len]; omega, by rw [e]; simp only [Fo.size, treeSize] at h2 ⊢; omega, fun h => ?_⟩
    rw [e] at h
    have h4 := h3 (by omega)
    have g4 := g3 (by omega)
    exact ⟨⟨h4.1, h4.2.1, g4.1⟩, h4.2.2.1, h4.2.2.2, g4.2⟩

/-- A text that is read to its end as a tree. -/
def Parsed (s : List UInt8) (a : List UInt8) (k : Fo) : Prop := s.length ≤ 6000 ∧ rdTree 301 s = some (a, k, [])

theorem Parsed.bounds {s a : List UInt8} {k : Fo} (h : Parsed s a k) : treeSize a k ≤ 6000 ∧ a.length ≤ 6000 ∧ k.atoms ∧ k.len ≤ 100000 ∧ k.short := by
  obtain ⟨w1, w2⟩ := rd_wf _ _ _ _ _ h.2
  obtain ⟨h1, h2, h3⟩ := tree_bounds (a := a) (texts_bounds k w2) w1
  have e := rd_text _ _ _ _ _ h.2
  rw [List.append_nil] at e
  have hl := h.1
  rw [e] at hl
  exact ⟨by omega, h3 hl⟩

/-- What is new. -/
abbrev New (w w' : World) : Nat → Prop := fun b => w.heap.size ≤ b ∧ b < w'.heap.size

def ParseT (w : World) (s : List UInt8) (e : Ending) (w' : World) : Prop :=
  Fr No w w' ∧ ((∃ a k A c, Parsed s a k ∧ e = .returned (.tuple #[.agg #[S a, .slice A k.len c], .bool true]) ∧ Sl w' (New w w') A k) ∨
    (∃ a A m c, (∀ a k, ¬ Parsed s a k) ∧ e = .returned (.tuple #[.agg #[S a, .slice A m c], .bool false])))

theorem ParseT.no {w w' : World} {s a : List UInt8} {A : Option Addr} {m c : Nat} (hf : Fr No w w') (h : ∀ a k, ¬ Parsed s a k) :
    ParseT w s (.returned (.tuple #[.agg #[S a, .slice A m c], .bool false])) w' := ⟨hf, .inr ⟨a, A, m, c, h, rfl⟩⟩

/-- the result's block is laid first, and written at the end -/
theorem res_done {w w1 : World} {o : Obj} {v0 v1 : Value} (hf : Fr No (w.alloc o) w1) : Fr No w ((w1.setCell ⟨w.heap.size, 0, none⟩ v0).setCell ⟨w.heap.size, 1, none⟩ v1) :=
  ((((Fr.refl No w).alloc o).trans hf).setCell (p := ⟨w.heap.size, 0, none⟩) (.inr (Nat.le_refl _)) _).setCell (p := ⟨w.heap.size, 1, none⟩) (.inr (Nat.le_refl _)) _

set_option maxHeartbeats 1000000 in
theorem parse_any (s : List UInt8) (w : World) (hs : s.length ≤ maxLen) :
    Calls Tryz.prog 81 #[S s] w fun e w' => ParseT w s e w' := by
  unfold maxLen at hs
  by_cases hl : 6000 < s.length
  · have hb : decide ((6000 : Int) < (s.length : Int)) = true := by simp; omega
    have hno : ∀ a k, ¬ Parsed s a k := fun a k h => by have := h.1; omega
    have HN := Lib.hid hno
    clear hno
    go_enter Tryz.func81, Tryz.ntmps81
    go_wp2_with fail
    exact bodyPost_ret (v := .tuple #[.agg #[S [], .slice none 0 0], .bool false]) (by simp [results, Tryz.results81, go_sem]) rfl (ParseT.no ((Fr.refl _ _).alloc _) HN.out)
  · have hb : decide ((6000 : Int) < (s.length : Int)) = false := by simp; omega
    have b0 := Blk.new w 46 #[S [], .slice none 0 0]
    go_enter Tryz.func81, Tryz.ntmps81
    go_wp2_with fail
    refine (read_tree s (by omega) 301 0 0 0 _ rfl (by omega) (by omega) (by omega)).mono ?_
    rintro e w1 ⟨hfr, hres⟩
    have b1 := b0.fr hfr (fun h => h)
    have r0 : w1.cell? ⟨w.heap.size, 0, none⟩ = some (S []) := (b1.cell 0).trans rfl
    have r1 : w1.cell? ⟨w.heap.size, 1, none⟩ = some (.slice none 0 0) := (b1.cell 1).trans rfl
    have fr0 := b1.frozen 0
    have fr1 := b1.frozen 1
    have l0 := b1.lt
    have E0 : Hid (∀ v, (w1.setCell ⟨w.heap.size, 0, none⟩ v).cell? ⟨w.heap.size, 0, none⟩ = some v) := fun v => cell_set_same r0 v
    have E1 : Hid (∀ v v', ((w1.setCell ⟨w.heap.size, 0, none⟩ v').setCell ⟨w.heap.size, 1, none⟩ v).cell? ⟨w.heap.size, 1, none⟩ = some v) := fun v v' => cell_set_next r1 v v'
    clear b0 b1
    rw [List.drop_zero] at hres
    rcases hrt : rdTree 301 s with _ | ⟨a, k, r⟩
    · rw [hrt] at hres
      obtain ⟨a, A, m, c, rfl⟩ := hres
      have hno : ∀ a k, ¬ Parsed s a k := fun a k h => by have h2 := h.2; rw [hrt] at h2; cases h2
      have HN := Lib.hid hno
      have nb : ((-1 : Int) == (s.length : Int)) = false := beq_eq_false_iff_ne.2 (by omega)
      clear hno hrt
      go_wp2_with fail
      exact bodyPost_ret (v := .tuple #[.agg #[S a, .slice A m c], .bool false]) (by simp [results, Tryz.results81, go_sem, l0, E0.out, E1.out]) rfl (ParseT.no ((res_done hfr).alloc _) HN.out)
    · rw [hrt] at hres
      obtain ⟨A, c, rfl, hsl, hr, hrl⟩ := hres
      have hsl2 : ∀ v0 v1 o, Sl (((w1.setCell ⟨w.heap.size, 0, none⟩ v0).setCell ⟨w.heap.size, 1, none⟩ v1).alloc o) (New w (((w1.setCell ⟨w.heap.size, 0, none⟩ v0).setCell ⟨w.heap.size, 1, none⟩ v1).alloc o)) A k := by
        intro v0 v1 o
        refine hsl.mono (fun b hb => ⟨by have := hb.1; simp at this; omega, by have := hb.2; simp [World.setCell]; omega⟩) (fun b hb => ?_)
        have h1 := hb.1
        simp at h1
        rw [Below.heap_alloc _ _ _ (by simp [World.setCell]; omega), Below.heap_setCell _ _ _ _ (by show b ≠ w.heap.size; omega), Below.heap_setCell _ _ _ _ (by show b ≠ w.heap.size; omega)]
      have HS := Lib.hid hsl2
      cases r with
      | nil =>
        have hp : Parsed s a k := ⟨by omega, hrt⟩
        have HP := Lib.hid hp
        clear hp hrt hr hsl2 hsl
        go_wp2_with fail
        exact bodyPost_ret (v := .tuple #[.agg #[S a, .slice A k.len c], .bool true]) (by simp [results, Tryz.results81, go_sem, l0, E0.out, E1.out]) rfl
          ⟨(res_done hfr).alloc _, .inl ⟨a, k, A, c, HP.out, rfl, HS.out _ _ _⟩⟩
      | cons x r =>
        have hno : ∀ a k, ¬ Parsed s a k := fun a k h => by have h2 := h.2; rw [hrt] at h2; simp at h2
        have HN := Lib.hid hno
        obtain ⟨q, hq⟩ : ∃ q, q = s.length - (x :: r).length := ⟨_, rfl⟩
        have nb : ((q : Int) == (s.length : Int)) = false := beq_eq_false_iff_ne.2 (by simp at hq hrl; omega)
        rw [← hq]
        clear hno hrt hr hsl2 hsl hq
        go_wp2_with fail
        exact bodyPost_ret (v := .tuple #[.agg #[S a, .slice A k.len c], .bool false]) (by simp [results, Tryz.results81, go_sem, l0, E0.out, E1.out]) rfl (ParseT.no ((res_done hfr).alloc _) HN.out)
end Go.Proofs.YtloecimlimoanaaGreatDoor
