/- Terms of the program in memory. · Tnew -/
import Derived.Test.YtnjgaenhjdjpfaaGreatDoorTrd
import Derived.Maps.AppendAt
/- Terms of the program in memory. -/
namespace Go.Proofs.YtnjgaenhjdjpfaaGreatDoor
open Go.RowKit Go.ChangeMaps

/-- A list of terms: each a head, an atom, a depth, and its parts. -/
inductive Ts where
  | nil
  | cons (h a : List UInt8) (d : Nat) (k : Ts) (r : Ts)

namespace Ts
def len : Ts → Nat
  | nil => 0
  | cons _ _ _ _ r => r.len + 1

def size : Ts → Nat
  | nil => 0
  | cons h _ _ k r => (if bindsB h then 2 else 1) + k.size + r.size

def snoc : Ts → List UInt8 → List UInt8 → Nat → Ts → Ts
  | nil, h, a, d, k => cons h a d k nil
  | cons h' a' d' k' r, h, a, d, k => cons h' a' d' k' (r.snoc h a d k)

theorem len_snoc (f : Ts) (h a : List UInt8) (d : Nat) (k : Ts) : (f.snoc h a d k).len = f.len + 1 := by
  induction f with
  | nil => rfl
  | cons h' a' d' k' r _ ih => simp [snoc, len, ih]

theorem size_snoc (f : Ts) (h a : List UInt8) (d : Nat) (k : Ts) : (f.snoc h a d k).size = f.size + ((if bindsB h then 2 else 1) + k.size) := by
  induction f with
  | nil => simp [snoc, size]
  | cons h' a' d' k' r _ ih => simp [snoc, size, ih]; omega

/-- the term at a place -/
def nth : Ts → Nat → Option (List UInt8 × List UInt8 × Nat × Ts)
  | nil, _ => none
  | cons h a d k _, 0 => some (h, a, d, k)
  | cons _ _ _ _ r, j + 1 => r.nth j

theorem nth_lt : ∀ (f : Ts) (j : Nat), j < f.len → ∃ x, f.nth j = some x
  | nil, j, h => by simp [len] at h
  | cons h a d k r, 0, _ => ⟨_, rfl⟩
  | cons h a d k r, j + 1, hj => nth_lt r j (by simp [len] at hj; omega)

/-- the sizes of the first terms -/
def sizeTo : Ts → Nat → Nat
  | nil, _ => 0
  | _, 0 => 0
  | cons h _ _ k r, j + 1 => (if bindsB h then 2 else 1) + k.size + r.sizeTo j

theorem sizeTo_zero (f : Ts) : f.sizeTo 0 = 0 := by cases f <;> rfl
theorem sizeTo_succ : ∀ (f : Ts) (j : Nat) (h a : List UInt8) (d : Nat) (k : Ts), f.nth j = some (h, a, d, k) → f.sizeTo (j + 1) = f.sizeTo j + ((if bindsB h then 2 else 1) + k.size)
  | nil, _, _, _, _, _, e => by cases e
  | cons h a d k r, 0, h', a', d', k', e => by
    simp only [nth, Option.some.injEq, Prod.mk.injEq] at e
    obtain ⟨rfl, rfl, rfl, rfl⟩ := e
    simp [sizeTo, sizeTo_zero]
  | cons h a d k r, j + 1, h', a', d', k', e => by
    have := sizeTo_succ r j h' a' d' k' e
    simp only [sizeTo]
    omega
theorem sizeTo_len : ∀ f : Ts, f.sizeTo f.len = f.size
  | nil => rfl
  | cons h a d k r => by simp [sizeTo, len, size, sizeTo_len r]
theorem sizeTo_le : ∀ (f : Ts) (j : Nat), f.sizeTo j ≤ f.size
  | nil, _ => by simp [sizeTo]
  | cons h a d k r, 0 => by simp [sizeTo]
  | cons h a d k r, j + 1 => by have := sizeTo_le r j; simp only [sizeTo, size]; omega
end Ts

/-- The pointers xs lead to these terms; all blocks lie in T. -/
def TEl (w : World) (T : Nat → Prop) : Ts → List Value → Prop
  | .nil, xs => xs = []
  | .cons h a d k r, xs => ∃ p A c ys xs', xs = Ptr p :: xs' ∧ T p ∧ Blk w p 78 #[S h, S a, .int .i64 d, .slice A k.len c, .int .i64 ((if bindsB h then 2 else 1) + k.size : Nat)] ∧ TEl w T k ys ∧
      (k.len = 0 ∨ ∃ b o, A = some ⟨b, o, none⟩ ∧ T b ∧ ∀ (j : Nat) u, ys[j]? = some u → w.cell? ⟨b, o + j, none⟩ = some u) ∧ TEl w T r xs'

theorem TEl.mono {w w' : World} {T T' : Nat → Prop} (hT : ∀ b, T b → T' b) (hw : ∀ b, T b → w'.heap[b]? = w.heap[b]?) : ∀ {f : Ts} {xs : List Value}, TEl w T f xs → TEl w' T' f xs := by
  intro f
  induction f with
  | nil => intro xs h; exact h
  | cons h a d k r ihk ihr =>
    intro xs hx
    obtain ⟨p, A, c, ys, xs', e, hp, hb, hk, hs, hr⟩ := hx
    refine ⟨p, A, c, ys, xs', e, hT p hp, hb.keep (hw p hp), ihk hk, ?_, ihr hr⟩
    rcases hs with hs | ⟨b, o, e2, hTb, hc⟩
    · exact .inl hs
    · exact .inr ⟨b, o, e2, hT b hTb, fun j u hj => by rw [← hc j u hj]; exact World.cell?_of_block (w := w) (hw b hTb)⟩

theorem TEl.length {w : World} {T : Nat → Prop} : ∀ {f : Ts} {xs : List Value}, TEl w T f xs → xs.length = f.len := by
  intro f
  induction f with
  | nil => intro xs h; rw [h]; rfl
  | cons h a d k r _ ihr =>
    intro xs hx
    obtain ⟨p, A, c, ys, xs', rfl, _, _, _, _, hr⟩ := hx
    simp [Ts.len, ihr hr]

/-- A term in memory. -/
def Tm (w : World) (T : Nat → Prop) (p : Nat) (h a : List UInt8) (d : Nat) (k : Ts) : Prop := TEl w T (.cons h a d k .nil) [Ptr p]

theorem TEl.snoc {w : World} {T : Nat → Prop} {p : Nat} {h a : List UInt8} {d : Nat} {k : Ts} (hp : Tm w T p h a d k) : ∀ {f : Ts} {xs : List Value}, TEl w T f xs → TEl w T (f.snoc h a d k) (xs ++ [Ptr p]) := by
  intro f
  induction f with
  | nil => intro xs hx; rw [hx]; exact hp
  | cons h' a' d' k' r _ ihr =>
    intro xs hx
    obtain ⟨p', A, c, ys, xs', rfl, h1, h2, h3, h4, hr⟩ := hx
    exact ⟨p', A, c, ys, xs' ++ [Ptr p], rfl, h1, h2, h3, h4, ihr hr⟩

/-- the slice at A holds these terms -/
def TSl (w : World) (T : Nat → Prop) (A : Option Addr) (k : Ts) : Prop := ∃ ys, TEl w T k ys ∧ (k.len = 0 ∨ ∃ b o, A = some ⟨b, o, none⟩ ∧ T b ∧ ∀ (j : Nat) u, ys[j]? = some u → w.cell? ⟨b, o + j, none⟩ = some u)

theorem Tm.open_ {w : World} {T : Nat → Prop} {p : Nat} {h a : List UInt8} {d : Nat} {k : Ts} (hp : Tm w T p h a d k) :
    T p ∧ ∃ A c, Blk w p 78 #[S h, S a, .int .i64 d, .slice A k.len c, .int .i64 ((if bindsB h then 2 else 1) + k.size : Nat)] ∧ TSl w T A k := by
  obtain ⟨p', A, c, ys, xs', e, h1, h2, h3, h4, hr⟩ := hp
  injection e with e1 e2
  injection e1 with e1
  injection e1 with e1
  injection e1 with e1 _ _
  subst e1
  exact ⟨h1, A, c, h2, ys, h3, h4⟩

theorem Tm.mk {w : World} {T : Nat → Prop} {p : Nat} {h a : List UInt8} {d : Nat} {k : Ts} {A : Option Addr} {c : Nat} (hT : T p)
    (hb : Blk w p 78 #[S h, S a, .int .i64 d, .slice A k.len c, .int .i64 ((if bindsB h then 2 else 1) + k.size : Nat)]) (hs : TSl w T A k) : Tm w T p h a d k := by
  obtain ⟨ys, h3, h4⟩ := hs
  exact ⟨p, A, c, ys, [], rfl, hT, hb, h3, h4, rfl⟩

theorem Tm.mono {w w' : World} {T T' : Nat → Prop} {p : Nat} {h a : List UInt8} {d : Nat} {k : Ts} (hp : Tm w T p h a d k) (hT : ∀ b, T b → T' b) (hw : ∀ b, T b → w'.heap[b]? = w.heap[b]?) : Tm w' T' p h a d k := TEl.mono hT hw hp

theorem TSl.mono {w w' : World} {T T' : Nat → Prop} {A : Option Addr} {k : Ts} (hs : TSl w T A k) (hT : ∀ b, T b → T' b) (hw : ∀ b, T b → w'.heap[b]? = w.heap[b]?) : TSl w' T' A k := by
  obtain ⟨ys, h3, h4⟩ := hs
  refine ⟨ys, h3.mono hT hw, ?_⟩
  rcases h4 with h4 | ⟨b, o, e2, hTb, hc⟩
  · exact .inl h4
  · exact .inr ⟨b, o, e2, hT b hTb, fun j u hj => by rw [← hc j u hj]; exact World.cell?_of_block (w := w) (hw b hTb)⟩

/-- the pointer at a place -/
theorem TEl.at_ {w : World} {T : Nat → Prop} : ∀ {f : Ts} {xs : List Value}, TEl w T f xs → ∀ (j : Nat) (h a : List UInt8) (d : Nat) (k : Ts), f.nth j = some (h, a, d, k) → ∃ p, xs[j]? = some (Ptr p) ∧ Tm w T p h a d k := by
  intro f
  induction f with
  | nil => intro xs _ j h a d k e; cases e
  | cons h' a' d' k' r _ ihr =>
    intro xs hx j h a d k e
    obtain ⟨p', A, c, ys, xs', rfl, h1, h2, h3, h4, hr⟩ := hx
    cases j with
    | zero =>
      simp only [Ts.nth, Option.some.injEq, Prod.mk.injEq] at e
      obtain ⟨rfl, rfl, rfl, rfl⟩ := e
      exact ⟨p', rfl, p', A, c, ys, [], rfl, h1, h2, h3, h4, rfl⟩
    | succ j =>
      obtain ⟨p, hp, ht⟩ := ihr hr j h a d k e
      exact ⟨p, by simpa using hp, ht⟩

theorem TSl.at_ {w : World} {T : Nat → Prop} {A : Option Addr} {f : Ts} (hs : TSl w T A f) {j : Nat} (hj : j < f.len) : ∃ b o p h a d k, A = some ⟨b, o, none⟩ ∧ T b ∧ f.nth j = some (h, a, d, k) ∧ w.cell? ⟨b, o + j, none⟩ = some (Ptr p) ∧ Tm w T p h a d k := by
  obtain ⟨ys, h3, h4⟩ := hs
  obtain ⟨⟨h, a, d, k⟩, hn⟩ := Ts.nth_lt f j hj
  obtain ⟨p, hp, ht⟩ := h3.at_ j h a d k hn
  rcases h4 with h4 | ⟨b, o, e2, hTb, hc⟩
  · omega
  · exact ⟨b, o, p, h, a, d, k, e2, hTb, hn, hc j _ hp, ht⟩
end Go.Proofs.YtnjgaenhjdjpfaaGreatDoor

/- Tnew -/
namespace Go.Proofs.YtnjgaenhjdjpfaaGreatDoor
open Go.RowKit Go.ChangeMaps

set_option maxHeartbeats 1000000 in
theorem binds_any (h : List UInt8) (b : Bool) (hb : bindsB h = b) (w : World) :
    Calls Tryz.prog 56 #[S h] w fun e w' => e = .returned (.bool b) ∧ w = w' := by
  subst hb
  by_cases h1 : h = hLam
  · subst h1
    unfold hLam
    go_enter Tryz.func56, Tryz.ntmps56
    go_wp2_with fail
    go_ret
    exact ⟨rfl, rfl⟩
  · have n1 : (h == [108, 97, 109]) = false := by simpa [hLam] using h1
    by_cases h2 : h = hLet
    · subst h2
      unfold hLet at n1 ⊢
      go_enter Tryz.func56, Tryz.ntmps56
      go_wp2_with fail
      go_ret
      exact ⟨rfl, rfl⟩
    · have n2 : (h == [108, 101, 116]) = false := by simpa [hLet] using h2
      have hb : bindsB h = false := by unfold bindsB hLam hLet; rw [n1, n2]; rfl
      rw [hb]
      clear hb h1 h2
      go_enter Tryz.func56, Tryz.ntmps56
      go_wp2_with fail
      go_ret
      exact ⟨rfl, rfl⟩

set_option maxHeartbeats 2000000 in
theorem kids_any (h : List UInt8) (n : Nat) (hn : kidsOf h = n) (w : World) :
    Calls Tryz.prog 75 #[S h] w fun e w' => e = .returned (.int .i64 n) ∧ w = w' := by
  subst hn
  by_cases h1 : h = hLam
  · subst h1
    unfold hLam
    go_enter Tryz.func75, Tryz.ntmps75
    go_wp2_with fail
    go_ret
    exact ⟨rfl, rfl⟩
  have n1 : (h == [108, 97, 109]) = false := by simpa [hLam] using h1
  by_cases h2 : h = hFst
  · subst h2
    unfold hFst at n1 ⊢
    go_enter Tryz.func75, Tryz.ntmps75
    go_wp2_with fail
    go_ret
    exact ⟨rfl, rfl⟩
  have n2 : (h == [102, 115, 116]) = false := by simpa [hFst] using h2
  by_cases h3 : h = hSnd
  · subst h3
    unfold hSnd at n1 n2 ⊢
    go_enter Tryz.func75, Tryz.ntmps75
    go_wp2_with fail
    go_ret
    exact ⟨rfl, rfl⟩
  have n3 : (h == [115, 110, 100]) = false := by simpa [hSnd] using h3
  by_cases h4 : h = hApp
  · subst h4
    unfold hApp at n1 n2 n3 ⊢
    go_enter Tryz.func75, Tryz.ntmps75
    go_wp2_with fail
    go_ret
    exact ⟨rfl, rfl⟩
  have n4 : (h == [97, 112, 112]) = false := by simpa [hApp] using h4
  by_cases h5 : h = hPair
  · subst h5
    unfold hPair at n1 n2 n3 n4 ⊢
    go_enter Tryz.func75, Tryz.ntmps75
    go_wp2_with fail
    go_ret
    exact ⟨rfl, rfl⟩
  have n5 : (h == [112, 97, 105, 114]) = false := by simpa [hPair] using h5
  by_cases h6 : h = hLet
  · subst h6
    unfold hLet at n1 n2 n3 n4 n5 ⊢
    go_enter Tryz.func75, Tryz.ntmps75
    go_wp2_with fail
    go_ret
    exact ⟨rfl, rfl⟩
  have n6 : (h == [108, 101, 116]) = false := by simpa [hLet] using h6
  by_cases h7 : h = hIf
  · subst h7
    unfold hIf at n1 n2 n3 n4 n5 n6 ⊢
    go_enter Tryz.func75, Tryz.ntmps75
    go_wp2_with fail
    go_ret
    exact ⟨rfl, rfl⟩
  have n7 : (h == [105, 102]) = false := by simpa [hIf] using h7
  have hk : kidsOf h = 0 := by
    have e : shapeOf h = [] := by simp [shapeOf, h1, h2, h3, h4, h5, h6, h7]
    simp [kidsOf, e]
  rw [hk]
  clear hk h1 h2 h3 h4 h5 h6 h7
  go_enter Tryz.func75, Tryz.ntmps75
  go_wp2_with fail
  go_ret
  exact ⟨rfl, rfl⟩

/-- what was told, or what is new -/
def TN (T : Nat → Prop) (w w' : World) : Nat → Prop := fun b => T b ∨ (w.heap.size ≤ b ∧ b < w'.heap.size)

def NewPost (T : Nat → Prop) (h a : List UInt8) (k : Ts) (w : World) (e : Ending) (w' : World) : Prop := ∃ p, e = .returned (Ptr p) ∧ Fr No w w' ∧ w.heap.size ≤ p ∧ Tm w' (TN T w w') p h a 0 k

theorem new_done {w wr : World} {T : Nat → Prop} {h a : List UInt8} {k : Ts} {A : Option Addr} {c : Nat} {n : Int} (hT : ∀ b, T b → b < w.heap.size) (hs : TSl w T A k) (hf : Fr No w wr)
    (hn : n = ((if bindsB h then 2 else 1) + k.size : Nat)) (hb : Blk wr w.heap.size 78 #[S h, S a, .int .i64 0, .slice A k.len c, .int .i64 n]) :
    NewPost T h a k w (.returned (Ptr w.heap.size)) wr := by
  subst hn
  refine ⟨_, rfl, hf, Nat.le_refl _, Tm.mk (.inr ⟨Nat.le_refl _, hb.lt⟩) hb (hs.mono (fun b hb => .inl hb) (fun b hb => hf.block b (hT b hb) (fun h => h)))⟩

set_option maxRecDepth 100000 in
set_option maxHeartbeats 2000000 in
theorem new_loop (w : World) (T : Nat → Prop) (h a : List UInt8) (k : Ts) (A : Option Addr) (c : Nat) (hT : ∀ b, T b → b < w.heap.size) (hs : TSl w T A k) (hsz : k.size ≤ 100000) (hkl : k.len ≤ 100000) (bb : Bool) (hbb : bindsB h = bb) :
    Calls Tryz.prog 51 #[S h, S a, .slice A k.len c] w fun e w' => NewPost T h a k w e w' := by
  have b0 := Blk.new w 78 #[S h, S a, .int .i64 0, .slice A k.len c, .int .i64 1]
  have hf0 : Fr No w (w.alloc (.cells #[S h, S a, .int .i64 0, .slice A k.len c, .int .i64 1] 78)) := (Fr.refl _ _).alloc _
  have hl : (k.len : Int) ≤ 100000 := by omega
  have HB := Lib.hid hbb
  obtain ⟨base, hbase⟩ : ∃ base : Nat, base = (if bindsB h then 2 else 1) := ⟨_, rfl⟩
  have hb2 : base ≤ 2 := by rw [hbase]; split <;> omega
  have FIN : Hid (∀ wr, Fr No w wr → Blk wr w.heap.size 78 #[S h, S a, .int .i64 0, .slice A k.len c, .int .i64 ((base + k.sizeTo k.len : Nat) : Int)] → NewPost T h a k w (.returned (Ptr w.heap.size)) wr) := by
    intro wr hf hb
    rw [Ts.sizeTo_len] at hb
    exact new_done hT hs hf (by rw [hbase]) hb
  have KID : Hid (∀ wr j, Fr No w wr → j < k.len → ∃ b o p n, A = some ⟨b, o, none⟩ ∧ wr.cell? ⟨b, o + j, none⟩ = some (Ptr p) ∧ wr.cell? ⟨p, 4, none⟩ = some (.int .i64 (n : Nat)) ∧ k.sizeTo (j + 1) = k.sizeTo j + n ∧ p < wr.heap.size ∧ b < wr.heap.size ∧ p ≠ w.heap.size) := by
    intro wr j hf hj
    obtain ⟨b, o, p, h', a', d', k', e, hTb, hn, hc, ht⟩ := hs.at_ hj
    obtain ⟨hTp, A', c', hbk, _⟩ := ht.open_
    have hbl := hT b hTb
    have hpl := hT p hTp
    refine ⟨b, o, p, _, e, (hf.cell (p := ⟨b, o + j, none⟩) hbl (fun h => h)).trans hc, (hf.cell (p := ⟨p, 4, none⟩) hpl (fun h => h)).trans ((hbk.cell 4).trans rfl), Ts.sizeTo_succ k j h' a' d' k' hn, Nat.lt_of_lt_of_le hpl hf.size, Nat.lt_of_lt_of_le hbl hf.size, by omega⟩
  have LE : Hid (∀ j, k.sizeTo j ≤ 100000) := fun j => Nat.le_trans (Ts.sizeTo_le k j) hsz
  rw [hbb] at hbase
  clear hs hbb hsz
  go_enter Tryz.func51, Tryz.ntmps51
  go_wp2_with fail
  refine (binds_any h bb HB.out _).mono ?_
  rintro e w' ⟨rfl, rfl⟩
  generalize w.alloc (.cells #[S h, S a, .int .i64 0, .slice A k.len c, .int .i64 1] 78) = W at b0 hf0 ⊢
  have d4 : W.cell? ⟨w.heap.size, 4, none⟩ = some (.int .i64 1) := (b0.cell 4).trans rfl
  have f4 := b0.frozen 4
  have l0 := b0.lt
  generalize hkn : k.len = n at *
  have HKN := Lib.hid hkn
  clear hkn
  cases bb
  · have b1 : Hid (Blk W w.heap.size 78 #[S h, S a, .int .i64 0, .slice A n c, .int .i64 ((base + k.sizeTo 0 : Nat) : Int)]) := by
      show Blk _ _ _ _
      rw [Ts.sizeTo_zero, hbase]; exact b0
    have HF := Lib.hid hf0
    clear b0 hf0 hbase
    go_wp2_with fail
    clear d4 f4 l0
    go_loopw [9, 26] (fun _ u wr => ∃ j : Nat, j ≤ n ∧ u = .int .i64 j ∧ Fr No w wr ∧ Blk wr w.heap.size 78 #[S h, S a, .int .i64 0, .slice A n c, .int .i64 ((base + k.sizeTo j : Nat) : Int)]) (fun _ u _ => n - (intOf u).toNat)
    case atStart => exact ⟨0, Nat.zero_le _, rfl, HF.out, b1.out⟩
    case round =>
      obtain ⟨j, hj, rfl, hfr, hb⟩ := hrel
      by_cases hlt : j < n
      · obtain ⟨b, o, p, m, rfl, hc, h4, hstep, hpl, hbl, hne⟩ := KID.out wr j hfr hlt
        have e4 : wr.cell? ⟨w.heap.size, 4, none⟩ = some (.int .i64 ((base + k.sizeTo j : Nat) : Int)) := (hb.cell 4).trans rfl
        have g4 := hb.frozen 4
        have l4 := hb.lt
        have hs1 := LE.out (j + 1)
        have hw : IntKind.i64.wrap (((base + k.sizeTo j : Nat) : Int) + (m : Int)) = ((base + k.sizeTo (j + 1) : Nat) : Int) := by rw [IntWalk.i64_in _ (by omega)]; omega
        have hb2 : Hid (Blk ((wr.setCell ⟨w.heap.size, 4, none⟩ (.int .i64 ((base + k.sizeTo (j + 1) : Nat) : Int))).drew) w.heap.size 78 #[S h, S a, .int .i64 0, .slice (some ⟨b, o, none⟩) n c, .int .i64 ((base + k.sizeTo (j + 1) : Nat) : Int)]) := (Blk.set_ hb 4 _).drew
        have hf2 : Hid (Fr No w ((wr.setCell ⟨w.heap.size, 4, none⟩ (.int .i64 ((base + k.sizeTo (j + 1) : Nat) : Int))).drew)) := (hfr.setCell (p := ⟨w.heap.size, 4, none⟩) (.inr (Nat.le_refl _)) _).drew
        clear hstep hs1 hb hfr
        generalize hx : ((base + k.sizeTo (j + 1) : Nat) : Int) = x at *
        have HX := Lib.hid hx
        clear hx
        generalize ((base + k.sizeTo j : Nat) : Int) = y at *
        go_wp2_with fail
        go_region
        all_goals go_wp2_with fail
        exact ⟨⟨j + 1, by omega, by go_num, hf2.out, by rw [HX.out]; exact hb2.out⟩, by simp [intOf]; omega⟩
      · have hjn : j = n := by omega
        subst hjn
        have HH := Lib.hid (FIN.out wr hfr hb)
        clear hb hfr
        go_wp2_with fail
        go_ret
        exact HH.out
  · have b1 : Hid (Blk (W.setCell ⟨w.heap.size, 4, none⟩ (.int .i64 2)) w.heap.size 78 #[S h, S a, .int .i64 0, .slice A n c, .int .i64 ((base + k.sizeTo 0 : Nat) : Int)]) := by
      show Blk _ _ _ _
      rw [Ts.sizeTo_zero, hbase]; exact Blk.set_ b0 4 (.int .i64 2)
    have HF := Lib.hid (hf0.setCell (p := ⟨w.heap.size, 4, none⟩) (.inr (Nat.le_refl _)) (.int .i64 2))
    clear b0 hf0 hbase
    go_wp2_with fail
    clear d4 f4 l0
    generalize W.setCell ⟨w.heap.size, 4, none⟩ (.int .i64 2) = W at *
    go_loopw [9, 26] (fun _ u wr => ∃ j : Nat, j ≤ n ∧ u = .int .i64 j ∧ Fr No w wr ∧ Blk wr w.heap.size 78 #[S h, S a, .int .i64 0, .slice A n c, .int .i64 ((base + k.sizeTo j : Nat) : Int)]) (fun _ u _ => n - (intOf u).toNat)
    case atStart => exact ⟨0, Nat.zero_le _, rfl, HF.out, b1.out⟩
    case round =>
      obtain ⟨j, hj, rfl, hfr, hb⟩ := hrel
      by_cases hlt : j < n
      · obtain ⟨b, o, p, m, rfl, hc, h4, hstep, hpl, hbl, hne⟩ := KID.out wr j hfr hlt
        have e4 : wr.cell? ⟨w.heap.size, 4, none⟩ = some (.int .i64 ((base + k.sizeTo j : Nat) : Int)) := (hb.cell 4).trans rfl
        have g4 := hb.frozen 4
        have l4 := hb.lt
        have hs1 := LE.out (j + 1)
        have hw : IntKind.i64.wrap (((base + k.sizeTo j : Nat) : Int) + (m : Int)) = ((base + k.sizeTo (j + 1) : Nat) : Int) := by rw [IntWalk.i64_in _ (by omega)]; omega
        have hb2 : Hid (Blk ((wr.setCell ⟨w.heap.size, 4, none⟩ (.int .i64 ((base + k.sizeTo (j + 1) : Nat) : Int))).drew) w.heap.size 78 #[S h, S a, .int .i64 0, .slice (some ⟨b, o, none⟩) n c, .int .i64 ((base + k.sizeTo (j + 1) : Nat) : Int)]) := (Blk.set_ hb 4 _).drew
        have hf2 : Hid (Fr No w ((wr.setCell ⟨w.heap.size, 4, none⟩ (.int .i64 ((base + k.sizeTo (j + 1) : Nat) : Int))).drew)) := (hfr.setCell (p := ⟨w.heap.size, 4, none⟩) (.inr (Nat.le_refl _)) _).drew
        clear hstep hs1 hb hfr
        generalize hx : ((base + k.sizeTo (j + 1) : Nat) : Int) = x at *
        have HX := Lib.hid hx
        clear hx
        generalize ((base + k.sizeTo j : Nat) : Int) = y at *
        go_wp2_with fail
        go_region
        all_goals go_wp2_with fail
        exact ⟨⟨j + 1, by omega, by go_num, hf2.out, by rw [HX.out]; exact hb2.out⟩, by simp [intOf]; omega⟩
      · have hjn : j = n := by omega
        subst hjn
        have HH := Lib.hid (FIN.out wr hfr hb)
        clear hb hfr
        go_wp2_with fail
        go_ret
        exact HH.out

theorem newTerm_any (w : World) (T : Nat → Prop) (h a : List UInt8) (k : Ts) (A : Option Addr) (c : Nat) (hT : ∀ b, T b → b < w.heap.size) (hs : TSl w T A k) (hsz : k.size ≤ 100000) (hkl : k.len ≤ 100000) :
    Calls Tryz.prog 51 #[S h, S a, .slice A k.len c] w fun e w' => NewPost T h a k w e w' :=
  new_loop w T h a k A c hT hs hsz hkl _ rfl
end Go.Proofs.YtnjgaenhjdjpfaaGreatDoor
