/- Places in a term: contexts, what is put at a place, the redexes ahead of a place. -/
import Derived.Test.YtnjgaenhjdjpfaaGreatDoorTst
import Derived.Test.YtnjgaenhjdjpfaaGreatDoorTpb
import Derived.Deep.LoopGhost
import Derived.Deep.QuietTactic
import Derived.BigQuiet
namespace Go.Proofs.YtnjgaenhjdjpfaaGreatDoor
open Go.RowKit Go.ChangeMaps

/-- a term with a part that is left out -/
structure ZF where
  h : List UInt8
  a : List UInt8
  d : Nat
  k : Ts
  j : Nat

abbrev ZF.node (f : ZF) : Ts := .cons f.h f.a f.d f.k .nil

namespace Ts
def setAt : Ts → Nat → Ts → Ts
  | nil, _, _ => nil
  | cons _ _ _ _ r, 0, x => x.app r
  | cons h a d k r, j + 1, x => cons h a d k (r.setAt j x)
/-- nodes -/
def nods : Ts → Nat
  | nil => 0
  | cons _ _ _ k r => 1 + k.nods + r.nods
def nTo : Ts → Nat → Nat
  | nil, _ => 0
  | cons _ _ _ _ _, 0 => 0
  | cons _ _ _ k r, j + 1 => 1 + k.nods + r.nTo j
end Ts

/-- the whole term with a term at the place -/
def plugZ : List ZF → Ts → Ts
  | [], x => x
  | f :: fs, x => plugZ fs (.cons f.h f.a 0 (f.k.setAt f.j x) .nil)

def cTo : Ts → Nat → Nat
  | .nil, _ => 0
  | .cons _ _ _ _ _, 0 => 0
  | .cons h _ _ k r, j + 1 => rx1 h k + cR k + cTo r j

/-- the redexes ahead of a place -/
def befZ : List ZF → Nat
  | [] => 0
  | f :: fs => befZ fs + rx1 f.h f.k + cTo f.k f.j
/-- the nodes ahead of a place -/
def befN : List ZF → Nat
  | [] => 0
  | f :: fs => befN fs + 1 + f.k.nTo f.j

/-- contexts that lead from a term to its part -/
def okZ (t : Ts) : List ZF → Ts → Prop
  | [], x => x = t
  | f :: fs, x => f.k.one f.j = x ∧ f.j < f.k.len ∧ okZ t fs f.node

theorem okZ.wf {t : Ts} (ht : WfT t) : ∀ {fs : List ZF} {x : Ts}, okZ t fs x → WfT x
  | [], _, h => by rw [h]; exact ht
  | f :: fs, _, h => by
    have := okZ.wf ht h.2.2
    rw [← h.1]
    exact wf_one _ _ this.2.2.1

theorem okZ.len {t : Ts} (ht : t.len = 1) : ∀ {fs : List ZF} {x : Ts}, okZ t fs x → x.len = 1
  | [], _, h => by rw [h]; exact ht
  | f :: fs, _, h => by rw [← h.1]; exact one_len _ _ h.2.1

theorem cTo_le : ∀ (k : Ts) (j : Nat), cTo k j + cR (k.one j) ≤ cR k
  | .nil, _ => by simp [cTo, Ts.one, cR]
  | .cons h a d k r, 0 => by simp only [cTo, Ts.one, cR]; omega
  | .cons h a d k r, j + 1 => by have := cTo_le r j; simp only [cTo, Ts.one, cR]; omega

theorem cTo_succ : ∀ (k : Ts) (j : Nat), j < k.len → cTo k (j + 1) = cTo k j + cR (k.one j)
  | .nil, _, h => by simp [Ts.len] at h
  | .cons h a d k r, 0, _ => by
    have e : cTo r 0 = 0 := by cases r <;> rfl
    simp only [cTo, Ts.one, cR, e]; omega
  | .cons h a d k r, j + 1, hj => by
    have := cTo_succ r j (by simp only [Ts.len] at hj; omega)
    simp only [cTo, Ts.one] at this ⊢
    omega

theorem cTo_len : ∀ k : Ts, cTo k k.len = cR k
  | .nil => rfl
  | .cons h a d k r => by simp only [Ts.len, cTo, cR, cTo_len r]

theorem nTo_succ : ∀ (k : Ts) (j : Nat), j < k.len → k.nTo (j + 1) = k.nTo j + (k.one j).nods
  | .nil, _, h => by simp [Ts.len] at h
  | .cons h a d k r, 0, _ => by
    have e : r.nTo 0 = 0 := by cases r <;> rfl
    simp only [Ts.nTo, Ts.one, Ts.nods, e]; omega
  | .cons h a d k r, j + 1, hj => by
    have := nTo_succ r j (by simp only [Ts.len] at hj; omega)
    simp only [Ts.nTo, Ts.one] at this ⊢
    omega

theorem nTo_len : ∀ k : Ts, k.nTo k.len = k.nods
  | .nil => rfl
  | .cons h a d k r => by simp only [Ts.len, Ts.nTo, Ts.nods, nTo_len r]

theorem nods_size : ∀ t : Ts, t.nods ≤ t.size
  | .nil => Nat.le_refl _
  | .cons h a d k r => by
    have h1 := nods_size k
    have h2 := nods_size r
    simp only [Ts.nods, Ts.size]
    split <;> omega

/-- a step in a part is a step of the whole -/
theorem st_at : ∀ (k : Ts) (j n : Nat), n < cR (k.one j) → stF k (cTo k j + n) = k.setAt j (stF (k.one j) n)
  | .nil, _, n, h => by simp [Ts.one, cR] at h
  | .cons h a d k r, 0, n, hn => by
    simp only [Ts.one, cR, Nat.add_zero] at hn
    simp only [cTo, Nat.zero_add, Ts.one, Ts.setAt, stF, if_pos hn]
    split
    · rw [Ts.app_nil]
    · rfl
  | .cons h a d k r, j + 1, n, hn => by
    have := st_at r j n hn
    rw [show cTo (Ts.cons h a d k r) (j + 1) + n = rx1 h k + cR k + (cTo r j + n) from by simp only [cTo]; omega]
    simp only [Ts.one, Ts.setAt, stF]
    rw [if_neg (by omega), show rx1 h k + cR k + (cTo r j + n) - (rx1 h k + cR k) = cTo r j + n by omega, this]

theorem wf_d {h a : List UInt8} {d : Nat} {k r : Ts} (hw : WfT (.cons h a d k r)) (h0 : k.len ≠ 0) : d = 0 := (hw.2.1 h0).1

theorem st_plug {t : Ts} (ht : WfT t) : ∀ (fs : List ZF) (x : Ts) (n : Nat), okZ t fs x → n < cR x → plugZ fs (stF x n) = stF t (befZ fs + n)
  | [], x, n, h, _ => by rw [h]; simp [plugZ, befZ]
  | f :: fs, x, n, h, hn => by
    have hw := okZ.wf ht h.2.2
    have h0 : f.k.len ≠ 0 := by have := h.2.1; omega
    have hd := wf_d hw h0
    have hx := h.1
    subst hx
    have hle := cTo_le f.k f.j
    have e1 : plugZ (f :: fs) (stF (f.k.one f.j) n) = plugZ fs (stF f.node (rx1 f.h f.k + cTo f.k f.j + n)) := by
      simp only [plugZ, stF]
      rw [if_pos (by omega), if_neg (fun c => by have := c.1; simp only [rx1, this, if_true] at c; omega), show rx1 f.h f.k + cTo f.k f.j + n - rx1 f.h f.k = cTo f.k f.j + n by omega, st_at _ _ _ hn, hd]
    have hlt : rx1 f.h f.k + cTo f.k f.j + n < cR f.node := by simp only [cR]; omega
    rw [e1, st_plug ht fs _ _ h.2.2 hlt]
    simp only [befZ]
    congr 1; omega

/-- leaves are no redexes -/
theorem leaf_rx {h a : List UInt8} {d : Nat} {k : Ts} (hw : WfT (.cons h a d k .nil)) (h0 : k.len = 0) : rx1 h k = 0 ∧ cR (.cons h a d k .nil) = 0 ∧ (Ts.cons h a d k .nil).nods = 1 := by
  have hk := len_nil h0
  subst hk
  have e : rx1 h .nil = 0 := by
    unfold rx1
    rw [if_neg]
    intro hx
    have hk := hw.1
    simp only [Ts.len] at hk
    rcases rx_cases hx with rfl | ⟨rfl, _⟩ | ⟨rfl, _⟩ | ⟨rfl, _⟩ | ⟨rfl, _⟩ <;> exact absurd hk (by decide)
  simp only [cR, e, Ts.nods, Nat.add_zero, and_self]

/-- behind a place whose part ends: the place behind, or the end -/
theorem okZ.climb {t : Ts} {f : ZF} {fs : List ZF} {x : Ts} (h : okZ t (f :: fs) x) (hj : f.j + 1 = f.k.len) : befZ (f :: fs) + cR x = befZ fs + cR f.node ∧ befN (f :: fs) + x.nods = befN fs + f.node.nods := by
  have h1 := cTo_succ f.k f.j h.2.1
  have h2 := nTo_succ f.k f.j h.2.1
  rw [hj, cTo_len, h.1] at h1
  rw [hj, nTo_len, h.1] at h2
  refine ⟨?_, ?_⟩
  · simp only [befZ, cR]; omega
  · simp only [befN, Ts.nods]; omega

theorem okZ.side {t : Ts} {f : ZF} {fs : List ZF} {x : Ts} (h : okZ t (f :: fs) x) (hj : f.j + 1 < f.k.len) :
    okZ t ({ f with j := f.j + 1 } :: fs) (f.k.one (f.j + 1)) ∧ befZ ({ f with j := f.j + 1 } :: fs) = befZ (f :: fs) + cR x ∧ befN ({ f with j := f.j + 1 } :: fs) = befN (f :: fs) + x.nods := by
  have h1 := cTo_succ f.k f.j h.2.1
  have h2 := nTo_succ f.k f.j h.2.1
  rw [h.1] at h1 h2
  refine ⟨⟨rfl, hj, h.2.2⟩, ?_, ?_⟩
  · simp only [befZ]; omega
  · simp only [befN]; omega

theorem okZ.down {t : Ts} {fs : List ZF} {h a : List UInt8} {d : Nat} {k : Ts} (hz : okZ t fs (.cons h a d k .nil)) (h0 : 0 < k.len) :
    okZ t (⟨h, a, d, k, 0⟩ :: fs) (k.one 0) ∧ befZ (⟨h, a, d, k, 0⟩ :: fs) = befZ fs + rx1 h k ∧ befN (⟨h, a, d, k, 0⟩ :: fs) = befN fs + 1 := by
  have e : cTo k 0 = 0 := by cases k <;> rfl
  have e2 : k.nTo 0 = 0 := by cases k <;> rfl
  exact ⟨⟨rfl, h0, hz⟩, by simp only [befZ, e, Nat.add_zero], by simp only [befN, e2, Nat.add_zero]⟩

theorem one_of_nth : ∀ (k : Ts) (j : Nat) (h a : List UInt8) (d : Nat) (k' : Ts), k.nth j = some (h, a, d, k') → k.one j = .cons h a d k' .nil
  | .nil, _, _, _, _, _, e => by cases e
  | .cons _ _ _ _ _, 0, _, _, _, _, e => by
    simp only [Ts.nth, Option.some.injEq, Prod.mk.injEq] at e
    obtain ⟨rfl, rfl, rfl, rfl⟩ := e
    rfl
  | .cons _ _ _ _ r, j + 1, h, a, d, k', e => one_of_nth r j h a d k' e

theorem befN_lt {t : Ts} : ∀ {fs : List ZF} {x : Ts}, okZ t fs x → befN fs + x.nods ≤ t.nods
  | [], x, h => by rw [h]; simp [befN]
  | f :: fs, x, h => by
    have h1 := befN_lt h.2.2
    have h2 := nTo_succ f.k f.j h.2.1
    rw [h.1] at h2
    have h3 : ∀ (k : Ts) (j : Nat), k.nTo j ≤ k.nods := by
      intro k
      induction k with
      | nil => intro j; simp [Ts.nTo]
      | cons h a d k r _ ih =>
        intro j
        cases j with
        | zero => simp [Ts.nTo]
        | succ j => have := ih j; simp only [Ts.nTo, Ts.nods]; omega
    have h4 := h3 f.k (f.j + 1)
    simp only [befN, Ts.nods] at h1 ⊢
    omega

/- In memory. -/

/-- the part with an index -/
theorem Tm.kid {w : World} {T : Nat → Prop} {p : Nat} {h a : List UInt8} {d : Nat} {k : Ts} (ht : Tm w T p h a d k) (h0 : 0 < k.len) :
    ∃ g o c, w.cell? ⟨p, 3, none⟩ = some (.slice (some ⟨g, o, none⟩) k.len c) ∧ T g ∧ g < w.heap.size ∧ ∀ j, j < k.len → ∃ q h' a' d' k', k.nth j = some (h', a', d', k') ∧ k.one j = .cons h' a' d' k' .nil ∧ w.cell? ⟨g, o + j, none⟩ = some (Ptr q) ∧ Tm w T q h' a' d' k' := by
  obtain ⟨hp, A, c, hb, hs⟩ := ht.open_
  obtain ⟨g, o, q, h', a', d', k', rfl, hg, hn, hc, htm⟩ := hs.at_ h0
  refine ⟨g, o, c, (hb.cell 3).trans rfl, hg, block_lt hc, fun j hj => ?_⟩
  obtain ⟨g2, o2, q, h', a', d', k', e, hg, hn, hc, htm⟩ := hs.at_ hj
  simp only [Option.some.injEq, Addr.mk.injEq, and_true] at e
  obtain ⟨rfl, rfl⟩ := e
  exact ⟨q, h', a', d', k', hn, one_of_nth _ _ _ _ _ _ hn, hc, htm⟩

theorem Tm.head {w : World} {T : Nat → Prop} {p : Nat} {h a : List UInt8} {d : Nat} {k : Ts} (ht : Tm w T p h a d k) : w.cell? ⟨p, 0, none⟩ = some (S h) ∧ w.cell? ⟨p, 1, none⟩ = some (S a) ∧ p < w.heap.size ∧ w.cell? ⟨p, 4, none⟩ = some (.int .i64 ((if bindsB h then 2 else 1) + k.size : Nat)) := by
  obtain ⟨hp, A, c, hb, hs⟩ := ht.open_
  exact ⟨(hb.cell 0).trans rfl, (hb.cell 1).trans rfl, hb.lt, (hb.cell 4).trans rfl⟩

set_option maxRecDepth 100000 in
set_option maxHeartbeats 2000000 in
theorem isRedex_any (w : World) (T : Nat → Prop) (p : Nat) (h a : List UInt8) (d : Nat) (k : Ts) (ht : Tm w T p h a d k) (hw : WfT (.cons h a d k .nil)) (hs : k.len ≤ 5000) :
    Calls Tryz.prog 65 #[Ptr p] w fun e w' => e = .returned (.bool (rxT h k)) ∧ w = w' := by
  obtain ⟨c0, _, hlt, _⟩ := ht.head
  by_cases h1 : h = hLet
  · subst h1
    have e : rxT hLet k = true := rfl
    rw [e]
    unfold hLet at c0
    clear ht hw
    go_enter Tryz.func65, Tryz.ntmps65
    go_wp2_with fail
    go_ret
    exact ⟨rfl, rfl⟩
  have n1 : (h == [108, 101, 116]) = false := by simpa [hLet] using h1
  have K : 0 < k.len → ∃ g o c q h0, w.cell? ⟨p, 3, none⟩ = some (.slice (some ⟨g, o, none⟩) k.len c) ∧ w.cell? ⟨g, o, none⟩ = some (Ptr q) ∧ w.cell? ⟨q, 0, none⟩ = some (S h0) ∧ k.hd = h0 ∧ g < w.heap.size ∧ q < w.heap.size ∧ (0 : Int) < (k.len : Int) := by
    intro h0
    obtain ⟨g, o, c, x1, _, x2, x3⟩ := ht.kid h0
    obtain ⟨q, h', a', d', k', y1, _, y2, y3⟩ := x3 0 h0
    obtain ⟨z0, _, z1, _⟩ := y3.head
    refine ⟨g, o, c, q, h', x1, y2, z0, ?_, x2, z1, by omega⟩
    cases k with
    | nil => cases y1
    | cons =>
      simp only [Ts.nth, Option.some.injEq, Prod.mk.injEq] at y1
      exact y1.1
  have hk := hw.1
  have hl : (k.len : Int) ≤ 5000 := by omega
  by_cases h2 : h = hApp
  · subst h2
    rw [k_app] at hk
    obtain ⟨g, o, c, q, h0, c3, q0, r0, e0, lg, lq, lk⟩ := K (by omega)
    have e : rxT hApp k = (h0 == [108, 97, 109]) := by
      simp only [rxT, e0, show (hApp == hLet) = false from by decide, show (hApp == hApp) = true from by decide, show (hApp == hFst) = false from by decide, show (hApp == hSnd) = false from by decide, show (hApp == hIf) = false from by decide, Bool.false_or, Bool.true_and, Bool.false_and, Bool.or_false]
      rfl
    rw [e]
    unfold hApp at c0 n1
    clear ht hw K hk e h1 e0
    go_enter Tryz.func65, Tryz.ntmps65
    go_wp2_with fail
    go_ret
    exact ⟨rfl, rfl⟩
  have n2 : (h == [97, 112, 112]) = false := by simpa [hApp] using h2
  by_cases h3 : h = hFst
  · subst h3
    rw [k_fst] at hk
    obtain ⟨g, o, c, q, h0, c3, q0, r0, e0, lg, lq, lk⟩ := K (by omega)
    have e : rxT hFst k = (h0 == [112, 97, 105, 114]) := by
      simp only [rxT, e0, show (hFst == hLet) = false from by decide, show (hFst == hApp) = false from by decide, show (hFst == hFst) = true from by decide, show (hFst == hIf) = false from by decide, Bool.false_or, Bool.true_and, Bool.false_and, Bool.or_false, Bool.true_or]
      rfl
    rw [e]
    unfold hFst at c0 n1 n2
    clear ht hw K hk e h1 e0 h2
    go_enter Tryz.func65, Tryz.ntmps65
    go_wp2_with fail
    go_ret
    exact ⟨rfl, rfl⟩
  have n3 : (h == [102, 115, 116]) = false := by simpa [hFst] using h3
  by_cases h4 : h = hSnd
  · subst h4
    rw [k_snd] at hk
    obtain ⟨g, o, c, q, h0, c3, q0, r0, e0, lg, lq, lk⟩ := K (by omega)
    have e : rxT hSnd k = (h0 == [112, 97, 105, 114]) := by
      simp only [rxT, e0, show (hSnd == hLet) = false from by decide, show (hSnd == hApp) = false from by decide, show (hSnd == hFst) = false from by decide, show (hSnd == hSnd) = true from by decide, show (hSnd == hIf) = false from by decide, Bool.false_or, Bool.true_and, Bool.false_and, Bool.or_false]
      rfl
    rw [e]
    unfold hSnd at c0 n1 n2 n3
    clear ht hw K hk e h1 e0 h2 h3
    go_enter Tryz.func65, Tryz.ntmps65
    go_wp2_with fail
    go_ret
    exact ⟨rfl, rfl⟩
  have n4 : (h == [115, 110, 100]) = false := by simpa [hSnd] using h4
  by_cases h5 : h = hIf
  · subst h5
    rw [k_if] at hk
    obtain ⟨g, o, c, q, h0, c3, q0, r0, e0, lg, lq, lk⟩ := K (by omega)
    have e : rxT hIf k = (h0 == [116, 114, 117, 116, 104]) := by
      simp only [rxT, e0, show (hIf == hLet) = false from by decide, show (hIf == hApp) = false from by decide, show (hIf == hFst) = false from by decide, show (hIf == hSnd) = false from by decide, show (hIf == hIf) = true from by decide, Bool.false_or, Bool.true_and, Bool.false_and]
      rfl
    rw [e]
    unfold hIf at c0 n1 n2 n3 n4
    clear ht hw K hk e h1 e0 h2 h3 h4
    go_enter Tryz.func65, Tryz.ntmps65
    go_wp2_with fail
    go_ret
    exact ⟨rfl, rfl⟩
  have n5 : (h == [105, 102]) = false := by simpa [hIf] using h5
  have e : rxT h k = false := by
    have m1 : (h == hLet) = false := beq_eq_false_iff_ne.2 h1
    have m2 : (h == hApp) = false := beq_eq_false_iff_ne.2 h2
    have m3 : (h == hFst) = false := beq_eq_false_iff_ne.2 h3
    have m4 : (h == hSnd) = false := beq_eq_false_iff_ne.2 h4
    have m5 : (h == hIf) = false := beq_eq_false_iff_ne.2 h5
    simp only [rxT, m1, m2, m3, m4, m5, Bool.false_or, Bool.false_and]
  rw [e]
  clear ht hw K hk e h1 h2 h3 h4 h5
  go_enter Tryz.func65, Tryz.ntmps65
  go_wp2_with fail
  go_ret
  exact ⟨rfl, rfl⟩
end Go.Proofs.YtnjgaenhjdjpfaaGreatDoor
