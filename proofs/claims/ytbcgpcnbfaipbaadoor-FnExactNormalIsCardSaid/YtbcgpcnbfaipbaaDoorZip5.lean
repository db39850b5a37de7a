/- The whole term with another one at a place. -/
import Derived.Test.YtbcgpcnbfaipbaaDoorZip4
import Derived.Laws.OwnMore
import Derived.Lib.SliceRun
namespace Go.Proofs.YtbcgpcnbfaipbaaDoor
open Go.RowKit Go.ChangeMaps

theorem setAt_len : ∀ (k : Ts) (j : Nat) (x : Ts), x.len = 1 → (k.setAt j x).len = k.len
  | .nil, _, _, _ => rfl
  | .cons h a d k r, 0, x, hx => by simp only [Ts.setAt, app_len, Ts.len, hx]; omega
  | .cons h a d k r, j + 1, x, hx => by simp only [Ts.setAt, Ts.len, setAt_len r j x hx]

theorem setAt_size : ∀ (k : Ts) (j : Nat) (x : Ts), j < k.len → x.size ≤ (k.setAt j x).size
  | .nil, _, _, h => by simp [Ts.len] at h
  | .cons h a d k r, 0, x, _ => by simp only [Ts.setAt, app_size]; omega
  | .cons h a d k r, j + 1, x, hj => by
    have := setAt_size r j x (by simp only [Ts.len] at hj; omega)
    simp only [Ts.setAt, Ts.size]; omega

theorem plug_size {t : Ts} : ∀ (fs : List ZF) (y x : Ts), okZ t fs y → x.size ≤ (plugZ fs x).size
  | [], _, _, _ => Nat.le_refl _
  | f :: fs, y, x, h => by
    have h1 := setAt_size f.k f.j x h.2.1
    have h2 := plug_size fs f.node (.cons f.h f.a 0 (f.k.setAt f.j x) .nil) h.2.2
    simp only [plugZ, Ts.size] at h2 ⊢
    omega

theorem TEl.setAt {w : World} {T : Nat → Prop} {q : Nat} {h' a' : List UInt8} {d' : Nat} {k' : Ts} (hq : Tm w T q h' a' d' k') : ∀ {f : Ts} {xs : List Value} (j : Nat), j < f.len → TEl w T f xs → TEl w T (f.setAt j (.cons h' a' d' k' .nil)) (xs.set j (Ptr q)) := by
  intro f
  induction f with
  | nil => intro xs j hj; simp [Ts.len] at hj
  | cons h a d k r _ ihr =>
    intro xs j hj hx
    obtain ⟨p, A, c, ys, xs', rfl, h1, h2, h3, h4, hr⟩ := hx
    cases j with
    | zero =>
      obtain ⟨p2, A2, c2, ys2, xs2, e, g1, g2, g3, g4, g5⟩ := hq
      injection e with e1 e2
      injection e1 with e1
      injection e1 with e1
      injection e1 with e1 _ _
      subst e1
      exact ⟨q, A2, c2, ys2, xs', rfl, g1, g2, g3, g4, hr⟩
    | succ j => exact ⟨p, A, c, ys, _, rfl, h1, h2, h3, h4, ihr j (by simp only [Ts.len] at hj; omega) hr⟩

theorem TEl.one {w : World} {T : Nat → Prop} : ∀ {f : Ts} {xs : List Value}, TEl w T f xs → ∀ u ∈ xs, u.oneCell' = true := by
  intro f
  induction f with
  | nil => intro xs h u hu; rw [h] at hu; cases hu
  | cons h a d k r _ ihr =>
    intro xs hx u hu
    obtain ⟨p, A, c, ys, xs', rfl, _, _, _, _, hr⟩ := hx
    rcases List.mem_cons.1 hu with rfl | hu
    · rfl
    · exact ihr hr u hu

def ReplP (T : Nat → Prop) (R : Ts) (w : World) (e : Ending) (w' : World) : Prop := TsP T R w e w'

end Go.Proofs.YtbcgpcnbfaipbaaDoor
