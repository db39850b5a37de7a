/- Rows of relations that a law appends to. -/
import Derived.Test.YtloecimlimoanaaDoorRlh
namespace Go.Proofs.YtloecimlimoanaaDoor
open Go.RowKit Go.ChangeMaps

theorem rowR_new (w : World) : (w.alloc (.cells #[] 30)).ownsRow w.heap.size 30 3 (.slice (some ⟨w.heap.size, 0, none⟩) 0 0) 0 [] :=
  ⟨rfl, .inr ⟨_, 0, #[], rfl, Nat.le_refl _, Blk.new _ _ _, Nat.le_refl _, Nat.zero_le _, rfl, rfl⟩⟩

theorem rowR_blk {W : World} {B : Nat} {n : Nat} {xs : List Value} {A : Option Addr} {c : Nat} (h : W.ownsRow B 30 3 (.slice A n c) n xs) {g : Nat} (hg : Own A g) : B ≤ g ∧ ∃ cs, Blk W g 30 cs := by
  obtain ⟨a, rfl, rfl⟩ := hg
  rcases h.2 with ⟨hv, _⟩ | ⟨g, cap, cur, hv, h2, h3, _⟩
  · cases hv
  · injection hv with e1 e2 e3
    injection e1 with e1
    subst e1
    exact ⟨h2, cur, h3⟩

theorem rowR_fr {W W' : World} {B : Nat} {n : Nat} {xs : List Value} {A : Option Addr} {c : Nat} {T : Nat → Prop} (h : W.ownsRow B 30 3 (.slice A n c) n xs) (hf : Fr T W W') (hT : ∀ g, Own A g → ¬ T g) : W'.ownsRow B 30 3 (.slice A n c) n xs := by
  refine ⟨h.1, ?_⟩
  rcases h.2 with h | ⟨g, cap, cur, hv, h2, h3, h4⟩
  · exact .inl h
  · right
    injection hv with e1 e2 e3
    subst e1
    have hl := (Array.getElem?_eq_some_iff.1 h3).1
    exact ⟨g, cap, cur, by rw [e3], h2, (hf.block g hl (hT g ⟨_, rfl, rfl⟩)).trans h3, h4⟩

/-- one relation in a row of its own -/
theorem rowR_one {W : World} {B : Nat} {v : Value} {L R : Int} {ps : List Int} {D : Option Addr} {cp : Nat} (h : W.ownsRow B 30 3 v 1 [.int .i64 L, .int .i64 R, .slice D ps.length cp]) (hi : ISl W D ps) (hl : ps.length ≤ 2000000) : ∃ g cap, v = .slice (some ⟨g, 0, none⟩) 1 cap ∧ B ≤ g ∧ Rels W (some ⟨g, 0, none⟩) [(L, R, ps)] := by
  rcases h.2 with ⟨_, hn⟩ | ⟨g, cap, cur, hv, h2, h3, _⟩
  · cases hn
  · subst hv
    refine ⟨g, cap, rfl, h2, fun j L' R' ps' hj => ?_⟩
    cases j with
    | zero =>
      simp at hj
      obtain ⟨rfl, rfl, rfl⟩ := hj
      have hc := h.cells (g := g) rfl
      have c0 := hc 0 _ rfl
      have c1 := hc 1 _ rfl
      have c2 := hc 2 _ rfl
      rw [addr_add] at c0 c1 c2
      exact ⟨g, 0, D, cp, rfl, c0, c1, c2, hi, hl⟩
    | succ j => simp at hj

theorem rel_new {w : World} {x0 x1 x2 : Value} : ∀ (j : Nat) (u : Value), [x0, x1, x2][j]? = some u → (w.alloc (.cells #[x0, x1, x2] 30)).cell? ((⟨w.heap.size, 0, none⟩ : Addr).add j) = some u := fun j u hj => by
  rw [addr_add, (Blk.new w 30 #[x0, x1, x2]).cell (0 + j), Nat.zero_add]
  match j, hj with
  | 0, hj => simpa using hj
  | 1, hj => simpa using hj
  | 2, hj => simpa using hj

/-- what a growing row changes -/
theorem grown_own {V w' : World} {A : Option Addr} {n c : Nat} (hg : V.grownBy w' (Value.slice A n c).ownBlock) : Fr (Own A) V w' := (Fr.refl _ V).grown hg (fun k hk => .inl (by
  unfold Value.ownBlock at hk
  cases A with
  | none => cases hk
  | some a => exact ⟨a, rfl, by injection hk⟩))
end Go.Proofs.YtloecimlimoanaaDoor
