import Derived.Test.YtngbpcphkfmncaaSput2
namespace Go.Proofs.Ytngbpcphkfmncaa
open Go.RowKit Go.ChangeMaps

/-- the variables in order, under construction -/
def ByRow (wr : World) (B : Nat) (j : Nat) (ts : List Ty) (V : Value) : Prop := ∃ xs, wr.ownsRow B 68 2 V j xs ∧ Elems wr (fun _ => False) (tysFo ts) xs

theorem Elems.fr0 {w w' : World} {f : Fo} {xs : List Value} (h : Elems w (fun _ => False) f xs) : Elems w' (fun _ => False) f xs := h.mono (fun _ h => h) (fun _ h => h.elim)

theorem ByRow.fr {w w' : World} {B j : Nat} {ts : List Ty} {V : Value} {T : Nat → Prop} (h : ByRow w B j ts V) (hf : Fr T w w') (hs : ∀ b, V.ownBlock = some b → ¬ T b) : ByRow w' B j ts V := by
  obtain ⟨xs, h1, h2⟩ := h
  exact ⟨xs, own_fr h1 hf hs, h2.fr0⟩

theorem ByRow.sl {w : World} {B j : Nat} {ts : List Ty} {A : Option Addr} {c : Nat} (h : ByRow w B j ts (.slice A j c)) (T : Nat → Prop) (hT : ∀ b, B ≤ b → b < w.heap.size → T b) (hl : ts.length = j) : Sl w T A (tysFo ts) := by
  obtain ⟨xs, h1, h2⟩ := h
  by_cases h0 : (tysFo ts).len = 0
  · exact .inl h0
  · rcases h1.2 with ⟨_, hn⟩ | ⟨g, cap, cur, hv, _⟩
    · rw [tysFo_len] at h0; omega
    · injection hv with e1 e2 e3
      have hgl := (h1.lt g (by rw [e1]; rfl))
      refine .inr ⟨g, 0, xs, e1, hT g hgl.1 hgl.2, h2.mono (fun _ h => h.elim) (fun _ h => h.elim), fun i u hi => ?_⟩
      have := h1.cells (g := g) (by rw [e1]; rfl) i u hi
      rw [addr_add] at this
      exact this

theorem cms_snd_take (vs : List Nat) (j n : Nat) (h : vs[j]? = some n) : (cms (vs.take (j + 1))).map Prod.snd = (cms (vs.take j)).map Prod.snd ++ [.v j] := by
  rw [cms_take vs j n h]; simp

theorem names_cms (vs : List Nat) : namesOf (cms vs) = letS vs := by
  simp only [namesOf, letS]
  apply List.ext_getElem?
  intro i
  rw [List.getElem?_map, cms_get, List.getElem?_map]
  cases vs[i]? <;> simp

theorem cms_keys25 {vs : List Nat} (h : ∀ n ∈ vs, n < 25) : ∀ p ∈ cms vs, p.1 < 25 := by
  intro p hp
  obtain ⟨i, hi⟩ := List.getElem?_of_mem hp
  rw [cms_get] at hi
  rcases hv : vs[i]? with _ | x
  · rw [hv] at hi; cases hi
  · rw [hv] at hi
    simp at hi
    rw [← hi]
    exact h x (List.mem_of_getElem? hv)

def CanonR (t : Ty) (w : World) (e : Ending) (w' : World) : Prop :=
  ∃ A' c', e = .returned (.agg #[S t.canon.atom, .slice A' t.canon.kids.len c']) ∧ Fr No w w' ∧ Sl w' (Old w') A' t.canon.kids

end Go.Proofs.Ytngbpcphkfmncaa
