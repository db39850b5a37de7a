import Derived.Test.YtngbpcphkfmncaaMark
import Derived.Test.YtngbpcphkfmncaaVars
import Derived.Test.YtngbpcphkfmncaaLaw3
import Derived.Test.YtngbpcphkfmncaaSvars
namespace Go.Proofs.Ytngbpcphkfmncaa
open Go.RowKit Go.ChangeMaps

def AnsVars (s : List UInt8) (w : World) (e : Ending) (w' : World) : Prop :=
  ∃ V vc b xs, e = .returned (.tuple #[.slice V xs.length vc, .bool b]) ∧ w'.ownsRow w.heap.size 9 1 (.slice V xs.length vc) xs.length (xs.map S) ∧ Fr No w w' ∧
    ((∃ t, Ty.Is s t ∧ xs = letS (addV [] t) ∧ b = true) ∨ ((∀ t, ¬ Ty.Is s t) ∧ xs = [] ∧ b = false))

theorem Pool.node_blk {w : World} {q m : Nat} {ps : List Nat} {D : List Ty} (h : Pool w q m ps D) {p : Nat} (hp : p ∈ ps) : ∃ cs, Blk w p 63 cs := by
  obtain ⟨i, hi⟩ := List.mem_iff_getElem?.1 hp
  have hl : i < D.length := by rw [← h.len]; exact (List.getElem?_eq_some_iff.1 hi).1
  obtain ⟨a, b, hb, _⟩ := h.node i _ p (List.getElem?_eq_getElem hl) hi
  exact ⟨_, hb⟩

theorem Pool.apart {w : World} {q m B : Nat} {ps : List Nat} {D : List Ty} {v : Value} {n : Nat} {xs : List Value} (h : Pool w q m ps D) (ho : w.ownsRow B 9 1 v n xs) :
    ∀ b, v.ownBlock = some b → q ≠ b ∧ m ≠ b ∧ ∀ p ∈ ps, p ≠ b := by
  intro b hb
  rcases ho.2 with ⟨hv, _⟩ | ⟨g, cap, cur, hv, _, hg, _⟩
  · rw [hv] at hb; cases hb
  · have hgb : g = b := by
      rw [hv] at hb
      injection hb
    subst hgb
    refine ⟨?_, ?_, ?_⟩
    · rintro rfl
      have := hg.symm.trans h.head
      simp at this
    · rintro rfl
      obtain ⟨f, ⟨es, clk, hm, _⟩, _⟩ := h.map
      have := hg.symm.trans hm
      simp at this
    · rintro p hp rfl
      obtain ⟨cs, hc⟩ := h.node_blk hp
      have := hg.symm.trans hc
      simp at this

theorem rows_apart {w : World} {B B' n n' : Nat} {v v' : Value} {xs xs' : List Value} (h : w.ownsRow B 9 1 v n xs) (h' : w.ownsRow B' 58 1 v' n' xs') :
    ∀ b, v'.ownBlock = some b → v.ownBlock ≠ some b := by
  intro b hb hb'
  rcases h.2 with ⟨hv, _⟩ | ⟨g, cap, cur, hv, _, hg, _⟩
  · rw [hv] at hb'; cases hb'
  · rcases h'.2 with ⟨hv', _⟩ | ⟨g', cap', cur', hv', _, hg', _⟩
    · rw [hv'] at hb; cases hb
    · rw [hv] at hb'
      rw [hv'] at hb
      injection hb with hb
      injection hb' with hb'
      simp only at hb hb'
      subst hb
      subst hb'
      have := hg.symm.trans hg'
      simp at this

/-- what the loop keeps when it has written j names -/
def Loop (w : World) (q m : Nat) (ps : List Nat) (D : List Ty) (B2 : Nat) (A : Option Addr) (c : Nat) (xs vs : List Nat) (j : Nat) (V : Value) (wr : World) : Prop :=
  Pool wr q m ps D ∧ wr.ownsRow w.heap.size 9 1 V j ((letS (vs.take j)).map S) ∧ wr.ownsRow B2 58 1 (.slice A xs.length c) xs.length (xs.map Ptr) ∧ Fr No w wr

theorem Loop.more {w : World} {q m : Nat} {ps : List Nat} {D : List Ty} {B2 : Nat} {A : Option Addr} {c : Nat} {xs vs : List Nat} {j n k : Nat} {V V' : Value} {wr w2 : World} {o : Obj}
    (h : Loop w q m ps D B2 A c xs vs j V wr) (hn : vs[j]? = some n) (ho : w2.ownsRow w.heap.size 9 1 V' (j + 1) ((letS (vs.take j)).map S ++ [S [Ty.letter n]])) (hg : ((wr.drewN k).alloc o).grownBy w2 V.ownBlock) :
    Loop w q m ps D B2 A c xs vs (j + 1) V' w2 := by
  obtain ⟨h1, h2, h3, h4⟩ := h
  have hf : Fr (fun b => V.ownBlock = some b) wr w2 := (((Fr.refl _ wr).drewN k).alloc o).grown hg (fun i hi => .inl hi)
  refine ⟨h1.fr hf ?_ ?_ ?_, ?_, ?_, ?_⟩
  · intro e; exact (h1.apart h2 _ e).1 rfl
  · intro e; exact (h1.apart h2 _ e).2.1 rfl
  · intro p hp e; exact (h1.apart h2 _ e).2.2 p hp rfl
  · rw [List.take_add_one, hn]
    simpa [letS] using ho
  · exact own_fr h3 hf (fun b hb => rows_apart h2 h3 b hb)
  · exact h4.then_ hf (fun i hi e => by have := (h2.lt i e).1; omega)


end Go.Proofs.Ytngbpcphkfmncaa
