/- Plain laws over models: what they share. -/
import Derived.Test.YtngbpcphkfmncaaDrm
namespace Go.Proofs.Ytngbpcphkfmncaa
open Go.RowKit Go.ChangeMaps

/-- a model that is drawn, for a law -/
def DrM (w : World) (e : Ending) (w' : World) : Prop :=
  ∃ N nc Z zc, ∃ (xs : List (List UInt8)) (zs : List Int), e = .returned (.tuple #[.slice N xs.length nc, .slice Z zs.length zc]) ∧ xs.length ≤ nc ∧ xs.length ≤ 4 ∧ zs.length ≤ 4 ∧ (∀ x ∈ xs, x.length ≤ 1) ∧ SSl w' N xs ∧ ISl w' Z zs ∧ Fr No w w'

theorem sslNo {w w' : World} {A : Option Addr} {xs : List (List UInt8)} (h : SSl w A xs) (hf : Fr No w w') : SSl w' A xs := fun j x hj => by
  obtain ⟨g, o, e, hc⟩ := h j x hj
  exact ⟨g, o, e, (hf.cell (p := ⟨g, o + j, none⟩) (World.block_lt_of_cell? w _ hc) (fun h => h)).trans hc⟩

theorem islNo {w w' : World} {A : Option Addr} {xs : List Int} (h : ISl w A xs) (hf : Fr No w w') : ISl w' A xs := h.keep hf (fun _ h => h.elim)

theorem ModelIs.one {xs : List (List UInt8)} {zs : List Int} {ms : List (Nat × Nat)} (h : ModelIs xs zs ms) {j : Nat} {x : List UInt8} {z : Int} (hx : xs[j]? = some x) (hz : zs[j]? = some z) : ∃ n c : Nat, x = [Ty.letter n] ∧ n < 25 ∧ z = (c : Int) ∧ szs ms n = some c := by
  rw [h.names, List.getElem?_map] at hx
  rw [h.sizes, List.getElem?_map] at hz
  obtain ⟨p, hp, rfl⟩ := Option.map_eq_some_iff.1 hx
  rw [hp] at hz
  simp only [Option.map_some, Option.some.injEq] at hz
  refine ⟨p.1, p.2, rfl, (h.ok p (List.mem_of_getElem? hp)).1, hz.symm, szs_at (j := j) ?_ hp⟩
  intro q hq e
  obtain ⟨i, hi⟩ := List.getElem?_of_mem hq
  rw [List.getElem?_take] at hi
  split at hi
  · have g1 : (ms.map Prod.fst)[i]? = some q.1 := by rw [List.getElem?_map, hi]; rfl
    have g2 : (ms.map Prod.fst)[j]? = some p.1 := by rw [List.getElem?_map, hp]; rfl
    have := (List.getElem?_inj (List.getElem?_eq_some_iff.1 g1).1 h.nodup).1 (g1.trans ((congrArg some e).trans g2.symm))
    omega
  · cases hi

theorem StcR.is {s : List UInt8} {xs : List (List UInt8)} {zs : List Int} {ms : List (Nat × Nat)} {t : Ty} {q : Int} (h : StcR s xs zs q) (ht : Ty.Is s t) (hm : ModelIs xs zs ms) : q = cntI (szs ms) t := by
  rcases h with ⟨t', ms', h1, h2, rfl⟩ | ⟨h1, _⟩
  · rw [h1.unique ht, h2.unique hm]
  · exact (h1 t ms ht hm).elim

theorem is_letter {n : Nat} (h : n < 25) : Ty.Is [Ty.letter n] (.v n) := ⟨rfl, h, by simp [Ty.size]⟩
theorem is_o : Ty.Is [111] .o := ⟨rfl, trivial, by simp [Ty.size]⟩
end Go.Proofs.Ytngbpcphkfmncaa
