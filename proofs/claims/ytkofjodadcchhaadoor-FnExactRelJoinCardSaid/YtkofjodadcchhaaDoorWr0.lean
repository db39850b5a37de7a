/- Functions that range over a function inside a loop: their marks; rows beside other blocks. -/
import Derived.Test.YtkofjodadcchhaaDoorRfun
import Derived.Test.YtkofjodadcchhaaDoorRnum2
namespace Go.Proofs.YtkofjodadcchhaaDoor
open Go.RowKit Go.ChangeMaps Go.Shelf

/-- the marks among the deferred calls -/
def marksD (Ds : List Nat) : List Deferred := Ds.map fun D => { target := .collected D, args := #[] }

theorem leaves_marks {F : Fence} {n : Nat} {P : Program} {fn : Func} {tmps : Array Value} {R : Ending → World → Prop} : ∀ (Ds : List Nat) (w : World), Ds.Nodup → (∀ D, D ∈ Ds → w.heap[D]? = some (.deferred (some []))) →
    (∀ w', Fr (fun b => b ∈ Ds) w w' → ∃ v, (results fn tmps).run P w' = .ok v w' ∧ R (.returned v) w') → LeavesInM F n P fn tmps R (marksD Ds) .returning w := by
  intro Ds
  induction Ds with
  | nil => intro w _ _ h; exact h w (Fr.refl _ _)
  | cons D Ds ih =>
    intro w hnd hd h
    rw [List.nodup_cons] at hnd
    refine ⟨by simp, .inl ⟨D, _, rfl, run_takeDeferred (hd D List.mem_cons_self), ?_⟩⟩
    refine ih _ hnd.2 (fun D' hD' => ?_) fun w' hf => ?_
    · exact (World.putObj_heap_other (by rintro rfl; exact hnd.1 hD')).trans (hd D' (List.mem_cons_of_mem _ hD'))
    · exact h w' (((Fr.putObj D _).mono (fun b _ h => by have h : b = D := h; rw [h]; exact List.mem_cons_self)).trans (hf.mono (fun b _ h => List.mem_cons_of_mem _ h)))

/-- a block that holds no integers is not a row's -/
theorem OR.notAt {w : World} {B : Nat} {A : Option Addr} {n c : Nat} {xs : List Int} (h : OR w B A n c xs) {b : Nat} {o : Obj} (hb : w.heap[b]? = some o) (ho : ∀ cs, o ≠ .cells cs 3 (0, 0)) : ¬ Own A b := by
  rintro ⟨a, rfl, rfl⟩
  rcases h.2.2 with ⟨hv, _⟩ | ⟨g, cap, cur, hv, h2, h3, _⟩
  · cases hv
  · injection hv with e1 e2 e3
    injection e1 with e1
    subst e1
    rw [hb] at h3
    injection h3 with h3
    exact ho _ h3

theorem pairsOf_len (l r : Nat) (R : Nat → Nat → Bool) : (pairsOf l r R).length ≤ l * r := by
  induction l with
  | zero => simp [pairsOf]
  | succ l ih =>
    rw [pairsOf_succ, List.length_append, List.length_map, Nat.add_one_mul]
    have := elems_len r (R l)
    omega
end Go.Proofs.YtkofjodadcchhaaDoor
