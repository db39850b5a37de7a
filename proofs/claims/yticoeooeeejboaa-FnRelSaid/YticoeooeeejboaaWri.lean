/- Functions that range over a function inside a loop: their marks; rows beside other blocks. · A relation of bit sets is written as a list of pairs. -/
import Derived.Test.YticoeooeeejboaaRfun
import Derived.Test.YticoeooeeejboaaRnum
/- Functions that range over a function inside a loop: their marks; rows beside other blocks. -/
namespace Go.Proofs.Yticoeooeeejboaa
open Go.RowKit Go.ChangeMaps Go.Shelf

/-- the marks among the deferred calls -/
def marksD (Ds : List Nat) : List Deferred := Ds.map fun D => { target := .collected D, args := #[] }

theorem leaves_marks {F : Fence} {n : Nat} {P : Program} {fn : Func} {tmps : Array Value} {R : Ending → World → Prop} : ∀ (Ds : List Nat) (w : World), Ds.Nodup → (∀ D, D ∈ Ds → w.heap[D]? = some (.deferred (some []))) →
    (∀ w', Fr (fun b => b ∈ Ds) w w' → ∃ v, (results fn tmps).run P w' = .ok v w' ∧ R (.returned v) w') → LeavesInM F n P fn tmps R (marksD Ds) .returning w := by
  intro Ds
  induction Ds with
  | nil => intro w _ _ h; exact h w (Fr.refl _ _)
  | cons D Ds ih =>
    intro w hnd hd h
    rw [List.nodup_cons] at hnd
    refine ⟨by simp, .inl ⟨D, _, rfl, run_takeDeferred (hd D List.mem_cons_self), ?_⟩⟩
    refine ih _ hnd.2 (fun D' hD' => ?_) fun w' hf => ?_
    · exact (World.putObj_heap_other (by rintro rfl; exact hnd.1 hD')).trans (hd D' (List.mem_cons_of_mem _ hD'))
    · exact h w' (((Fr.putObj D _).mono (fun b _ h => by have h : b = D := h; rw [h]; exact List.mem_cons_self)).trans (hf.mono (fun b _ h => List.mem_cons_of_mem _ h)))

/-- a block that holds no integers is not a row's -/
theorem OR.notAt {w : World} {B : Nat} {A : Option Addr} {n c : Nat} {xs : List Int} (h : OR w B A n c xs) {b : Nat} {o : Obj} (hb : w.heap[b]? = some o) (ho : ∀ cs, o ≠ .cells cs 3 (0, 0)) : ¬ Own A b := by
  rintro ⟨a, rfl, rfl⟩
  rcases h.2.2 with ⟨hv, _⟩ | ⟨g, cap, cur, hv, h2, h3, _⟩
  · cases hv
  · injection hv with e1 e2 e3
    injection e1 with e1
    subst e1
    rw [hb] at h3
    injection h3 with h3
    exact ho _ h3

theorem pairsOf_len (l r : Nat) (R : Nat → Nat → Bool) : (pairsOf l r R).length ≤ l * r := by
  induction l with
  | zero => simp [pairsOf]
  | succ l ih =>
    rw [pairsOf_succ, List.length_append, List.length_map, Nat.add_one_mul]
    have := elems_len r (R l)
    omega
end Go.Proofs.Yticoeooeeejboaa

/- A relation of bit sets is written as a list of pairs. -/
namespace Go.Proofs.Yticoeooeeejboaa
open Go.RowKit Go.ChangeMaps Go.Shelf

attribute [local go_sem] Oper.semAt_some

def WriP (l r : Nat) (R : Nat → Nat → Bool) (w : World) (e : Ending) (w' : World) : Prop := ∃ A n c, e = .returned (RV l r A n c) ∧ Fr No w w' ∧ OR w' w.heap.size A n c ((pairsOf l r R).map Int.ofNat)

/-- what is there ahead of row i -/
structure WI (w : World) (b l r : Nat) (R : Nat → Nat → Bool) (b3 i : Nat) (Ds : List Nat) (W : World) : Prop where
  fr : Fr No w W
  pt : Blk W w.heap.size 33 #[Ptr b]
  rs : Blk W (w.heap.size + 1) 25 #[.int .i64 0, .int .i64 0, .slice none 0 0]
  bx : ∃ A n c, Blk W b3 25 #[.int .i64 l, .int .i64 r, .slice A n c] ∧ OR W w.heap.size A n c ((pairsOf i r R).map Int.ofNat)
  b3n : w.heap.size + 1 < b3
  nd : Ds.Nodup
  ds : ∀ D, D ∈ Ds → w.heap.size ≤ D ∧ W.heap[D]? = some (.deferred (some []))

/-- what came in so far in row i -/
structure WJ (w : World) (b l r : Nat) (R : Nat → Nat → Bool) (b3 b4 i : Nat) (Ds : List Nat) (D : Nat) (rec : LoopState → Option Code → Loop) (pre : List Nat) (W : World) : Prop where
  fr : Fr No w W
  pt : Blk W w.heap.size 33 #[Ptr b]
  rs : Blk W (w.heap.size + 1) 25 #[.int .i64 0, .int .i64 0, .slice none 0 0]
  bx : ∃ A n c, Blk W b3 25 #[.int .i64 l, .int .i64 r, .slice A n c] ∧ OR W w.heap.size A n c ((pairsOf i r R ++ pre.map (i * r + ·)).map Int.ofNat) ∧ ¬ Own A b4
  b4 : Blk W b4 3 #[.int .i64 i]
  lp : W.heap[D + 1]? = some (.loop (rec .ready none))
  df : W.heap[D]? = some (.deferred (some []))
  ds : ∀ D', D' ∈ Ds → W.heap[D']? = some (.deferred (some []))
  sz : D + 2 ≤ W.heap.size

theorem Blk.ne_of {W : World} {g k : Nat} {t : TypeId} {cs : Array Value} {o : Obj} (h : Blk W g t cs) (hk : W.heap[k]? = some o) (ho : ∀ cs, o ≠ .cells cs t (0, 0)) : g ≠ k := by
  rintro rfl
  unfold Blk at h
  rw [h] at hk
  injection hk with hk
  exact ho _ hk.symm

theorem wi_start {w W : World} {b l r b3 : Nat} {R : Nat → Nat → Bool} {A : Option Addr} (hf : Fr No w W) (hp : Blk W w.heap.size 33 #[Ptr b]) (hr : Blk W (w.heap.size + 1) 25 #[.int .i64 0, .int .i64 0, .slice none 0 0])
    (hb : Blk W b3 25 #[.int .i64 l, .int .i64 r, .slice A 0 0]) (ho : OR W w.heap.size A 0 0 []) (h3 : w.heap.size + 1 < b3) : WI w b l r R b3 0 [] W :=
  ⟨hf, hp, hr, ⟨A, 0, 0, hb, ho⟩, h3, by simp, fun D h => by cases h⟩

end Go.Proofs.Yticoeooeeejboaa
