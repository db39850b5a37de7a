/- Lifted types in memory: what they keep. · slices.Backward over bit sets: the iterator; a range over a method value within a round. · The elements whose digits are in sets. -/
import Derived.Test.YtloecimlimoanaaDoorRlt
import Derived.Test.YtloecimlimoanaaDoorFbs
import Derived.Test.YtloecimlimoanaaDoorNum
import Derived.Test.YtloecimlimoanaaDoorDig
import Derived.Test.YtloecimlimoanaaDoorRf
import Derived.Test.YtloecimlimoanaaDoorCol
import Derived.Test.YtloecimlimoanaaDoorWri
/- Lifted types in memory: what they keep. -/
namespace Go.Proofs.YtloecimlimoanaaDoor
open Go.RowKit Go.ChangeMaps

/-- a set of numbers in memory -/
def RowV (w : World) (n : Nat) (P : Nat → Bool) (v : Value) : Prop := ∃ (g : Nat) (ws : List Nat), v = .slice (some ⟨g, 0, none⟩) (nw n) (nw n) ∧ Blk w g 127 (WV ws) ∧ BitsIs ws n P

theorem RowV.congr {w : World} {n : Nat} {P Q : Nat → Bool} {v : Value} (h : RowV w n P v) (hq : ∀ j, j < n → P j = Q j) : RowV w n Q v := by
  obtain ⟨g, ws, h1, h2, h3⟩ := h
  exact ⟨g, ws, h1, h2, h3.congr hq⟩

/-- where rows are kept: blocks with the types that they are of -/
abbrev Cach := Nat → Option Ty
def InF (F : Cach) (g : Nat) : Prop := ∃ t, F g = some t

/-- a set of numbers in memory that is nobody's own -/
def RowZ (Z : Nat → Prop) (w : World) (n : Nat) (P : Nat → Bool) (v : Value) : Prop := ∃ (g : Nat) (ws : List Nat), v = .slice (some ⟨g, 0, none⟩) (nw n) (nw n) ∧ Blk w g 127 (WV ws) ∧ BitsIs ws n P ∧ ¬ Z g

theorem RowZ.row {Z : Nat → Prop} {w : World} {n : Nat} {P : Nat → Bool} {v : Value} (h : RowZ Z w n P v) : RowV w n P v := by
  obtain ⟨g, ws, h1, h2, h3, _⟩ := h
  exact ⟨g, ws, h1, h2, h3⟩

/-- what a change does not touch: all blocks of cells but rows that are kept, and sets that are somebody's own -/
def Far (F : Cach) (Z T : Nat → Prop) (w : World) : Prop := ∀ g ty cs, Blk w g ty cs → (ty ≠ 78 ∨ F g = none) → (ty = 127 → ¬ Z g) → ¬ T g

theorem Far.no (F : Cach) (Z : Nat → Prop) (w : World) : Far F Z No w := fun _ _ _ _ _ _ h => h
theorem Far.own {F : Cach} {Z : Nat → Prop} {w : World} {g : Nat} {ws : List Nat} (hb : Blk w g 127 (WV ws)) (hz : Z g) : Far F Z (One g) w := by
  intro k ty cs hk _ h2 e
  have e : k = g := e
  subst e
  exact h2 (hk.eq hb).1 hz

theorem RowZ.fr {w w' : World} {F : Cach} {Z T : Nat → Prop} {n : Nat} {P : Nat → Bool} {v : Value} (h : RowZ Z w n P v) (hf : Fr T w w') (hT : Far F Z T w) : RowZ Z w' n P v := by
  obtain ⟨g, ws, h1, h2, h3, h4⟩ := h
  exact ⟨g, ws, h1, h2.fr hf (hT _ _ _ h2 (.inl (by decide)) (fun _ => h4)), h3, h4⟩

theorem RowZ.less {Z Z' : Nat → Prop} {w : World} {n : Nat} {P : Nat → Bool} {v : Value} (h : RowZ Z w n P v) (hz : ∀ g, g < w.heap.size → Z' g → Z g) : RowZ Z' w n P v := by
  obtain ⟨g, ws, h1, h2, h3, h4⟩ := h
  exact ⟨g, ws, h1, h2, h3, fun h => h4 (hz g h2.lt h)⟩

theorem RowZ.ne_nil {Z : Nat → Prop} {w : World} {n : Nat} {P : Nat → Bool} (h : RowZ Z w n P (.slice none 0 0)) : False := by
  obtain ⟨g, ws, h1, _⟩ := h
  cases h1

/-- a set that a type is, without what is in it -/
def SetI (w : World) (g c : Nat) : Prop := ∃ (s z p q : Value), Blk w g 103 #[s, z, .int .i64 c, p, q]

theorem FsAt.far {w w' : World} {F : Cach} {Z T : Nat → Prop} {g : Nat} {f : Bool} {a b d : Nat} (h : FsAt w g f a b d) (hf : Fr T w w') (hT : Far F Z T w) : FsAt w' g f a b d := by
  obtain ⟨gl, gr, sz, s1, z1, p1, q1, s2, z2, p2, q2, h1, h2, h3⟩ := h
  exact ⟨gl, gr, sz, s1, z1, p1, q1, s2, z2, p2, q2, h1.fr hf (hT _ _ _ h1 (.inl (by decide)) (fun h => absurd h (by decide))), h2.fr hf (hT _ _ _ h2 (.inl (by decide)) (fun h => absurd h (by decide))), h3.fr hf (hT _ _ _ h3 (.inl (by decide)) (fun h => absurd h (by decide)))⟩

theorem FsAt.seti {w : World} {g : Nat} {f : Bool} {a b d : Nat} (h : FsAt w g f a b d) : SetI w g d := by
  obtain ⟨gl, gr, sz, s1, z1, p1, q1, s2, z2, p2, q2, h1, _⟩ := h
  exact ⟨_, _, _, _, h1⟩

section
variable (μ ν : Nat → Option Nat) (ρ : Nat → Nat → Nat → Bool)

/-- what is kept is right -/
structure LC (F : Cach) (Z : Nat → Prop) (w : World) : Prop where
  kept : ∀ g t, F g = some t → ∃ (c c' : Nat) (cs : Array Value), t.cnt μ = some c ∧ t.cnt ν = some c' ∧ Blk w g 78 cs ∧ cs.size = c ∧ ∀ (i : Nat) (v : Value), cs[i]? = some v → v = .slice none 0 0 ∨ RowZ Z w c' (relT μ ν ρ t i) v
  tz : TZt w
  tzF : F 0 = none

/-- a lifted type -/
def LtAt (F : Cach) (Z : Nat → Prop) (w : World) : Ty → Nat → Prop
  | .n f l r, p => ∃ (gl gr p1 p2 R a b c a' b' c' : Nat), l.cnt μ = some a ∧ r.cnt μ = some b ∧ (Ty.n f l r).cnt μ = some c ∧ l.cnt ν = some a' ∧ r.cnt ν = some b' ∧ (Ty.n f l r).cnt ν = some c' ∧
      Blk w p 75 #[Ptr gl, Ptr gr, Ptr p1, Ptr p2, .slice (some ⟨R, 0, none⟩) c c] ∧ FsAt w gl f a b c ∧ FsAt w gr f a' b' c' ∧ F R = some (.n f l r) ∧ LtAt F Z w l p1 ∧ LtAt F Z w r p2
  | t, p => ∃ (gl gr R c c' : Nat) (cs : Array Value), t.cnt μ = some c ∧ t.cnt ν = some c' ∧ Blk w p 75 #[Ptr gl, Ptr gr, .pointer none, .pointer none, .slice (some ⟨R, 0, none⟩) c c] ∧ SetI w gl c ∧ SetI w gr c' ∧ F R = none ∧
      Blk w R 78 cs ∧ cs.size = c ∧ ∀ (i : Nat) (v : Value), cs[i]? = some v → RowZ Z w c' (relT μ ν ρ t i) v
end

section
variable {μ ν : Nat → Option Nat} {ρ : Nat → Nat → Nat → Bool}

theorem LC.far {F : Cach} {Z : Nat → Prop} {w : World} (h : LC μ ν ρ F Z w) : Far F Z (InF F) w := by
  rintro g ty cs hb hty _ ⟨t, ht⟩
  obtain ⟨c, c', cs', _, _, hb', _⟩ := h.kept g t ht
  rcases hty with hty | hty
  · exact hty (hb.eq hb').1
  · rw [hty] at ht; cases ht

/-- kept by what leaves kept rows alone -/
theorem LC.fr {F : Cach} {Z T : Nat → Prop} {w w' : World} (h : LC μ ν ρ F Z w) (hf : Fr T w w') (hT : Far F Z T w) (hF : ∀ g, InF F g → ¬ T g) (hz : ¬ T 0) : LC μ ν ρ F Z w' := by
  refine ⟨fun g t hg => ?_, h.tz.fr hf hz, h.tzF⟩
  obtain ⟨c, c', cs, h1, h2, h3, h4, h5⟩ := h.kept g t hg
  refine ⟨c, c', cs, h1, h2, h3.fr hf (hF g ⟨t, hg⟩), h4, fun i v hv => ?_⟩
  rcases h5 i v hv with h | h
  · exact .inl h
  · exact .inr (h.fr hf hT)

theorem LC.no {F : Cach} {Z : Nat → Prop} {w w' : World} (h : LC μ ν ρ F Z w) (hf : Fr No w w') : LC μ ν ρ F Z w' := h.fr hf (Far.no F Z w) (fun _ _ h => h) (fun h => h)

theorem LtAt.fr {F : Cach} {Z T : Nat → Prop} {w w' : World} (hf : Fr T w w') (hT : Far F Z T w) : ∀ {t : Ty} {p : Nat}, LtAt μ ν ρ F Z w t p → LtAt μ ν ρ F Z w' t p := by
  intro t
  have leaf : ∀ (t : Ty) (p : Nat), (∃ (gl gr R c c' : Nat) (cs : Array Value), t.cnt μ = some c ∧ t.cnt ν = some c' ∧ Blk w p 75 #[Ptr gl, Ptr gr, .pointer none, .pointer none, .slice (some ⟨R, 0, none⟩) c c] ∧ SetI w gl c ∧ SetI w gr c' ∧ F R = none ∧
      Blk w R 78 cs ∧ cs.size = c ∧ ∀ (i : Nat) (v : Value), cs[i]? = some v → RowZ Z w c' (relT μ ν ρ t i) v) → (∃ (gl gr R c c' : Nat) (cs : Array Value), t.cnt μ = some c ∧ t.cnt ν = some c' ∧ Blk w' p 75 #[Ptr gl, Ptr gr, .pointer none, .pointer none, .slice (some ⟨R, 0, none⟩) c c] ∧ SetI w' gl c ∧ SetI w' gr c' ∧ F R = none ∧
      Blk w' R 78 cs ∧ cs.size = c ∧ ∀ (i : Nat) (v : Value), cs[i]? = some v → RowZ Z w' c' (relT μ ν ρ t i) v) := by
    rintro t p ⟨gl, gr, R, c, c', cs, h1, h2, h3, ⟨s, z, x, y, h4⟩, ⟨s', z', x', y', h5⟩, h6, h7, h8, h9⟩
    exact ⟨gl, gr, R, c, c', cs, h1, h2, h3.fr hf (hT _ _ _ h3 (.inl (by decide)) (fun h => absurd h (by decide))), ⟨s, z, x, y, h4.fr hf (hT _ _ _ h4 (.inl (by decide)) (fun h => absurd h (by decide)))⟩, ⟨s', z', x', y', h5.fr hf (hT _ _ _ h5 (.inl (by decide)) (fun h => absurd h (by decide)))⟩, h6, h7.fr hf (hT _ _ _ h7 (.inr h6) (fun h => absurd h (by decide))), h8, fun i v hv => (h9 i v hv).fr hf hT⟩
  induction t with
  | v i => intro p h; exact leaf (.v i) p h
  | o => intro p h; exact leaf .o p h
  | n f l r ihl ihr =>
    rintro p ⟨gl, gr, p1, p2, R, a, b, c, a', b', c', h1, h2, h3, h4, h5, h6, h7, h8, h9, h10, h11, h12⟩
    exact ⟨gl, gr, p1, p2, R, a, b, c, a', b', c', h1, h2, h3, h4, h5, h6, h7.fr hf (hT _ _ _ h7 (.inl (by decide)) (fun h => absurd h (by decide))), h8.far hf hT, h9.far hf hT, h10, ihl h11, ihr h12⟩

/-- more is kept -/
theorem LtAt.grow {F F' : Cach} {Z : Nat → Prop} {w : World} (hF : ∀ g, g < w.heap.size → F' g = F g) (hk : ∀ g t, F g = some t → g < w.heap.size) : ∀ {t : Ty} {p : Nat}, LtAt μ ν ρ F Z w t p → LtAt μ ν ρ F' Z w t p := by
  intro t
  induction t with
  | v i =>
    rintro p ⟨gl, gr, R, c, c', cs, h1, h2, h3, h4, h5, h6, h7, h8, h9⟩
    exact ⟨gl, gr, R, c, c', cs, h1, h2, h3, h4, h5, by rw [hF R h7.lt]; exact h6, h7, h8, h9⟩
  | o =>
    rintro p ⟨gl, gr, R, c, c', cs, h1, h2, h3, h4, h5, h6, h7, h8, h9⟩
    exact ⟨gl, gr, R, c, c', cs, h1, h2, h3, h4, h5, by rw [hF R h7.lt]; exact h6, h7, h8, h9⟩
  | n f l r ihl ihr =>
    rintro p ⟨gl, gr, p1, p2, R, a, b, c, a', b', c', h1, h2, h3, h4, h5, h6, h7, h8, h9, h10, h11, h12⟩
    exact ⟨gl, gr, p1, p2, R, a, b, c, a', b', c', h1, h2, h3, h4, h5, h6, h7, h8, h9, by rw [hF R (hk _ _ h10)]; exact h10, ihl h11, ihr h12⟩

/-- the sets on both sides -/
theorem LtAt.sets {F : Cach} {Z : Nat → Prop} {w : World} {t : Ty} {p : Nat} (h : LtAt μ ν ρ F Z w t p) : ∃ (gl gr c c' : Nat) (x y z : Value), t.cnt μ = some c ∧ t.cnt ν = some c' ∧ Blk w p 75 #[Ptr gl, Ptr gr, x, y, z] ∧ SetI w gl c ∧ SetI w gr c' := by
  cases t with
  | v i =>
    obtain ⟨gl, gr, R, c, c', cs, h1, h2, h3, h4, h5, _⟩ := h
    exact ⟨gl, gr, c, c', _, _, _, h1, h2, h3, h4, h5⟩
  | o =>
    obtain ⟨gl, gr, R, c, c', cs, h1, h2, h3, h4, h5, _⟩ := h
    exact ⟨gl, gr, c, c', _, _, _, h1, h2, h3, h4, h5⟩
  | n f l r =>
    obtain ⟨gl, gr, p1, p2, R, a, b, c, a', b', c', h1, h2, h3, h4, h5, h6, h7, h8, h9, _⟩ := h
    exact ⟨gl, gr, c, c', _, _, _, h3, h6, h7, h8.seti, h9.seti⟩

/-- a row is kept -/
theorem LC.keepIt {F : Cach} {Z : Nat → Prop} {w : World} (h : LC μ ν ρ F Z w) {R i c' : Nat} {t : Ty} {v : Value} (hR : F R = some t) (hc : t.cnt ν = some c') (hv : RowZ Z w c' (relT μ ν ρ t i) v) : LC μ ν ρ F Z (w.setCell ⟨R, i, none⟩ v) ∧ Fr (InF F) w (w.setCell ⟨R, i, none⟩ v) ∧ RowZ Z (w.setCell ⟨R, i, none⟩ v) c' (relT μ ν ρ t i) v := by
  have hf : Fr (One R) w (w.setCell ⟨R, i, none⟩ v) := (Fr.refl (One R) w).setCell (p := ⟨R, i, none⟩) (.inl rfl) v
  have hfar : Far F Z (One R) w := fun g ty cs hb hty hz e => h.far g ty cs hb hty hz ⟨t, by rw [show g = R from e]; exact hR⟩
  have hv' := hv.fr hf hfar
  refine ⟨⟨fun g t' hg => ?_, h.tz.fr hf (fun e => by have e : 0 = R := e; rw [← e, h.tzF] at hR; cases hR), h.tzF⟩, hf.mono (fun k _ e => ⟨t, by rw [show k = R from e]; exact hR⟩), hv'⟩
  obtain ⟨d, d', cs, h1, h2, h3, h4, h5⟩ := h.kept g t' hg
  by_cases e : g = R
  · subst e
    rw [hR] at hg
    injection hg with hg
    subst hg
    rw [hc] at h2
    injection h2 with h2
    subst h2
    refine ⟨d, c', _, h1, hc, h3.set_ i v, by simpa using h4, fun j u hu => ?_⟩
    rw [Array.getElem?_setIfInBounds] at hu
    by_cases ej : i = j
    · subst ej
      split at hu
      · split at hu
        · injection hu with hu; subst hu; exact .inr hv'
        · cases hu
      · rename_i hn; exact (hn rfl).elim
    · rw [if_neg ej] at hu
      rcases h5 j u hu with h | h
      · exact .inl h
      · exact .inr (h.fr hf hfar)
  · refine ⟨d, d', cs, h1, h2, h3.far (p := ⟨R, i, none⟩) e v, h4, fun j u hu => ?_⟩
    rcases h5 j u hu with h | h
    · exact .inl h
    · exact .inr (h.fr hf hfar)

/-- a list of sets in memory -/
def DsAt (w : World) (G : Nat) (Ds : List (Nat → Bool)) (m : Nat → Nat) : Prop := ∃ cs : Array Value, Blk w G 78 cs ∧ cs.size = Ds.length ∧ ∀ (j : Nat) (D : Nat → Bool), Ds[j]? = some D → ∃ v, cs[j]? = some v ∧ RowV w (m j) D v

theorem DsAt.no {w w' : World} {G : Nat} {Ds : List (Nat → Bool)} {m : Nat → Nat} (h : DsAt w G Ds m) (hf : Fr No w w') : DsAt w' G Ds m := by
  obtain ⟨cs, h1, h2, h3⟩ := h
  refine ⟨cs, h1.fr hf (fun h => h), h2, fun j D hD => ?_⟩
  obtain ⟨v, h4, g, ws, h5, h6, h7⟩ := h3 j D hD
  exact ⟨v, h4, g, ws, h5, h6.fr hf (fun h => h), h7⟩

/-- less is anybody's own -/
theorem LC.less {F : Cach} {Z Z' : Nat → Prop} {w : World} (h : LC μ ν ρ F Z w) (hz : ∀ g, g < w.heap.size → Z' g → Z g) : LC μ ν ρ F Z' w := by
  refine ⟨fun g t hg => ?_, h.tz, h.tzF⟩
  obtain ⟨c, c', cs, h1, h2, h3, h4, h5⟩ := h.kept g t hg
  refine ⟨c, c', cs, h1, h2, h3, h4, fun i v hv => ?_⟩
  rcases h5 i v hv with h | h
  · exact .inl h
  · exact .inr (h.less hz)

theorem LtAt.less {F : Cach} {Z Z' : Nat → Prop} {w : World} (hz : ∀ g, g < w.heap.size → Z' g → Z g) : ∀ {t : Ty} {p : Nat}, LtAt μ ν ρ F Z w t p → LtAt μ ν ρ F Z' w t p := by
  intro t
  induction t with
  | v i =>
    rintro p ⟨gl, gr, R, c, c', cs, h1, h2, h3, h4, h5, h6, h7, h8, h9⟩
    exact ⟨gl, gr, R, c, c', cs, h1, h2, h3, h4, h5, h6, h7, h8, fun i v hv => (h9 i v hv).less hz⟩
  | o =>
    rintro p ⟨gl, gr, R, c, c', cs, h1, h2, h3, h4, h5, h6, h7, h8, h9⟩
    exact ⟨gl, gr, R, c, c', cs, h1, h2, h3, h4, h5, h6, h7, h8, fun i v hv => (h9 i v hv).less hz⟩
  | n f l r ihl ihr =>
    rintro p ⟨gl, gr, p1, p2, R, a, b, c, a', b', c', h1, h2, h3, h4, h5, h6, h7, h8, h9, h10, h11, h12⟩
    exact ⟨gl, gr, p1, p2, R, a, b, c, a', b', c', h1, h2, h3, h4, h5, h6, h7, h8, h9, h10, ihl h11, ihr h12⟩

theorem LC.old {F : Cach} {Z : Nat → Prop} {w : World} (h : LC μ ν ρ F Z w) {g : Nat} (hg : InF F g) : g < w.heap.size := by
  obtain ⟨t, ht⟩ := hg
  obtain ⟨c, c', cs, _, _, h3, _⟩ := h.kept g t ht
  exact h3.lt
end
end Go.Proofs.YtloecimlimoanaaDoor

/- slices.Backward over bit sets: the iterator; a range over a method value within a round. -/
namespace Go.Proofs.YtloecimlimoanaaDoor
open Go.RowKit Go.ChangeMaps Go.Shelf

attribute [local go_sem] Oper.semAt_some

section
variable {P : Program} {F : Fence} {n : Nat}
/-- a range over a function within a round: one block, no mark -/
theorem rf_stmt1N {g : Operand} {ps : Array Tmp} {assign body : Code} {Q : Exit → Act → World → Prop} {a : Act} {w : World} {l0 : Nat} {r0 : Loop} (hro : F.round = some l0) (hl0 : w.heap[l0]? = some (.loop r0)) (h1 : 1 ≤ n) {gf : Nat} {fa : Array Value} (hg : a.eval g = .func (.func gf) fa #[]) (hFg : F.fn gf) (eg : ∀ args w, (callFunc gf args).run P w = .ok (.enter gf args) w)
    (h : ∀ (fn : FuncId) (L : Nat) (rec : LoopState → Option Code → Loop), F.fn fn → L = w.heap.size → rec = (fun st pe => LR fn a.tmps ps assign body r0.defers st pe) → ∀ W1, W1 = w.alloc (.loop (rec .ready none)) →
      CallsIn F (n - 1) P gf (fa ++ #[.func (.yield L) #[] #[]]) W1 fun e W2 => (∃ v, e = .returned v) ∧ ∃ st jump, st ≠ .busy ∧ W2.heap[L]? = some (.loop (rec st jump)) ∧
        (match jump with
          | none => Q .normal a (W2.putObj L (.loop (rec .exhausted jump)))
          | some c => c.wpIn F n P Q a (W2.putObj L (.loop (rec .exhausted jump))))) :
    (Code.rangeFunc g ps assign body).wpIn F n P Q a w := by
  refine wpIn_rangeFunc ?_
  intro fn hfn
  rw [hro]
  obtain ⟨W1, hW1⟩ : ∃ W1, W1 = w.alloc (.loop (LR fn a.tmps ps assign body r0.defers .ready none)) := ⟨_, rfl⟩
  refine ⟨w.heap.size, [], W1, { target := .fn (.func gf) #[], args := fa ++ #[.func (.yield w.heap.size) #[] #[]] }, W1, gf, fa ++ #[.func (.yield w.heap.size) #[] #[]], W1, ?_, ?_, ?_, ?_, fun _ => h1, ?_⟩
  · rw [hW1]; exact run_enterLoop_inner hl0 _ _ _ _ _
  · simp only [resolve, hg]
    simp [go_sem]
  · intro f' hf'
    simp [Target.leads] at hf'
    exact hf' ▸ hFg
  · simp [invoke, go_sem, eg]
  · refine CallsIn.mono (h fn w.heap.size _ hfn rfl rfl W1 hW1) ?_
    rintro e W2 ⟨⟨v, rfl⟩, st, jump, hb, hl, hq⟩
    refine ⟨jump, _, run_endLoop hl hb, ?_⟩
    cases jump with
    | none => exact hq
    | some c => exact hq
end

set_option maxHeartbeats 400000 in
theorem backwardB_any (w : World) (A : Option Addr) (n c : Nat) : Calls Tryd.prog 127 #[.slice A n c] w fun e w' => e = .returned (.func (.func 145) #[] #[Ptr w.heap.size]) ∧ w' = w.alloc (.cells #[.slice A n c] 73) := by
  go_enter Tryd.func127, Tryd.ntmps127
  go_wp2_with fail
  go_ret
  exact ⟨rfl, rfl⟩

set_option maxRecDepth 100000 in
set_option maxHeartbeats 4000000 in
theorem bwb_in (F : Fence) (n : Nat) (hfn : ∀ f, F.fn f) (hro : F.round = none) (hn : 2 ≤ n) (l B : Nat) (S : Nat → Prop) (G : Nat) (lst : List Value) (J : Nat → World → Prop)
    (hJ : ∀ (i : Nat) (z : Value) (W : World), J (i + 1) W → lst[i]? = some z → YieldAt F (n - 1) Tryd.prog l #[.int .i64 i, z] W fun e W' => e = .returned (.bool true) ∧ J i W' ∧ Fr S W W')
    (w : World) (hlen : lst.length ≤ 100000) (h0 : J lst.length w) (hbox : Blk w B 73 #[.slice (some ⟨G, 0, none⟩) lst.length lst.length]) (hsl : Blk w G 78 lst.toArray) (hSB : ¬ S B) (hSG : ¬ S G) :
    CallsIn F n Tryd.prog 145 #[.func (.yield l) #[] #[], Ptr B] w fun e W' => (∃ v, e = .returned v) ∧ J 0 W' := by
  have HJ := Lib.hid hJ
  have CELLS : Hid (∀ W, Fr S w W → W.cell? ⟨B, 0, none⟩ = some (.slice (some ⟨G, 0, none⟩) lst.length lst.length) ∧ ∀ (j : Nat) (z : Value), lst[j]? = some z → W.cell? ⟨G, j, none⟩ = some z) := by
    intro W hf
    refine ⟨((hbox.fr hf hSB).cell 0).trans rfl, fun j z hz => ((hsl.fr hf hSG).cell j).trans (by rw [List.getElem?_toArray]; exact hz)⟩
  have H0 := Lib.hid h0
  have hlI : (lst.length : Int) ≤ 100000 := by omega
  have c0 := (CELLS.out w (Fr.refl _ _)).1
  clear hJ h0 hbox hsl hSB hSG
  refine callsIn_of_wp Tryd.func145 rfl (hfn _) ?_ hro
  simp only [Tryd.ntmps145, List.size_toArray, List.length_cons, List.length_nil, Nat.reduceAdd, Nat.reduceSub, Array.replicate_succ, Array.replicate_zero, List.push_toArray, List.append_toArray, List.nil_append, List.cons_append]
  gi_wp2_with fail
  gi_loopg [3] lst.length (fun g u W => g ≤ lst.length ∧ J g W ∧ Fr S w W ∧ ((∃ i : Nat, g = i + 1 ∧ u = .int .i64 i) ∨ (g = 0 ∧ u = .int .i64 (-1))))
  case atStart =>
    refine ⟨Nat.le_refl _, H0.out, Fr.refl _ _, ?_⟩
    rcases hlen : lst.length with _ | i
    · exact .inr ⟨rfl, rfl⟩
    · exact .inl ⟨i, rfl, congrArg (Value.int .i64) (by omega)⟩
  case round =>
    obtain ⟨hg, hj, hfr, ⟨i, rfl, rfl⟩ | ⟨rfl, rfl⟩⟩ := hrel
    · obtain ⟨z, hz⟩ : ∃ z, lst[i]? = some z := ⟨_, List.getElem?_eq_getElem (by omega)⟩
      obtain ⟨cb, hcs⟩ := CELLS.out wr hfr
      have hc := hcs i z hz
      obtain ⟨fn, tmps, assign, body, hy, hR⟩ := HJ.out i z wr hj hz
      have hilt : (i : Int) < (lst.length : Int) := by omega
      have HF := Lib.hid hfr
      have hn' : 1 ≤ n := by omega
      clear hcs hz hj hfr
      gi_wp2_with fail
      refine hR.mono ?_
      rintro e W3 ⟨rfl, h3, hf3⟩
      have HREL : Hid (i ≤ lst.length ∧ J i W3 ∧ Fr S w W3) := ⟨by omega, h3, HF.out.trans hf3⟩
      have HV : Hid ((∃ i' : Nat, i = i' + 1 ∧ Value.int .i64 ((i : Int) - 1) = .int .i64 i') ∨ (i = 0 ∧ Value.int .i64 ((i : Int) - 1) = .int .i64 (-1))) := by
        rcases i with _ | i
        · exact .inr ⟨rfl, rfl⟩
        · exact .inl ⟨i, rfl, congrArg (Value.int .i64) (by omega)⟩
      clear hy hR h3 hf3 c0 cb hc
      gi_wp2_with fail
      go_roundg i
      case measure => omega
      case rel => exact ⟨HREL.out.1, HREL.out.2.1, HREL.out.2.2, HV.out⟩
    · gi_wp2_with fail
      go_end0
      exact ⟨⟨_, rfl⟩, hj⟩
end Go.Proofs.YtloecimlimoanaaDoor

/- The elements whose digits are in sets. -/
namespace Go.Proofs.YtloecimlimoanaaDoor
open Go.RowKit Go.ChangeMaps Go.Shelf

attribute [local go_sem] Oper.semAt_some

/-- between two rounds -/
structure EJ (w : World) (gr E D : Nat) (rec : LoopState → Option Code → Loop) (d b : Nat) (Ds : List (Nat → Bool)) (j : Nat) (W : World) : Prop where
  fr : Fr No w W
  par : Blk W w.heap.size 72 #[Ptr gr]
  box : ∃ (g : Nat) (ws : List Nat), w.heap.size ≤ g ∧ Blk W E 78 #[.slice (some ⟨g, 0, none⟩) (nw d) (nw d)] ∧ Blk W g 127 (WV ws) ∧ BitsIs ws d (inD b (Ds.drop j))
  lp : W.heap[D + 1]? = some (.loop (rec .ready none))
  df : W.heap[D]? = some (.deferred (some []))
  sz : D + 2 ≤ W.heap.size

/-- between two elements, within a round -/
structure EK (W : World) (gr w0 X X1 Y D L : Nat) (rec rec2 : LoopState → Option Code → Loop) (d b m : Nat) (Q : Nat → Bool) (vs : Value) (pre : List Nat) (V : World) : Prop where
  fr : Fr (fun k => k = D + 1) W V
  par : Blk V w0 72 #[Ptr gr]
  some_ : Blk V X 78 #[vs]
  next : Blk V Y 78 #[.slice (some ⟨X1, 0, none⟩) (nw d) (nw d)]
  bits : ∃ ws : List Nat, Blk V X1 127 (WV ws) ∧ BitsIs ws d (fun x => pre.any (fun e => decide (e * b ≤ x) && Q (x - e * b)))
  lp : V.heap[D + 1]? = some (.loop (rec .busy none))
  lp2 : V.heap[L]? = some (.loop (rec2 .ready none))
  sz : L + 1 ≤ V.heap.size

theorem any_snoc (b : Nat) (Q : Nat → Bool) (pre : List Nat) (x j : Nat) : (pre ++ [x]).any (fun e => decide (e * b ≤ j) && Q (j - e * b)) = (pre.any (fun e => decide (e * b ≤ j) && Q (j - e * b)) || (decide (x * b ≤ j) && Q (j - x * b))) := by
  rw [List.any_append]; simp

set_option maxRecDepth 100000 in
set_option maxHeartbeats 8000000 in
theorem elemsD_any (w : World) (gr : Nat) (f : Bool) (a b d : Nat) (hF : FsAt w gr f a b d) (G : Nat) (Ds : List (Nat → Bool)) (m : Nat → Nat) (hDs : DsAt w G Ds m) (hlen2 : Ds.length ≤ 4096) (hb : 1 ≤ b) (_ : b ≤ 4096) (hd1 : 1 ≤ d) (hd2 : d ≤ 4096) (hT : TZt w)
    (hm : ∀ (j : Nat) (D : Nat → Bool), Ds[j]? = some D → ∀ x, D x = true → x < m j) (hmb : ∀ (j : Nat), Ds.drop (j + 1) ≠ [] → m j ≤ b)
    (hroom : ∀ (j e : Nat), j < Ds.length → e < d → inD b (Ds.drop (j + 1)) e = true → e * b + m j ≤ d) :
    Calls Tryd.prog 100 #[Ptr gr, .slice (some ⟨G, 0, none⟩) Ds.length Ds.length] w fun e w' => NewBits d (inD b Ds) w e w' := by
  obtain ⟨cs, hG, hcs, hrows⟩ := hDs
  obtain ⟨gl, grr, sz, s1, z1, p1, q1, s2, z2, p2, q2, hg1, _, hg3⟩ := hF
  have CELLS : Hid (∀ W, Fr No w W → W.cell? ⟨gr, 2, none⟩ = some (.int .i64 d) ∧ W.cell? ⟨gr, 4, none⟩ = some (Ptr grr) ∧ W.cell? ⟨grr, 2, none⟩ = some (.int .i64 b)) := fun W hf => ⟨((hg1.fr hf (fun h => h)).cell 2).trans rfl, ((hg1.fr hf (fun h => h)).cell 4).trans rfl, ((hg3.fr hf (fun h => h)).cell 2).trans rfl⟩
  have HG := Lib.hid hG
  have HROWS := Lib.hid hrows
  have HT := Lib.hid hT
  have HM := Lib.hid hm
  have HMB := Lib.hid hmb
  have HROOM := Lib.hid hroom
  have HCS := Lib.hid hcs
  have hdI : (d : Int) ≤ 4096 := by omega
  have LOW : Hid (gr < w.heap.size ∧ grr < w.heap.size ∧ G < w.heap.size) := ⟨hg1.lt, hg3.lt, hG.lt⟩
  have c2 := (CELLS.out (w.alloc (.cells #[Ptr gr] 72)) ((Fr.refl No w).alloc _)).1
  clear hG hg1 hg3 hrows hT hm hmb hroom hcs
  refine (callsIn_wide (n := 9)).1 ?_
  refine callsIn_of_wp_marks Tryd.func100 rfl trivial ?_ rfl
  simp only [Tryd.ntmps100, List.size_toArray, List.length_cons, List.length_nil, Nat.reduceAdd, Nat.reduceSub, Array.replicate_succ, Array.replicate_zero, List.push_toArray, List.append_toArray, List.nil_append, List.cons_append]
  gi_wp2_with fail
  have hf0 : Fr No w (w.alloc (.cells #[Ptr gr] 72)) := (Fr.refl No w).alloc _
  have hb0 : Blk (w.alloc (.cells #[Ptr gr] 72)) w.heap.size 72 #[Ptr gr] := Blk.new _ _ _
  have hz0 : (w.alloc (.cells #[Ptr gr] 72)).heap.size = w.heap.size + 1 := by simp
  generalize (w.alloc (.cells #[Ptr gr] 72)) = wa at hf0 hb0 hz0 c2 ⊢
  refine ⟨trivial, (callsIn_wide.2 (newBitSet_any wa d hd1 (by omega))).mono ?_⟩
  rintro e w1 ⟨rfl, hf1, hb1⟩
  have HF1 := Lib.hid (hf0.trans hf1)
  have HB0 := Lib.hid (hb0.fr hf1 (fun h => h))
  have HB1 := Lib.hid hb1
  have HZ1 : Hid (wa.heap.size = w.heap.size + 1 ∧ w.heap.size + 2 ≤ w1.heap.size) := ⟨hz0, by have := hb1.lt; omega⟩
  rw [hz0]
  clear hf0 hb0 hz0 hf1 hb1 c2
  gi_wp2_with fail
  have HF2 : Hid (Fr No w (w1.alloc (.cells #[.slice (some ⟨w.heap.size + 1, 0, none⟩) (nw d) (nw d)] 78))) := HF1.out.alloc _
  have HB2 : Hid (Blk (w1.alloc (.cells #[.slice (some ⟨w.heap.size + 1, 0, none⟩) (nw d) (nw d)] 78)) w.heap.size 72 #[Ptr gr]) := HB0.out.alloc _
  have HE2 : Hid (Blk (w1.alloc (.cells #[.slice (some ⟨w.heap.size + 1, 0, none⟩) (nw d) (nw d)] 78)) w1.heap.size 78 #[.slice (some ⟨w.heap.size + 1, 0, none⟩) (nw d) (nw d)]) := Blk.new _ _ _
  have HW2 : Hid (Blk (w1.alloc (.cells #[.slice (some ⟨w.heap.size + 1, 0, none⟩) (nw d) (nw d)] 78)) (w.heap.size + 1) 127 (WV (List.replicate (nw d) 0))) := by
    have h := HB1.out
    rw [HZ1.out.1] at h
    exact h.alloc _
  generalize (w1.alloc (.cells #[.slice (some ⟨w.heap.size + 1, 0, none⟩) (nw d) (nw d)] 78)) = wb at HF2 HB2 HE2 HW2 ⊢
  refine ⟨trivial, (callsIn_wide.2 (bsAdd_any wb (w.heap.size + 1) _ d 0 _ HW2.out (BitsIs.new d) hd1 (by omega))).mono ?_⟩
  rintro e w2 ⟨rfl, hfa, ws, hbw, hbits⟩
  have hz2 : Hid (w.heap.size + 2 ≤ w1.heap.size ∧ w1.heap.size < wb.heap.size) := ⟨HZ1.out.2, HE2.out.lt⟩
  have HF3 : Hid (Fr No w w2) := HF2.out.then_ hfa (fun i hi h => by have h : i = w.heap.size + 1 := h; omega)
  have HB3 : Hid (Blk w2 w.heap.size 72 #[Ptr gr]) := HB2.out.fr hfa (fun h => by have h : w.heap.size = w.heap.size + 1 := h; omega)
  have HE3 : Hid (Blk w2 w1.heap.size 78 #[.slice (some ⟨w.heap.size + 1, 0, none⟩) (nw d) (nw d)]) := HE2.out.fr hfa (fun h => by have h : w1.heap.size = w.heap.size + 1 := h; have := hz2.out; omega)
  have HW3 := Lib.hid hbw
  have HI3 := Lib.hid hbits
  generalize w1.heap.size = E at *
  clear hfa hbw hbits HF1 HB0 HB1 HZ1 HF2 HB2 HE2 HW2
  gi_wp2_with fail
  refine ⟨trivial, (callsIn_wide.2 (backwardB_any w2 _ _ _)).mono ?_⟩
  rintro e w' ⟨rfl, rfl⟩
  gi_wp2_with fail
  have hf4 : Fr No w (w2.alloc (.cells #[.slice (some ⟨G, 0, none⟩) Ds.length Ds.length] 73)) := HF3.out.alloc _
  have hb4 : Blk (w2.alloc (.cells #[.slice (some ⟨G, 0, none⟩) Ds.length Ds.length] 73)) w2.heap.size 73 #[.slice (some ⟨G, 0, none⟩) Ds.length Ds.length] := Blk.new _ _ _
  have hp4 := HB3.out.alloc (.cells #[.slice (some ⟨G, 0, none⟩) Ds.length Ds.length] 73)
  have he4 := HE3.out.alloc (.cells #[.slice (some ⟨G, 0, none⟩) Ds.length Ds.length] 73)
  have hw4 := HW3.out.alloc (.cells #[.slice (some ⟨G, 0, none⟩) Ds.length Ds.length] 73)
  have hz4 : (w2.alloc (.cells #[.slice (some ⟨G, 0, none⟩) Ds.length Ds.length] 73)).heap.size = w2.heap.size + 1 := by simp
  have HZE : Hid (w.heap.size + 2 ≤ E ∧ E < w2.heap.size) := ⟨hz2.out.1, HE3.out.lt⟩
  generalize (w2.alloc (.cells #[.slice (some ⟨G, 0, none⟩) Ds.length Ds.length] 73)) = w4 at hf4 hb4 hp4 he4 hw4 hz4 ⊢
  refine rf_stmt rfl (by decide) (gf := 145) (lb := #[Ptr w2.heap.size]) rfl trivial (enters_of Tryd.func145 (by kernel_rfl) rfl) ?_
  intro fn D rec hf hD hrec W1 hW1
  have HREC := Lib.hid hrec
  have hD1 : W1.heap.size = D + 2 := by rw [hW1, hD]; simp
  have hfW : Fr No w4 W1 := by rw [hW1]; exact ((Fr.refl _ _).alloc _).alloc _
  have hl1 : W1.heap[D + 1]? = some (.loop (rec .ready none)) := by
    rw [hW1]
    have := World.alloc_heap_new (w4.alloc (.deferred (some []))) (.loop (rec .ready none))
    rwa [World.size_alloc, ← hD] at this
  have hd1' : W1.heap[D]? = some (.deferred (some [])) := by
    rw [hW1, hD]
    exact (Below.heap_alloc _ _ _ (by simp)).trans (World.alloc_heap_new w4 _)
  have HDW : Hid (D = w2.heap.size + 1 ∧ w.heap.size + 2 ≤ E ∧ E < w2.heap.size) := ⟨by omega, HZE.out.1, HZE.out.2⟩
  clear hrec hW1
  have hfw := hf4.trans hfW
  have J0 : EJ w gr E D rec d b Ds Ds.length W1 := ⟨hfw, hp4.fr hfW (fun h => h), ⟨w.heap.size + 1, ws, by omega, he4.fr hfW (fun h => h), hw4.fr hfW (fun h => h), HI3.out.congr (fun j hj => by rw [List.drop_length]; show (false || decide (j = 0)) = (j == 0); rw [Bool.false_or]; exact (Bool.beq_eq_decide_eq j 0).symm)⟩, hl1, hd1', by omega⟩
  have hlist : cs.toList.length = Ds.length := by rw [Array.length_toList]; exact HCS.out
  have hG1 : Blk W1 G 78 cs.toList.toArray := by
    have h := HG.out.fr hfw (fun h => h)
    simpa using h
  have hbx1 : Blk W1 w2.heap.size 73 #[.slice (some ⟨G, 0, none⟩) cs.toList.length cs.toList.length] := by rw [hlist]; exact hb4.fr hfW (fun h => h)
  have HLIST := Lib.hid hlist
  refine (bwb_in Fence.wide 8 (fun _ => trivial) rfl (by decide) (D + 1) w2.heap.size (fun k => k = E ∨ k = D + 1) G cs.toList (EJ w gr E D rec d b Ds) ?round W1 (by omega) (by rw [hlist]; exact J0) hbx1 hG1 (by rintro (h | h) <;> have := HDW.out <;> omega) (by rintro (h | h) <;> have := HDW.out <;> have := LOW.out <;> omega)).mono ?_
  case round =>
    intro i z W hj hz
    have hil : i < Ds.length := by rw [← HLIST.out]; exact (List.getElem?_eq_some_iff.1 hz).1
    obtain ⟨Q, hQ⟩ : ∃ Q, Ds[i]? = some Q := ⟨_, List.getElem?_eq_getElem hil⟩
    obtain ⟨v, hv, gz, os, rfl, hgz, hos⟩ := HROWS.out i Q hQ
    rw [Array.getElem?_toList, hv] at hz
    injection hz with hz
    subst hz
    have HQ := Lib.hid hQ
    have HJ := Lib.hid hj
    have HOS := Lib.hid hos
    have HGZ : Hid (Blk w gz 127 (WV os)) := hgz
    obtain ⟨g, ws, hglo, hbE, hbg, hbi⟩ := hj.box
    have HBI := Lib.hid hbi
    have HIL := Lib.hid hil
    have HLO : Hid (gz < w.heap.size ∧ w.heap.size ≤ g ∧ D + 2 ≤ W.heap.size ∧ g ≠ E ∧ g ≠ D + 1 ∧ E ≠ D + 1 ∧ w.heap.size ≠ D + 1 ∧ g < W.heap.size ∧ E < W.heap.size) := by
      have := HDW.out
      have h1 : g ≠ E := fun e => by rw [e] at hbg; exact absurd (hbg.eq hbE).1 (by decide)
      have h2 : g ≠ D + 1 := hbg.ne_of HJ.out.lp (fun _ h => by cases h)
      exact ⟨hgz.lt, hglo, HJ.out.sz, h1, h2, by omega, by omega, hbg.lt, hbE.lt⟩
    have HBE := Lib.hid hbE
    have HBG := Lib.hid hbg
    clear hj hQ hos hgz hbE hbg hbi hil hf4 hb4 hp4 he4 hw4 hz4 hD hD1 hfW hl1 hd1' hfw J0 hlist hG1 hbx1 hglo hv HF3 HB3 HE3 HW3 HI3
    refine rf_round HREC.out hf HJ.out.lp rfl ?_
    gi_wp2_with fail
    have hfA : Fr No W (W.alloc (.cells #[.slice (some ⟨gz, 0, none⟩) (nw (m i)) (nw (m i))] 78)) := (Fr.refl No W).alloc _
    have hbA : Blk (W.alloc (.cells #[.slice (some ⟨gz, 0, none⟩) (nw (m i)) (nw (m i))] 78)) W.heap.size 78 #[.slice (some ⟨gz, 0, none⟩) (nw (m i)) (nw (m i))] := Blk.new _ _ _
    have hzA : (W.alloc (.cells #[.slice (some ⟨gz, 0, none⟩) (nw (m i)) (nw (m i))] 78)).heap.size = W.heap.size + 1 := by simp
    have hlA : (W.alloc (.cells #[.slice (some ⟨gz, 0, none⟩) (nw (m i)) (nw (m i))] 78)).heap[D + 1]? = some (.loop (rec .ready none)) := (hfA.block (D + 1) (by have := HLO.out; omega) (fun h => h)).trans HJ.out.lp
    generalize (W.alloc (.cells #[.slice (some ⟨gz, 0, none⟩) (nw (m i)) (nw (m i))] 78)) = Wa at hfA hbA hzA hlA ⊢
    refine ⟨_, rf_begin HREC.out hlA, ?_⟩
    have hfp : Fr (fun k => k = D + 1) Wa (Wa.putObj (D + 1) (.loop (rec .busy none))) := Fr.putObj _ _
    have hlp : (Wa.putObj (D + 1) (.loop (rec .busy none))).heap[D + 1]? = some (.loop (rec .busy none)) := World.putObj_heap_same (by have := HLO.out; omega)
    have hsp : (Wa.putObj (D + 1) (.loop (rec .busy none))).heap.size = W.heap.size + 1 := by simp [hzA]
    have HFB : Hid (Fr (fun k => k = D + 1) W (Wa.putObj (D + 1) (.loop (rec .busy none)))) := (hfA.mono (fun _ _ h => h.elim)).trans hfp
    have HBA : Hid (Blk (Wa.putObj (D + 1) (.loop (rec .busy none))) W.heap.size 78 #[.slice (some ⟨gz, 0, none⟩) (nw (m i)) (nw (m i))]) := hbA.fr hfp (fun h => by have h : W.heap.size = D + 1 := h; have := HLO.out; omega)
    have HLP := Lib.hid hlp
    have HSP := Lib.hid hsp
    generalize (Wa.putObj (D + 1) (.loop (rec .busy none))) = Wb at HFB HBA HLP HSP hfp hlp hsp ⊢
    have HPB : Hid (Blk Wb w.heap.size 72 #[Ptr gr]) := HJ.out.par.fr HFB.out (fun h => HLO.out.2.2.2.2.2.2.1 h)
    have HFW : Hid (Fr No w Wb) := HJ.out.fr.then_ HFB.out (fun k hk h => by have h : k = D + 1 := h; have := HDW.out; omega)
    have c0 : Wb.cell? ⟨w.heap.size, 0, none⟩ = some (Ptr gr) := (HPB.out.cell 0).trans rfl
    obtain ⟨c2, c3, c4⟩ := CELLS.out Wb HFW.out
    clear hfA hbA hzA hlA hfp hlp hsp
    gi_wp2_with fail
    refine ⟨trivial, (callsIn_wide.2 (newBitSet_any Wb d hd1 (by omega))).inRound _ |>.mono ?_⟩
    rintro e Wc ⟨rfl, hfc, hbc⟩
    obtain ⟨X, hX⟩ : ∃ X, X = W.heap.size := ⟨_, rfl⟩
    have hX1 : Wb.heap.size = X + 1 := by rw [hX]; exact HSP.out
    rw [hX1] at hbc ⊢
    rw [← hX] at HBA HLO ⊢
    have hX2 : X + 2 ≤ Wc.heap.size := by have := hbc.lt; omega
    have hfd : Fr No Wb (Wc.alloc (.cells #[.slice (some ⟨X + 1, 0, none⟩) (nw d) (nw d)] 78)) := hfc.alloc _
    have HBX := Lib.hid (hbc.alloc (.cells #[.slice (some ⟨X + 1, 0, none⟩) (nw d) (nw d)] 78))
    have HBY : Hid (Blk (Wc.alloc (.cells #[.slice (some ⟨X + 1, 0, none⟩) (nw d) (nw d)] 78)) Wc.heap.size 78 #[.slice (some ⟨X + 1, 0, none⟩) (nw d) (nw d)]) := Blk.new _ _ _
    have HFD : Hid (Fr (fun k => k = D + 1) W (Wc.alloc (.cells #[.slice (some ⟨X + 1, 0, none⟩) (nw d) (nw d)] 78))) := HFB.out.trans (hfd.mono (fun _ _ h => h.elim))
    have HBS : Hid (Blk (Wc.alloc (.cells #[.slice (some ⟨X + 1, 0, none⟩) (nw d) (nw d)] 78)) X 78 #[.slice (some ⟨gz, 0, none⟩) (nw (m i)) (nw (m i))]) := HBA.out.fr hfd (fun h => h)
    have HLD : Hid ((Wc.alloc (.cells #[.slice (some ⟨X + 1, 0, none⟩) (nw d) (nw d)] 78)).heap[D + 1]? = some (.loop (rec .busy none))) := (hfd.block (D + 1) (by rw [hX1]; have := HLO.out; omega) (fun h => h)).trans HLP.out
    have cE : (Wc.alloc (.cells #[.slice (some ⟨X + 1, 0, none⟩) (nw d) (nw d)] 78)).cell? ⟨E, 0, none⟩ = some (.slice (some ⟨g, 0, none⟩) (nw d) (nw d)) := ((HBE.out.fr HFD.out (fun h => HLO.out.2.2.2.2.2.1 h)).cell 0).trans rfl
    have HPD : Hid (Blk (Wc.alloc (.cells #[.slice (some ⟨X + 1, 0, none⟩) (nw d) (nw d)] 78)) w.heap.size 72 #[Ptr gr]) := HPB.out.fr hfd (fun h => h)
    have hsd : (Wc.alloc (.cells #[.slice (some ⟨X + 1, 0, none⟩) (nw d) (nw d)] 78)).heap.size = Wc.heap.size + 1 := by simp
    have HXX : Hid (X = W.heap.size ∧ X + 2 ≤ Wc.heap.size) := ⟨hX, hX2⟩
    clear hfc hbc hfd hX hX1 hX2 HFB HBA HLP HSP HPB HFW c0 c2 c3 c4
    gi_wp2_with fail
    generalize (Wc.alloc (.cells #[.slice (some ⟨X + 1, 0, none⟩) (nw d) (nw d)] 78)) = Wd at HBX HBY HFD HBS HLD cE HPD hsd ⊢
    refine rf_stmt1N (l0 := D + 1) (r0 := rec .busy none) rfl HLD.out (by decide) (gf := 64) (fa := #[.slice (some ⟨g, 0, none⟩) (nw d) (nw d)]) rfl trivial (enters_of Tryd.func64 (by kernel_rfl) rfl) ?_
    intro fn2 L rec2 hf2 hL hrec2 W2 hW2
    have HREC2 := Lib.hid hrec2
    have hfE : Fr No Wd W2 := by rw [hW2]; exact (Fr.refl _ _).alloc _
    have hl2 : W2.heap[L]? = some (.loop (rec2 .ready none)) := by rw [hW2, hL]; exact World.alloc_heap_new Wd _
    have hs2 : W2.heap.size = L + 1 := by rw [hW2, hL]; simp
    have HLL : Hid (L = Wc.heap.size + 1 ∧ X = W.heap.size ∧ X + 2 ≤ Wc.heap.size) := ⟨by omega, HXX.out.1, HXX.out.2⟩
    generalize Wc.heap.size = Y at *
    clear hrec2 hW2
    have K0 : EK W gr w.heap.size X (X + 1) Y D L rec rec2 d b (m i) Q (.slice (some ⟨gz, 0, none⟩) (nw (m i)) (nw (m i))) [] W2 :=
      ⟨HFD.out.trans (hfE.mono (fun _ _ h => h.elim)), HPD.out.fr hfE (fun h => h), HBS.out.fr hfE (fun h => h), HBY.out.fr hfE (fun h => h), ⟨_, HBX.out.fr hfE (fun h => h), (BitsIs.new d).congr (fun j _ => by simp)⟩, (hfE.block (D + 1) (by have := HLO.out; have := HLL.out; omega) (fun h => h)).trans HLD.out, hl2, by omega⟩
    have HNB : Hid (¬ (D + 1 = g) ∧ ¬ (g = X + 1) ∧ ¬ (g = L)) := by have := HLO.out; have := HLL.out; exact ⟨by omega, by omega, by omega⟩
    have hTW : TZt W2 := HT.out.fr (HJ.out.fr.then_ K0.fr (fun k hk h => by have h : k = D + 1 := h; have := HDW.out; omega)) (fun h => h)
    have hTl := HT.out.1
    refine CallsIn.inRound _ ((numbers_in Fence.wide 6 (fun _ => trivial) rfl (fun _ _ _ _ _ h => callsIn_wide.2 h) (by decide) L g (fun k => k = X + 1 ∨ k = L) ws d (EK W gr w.heap.size X (X + 1) Y D L rec rec2 d b (m i) Q (.slice (some ⟨gz, 0, none⟩) (nw (m i)) (nw (m i)))) ?inner W2 HBI.out.len (by omega) HBI.out.lt K0 (HBG.out.fr K0.fr (fun h => HNB.out.1 h.symm)) hTW (by rintro (h | h) <;> have := HNB.out <;> omega) (by rintro (h | h) <;> have := HLO.out <;> have := HLL.out <;> omega)).mono ?_)
    case inner =>
      intro pre x V hex hj
      have hxd : x < d ∧ inD b (Ds.drop (i + 1)) x = true := by
        obtain ⟨post, e⟩ := hex
        rw [HBI.out.list] at e
        exact elems_mem.1 (by rw [← e]; simp)
      have HK := Lib.hid hj
      have hrm := HROOM.out i x HIL.out hxd.1 hxd.2
      have HXD := Lib.hid hxd
      have HRM := Lib.hid hrm
      clear hj hex hfE hl2 hs2 K0 hTW cE hsd hL
      refine rf_round HREC2.out hf2 HK.out.lp2 rfl ?_
      gi_wp2_with fail
      refine ⟨_, rf_begin HREC2.out HK.out.lp2, ?_⟩
      have hfp : Fr (fun k => k = L) V (V.putObj L (.loop (rec2 .busy none))) := Fr.putObj _ _
      have hlt : L < V.heap.size := by have := HK.out.sz; omega
      have hb1 := HK.out.par.fr hfp (HK.out.par.ne_of HK.out.lp2 (fun _ h => by cases h))
      have hb2' := HK.out.some_.fr hfp (HK.out.some_.ne_of HK.out.lp2 (fun _ h => by cases h))
      have hb3 := HK.out.next.fr hfp (HK.out.next.ne_of HK.out.lp2 (fun _ h => by cases h))
      obtain ⟨wk, hwk0, hbk⟩ := HK.out.bits
      have hwk := hwk0.fr hfp (hwk0.ne_of HK.out.lp2 (fun _ h => by cases h))
      have hlp2 : (V.putObj L (.loop (rec2 .busy none))).heap[L]? = some (.loop (rec2 .busy none)) := World.putObj_heap_same hlt
      have hlp1 : (V.putObj L (.loop (rec2 .busy none))).heap[D + 1]? = some (.loop (rec .busy none)) := (World.putObj_heap_other (by have := HLO.out; have := HLL.out; omega)).trans HK.out.lp
      have hsz : (V.putObj L (.loop (rec2 .busy none))).heap.size = V.heap.size := by simp
      have hfW : Fr (fun k => k = D + 1) W (V.putObj L (.loop (rec2 .busy none))) := HK.out.fr.then_ hfp (fun k hk h => by have h : k = L := h; have := HLL.out; omega)
      generalize (V.putObj L (.loop (rec2 .busy none))) = V2 at hfp hb1 hb2' hb3 hwk hlp2 hlp1 hsz hfW ⊢
      have hfw2 : Fr No w V2 := HJ.out.fr.then_ hfW (fun k hk h => by have h : k = D + 1 := h; have := HDW.out; omega)
      obtain ⟨_, e4, e5⟩ := CELLS.out V2 hfw2
      have e1 : V2.cell? ⟨w.heap.size, 0, none⟩ = some (Ptr gr) := (hb1.cell 0).trans rfl
      have e2 : V2.cell? ⟨X, 0, none⟩ = some (.slice (some ⟨gz, 0, none⟩) (nw (m i)) (nw (m i))) := (hb2'.cell 0).trans rfl
      have e3 : V2.cell? ⟨Y, 0, none⟩ = some (.slice (some ⟨X + 1, 0, none⟩) (nw d) (nw d)) := (hb3.cell 0).trans rfl
      have hgz2 : Blk V2 gz 127 (WV os) := HGZ.out.fr hfw2 (fun h => h)
      have UN : Hid (Calls Tryd.prog 128 #[.slice (some ⟨X + 1, 0, none⟩) (nw d) (nw d), .slice (some ⟨gz, 0, none⟩) (nw (m i)) (nw (m i)), .int .i64 ((x * b : Nat) : Int)] V2.drew fun e w' => e = .returned (.tuple #[]) ∧ AddP (X + 1) d (fun j => pre.any (fun e => decide (e * b ≤ j) && Q (j - e * b)) || (decide (x * b ≤ j) && decide (j - x * b < m i) && Q (j - x * b))) V2 w') :=
        (unite_any V2.drew (X + 1) gz wk os d (m i) (x * b) _ Q hwk hgz2 (by have := HLO.out; have := HLL.out; omega) hbk HOS.out hrm (by omega)).mono (fun e w' h => ⟨h.1, ((Fr.refl _ V2).drew).trans h.2.1, h.2.2⟩)
      have FIN : Hid (∀ w5, AddP (X + 1) d (fun j => pre.any (fun e => decide (e * b ≤ j) && Q (j - e * b)) || (decide (x * b ≤ j) && decide (j - x * b < m i) && Q (j - x * b))) V2 w5 →
          (w5.cell? ⟨Y, 0, none⟩ = some (.slice (some ⟨X + 1, 0, none⟩) (nw d) (nw d)) ∧ w5.cell? ⟨X, 0, none⟩ = some (.slice (some ⟨gz, 0, none⟩) (nw (m i)) (nw (m i))) ∧ w5.cell? ⟨w.heap.size, 0, none⟩ = some (Ptr gr) ∧ w5.cell? ⟨gr, 4, none⟩ = some (Ptr grr) ∧ w5.cell? ⟨grr, 2, none⟩ = some (.int .i64 b)) ∧
          ∀ act : Act, roundPost Tryd.prog L (fun e W' => e = .returned (.bool true) ∧ EK W gr w.heap.size X (X + 1) Y D L rec rec2 d b (m i) Q (.slice (some ⟨gz, 0, none⟩) (nw (m i)) (nw (m i))) (pre ++ [x]) W' ∧ Fr (fun k => k = X + 1 ∨ k = L) V W') Exit.normal act w5) := by
        intro w5 ha
        obtain ⟨hfa, wk5, hwk5, hbk5⟩ := ha
        have hLL := HLL.out
        have hLO := HLO.out
        have n1 : ¬ One (X + 1) w.heap.size := fun h => by have h : w.heap.size = X + 1 := h; have := HJ.out.fr.size; omega
        have n2 : ¬ One (X + 1) X := fun h => by have h : X = X + 1 := h; omega
        have n3 : ¬ One (X + 1) Y := fun h => by have h : Y = X + 1 := h; omega
        have hc1 := hb1.fr hfa n1
        have hc2 := hb2'.fr hfa n2
        have hc3 := hb3.fr hfa n3
        have hl5 : w5.heap[L]? = some (.loop (rec2 .busy none)) := (hfa.block L (by omega) (fun h => by have h : L = X + 1 := h; omega)).trans hlp2
        have hl6 : w5.heap[D + 1]? = some (.loop (rec .busy none)) := (hfa.block (D + 1) (by have := hfW.size; omega) (fun h => by have h : D + 1 = X + 1 := h; omega)).trans hlp1
        have hfw5 : Fr No w w5 := hfw2.then_ hfa (fun k hk h => by have h : k = X + 1 := h; have := HJ.out.fr.size; omega)
        obtain ⟨_, g4, g5⟩ := CELLS.out w5 hfw5
        have hq : Fr (fun k => k = L) w5 (w5.putObj L (.loop (rec2 .ready none))) := Fr.putObj _ _
        have hs5 := hfa.size
        have hfS : Fr (fun k => k = X + 1 ∨ k = L) V (w5.putObj L (.loop (rec2 .ready none))) := ((hfp.mono (fun k _ h => .inr h)).trans (hfa.mono (fun k _ h => .inl h))).trans (hq.mono (fun k _ h => .inr h))
        refine ⟨⟨(hc3.cell 0).trans rfl, (hc2.cell 0).trans rfl, (hc1.cell 0).trans rfl, g4, g5⟩, fun act => ⟨_, _, rf_end HREC2.out none hl5, rfl, ?_, hfS⟩⟩
        refine ⟨HK.out.fr.then_ hfS (fun k hk h => by rcases h with h | h <;> omega), hc1.fr hq (hc1.ne_of hl5 (fun _ h => by cases h)), hc2.fr hq (hc2.ne_of hl5 (fun _ h => by cases h)), hc3.fr hq (hc3.ne_of hl5 (fun _ h => by cases h)), ⟨wk5, hwk5.fr hq (hwk5.ne_of hl5 (fun _ h => by cases h)), hbk5.congr (fun j hj => ?_)⟩, (World.putObj_heap_other (by omega)).trans hl6, World.putObj_heap_same (by omega), by simp; omega⟩
        rw [any_snoc]
        congr 1
        rcases hQj : Q (j - x * b) with _ | _
        · simp
        · have := HM.out i Q HQ.out _ hQj
          simp [this]
      have hmix : Tryd.prog.follows .mixedOrders = true := by kernel_rfl
      have hxm : (x : Int) * (b : Int) = ((x * b : Nat) : Int) := by rw [Int.natCast_mul]
      have hxm1 : (x : Int) * (b : Int) ≤ 4096 := by rw [hxm]; omega
      have hxm0 : 0 ≤ (x : Int) * (b : Int) := by rw [hxm]; omega
      have hwr : IntKind.i64.wrap ((x : Int) * (b : Int)) = (x : Int) * (b : Int) := IntWalk.i64_in _ (by omega)
      rw [← hxm, ← hwr] at UN
      clear hwr
      clear hxm
      have hl4 := block_lt e4
      have hl5 := block_lt e5
      clear hfp hb1 hb2' hb3 hwk0 hbk hwk hlp2 hlp1 hsz hfW hfw2 hgz2 hlt hrm hxd
      gi_wp2_with fail
      refine wpIn_region_heldR (S := fun w' => w'.cell? ⟨Y, 0, none⟩ = some (.slice (some ⟨X + 1, 0, none⟩) (nw d) (nw d)) ∧ w'.cell? ⟨X, 0, none⟩ = some (.slice (some ⟨gz, 0, none⟩) (nw (m i)) (nw (m i))) ∧ w'.cell? ⟨w.heap.size, 0, none⟩ = some (Ptr gr) ∧ w'.cell? ⟨gr, 4, none⟩ = some (Ptr grr) ∧ w'.cell? ⟨grr, 2, none⟩ = some (.int .i64 b)) hmix (by kernel_rfl) ?hLO ⟨e3, e2, e1, e4, e5⟩ (fun hHeld => ?_)
      case hLO =>
        rintro ⟨a0, w0, h⟩
        exact (h : False)
      refine wpAnyH_take (i := 0) (v := ?vz0) (by simp only [List.getElem?_toArray, List.getElem?_cons_zero]; rfl) (by kernel_rfl) (by kernel_rfl) (by kernel_rfl) (by exact fun _ _ _ h => h) (Or.inl ⟨by rfl, ?hyz0⟩) (by assumption) ?restz0
      case hyz0 => (intro w hSw; (try dsimp only at hSw); go_simp; try with_reducible rfl)
      ((try simp only [Act.put]); (try simp only [List.setIfInBounds_toArray]); (try simp only [List.set_cons_succ]); (try simp only [List.set_cons_zero]))
      refine wpAnyH_take (i := 1) (v := ?vz1) (by simp only [List.getElem?_toArray, List.getElem?_cons_succ, List.getElem?_cons_zero]; rfl) (by kernel_rfl) (by kernel_rfl) (by kernel_rfl) (by exact fun _ _ _ h => h) (Or.inl ⟨by rfl, ?hyz1⟩) (by assumption) ?restz1
      case hyz1 => (intro w hSw; (try dsimp only at hSw); go_simp; try with_reducible rfl)
      ((try simp only [Act.put]); (try simp only [List.setIfInBounds_toArray]); (try simp only [List.set_cons_succ]); (try simp only [List.set_cons_zero]))
      refine wpAnyH_take (i := 2) (v := ?vz2) (by simp only [List.getElem?_toArray, List.getElem?_cons_succ, List.getElem?_cons_zero]; rfl) (by kernel_rfl) (by kernel_rfl) (by kernel_rfl) (by exact fun _ _ _ h => h) (Or.inl ⟨by rfl, ?hyz2⟩) (by assumption) ?restz2
      case hyz2 => (intro w hSw; (try dsimp only at hSw); go_simp; try with_reducible rfl)
      ((try simp only [Act.put]); (try simp only [List.setIfInBounds_toArray]); (try simp only [List.set_cons_succ]); (try simp only [List.set_cons_zero]))
      refine wpAnyH_take (i := 3) (v := ?vz3) (by simp only [List.getElem?_toArray, List.getElem?_cons_succ, List.getElem?_cons_zero]; rfl) (by kernel_rfl) (by kernel_rfl) (by kernel_rfl) (by exact fun _ _ _ h => h) (Or.inl ⟨by rfl, ?hyz3⟩) (by assumption) ?restz3
      case hyz3 => (intro w hSw; (try dsimp only at hSw); go_simp; try with_reducible rfl)
      ((try simp only [Act.put]); (try simp only [List.setIfInBounds_toArray]); (try simp only [List.set_cons_succ]); (try simp only [List.set_cons_zero]))
      refine wpAnyH_take (i := 4) (v := ?vz4) (by simp only [List.getElem?_toArray, List.getElem?_cons_succ, List.getElem?_cons_zero]; rfl) (by kernel_rfl) (by kernel_rfl) (by kernel_rfl) (by exact fun _ _ _ h => h) (Or.inl ⟨by rfl, ?hyz4⟩) (by assumption) ?restz4
      case hyz4 => (intro w hSw; (try dsimp only at hSw); go_simp; try with_reducible rfl)
      ((try simp only [Act.put]); (try simp only [List.setIfInBounds_toArray]); (try simp only [List.set_cons_succ]); (try simp only [List.set_cons_zero]))
      refine wpAnyH_take (i := 5) (v := ?vz5) (by simp only [List.getElem?_toArray, List.getElem?_cons_succ, List.getElem?_cons_zero]; rfl) (by kernel_rfl) (by kernel_rfl) (by kernel_rfl) (by exact fun _ _ _ h => h) (Or.inl ⟨by rfl, ?hyz5⟩) (by assumption) ?restz5
      case hyz5 => (intro w hSw; (try dsimp only at hSw); go_simp; try with_reducible rfl)
      ((try simp only [Act.put]); (try simp only [List.setIfInBounds_toArray]); (try simp only [List.set_cons_succ]); (try simp only [List.set_cons_zero]))
      refine wpAnyH_take (i := 6) (v := ?vz6) (by simp only [List.getElem?_toArray, List.getElem?_cons_succ, List.getElem?_cons_zero]; rfl) (by kernel_rfl) (by kernel_rfl) (by kernel_rfl) (by exact fun _ _ _ h => h) (Or.inl ⟨by rfl, ?hyz6⟩) (by assumption) ?restz6
      case hyz6 => (intro w hSw; (try dsimp only at hSw); go_simp; try with_reducible rfl)
      ((try simp only [Act.put]); (try simp only [List.setIfInBounds_toArray]); (try simp only [List.set_cons_succ]); (try simp only [List.set_cons_zero]))
      refine wpAnyH_take (i := 7) (v := ?vz7) (by simp only [List.getElem?_toArray, List.getElem?_cons_succ, List.getElem?_cons_zero]; rfl) (by kernel_rfl) (by kernel_rfl) (by kernel_rfl) (by exact fun _ _ _ h => h) (Or.inl ⟨by rfl, ?hyz7⟩) (by assumption) ?restz7
      case hyz7 => (intro w hSw; (try dsimp only at hSw); go_simp; try with_reducible rfl)
      ((try simp only [Act.put]); (try simp only [List.setIfInBounds_toArray]); (try simp only [List.set_cons_succ]); (try simp only [List.set_cons_zero]))
      refine wpAnyH_take (i := 8) (v := ?vz8) (by simp only [List.getElem?_toArray, List.getElem?_cons_succ, List.getElem?_cons_zero]; rfl) (by kernel_rfl) (by kernel_rfl) (by kernel_rfl) (by exact fun _ _ _ h => h) (Or.inl ⟨by rfl, ?hyz8⟩) (by assumption) ?restz8
      case hyz8 => (intro w hSw; (try dsimp only at hSw); go_simp; try with_reducible rfl)
      ((try simp only [Act.put]); (try simp only [List.setIfInBounds_toArray]); (try simp only [List.set_cons_succ]); (try simp only [List.set_cons_zero]))
      refine wpAnyH_take (i := 9) (v := ?vz9) (by simp only [List.getElem?_toArray, List.getElem?_cons_succ, List.getElem?_cons_zero]; rfl) (by kernel_rfl) (by kernel_rfl) (by kernel_rfl) (by exact fun _ _ _ h => h) (Or.inl ⟨by rfl, ?hyz9⟩) (by assumption) ?restz9
      case hyz9 => (intro w hSw; (try dsimp only at hSw); go_simp; try with_reducible rfl)
      ((try simp only [Act.put]); (try simp only [List.setIfInBounds_toArray]); (try simp only [List.set_cons_succ]); (try simp only [List.set_cons_zero]))
      refine wpAnyH_take (i := 10) (v := ?vz10) (by simp only [List.getElem?_toArray, List.getElem?_cons_succ, List.getElem?_cons_zero]; rfl) (by kernel_rfl) (by kernel_rfl) (by kernel_rfl) (by exact fun _ _ _ h => h) (Or.inl ⟨by rfl, ?hyz10⟩) (by assumption) ?restz10
      case hyz10 => (intro w hSw; (try dsimp only at hSw); go_simp; try with_reducible rfl)
      ((try simp only [Act.put]); (try simp only [List.setIfInBounds_toArray]); (try simp only [List.set_cons_succ]); (try simp only [List.set_cons_zero]))
      refine wpAnyH_ready (rs := [11]) (by kernel_rfl) (by simp) ?_
      refine AllReadyH.cons rfl (fun K hK => ?_) AllReadyH.nil
      go_simp
      (with_reducible refine UN.out.mono ?_)
      rintro e w5 ⟨rfl, ha⟩
      obtain ⟨k1, k2⟩ := FIN.out w5 ha
      refine hK.out _ _ k1 (fun hH8 => ?_)
      clear hK K
      ((try simp only [Act.put]); (try simp only [List.setIfInBounds_toArray]); (try simp only [List.set_cons_succ]); (try simp only [List.set_cons_zero]))
      refine wpAnyH_done (by kernel_rfl) ?_ _
      exact k2 { tmps := #[], defers := [] }
    rintro e V ⟨hv, hj⟩
    refine ⟨hv, .ready, none, (fun h => by cases h), hj.lp2, ?_⟩
    have hfp : Fr (fun k => k = L) V (V.putObj L (.loop (rec2 .exhausted none))) := Fr.putObj _ _
    have hb1 := hj.par.fr hfp (hj.par.ne_of hj.lp2 (fun _ h => by cases h))
    have hb3 := hj.next.fr hfp (hj.next.ne_of hj.lp2 (fun _ h => by cases h))
    obtain ⟨wk, hwk0, hbk⟩ := hj.bits
    have hwk := hwk0.fr hfp (hwk0.ne_of hj.lp2 (fun _ h => by cases h))
    have hlp1 : (V.putObj L (.loop (rec2 .exhausted none))).heap[D + 1]? = some (.loop (rec .busy none)) := (World.putObj_heap_other (by have := HLO.out; have := HLL.out; omega)).trans hj.lp
    have hfW : Fr (fun k => k = D + 1) W (V.putObj L (.loop (rec2 .exhausted none))) := hj.fr.then_ hfp (fun k hk h => by have h : k = L := h; have := HLL.out; omega)
    show Exit.inBlock 0 _ .normal _ (V.putObj L (.loop (rec2 .exhausted none)))
    generalize (V.putObj L (.loop (rec2 .exhausted none))) = V3 at hfp hb1 hb3 hwk hlp1 hfW ⊢
    have hbE3 := HBE.out.fr hfW (fun h => HLO.out.2.2.2.2.2.1 h)
    have cY : V3.cell? ⟨Y, 0, none⟩ = some (.slice (some ⟨X + 1, 0, none⟩) (nw d) (nw d)) := (hb3.cell 0).trans rfl
    have cE3 : V3.cell? ⟨E, 0, none⟩ = some (.slice (some ⟨g, 0, none⟩) (nw d) (nw d)) := (hbE3.cell 0).trans rfl
    have fE3 := hbE3.frozen 0
    have lE3 := hbE3.lt
    have FIN : Hid (∀ act : Act, roundPost Tryd.prog (D + 1) (fun e W' => e = .returned (.bool true) ∧ EJ w gr E D rec d b Ds i W' ∧ Fr (fun k => k = E ∨ k = D + 1) W W') Exit.normal act (V3.setCell ⟨E, 0, none⟩ (.slice (some ⟨X + 1, 0, none⟩) (nw d) (nw d)))) := by
      intro act
      have hLL := HLL.out
      have hLO := HLO.out
      have hDW := HDW.out
      have hfs : Fr (fun k => k = E) V3 (V3.setCell ⟨E, 0, none⟩ (.slice (some ⟨X + 1, 0, none⟩) (nw d) (nw d))) := (Fr.refl (fun k => k = E) V3).setCell (p := ⟨E, 0, none⟩) (.inl rfl) _
      have hl3 : (V3.setCell ⟨E, 0, none⟩ (.slice (some ⟨X + 1, 0, none⟩) (nw d) (nw d))).heap[D + 1]? = some (.loop (rec .busy none)) := (hfs.block (D + 1) (by have := hfW.size; omega) (fun h => by omega)).trans hlp1
      have hq : Fr (fun k => k = D + 1) (V3.setCell ⟨E, 0, none⟩ (.slice (some ⟨X + 1, 0, none⟩) (nw d) (nw d))) ((V3.setCell ⟨E, 0, none⟩ (.slice (some ⟨X + 1, 0, none⟩) (nw d) (nw d))).putObj (D + 1) (.loop (rec .ready none))) := Fr.putObj _ _
      have hfS : Fr (fun k => k = E ∨ k = D + 1) W ((V3.setCell ⟨E, 0, none⟩ (.slice (some ⟨X + 1, 0, none⟩) (nw d) (nw d))).putObj (D + 1) (.loop (rec .ready none))) := ((hfW.mono (fun k _ h => .inr h)).trans (hfs.mono (fun k _ h => .inl h))).trans (hq.mono (fun k _ h => .inr h))
      have hsz := hfW.size
      have hsz2 := hfs.size
      have hbw := (hwk.fr hfs (fun h => by have h : X + 1 = E := h; omega)).fr hq (fun h => by have h : X + 1 = D + 1 := h; omega)
      have hE5 := (hbE3.set_ 0 (.slice (some ⟨X + 1, 0, none⟩) (nw d) (nw d))).fr hq (fun h => hLO.2.2.2.2.2.1 h)
      refine ⟨_, _, rf_end HREC.out none hl3, rfl, ⟨HJ.out.fr.then_ hfS (fun k hk h => by rcases h with h | h <;> omega), (hb1.fr hfs (fun h => by have h : w.heap.size = E := h; omega)).fr hq (fun h => hLO.2.2.2.2.2.2.1 h), ⟨X + 1, wk, by omega, hE5, hbw, hbk.congr (fun j hj => ?_)⟩, World.putObj_heap_same (by omega), (World.putObj_heap_other (by omega)).trans ((hfs.block D (by omega) (fun h => by have h : D = E := h; omega)).trans ((hfW.block D (by omega) (fun h => by have h : D = D + 1 := h; omega)).trans HJ.out.df)), Nat.le_trans (show D + 2 ≤ W.heap.size by omega) hfS.size⟩, hfS⟩
      rw [HBI.out.list]
      have hdrop : Ds.drop i = Q :: Ds.drop (i + 1) := by
        rw [List.drop_eq_getElem_cons HIL.out]
        congr 1
        have h := HQ.out
        rw [List.getElem?_eq_getElem HIL.out] at h
        injection h
      rw [hdrop]
      exact inD_step hb (fun hne x hx => Nat.lt_of_lt_of_le (HM.out i Q HQ.out x hx) (HMB.out i hne)) hd1 j hj
    clear hv hj hfp hb1 hb3 hwk0 hbk hwk hlp1 hfW hbE3 hfE hl2 hs2 K0 hTW cE hsd hL
    gi_wp2_with fail
    exact FIN.out _
  rintro e W2 ⟨hv, hj⟩
  refine ⟨hv, .ready, none, (fun h => by cases h), hj.lp, ?_⟩
  have hfp : Fr (fun b => b = D + 1) W2 (W2.putObj (D + 1) (.loop (rec .exhausted none))) := Fr.putObj _ _
  obtain ⟨g, ws2, hglo, hbE0, hbg0, hbi0⟩ := hj.box
  have hbE := hbE0.fr hfp (hbE0.ne_of hj.lp (fun _ h => by cases h))
  have hbg := hbg0.fr hfp (hbg0.ne_of hj.lp (fun _ h => by cases h))
  have hdp : (W2.putObj (D + 1) (.loop (rec .exhausted none))).heap[D]? = some (.deferred (some [])) := (World.putObj_heap_other (by omega)).trans hj.df
  have hfa : Fr No w (W2.putObj (D + 1) (.loop (rec .exhausted none))) := hj.fr.then_ hfp (fun b hb h => by have h : b = D + 1 := h; have := HDW.out; omega)
  show Exit.inBlock 0 _ .normal _ (W2.putObj (D + 1) (.loop (rec .exhausted none)))
  generalize (W2.putObj (D + 1) (.loop (rec .exhausted none))) = W3 at hbE hbg hdp hfa ⊢
  have c0 : W3.cell? ⟨E, 0, none⟩ = some (.slice (some ⟨g, 0, none⟩) (nw d) (nw d)) := (hbE.cell 0).trans rfl
  have l0 := hbE.lt
  have HDP := Lib.hid hdp
  have HFA := Lib.hid hfa
  have HBG := Lib.hid hbg
  have HBI := Lib.hid hbi0
  have HGL := Lib.hid hglo
  have HGD : Hid (g ≠ D) := (hbg.ne_of hdp (fun _ h => by cases h))
  clear hv hj hfp hbE0 hbg0 hbi0 hbE hbg hdp hfa hfW hl1 hd1' hfw J0 hbx1 hG1 hlist hf4 hb4 hp4 he4 hw4 hz4 hD hD1 hglo
  gi_wp2_with fail
  refine ⟨by simp, .inl ⟨_, _, rfl, run_takeDeferred HDP.out, ?_⟩⟩
  refine ⟨_, results_tmp rfl _ _ _, ⟨g, ws2, rfl, HGL.out, HFA.out.then_ (Fr.putObj D _) (fun b hb h => by have h : b = D := h; have := HDW.out; omega), HBG.out.fr (Fr.putObj D _) (fun h => HGD.out h), HBI.out⟩⟩
end Go.Proofs.YtloecimlimoanaaDoor
