/- Lifted types in memory: what they keep. · slices.Backward over bit sets: the iterator; a range over a method value within a round. · The elements whose digits are in sets. · The related digits of an element: of pairs. · The related digits of an element: of functions. -/
import Derived.Test.YtloecimlimoanaaGreatDoorRlt
import Derived.Test.YtloecimlimoanaaGreatDoorFbs
import Derived.Test.YtloecimlimoanaaGreatDoorNum
import Derived.Test.YtloecimlimoanaaGreatDoorDig
import Derived.Test.YtloecimlimoanaaGreatDoorRf
import Derived.Test.YtloecimlimoanaaGreatDoorCol
import Derived.Test.YtloecimlimoanaaGreatDoorWri
/- Lifted types in memory: what they keep. · slices.Backward over bit sets: the iterator; a range over a method value within a round. · The elements whose digits are in sets. -/
/- Lifted types in memory: what they keep. -/
namespace Go.Proofs.YtloecimlimoanaaGreatDoor
open Go.RowKit Go.ChangeMaps

/-- a set of numbers in memory -/
def RowV (w : World) (n : Nat) (P : Nat → Bool) (v : Value) : Prop := ∃ (g : Nat) (ws : List Nat), v = .slice (some ⟨g, 0, none⟩) (nw n) (nw n) ∧ Blk w g 63 (WV ws) ∧ BitsIs ws n P

theorem RowV.congr {w : World} {n : Nat} {P Q : Nat → Bool} {v : Value} (h : RowV w n P v) (hq : ∀ j, j < n → P j = Q j) : RowV w n Q v := by
  obtain ⟨g, ws, h1, h2, h3⟩ := h
  exact ⟨g, ws, h1, h2, h3.congr hq⟩

/-- where rows are kept: blocks with the types that they are of -/
abbrev Cach := Nat → Option Ty
def InF (F : Cach) (g : Nat) : Prop := ∃ t, F g = some t

/-- a set of numbers in memory that is nobody's own -/
def RowZ (Z : Nat → Prop) (w : World) (n : Nat) (P : Nat → Bool) (v : Value) : Prop := ∃ (g : Nat) (ws : List Nat), v = .slice (some ⟨g, 0, none⟩) (nw n) (nw n) ∧ Blk w g 63 (WV ws) ∧ BitsIs ws n P ∧ ¬ Z g

theorem RowZ.row {Z : Nat → Prop} {w : World} {n : Nat} {P : Nat → Bool} {v : Value} (h : RowZ Z w n P v) : RowV w n P v := by
  obtain ⟨g, ws, h1, h2, h3, _⟩ := h
  exact ⟨g, ws, h1, h2, h3⟩

/-- what a change does not touch: all blocks of cells but rows that are kept, and sets that are somebody's own -/
def Far (F : Cach) (Z T : Nat → Prop) (w : World) : Prop := ∀ g ty cs, Blk w g ty cs → (ty ≠ 60 ∨ F g = none) → (ty = 63 → ¬ Z g) → ¬ T g

theorem Far.no (F : Cach) (Z : Nat → Prop) (w : World) : Far F Z No w := fun _ _ _ _ _ _ h => h
theorem Far.own {F : Cach} {Z : Nat → Prop} {w : World} {g : Nat} {ws : List Nat} (hb : Blk w g 63 (WV ws)) (hz : Z g) : Far F Z (One g) w := by
  intro k ty cs hk _ h2 e
  have e : k = g := e
  subst e
  exact h2 (hk.eq hb).1 hz

theorem RowZ.fr {w w' : World} {F : Cach} {Z T : Nat → Prop} {n : Nat} {P : Nat → Bool} {v : Value} (h : RowZ Z w n P v) (hf : Fr T w w') (hT : Far F Z T w) : RowZ Z w' n P v := by
  obtain ⟨g, ws, h1, h2, h3, h4⟩ := h
  exact ⟨g, ws, h1, h2.fr hf (hT _ _ _ h2 (.inl (by decide)) (fun _ => h4)), h3, h4⟩

theorem RowZ.less {Z Z' : Nat → Prop} {w : World} {n : Nat} {P : Nat → Bool} {v : Value} (h : RowZ Z w n P v) (hz : ∀ g, g < w.heap.size → Z' g → Z g) : RowZ Z' w n P v := by
  obtain ⟨g, ws, h1, h2, h3, h4⟩ := h
  exact ⟨g, ws, h1, h2, h3, fun h => h4 (hz g h2.lt h)⟩

theorem RowZ.ne_nil {Z : Nat → Prop} {w : World} {n : Nat} {P : Nat → Bool} (h : RowZ Z w n P (.slice none 0 0)) : False := by
  obtain ⟨g, ws, h1, _⟩ := h
  cases h1

/-- a set that a type is, without what is in it -/
def SetI (w : World) (g c : Nat) : Prop := ∃ (s z p q : Value), Blk w g 107 #[s, z, .int .i64 c, p, q]

theorem FsAt.far {w w' : World} {F : Cach} {Z T : Nat → Prop} {g : Nat} {f : Bool} {a b d : Nat} (h : FsAt w g f a b d) (hf : Fr T w w') (hT : Far F Z T w) : FsAt w' g f a b d := by
  obtain ⟨gl, gr, sz, s1, z1, p1, q1, s2, z2, p2, q2, h1, h2, h3⟩ := h
  exact ⟨gl, gr, sz, s1, z1, p1, q1, s2, z2, p2, q2, h1.fr hf (hT _ _ _ h1 (.inl (by decide)) (fun h => absurd h (by decide))), h2.fr hf (hT _ _ _ h2 (.inl (by decide)) (fun h => absurd h (by decide))), h3.fr hf (hT _ _ _ h3 (.inl (by decide)) (fun h => absurd h (by decide)))⟩

theorem FsAt.seti {w : World} {g : Nat} {f : Bool} {a b d : Nat} (h : FsAt w g f a b d) : SetI w g d := by
  obtain ⟨gl, gr, sz, s1, z1, p1, q1, s2, z2, p2, q2, h1, _⟩ := h
  exact ⟨_, _, _, _, h1⟩

section
variable (μ ν : Nat → Option Nat) (ρ : Nat → Nat → Nat → Bool)

/-- what is kept is right -/
structure LC (F : Cach) (Z : Nat → Prop) (w : World) : Prop where
  kept : ∀ g t, F g = some t → ∃ (c c' : Nat) (cs : Array Value), t.cnt μ = some c ∧ t.cnt ν = some c' ∧ Blk w g 60 cs ∧ cs.size = c ∧ ∀ (i : Nat) (v : Value), cs[i]? = some v → v = .slice none 0 0 ∨ RowZ Z w c' (relT μ ν ρ t i) v
  tz : TZt w
  tzF : F 0 = none

/-- a lifted type -/
def LtAt (F : Cach) (Z : Nat → Prop) (w : World) : Ty → Nat → Prop
  | .n f l r, p => ∃ (gl gr p1 p2 R a b c a' b' c' : Nat), l.cnt μ = some a ∧ r.cnt μ = some b ∧ (Ty.n f l r).cnt μ = some c ∧ l.cnt ν = some a' ∧ r.cnt ν = some b' ∧ (Ty.n f l r).cnt ν = some c' ∧
      Blk w p 57 #[Ptr gl, Ptr gr, Ptr p1, Ptr p2, .slice (some ⟨R, 0, none⟩) c c] ∧ FsAt w gl f a b c ∧ FsAt w gr f a' b' c' ∧ F R = some (.n f l r) ∧ LtAt F Z w l p1 ∧ LtAt F Z w r p2
  | t, p => ∃ (gl gr R c c' : Nat) (cs : Array Value), t.cnt μ = some c ∧ t.cnt ν = some c' ∧ Blk w p 57 #[Ptr gl, Ptr gr, .pointer none, .pointer none, .slice (some ⟨R, 0, none⟩) c c] ∧ SetI w gl c ∧ SetI w gr c' ∧ F R = none ∧
      Blk w R 60 cs ∧ cs.size = c ∧ ∀ (i : Nat) (v : Value), cs[i]? = some v → RowZ Z w c' (relT μ ν ρ t i) v
end

section
variable {μ ν : Nat → Option Nat} {ρ : Nat → Nat → Nat → Bool}

theorem LC.far {F : Cach} {Z : Nat → Prop} {w : World} (h : LC μ ν ρ F Z w) : Far F Z (InF F) w := by
  rintro g ty cs hb hty _ ⟨t, ht⟩
  obtain ⟨c, c', cs', _, _, hb', _⟩ := h.kept g t ht
  rcases hty with hty | hty
  · exact hty (hb.eq hb').1
  · rw [hty] at ht; cases ht

/-- kept by what leaves kept rows alone -/
theorem LC.fr {F : Cach} {Z T : Nat → Prop} {w w' : World} (h : LC μ ν ρ F Z w) (hf : Fr T w w') (hT : Far F Z T w) (hF : ∀ g, InF F g → ¬ T g) (hz : ¬ T 0) : LC μ ν ρ F Z w' := by
  refine ⟨fun g t hg => ?_, h.tz.fr hf hz, h.tzF⟩
  obtain ⟨c, c', cs, h1, h2, h3, h4, h5⟩ := h.kept g t hg
  refine ⟨c, c', cs, h1, h2, h3.fr hf (hF g ⟨t, hg⟩), h4, fun i v hv => ?_⟩
  rcases h5 i v hv with h | h
  · exact .inl h
  · exact .inr (h.fr hf hT)

theorem LC.no {F : Cach} {Z : Nat → Prop} {w w' : World} (h : LC μ ν ρ F Z w) (hf : Fr No w w') : LC μ ν ρ F Z w' := h.fr hf (Far.no F Z w) (fun _ _ h => h) (fun h => h)

theorem LtAt.fr {F : Cach} {Z T : Nat → Prop} {w w' : World} (hf : Fr T w w') (hT : Far F Z T w) : ∀ {t : Ty} {p : Nat}, LtAt μ ν ρ F Z w t p → LtAt μ ν ρ F Z w' t p := by
  intro t
  have leaf : ∀ (t : Ty) (p : Nat), (∃ (gl gr R c c' : Nat) (cs : Array Value), t.cnt μ = some c ∧ t.cnt ν = some c' ∧ Blk w p 57 #[Ptr gl, Ptr gr, .pointer none, .pointer none, .slice (some ⟨R, 0, none⟩) c c] ∧ SetI w gl c ∧ SetI w gr c' ∧ F R = none ∧
      Blk w R 60 cs ∧ cs.size = c ∧ ∀ (i : Nat) (v : Value), cs[i]? = some v → RowZ Z w c' (relT μ ν ρ t i) v) → (∃ (gl gr R c c' : Nat) (cs : Array Value), t.cnt μ = some c ∧ t.cnt ν = some c' ∧ Blk w' p 57 #[Ptr gl, Ptr gr, .pointer none, .pointer none, .slice (some ⟨R, 0, none⟩) c c] ∧ SetI w' gl c ∧ SetI w' gr c' ∧ F R = none ∧
      Blk w' R 60 cs ∧ cs.size = c ∧ ∀ (i : Nat) (v : Value), cs[i]? = some v → RowZ Z w' c' (relT μ ν ρ t i) v) := by
    rintro t p ⟨gl, gr, R, c, c', cs, h1, h2, h3, ⟨s, z, x, y, h4⟩, ⟨s', z', x', y', h5⟩, h6, h7, h8, h9⟩
    exact ⟨gl, gr, R, c, c', cs, h1, h2, h3.fr hf (hT _ _ _ h3 (.inl (by decide)) (fun h => absurd h (by decide))), ⟨s, z, x, y, h4.fr hf (hT _ _ _ h4 (.inl (by decide)) (fun h => absurd h (by decide)))⟩, ⟨s', z', x', y', h5.fr hf (hT _ _ _ h5 (.inl (by decide)) (fun h => absurd h (by decide)))⟩, h6, h7.fr hf (hT _ _ _ h7 (.inr h6) (fun h => absurd h (by decide))), h8, fun i v hv => (h9 i v hv).fr hf hT⟩
  induction t with
  | v i => intro p h; exact leaf (.v i) p h
  | o => intro p h; exact leaf .o p h
  | n f l r ihl ihr =>
    rintro p ⟨gl, gr, p1, p2, R, a, b, c, a', b', c', h1, h2, h3, h4, h5, h6, h7, h8, h9, h10, h11, h12⟩
    exact ⟨gl, gr, p1, p2, R, a, b, c, a', b', c', h1, h2, h3, h4, h5, h6, h7.fr hf (hT _ _ _ h7 (.inl (by decide)) (fun h => absurd h (by decide))), h8.far hf hT, h9.far hf hT, h10, ihl h11, ihr h12⟩

/-- more is kept -/
theorem LtAt.grow {F F' : Cach} {Z : Nat → Prop} {w : World} (hF : ∀ g, g < w.heap.size → F' g = F g) (hk : ∀ g t, F g = some t → g < w.heap.size) : ∀ {t : Ty} {p : Nat}, LtAt μ ν ρ F Z w t p → LtAt μ ν ρ F' Z w t p := by
  intro t
  induction t with
  | v i =>
    rintro p ⟨gl, gr, R, c, c', cs, h1, h2, h3, h4, h5, h6, h7, h8, h9⟩
    exact ⟨gl, gr, R, c, c', cs, h1, h2, h3, h4, h5, by rw [hF R h7.lt]; exact h6, h7, h8, h9⟩
  | o =>
    rintro p ⟨gl, gr, R, c, c', cs, h1, h2, h3, h4, h5, h6, h7, h8, h9⟩
    exact ⟨gl, gr, R, c, c', cs, h1, h2, h3, h4, h5, by rw [hF R h7.lt]; exact h6, h7, h8, h9⟩
  | n f l r ihl ihr =>
    rintro p ⟨gl, gr, p1, p2, R, a, b, c, a', b', c', h1, h2, h3, h4, h5, h6, h7, h8, h9, h10, h11, h12⟩
    exact ⟨gl, gr, p1, p2, R, a, b, c, a', b', c', h1, h2, h3, h4, h5, h6, h7, h8, h9, by rw [hF R (hk _ _ h10)]; exact h10, ihl h11, ihr h12⟩

/-- the sets on both sides -/
theorem LtAt.sets {F : Cach} {Z : Nat → Prop} {w : World} {t : Ty} {p : Nat} (h : LtAt μ ν ρ F Z w t p) : ∃ (gl gr c c' : Nat) (x y z : Value), t.cnt μ = some c ∧ t.cnt ν = some c' ∧ Blk w p 57 #[Ptr gl, Ptr gr, x, y, z] ∧ SetI w gl c ∧ SetI w gr c' := by
  cases t with
  | v i =>
    obtain ⟨gl, gr, R, c, c', cs, h1, h2, h3, h4, h5, _⟩ := h
    exact ⟨gl, gr, c, c', _, _, _, h1, h2, h3, h4, h5⟩
  | o =>
    obtain ⟨gl, gr, R, c, c', cs, h1, h2, h3, h4, h5, _⟩ := h
    exact ⟨gl, gr, c, c', _, _, _, h1, h2, h3, h4, h5⟩
  | n f l r =>
    obtain ⟨gl, gr, p1, p2, R, a, b, c, a', b', c', h1, h2, h3, h4, h5, h6, h7, h8, h9, _⟩ := h
    exact ⟨gl, gr, c, c', _, _, _, h3, h6, h7, h8.seti, h9.seti⟩

/-- a row is kept -/
theorem LC.keepIt {F : Cach} {Z : Nat → Prop} {w : World} (h : LC μ ν ρ F Z w) {R i c' : Nat} {t : Ty} {v : Value} (hR : F R = some t) (hc : t.cnt ν = some c') (hv : RowZ Z w c' (relT μ ν ρ t i) v) : LC μ ν ρ F Z (w.setCell ⟨R, i, none⟩ v) ∧ Fr (InF F) w (w.setCell ⟨R, i, none⟩ v) ∧ RowZ Z (w.setCell ⟨R, i, none⟩ v) c' (relT μ ν ρ t i) v := by
  have hf : Fr (One R) w (w.setCell ⟨R, i, none⟩ v) := (Fr.refl (One R) w).setCell (p := ⟨R, i, none⟩) (.inl rfl) v
  have hfar : Far F Z (One R) w := fun g ty cs hb hty hz e => h.far g ty cs hb hty hz ⟨t, by rw [show g = R from e]; exact hR⟩
  have hv' := hv.fr hf hfar
  refine ⟨⟨fun g t' hg => ?_, h.tz.fr hf (fun e => by have e : 0 = R := e; rw [← e, h.tzF] at hR; cases hR), h.tzF⟩, hf.mono (fun k _ e => ⟨t, by rw [show k = R from e]; exact hR⟩), hv'⟩
  obtain ⟨d, d', cs, h1, h2, h3, h4, h5⟩ := h.kept g t' hg
  by_cases e : g = R
  · subst e
    rw [hR] at hg
    injection hg with hg
    subst hg
    rw [hc] at h2
    injection h2 with h2
    subst h2
    refine ⟨d, c', _, h1, hc, h3.set_ i v, by simpa using h4, fun j u hu => ?_⟩
    rw [Array.getElem?_setIfInBounds] at hu
    by_cases ej : i = j
    · subst ej
      split at hu
      · split at hu
        · injection hu with hu; subst hu; exact .inr hv'
        · cases hu
      · rename_i hn; exact (hn rfl).elim
    · rw [if_neg ej] at hu
      rcases h5 j u hu with h | h
      · exact .inl h
      · exact .inr (h.fr hf hfar)
  · refine ⟨d, d', cs, h1, h2, h3.far (p := ⟨R, i, none⟩) e v, h4, fun j u hu => ?_⟩
    rcases h5 j u hu with h | h
    · exact .inl h
    · exact .inr (h.fr hf hfar)

/-- a list of sets in memory -/
def DsAt (w : World) (G : Nat) (Ds : List (Nat → Bool)) (m : Nat → Nat) : Prop := ∃ cs : Array Value, Blk w G 60 cs ∧ cs.size = Ds.length ∧ ∀ (j : Nat) (D : Nat → Bool), Ds[j]? = some D → ∃ v, cs[j]? = some v ∧ RowV w (m j) D v

theorem DsAt.no {w w' : World} {G : Nat} {Ds : List (Nat → Bool)} {m : Nat → Nat} (h : DsAt w G Ds m) (hf : Fr No w w') : DsAt w' G Ds m := by
  obtain ⟨cs, h1, h2, h3⟩ := h
  refine ⟨cs, h1.fr hf (fun h => h), h2, fun j D hD => ?_⟩
  obtain ⟨v, h4, g, ws, h5, h6, h7⟩ := h3 j D hD
  exact ⟨v, h4, g, ws, h5, h6.fr hf (fun h => h), h7⟩

/-- less is anybody's own -/
theorem LC.less {F : Cach} {Z Z' : Nat → Prop} {w : World} (h : LC μ ν ρ F Z w) (hz : ∀ g, g < w.heap.size → Z' g → Z g) : LC μ ν ρ F Z' w := by
  refine ⟨fun g t hg => ?_, h.tz, h.tzF⟩
  obtain ⟨c, c', cs, h1, h2, h3, h4, h5⟩ := h.kept g t hg
  refine ⟨c, c', cs, h1, h2, h3, h4, fun i v hv => ?_⟩
  rcases h5 i v hv with h | h
  · exact .inl h
  · exact .inr (h.less hz)

theorem LtAt.less {F : Cach} {Z Z' : Nat → Prop} {w : World} (hz : ∀ g, g < w.heap.size → Z' g → Z g) : ∀ {t : Ty} {p : Nat}, LtAt μ ν ρ F Z w t p → LtAt μ ν ρ F Z' w t p := by
  intro t
  induction t with
  | v i =>
    rintro p ⟨gl, gr, R, c, c', cs, h1, h2, h3, h4, h5, h6, h7, h8, h9⟩
    exact ⟨gl, gr, R, c, c', cs, h1, h2, h3, h4, h5, h6, h7, h8, fun i v hv => (h9 i v hv).less hz⟩
  | o =>
    rintro p ⟨gl, gr, R, c, c', cs, h1, h2, h3, h4, h5, h6, h7, h8, h9⟩
    exact ⟨gl, gr, R, c, c', cs, h1, h2, h3, h4, h5, h6, h7, h8, fun i v hv => (h9 i v hv).less hz⟩
  | n f l r ihl ihr =>
    rintro p ⟨gl, gr, p1, p2, R, a, b, c, a', b', c', h1, h2, h3, h4, h5, h6, h7, h8, h9, h10, h11, h12⟩
    exact ⟨gl, gr, p1, p2, R, a, b, c, a', b', c', h1, h2, h3, h4, h5, h6, h7, h8, h9, h10, ihl h11, ihr h12⟩

theorem LC.old {F : Cach} {Z : Nat → Prop} {w : World} (h : LC μ ν ρ F Z w) {g : Nat} (hg : InF F g) : g < w.heap.size := by
  obtain ⟨t, ht⟩ := hg
  obtain ⟨c, c', cs, _, _, h3, _⟩ := h.kept g t ht
  exact h3.lt
end
end Go.Proofs.YtloecimlimoanaaGreatDoor

/- slices.Backward over bit sets: the iterator; a range over a method value within a round. -/
namespace Go.Proofs.YtloecimlimoanaaGreatDoor
open Go.RowKit Go.ChangeMaps Go.Shelf

attribute [local go_sem] Oper.semAt_some

section
variable {P : Program} {F : Fence} {n : Nat}
/-- a range over a function within a round: one block, no mark -/
theorem rf_stmt1N {g : Operand} {ps : Array Tmp} {assign body : Code} {Q : Exit → Act → World → Prop} {a : Act} {w : World} {l0 : Nat} {r0 : Loop} (hro : F.round = some l0) (hl0 : w.heap[l0]? = some (.loop r0)) (h1 : 1 ≤ n) {gf : Nat} {fa : Array Value} (hg : a.eval g = .func (.func gf) fa #[]) (hFg : F.fn gf) (eg : ∀ args w, (callFunc gf args).run P w = .ok (.enter gf args) w)
    (h : ∀ (fn : FuncId) (L : Nat) (rec : LoopState → Option Code → Loop), F.fn fn → L = w.heap.size → rec = (fun st pe => LR fn a.tmps ps assign body r0.defers st pe) → ∀ W1, W1 = w.alloc (.loop (rec .ready none)) →
      CallsIn F (n - 1) P gf (fa ++ #[.func (.yield L) #[] #[]]) W1 fun e W2 => (∃ v, e = .returned v) ∧ ∃ st jump, st ≠ .busy ∧ W2.heap[L]? = some (.loop (rec st jump)) ∧
        (match jump with
          | none => Q .normal a (W2.putObj L (.loop (rec .exhausted jump)))
          | some c => c.wpIn F n P Q a (W2.putObj L (.loop (rec .exhausted jump))))) :
    (Code.rangeFunc g ps assign body).wpIn F n P Q a w := by
  refine wpIn_rangeFunc ?_
  intro fn hfn
  rw [hro]
  obtain ⟨W1, hW1⟩ : ∃ W1, W1 = w.alloc (.loop (LR fn a.tmps ps assign body r0.defers .ready none)) := ⟨_, rfl⟩
  refine ⟨w.heap.size, [], W1, { target := .fn (.func gf) #[], args := fa ++ #[.func (.yield w.heap.size) #[] #[]] }, W1, gf, fa ++ #[.func (.yield w.heap.size) #[] #[]], W1, ?_, ?_, ?_, ?_, fun _ => h1, ?_⟩
  · rw [hW1]; exact run_enterLoop_inner hl0 _ _ _ _ _
  · simp only [resolve, hg]
    simp [go_sem]
  · intro f' hf'
    simp [Target.leads] at hf'
    exact hf' ▸ hFg
  · simp [invoke, go_sem, eg]
  · refine CallsIn.mono (h fn w.heap.size _ hfn rfl rfl W1 hW1) ?_
    rintro e W2 ⟨⟨v, rfl⟩, st, jump, hb, hl, hq⟩
    refine ⟨jump, _, run_endLoop hl hb, ?_⟩
    cases jump with
    | none => exact hq
    | some c => exact hq
end

set_option maxHeartbeats 400000 in
theorem backwardB_any (w : World) (A : Option Addr) (n c : Nat) : Calls Tryz.prog 72 #[.slice A n c] w fun e w' => e = .returned (.func (.func 91) #[] #[Ptr w.heap.size]) ∧ w' = w.alloc (.cells #[.slice A n c] 55) := by
  go_enter Tryz.func72, Tryz.ntmps72
  go_wp2_with fail
  go_ret
  exact ⟨rfl, rfl⟩

set_option maxRecDepth 100000 in
set_option maxHeartbeats 4000000 in
theorem bwb_in (F : Fence) (n : Nat) (hfn : ∀ f, F.fn f) (hro : F.round = none) (hn : 2 ≤ n) (l B : Nat) (S : Nat → Prop) (G : Nat) (lst : List Value) (J : Nat → World → Prop)
    (hJ : ∀ (i : Nat) (z : Value) (W : World), J (i + 1) W → lst[i]? = some z → YieldAt F (n - 1) Tryz.prog l #[.int .i64 i, z] W fun e W' => e = .returned (.bool true) ∧ J i W' ∧ Fr S W W')
    (w : World) (hlen : lst.length ≤ 100000) (h0 : J lst.length w) (hbox : Blk w B 55 #[.slice (some ⟨G, 0, none⟩) lst.length lst.length]) (hsl : Blk w G 60 lst.toArray) (hSB : ¬ S B) (hSG : ¬ S G) :
    CallsIn F n Tryz.prog 91 #[.func (.yield l) #[] #[], Ptr B] w fun e W' => (∃ v, e = .returned v) ∧ J 0 W' := by
  have HJ := Lib.hid hJ
  have CELLS : Hid (∀ W, Fr S w W → W.cell? ⟨B, 0, none⟩ = some (.slice (some ⟨G, 0, none⟩) lst.length lst.length) ∧ ∀ (j : Nat) (z : Value), lst[j]? = some z → W.cell? ⟨G, j, none⟩ = some z) := by
    intro W hf
    refine ⟨((hbox.fr hf hSB).cell 0).trans rfl, fun j z hz => ((hsl.fr hf hSG).cell j).trans (by rw [List.getElem?_toArray]; exact hz)⟩
  have H0 := Lib.hid h0
  have hlI : (lst.length : Int) ≤ 100000 := by omega
  have c0 := (CELLS.out w (Fr.refl _ _)).1
  clear hJ h0 hbox hsl hSB hSG
  refine callsIn_of_wp Tryz.func91 rfl (hfn _) ?_ hro
  simp only [Tryz.ntmps91, List.size_toArray, List.length_cons, List.length_nil, Nat.reduceAdd, Nat.reduceSub, Array.replicate_succ, Array.replicate_zero, List.push_toArray, List.append_toArray, List.nil_append, List.cons_append]
  gi_wp2_with fail
  gi_loopg [3] lst.length (fun g u W => g ≤ lst.length ∧ J g W ∧ Fr S w W ∧ ((∃ i : Nat, g = i + 1 ∧ u = .int .i64 i) ∨ (g = 0 ∧ u = .int .i64 (-1))))
  case atStart =>
    refine ⟨Nat.le_refl _, H0.out, Fr.refl _ _, ?_⟩
    rcases hlen : lst.length with _ | i
    · exact .inr ⟨rfl, rfl⟩
    · exact .inl ⟨i, rfl, congrArg (Value.int .i64) (by omega)⟩
  case round =>
    obtain ⟨hg, hj, hfr, ⟨i, rfl, rfl⟩ | ⟨rfl, rfl⟩⟩ := hrel
    · obtain ⟨z, hz⟩ : ∃ z, lst[i]? = some z := ⟨_, List.getElem?_eq_getElem (by omega)⟩
      obtain ⟨cb, hcs⟩ := CELLS.out wr hfr
      have hc := hcs i z hz
      obtain ⟨fn, tmps, assign, body, hy, hR⟩ := HJ.out i z wr hj hz
      have hilt : (i : Int) < (lst.length : Int) := by omega
      have HF := Lib.hid hfr
      have hn' : 1 ≤ n := by omega
      clear hcs hz hj hfr
      gi_wp2_with fail
      refine hR.mono ?_
      rintro e W3 ⟨rfl, h3, hf3⟩
      have HREL : Hid (i ≤ lst.length ∧ J i W3 ∧ Fr S w W3) := ⟨by omega, h3, HF.out.trans hf3⟩
      have HV : Hid ((∃ i' : Nat, i = i' + 1 ∧ Value.int .i64 ((i : Int) - 1) = .int .i64 i') ∨ (i = 0 ∧ Value.int .i64 ((i : Int) - 1) = .int .i64 (-1))) := by
        rcases i with _ | i
        · exact .inr ⟨rfl, rfl⟩
        · exact .inl ⟨i, rfl, congrArg (Value.int .i64) (by omega)⟩
      clear hy hR h3 hf3 c0 cb hc
      gi_wp2_with fail
      go_roundg i
      case measure => omega
      case rel => exact ⟨HREL.out.1, HREL.out.2.1, HREL.out.2.2, HV.out⟩
    · gi_wp2_with fail
      go_end0
      exact ⟨⟨_, rfl⟩, hj⟩
end Go.Proofs.YtloecimlimoanaaGreatDoor

/- The elements whose digits are in sets. -/
namespace Go.Proofs.YtloecimlimoanaaGreatDoor
open Go.RowKit Go.ChangeMaps Go.Shelf

attribute [local go_sem] Oper.semAt_some

/-- between two rounds -/
structure EJ (w : World) (gr E D : Nat) (rec : LoopState → Option Code → Loop) (d b : Nat) (Ds : List (Nat → Bool)) (j : Nat) (W : World) : Prop where
  fr : Fr No w W
  par : Blk W w.heap.size 54 #[Ptr gr]
  box : ∃ (g : Nat) (ws : List Nat), w.heap.size ≤ g ∧ Blk W E 60 #[.slice (some ⟨g, 0, none⟩) (nw d) (nw d)] ∧ Blk W g 63 (WV ws) ∧ BitsIs ws d (inD b (Ds.drop j))
  lp : W.heap[D + 1]? = some (.loop (rec .ready none))
  df : W.heap[D]? = some (.deferred (some []))
  sz : D + 2 ≤ W.heap.size

/-- between two elements, within a round -/
structure EK (W : World) (gr w0 X X1 Y D L : Nat) (rec rec2 : LoopState → Option Code → Loop) (d b m : Nat) (Q : Nat → Bool) (vs : Value) (pre : List Nat) (V : World) : Prop where
  fr : Fr (fun k => k = D + 1) W V
  par : Blk V w0 54 #[Ptr gr]
  some_ : Blk V X 60 #[vs]
  next : Blk V Y 60 #[.slice (some ⟨X1, 0, none⟩) (nw d) (nw d)]
  bits : ∃ ws : List Nat, Blk V X1 63 (WV ws) ∧ BitsIs ws d (fun x => pre.any (fun e => decide (e * b ≤ x) && Q (x - e * b)))
  lp : V.heap[D + 1]? = some (.loop (rec .busy none))
  lp2 : V.heap[L]? = some (.loop (rec2 .ready none))
  sz : L + 1 ≤ V.heap.size

theorem any_snoc (b : Nat) (Q : Nat → Bool) (pre : List Nat) (x j : Nat) : (pre ++ [x]).any (fun e => decide (e * b ≤ j) && Q (j - e * b)) = (pre.any (fun e => decide (e * b ≤ j) && Q (j - e * b)) || (decide (x * b ≤ j) && Q (j - x * b))) := by
  rw [List.any_append]; simp

set_option maxRecDepth 100000 in
set_option maxHeartbeats 8000000 in
theorem elemsD_any (w : World) (gr : Nat) (f : Bool) (a b d : Nat) (hF : FsAt w gr f a b d) (G : Nat) (Ds : List (Nat → Bool)) (m : Nat → Nat) (hDs : DsAt w G Ds m) (hlen2 : Ds.length ≤ 4096) (hb : 1 ≤ b) (_ : b ≤ 4096) (hd1 : 1 ≤ d) (hd2 : d ≤ 4096) (hT : TZt w)
    (hm : ∀ (j : Nat) (D : Nat → Bool), Ds[j]? = some D → ∀ x, D x = true → x < m j) (hmb : ∀ (j : Nat), Ds.drop (j + 1) ≠ [] → m j ≤ b)
    (hroom : ∀ (j e : Nat), j < Ds.length → e < d → inD b (Ds.drop (j + 1)) e = true → e * b + m j ≤ d) :
    Calls Tryz.prog 49 #[Ptr gr, .slice (some ⟨G, 0, none⟩) Ds.length Ds.length] w fun e w' => NewBits d (inD b Ds) w e w' := by
  obtain ⟨cs, hG, hcs, hrows⟩ := hDs
  obtain ⟨gl, grr, sz, s1, z1, p1, q1, s2, z2, p2, q2, hg1, _, hg3⟩ := hF
  have CELLS : Hid (∀ W, Fr No w W → W.cell? ⟨gr, 2, none⟩ = some (.int .i64 d) ∧ W.cell? ⟨gr, 4, none⟩ = some (Ptr grr) ∧ W.cell? ⟨grr, 2, none⟩ = some (.int .i64 b)) := fun W hf => ⟨((hg1.fr hf (fun h => h)).cell 2).trans rfl, ((hg1.fr hf (fun h => h)).cell 4).trans rfl, ((hg3.fr hf (fun h => h)).cell 2).trans rfl⟩
  have HG := Lib.hid hG
  have HROWS := Lib.hid hrows
  have HT := Lib.hid hT
  have HM := Lib.hid hm
  have HMB := Lib.hid hmb
  have HROOM := Lib.hid hroom
  have HCS := Lib.hid hcs
  have hdI : (d : Int) ≤ 4096 := by omega
  have LOW : Hid (gr < w.heap.size ∧ grr < w.heap.size ∧ G < w.heap.size) := ⟨hg1.lt, hg3.lt, hG.lt⟩
  have c2 := (CELLS.out (w.alloc (.cells #[Ptr gr] 54)) ((Fr.refl No w).alloc _)).1
  clear hG hg1 hg3 hrows hT hm hmb hroom hcs
  refine (callsIn_wide (n := 9)).1 ?_
  refine callsIn_of_wp_marks Tryz.func49 rfl trivial ?_ rfl
  simp only [Tryz.ntmps49, List.size_toArray, List.length_cons, List.length_nil, Nat.reduceAdd, Nat.reduceSub, Array.replicate_succ, Array.replicate_zero, List.push_toArray, List.append_toArray, List.nil_append, List.cons_append]
  gi_wp2_with fail
  have hf0 : Fr No w (w.alloc (.cells #[Ptr gr] 54)) := (Fr.refl No w).alloc _
  have hb0 : Blk (w.alloc (.cells #[Ptr gr] 54)) w.heap.size 54 #[Ptr gr] := Blk.new _ _ _
  have hz0 : (w.alloc (.cells #[Ptr gr] 54)).heap.size = w.heap.size + 1 := by simp
  generalize (w.alloc (.cells #[Ptr gr] 54)) = wa at hf0 hb0 hz0 c2 ⊢
  refine ⟨trivial, (callsIn_wide.2 (newBitSet_any wa d hd1 (by omega))).mono ?_⟩
  rintro e w1 ⟨rfl, hf1, hb1⟩
  have HF1 := Lib.hid (hf0.trans hf1)
  have HB0 := Lib.hid (hb0.fr hf1 (fun h => h))
  have HB1 := Lib.hid hb1
  have HZ1 : Hid (wa.heap.size = w.heap.size + 1 ∧ w.heap.size + 2 ≤ w1.heap.size) := ⟨hz0, by have := hb1.lt; omega⟩
  rw [hz0]
  clear hf0 hb0 hz0 hf1 hb1 c2
  gi_wp2_with fail
  have HF2 : Hid (Fr No w (w1.alloc (.cells #[.slice (some ⟨w.heap.size + 1, 0, none⟩) (nw d) (nw d)] 60))) := HF1.out.alloc _
  have HB2 : Hid (Blk (w1.alloc (.cells #[.slice (some ⟨w.heap.size + 1, 0, none⟩) (nw d) (nw d)] 60)) w.heap.size 54 #[Ptr gr]) := HB0.out.alloc _
  have HE2 : Hid (Blk (w1.alloc (.cells #[.slice (some ⟨w.heap.size + 1, 0, none⟩) (nw d) (nw d)] 60)) w1.heap.size 60 #[.slice (some ⟨w.heap.size + 1, 0, none⟩) (nw d) (nw d)]) := Blk.new _ _ _
  have HW2 : Hid (Blk (w1.alloc (.cells #[.slice (some ⟨w.heap.size + 1, 0, none⟩) (nw d) (nw d)] 60)) (w.heap.size + 1) 63 (WV (List.replicate (nw d) 0))) := by
    have h := HB1.out
    rw [HZ1.out.1] at h
    exact h.alloc _
  generalize (w1.alloc (.cells #[.slice (some ⟨w.heap.size + 1, 0, none⟩) (nw d) (nw d)] 60)) = wb at HF2 HB2 HE2 HW2 ⊢
  refine ⟨trivial, (callsIn_wide.2 (bsAdd_any wb (w.heap.size + 1) _ d 0 _ HW2.out (BitsIs.new d) hd1 (by omega))).mono ?_⟩
  rintro e w2 ⟨rfl, hfa, ws, hbw, hbits⟩
  have hz2 : Hid (w.heap.size + 2 ≤ w1.heap.size ∧ w1.heap.size < wb.heap.size) := ⟨HZ1.out.2, HE2.out.lt⟩
  have HF3 : Hid (Fr No w w2) := HF2.out.then_ hfa (fun i hi h => by have h : i = w.heap.size + 1 := h; omega)
  have HB3 : Hid (Blk w2 w.heap.size 54 #[Ptr gr]) := HB2.out.fr hfa (fun h => by have h : w.heap.size = w.heap.size + 1 := h; omega)
  have HE3 : Hid (Blk w2 w1.heap.size 60 #[.slice (some ⟨w.heap.size + 1, 0, none⟩) (nw d) (nw d)]) := HE2.out.fr hfa (fun h => by have h : w1.heap.size = w.heap.size + 1 := h; have := hz2.out; omega)
  have HW3 := Lib.hid hbw
  have HI3 := Lib.hid hbits
  generalize w1.heap.size = E at *
  clear hfa hbw hbits HF1 HB0 HB1 HZ1 HF2 HB2 HE2 HW2
  gi_wp2_with fail
  refine ⟨trivial, (callsIn_wide.2 (backwardB_any w2 _ _ _)).mono ?_⟩
  rintro e w' ⟨rfl, rfl⟩
  gi_wp2_with fail
  have hf4 : Fr No w (w2.alloc (.cells #[.slice (some ⟨G, 0, none⟩) Ds.length Ds.length] 55)) := HF3.out.alloc _
  have hb4 : Blk (w2.alloc (.cells #[.slice (some ⟨G, 0, none⟩) Ds.length Ds.length] 55)) w2.heap.size 55 #[.slice (some ⟨G, 0, none⟩) Ds.length Ds.length] := Blk.new _ _ _
  have hp4 := HB3.out.alloc (.cells #[.slice (some ⟨G, 0, none⟩) Ds.length Ds.length] 55)
  have he4 := HE3.out.alloc (.cells #[.slice (some ⟨G, 0, none⟩) Ds.length Ds.length] 55)
  have hw4 := HW3.out.alloc (.cells #[.slice (some ⟨G, 0, none⟩) Ds.length Ds.length] 55)
  have hz4 : (w2.alloc (.cells #[.slice (some ⟨G, 0, none⟩) Ds.length Ds.length] 55)).heap.size = w2.heap.size + 1 := by simp
  have HZE : Hid (w.heap.size + 2 ≤ E ∧ E < w2.heap.size) := ⟨hz2.out.1, HE3.out.lt⟩
  generalize (w2.alloc (.cells #[.slice (some ⟨G, 0, none⟩) Ds.length Ds.length] 55)) = w4 at hf4 hb4 hp4 he4 hw4 hz4 ⊢
  refine rf_stmt rfl (by decide) (gf := 91) (lb := #[Ptr w2.heap.size]) rfl trivial (enters_of Tryz.func91 (by kernel_rfl) rfl) ?_
  intro fn D rec hf hD hrec W1 hW1
  have HREC := Lib.hid hrec
  have hD1 : W1.heap.size = D + 2 := by rw [hW1, hD]; simp
  have hfW : Fr No w4 W1 := by rw [hW1]; exact ((Fr.refl _ _).alloc _).alloc _
  have hl1 : W1.heap[D + 1]? = some (.loop (rec .ready none)) := by
    rw [hW1]
    have := World.alloc_heap_new (w4.alloc (.deferred (some []))) (.loop (rec .ready none))
    rwa [World.size_alloc, ← hD] at this
  have hd1' : W1.heap[D]? = some (.deferred (some [])) := by
    rw [hW1, hD]
    exact (Below.heap_alloc _ _ _ (by simp)).trans (World.alloc_heap_new w4 _)
  have HDW : Hid (D = w2.heap.size + 1 ∧ w.heap.size + 2 ≤ E ∧ E < w2.heap.size) := ⟨by omega, HZE.out.1, HZE.out.2⟩
  clear hrec hW1
  have hfw := hf4.trans hfW
  have J0 : EJ w gr E D rec d b Ds Ds.length W1 := ⟨hfw, hp4.fr hfW (fun h => h), ⟨w.heap.size + 1, ws, by omega, he4.fr hfW (fun h => h), hw4.fr hfW (fun h => h), HI3.out.congr (fun j hj => by rw [List.drop_length]; show (false || decide (j = 0)) = (j == 0); rw [Bool.false_or]; exact (Bool.beq_eq_decide_eq j 0).symm)⟩, hl1, hd1', by omega⟩
  have hlist : cs.toList.length = Ds.length := by rw [Array.length_toList]; exact HCS.out
  have hG1 : Blk W1 G 60 cs.toList.toArray := by
    have h := HG.out.fr hfw (fun h => h)
    simpa using h
  have hbx1 : Blk W1 w2.heap.size 55 #[.slice (some ⟨G, 0, none⟩) cs.toList.length cs.toList.length] := by rw [hlist]; exact hb4.fr hfW (fun h => h)
  have HLIST := Lib.hid hlist
  refine (bwb_in Fence.wide 8 (fun _ => trivial) rfl (by decide) (D + 1) w2.heap.size (fun k => k = E ∨ k = D + 1) G cs.toList (EJ w gr E D rec d b Ds) ?round W1 (by omega) (by rw [hlist]; exact J0) hbx1 hG1 (by rintro (h | h) <;> have := HDW.out <;> omega) (by rintro (h | h) <;> have := HDW.out <;> have := LOW.out <;> omega)).mono ?_
  case round =>
    intro i z W hj hz
    have hil : i < Ds.length := by rw [← HLIST.out]; exact (List.getElem?_eq_some_iff.1 hz).1
    obtain ⟨Q, hQ⟩ : ∃ Q, Ds[i]? = some Q := ⟨_, List.getElem?_eq_getElem hil⟩
    obtain ⟨v, hv, gz, os, rfl, hgz, hos⟩ := HROWS.out i Q hQ
    rw [Array.getElem?_toList, hv] at hz
    injection hz with hz
    subst hz
    have HQ := Lib.hid hQ
    have HJ := Lib.hid hj
    have HOS := Lib.hid hos
    have HGZ : Hid (Blk w gz 63 (WV os)) := hgz
    obtain ⟨g, ws, hglo, hbE, hbg, hbi⟩ := hj.box
    have HBI := Lib.hid hbi
    have HIL := Lib.hid hil
    have HLO : Hid (gz < w.heap.size ∧ w.heap.size ≤ g ∧ D + 2 ≤ W.heap.size ∧ g ≠ E ∧ g ≠ D + 1 ∧ E ≠ D + 1 ∧ w.heap.size ≠ D + 1 ∧ g < W.heap.size ∧ E < W.heap.size) := by
      have := HDW.out
      have h1 : g ≠ E := fun e => by rw [e] at hbg; exact absurd (hbg.eq hbE).1 (by decide)
      have h2 : g ≠ D + 1 := hbg.ne_of HJ.out.lp (fun _ h => by cases h)
      exact ⟨hgz.lt, hglo, HJ.out.sz, h1, h2, by omega, by omega, hbg.lt, hbE.lt⟩
    have HBE := Lib.hid hbE
    have HBG := Lib.hid hbg
    clear hj hQ hos hgz hbE hbg hbi hil hf4 hb4 hp4 he4 hw4 hz4 hD hD1 hfW hl1 hd1' hfw J0 hlist hG1 hbx1 hglo hv HF3 HB3 HE3 HW3 HI3
    refine rf_round HREC.out hf HJ.out.lp rfl ?_
    gi_wp2_with fail
    have hfA : Fr No W (W.alloc (.cells #[.slice (some ⟨gz, 0, none⟩) (nw (m i)) (nw (m i))] 60)) := (Fr.refl No W).alloc _
    have hbA : Blk (W.alloc (.cells #[.slice (some ⟨gz, 0, none⟩) (nw (m i)) (nw (m i))] 60)) W.heap.size 60 #[.slice (some ⟨gz, 0, none⟩) (nw (m i)) (nw (m i))] := Blk.new _ _ _
    have hzA : (W.alloc (.cells #[.slice (some ⟨gz, 0, none⟩) (nw (m i)) (nw (m i))] 60)).heap.size = W.heap.size + 1 := by simp
    have hlA : (W.alloc (.cells #[.slice (some ⟨gz, 0, none⟩) (nw (m i)) (nw (m i))] 60)).heap[D + 1]? = some (.loop (rec .ready none)) := (hfA.block (D + 1) (by have := HLO.out; omega) (fun h => h)).trans HJ.out.lp
    generalize (W.alloc (.cells #[.slice (some ⟨gz, 0, none⟩) (nw (m i)) (nw (m i))] 60)) = Wa at hfA hbA hzA hlA ⊢
    refine ⟨_, rf_begin HREC.out hlA, ?_⟩
    have hfp : Fr (fun k => k = D + 1) Wa (Wa.putObj (D + 1) (.loop (rec .busy none))) := Fr.putObj _ _
    have hlp : (Wa.putObj (D + 1) (.loop (rec .busy none))).heap[D + 1]? = some (.loop (rec .busy none)) := World.putObj_heap_same (by have := HLO.out; omega)
    have hsp : (Wa.putObj (D + 1) (.loop (rec .busy none))).heap.size = W.heap.size + 1 := by simp [hzA]
    have HFB : Hid (Fr (fun k => k = D + 1) W (Wa.putObj (D + 1) (.loop (rec .busy none)))) := (hfA.mono (fun _ _ h => h.elim)).trans hfp
    have HBA : Hid (Blk (Wa.putObj (D + 1) (.loop (rec .busy none))) W.heap.size 60 #[.slice (some ⟨gz, 0, none⟩) (nw (m i)) (nw (m i))]) := hbA.fr hfp (fun h => by have h : W.heap.size = D + 1 := h; have := HLO.out; omega)
    have HLP := Lib.hid hlp
    have HSP := Lib.hid hsp
    generalize (Wa.putObj (D + 1) (.loop (rec .busy none))) = Wb at HFB HBA HLP HSP hfp hlp hsp ⊢
    have HPB : Hid (Blk Wb w.heap.size 54 #[Ptr gr]) := HJ.out.par.fr HFB.out (fun h => HLO.out.2.2.2.2.2.2.1 h)
    have HFW : Hid (Fr No w Wb) := HJ.out.fr.then_ HFB.out (fun k hk h => by have h : k = D + 1 := h; have := HDW.out; omega)
    have c0 : Wb.cell? ⟨w.heap.size, 0, none⟩ = some (Ptr gr) := (HPB.out.cell 0).trans rfl
    obtain ⟨c2, c3, c4⟩ := CELLS.out Wb HFW.out
    clear hfA hbA hzA hlA hfp hlp hsp
    gi_wp2_with fail
    refine ⟨trivial, (callsIn_wide.2 (newBitSet_any Wb d hd1 (by omega))).inRound _ |>.mono ?_⟩
    rintro e Wc ⟨rfl, hfc, hbc⟩
    obtain ⟨X, hX⟩ : ∃ X, X = W.heap.size := ⟨_, rfl⟩
    have hX1 : Wb.heap.size = X + 1 := by rw [hX]; exact HSP.out
    rw [hX1] at hbc ⊢
    rw [← hX] at HBA HLO ⊢
    have hX2 : X + 2 ≤ Wc.heap.size := by have := hbc.lt; omega
    have hfd : Fr No Wb (Wc.alloc (.cells #[.slice (some ⟨X + 1, 0, none⟩) (nw d) (nw d)] 60)) := hfc.alloc _
    have HBX := Lib.hid (hbc.alloc (.cells #[.slice (some ⟨X + 1, 0, none⟩) (nw d) (nw d)] 60))
    have HBY : Hid (Blk (Wc.alloc (.cells #[.slice (some ⟨X + 1, 0, none⟩) (nw d) (nw d)] 60)) Wc.heap.size 60 #[.slice (some ⟨X + 1, 0, none⟩) (nw d) (nw d)]) := Blk.new _ _ _
    have HFD : Hid (Fr (fun k => k = D + 1) W (Wc.alloc (.cells #[.slice (some ⟨X + 1, 0, none⟩) (nw d) (nw d)] 60))) := HFB.out.trans (hfd.mono (fun _ _ h => h.elim))
    have HBS : Hid (Blk (Wc.alloc (.cells #[.slice (some ⟨X + 1, 0, none⟩) (nw d) (nw d)] 60)) X 60 #[.slice (some ⟨gz, 0, none⟩) (nw (m i)) (nw (m i))]) := HBA.out.fr hfd (fun h => h)
    have HLD : Hid ((Wc.alloc (.cells #[.slice (some ⟨X + 1, 0, none⟩) (nw d) (nw d)] 60)).heap[D + 1]? = some (.loop (rec .busy none))) := (hfd.block (D + 1) (by rw [hX1]; have := HLO.out; omega) (fun h => h)).trans HLP.out
    have cE : (Wc.alloc (.cells #[.slice (some ⟨X + 1, 0, none⟩) (nw d) (nw d)] 60)).cell? ⟨E, 0, none⟩ = some (.slice (some ⟨g, 0, none⟩) (nw d) (nw d)) := ((HBE.out.fr HFD.out (fun h => HLO.out.2.2.2.2.2.1 h)).cell 0).trans rfl
    have HPD : Hid (Blk (Wc.alloc (.cells #[.slice (some ⟨X + 1, 0, none⟩) (nw d) (nw d)] 60)) w.heap.size 54 #[Ptr gr]) := HPB.out.fr hfd (fun h => h)
    have hsd : (Wc.alloc (.cells #[.slice (some ⟨X + 1, 0, none⟩) (nw d) (nw d)] 60)).heap.size = Wc.heap.size + 1 := by simp
    have HXX : Hid (X = W.heap.size ∧ X + 2 ≤ Wc.heap.size) := ⟨hX, hX2⟩
    clear hfc hbc hfd hX hX1 hX2 HFB HBA HLP HSP HPB HFW c0 c2 c3 c4
    gi_wp2_with fail
    generalize (Wc.alloc (.cells #[.slice (some ⟨X + 1, 0, none⟩) (nw d) (nw d)] 60)) = Wd at HBX HBY HFD HBS HLD cE HPD hsd ⊢
    refine rf_stmt1N (l0 := D + 1) (r0 := rec .busy none) rfl HLD.out (by decide) (gf := 30) (fa := #[.slice (some ⟨g, 0, none⟩) (nw d) (nw d)]) rfl trivial (enters_of Tryz.func30 (by kernel_rfl) rfl) ?_
    intro fn2 L rec2 hf2 hL hrec2 W2 hW2
    have HREC2 := Lib.hid hrec2
    have hfE : Fr No Wd W2 := by rw [hW2]; exact (Fr.refl _ _).alloc _
    have hl2 : W2.heap[L]? = some (.loop (rec2 .ready none)) := by rw [hW2, hL]; exact World.alloc_heap_new Wd _
    have hs2 : W2.heap.size = L + 1 := by rw [hW2, hL]; simp
    have HLL : Hid (L = Wc.heap.size + 1 ∧ X = W.heap.size ∧ X + 2 ≤ Wc.heap.size) := ⟨by omega, HXX.out.1, HXX.out.2⟩
    generalize Wc.heap.size = Y at *
    clear hrec2 hW2
    have K0 : EK W gr w.heap.size X (X + 1) Y D L rec rec2 d b (m i) Q (.slice (some ⟨gz, 0, none⟩) (nw (m i)) (nw (m i))) [] W2 :=
      ⟨HFD.out.trans (hfE.mono (fun _ _ h => h.elim)), HPD.out.fr hfE (fun h => h), HBS.out.fr hfE (fun h => h), HBY.out.fr hfE (fun h => h), ⟨_, HBX.out.fr hfE (fun h => h), (BitsIs.new d).congr (fun j _ => by simp)⟩, (hfE.block (D + 1) (by have := HLO.out; have := HLL.out; omega) (fun h => h)).trans HLD.out, hl2, by omega⟩
    have HNB : Hid (¬ (D + 1 = g) ∧ ¬ (g = X + 1) ∧ ¬ (g = L)) := by have := HLO.out; have := HLL.out; exact ⟨by omega, by omega, by omega⟩
    have hTW : TZt W2 := HT.out.fr (HJ.out.fr.then_ K0.fr (fun k hk h => by have h : k = D + 1 := h; have := HDW.out; omega)) (fun h => h)
    have hTl := HT.out.1
    refine CallsIn.inRound _ ((numbers_in Fence.wide 6 (fun _ => trivial) rfl (fun _ _ _ _ _ h => callsIn_wide.2 h) (by decide) L g (fun k => k = X + 1 ∨ k = L) ws d (EK W gr w.heap.size X (X + 1) Y D L rec rec2 d b (m i) Q (.slice (some ⟨gz, 0, none⟩) (nw (m i)) (nw (m i)))) ?inner W2 HBI.out.len (by omega) HBI.out.lt K0 (HBG.out.fr K0.fr (fun h => HNB.out.1 h.symm)) hTW (by rintro (h | h) <;> have := HNB.out <;> omega) (by rintro (h | h) <;> have := HLO.out <;> have := HLL.out <;> omega)).mono ?_)
    case inner =>
      intro pre x V hex hj
      have hxd : x < d ∧ inD b (Ds.drop (i + 1)) x = true := by
        obtain ⟨post, e⟩ := hex
        rw [HBI.out.list] at e
        exact elems_mem.1 (by rw [← e]; simp)
      have HK := Lib.hid hj
      have hrm := HROOM.out i x HIL.out hxd.1 hxd.2
      have HXD := Lib.hid hxd
      have HRM := Lib.hid hrm
      clear hj hex hfE hl2 hs2 K0 hTW cE hsd hL
      refine rf_round HREC2.out hf2 HK.out.lp2 rfl ?_
      gi_wp2_with fail
      refine ⟨_, rf_begin HREC2.out HK.out.lp2, ?_⟩
      have hfp : Fr (fun k => k = L) V (V.putObj L (.loop (rec2 .busy none))) := Fr.putObj _ _
      have hlt : L < V.heap.size := by have := HK.out.sz; omega
      have hb1 := HK.out.par.fr hfp (HK.out.par.ne_of HK.out.lp2 (fun _ h => by cases h))
      have hb2' := HK.out.some_.fr hfp (HK.out.some_.ne_of HK.out.lp2 (fun _ h => by cases h))
      have hb3 := HK.out.next.fr hfp (HK.out.next.ne_of HK.out.lp2 (fun _ h => by cases h))
      obtain ⟨wk, hwk0, hbk⟩ := HK.out.bits
      have hwk := hwk0.fr hfp (hwk0.ne_of HK.out.lp2 (fun _ h => by cases h))
      have hlp2 : (V.putObj L (.loop (rec2 .busy none))).heap[L]? = some (.loop (rec2 .busy none)) := World.putObj_heap_same hlt
      have hlp1 : (V.putObj L (.loop (rec2 .busy none))).heap[D + 1]? = some (.loop (rec .busy none)) := (World.putObj_heap_other (by have := HLO.out; have := HLL.out; omega)).trans HK.out.lp
      have hsz : (V.putObj L (.loop (rec2 .busy none))).heap.size = V.heap.size := by simp
      have hfW : Fr (fun k => k = D + 1) W (V.putObj L (.loop (rec2 .busy none))) := HK.out.fr.then_ hfp (fun k hk h => by have h : k = L := h; have := HLL.out; omega)
      generalize (V.putObj L (.loop (rec2 .busy none))) = V2 at hfp hb1 hb2' hb3 hwk hlp2 hlp1 hsz hfW ⊢
      have hfw2 : Fr No w V2 := HJ.out.fr.then_ hfW (fun k hk h => by have h : k = D + 1 := h; have := HDW.out; omega)
      obtain ⟨_, e4, e5⟩ := CELLS.out V2 hfw2
      have e1 : V2.cell? ⟨w.heap.size, 0, none⟩ = some (Ptr gr) := (hb1.cell 0).trans rfl
      have e2 : V2.cell? ⟨X, 0, none⟩ = some (.slice (some ⟨gz, 0, none⟩) (nw (m i)) (nw (m i))) := (hb2'.cell 0).trans rfl
      have e3 : V2.cell? ⟨Y, 0, none⟩ = some (.slice (some ⟨X + 1, 0, none⟩) (nw d) (nw d)) := (hb3.cell 0).trans rfl
      have hgz2 : Blk V2 gz 63 (WV os) := HGZ.out.fr hfw2 (fun h => h)
      have UN : Hid (Calls Tryz.prog 73 #[.slice (some ⟨X + 1, 0, none⟩) (nw d) (nw d), .slice (some ⟨gz, 0, none⟩) (nw (m i)) (nw (m i)), .int .i64 ((x * b : Nat) : Int)] V2.drew fun e w' => e = .returned (.tuple #[]) ∧ AddP (X + 1) d (fun j => pre.any (fun e => decide (e * b ≤ j) && Q (j - e * b)) || (decide (x * b ≤ j) && decide (j - x * b < m i) && Q (j - x * b))) V2 w') :=
        (unite_any V2.drew (X + 1) gz wk os d (m i) (x * b) _ Q hwk hgz2 (by have := HLO.out; have := HLL.out; omega) hbk HOS.out hrm (by omega)).mono (fun e w' h => ⟨h.1, ((Fr.refl _ V2).drew).trans h.2.1, h.2.2⟩)
      have FIN : Hid (∀ w5, AddP (X + 1) d (fun j => pre.any (fun e => decide (e * b ≤ j) && Q (j - e * b)) || (decide (x * b ≤ j) && decide (j - x * b < m i) && Q (j - x * b))) V2 w5 →
          (w5.cell? ⟨Y, 0, none⟩ = some (.slice (some ⟨X + 1, 0, none⟩) (nw d) (nw d)) ∧ w5.cell? ⟨X, 0, none⟩ = some (.slice (some ⟨gz, 0, none⟩) (nw (m i)) (nw (m i))) ∧ w5.cell? ⟨w.heap.size, 0, none⟩ = some (Ptr gr) ∧ w5.cell? ⟨gr, 4, none⟩ = some (Ptr grr) ∧ w5.cell? ⟨grr, 2, none⟩ = some (.int .i64 b)) ∧
          ∀ act : Act, roundPost Tryz.prog L (fun e W' => e = .returned (.bool true) ∧ EK W gr w.heap.size X (X + 1) Y D L rec rec2 d b (m i) Q (.slice (some ⟨gz, 0, none⟩) (nw (m i)) (nw (m i))) (pre ++ [x]) W' ∧ Fr (fun k => k = X + 1 ∨ k = L) V W') Exit.normal act w5) := by
        intro w5 ha
        obtain ⟨hfa, wk5, hwk5, hbk5⟩ := ha
        have hLL := HLL.out
        have hLO := HLO.out
        have n1 : ¬ One (X + 1) w.heap.size := fun h => by have h : w.heap.size = X + 1 := h; have := HJ.out.fr.size; omega
        have n2 : ¬ One (X + 1) X := fun h => by have h : X = X + 1 := h; omega
        have n3 : ¬ One (X + 1) Y := fun h => by have h : Y = X + 1 := h; omega
        have hc1 := hb1.fr hfa n1
        have hc2 := hb2'.fr hfa n2
        have hc3 := hb3.fr hfa n3
        have hl5 : w5.heap[L]? = some (.loop (rec2 .busy none)) := (hfa.block L (by omega) (fun h => by have h : L = X + 1 := h; omega)).trans hlp2
        have hl6 : w5.heap[D + 1]? = some (.loop (rec .busy none)) := (hfa.block (D + 1) (by have := hfW.size; omega) (fun h => by have h : D + 1 = X + 1 := h; omega)).trans hlp1
        have hfw5 : Fr No w w5 := hfw2.then_ hfa (fun k hk h => by have h : k = X + 1 := h; have := HJ.out.fr.size; omega)
        obtain ⟨_, g4, g5⟩ := CELLS.out w5 hfw5
        have hq : Fr (fun k => k = L) w5 (w5.putObj L (.loop (rec2 .ready none))) := Fr.putObj _ _
        have hs5 := hfa.size
        have hfS : Fr (fun k => k = X + 1 ∨ k = L) V (w5.putObj L (.loop (rec2 .ready none))) := ((hfp.mono (fun k _ h => .inr h)).trans (hfa.mono (fun k _ h => .inl h))).trans (hq.mono (fun k _ h => .inr h))
        refine ⟨⟨(hc3.cell 0).trans rfl, (hc2.cell 0).trans rfl, (hc1.cell 0).trans rfl, g4, g5⟩, fun act => ⟨_, _, rf_end HREC2.out none hl5, rfl, ?_, hfS⟩⟩
        refine ⟨HK.out.fr.then_ hfS (fun k hk h => by rcases h with h | h <;> omega), hc1.fr hq (hc1.ne_of hl5 (fun _ h => by cases h)), hc2.fr hq (hc2.ne_of hl5 (fun _ h => by cases h)), hc3.fr hq (hc3.ne_of hl5 (fun _ h => by cases h)), ⟨wk5, hwk5.fr hq (hwk5.ne_of hl5 (fun _ h => by cases h)), hbk5.congr (fun j hj => ?_)⟩, (World.putObj_heap_other (by omega)).trans hl6, World.putObj_heap_same (by omega), by simp; omega⟩
        rw [any_snoc]
        congr 1
        rcases hQj : Q (j - x * b) with _ | _
        · simp
        · have := HM.out i Q HQ.out _ hQj
          simp [this]
      have hmix : Tryz.prog.follows .mixedOrders = true := by kernel_rfl
      have hxm : (x : Int) * (b : Int) = ((x * b : Nat) : Int) := by rw [Int.natCast_mul]
      have hxm1 : (x : Int) * (b : Int) ≤ 4096 := by rw [hxm]; omega
      have hxm0 : 0 ≤ (x : Int) * (b : Int) := by rw [hxm]; omega
      have hwr : IntKind.i64.wrap ((x : Int) * (b : Int)) = (x : Int) * (b : Int) := IntWalk.i64_in _ (by omega)
      rw [← hxm, ← hwr] at UN
      clear hwr
      clear hxm
      have hl4 := block_lt e4
      have hl5 := block_lt e5
      clear hfp hb1 hb2' hb3 hwk0 hbk hwk hlp2 hlp1 hsz hfW hfw2 hgz2 hlt hrm hxd
      gi_wp2_with fail
      refine wpIn_region_heldR (S := fun w' => w'.cell? ⟨Y, 0, none⟩ = some (.slice (some ⟨X + 1, 0, none⟩) (nw d) (nw d)) ∧ w'.cell? ⟨X, 0, none⟩ = some (.slice (some ⟨gz, 0, none⟩) (nw (m i)) (nw (m i))) ∧ w'.cell? ⟨w.heap.size, 0, none⟩ = some (Ptr gr) ∧ w'.cell? ⟨gr, 4, none⟩ = some (Ptr grr) ∧ w'.cell? ⟨grr, 2, none⟩ = some (.int .i64 b)) hmix (by kernel_rfl) ?hLO ⟨e3, e2, e1, e4, e5⟩ (fun hHeld => ?_)
      case hLO =>
        rintro ⟨a0, w0, h⟩
        exact (h : False)
      refine wpAnyH_take (i := 0) (v := ?vz0) (by simp only [List.getElem?_toArray, List.getElem?_cons_zero]; rfl) (by kernel_rfl) (by kernel_rfl) (by kernel_rfl) (by exact fun _ _ _ h => h) (Or.inl ⟨by rfl, ?hyz0⟩) (by assumption) ?restz0
      case hyz0 => (intro w hSw; (try dsimp only at hSw); go_simp; try with_reducible rfl)
      ((try simp only [Act.put]); (try simp only [List.setIfInBounds_toArray]); (try simp only [List.set_cons_succ]); (try simp only [List.set_cons_zero]))
      refine wpAnyH_take (i := 1) (v := ?vz1) (by simp only [List.getElem?_toArray, List.getElem?_cons_succ, List.getElem?_cons_zero]; rfl) (by kernel_rfl) (by kernel_rfl) (by kernel_rfl) (by exact fun _ _ _ h => h) (Or.inl ⟨by rfl, ?hyz1⟩) (by assumption) ?restz1
      case hyz1 => (intro w hSw; (try dsimp only at hSw); go_simp; try with_reducible rfl)
      ((try simp only [Act.put]); (try simp only [List.setIfInBounds_toArray]); (try simp only [List.set_cons_succ]); (try simp only [List.set_cons_zero]))
      refine wpAnyH_take (i := 2) (v := ?vz2) (by simp only [List.getElem?_toArray, List.getElem?_cons_succ, List.getElem?_cons_zero]; rfl) (by kernel_rfl) (by kernel_rfl) (by kernel_rfl) (by exact fun _ _ _ h => h) (Or.inl ⟨by rfl, ?hyz2⟩) (by assumption) ?restz2
      case hyz2 => (intro w hSw; (try dsimp only at hSw); go_simp; try with_reducible rfl)
      ((try simp only [Act.put]); (try simp only [List.setIfInBounds_toArray]); (try simp only [List.set_cons_succ]); (try simp only [List.set_cons_zero]))
      refine wpAnyH_take (i := 3) (v := ?vz3) (by simp only [List.getElem?_toArray, List.getElem?_cons_succ, List.getElem?_cons_zero]; rfl) (by kernel_rfl) (by kernel_rfl) (by kernel_rfl) (by exact fun _ _ _ h => h) (Or.inl ⟨by rfl, ?hyz3⟩) (by assumption) ?restz3
      case hyz3 => (intro w hSw; (try dsimp only at hSw); go_simp; try with_reducible rfl)
      ((try simp only [Act.put]); (try simp only [List.setIfInBounds_toArray]); (try simp only [List.set_cons_succ]); (try simp only [List.set_cons_zero]))
      refine wpAnyH_take (i := 4) (v := ?vz4) (by simp only [List.getElem?_toArray, List.getElem?_cons_succ, List.getElem?_cons_zero]; rfl) (by kernel_rfl) (by kernel_rfl) (by kernel_rfl) (by exact fun _ _ _ h => h) (Or.inl ⟨by rfl, ?hyz4⟩) (by assumption) ?restz4
      case hyz4 => (intro w hSw; (try dsimp only at hSw); go_simp; try with_reducible rfl)
      ((try simp only [Act.put]); (try simp only [List.setIfInBounds_toArray]); (try simp only [List.set_cons_succ]); (try simp only [List.set_cons_zero]))
      refine wpAnyH_take (i := 5) (v := ?vz5) (by simp only [List.getElem?_toArray, List.getElem?_cons_succ, List.getElem?_cons_zero]; rfl) (by kernel_rfl) (by kernel_rfl) (by kernel_rfl) (by exact fun _ _ _ h => h) (Or.inl ⟨by rfl, ?hyz5⟩) (by assumption) ?restz5
      case hyz5 => (intro w hSw; (try dsimp only at hSw); go_simp; try with_reducible rfl)
      ((try simp only [Act.put]); (try simp only [List.setIfInBounds_toArray]); (try simp only [List.set_cons_succ]); (try simp only [List.set_cons_zero]))
      refine wpAnyH_take (i := 6) (v := ?vz6) (by simp only [List.getElem?_toArray, List.getElem?_cons_succ, List.getElem?_cons_zero]; rfl) (by kernel_rfl) (by kernel_rfl) (by kernel_rfl) (by exact fun _ _ _ h => h) (Or.inl ⟨by rfl, ?hyz6⟩) (by assumption) ?restz6
      case hyz6 => (intro w hSw; (try dsimp only at hSw); go_simp; try with_reducible rfl)
      ((try simp only [Act.put]); (try simp only [List.setIfInBounds_toArray]); (try simp only [List.set_cons_succ]); (try simp only [List.set_cons_zero]))
      refine wpAnyH_take (i := 7) (v := ?vz7) (by simp only [List.getElem?_toArray, List.getElem?_cons_succ, List.getElem?_cons_zero]; rfl) (by kernel_rfl) (by kernel_rfl) (by kernel_rfl) (by exact fun _ _ _ h => h) (Or.inl ⟨by rfl, ?hyz7⟩) (by assumption) ?restz7
      case hyz7 => (intro w hSw; (try dsimp only at hSw); go_simp; try with_reducible rfl)
      ((try simp only [Act.put]); (try simp only [List.setIfInBounds_toArray]); (try simp only [List.set_cons_succ]); (try simp only [List.set_cons_zero]))
      refine wpAnyH_take (i := 8) (v := ?vz8) (by simp only [List.getElem?_toArray, List.getElem?_cons_succ, List.getElem?_cons_zero]; rfl) (by kernel_rfl) (by kernel_rfl) (by kernel_rfl) (by exact fun _ _ _ h => h) (Or.inl ⟨by rfl, ?hyz8⟩) (by assumption) ?restz8
      case hyz8 => (intro w hSw; (try dsimp only at hSw); go_simp; try with_reducible rfl)
      ((try simp only [Act.put]); (try simp only [List.setIfInBounds_toArray]); (try simp only [List.set_cons_succ]); (try simp only [List.set_cons_zero]))
      refine wpAnyH_take (i := 9) (v := ?vz9) (by simp only [List.getElem?_toArray, List.getElem?_cons_succ, List.getElem?_cons_zero]; rfl) (by kernel_rfl) (by kernel_rfl) (by kernel_rfl) (by exact fun _ _ _ h => h) (Or.inl ⟨by rfl, ?hyz9⟩) (by assumption) ?restz9
      case hyz9 => (intro w hSw; (try dsimp only at hSw); go_simp; try with_reducible rfl)
      ((try simp only [Act.put]); (try simp only [List.setIfInBounds_toArray]); (try simp only [List.set_cons_succ]); (try simp only [List.set_cons_zero]))
      refine wpAnyH_take (i := 10) (v := ?vz10) (by simp only [List.getElem?_toArray, List.getElem?_cons_succ, List.getElem?_cons_zero]; rfl) (by kernel_rfl) (by kernel_rfl) (by kernel_rfl) (by exact fun _ _ _ h => h) (Or.inl ⟨by rfl, ?hyz10⟩) (by assumption) ?restz10
      case hyz10 => (intro w hSw; (try dsimp only at hSw); go_simp; try with_reducible rfl)
      ((try simp only [Act.put]); (try simp only [List.setIfInBounds_toArray]); (try simp only [List.set_cons_succ]); (try simp only [List.set_cons_zero]))
      refine wpAnyH_ready (rs := [11]) (by kernel_rfl) (by simp) ?_
      refine AllReadyH.cons rfl (fun K hK => ?_) AllReadyH.nil
      go_simp
      (with_reducible refine UN.out.mono ?_)
      rintro e w5 ⟨rfl, ha⟩
      obtain ⟨k1, k2⟩ := FIN.out w5 ha
      refine hK.out _ _ k1 (fun hH8 => ?_)
      clear hK K
      ((try simp only [Act.put]); (try simp only [List.setIfInBounds_toArray]); (try simp only [List.set_cons_succ]); (try simp only [List.set_cons_zero]))
      refine wpAnyH_done (by kernel_rfl) ?_ _
      exact k2 { tmps := #[], defers := [] }
    rintro e V ⟨hv, hj⟩
    refine ⟨hv, .ready, none, (fun h => by cases h), hj.lp2, ?_⟩
    have hfp : Fr (fun k => k = L) V (V.putObj L (.loop (rec2 .exhausted none))) := Fr.putObj _ _
    have hb1 := hj.par.fr hfp (hj.par.ne_of hj.lp2 (fun _ h => by cases h))
    have hb3 := hj.next.fr hfp (hj.next.ne_of hj.lp2 (fun _ h => by cases h))
    obtain ⟨wk, hwk0, hbk⟩ := hj.bits
    have hwk := hwk0.fr hfp (hwk0.ne_of hj.lp2 (fun _ h => by cases h))
    have hlp1 : (V.putObj L (.loop (rec2 .exhausted none))).heap[D + 1]? = some (.loop (rec .busy none)) := (World.putObj_heap_other (by have := HLO.out; have := HLL.out; omega)).trans hj.lp
    have hfW : Fr (fun k => k = D + 1) W (V.putObj L (.loop (rec2 .exhausted none))) := hj.fr.then_ hfp (fun k hk h => by have h : k = L := h; have := HLL.out; omega)
    show Exit.inBlock 0 _ .normal _ (V.putObj L (.loop (rec2 .exhausted none)))
    generalize (V.putObj L (.loop (rec2 .exhausted none))) = V3 at hfp hb1 hb3 hwk hlp1 hfW ⊢
    have hbE3 := HBE.out.fr hfW (fun h => HLO.out.2.2.2.2.2.1 h)
    have cY : V3.cell? ⟨Y, 0, none⟩ = some (.slice (some ⟨X + 1, 0, none⟩) (nw d) (nw d)) := (hb3.cell 0).trans rfl
    have cE3 : V3.cell? ⟨E, 0, none⟩ = some (.slice (some ⟨g, 0, none⟩) (nw d) (nw d)) := (hbE3.cell 0).trans rfl
    have fE3 := hbE3.frozen 0
    have lE3 := hbE3.lt
    have FIN : Hid (∀ act : Act, roundPost Tryz.prog (D + 1) (fun e W' => e = .returned (.bool true) ∧ EJ w gr E D rec d b Ds i W' ∧ Fr (fun k => k = E ∨ k = D + 1) W W') Exit.normal act (V3.setCell ⟨E, 0, none⟩ (.slice (some ⟨X + 1, 0, none⟩) (nw d) (nw d)))) := by
      intro act
      have hLL := HLL.out
      have hLO := HLO.out
      have hDW := HDW.out
      have hfs : Fr (fun k => k = E) V3 (V3.setCell ⟨E, 0, none⟩ (.slice (some ⟨X + 1, 0, none⟩) (nw d) (nw d))) := (Fr.refl (fun k => k = E) V3).setCell (p := ⟨E, 0, none⟩) (.inl rfl) _
      have hl3 : (V3.setCell ⟨E, 0, none⟩ (.slice (some ⟨X + 1, 0, none⟩) (nw d) (nw d))).heap[D + 1]? = some (.loop (rec .busy none)) := (hfs.block (D + 1) (by have := hfW.size; omega) (fun h => by omega)).trans hlp1
      have hq : Fr (fun k => k = D + 1) (V3.setCell ⟨E, 0, none⟩ (.slice (some ⟨X + 1, 0, none⟩) (nw d) (nw d))) ((V3.setCell ⟨E, 0, none⟩ (.slice (some ⟨X + 1, 0, none⟩) (nw d) (nw d))).putObj (D + 1) (.loop (rec .ready none))) := Fr.putObj _ _
      have hfS : Fr (fun k => k = E ∨ k = D + 1) W ((V3.setCell ⟨E, 0, none⟩ (.slice (some ⟨X + 1, 0, none⟩) (nw d) (nw d))).putObj (D + 1) (.loop (rec .ready none))) := ((hfW.mono (fun k _ h => .inr h)).trans (hfs.mono (fun k _ h => .inl h))).trans (hq.mono (fun k _ h => .inr h))
      have hsz := hfW.size
      have hsz2 := hfs.size
      have hbw := (hwk.fr hfs (fun h => by have h : X + 1 = E := h; omega)).fr hq (fun h => by have h : X + 1 = D + 1 := h; omega)
      have hE5 := (hbE3.set_ 0 (.slice (some ⟨X + 1, 0, none⟩) (nw d) (nw d))).fr hq (fun h => hLO.2.2.2.2.2.1 h)
      refine ⟨_, _, rf_end HREC.out none hl3, rfl, ⟨HJ.out.fr.then_ hfS (fun k hk h => by rcases h with h | h <;> omega), (hb1.fr hfs (fun h => by have h : w.heap.size = E := h; omega)).fr hq (fun h => hLO.2.2.2.2.2.2.1 h), ⟨X + 1, wk, by omega, hE5, hbw, hbk.congr (fun j hj => ?_)⟩, World.putObj_heap_same (by omega), (World.putObj_heap_other (by omega)).trans ((hfs.block D (by omega) (fun h => by have h : D = E := h; omega)).trans ((hfW.block D (by omega) (fun h => by have h : D = D + 1 := h; omega)).trans HJ.out.df)), Nat.le_trans (show D + 2 ≤ W.heap.size by omega) hfS.size⟩, hfS⟩
      rw [HBI.out.list]
      have hdrop : Ds.drop i = Q :: Ds.drop (i + 1) := by
        rw [List.drop_eq_getElem_cons HIL.out]
        congr 1
        have h := HQ.out
        rw [List.getElem?_eq_getElem HIL.out] at h
        injection h
      rw [hdrop]
      exact inD_step hb (fun hne x hx => Nat.lt_of_lt_of_le (HM.out i Q HQ.out x hx) (HMB.out i hne)) hd1 j hj
    clear hv hj hfp hb1 hb3 hwk0 hbk hwk hlp1 hfW hbE3 hfE hl2 hs2 K0 hTW cE hsd hL
    gi_wp2_with fail
    exact FIN.out _
  rintro e W2 ⟨hv, hj⟩
  refine ⟨hv, .ready, none, (fun h => by cases h), hj.lp, ?_⟩
  have hfp : Fr (fun b => b = D + 1) W2 (W2.putObj (D + 1) (.loop (rec .exhausted none))) := Fr.putObj _ _
  obtain ⟨g, ws2, hglo, hbE0, hbg0, hbi0⟩ := hj.box
  have hbE := hbE0.fr hfp (hbE0.ne_of hj.lp (fun _ h => by cases h))
  have hbg := hbg0.fr hfp (hbg0.ne_of hj.lp (fun _ h => by cases h))
  have hdp : (W2.putObj (D + 1) (.loop (rec .exhausted none))).heap[D]? = some (.deferred (some [])) := (World.putObj_heap_other (by omega)).trans hj.df
  have hfa : Fr No w (W2.putObj (D + 1) (.loop (rec .exhausted none))) := hj.fr.then_ hfp (fun b hb h => by have h : b = D + 1 := h; have := HDW.out; omega)
  show Exit.inBlock 0 _ .normal _ (W2.putObj (D + 1) (.loop (rec .exhausted none)))
  generalize (W2.putObj (D + 1) (.loop (rec .exhausted none))) = W3 at hbE hbg hdp hfa ⊢
  have c0 : W3.cell? ⟨E, 0, none⟩ = some (.slice (some ⟨g, 0, none⟩) (nw d) (nw d)) := (hbE.cell 0).trans rfl
  have l0 := hbE.lt
  have HDP := Lib.hid hdp
  have HFA := Lib.hid hfa
  have HBG := Lib.hid hbg
  have HBI := Lib.hid hbi0
  have HGL := Lib.hid hglo
  have HGD : Hid (g ≠ D) := (hbg.ne_of hdp (fun _ h => by cases h))
  clear hv hj hfp hbE0 hbg0 hbi0 hbE hbg hdp hfa hfW hl1 hd1' hfw J0 hbx1 hG1 hlist hf4 hb4 hp4 he4 hw4 hz4 hD hD1 hglo
  gi_wp2_with fail
  refine ⟨by simp, .inl ⟨_, _, rfl, run_takeDeferred HDP.out, ?_⟩⟩
  refine ⟨_, results_tmp rfl _ _ _, ⟨g, ws2, rfl, HGL.out, HFA.out.then_ (Fr.putObj D _) (fun b hb h => by have h : b = D := h; have := HDW.out; omega), HBG.out.fr (Fr.putObj D _) (fun h => HGD.out h), HBI.out⟩⟩
end Go.Proofs.YtloecimlimoanaaGreatDoor

/- The related digits of an element: of pairs. · The related digits of an element: of functions. -/
/- The related digits of an element: of pairs. -/
namespace Go.Proofs.YtloecimlimoanaaGreatDoor
open Go.RowKit Go.ChangeMaps Go.Shelf

theorem digL_at {b k m q : Nat} (h : q ≤ m) (hlt : k < b ^ (m + 1)) : (digL b k m)[q]? = some ((k / b ^ q % b : Nat) : Int) := by
  unfold digL
  by_cases hq : q < m
  · rw [List.getElem?_append_left (by simp [hq]), List.getElem?_map, List.getElem?_range hq]
    rfl
  · have : q = m := by omega
    subst this
    rw [List.getElem?_append_right (by simp)]
    have := dig_last hlt
    unfold dig at this
    rw [List.length_map, List.length_range, Nat.sub_self]
    exact congrArg (fun n : Nat => some (n : Int)) this

section
variable (μ ν : Nat → Option Nat) (ρ : Nat → Nat → Nat → Bool)

/-- what row answers -/
def RowP (F : Cach) (Z : Nat → Prop) (t : Ty) (c' x : Nat) (w : World) (e : Ending) (w' : World) : Prop := ∃ v, e = .returned v ∧ RowZ Z w' c' (relT μ ν ρ t x) v ∧ LC μ ν ρ F Z w' ∧ Fr (InF F) w w'

def RowSaid (F : Cach) (t : Ty) : Prop := ∀ (Z : Nat → Prop) (w : World) (p x c c' : Nat), (∀ g, Z g → g < w.heap.size) → LC μ ν ρ F Z w → LtAt μ ν ρ F Z w t p → t.cnt μ = some c → t.cnt ν = some c' → x < c →
  Calls Tryz.prog 26 #[Ptr p, .int .i64 x] w fun e w' => RowP μ ν ρ F Z t c' x w e w'

/-- what relatedDigits answers -/
def RdP (F : Cach) (Z : Nat → Prop) (Ds : List (Nat → Bool)) (m : Nat → Nat) (w : World) (e : Ending) (w' : World) : Prop := ∃ G, e = .returned (.slice (some ⟨G, 0, none⟩) Ds.length Ds.length) ∧ DsAt w' G Ds m ∧ LC μ ν ρ F Z w' ∧ Fr (InF F) w w'

/-- the sets of the digits of pairs -/
def pairD (l r : Ty) (a' b' b x : Nat) : List (Nat → Bool) := [fun y => decide (y < b') && relT μ ν ρ r (x % b) y, fun y => decide (y < a') && relT μ ν ρ l (x / b) y]
end

section
variable {μ ν : Nat → Option Nat} {ρ : Nat → Nat → Nat → Bool}

theorem RowZ.keepF {F : Cach} {Z : Nat → Prop} {w w' : World} {n : Nat} {P : Nat → Bool} {v : Value} (h : RowZ Z w n P v) (hL : LC μ ν ρ F Z w) (hf : Fr (InF F) w w') : RowZ Z w' n P v := h.fr hf hL.far

theorem LC.not_int {F : Cach} {Z : Nat → Prop} {w : World} (h : LC μ ν ρ F Z w) {g i : Nat} {k : IntKind} {n : Int} (hc : w.cell? ⟨g, i, none⟩ = some (.int k n)) : ¬ InF F g := by
  rintro ⟨t, ht⟩
  obtain ⟨c, c', cs, _, _, hb, _, h5⟩ := h.kept g t ht
  rw [hb.cell] at hc
  rcases h5 i _ hc with e | ⟨_, _, e, _⟩ <;> cases e

set_option maxRecDepth 100000 in
set_option maxHeartbeats 4000000 in
theorem rd_pair (hμ : Sizes μ) (_ : Sizes ν) (F : Cach) (l r : Ty) (hl : RowSaid μ ν ρ F l) (hr : RowSaid μ ν ρ F r) (Z : Nat → Prop) (w : World) (p x a b c a' b' : Nat) (hZ : ∀ g, Z g → g < w.heap.size) (hL : LC μ ν ρ F Z w) (hT : LtAt μ ν ρ F Z w (.n false l r) p)
    (ha : l.cnt μ = some a) (hb : r.cnt μ = some b) (hc : (Ty.n false l r).cnt μ = some c) (ha' : l.cnt ν = some a') (hb' : r.cnt ν = some b') (hx : x < c) :
    Calls Tryz.prog 50 #[Ptr p, .int .i64 x] w fun e w' => RdP μ ν ρ F Z (pairD μ ν ρ l r a' b' b x) (fun j => if j = 0 then b' else a') w e w' := by
  obtain ⟨gl, gr, p1, p2, R, a0, b0, c0, a0', b0', c0', h1, h2, h3, h4, h5, h6, h7, h8, h9, h10, h11, h12⟩ := hT
  rw [ha] at h1; injection h1 with h1; subst h1
  rw [hb] at h2; injection h2 with h2; subst h2
  rw [hc] at h3; injection h3 with h3; subst h3
  rw [ha'] at h4; injection h4 with h4; subst h4
  rw [hb'] at h5; injection h5 with h5; subst h5
  have hcab : c = a * b ∧ c ≤ 4096 := by
    obtain ⟨a1, b1, e1, e2, e3, e4⟩ := Ty.cnt_n hc
    rw [ha] at e1; injection e1 with e1; subst e1
    rw [hb] at e2; injection e2 with e2; subst e2
    exact ⟨e3, e4⟩
  have hbb := r.cnt_bounds hμ b hb
  have hdiv : x / b < a := by rw [Nat.div_lt_iff_lt_mul (by omega)]; omega
  have hmod : x % b < b := Nat.mod_lt _ (by omega)
  have DIG := Lib.hid (digits_pair w gl a b c x hbb.1 hbb.2 (by omega) h8)
  obtain ⟨gll, glr, sz, s1, z1, q1, q2, s2, z2, q3, q4, k1, _, _⟩ := h8
  have d0 : w.cell? ⟨p, 0, none⟩ = some (Ptr gl) := (h7.cell 0).trans rfl
  have k0 : Hid (∀ w', Fr No w w' → w'.cell? ⟨p, 0, none⟩ = some (Ptr gl) ∧ w'.cell? ⟨gl, 0, none⟩ = some (S [42])) := fun w' hf => ⟨((h7.fr hf (fun h => h)).cell 0).trans rfl, ((k1.fr hf (fun h => h)).cell 0).trans rfl⟩
  have CP : Hid (∀ w', Fr (InF F) w w' → w'.cell? ⟨p, 3, none⟩ = some (Ptr p2) ∧ w'.cell? ⟨p, 2, none⟩ = some (Ptr p1)) := fun w' hf => by
    have h := h7.fr hf (hL.far _ _ _ h7 (.inl (by decide)) (fun h => absurd h (by decide)))
    exact ⟨(h.cell 3).trans rfl, (h.cell 2).trans rfl⟩
  have CL : Hid (∀ W, Fr (InF F) w W → LC μ ν ρ F Z W → Calls Tryz.prog 26 #[Ptr p1, .int .i64 ((x / b : Nat) : Int)] W fun e w' => RowP μ ν ρ F Z l a' (x / b) W e w') := fun W hf hLW => hl Z W p1 (x / b) a a' (fun g hg => Nat.lt_of_lt_of_le (hZ g hg) hf.size) hLW (h11.fr hf hL.far) ha ha' hdiv
  have CR : Hid (∀ W, Fr (InF F) w W → LC μ ν ρ F Z W → Calls Tryz.prog 26 #[Ptr p2, .int .i64 ((x % b : Nat) : Int)] W fun e w' => RowP μ ν ρ F Z r b' (x % b) W e w') := fun W hf hLW => hr Z W p2 (x % b) b b' (fun g hg => Nat.lt_of_lt_of_le (hZ g hg) hf.size) hLW (h12.fr hf hL.far) hb hb' hmod
  have HL := Lib.hid hL
  have HFAR := Lib.hid hL.far
  clear h7 k1 h9 h10 h11 h12 hL hl hr hZ
  go_enter Tryz.func50, Tryz.ntmps50
  go_wp2_with fail
  refine DIG.out.mono ?_
  rintro e w1 ⟨G, rfl, hf1, hsl⟩
  obtain ⟨g, o, eA, t0⟩ := hsl 0 _ (show (digL b x 1)[0]? = some ((x % b : Nat) : Int) by simp [digL])
  injection eA with eA; injection eA with e1 e2; subst e1 e2
  obtain ⟨g, o, eA, t1⟩ := hsl 1 _ (show (digL b x 1)[1]? = some ((x / b : Nat) : Int) by simp [digL])
  injection eA with eA; injection eA with e1 e2; subst e1 e2
  have hL1 := HL.out.no hf1
  have hG0 : ¬ InF F G := hL1.not_int t0
  have DG : Hid (∀ w', Fr (InF F) w1 w' → w'.cell? ⟨G, 0, none⟩ = some (.int .i64 ((x % b : Nat) : Int)) ∧ w'.cell? ⟨G, 1, none⟩ = some (.int .i64 ((x / b : Nat) : Int))) := fun w' hf =>
    ⟨(hf.cell (p := ⟨G, 0, none⟩) (block_lt t0) hG0).trans t0, (hf.cell (p := ⟨G, 1, none⟩) (block_lt t1) hG0).trans t1⟩
  obtain ⟨y0, y1⟩ := k0.out w1 hf1
  have hfw1 : Fr (InF F) w w1 := hf1.mono (fun _ _ h => h.elim)
  have hfd : Fr (InF F) w1 w1.drew := (Fr.refl _ w1).drew
  have HFW1 := Lib.hid hfw1
  have CR1 : Hid (Calls Tryz.prog 26 #[Ptr p2, .int .i64 ((x % b : Nat) : Int)] w1.drew fun e w' => ∃ g1 : Nat, e = .returned (.slice (some ⟨g1, 0, none⟩) (nw b') (nw b')) ∧ Hid (RowZ Z w' b' (relT μ ν ρ r (x % b)) (.slice (some ⟨g1, 0, none⟩) (nw b') (nw b')) ∧ LC μ ν ρ F Z w' ∧ Fr (InF F) w1 w')) := (CR.out w1.drew (hfw1.trans hfd) (hL1.no ((Fr.refl No w1).drew))).mono (fun e w' ⟨v, h1, h2, h3, h4⟩ => by
    obtain ⟨g1, ws1, rfl, k1, k2, k3⟩ := h2
    exact ⟨g1, h1, ⟨g1, ws1, rfl, k1, k2, k3⟩, h3, hfd.trans h4⟩)
  have CL1 : Hid (∀ w2, LC μ ν ρ F Z w2 → Fr (InF F) w1 w2 → Calls Tryz.prog 26 #[Ptr p1, .int .i64 ((x / b : Nat) : Int)] w2 fun e w' => ∃ g2 : Nat, e = .returned (.slice (some ⟨g2, 0, none⟩) (nw a') (nw a')) ∧ Hid (RowZ Z w' a' (relT μ ν ρ l (x / b)) (.slice (some ⟨g2, 0, none⟩) (nw a') (nw a')) ∧ LC μ ν ρ F Z w' ∧ Fr (InF F) w2 w')) := fun w2 hl2 hf2 => (CL.out w2 (HFW1.out.trans hf2) hl2).mono (fun e w' ⟨v, h1, h2, h3, h4⟩ => by
    obtain ⟨g1, ws1, rfl, k1, k2, k3⟩ := h2
    exact ⟨g1, h1, ⟨g1, ws1, rfl, k1, k2, k3⟩, h3, h4⟩)
  have SS : Hid (∀ w', Fr (InF F) w1 w' → w'.cell? ⟨p, 3, none⟩ = some (Ptr p2) ∧ w'.cell? ⟨G, 0, none⟩ = some (.int .i64 ((x % b : Nat) : Int)) ∧ w'.cell? ⟨p, 2, none⟩ = some (Ptr p1) ∧ w'.cell? ⟨G, 1, none⟩ = some (.int .i64 ((x / b : Nat) : Int))) := fun w' hf => by
    obtain ⟨h1, h2⟩ := CP.out w' (HFW1.out.trans hf)
    obtain ⟨h3, h4⟩ := DG.out w' hf
    exact ⟨h1, h3, h2, h4⟩
  obtain ⟨u0, u1, u2, u3⟩ := SS.out w1 (Fr.refl _ _)
  have FIN : Hid (∀ (w2 w3 : World) (v1 v2 : Value), (RowZ Z w2 b' (relT μ ν ρ r (x % b)) v1 ∧ LC μ ν ρ F Z w2 ∧ Fr (InF F) w1 w2) → (RowZ Z w3 a' (relT μ ν ρ l (x / b)) v2 ∧ LC μ ν ρ F Z w3 ∧ Fr (InF F) w2 w3) → RdP μ ν ρ F Z (pairD μ ν ρ l r a' b' b x) (fun j => if j = 0 then b' else a') w (.returned (.slice (some ⟨w3.heap.size, 0, none⟩) 2 2)) (w3.alloc (.cells #[v1, v2] 60))) := by
    rintro w2 w3 v1 v2 ⟨r1, l1, f1⟩ ⟨r2, l2, f2⟩
    have r1' := r1.keepF l1 f2
    have hfa : Fr No w3 (w3.alloc (.cells #[v1, v2] 60)) := (Fr.refl No w3).alloc _
    refine ⟨w3.heap.size, rfl, ⟨#[v1, v2], Blk.new _ _ _, rfl, fun j D hD => ?_⟩, l2.no hfa, ((HFW1.out.trans f1).trans f2).trans (hfa.mono (fun _ _ h => h.elim))⟩
    match j, hD with
    | 0, hD =>
      injection hD with hD; subst hD
      exact ⟨v1, rfl, ((r1'.fr hfa (Far.no F Z w3)).row).congr (fun y hy => by simp [hy])⟩
    | 1, hD =>
      injection hD with hD; subst hD
      exact ⟨v2, rfl, ((r2.fr hfa (Far.no F Z w3)).row).congr (fun y hy => by simp [hy])⟩
  clear CR CL CP DG k0 hsl t0 t1 hG0 hL1 hfd hdiv hmod
  generalize x % b = q0 at *
  generalize x / b = q1 at *
  go_wp2_with fail
  clear y0 y1
  go_region_held3 (fun w' => w'.cell? ⟨p, 3, none⟩ = some (Ptr p2) ∧ w'.cell? ⟨G, 0, none⟩ = some (.int .i64 (q0 : Int)) ∧ w'.cell? ⟨p, 2, none⟩ = some (Ptr p1) ∧ w'.cell? ⟨G, 1, none⟩ = some (.int .i64 (q1 : Int))) (go_keep)
    (first | (go_at_call 26; ((with_reducible refine CR1.out.mono ?_); rintro e w2 ⟨v1, rfl, HR1⟩; obtain ⟨g0, g1, g2, g3⟩ := SS.out w2 HR1.out.2.2)) | (go_at_call 26; ((with_reducible refine (CL1.out w2 HR1.out.2.1 HR1.out.2.2).mono ?_); rintro e w3 ⟨v2, rfl, HR2⟩; obtain ⟨j0, j1, j2, j3⟩ := SS.out w3 (HR1.out.2.2.trans HR2.out.2.2); have jl0 := block_lt j0; have jl1 := block_lt j1)))
  go_wp2_with fail
  go_ret
  exact FIN.out _ _ _ _ HR1.out HR2.out
end
end Go.Proofs.YtloecimlimoanaaGreatDoor

/- The related digits of an element: of functions. -/
namespace Go.Proofs.YtloecimlimoanaaGreatDoor
open Go.RowKit Go.ChangeMaps Go.Shelf

attribute [local go_sem] Oper.semAt_some

theorem WV_not {ws : List Nat} {i : Nat} {n : Int} (h : (WV ws)[i]? = some (.int .i64 n)) : False := by
  unfold WV at h
  rw [List.getElem?_toArray, List.getElem?_map] at h
  cases hq : ws[i]? with
  | none => rw [hq] at h; cases h
  | some y => rw [hq] at h; injection h with h; injection h with h; cases h

theorem RowsTo.row {w w' : World} {Rb l r B : Nat} {gs : Nat → Nat} {R : Nat → Nat → Bool} {P : Nat → Bool} (h2 : RowsTo w Rb l r l B gs R) {i : Nat} (hi : i < l) (ha : AddP (gs i) r P w w') : RowsTo w' Rb l r l B gs (fun i' j => if i' = i then P j else R i' j) := by
  obtain ⟨hf, ws, hw, hbits⟩ := ha
  obtain ⟨_, ws0, hw0, _⟩ := h2.each i hi
  have n2 : ¬ One (gs i) Rb := fun e => by
    have e : Rb = gs i := e
    subst e
    exact absurd (h2.rows.eq hw0).1 (by decide)
  refine ⟨h2.rows.fr hf n2, h2.low, fun i' hi' => ?_, h2.inj⟩
  obtain ⟨h3, ws', h4, h5⟩ := h2.each i' hi'
  by_cases e : i' = i
  · subst e
    exact ⟨h3, ws, hw, hbits.congr (fun j _ => by simp)⟩
  · exact ⟨h3, ws', h4.fr hf (fun h => e (h2.inj i' i hi' hi h)), h5.congr (fun j _ => by simp [e])⟩

theorem RowsTo.congr {w : World} {Rb l r j B : Nat} {gs : Nat → Nat} {R Q : Nat → Nat → Bool} (h : RowsTo w Rb l r j B gs R) (hq : ∀ i, i < j → ∀ k, k < r → R i k = Q i k) : RowsTo w Rb l r j B gs Q :=
  ⟨h.rows, h.low, fun i hi => by
    obtain ⟨h3, ws, h4, h5⟩ := h.each i hi
    exact ⟨h3, ws, h4, h5.congr (hq i hi)⟩, h.inj⟩

/-- kept by what changes objects that are no cells of theirs -/
theorem RowsTo.frO {w w' : World} {Rb l r j B : Nat} {gs : Nat → Nat} {R : Nat → Nat → Bool} {T : Nat → Prop} (h : RowsTo w Rb l r j B gs R) (hf : Fr T w w') (hR : ¬ T Rb) (hg : ∀ i, i < j → ¬ T (gs i)) : RowsTo w' Rb l r j B gs R :=
  ⟨h.rows.fr hf hR, h.low, fun i hi => by
    obtain ⟨h3, ws, h4, h5⟩ := h.each i hi
    exact ⟨h3, ws, h4.fr hf (hg i hi), h5⟩, h.inj⟩

/-- a slice is made, in a fence -/
theorem wpListIn_make_full {F : Fence} {n : Nat} {P : Program} (w : World) {ops : Array Oper} {rest : List Oper} {o : Oper} {a : Act} {Q : Exit → Act → World → Prop}
    (hg : o.guard = none) (l c : Operand) (t : TypeId) (hop : o.op = Op.makeSlice t l c)
    (base : Nat) (e : TypeId) (i : TypeInfo) (z : Value) (size : Nat) (h1 : P.underlying t = some (.slice e)) (h2 : P.info? e = some i) (h3 : i.zero = some z) (h4 : i.size = size)
    (kl kc : IntKind) (L C : Int) (m : Nat) (hl : a.eval l = .int kl L) (hc : a.eval c = .int kc C) (hL : L = (m : Int)) (hC : C = (m : Int)) (b2 : i.bytes * m ≤ 281474976710656) (b3 : m ≤ maxLen) (b4 : base ≤ w.heap.size)
    (hK : ∀ w', w'.ownsRow base e size (.slice (some ⟨w.heap.size, 0, none⟩) m m) m (madeCells z.cells (m * size)).toList → w.grownBy w' none → wpListIn F n P ops Q rest (a.put o.dst (.slice (some ⟨w.heap.size, 0, none⟩) m m)) w') :
    wpListIn F n P ops Q (o :: rest) a w := by
  refine wpListIn_plain hg fun K hK' => ?_
  obtain ⟨w', hrun, r1, r2⟩ := run_make_full (P := P) w base t e i z size h1 h2 h3 h4 kl kc m b2 b3 b4
  subst hL
  subst hC
  unfold Oper.wpIn
  refine ⟨?_, ?_⟩
  · simp [Oper.about, hop]
  · rw [Oper.semAt_plain F _ _ (by rw [hop]; intro c hc'; cases hc')]
    simp [execOp, hop, hl, hc, hrun, Result.andThen]
    exact hK' _ _ (hK w' r1 r2)

section
variable (μ ν : Nat → Option Nat) (ρ : Nat → Nat → Nat → Bool)

/-- the sets of the digits of functions -/
def funD (l r : Ty) (a a' b' x : Nat) : List (Nat → Bool) := (List.range a').map fun j d => decide (d < b') && digF μ ν ρ l r x j a d

/-- ahead of a digit -/
structure YI (F : Cach) (Z : Nat → Prop) (w V : World) (N1 : Nat) (l r : Ty) (a' b' x bx Rb : Nat) (gs : Nat → Nat) (i : Nat) (Ds : List Nat) (W : World) : Prop where
  fr : Fr (fun k => InF F k ∨ ∃ j, j < a' ∧ k = gs j) V W
  lc : LC μ ν ρ F Z W
  bx : Blk W bx 55 #[.slice (some ⟨Rb, 0, none⟩) a' a']
  rows : RowsTo W Rb a' b' a' w.heap.size gs (fun j d => digF μ ν ρ l r x j i d)
  nd : Ds.Nodup
  ds : ∀ D, D ∈ Ds → N1 ≤ D ∧ W.heap[D]? = some (.deferred (some []))
  sz : N1 ≤ W.heap.size

/-- between two numbers that a digit's number is related to -/
structure YK (F : Cach) (Z : Nat → Prop) (w V : World) (l r : Ty) (a' b' x bx Rb : Nat) (gs : Nat → Nat) (i : Nat) (Ds : List Nat) (D bt g2 : Nat) (rec : LoopState → Option Code → Loop) (q : Nat) (pre : List Nat) (W : World) : Prop where
  fr : Fr (fun k => InF F k ∨ ∃ j, j < a' ∧ k = gs j) V W
  lc : LC μ ν ρ F Z W
  bx : Blk W bx 55 #[.slice (some ⟨Rb, 0, none⟩) a' a']
  rows : RowsTo W Rb a' b' a' w.heap.size gs (fun j d => digF μ ν ρ l r x j i d && (!pre.contains j || relT μ ν ρ r q d))
  bt : Blk W bt 60 #[.slice (some ⟨g2, 0, none⟩) (nw b') (nw b')]
  set : ∃ ws : List Nat, Blk W g2 63 (WV ws) ∧ BitsIs ws b' (relT μ ν ρ r q)
  lp : W.heap[D + 1]? = some (.loop (rec .ready none))
  df : W.heap[D]? = some (.deferred (some []))
  ds : ∀ D', D' ∈ Ds → W.heap[D']? = some (.deferred (some []))
  sz : D + 2 ≤ W.heap.size
end

section
variable {μ ν : Nat → Option Nat} {ρ : Nat → Nat → Nat → Bool}

set_option maxRecDepth 100000 in
set_option maxHeartbeats 8000000 in
theorem rd_fun (hμ : Sizes μ) (hν : Sizes ν) (F : Cach) (l r : Ty) (hl : RowSaid μ ν ρ F l) (hr : RowSaid μ ν ρ F r) (Z : Nat → Prop) (w : World) (p x a b c a' b' : Nat) (hZ : ∀ g, Z g → g < w.heap.size) (hL : LC μ ν ρ F Z w) (hT : LtAt μ ν ρ F Z w (.n true l r) p)
    (ha : l.cnt μ = some a) (hb : r.cnt μ = some b) (hc : (Ty.n true l r).cnt μ = some c) (ha' : l.cnt ν = some a') (hb' : r.cnt ν = some b') (hx : x < c) :
    Calls Tryz.prog 50 #[Ptr p, .int .i64 x] w fun e w' => RdP μ ν ρ F Z (funD μ ν ρ l r a a' b' x) (fun _ => b') w e w' := by
  obtain ⟨gl, gr, p1, p2, R, a0, b0, c0, a0', b0', c0', h1, h2, h3, h4, h5, h6, h7, h8, h9, h10, h11, h12⟩ := hT
  rw [ha] at h1; injection h1 with h1; subst h1
  rw [hb] at h2; injection h2 with h2; subst h2
  rw [hc] at h3; injection h3 with h3; subst h3
  rw [ha'] at h4; injection h4 with h4; subst h4
  rw [hb'] at h5; injection h5 with h5; subst h5
  have hcab : c = b ^ a ∧ c ≤ 4096 := by
    obtain ⟨a1, b1, e1, e2, e3, e4⟩ := Ty.cnt_n hc
    rw [ha] at e1; injection e1 with e1; subst e1
    rw [hb] at e2; injection e2 with e2; subst e2
    exact ⟨e3, e4⟩
  have hab := l.cnt_bounds hμ a ha
  have hbb := r.cnt_bounds hμ b hb
  have hab' := l.cnt_bounds hν a' ha'
  have hbb' := r.cnt_bounds hν b' hb'
  obtain ⟨am, ham⟩ : ∃ am, a = am + 1 := ⟨a - 1, by omega⟩
  have hxb : x < b ^ (am + 1) := by rw [← ham]; omega
  have DIG := Lib.hid (digits_fun w gl am b c x hbb.1 hbb.2 (by omega) (by omega) (by rw [← ham]; exact h8))
  obtain ⟨gll, glr, sz, s1, z1, q1, q2, s2, z2, q3, q4, k1, _, _⟩ := h8
  obtain ⟨grl, grr, sz', s1', z1', q1', q2', s2', z2', q3', q4', m1, m2, m3⟩ := h9
  have CP : Hid (∀ w', Fr (InF F) w w' → w'.cell? ⟨p, 0, none⟩ = some (Ptr gl) ∧ w'.cell? ⟨p, 1, none⟩ = some (Ptr gr) ∧ w'.cell? ⟨p, 2, none⟩ = some (Ptr p1) ∧ w'.cell? ⟨p, 3, none⟩ = some (Ptr p2) ∧ w'.cell? ⟨gl, 0, none⟩ = some (S [62]) ∧
      w'.cell? ⟨gr, 3, none⟩ = some (Ptr grl) ∧ w'.cell? ⟨gr, 4, none⟩ = some (Ptr grr) ∧ w'.cell? ⟨grl, 2, none⟩ = some (.int .i64 a') ∧ w'.cell? ⟨grr, 2, none⟩ = some (.int .i64 b')) := fun w' hf => by
    have far : ∀ {g ty cs}, Blk w g ty cs → ty ≠ 60 → ty ≠ 63 → Blk w' g ty cs := fun hb h1 h2 => hb.fr hf (hL.far _ _ _ hb (.inl h1) (fun h => absurd h h2))
    have e7 := far h7 (by decide) (by decide)
    have e1 := far k1 (by decide) (by decide)
    have f1 := far m1 (by decide) (by decide)
    have f2 := far m2 (by decide) (by decide)
    have f3 := far m3 (by decide) (by decide)
    exact ⟨(e7.cell 0).trans rfl, (e7.cell 1).trans rfl, (e7.cell 2).trans rfl, (e7.cell 3).trans rfl, (e1.cell 0).trans rfl, (f1.cell 3).trans rfl, (f1.cell 4).trans rfl, (f2.cell 2).trans rfl, (f3.cell 2).trans rfl⟩
  have LOW : Hid (p < w.heap.size ∧ gl < w.heap.size ∧ gr < w.heap.size ∧ grl < w.heap.size ∧ grr < w.heap.size) := ⟨h7.lt, k1.lt, m1.lt, m2.lt, m3.lt⟩
  have HL := Lib.hid hL
  have H11 := Lib.hid h11
  have H12 := Lib.hid h12
  have HRL := Lib.hid hl
  have HTZ : Hid (0 < w.heap.size) := hL.tz.1
  have HOLD : Hid (∀ g, InF F g → g < w.heap.size) := fun g hg => hL.old hg
  have HRR := Lib.hid hr
  have HZ := Lib.hid hZ
  have HDV : Hid (∀ q, x / b ^ q % b < b) := fun q => Nat.mod_lt _ (by omega)
  have HA := Lib.hid ha
  have HB := Lib.hid hb
  have HA' := Lib.hid ha'
  have HB' := Lib.hid hb'
  have HBN : Hid (r.cn μ = b) := by show _ = _; unfold Ty.cn; rw [hb]; rfl
  clear h7 k1 m1 m2 m3 h10 h11 h12 hL hl hr hZ ha hb hc ha' hb' h6
  have HAM := Lib.hid ham
  have HXB := Lib.hid hxb
  have haI : (a : Int) ≤ 4096 := by omega
  have haI' : (a' : Int) ≤ 4096 := by omega
  have hbI' : (b' : Int) ≤ 4096 := by omega
  have haI1 : (1 : Int) ≤ (a' : Int) := by omega
  obtain ⟨i0, hi0, hz0, hz1, hz2⟩ := info_parts info_bits
  have bnd : i0.bytes * a' ≤ 281474976710656 := by rw [hz2]; omega
  have bnd2 : a' ≤ maxLen := by unfold maxLen; omega
  have HBD := Lib.hid bnd
  obtain ⟨u0, u1, u2, u3, u4, u5, u6, u7, u8⟩ := CP.out w (Fr.refl _ _)
  clear bnd ham hxb hcab hx
  refine (callsIn_wide (n := 9)).1 ?_
  refine callsIn_of_wp_marks Tryz.func50 rfl trivial ?_ rfl
  simp only [Tryz.ntmps50, List.size_toArray, List.length_cons, List.length_nil, Nat.reduceAdd, Nat.reduceSub, Array.replicate_succ, Array.replicate_zero, List.push_toArray, List.append_toArray, List.nil_append, List.cons_append]
  gi_wp2_with fail
  refine ⟨trivial, (callsIn_wide.2 DIG.out).mono ?_⟩
  rintro e w1 ⟨G, rfl, hf1, hsl⟩
  rw [← HAM.out]
  have hf1' : Fr (InF F) w w1 := hf1.mono (fun _ _ h => h.elim)
  have HF1 := Lib.hid hf1
  have HSL : Hid (∀ q, q < a → w1.cell? ⟨G, q, none⟩ = some (.int .i64 ((x / b ^ q % b : Nat) : Int))) := fun q hq => by
    have := HAM.out
    obtain ⟨g, o, e, hc⟩ := hsl q _ (digL_at (by omega) HXB.out)
    injection e with e; injection e with e1 e2; subst e1 e2
    simpa using hc
  obtain ⟨u0, u1, u2, u3, u4, u5, u6, u7, u8⟩ := CP.out w1 hf1'
  clear hsl DIG hf1 hf1'
  gi_wp2_with (gi_at_make; refine wpListIn_make_full _ rfl _ _ 55 rfl w1.heap.size 60 i0 (.slice none 0 0) 1 Tryz.underlying55 hi0 hz0 hz1 .i64 .i64 a' a' a' rfl rfl rfl rfl HBD.out bnd2 (Nat.le_refl _) ?_; intro w2 hown hgrow)
  have hb2 : Blk w2 w1.heap.size 60 (RA (fun _ => 0) a' b' 0) := by
    have h := Blk.of_own hown
    rw [Nat.mul_one, RA_zero (fun _ => 0) a' b'] at h
    exact h
  have hf2 : Fr No w1 w2 := (Fr.refl No w1).grown hgrow (fun k hk => by cases hk)
  obtain ⟨Rb, hRb⟩ : ∃ Rb, Rb = w1.heap.size := ⟨_, rfl⟩
  rw [← hRb] at hb2 ⊢
  have hbx : Blk (w2.alloc (.cells #[.slice (some ⟨Rb, 0, none⟩) a' a'] 55)) w2.heap.size 55 #[.slice (some ⟨Rb, 0, none⟩) a' a'] := Blk.new _ _ _
  have hf3 : Fr No w1 (w2.alloc (.cells #[.slice (some ⟨Rb, 0, none⟩) a' a'] 55)) := hf2.alloc _
  have hb3 := hb2.alloc (.cells #[.slice (some ⟨Rb, 0, none⟩) a' a'] 55)
  have HS : Hid (w.heap.size ≤ Rb ∧ Rb < w2.heap.size ∧ w1.heap.size ≤ Rb) := ⟨by rw [hRb]; exact HF1.out.size, hb2.lt, by rw [hRb]; exact Nat.le_refl _⟩
  generalize (w2.alloc (.cells #[.slice (some ⟨Rb, 0, none⟩) a' a'] 55)) = w3 at hbx hf3 hb3 ⊢
  generalize w2.heap.size = bx at *
  have HF3' := Lib.hid hf3
  have HBX := Lib.hid hbx
  have HB3 := Lib.hid hb3
  have c6 : w3.cell? ⟨bx, 0, none⟩ = some (.slice (some ⟨Rb, 0, none⟩) a' a') := (hbx.cell 0).trans rfl
  have FULL : Hid (∀ W, Calls Tryz.prog 75 #[.int .i64 b'] W fun e w' => NewBits b' (fun _ => true) W e w') := fun W => fullBitSet_any W b' hbb'.1 (by omega)
  clear hbx hf3 hb3 hb2 hf2 hown hgrow hRb u0 u1 u2 u3 u4 u5 u6 u7 u8
  gi_wp2_with fail
  gi_loopg [56] a' (fun gk u W => ∃ (j : Nat) (gs : Nat → Nat), j + gk = a' ∧ u = .int .i64 j ∧ Fr No w1 W ∧ Blk W bx 55 #[.slice (some ⟨Rb, 0, none⟩) a' a'] ∧ RowsTo W Rb a' b' j w.heap.size gs (fun _ _ => true))
  case atStart => exact ⟨0, _, by omega, rfl, HF3'.out, HBX.out, HB3.out, HS.out.1, fun i hi => by omega, fun i i' hi => by omega⟩
  case round =>
    obtain ⟨j, gs, hj, rfl, hfr, hbx, hrows⟩ := hrel
    by_cases hlt : j < a'
    · have hfw : Fr No w wr := HF1.out.trans hfr
      have CELL : Hid (∀ w', Fr No wr w' → w'.cell? ⟨bx, 0, none⟩ = some (.slice (some ⟨Rb, 0, none⟩) a' a') ∧ w'.cell? ⟨p, 1, none⟩ = some (Ptr gr) ∧ w'.cell? ⟨gr, 4, none⟩ = some (Ptr grr) ∧ w'.cell? ⟨grr, 2, none⟩ = some (.int .i64 b') ∧ w'.cell? ⟨Rb, j, none⟩ = some (.slice none 0 0) ∧ w'.frozen? ⟨Rb, j, none⟩ = false ∧ Rb < w'.heap.size) := fun w' hf => by
        obtain ⟨_, k1, _, _, _, _, k6, _, k8⟩ := CP.out w' ((hfw.trans hf).mono (fun _ _ h => h.elim))
        exact ⟨((hbx.fr hf (fun h => h)).cell 0).trans rfl, k1, k6, k8, by rw [(hrows.rows.fr hf (fun h => h)).cell j, RA_at hlt, if_neg (Nat.lt_irrefl j)], (hrows.rows.fr hf (fun h => h)).frozen j, (hrows.rows.fr hf (fun h => h)).lt⟩
      have hbxR : bx ≠ Rb := fun e => by rw [e] at hbx; exact absurd (hbx.eq hrows.rows).1 (by decide)
      have FIN : Hid (∀ (g : Nat) (w' : World), NewBits b' (fun _ => true) wr.drew (.returned (.slice (some ⟨g, 0, none⟩) (nw b') (nw b'))) w' → Fr No w1 (w'.setCell ⟨Rb, j, none⟩ (.slice (some ⟨g, 0, none⟩) (nw b') (nw b'))) ∧ Blk (w'.setCell ⟨Rb, j, none⟩ (.slice (some ⟨g, 0, none⟩) (nw b') (nw b'))) bx 55 #[.slice (some ⟨Rb, 0, none⟩) a' a'] ∧ ∃ gs', RowsTo (w'.setCell ⟨Rb, j, none⟩ (.slice (some ⟨g, 0, none⟩) (nw b') (nw b'))) Rb a' b' (j + 1) w.heap.size gs' (fun _ _ => true)) := by
        rintro g w' ⟨g', ws, e, hg, hf, hb, hbi⟩
        injection e with e; injection e with e1; injection e1 with e1; injection e1 with e1; subst e1
        have hf' : Fr No wr w' := (Fr.refl No wr).drew.trans hf
        exact ⟨(hfr.trans hf').setCell (p := ⟨Rb, j, none⟩) (.inr HS.out.2.2) _, (hbx.fr hf' (fun h => h)).far (p := ⟨Rb, j, none⟩) hbxR _, _, hrows.more hlt hf' hg hfw.size hb hbi rfl⟩
      obtain ⟨d0, d1, d2, d3, d4, d5, d6⟩ := CELL.out wr (Fr.refl _ _)
      have hbxR' : Rb ≠ bx := fun e => hbxR e.symm
      obtain ⟨⟨np, npR⟩, ⟨ngr, ngrR⟩, ngrr, ngrrR⟩ : (p ≠ Rb ∧ Rb ≠ p) ∧ (gr ≠ Rb ∧ Rb ≠ gr) ∧ (grr ≠ Rb ∧ Rb ≠ grr) := by have := LOW.out; have := HS.out; refine ⟨⟨?_, ?_⟩, ⟨?_, ?_⟩, ⟨?_, ?_⟩⟩ <;> omega
      have hjI : (j : Int) < (a' : Int) := by omega
      have hdr : Fr No wr wr.drew := (Fr.refl No wr).drew
      have HDR := Lib.hid hdr
      clear hfr hbx hrows hfw c6 hdr
      gi_wp2_with fail
      refine wpIn_wide.2 ?_
      go_region_held3 (fun w' => w'.cell? ⟨bx, 0, none⟩ = some (.slice (some ⟨Rb, 0, none⟩) a' a') ∧ w'.cell? ⟨p, 1, none⟩ = some (Ptr gr) ∧ w'.cell? ⟨gr, 4, none⟩ = some (Ptr grr) ∧ w'.cell? ⟨grr, 2, none⟩ = some (.int .i64 b')) (go_keep)
        (first | (go_at_call 75; ((with_reducible refine (FULL.out _).mono ?_); rintro e w4 ⟨g, ws, rfl, hg, hf, hb, hbi⟩; have HN := Lib.hid (FIN.out g w4 ⟨g, ws, rfl, hg, hf, hb, hbi⟩); obtain ⟨e0, e1, e2, e3, e4, e5, e6⟩ := CELL.out w4 (HDR.out.trans hf); clear hg hf hb hbi)))
      clear FIN CELL
      gi_wp2_with fail
      go_roundg (a' - (j + 1))
      case measure => omega
      case rel =>
        obtain ⟨f1, f2, gs', f3⟩ := HN.out
        exact ⟨j + 1, gs', by omega, by go_num, f1, f2, f3⟩
    · have hjl : j = a' := by omega
      rw [hjl] at hrows
      have hnlt : ¬ (j : Int) < (a' : Int) := by omega
      have hfw : Fr No w wr := HF1.out.trans hfr
      obtain ⟨N1, hN1⟩ : ∃ N1, N1 = wr.heap.size := ⟨_, rfl⟩
      have HZ1 : Hid (∀ g, (Z g ∨ (w.heap.size ≤ g ∧ g < N1)) → g < N1) := fun g hg => by
        rcases hg with h | h
        · have := HZ.out g h; have := hfw.size; omega
        · exact h.2
      have lessZ : ∀ g, g < w.heap.size → (Z g ∨ (w.heap.size ≤ g ∧ g < N1)) → Z g := fun g hg h => by
        rcases h with h | h
        · exact h
        · omega
      have HL1 := (HL.out.less lessZ).no hfw
      have HT1 := Lib.hid ((H11.out.less lessZ).fr hfw (Far.no F _ w))
      have HT2 := Lib.hid ((H12.out.less lessZ).fr hfw (Far.no F _ w))
      have HGS : Hid (∀ k, k < a' → w.heap.size ≤ gs k ∧ gs k < N1) := fun k hk => by
        obtain ⟨h1, ws, h2, _⟩ := hrows.each k hk
        exact ⟨h1, by rw [hN1]; exact h2.lt⟩
      have Y0 : Hid (YI μ ν ρ F (fun g => Z g ∨ (w.heap.size ≤ g ∧ g < N1)) w wr N1 l r a' b' x bx Rb gs 0 [] wr) := ⟨Fr.refl _ _, HL1, hbx, hrows.congr (fun i _ k _ => by rw [digF_zero]), by simp, fun D h => (by cases h), by rw [hN1]; exact Nat.le_refl _⟩
      have HDG : Hid (∀ W, Fr (fun k => InF F k ∨ ∃ j, j < a' ∧ k = gs j) wr W → ∀ q, q < a → W.cell? ⟨G, q, none⟩ = some (.int .i64 ((x / b ^ q % b : Nat) : Int))) := fun W hf q hq => by
        have h1 := (hfr.cell (p := ⟨G, q, none⟩) (block_lt (HSL.out q hq)) (fun h => h)).trans (HSL.out q hq)
        refine (hf.cell (p := ⟨G, q, none⟩) (block_lt h1) ?_).trans h1
        rintro (h | ⟨k, hk, e⟩)
        · exact HL1.not_int h1 h
        · have e : G = gs k := e
          subst e
          obtain ⟨_, ws, h2, _⟩ := hrows.each k hk
          rw [h2.cell] at h1
          exact WV_not h1
      have HFV : Hid (∀ W, Fr (fun k => InF F k ∨ ∃ j, j < a' ∧ k = gs j) wr W → Fr (InF F) w W) := fun W hf => (hfw.mono (fun _ _ h => h.elim)).then_ hf (fun k hk h => by
        rcases h with h | ⟨j, hj, rfl⟩
        · exact h
        · have := (hrows.each j hj).1; omega)
      have FAR : Hid (Far F (fun g => Z g ∨ (w.heap.size ≤ g ∧ g < N1)) (fun k => InF F k ∨ ∃ j, j < a' ∧ k = gs j) wr) := by
        rintro g ty cs hb hty hz (h | ⟨k, hk, rfl⟩)
        · exact HL1.far g ty cs hb hty hz h
        · obtain ⟨_, ws, h2, _⟩ := hrows.each k hk
          exact hz (hb.eq h2).1 (.inr (HGS.out k hk))
      have HRB : Hid (Rb < N1 ∧ w.heap.size ≤ Rb) := ⟨by rw [hN1]; exact hrows.rows.lt, hrows.low⟩
      have HFWR := Lib.hid hfw
      have HN1 := Lib.hid hN1
      clear hfr hbx hrows hfw HL1 lessZ hN1 c6 FULL HSL HF1 HF3' HBX HB3 HL H11 H12 hjl
      gi_wp2_with fail
      refine wpIn_loop_ghost_k (fun gk a'' w' => ∃ (i : Nat) (Ds : List Nat), i + gk = a ∧ YI μ ν ρ F (fun g => Z g ∨ (w.heap.size ≤ g ∧ g < N1)) w wr N1 l r a' b' x bx Rb gs i Ds w' ∧ a'' = { tmps := #[Ptr p, .int .i64 x, a''.tmps.getD 2 undef, a''.tmps.getD 3 undef, .slice none 0 0, .slice (some ⟨G, 0, none⟩) a a, Ptr bx, a''.tmps.getD 7 undef, a''.tmps.getD 8 undef, a''.tmps.getD 9 undef, a''.tmps.getD 10 undef, a''.tmps.getD 11 undef, a''.tmps.getD 12 undef, a''.tmps.getD 13 undef, a''.tmps.getD 14 undef, a''.tmps.getD 15 undef, a''.tmps.getD 16 undef, a''.tmps.getD 17 undef, a''.tmps.getD 18 undef, a''.tmps.getD 19 undef, a''.tmps.getD 20 undef, a''.tmps.getD 21 undef, a''.tmps.getD 22 undef, a''.tmps.getD 23 undef, a''.tmps.getD 24 undef, a''.tmps.getD 25 undef, a''.tmps.getD 26 undef, a''.tmps.getD 27 undef, a''.tmps.getD 28 undef, a''.tmps.getD 29 undef, a''.tmps.getD 30 undef, a''.tmps.getD 31 undef, a''.tmps.getD 32 undef, a''.tmps.getD 33 undef, a''.tmps.getD 34 undef, a''.tmps.getD 35 undef, a''.tmps.getD 36 undef, a''.tmps.getD 37 undef, a''.tmps.getD 38 undef, a''.tmps.getD 39 undef, a''.tmps.getD 40 undef, a''.tmps.getD 41 undef, a''.tmps.getD 42 undef, a''.tmps.getD 43 undef, a''.tmps.getD 44 undef, a''.tmps.getD 45 undef, a''.tmps.getD 46 undef, a''.tmps.getD 47 undef, a''.tmps.getD 48 undef, a''.tmps.getD 49 undef, a''.tmps.getD 50 undef, a''.tmps.getD 51 undef, a''.tmps.getD 52 undef, a''.tmps.getD 53 undef, a''.tmps.getD 54 undef, a''.tmps.getD 55 undef, a''.tmps.getD 56 undef, a''.tmps.getD 57 undef, a''.tmps.getD 58 undef, a''.tmps.getD 59 undef, a''.tmps.getD 60 undef, a''.tmps.getD 61 undef, a''.tmps.getD 62 undef, a''.tmps.getD 63 undef, a''.tmps.getD 64 undef, a''.tmps.getD 65 undef, a''.tmps.getD 66 undef, a''.tmps.getD 67 undef, a''.tmps.getD 68 undef, a''.tmps.getD 69 undef, a''.tmps.getD 70 undef, a''.tmps.getD 71 undef, a''.tmps.getD 72 undef, a''.tmps.getD 73 undef, .slice (some ⟨G, 0, none⟩) a a, .int .i64 a, .int .i64 i, a''.tmps.getD 77 undef, a''.tmps.getD 78 undef, a''.tmps.getD 79 undef, a''.tmps.getD 80 undef, a''.tmps.getD 81 undef, a''.tmps.getD 82 undef, a''.tmps.getD 83 undef, a''.tmps.getD 84 undef, a''.tmps.getD 85 undef, a''.tmps.getD 86 undef, a''.tmps.getD 87 undef, a''.tmps.getD 88 undef, a''.tmps.getD 89 undef, a''.tmps.getD 90 undef, a''.tmps.getD 91 undef, a''.tmps.getD 92 undef, a''.tmps.getD 93 undef, a''.tmps.getD 94 undef, a''.tmps.getD 95 undef, a''.tmps.getD 96 undef, a''.tmps.getD 97 undef, a''.tmps.getD 98 undef, a''.tmps.getD 99 undef, a''.tmps.getD 100 undef, a''.tmps.getD 101 undef, a''.tmps.getD 102 undef], defers := marksD Ds }) a ?start ?round
      case start => exact ⟨0, [], by omega, Y0.out, rfl⟩
      case round =>
        intro gk A X hinv J K hJ hK
        obtain ⟨i, Ds, hgk, hyi, hA⟩ := hinv
        obtain ⟨qq, hA⟩ : ∃ qq : Nat → Value, A = { tmps := #[Ptr p, .int .i64 x, qq 2, qq 3, .slice none 0 0, .slice (some ⟨G, 0, none⟩) a a, Ptr bx, qq 7, qq 8, qq 9, qq 10, qq 11, qq 12, qq 13, qq 14, qq 15, qq 16, qq 17, qq 18, qq 19, qq 20, qq 21, qq 22, qq 23, qq 24, qq 25, qq 26, qq 27, qq 28, qq 29, qq 30, qq 31, qq 32, qq 33, qq 34, qq 35, qq 36, qq 37, qq 38, qq 39, qq 40, qq 41, qq 42, qq 43, qq 44, qq 45, qq 46, qq 47, qq 48, qq 49, qq 50, qq 51, qq 52, qq 53, qq 54, qq 55, qq 56, qq 57, qq 58, qq 59, qq 60, qq 61, qq 62, qq 63, qq 64, qq 65, qq 66, qq 67, qq 68, qq 69, qq 70, qq 71, qq 72, qq 73, .slice (some ⟨G, 0, none⟩) a a, .int .i64 a, .int .i64 i, qq 77, qq 78, qq 79, qq 80, qq 81, qq 82, qq 83, qq 84, qq 85, qq 86, qq 87, qq 88, qq 89, qq 90, qq 91, qq 92, qq 93, qq 94, qq 95, qq 96, qq 97, qq 98, qq 99, qq 100, qq 101, qq 102], defers := marksD Ds } := ⟨fun k => A.tmps.getD k undef, hA⟩
        subst hA
        have HY := Lib.hid hyi
        clear hyi Y0
        by_cases hlt : i < a
        · have hiI : (i : Int) < (a : Int) := by omega
          obtain ⟨q, hq⟩ : ∃ q, q = x / b ^ i % b := ⟨_, rfl⟩
          have cG : X.cell? ⟨G, i, none⟩ = some (.int .i64 q) := by rw [hq]; exact HDG.out X HY.out.fr i hlt
          have hqb : q < b := by rw [hq]; exact HDV.out i
          have hfwX := HFV.out X HY.out.fr
          obtain ⟨u0, u1, u2, u3, u4, u5, u6, u7, u8⟩ := CP.out X hfwX
          have CR : Hid (Calls Tryz.prog 26 #[Ptr p2, .int .i64 (q : Int)] X fun e w' => RowP μ ν ρ F (fun g => Z g ∨ (w.heap.size ≤ g ∧ g < N1)) r b' q X e w') :=
            HRR.out _ X p2 q b b' (fun g hg => Nat.lt_of_lt_of_le (HZ1.out g hg) HY.out.sz) HY.out.lc (HT2.out.fr HY.out.fr FAR.out) HB.out HB'.out hqb
          have HQ := Lib.hid hq
          have HBXG : Hid (w.heap.size ≤ bx) := by have := HS.out; show _ ≤ _; omega
          clear hq hqb hfwX
          gi_wp2_with fail
          refine ⟨trivial, (callsIn_wide.2 CR.out).mono ?_⟩
          rintro e W2 ⟨v2, rfl, ⟨g2, ws2, rfl, hb2, hbi2, hnz2⟩, hL2, hf2⟩
          have nIn : ∀ k, w.heap.size ≤ k → ¬ InF F k := fun k hk h => by have := HOLD.out k h; omega
          have NIN := Lib.hid nIn
          have hfT3 : Fr (fun k => InF F k ∨ ∃ j, j < a' ∧ k = gs j) wr (W2.alloc (.cells #[.slice (some ⟨g2, 0, none⟩) (nw b') (nw b')] 60)) := (HY.out.fr.trans (hf2.mono (fun _ _ h => .inl h))).alloc _
          have hfa : Fr No W2 (W2.alloc (.cells #[.slice (some ⟨g2, 0, none⟩) (nw b') (nw b')] 60)) := (Fr.refl No W2).alloc _
          have hbt3 : Blk (W2.alloc (.cells #[.slice (some ⟨g2, 0, none⟩) (nw b') (nw b')] 60)) W2.heap.size 60 #[.slice (some ⟨g2, 0, none⟩) (nw b') (nw b')] := Blk.new _ _ _
          have hb3 := hb2.fr hfa (fun h => h)
          have hL3 := hL2.no hfa
          have hbx3 := (HY.out.bx.fr hf2 (nIn bx HBXG.out)).fr hfa (fun h => h)
          have hrows3 := (HY.out.rows.frO hf2 (nIn Rb HRB.out.2) (fun k hk => nIn _ (HGS.out k hk).1)).frO hfa (fun h => h) (fun _ _ h => h)
          have hds3 : ∀ D, D ∈ Ds → (W2.alloc (.cells #[.slice (some ⟨g2, 0, none⟩) (nw b') (nw b')] 60)).heap[D]? = some (.deferred (some [])) := fun D hD => by
            have h := HY.out.ds D hD
            have hlt := (Array.getElem?_eq_some_iff.1 h.2).1
            exact (hfa.block D (Nat.lt_of_lt_of_le hlt hf2.size) (fun h => h)).trans ((hf2.block D hlt (nIn D (by have := h.1; have := HFWR.out.size; have := HN1.out; omega))).trans h.2)
          have hbtlo : N1 ≤ W2.heap.size := Nat.le_trans HY.out.sz hf2.size
          have hW3 : N1 ≤ (W2.alloc (.cells #[.slice (some ⟨g2, 0, none⟩) (nw b') (nw b')] 60)).heap.size := Nat.le_trans hbtlo hfa.size
          obtain ⟨v0, v1, v2, v3, v4, v5, v6, v7, v8⟩ := CP.out _ (HFV.out _ hfT3)
          clear u0 u1 u2 u3 u4 u5 u6 u7 u8 cG CR
          gi_wp2_with fail
          clear v0 v1 v2 v3 v4 v5 v6 v7 v8
          generalize (W2.alloc (.cells #[.slice (some ⟨g2, 0, none⟩) (nw b') (nw b')] 60)) = W3 at hfT3 hfa hbt3 hb3 hL3 hbx3 hrows3 hds3 hW3 ⊢
          generalize W2.heap.size = bt at *
          have CL : Hid (Calls Tryz.prog 26 #[Ptr p1, .int .i64 (i : Int)] W3 fun e w' => RowP μ ν ρ F (fun g => Z g ∨ (w.heap.size ≤ g ∧ g < N1)) l a' i W3 e w') :=
            HRL.out _ W3 p1 i a a' (fun g hg => Nat.lt_of_lt_of_le (HZ1.out g hg) hW3) hL3 (HT1.out.fr hfT3 FAR.out) HA.out HA'.out hlt
          have HFT3 := Lib.hid hfT3
          have HBT3 := Lib.hid hbt3
          have HB3' := Lib.hid hb3
          have HBX3 := Lib.hid hbx3
          have HR3 := Lib.hid hrows3
          have HD3 := Lib.hid hds3
          have HBI2 := Lib.hid hbi2
          have HL3 := Lib.hid hL3
          have HNZ2 := Lib.hid hnz2
          have HX3 : Hid (X.heap.size ≤ W3.heap.size) := Nat.le_trans hf2.size hfa.size
          have HW3 : Hid (N1 ≤ W3.heap.size ∧ N1 ≤ bt) := ⟨hW3, hbtlo⟩
          clear hfT3 hfa hbt3 hb3 hL3 hbx3 hrows3 hds3 hbi2 hnz2 hb2 hL2 hf2 hbtlo hW3 nIn
          refine ⟨trivial, (callsIn_wide.2 CL.out).mono ?_⟩
          rintro e W4 ⟨v1', rfl, ⟨g1, ws1, rfl, hb1, hbi1, hnz1⟩, hL4, hf4⟩
          have hfT4 : Fr (fun k => InF F k ∨ ∃ j, j < a' ∧ k = gs j) wr W4 := HFT3.out.trans (hf4.mono (fun _ _ h => .inl h))
          have hbt4 := HBT3.out.fr hf4 (NIN.out bt (by have := HW3.out.2; have := HFWR.out.size; have := HN1.out; omega))
          have hb4 : Blk W4 g2 63 (WV ws2) := HB3'.out.fr hf4 (HL3.out.far _ _ _ HB3'.out (.inl (by decide)) (fun _ => HNZ2.out))
          have hbx4 := HBX3.out.fr hf4 (NIN.out bx HBXG.out)
          have hrows4 := HR3.out.frO hf4 (NIN.out Rb HRB.out.2) (fun k hk => NIN.out _ (HGS.out k hk).1)
          have hds4 : ∀ D, D ∈ Ds → W4.heap[D]? = some (.deferred (some [])) := fun D hD => by
            have h := HD3.out D hD
            have hlo := (HY.out.ds D hD).1
            exact (hf4.block D (Array.getElem?_eq_some_iff.1 h).1 (NIN.out D (by have := HFWR.out.size; have := HN1.out; omega))).trans h
          have HBI1 := Lib.hid hbi1
          have HNZ1 := Lib.hid hnz1
          have HB1 := Lib.hid hb1
          have HSX : Hid (X.heap.size ≤ W4.heap.size) := by show _ ≤ _; exact Nat.le_trans HX3.out hf4.size
          have HW4 : Hid (N1 ≤ W4.heap.size ∧ bt < W4.heap.size ∧ N1 ≤ bt) := ⟨Nat.le_trans HW3.out.1 hf4.size, hbt4.lt, HW3.out.2⟩
          clear CL
          gi_wp2_with fail
          refine rf_stmt1 rfl (by decide) (gf := 30) (fa := #[.slice (some ⟨g1, 0, none⟩) (nw a') (nw a')]) rfl trivial (enters_of Tryz.func30 (by kernel_rfl) rfl) ?_
          intro fn D rec hf hD hrec W5 hW5
          have HREC := Lib.hid hrec
          have hD1 : W5.heap.size = D + 2 := by rw [hW5, hD]; simp
          have hf5 : Fr No W4 W5 := by rw [hW5]; exact ((Fr.refl _ _).alloc _).alloc _
          have hl1 : W5.heap[D + 1]? = some (.loop (rec .ready none)) := by
            rw [hW5]
            have := World.alloc_heap_new (W4.alloc (.deferred (some []))) (.loop (rec .ready none))
            rwa [World.size_alloc, ← hD] at this
          have hd1 : W5.heap[D]? = some (.deferred (some [])) := by
            rw [hW5, hD]
            exact (Below.heap_alloc _ _ _ (by simp)).trans (World.alloc_heap_new W4 _)
          have HDW : Hid (N1 ≤ D ∧ bt < D) := by have := HW4.out; exact ⟨by omega, by omega⟩
          clear hrec hW5
          have hT5 : TZt W5 := (hL4.no hf5).tz
          have K0 : YK μ ν ρ F (fun g => Z g ∨ (w.heap.size ≤ g ∧ g < N1)) w wr l r a' b' x bx Rb gs i Ds D bt g2 rec q [] W5 :=
            ⟨hfT4.trans (hf5.mono (fun _ _ h => h.elim)), hL4.no hf5, hbx4.fr hf5 (fun h => h), (hrows4.frO hf5 (fun h => h) (fun _ _ h => h)).congr (fun j _ d _ => by simp), hbt4.fr hf5 (fun h => h), ⟨ws2, hb4.fr hf5 (fun h => h), HBI2.out⟩, hl1, hd1, fun D' hD' => (hf5.block D' (Array.getElem?_eq_some_iff.1 (hds4 D' hD')).1 (fun h => h)).trans (hds4 D' hD'), by omega⟩
          have hb15 := hb1.fr hf5 (fun h => h)
          have HG1D : Hid (g1 ≠ D + 1) := hb15.ne_of hl1 (fun _ h => by cases h)
          refine (numbers_in Fence.wide 8 (fun _ => trivial) rfl (fun _ _ _ _ _ h => callsIn_wide.2 h) (by decide) (D + 1) g1 (fun k => (∃ j, j < a' ∧ k = gs j) ∨ k = D + 1) ws1 a' (YK μ ν ρ F (fun g => Z g ∨ (w.heap.size ≤ g ∧ g < N1)) w wr l r a' b' x bx Rb gs i Ds D bt g2 rec q) ?inner W5 HBI1.out.len (by omega) HBI1.out.lt K0 hb15 hT5 ?nS ?nT).mono ?_
          case nS =>
            rintro (⟨k, hk, e⟩ | h)
            · exact HNZ1.out (.inr (by rw [e]; exact HGS.out k hk))
            · exact HG1D.out h
          case nT =>
            have := HTZ.out
            rintro (⟨k, hk, e⟩ | h)
            · have := (HGS.out k hk).1; omega
            · have := HDW.out; have := HFWR.out.size; have := HN1.out; omega
          case inner =>
            intro pre y V hex hj
            have hy : y < a' ∧ relT μ ν ρ l i y = true := by
              obtain ⟨post, e⟩ := hex
              rw [HBI1.out.list] at e
              exact elems_mem.1 (by rw [← e]; simp)
            have HK := Lib.hid hj
            have HYY := Lib.hid hy
            clear hj hex hf5 hl1 hd1 K0 hb15 hT5 hD hD1 hL4 hf4 hb1 hbi1 hnz1 hfT4 hbt4 hb4 hbx4 hrows4 hds4 hy
            refine rf_round HREC.out hf HK.out.lp rfl ?_
            gi_wp2_with fail
            refine ⟨_, rf_begin HREC.out HK.out.lp, ?_⟩
            have hfp : Fr (fun k => k = D + 1) V (V.putObj (D + 1) (.loop (rec .busy none))) := Fr.putObj _ _
            have hlt2 : D + 1 < V.heap.size := by have := HK.out.sz; omega
            have nb : ∀ {g ty cs}, Blk V g ty cs → ¬ (g = D + 1) := fun hb => hb.ne_of HK.out.lp (fun _ h => by cases h)
            have hbx2 := HK.out.bx.fr hfp (nb HK.out.bx)
            have hbt2 := HK.out.bt.fr hfp (nb HK.out.bt)
            have hrw2 := HK.out.rows.frO hfp (nb HK.out.rows.rows) (fun k hk => by obtain ⟨_, ws, h2, _⟩ := HK.out.rows.each k hk; exact nb h2)
            obtain ⟨wq, hwq0, hbq⟩ := HK.out.set
            have hwq := hwq0.fr hfp (nb hwq0)
            have hL2 : LC μ ν ρ F (fun g => Z g ∨ (w.heap.size ≤ g ∧ g < N1)) (V.putObj (D + 1) (.loop (rec .busy none))) := HK.out.lc.fr hfp (fun g ty cs hb _ _ h => nb hb h) (fun g hg h => by have := HOLD.out g hg; have := HDW.out; have := HFWR.out.size; have := HN1.out; omega) (fun h => by have := HTZ.out; have := HDW.out; have := HFWR.out.size; have := HN1.out; omega)
            have hlp2 : (V.putObj (D + 1) (.loop (rec .busy none))).heap[D + 1]? = some (.loop (rec .busy none)) := World.putObj_heap_same hlt2
            have hdp2 : (V.putObj (D + 1) (.loop (rec .busy none))).heap[D]? = some (.deferred (some [])) := (World.putObj_heap_other (by omega)).trans HK.out.df
            have hdsn : ∀ D', D' ∈ Ds → D' ≠ D + 1 := fun D' hD' e => by have h := HK.out.ds D' hD'; rw [e, HK.out.lp] at h; cases h
            have hds2 : ∀ D', D' ∈ Ds → (V.putObj (D + 1) (.loop (rec .busy none))).heap[D']? = some (.deferred (some [])) := fun D' hD' => (World.putObj_heap_other (hdsn D' hD')).trans (HK.out.ds D' hD')
            have hsz2 : (V.putObj (D + 1) (.loop (rec .busy none))).heap.size = V.heap.size := by simp
            have hfw2 : Fr (fun k => InF F k ∨ ∃ j, j < a' ∧ k = gs j) wr (V.putObj (D + 1) (.loop (rec .busy none))) := HK.out.fr.then_ hfp (fun k hk h => by have h : k = D + 1 := h; have := HDW.out; have := HN1.out; omega)
            generalize (V.putObj (D + 1) (.loop (rec .busy none))) = V2 at hfp hbx2 hbt2 hrw2 hwq hL2 hlp2 hdp2 hds2 hsz2 hfw2 ⊢
            obtain ⟨_, wy, hwy, hby⟩ := hrw2.each y HYY.out.1
            have e1 : V2.cell? ⟨bx, 0, none⟩ = some (.slice (some ⟨Rb, 0, none⟩) a' a') := (hbx2.cell 0).trans rfl
            have e2 : V2.cell? ⟨Rb, y, none⟩ = some (.slice (some ⟨gs y, 0, none⟩) (nw b') (nw b')) := by rw [hrw2.rows.cell, RA_at HYY.out.1, if_pos HYY.out.1]
            have e3 : V2.cell? ⟨bt, 0, none⟩ = some (.slice (some ⟨g2, 0, none⟩) (nw b') (nw b')) := (hbt2.cell 0).trans rfl
            have hne : gs y ≠ g2 := fun e => HNZ2.out (.inr (by rw [← e]; exact HGS.out y HYY.out.1))
            have IN : Hid (Calls Tryz.prog 76 #[.slice (some ⟨gs y, 0, none⟩) (nw b') (nw b'), .slice (some ⟨g2, 0, none⟩) (nw b') (nw b')] V2.drew fun e w' => e = .returned (.tuple #[]) ∧ AddP (gs y) b' (fun d => (digF μ ν ρ l r x y i d && (!pre.contains y || relT μ ν ρ r q d)) && relT μ ν ρ r q d) V2 w') :=
              (intersect_any V2.drew (gs y) g2 wy wq b' _ _ hwy hwq hne hby hbq (by omega)).mono (fun e w' h => ⟨h.1, ((Fr.refl _ V2).drew).trans h.2.1, h.2.2⟩)
            have FIN : Hid (∀ w5, AddP (gs y) b' (fun d => (digF μ ν ρ l r x y i d && (!pre.contains y || relT μ ν ρ r q d)) && relT μ ν ρ r q d) V2 w5 →
                (w5.cell? ⟨bx, 0, none⟩ = some (.slice (some ⟨Rb, 0, none⟩) a' a') ∧ w5.cell? ⟨Rb, y, none⟩ = some (.slice (some ⟨gs y, 0, none⟩) (nw b') (nw b')) ∧ w5.cell? ⟨bt, 0, none⟩ = some (.slice (some ⟨g2, 0, none⟩) (nw b') (nw b'))) ∧
                ∀ act : Act, roundPost Tryz.prog (D + 1) (fun e W' => e = .returned (.bool true) ∧ YK μ ν ρ F (fun g => Z g ∨ (w.heap.size ≤ g ∧ g < N1)) w wr l r a' b' x bx Rb gs i Ds D bt g2 rec q (pre ++ [y]) W' ∧ Fr (fun k => (∃ j, j < a' ∧ k = gs j) ∨ k = D + 1) V W') Exit.normal act w5) := by
              intro w5 ha
              have hfa := ha.1
              have nt : ∀ {g ty cs}, Blk V2 g ty cs → ty ≠ 63 → ¬ One (gs y) g := fun hb ht e => by
                have e : _ = gs y := e
                subst e
                exact ht (hb.eq hwy).1
              have hbx5 := hbx2.fr hfa (nt hbx2 (by decide))
              have hbt5 := hbt2.fr hfa (nt hbt2 (by decide))
              have hra := hrw2.row HYY.out.1 ha
              have hwq5 := hwq.fr hfa (fun e => hne (show g2 = gs y from e).symm)
              have hlp5 : w5.heap[D + 1]? = some (.loop (rec .busy none)) := (hfa.block (D + 1) (by omega) (fun e => hwy.ne_of hlp2 (fun _ h => by cases h) (show D + 1 = gs y from e).symm)).trans hlp2
              have hdp5 : w5.heap[D]? = some (.deferred (some [])) := (hfa.block D (by omega) (fun e => hwy.ne_of hdp2 (fun _ h => by cases h) (show D = gs y from e).symm)).trans hdp2
              have hds5 : ∀ D', D' ∈ Ds → w5.heap[D']? = some (.deferred (some [])) := fun D' hD' => (hfa.block D' (Array.getElem?_eq_some_iff.1 (hds2 D' hD')).1 (fun e => hwy.ne_of (hds2 D' hD') (fun _ h => by cases h) (show D' = gs y from e).symm)).trans (hds2 D' hD')
              have hZy : Z (gs y) ∨ (w.heap.size ≤ gs y ∧ gs y < N1) := .inr (HGS.out y HYY.out.1)
              have hL5 : LC μ ν ρ F (fun g => Z g ∨ (w.heap.size ≤ g ∧ g < N1)) w5 := hL2.fr hfa (Far.own hwy hZy) (fun g hg e => by have := HOLD.out g hg; have := (HGS.out y HYY.out.1).1; have e : g = gs y := e; omega) (fun e => by have := HTZ.out; have := (HGS.out y HYY.out.1).1; have e : 0 = gs y := e; omega)
              have hq : Fr (fun k => k = D + 1) w5 (w5.putObj (D + 1) (.loop (rec .ready none))) := Fr.putObj _ _
              have nb5 : ∀ {g ty cs}, Blk w5 g ty cs → ¬ (g = D + 1) := fun hb => hb.ne_of hlp5 (fun _ h => by cases h)
              have hs5 := hfa.size
              have hfS : Fr (fun k => (∃ j, j < a' ∧ k = gs j) ∨ k = D + 1) V (w5.putObj (D + 1) (.loop (rec .ready none))) := ((hfp.mono (fun k _ h => .inr h)).trans (hfa.mono (fun k _ h => .inl ⟨y, HYY.out.1, h⟩))).trans (hq.mono (fun k _ h => .inr h))
              refine ⟨⟨(hbx5.cell 0).trans rfl, by rw [hra.rows.cell, RA_at HYY.out.1, if_pos HYY.out.1], (hbt5.cell 0).trans rfl⟩, fun act => ⟨_, _, rf_end HREC.out none hlp5, rfl, ?_, hfS⟩⟩
              refine ⟨?_, hL5.fr hq (fun g ty cs hb _ _ h => nb5 hb h) (fun g hg h => by have := HOLD.out g hg; have := HDW.out; have := HFWR.out.size; have := HN1.out; omega) (fun h => by have := HTZ.out; have := HDW.out; have := HFWR.out.size; have := HN1.out; omega), hbx5.fr hq (nb5 hbx5), ?_, hbt5.fr hq (nb5 hbt5), ⟨wq, hwq5.fr hq (nb5 hwq5), hbq⟩, World.putObj_heap_same (by omega), (World.putObj_heap_other (by omega)).trans hdp5, fun D' hD' => (World.putObj_heap_other (hdsn D' hD')).trans (hds5 D' hD'), by simp; omega⟩
              · exact HK.out.fr.then_ hfS (fun k hk h => by
                  rcases h with h | h
                  · exact .inr h
                  · have := HDW.out; have := HN1.out; omega)
              · refine (hra.frO hq (nb5 hra.rows) (fun k hk => by obtain ⟨_, ws, h2, _⟩ := hra.each k hk; exact nb5 h2)).congr (fun j hj d hd => ?_)
                by_cases e : j = y
                · subst e
                  rcases digF μ ν ρ l r x j i d <;> rcases relT μ ν ρ r q d <;> simp
                · simp [e]
            have hmix : Tryz.prog.follows .mixedOrders = true := by kernel_rfl
            have hyI : (y : Int) < (a' : Int) := by have := HYY.out.1; omega
            clear hfp hbx2 hbt2 hrw2 hwq0 hwq hbq hL2 hlp2 hdp2 hds2 hdsn hsz2 hfw2 hlt2 nb hwy hby hne
            gi_wp2_with fail
            refine wpIn_region_heldR (S := fun w' => w'.cell? ⟨bx, 0, none⟩ = some (.slice (some ⟨Rb, 0, none⟩) a' a') ∧ w'.cell? ⟨Rb, y, none⟩ = some (.slice (some ⟨gs y, 0, none⟩) (nw b') (nw b')) ∧ w'.cell? ⟨bt, 0, none⟩ = some (.slice (some ⟨g2, 0, none⟩) (nw b') (nw b'))) hmix (by kernel_rfl) ?hLO ⟨e1, e2, e3⟩ (fun hHeld => ?_)
            case hLO =>
              rintro ⟨a0, w0, h⟩
              exact (h : False)
            refine wpAnyH_take (i := 0) (v := ?vz0) (by simp only [List.getElem?_toArray, List.getElem?_cons_zero]; rfl) (by kernel_rfl) (by kernel_rfl) (by kernel_rfl) (by exact fun _ _ _ h => h) (Or.inl ⟨by rfl, ?hyz0⟩) (by assumption) ?restz0
            case hyz0 => (intro w hSw; (try dsimp only at hSw); go_simp; try with_reducible rfl)
            ((try simp only [Act.put]); (try simp only [List.setIfInBounds_toArray]); (try simp only [List.set_cons_succ]); (try simp only [List.set_cons_zero]))
            refine wpAnyH_take (i := 1) (v := ?vz1) (by simp only [List.getElem?_toArray, List.getElem?_cons_succ, List.getElem?_cons_zero]; rfl) (by kernel_rfl) (by kernel_rfl) (by kernel_rfl) (by exact fun _ _ _ h => h) (Or.inl ⟨by rfl, ?hyz1⟩) (by assumption) ?restz1
            case hyz1 => (intro w hSw; (try dsimp only at hSw); go_simp; try with_reducible rfl)
            ((try simp only [Act.put]); (try simp only [List.setIfInBounds_toArray]); (try simp only [List.set_cons_succ]); (try simp only [List.set_cons_zero]))
            refine wpAnyH_take (i := 2) (v := ?vz2) (by simp only [List.getElem?_toArray, List.getElem?_cons_succ, List.getElem?_cons_zero]; rfl) (by kernel_rfl) (by kernel_rfl) (by kernel_rfl) (by exact fun _ _ _ h => h) (Or.inl ⟨by rfl, ?hyz2⟩) (by assumption) ?restz2
            case hyz2 => (intro w hSw; (try dsimp only at hSw); go_simp; try with_reducible rfl)
            ((try simp only [Act.put]); (try simp only [List.setIfInBounds_toArray]); (try simp only [List.set_cons_succ]); (try simp only [List.set_cons_zero]))
            refine wpAnyH_take (i := 3) (v := ?vz3) (by simp only [List.getElem?_toArray, List.getElem?_cons_succ, List.getElem?_cons_zero]; rfl) (by kernel_rfl) (by kernel_rfl) (by kernel_rfl) (by exact fun _ _ _ h => h) (Or.inl ⟨by rfl, ?hyz3⟩) (by assumption) ?restz3
            case hyz3 => (intro w hSw; (try dsimp only at hSw); go_simp; try with_reducible rfl)
            ((try simp only [Act.put]); (try simp only [List.setIfInBounds_toArray]); (try simp only [List.set_cons_succ]); (try simp only [List.set_cons_zero]))
            refine wpAnyH_take (i := 4) (v := ?vz4) (by simp only [List.getElem?_toArray, List.getElem?_cons_succ, List.getElem?_cons_zero]; rfl) (by kernel_rfl) (by kernel_rfl) (by kernel_rfl) (by exact fun _ _ _ h => h) (Or.inl ⟨by rfl, ?hyz4⟩) (by assumption) ?restz4
            case hyz4 => (intro w hSw; (try dsimp only at hSw); go_simp; try with_reducible rfl)
            ((try simp only [Act.put]); (try simp only [List.setIfInBounds_toArray]); (try simp only [List.set_cons_succ]); (try simp only [List.set_cons_zero]))
            refine wpAnyH_ready (rs := [5]) (by kernel_rfl) (by simp) ?_
            refine AllReadyH.cons rfl (fun K hK => ?_) AllReadyH.nil
            go_simp
            (with_reducible refine IN.out.mono ?_)
            rintro e w5 ⟨rfl, ha⟩
            obtain ⟨k1, k2⟩ := FIN.out w5 ha
            refine hK.out _ _ k1 (fun hH8 => ?_)
            clear hK K
            ((try simp only [Act.put]); (try simp only [List.setIfInBounds_toArray]); (try simp only [List.set_cons_succ]); (try simp only [List.set_cons_zero]))
            refine wpAnyH_done (by kernel_rfl) ?_ _
            exact k2 { tmps := #[], defers := [] }
          rintro e V ⟨hv, hj⟩
          refine ⟨hv, .ready, none, (fun h => by cases h), hj.lp, ?_⟩
          have hfp : Fr (fun k => k = D + 1) V (V.putObj (D + 1) (.loop (rec .exhausted none))) := Fr.putObj _ _
          have nb : ∀ {g ty cs}, Blk V g ty cs → ¬ (g = D + 1) := fun hb => hb.ne_of hj.lp (fun _ h => by cases h)
          have hdwo := HDW.out
          have hn1o := HN1.out
          have hfwo := HFWR.out.size
          have htzo := HTZ.out
          have NEXT : Hid (YI μ ν ρ F (fun g => Z g ∨ (w.heap.size ≤ g ∧ g < N1)) w wr N1 l r a' b' x bx Rb gs (i + 1) (D :: Ds) (V.putObj (D + 1) (.loop (rec .exhausted none)))) := by
            refine ⟨hj.fr.then_ hfp (fun k hk h => by have h : k = D + 1 := h; omega), hj.lc.fr hfp (fun g ty cs hb _ _ h => nb hb h) (fun g hg h => by have := HOLD.out g hg; omega) (fun h => by omega), hj.bx.fr hfp (nb hj.bx), ?_, ?_, fun D' hD' => ?_, by have := hj.sz; simp; omega⟩
            · refine (hj.rows.frO hfp (nb hj.rows.rows) (fun k hk => by obtain ⟨_, ws, h2, _⟩ := hj.rows.each k hk; exact nb h2)).congr (fun j hj' d hd => ?_)
              rw [HBI1.out.list, digF_more, HBN.out, ← HQ.out]
              congr 2
              have : (elems a' (relT μ ν ρ l i)).contains j = relT μ ν ρ l i j := by
                apply Bool.eq_iff_iff.2
                rw [List.contains_iff_mem, elems_mem]
                simp [hj']
              rw [this]
            · rw [List.nodup_cons]
              refine ⟨fun hD' => ?_, HY.out.nd⟩
              have h := hj.ds D hD'
              have h2 := (Array.getElem?_eq_some_iff.1 (HY.out.ds D hD').2).1
              have h3 := HSX.out
              omega
            · rcases List.mem_cons.1 hD' with e | hD'
              · subst e
                exact ⟨by omega, (World.putObj_heap_other (by omega)).trans hj.df⟩
              · refine ⟨(HY.out.ds D' hD').1, (World.putObj_heap_other ?_).trans (hj.ds D' hD')⟩
                intro e
                have h := hj.ds D' hD'
                rw [e, hj.lp] at h
                cases h
          show Exit.inBlock 2 _ .normal _ (V.putObj (D + 1) (.loop (rec .exhausted none)))
          generalize (V.putObj (D + 1) (.loop (rec .exhausted none))) = V3 at hfp NEXT ⊢
          clear hv hj hfp nb hf5 hl1 hd1 K0 hb15 hT5 hD hD1 hL4 hf4 hb1 hbi1 hnz1 hfT4 hbt4 hb4 hbx4 hrows4 hds4 hdwo hn1o hfwo htzo
          gi_wp2_with fail
          exact ⟨gk - 1, by omega, hJ _ _ _ ⟨i + 1, D :: Ds, by omega, NEXT.out, rfl⟩⟩
        · have hia : i = a := by omega
          have hnlt : ¬ (i : Int) < (a : Int) := by omega
          have cbx : X.cell? ⟨bx, 0, none⟩ = some (.slice (some ⟨Rb, 0, none⟩) a' a') := (HY.out.bx.cell 0).trans rfl
          have FIN : Hid (∀ w', Fr (fun k => k ∈ Ds) X w' → RdP μ ν ρ F Z (funD μ ν ρ l r a a' b' x) (fun _ => b') w (.returned (.slice (some ⟨Rb, 0, none⟩) a' a')) w') := by
            intro w' hf
            have hdm : ∀ {g ty cs}, Blk X g ty cs → ¬ (g ∈ Ds) := fun hb hD => hb.ne_of (HY.out.ds _ hD).2 (fun _ h => by cases h) rfl
            have hlo : ∀ k, k ∈ Ds → w.heap.size ≤ k := fun k hk => by have := (HY.out.ds k hk).1; have := HFWR.out.size; have := HN1.out; omega
            have hrw := HY.out.rows.frO hf (hdm HY.out.rows.rows) (fun k hk => by obtain ⟨_, ws, h2, _⟩ := HY.out.rows.each k hk; exact hdm h2)
            have hlc := HY.out.lc.fr hf (fun g ty cs hb _ _ h => hdm hb h) (fun g hg h => by have := HOLD.out g hg; have := hlo g h; omega) (fun h => by have := HTZ.out; have := hlo _ h; omega)
            have hlen : (funD μ ν ρ l r a a' b' x).length = a' := by simp [funD]
            refine ⟨Rb, by rw [hlen], ⟨RA gs a' b' a', hrw.rows, by simp [RA, hlen], fun j D hD => ?_⟩, hlc.less (fun g _ h => .inl h), (HFV.out X HY.out.fr).then_ hf (fun k hk h => by have := hlo k h; omega)⟩
            have hj : j < a' := by rw [← hlen]; exact (List.getElem?_eq_some_iff.1 hD).1
            obtain ⟨_, ws, h2, h3⟩ := hrw.each j hj
            refine ⟨_, by rw [RA_at hj, if_pos hj], gs j, ws, rfl, h2, h3.congr (fun d hd => ?_)⟩
            unfold funD at hD
            rw [List.getElem?_map, List.getElem?_range hj] at hD
            injection hD with hD
            subst hD
            rw [hia]
            simp [hd]
          have HND := Lib.hid HY.out.nd
          have HDS : Hid (∀ D, D ∈ Ds → X.heap[D]? = some (.deferred (some []))) := fun D hD => (HY.out.ds D hD).2
          clear hia hJ
          gi_wp2_with fail
          refine leaves_marks Ds X HND.out HDS.out fun w' hf => ⟨_, results_tmp rfl _ _ _, ?_⟩
          exact FIN.out w' hf
end
end Go.Proofs.YtloecimlimoanaaGreatDoor
