/- Draws of relations. -/
import Derived.Test.YtloecimlimoanaaGreatDoorDrw
import Derived.Test.YtloecimlimoanaaGreatDoorWri
import Derived.Test.YtloecimlimoanaaGreatDoorLrm
import Derived.Maps.AppendAt
import Derived.Test.YtloecimlimoanaaGreatDoorRfun
import Derived.Test.YtloecimlimoanaaGreatDoorGra
namespace Go.Proofs.YtloecimlimoanaaGreatDoor
open Go.RowKit Go.ChangeMaps Go.Shelf

theorem Rdc.lowA {w : World} {r : Nat} {A : Option Addr} {n c p : Nat} (h : Rdc w r A n c p) : 0 < n → ∀ g o, A = some ⟨g, o, none⟩ → g < w.heap.size := fun h0 g o e => by
  obtain ⟨g', o', x, e', _, hc⟩ := h.byt 0 h0
  rw [e] at e'
  simp only [Option.some.injEq, Addr.mk.injEq, and_true] at e'
  rw [e'.1]
  exact World.block_lt_of_cell? _ _ hc

/-- kept by what changes only what lies above -/
theorem Rdc.up {w w' : World} {r : Nat} {A : Option Addr} {n c p B : Nat} {T : Nat → Prop} (h : Rdc w r A n c p) (hf : Fr T w w') (hT : ∀ b, T b → B ≤ b) (hr : r < B) (hA : 0 < n → ∀ g o, A = some ⟨g, o, none⟩ → g < B) : Rdc w' r A n c p := by
  refine ⟨h.blk.fr hf (fun h => by have := hT r h; omega), fun j hj => ?_, h.small, h.apart⟩
  obtain ⟨g, o, x, e, hx, hc⟩ := h.byt j hj
  exact ⟨g, o, x, e, hx, (hf.cell (p := ⟨g, o + j, none⟩) (World.block_lt_of_cell? w _ hc) (fun h => by have h1 : B ≤ g := hT g h; have := hA (by omega) g o e; omega)).trans hc⟩

/-- a relation that is being drawn -/
structure RelU (w : World) (r : Nat) (A : Option Addr) (n c p : Nat) (L R : Int) (g q cp : Nat) (ps : List Int) (W : World) : Prop where
  fr : Fr (One r) w W
  res : Blk W w.heap.size 27 #[.int .i64 0, .int .i64 0, .slice none 0 0]
  box : Blk W (w.heap.size + 1 + 1) 27 #[.int .i64 L, .int .i64 R, .slice (some ⟨g, 0, none⟩) q cp]
  row : OR W (w.heap.size + 1) (some ⟨g, 0, none⟩) q cp ps
  rd : Rdc W r A n c p
  low : r < w.heap.size ∧ (0 < n → ∀ g o, A = some ⟨g, o, none⟩ → g < w.heap.size)

theorem RelU.start {w : World} {r : Nat} {A : Option Addr} {n c p : Nat} (h : Rdc w r A n c p) {L R : Int} {W : World} (hf : Fr No w W) (h1 : Blk W w.heap.size 27 #[.int .i64 0, .int .i64 0, .slice none 0 0]) (h2 : Blk W (w.heap.size + 1 + 1) 27 #[.int .i64 L, .int .i64 R, .slice (some ⟨w.heap.size + 1, 0, none⟩) 0 0]) (h3 : OR W (w.heap.size + 1) (some ⟨w.heap.size + 1, 0, none⟩) 0 0 []) :
    RelU w r A n c p L R (w.heap.size + 1) 0 0 [] W := ⟨hf.mono (fun _ _ h => h.elim), h1, h2, h3, h.fr hf (fun h => h) (fun _ _ _ h => h), h.blk.lt, h.lowA⟩

theorem RelU.pick {w : World} {r : Nat} {A : Option Addr} {n c p p' : Nat} {L R : Int} {g q cp : Nat} {ps : List Int} {W W' : World} (h : RelU w r A n c p L R g q cp ps W) (hf : Fr (One r) W W') (hr : Rdc W' r A n c p') : RelU w r A n c p' L R g q cp ps W' := by
  have hl := h.low.1
  refine ⟨h.fr.trans hf, h.res.fr hf (fun e => by have e : w.heap.size = r := e; omega), h.box.fr hf (fun e => by have e : w.heap.size + 1 + 1 = r := e; omega), h.row.fr hf (fun b hb e => by have e : b = r := e; have := (h.row.bounds hb).1; omega), hr, h.low⟩

theorem RelU.new {w : World} {r : Nat} {A : Option Addr} {n c p : Nat} {L R : Int} {g q cp : Nat} {ps : List Int} {W W' : World} (h : RelU w r A n c p L R g q cp ps W) (hf : Fr No W W') : RelU w r A n c p L R g q cp ps W' :=
  ⟨h.fr.trans (hf.mono (fun _ _ h => h.elim)), h.res.fr hf (fun h => h), h.box.fr hf (fun h => h), h.row.no hf, h.rd.fr hf (fun h => h) (fun _ _ _ h => h), h.low⟩

theorem RelU.app {w : World} {r : Nat} {A : Option Addr} {n c p : Nat} {L R x : Int} {g q cp : Nat} {ps : List Int} {W W1 w1 : World} (h : RelU w r A n c p L R g q cp ps W) {g' cap' : Nat} (hfa : Fr No W W1)
    (ho : w1.ownsRow (w.heap.size + 1) 3 1 (.slice (some ⟨g', 0, none⟩) (q + 1) cap') (q + 1) (ps.map (Value.int .i64) ++ [.int .i64 x])) (hg : W1.grownBy w1 (Value.slice (some ⟨g, 0, none⟩) q cp).ownBlock) :
    (w1.cell? ⟨w.heap.size + 1 + 1, 2, none⟩ = some (.slice (some ⟨g, 0, none⟩) q cp) ∧ w1.frozen? ⟨w.heap.size + 1 + 1, 2, none⟩ = false ∧ w.heap.size + 1 + 1 < w1.heap.size) ∧
    Hid (RelU w r A n c p L R g' (q + 1) cap' (ps ++ [x]) (w1.setCell ⟨w.heap.size + 1 + 1, 2, none⟩ (.slice (some ⟨g', 0, none⟩) (q + 1) cap'))) := by
  obtain ⟨h1, h2, h3, h4⟩ := app_fin h.box h.row hfa ho hg
  have hB : ∀ b, Own (some (⟨g, 0, none⟩ : Addr)) b ∨ b = w.heap.size + 1 + 1 → w.heap.size + 1 ≤ b := fun b hb => by
    rcases hb with hb | hb
    · exact (h.row.bounds hb).1
    · omega
  exact ⟨⟨(h1.cell 2).trans rfl, h1.frozen 2, h1.lt⟩, h.fr.then_ h2 (fun b hb h => by have := hB b h; omega), h.res.fr h2 (fun h => by have := hB _ h; omega), h3, h4, h.rd.up h2 hB (by have := h.low.1; omega) (fun h0 g o e => by have := h.low.2 h0 g o e; omega), h.low⟩

theorem RelU.left {w : World} {r : Nat} {A : Option Addr} {n c p : Nat} {L R x : Int} {g q cp : Nat} {ps : List Int} {W : World} (h : RelU w r A n c p L R g q cp ps W) : RelU w r A n c p x R g q cp ps (W.setCell ⟨w.heap.size + 1 + 1, 0, none⟩ (.int .i64 x)) := by
  have hf : Fr (One (w.heap.size + 1 + 1)) W (W.setCell ⟨w.heap.size + 1 + 1, 0, none⟩ (.int .i64 x)) := (Fr.refl (One (w.heap.size + 1 + 1)) W).setCell (p := ⟨w.heap.size + 1 + 1, 0, none⟩) (.inl rfl) _
  exact ⟨h.fr.then_ hf (fun b hb e => by have e : b = w.heap.size + 1 + 1 := e; omega), h.res.fr hf (fun e => by have e : w.heap.size = w.heap.size + 1 + 1 := e; omega), h.box.set_ 0 _, h.row.fr hf (fun b hb e => by
    have e : b = w.heap.size + 1 + 1 := e
    subst e
    exact h.row.other h.box (by decide) hb), h.rd.up hf (B := w.heap.size) (fun b e => by have e : b = w.heap.size + 1 + 1 := e; omega) h.low.1 h.low.2, h.low⟩

/-- one pair ahead of the others -/
theorem RelU.ahead {w : World} {r : Nat} {A : Option Addr} {n c p : Nat} {L R x : Int} {g q cp : Nat} {ps : List Int} {W w1 : World} (h : RelU w r A n c p L R g q cp ps W) {g' cap' : Nat}
    (ho : w1.ownsRow W.heap.size 3 1 (.slice (some ⟨g', 0, none⟩) (1 + q) cap') (1 + q) ([.int .i64 x] ++ ps.map (Value.int .i64))) (hg : (W.alloc (.cells #[.int .i64 x] 3)).grownBy w1 (Value.slice (some ⟨W.heap.size, 0, none⟩) 1 1).ownBlock) :
    (w1.cell? ⟨w.heap.size + 1 + 1, 2, none⟩ = some (.slice (some ⟨g, 0, none⟩) q cp) ∧ w1.frozen? ⟨w.heap.size + 1 + 1, 2, none⟩ = false ∧ w.heap.size + 1 + 1 < w1.heap.size) ∧
    Hid (RelU w r A n c p L R g' (1 + q) cap' (x :: ps) (w1.setCell ⟨w.heap.size + 1 + 1, 2, none⟩ (.slice (some ⟨g', 0, none⟩) (1 + q) cap'))) := by
  have hf1 : Fr No W w1 := ((Fr.refl No W).alloc _).grown hg (fun k hk => .inr (by injection hk with hk; subst hk; exact Nat.le_refl _))
  have h1 := h.new hf1
  have hf : Fr (One (w.heap.size + 1 + 1)) w1 (w1.setCell ⟨w.heap.size + 1 + 1, 2, none⟩ (.slice (some ⟨g', 0, none⟩) (1 + q) cap')) := (Fr.refl (One (w.heap.size + 1 + 1)) w1).setCell (p := ⟨w.heap.size + 1 + 1, 2, none⟩) (.inl rfl) _
  have hor : OR w1 W.heap.size (some ⟨g', 0, none⟩) (1 + q) cap' (x :: ps) := ⟨by rw [h.row.1, List.length_cons]; omega, by simpa using ho⟩
  have hbl := h.box.lt
  refine ⟨⟨(h1.box.cell 2).trans rfl, h1.box.frozen 2, h1.box.lt⟩, h1.fr.then_ hf (fun b hb e => by have e : b = w.heap.size + 1 + 1 := e; omega), h1.res.fr hf (fun e => by have e : w.heap.size = w.heap.size + 1 + 1 := e; omega), h1.box.set_ 2 _, (hor.fr hf (fun b hb e => by
    have e : b = w.heap.size + 1 + 1 := e
    have := (hor.bounds hb).1
    omega)).low (by omega), h1.rd.up hf (B := w.heap.size) (fun b e => by have e : b = w.heap.size + 1 + 1 := e; omega) h.low.1 h.low.2, h.low⟩

/-- a relation that was drawn -/
def DrR (r : Nat) (A : Option Addr) (n c p M : Nat) (R : Int) (w : World) (e : Ending) (w' : World) : Prop :=
  ∃ (L : Int) (ps : List Int) (g cp p' : Nat), e = .returned (RV L R (some ⟨g, 0, none⟩) ps.length cp) ∧ OR w' w.heap.size (some ⟨g, 0, none⟩) ps.length cp ps ∧ ps.length ≤ M ∧ Fr (One r) w w' ∧ p' ≤ p + M ∧ Rdc w' r A n c p'

/-- any relation that was drawn -/
def DrA (r : Nat) (A : Option Addr) (n c p : Nat) (w : World) (e : Ending) (w' : World) : Prop :=
  ∃ (L R : Int) (ps : List Int) (g cp p' : Nat), e = .returned (RV L R (some ⟨g, 0, none⟩) ps.length cp) ∧ OR w' w.heap.size (some ⟨g, 0, none⟩) ps.length cp ps ∧ ps.length ≤ 100 ∧ (1 ≤ R ∧ R ≤ 4) ∧ Fr (One r) w w' ∧ p' ≤ p + 20 ∧ Rdc w' r A n c p'

/-- a relation that was drawn out of a code -/
def DrF (w : World) (e : Ending) (w' : World) : Prop :=
  ∃ (L R : Int) (ps : List Int) (B : Option Addr) (cp : Nat), e = .returned (RV L R B ps.length cp) ∧ OR w' w.heap.size B ps.length cp ps ∧ ps.length ≤ 1000 ∧ Fr No w w'

theorem graphO_len {lst : List Int} {n : Int} : ((graphO lst n).getD (0, 0, [])).2.2.length ≤ lst.length := by
  by_cases h : GraphOk lst n
  · rw [graphO_yes h]
    show (graphL lst n lst.length).length ≤ _
    rw [graphL_len]; exact Nat.le_refl _
  · rw [graphO_no h]
    exact Nat.zero_le _

/-- a list and a size that were drawn out of a code -/
def DrG (w : World) (e : Ending) (w' : World) : Prop :=
  ∃ (xs : List Int) (B : Option Addr) (cp N : Nat), e = .returned (.tuple #[.slice B xs.length cp, .int .i64 (N : Int)]) ∧ OR w' w.heap.size B xs.length cp xs ∧ xs.length ≤ 4 ∧ (1 ≤ N ∧ N ≤ 4) ∧ Fr No w w'

end Go.Proofs.YtloecimlimoanaaGreatDoor
