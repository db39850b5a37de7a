/- Draws of relations. -/
import Derived.Test.YtloecimlimoanaaDoorDrw
import Derived.Test.YtloecimlimoanaaDoorWri
import Derived.Test.YtloecimlimoanaaDoorLrm
import Derived.Maps.AppendAt
import Derived.Test.YtloecimlimoanaaDoorRfun
import Derived.Test.YtloecimlimoanaaDoorGra
namespace Go.Proofs.YtloecimlimoanaaDoor
open Go.RowKit Go.ChangeMaps Go.Shelf

theorem Rdc.lowA {w : World} {r : Nat} {A : Option Addr} {n c p : Nat} (h : Rdc w r A n c p) : 0 < n → ∀ g o, A = some ⟨g, o, none⟩ → g < w.heap.size := fun h0 g o e => by
  obtain ⟨g', o', x, e', _, hc⟩ := h.byt 0 h0
  rw [e] at e'
  simp only [Option.some.injEq, Addr.mk.injEq, and_true] at e'
  rw [e'.1]
  exact World.block_lt_of_cell? _ _ hc

/-- kept by what changes only what lies above -/
theorem Rdc.up {w w' : World} {r : Nat} {A : Option Addr} {n c p B : Nat} {T : Nat → Prop} (h : Rdc w r A n c p) (hf : Fr T w w') (hT : ∀ b, T b → B ≤ b) (hr : r < B) (hA : 0 < n → ∀ g o, A = some ⟨g, o, none⟩ → g < B) : Rdc w' r A n c p := by
  refine ⟨h.blk.fr hf (fun h => by have := hT r h; omega), fun j hj => ?_, h.small, h.apart⟩
  obtain ⟨g, o, x, e, hx, hc⟩ := h.byt j hj
  exact ⟨g, o, x, e, hx, (hf.cell (p := ⟨g, o + j, none⟩) (World.block_lt_of_cell? w _ hc) (fun h => by have h1 : B ≤ g := hT g h; have := hA (by omega) g o e; omega)).trans hc⟩

/-- a relation that is being drawn -/
structure RelU (w : World) (r : Nat) (A : Option Addr) (n c p : Nat) (L R : Int) (g q cp : Nat) (ps : List Int) (W : World) : Prop where
  fr : Fr (One r) w W
  res : Blk W w.heap.size 30 #[.int .i64 0, .int .i64 0, .slice none 0 0]
  box : Blk W (w.heap.size + 1 + 1) 30 #[.int .i64 L, .int .i64 R, .slice (some ⟨g, 0, none⟩) q cp]
  row : OR W (w.heap.size + 1) (some ⟨g, 0, none⟩) q cp ps
  rd : Rdc W r A n c p
  low : r < w.heap.size ∧ (0 < n → ∀ g o, A = some ⟨g, o, none⟩ → g < w.heap.size)

theorem RelU.start {w : World} {r : Nat} {A : Option Addr} {n c p : Nat} (h : Rdc w r A n c p) {L R : Int} {W : World} (hf : Fr No w W) (h1 : Blk W w.heap.size 30 #[.int .i64 0, .int .i64 0, .slice none 0 0]) (h2 : Blk W (w.heap.size + 1 + 1) 30 #[.int .i64 L, .int .i64 R, .slice (some ⟨w.heap.size + 1, 0, none⟩) 0 0]) (h3 : OR W (w.heap.size + 1) (some ⟨w.heap.size + 1, 0, none⟩) 0 0 []) :
    RelU w r A n c p L R (w.heap.size + 1) 0 0 [] W := ⟨hf.mono (fun _ _ h => h.elim), h1, h2, h3, h.fr hf (fun h => h) (fun _ _ _ h => h), h.blk.lt, h.lowA⟩

theorem RelU.pick {w : World} {r : Nat} {A : Option Addr} {n c p p' : Nat} {L R : Int} {g q cp : Nat} {ps : List Int} {W W' : World} (h : RelU w r A n c p L R g q cp ps W) (hf : Fr (One r) W W') (hr : Rdc W' r A n c p') : RelU w r A n c p' L R g q cp ps W' := by
  have hl := h.low.1
  refine ⟨h.fr.trans hf, h.res.fr hf (fun e => by have e : w.heap.size = r := e; omega), h.box.fr hf (fun e => by have e : w.heap.size + 1 + 1 = r := e; omega), h.row.fr hf (fun b hb e => by have e : b = r := e; have := (h.row.bounds hb).1; omega), hr, h.low⟩

theorem RelU.new {w : World} {r : Nat} {A : Option Addr} {n c p : Nat} {L R : Int} {g q cp : Nat} {ps : List Int} {W W' : World} (h : RelU w r A n c p L R g q cp ps W) (hf : Fr No W W') : RelU w r A n c p L R g q cp ps W' :=
  ⟨h.fr.trans (hf.mono (fun _ _ h => h.elim)), h.res.fr hf (fun h => h), h.box.fr hf (fun h => h), h.row.no hf, h.rd.fr hf (fun h => h) (fun _ _ _ h => h), h.low⟩

theorem RelU.app {w : World} {r : Nat} {A : Option Addr} {n c p : Nat} {L R x : Int} {g q cp : Nat} {ps : List Int} {W W1 w1 : World} (h : RelU w r A n c p L R g q cp ps W) {g' cap' : Nat} (hfa : Fr No W W1)
    (ho : w1.ownsRow (w.heap.size + 1) 3 1 (.slice (some ⟨g', 0, none⟩) (q + 1) cap') (q + 1) (ps.map (Value.int .i64) ++ [.int .i64 x])) (hg : W1.grownBy w1 (Value.slice (some ⟨g, 0, none⟩) q cp).ownBlock) :
    (w1.cell? ⟨w.heap.size + 1 + 1, 2, none⟩ = some (.slice (some ⟨g, 0, none⟩) q cp) ∧ w1.frozen? ⟨w.heap.size + 1 + 1, 2, none⟩ = false ∧ w.heap.size + 1 + 1 < w1.heap.size) ∧
    Hid (RelU w r A n c p L R g' (q + 1) cap' (ps ++ [x]) (w1.setCell ⟨w.heap.size + 1 + 1, 2, none⟩ (.slice (some ⟨g', 0, none⟩) (q + 1) cap'))) := by
  obtain ⟨h1, h2, h3, h4⟩ := app_fin h.box h.row hfa ho hg
  have hB : ∀ b, Own (some (⟨g, 0, none⟩ : Addr)) b ∨ b = w.heap.size + 1 + 1 → w.heap.size + 1 ≤ b := fun b hb => by
    rcases hb with hb | hb
    · exact (h.row.bounds hb).1
    · omega
  exact ⟨⟨(h1.cell 2).trans rfl, h1.frozen 2, h1.lt⟩, h.fr.then_ h2 (fun b hb h => by have := hB b h; omega), h.res.fr h2 (fun h => by have := hB _ h; omega), h3, h4, h.rd.up h2 hB (by have := h.low.1; omega) (fun h0 g o e => by have := h.low.2 h0 g o e; omega), h.low⟩

theorem RelU.left {w : World} {r : Nat} {A : Option Addr} {n c p : Nat} {L R x : Int} {g q cp : Nat} {ps : List Int} {W : World} (h : RelU w r A n c p L R g q cp ps W) : RelU w r A n c p x R g q cp ps (W.setCell ⟨w.heap.size + 1 + 1, 0, none⟩ (.int .i64 x)) := by
  have hf : Fr (One (w.heap.size + 1 + 1)) W (W.setCell ⟨w.heap.size + 1 + 1, 0, none⟩ (.int .i64 x)) := (Fr.refl (One (w.heap.size + 1 + 1)) W).setCell (p := ⟨w.heap.size + 1 + 1, 0, none⟩) (.inl rfl) _
  exact ⟨h.fr.then_ hf (fun b hb e => by have e : b = w.heap.size + 1 + 1 := e; omega), h.res.fr hf (fun e => by have e : w.heap.size = w.heap.size + 1 + 1 := e; omega), h.box.set_ 0 _, h.row.fr hf (fun b hb e => by
    have e : b = w.heap.size + 1 + 1 := e
    subst e
    exact h.row.other h.box (by decide) hb), h.rd.up hf (B := w.heap.size) (fun b e => by have e : b = w.heap.size + 1 + 1 := e; omega) h.low.1 h.low.2, h.low⟩

/-- one pair ahead of the others -/
theorem RelU.ahead {w : World} {r : Nat} {A : Option Addr} {n c p : Nat} {L R x : Int} {g q cp : Nat} {ps : List Int} {W w1 : World} (h : RelU w r A n c p L R g q cp ps W) {g' cap' : Nat}
    (ho : w1.ownsRow W.heap.size 3 1 (.slice (some ⟨g', 0, none⟩) (1 + q) cap') (1 + q) ([.int .i64 x] ++ ps.map (Value.int .i64))) (hg : (W.alloc (.cells #[.int .i64 x] 3)).grownBy w1 (Value.slice (some ⟨W.heap.size, 0, none⟩) 1 1).ownBlock) :
    (w1.cell? ⟨w.heap.size + 1 + 1, 2, none⟩ = some (.slice (some ⟨g, 0, none⟩) q cp) ∧ w1.frozen? ⟨w.heap.size + 1 + 1, 2, none⟩ = false ∧ w.heap.size + 1 + 1 < w1.heap.size) ∧
    Hid (RelU w r A n c p L R g' (1 + q) cap' (x :: ps) (w1.setCell ⟨w.heap.size + 1 + 1, 2, none⟩ (.slice (some ⟨g', 0, none⟩) (1 + q) cap'))) := by
  have hf1 : Fr No W w1 := ((Fr.refl No W).alloc _).grown hg (fun k hk => .inr (by injection hk with hk; subst hk; exact Nat.le_refl _))
  have h1 := h.new hf1
  have hf : Fr (One (w.heap.size + 1 + 1)) w1 (w1.setCell ⟨w.heap.size + 1 + 1, 2, none⟩ (.slice (some ⟨g', 0, none⟩) (1 + q) cap')) := (Fr.refl (One (w.heap.size + 1 + 1)) w1).setCell (p := ⟨w.heap.size + 1 + 1, 2, none⟩) (.inl rfl) _
  have hor : OR w1 W.heap.size (some ⟨g', 0, none⟩) (1 + q) cap' (x :: ps) := ⟨by rw [h.row.1, List.length_cons]; omega, by simpa using ho⟩
  have hbl := h.box.lt
  refine ⟨⟨(h1.box.cell 2).trans rfl, h1.box.frozen 2, h1.box.lt⟩, h1.fr.then_ hf (fun b hb e => by have e : b = w.heap.size + 1 + 1 := e; omega), h1.res.fr hf (fun e => by have e : w.heap.size = w.heap.size + 1 + 1 := e; omega), h1.box.set_ 2 _, (hor.fr hf (fun b hb e => by
    have e : b = w.heap.size + 1 + 1 := e
    have := (hor.bounds hb).1
    omega)).low (by omega), h1.rd.up hf (B := w.heap.size) (fun b e => by have e : b = w.heap.size + 1 + 1 := e; omega) h.low.1 h.low.2, h.low⟩

/-- a relation that was drawn -/
def DrR (r : Nat) (A : Option Addr) (n c p M : Nat) (R : Int) (w : World) (e : Ending) (w' : World) : Prop :=
  ∃ (L : Int) (ps : List Int) (g cp p' : Nat), e = .returned (RV L R (some ⟨g, 0, none⟩) ps.length cp) ∧ OR w' w.heap.size (some ⟨g, 0, none⟩) ps.length cp ps ∧ ps.length ≤ M ∧ Fr (One r) w w' ∧ p' ≤ p + M ∧ Rdc w' r A n c p'

set_option maxRecDepth 100000 in
set_option maxHeartbeats 4000000 in
theorem rel_draw (w : World) (r : Nat) (A : Option Addr) (n c p m k : Nat) (h : Rdc w r A n c p) (hm : 1 ≤ m) (hm2 : m ≤ 8) (hk : 1 ≤ k) (hk2 : k ≤ 8) (hp : p ≤ 90000) :
    Calls Tryd.prog 94 #[Ptr r, .int .i64 m, .int .i64 k] w fun e w' => DrR r A n c p (m * k + 2) k w e w' := by
  obtain ⟨i0, hi0, hz0, hz1, hz2⟩ := info_parts info_int
  obtain ⟨W0, hW0, hf0, hr0, hb0, ho0⟩ := start_rel w m k
  have HU0 := Lib.hid (RelU.start h hf0 hr0 hb0 ho0)
  have hM : m * k ≤ 64 := Nat.mul_le_mul hm2 hk2
  have hM1 : 1 ≤ m * k := Nat.mul_le_mul hm hk
  have hMI : (m : Int) * (k : Int) = ((m * k : Nat) : Int) := by simp
  generalize m * k = M at *
  clear h hf0 hr0 hb0 ho0
  go_enter Tryd.func94, Tryd.ntmps94
  go_wp2_with fail
  rw [← hW0]
  clear hW0
  go_loopw [8] (fun u wr => ∃ (j g q cp p' : Nat) (ps : List Int), j ≤ M ∧ u = .int .i64 j ∧ RelU w r A n c p' m k g q cp ps wr ∧ q ≤ j ∧ p' ≤ p + j) (fun u _ => M - (intOf u).toNat)
  case atStart => exact ⟨0, _, 0, 0, p, [], Nat.zero_le _, rfl, HU0.out, Nat.le_refl _, Nat.le_refl _⟩
  case round =>
    obtain ⟨j, g, q, cp, p', ps, hj, rfl, hu, hq, hp'⟩ := hrel
    have HU := Lib.hid hu
    clear hu HU0
    have hrl : r < w.heap.size := HU.out.low.1
    by_cases hlt : j < M
    · have hjI : (j : Int) < (M : Int) := by omega
      have PK := Lib.hid (pick_any wr r A n c p' 2 HU.out.rd (by decide) (by decide) (by omega))
      go_wp2_with fail
      refine PK.out.mono ?_
      rintro e w3 ⟨z, rfl, hz, hf3, hr3⟩
      have HU3 := Lib.hid (HU.out.pick hf3 hr3)
      clear hf3 hr3 PK
      by_cases h0 : z = 0
      · subst h0
        have c2 : w3.cell? ⟨w.heap.size + 1 + 1, 2, none⟩ = some (.slice (some ⟨g, 0, none⟩) q cp) := (HU3.out.box.cell 2).trans rfl
        have f2 := HU3.out.box.frozen 2
        have l2 := HU3.out.box.lt
        have hown := HU3.out.row.2
        have hwl : w.heap.size ≤ w3.heap.size := HU3.out.fr.size
        go_wp2_with (at_builtin; refine wpList_append_own _ rfl _ _ 28 rfl (w.heap.size + 1) 3 i0 (.int .i64 0) 1 8 Tryd.underlying28 hi0 hz0 hz1 hz2 rfl (by decide) _ _ _ rfl (hown.alloc _) ⟨w3.heap.size, 0, none⟩ 1 1 [.int .i64 (j : Int)] rfl rfl (cell_one_new _ _ _) (by simp [Value.oneCell']) (by unfold maxLen; omega) (by omega) (by simp; omega) ?_; intro v' w4 hown' hgrow _; obtain ⟨g', cap', rfl⟩ := ownsRow_succ hown'; obtain ⟨⟨n1, n2, n3⟩, HUN⟩ := RelU.app HU3.out ((Fr.refl No _).alloc _) hown' hgrow; clear hown' hgrow)
        go_roundw
        case rel => exact ⟨j + 1, g', q + 1, cap', p' + 1, _, by omega, by go_num, HUN.out, by omega, by omega⟩
        case measure => simp [intOf]; omega
      · have hz0 : ((z : Int) == 0) = false := beq_eq_false_iff_ne.2 (by omega)
        go_wp2_with fail
        go_roundw
        case rel => exact ⟨j + 1, g, q, cp, p' + 1, ps, by omega, by go_num, HU3.out, by omega, by omega⟩
        case measure => simp [intOf]; omega
    · have hnl : ¬ (j : Int) < (M : Int) := by omega
      have PK := Lib.hid (pick_any wr r A n c p' 40 HU.out.rd (by decide) (by decide) (by omega))
      have HFIN : Hid (∀ (L : Int) (g q cp p2 : Nat) (ps : List Int) (W : World), RelU w r A n c p2 L k g q cp ps W → q ≤ M + 2 → p2 ≤ p + (M + 2) → ∀ v0 v1 v2, DrR r A n c p (M + 2) k w (.returned (RV L k (some ⟨g, 0, none⟩) q cp)) (((W.setCell ⟨w.heap.size, 0, none⟩ v0).setCell ⟨w.heap.size, 1, none⟩ v1).setCell ⟨w.heap.size, 2, none⟩ v2)) := by
        intro L g q cp p2 ps W h hq hp2 v0 v1 v2
        have hf : Fr (One w.heap.size) W (((W.setCell ⟨w.heap.size, 0, none⟩ v0).setCell ⟨w.heap.size, 1, none⟩ v1).setCell ⟨w.heap.size, 2, none⟩ v2) := (((Fr.refl (One w.heap.size) W).setCell (p := ⟨w.heap.size, 0, none⟩) (.inl rfl) _).setCell (p := ⟨w.heap.size, 1, none⟩) (.inl rfl) _).setCell (p := ⟨w.heap.size, 2, none⟩) (.inl rfl) _
        have hq' := h.row.1
        refine ⟨L, ps, g, cp, p2, by rw [← hq'], ?_, by omega, h.fr.then_ hf (fun b hb e => by have e : b = w.heap.size := e; omega), hp2, h.rd.up hf (B := w.heap.size) (fun b e => by have e : b = w.heap.size := e; omega) h.low.1 h.low.2⟩
        have := (h.row.fr hf (fun b hb e => by have e : b = w.heap.size := e; have := (h.row.bounds hb).1; omega)).low (Nat.le_succ _)
        rwa [← hq']
      have hjM : M = j := by omega
      subst hjM
      go_wp2_with fail
      refine PK.out.mono ?_
      rintro e w3 ⟨z, rfl, hz, hf3, hr3⟩
      have HU3 := Lib.hid (HU.out.pick hf3 hr3)
      clear hf3 hr3 PK HU
      have hwl : w.heap.size ≤ w3.heap.size := HU3.out.fr.size
      have HEND : Hid (∀ (L : Int) (g q cp p2 : Nat) (ps : List Int) (W : World), RelU w r A n c p2 L k g q cp ps W → W.cell? ⟨w.heap.size + 1 + 1, 0, none⟩ = some (.int .i64 L) ∧ W.cell? ⟨w.heap.size + 1 + 1, 1, none⟩ = some (.int .i64 k) ∧ W.cell? ⟨w.heap.size + 1 + 1, 2, none⟩ = some (.slice (some ⟨g, 0, none⟩) q cp) ∧ W.cell? ⟨w.heap.size, 0, none⟩ = some (.int .i64 0) ∧ W.cell? ⟨w.heap.size, 1, none⟩ = some (.int .i64 0) ∧ W.cell? ⟨w.heap.size, 2, none⟩ = some (.slice none 0 0) ∧ W.frozen? ⟨w.heap.size, 0, none⟩ = false ∧ W.frozen? ⟨w.heap.size, 1, none⟩ = false ∧ W.frozen? ⟨w.heap.size, 2, none⟩ = false ∧ w.heap.size + 1 + 1 < W.heap.size) := fun L g q cp p2 ps W h =>
        ⟨(h.box.cell 0).trans rfl, (h.box.cell 1).trans rfl, (h.box.cell 2).trans rfl, (h.res.cell 0).trans rfl, (h.res.cell 1).trans rfl, (h.res.cell 2).trans rfl, h.res.frozen 0, h.res.frozen 1, h.res.frozen 2, h.box.lt⟩
      have hMk : IntKind.i64.wrap (m * (k : Int)) = (M : Int) := by rw [hMI]; exact IntWalk.i64_in _ (by omega)
      by_cases h0 : z = 0
      · subst h0
        have c2 : w3.cell? ⟨w.heap.size + 1 + 1, 2, none⟩ = some (.slice (some ⟨g, 0, none⟩) q cp) := (HU3.out.box.cell 2).trans rfl
        have f2 := HU3.out.box.frozen 2
        have l2 := HU3.out.box.lt
        have hown := HU3.out.row.2
        go_wp2_with (at_builtin; refine wpList_append_own _ rfl _ _ 28 rfl (w.heap.size + 1) 3 i0 (.int .i64 0) 1 8 Tryd.underlying28 hi0 hz0 hz1 hz2 rfl (by decide) _ _ _ rfl (hown.alloc _) ⟨w3.heap.size, 0, none⟩ 1 1 [.int .i64 (M : Int)] rfl rfl (cell_one_new _ _ _) (by simp [Value.oneCell']) (by unfold maxLen; omega) (by omega) (by simp; omega) ?_; intro v' w4 hown' hgrow _; obtain ⟨g', cap', rfl⟩ := ownsRow_succ hown'; obtain ⟨⟨n1, n2, n3⟩, HUN⟩ := RelU.app HU3.out ((Fr.refl No _).alloc _) hown' hgrow; obtain ⟨k0, k1, k2, a0, a1, a2, j0, j1, j2, ll⟩ := HEND.out _ _ _ _ _ _ _ HUN.out; clear hown' hgrow)
        refine bodyPost_ret (v := RV m k (some ⟨g', 0, none⟩) (q + 1) cap') (by simp [results, Tryd.results94, go_sem, a0, a1, a2]) rfl ?_
        exact HFIN.out _ _ _ _ _ _ _ HUN.out (by omega) (by omega) _ _ _
      · have e0 : ((z : Int) == 0) = false := beq_eq_false_iff_ne.2 (by omega)
        by_cases h1 : z = 1
        · subst h1
          have hf4 : Fr No w3 (w3.alloc (.cells #[.int .i64 0, .int .i64 129] 3)) := (Fr.refl _ _).alloc _
          have hb4 : Blk (w3.alloc (.cells #[.int .i64 0, .int .i64 129] 3)) w3.heap.size 3 #[.int .i64 0, .int .i64 129] := Blk.new _ _ _
          have HU4 := Lib.hid (HU3.out.new hf4)
          have PK := Lib.hid (pick_any _ r A n c _ 2 HU4.out.rd (by decide) (by decide) (by omega))
          have HB4 := Lib.hid hb4
          clear hf4 hb4
          go_wp2_with fail
          refine PK.out.mono ?_
          rintro e w5 ⟨y, rfl, hy, hf5, hr5⟩
          have HU5 := Lib.hid (HU4.out.pick hf5 hr5)
          have hb5 := HB4.out.fr hf5 (fun e => by have e : w3.heap.size = r := e; omega)
          clear hf5 hr5 PK HU4 HB4 HU3
          obtain ⟨v, hv⟩ : ∃ v : Int, w5.cell? ⟨w3.heap.size, y, none⟩ = some (.int .i64 v) := by
            match y, hy with
            | 0, _ => exact ⟨0, (hb5.cell 0).trans rfl⟩
            | 1, _ => exact ⟨129, (hb5.cell 1).trans rfl⟩
          have HU6 := Lib.hid (HU5.out.left (x := v))
          have c0 : w5.cell? ⟨w.heap.size + 1 + 1, 0, none⟩ = some (.int .i64 m) := (HU5.out.box.cell 0).trans rfl
          have f0 := HU5.out.box.frozen 0
          have l0 := HU5.out.box.lt
          have hyI : (y : Int) < 2 := by omega
          obtain ⟨k0, k1, k2, a0, a1, a2, j0, j1, j2, ll⟩ := HEND.out _ _ _ _ _ _ _ HU6.out
          clear hb5
          go_wp2_with fail
          refine bodyPost_ret (v := RV v k (some ⟨g, 0, none⟩) q cp) (by simp [results, Tryd.results94, go_sem, a0, a1, a2]) rfl ?_
          exact HFIN.out _ _ _ _ _ _ _ HU6.out (by omega) (by omega) _ _ _
        · have e1 : ((z : Int) == 1) = false := beq_eq_false_iff_ne.2 (by omega)
          by_cases h2 : z = 2
          · subst h2
            have hf4 : Fr No w3 (w3.alloc (.cells #[.int .i64 ((M : Int) - 1)] 3)) := (Fr.refl _ _).alloc _
            have c2 : (w3.alloc (.cells #[.int .i64 ((M : Int) - 1)] 3)).cell? ⟨w.heap.size + 1 + 1, 2, none⟩ = some (.slice (some ⟨g, 0, none⟩) q cp) := ((HU3.out.new hf4).box.cell 2).trans rfl
            have f2 := (HU3.out.new hf4).box.frozen 2
            have l2 := (HU3.out.new hf4).box.lt
            have hown : (w3.alloc (.cells #[.int .i64 ((M : Int) - 1)] 3)).ownsRow w3.heap.size 3 1 (.slice (some ⟨w3.heap.size, 0, none⟩) 1 1) 1 [.int .i64 ((M : Int) - 1)] := ⟨rfl, .inr ⟨_, 1, #[.int .i64 ((M : Int) - 1)], rfl, Nat.le_refl _, Blk.new _ _ _, Nat.le_refl _, by decide, rfl, rfl⟩⟩
            have hnew : ∀ (j : Nat) (u : Value), (ps.map (Value.int .i64))[j]? = some u → (w3.alloc (.cells #[.int .i64 ((M : Int) - 1)] 3)).cell? ((⟨g, 0, none⟩ : Addr).add j) = some u := fun j u h => (HU3.out.new hf4).row.2.cells (g := g) rfl j u h
            have hql : (ps.map (Value.int .i64)).length = q * 1 := by rw [List.length_map, ← HU3.out.row.1]; omega
            have hone : ∀ u ∈ ps.map (Value.int .i64), u.oneCell' = true := fun u hu => by
              obtain ⟨x, _, rfl⟩ := List.mem_map.1 hu
              rfl
            have hMw : IntKind.i64.wrap ((M : Int) - 1) = (M : Int) - 1 := IntWalk.i64_in _ (by omega)
            clear hf4
            go_wp2_with (at_builtin; refine wpList_append_own _ rfl _ _ 28 rfl w3.heap.size 3 i0 (.int .i64 0) 1 8 Tryd.underlying28 hi0 hz0 hz1 hz2 rfl (by decide) _ 1 _ rfl hown ⟨g, 0, none⟩ q cp (ps.map (Value.int .i64)) rfl hql hnew hone (by unfold maxLen; omega) (by omega) (by simp) ?_; intro v' w4 hown' hgrow _; obtain ⟨g', cap', rfl⟩ : ∃ g' cap', v' = .slice (some ⟨g', 0, none⟩) (1 + q) cap' := (by rw [Nat.add_comm] at hown' ⊢; exact ownsRow_succ hown'); obtain ⟨⟨n1, n2, n3⟩, HUN⟩ := RelU.ahead HU3.out hown' hgrow; obtain ⟨k0, k1, k2, a0, a1, a2, j0, j1, j2, ll⟩ := HEND.out _ _ _ _ _ _ _ HUN.out; clear hown' hgrow)
            refine bodyPost_ret (v := RV m k (some ⟨g', 0, none⟩) (1 + q) cap') (by simp [results, Tryd.results94, go_sem, a0, a1, a2]) rfl ?_
            exact HFIN.out _ _ _ _ _ _ _ HUN.out (by omega) (by omega) _ _ _
          · have e2 : ((z : Int) == 2) = false := beq_eq_false_iff_ne.2 (by omega)
            obtain ⟨c0, c1, c2, a0, a1, a2, f0, f1, f2, ll⟩ := HEND.out _ _ _ _ _ _ _ HU3.out
            go_wp2_with fail
            refine bodyPost_ret (v := RV m k (some ⟨g, 0, none⟩) q cp) (by simp [results, Tryd.results94, go_sem, a0, a1, a2]) rfl ?_
            exact HFIN.out _ _ _ _ _ _ _ HU3.out (by omega) (by omega) _ _ _

/-- any relation that was drawn -/
def DrA (r : Nat) (A : Option Addr) (n c p : Nat) (w : World) (e : Ending) (w' : World) : Prop :=
  ∃ (L R : Int) (ps : List Int) (g cp p' : Nat), e = .returned (RV L R (some ⟨g, 0, none⟩) ps.length cp) ∧ OR w' w.heap.size (some ⟨g, 0, none⟩) ps.length cp ps ∧ ps.length ≤ 100 ∧ (1 ≤ R ∧ R ≤ 4) ∧ Fr (One r) w w' ∧ p' ≤ p + 20 ∧ Rdc w' r A n c p'

/-- a relation that was drawn out of a code -/
def DrF (w : World) (e : Ending) (w' : World) : Prop :=
  ∃ (L R : Int) (ps : List Int) (B : Option Addr) (cp : Nat), e = .returned (RV L R B ps.length cp) ∧ OR w' w.heap.size B ps.length cp ps ∧ ps.length ≤ 1000 ∧ Fr No w w'

theorem graphO_len {lst : List Int} {n : Int} : ((graphO lst n).getD (0, 0, [])).2.2.length ≤ lst.length := by
  by_cases h : GraphOk lst n
  · rw [graphO_yes h]
    show (graphL lst n lst.length).length ≤ _
    rw [graphL_len]; exact Nat.le_refl _
  · rw [graphO_no h]
    exact Nat.zero_le _

/-- a list and a size that were drawn out of a code -/
def DrG (w : World) (e : Ending) (w' : World) : Prop :=
  ∃ (xs : List Int) (B : Option Addr) (cp N : Nat), e = .returned (.tuple #[.slice B xs.length cp, .int .i64 (N : Int)]) ∧ OR w' w.heap.size B xs.length cp xs ∧ xs.length ≤ 4 ∧ (1 ≤ N ∧ N ≤ 4) ∧ Fr No w w'

end Go.Proofs.YtloecimlimoanaaDoor
