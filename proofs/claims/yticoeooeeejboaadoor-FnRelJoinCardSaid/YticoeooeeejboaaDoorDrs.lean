/- Draws of one relation. -/
import Derived.Test.YticoeooeeejboaaDoorDrr
namespace Go.Proofs.YticoeooeeejboaaDoor
open Go.RowKit Go.ChangeMaps Go.Shelf

theorem Byt.keep {w w' : World} {A : Option Addr} {n : Nat} (h : Byt w A n) (hf : Fr No w w') : Byt w' A n := fun j hj => by
  obtain ⟨g, o, x, e, hx, hc⟩ := h j hj
  exact ⟨g, o, x, e, hx, (hf.cell (p := ⟨g, o + j, none⟩) (World.block_lt_of_cell? w _ hc) (fun h => h)).trans hc⟩

set_option maxRecDepth 100000 in
set_option maxHeartbeats 2000000 in
theorem drawRelBack (w : World) (A : Option Addr) (n c : Nat) (hn : n ≤ maxLen) (hnc : n ≤ c) (hb : Byt w A n) :
    Calls Tryd.prog 18 #[.slice A n c] w fun e w' => DrF w e w' := by
  obtain ⟨W0, hW0, hf0, hb0⟩ : ∃ W, W = w.alloc (.cells #[.int .i64 0, .int .i64 0, .slice none 0 0] 25) ∧ Fr No w W ∧ Blk W w.heap.size 25 #[.int .i64 0, .int .i64 0, .slice none 0 0] := ⟨_, rfl, (Fr.refl _ _).alloc _, Blk.new _ _ _⟩
  have HF0 := Lib.hid hf0
  have HB0 := Lib.hid hb0
  have OP := Lib.hid (open_any W0 A n c hn hnc (hb.keep hf0))
  clear hb hf0 hb0 hn hnc
  go_enter Tryd.func18, Tryd.ntmps18
  go_wp2_with fail
  rw [← hW0]
  clear hW0
  refine OP.out.mono ?_
  rintro e w1 ⟨r, A1, n1, c1, rfl, hf1, hr1, hd1⟩
  have AD := Lib.hid (any_draw w1 r A1 n1 c1 0 hd1 (by omega))
  have HF1 := Lib.hid hf1
  have hs0 : w.heap.size < W0.heap.size := HB0.out.lt
  have hs1 : W0.heap.size ≤ w1.heap.size := hf1.size
  clear hf1 hd1 OP
  go_wp2_with fail
  refine AD.out.mono ?_
  rintro e w2 ⟨L, R, ps, g, cp, p', rfl, hor, hlen, _, hf2, _, _⟩
  have hb2 := HB0.out.fr (HF1.out.trans (Fr.refl _ _)) (fun h => h)
  have hb3 := hb2.fr hf2 (fun e => by have e : w.heap.size = r := e; omega)
  have a0 : w2.cell? ⟨w.heap.size, 0, none⟩ = some (.int .i64 0) := (hb3.cell 0).trans rfl
  have a1 : w2.cell? ⟨w.heap.size, 1, none⟩ = some (.int .i64 0) := (hb3.cell 1).trans rfl
  have a2 : w2.cell? ⟨w.heap.size, 2, none⟩ = some (.slice none 0 0) := (hb3.cell 2).trans rfl
  have f0 := hb3.frozen 0
  have f1 := hb3.frozen 1
  have f2 := hb3.frozen 2
  have l0 := hb3.lt
  have HFIN : Hid (∀ v0 v1 v2, DrF w (.returned (RV L R (some ⟨g, 0, none⟩) ps.length cp)) (((w2.setCell ⟨w.heap.size, 0, none⟩ v0).setCell ⟨w.heap.size, 1, none⟩ v1).setCell ⟨w.heap.size, 2, none⟩ v2)) := fun v0 v1 v2 => by
    have hf : Fr (One w.heap.size) w2 (((w2.setCell ⟨w.heap.size, 0, none⟩ v0).setCell ⟨w.heap.size, 1, none⟩ v1).setCell ⟨w.heap.size, 2, none⟩ v2) := (((Fr.refl (One w.heap.size) w2).setCell (p := ⟨w.heap.size, 0, none⟩) (.inl rfl) _).setCell (p := ⟨w.heap.size, 1, none⟩) (.inl rfl) _).setCell (p := ⟨w.heap.size, 2, none⟩) (.inl rfl) _
    exact ⟨L, R, ps, _, cp, rfl, (hor.fr hf (fun b hb e => by have e : b = w.heap.size := e; have := (hor.bounds hb).1; omega)).low (by omega), by omega, ((HF0.out.trans HF1.out).then_ hf2 (fun b hb e => by have e : b = r := e; omega)).then_ hf (fun b hb e => by have e : b = w.heap.size := e; omega)⟩
  clear hb2 hb3 hor hf2 AD
  go_wp2_with fail
  refine bodyPost_ret (v := RV L R (some ⟨g, 0, none⟩) ps.length cp) (by simp [results, Tryd.results18, go_sem, a0, a1, a2]) rfl ?_
  exact HFIN.out _ _ _
end Go.Proofs.YticoeooeeejboaaDoor
