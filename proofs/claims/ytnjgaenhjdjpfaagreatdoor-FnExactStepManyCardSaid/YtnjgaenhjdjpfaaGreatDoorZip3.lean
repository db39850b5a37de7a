/- Places in memory: one down, one on. -/
import Derived.Test.YtnjgaenhjdjpfaaGreatDoorZip2
namespace Go.Proofs.YtnjgaenhjdjpfaaGreatDoor
open Go.RowKit Go.ChangeMaps

/-- contexts in memory -/
def ZM (w : World) (T : Nat → Prop) : Option Addr → List ZF → Prop
  | c, [] => c = none
  | c, f :: fs => ∃ b pw cn, c = some ⟨b, 0, none⟩ ∧ T b ∧ Blk w b 91 #[Ptr pw, .int .i64 (f.j : Int), .pointer cn] ∧ Tm w T pw f.h f.a f.d f.k ∧ ZM w T cn fs

theorem ZM.mono {w w' : World} {T T' : Nat → Prop} (hT : ∀ b, T b → T' b) (hw : ∀ b, T b → w'.heap[b]? = w.heap[b]?) : ∀ {fs : List ZF} {c : Option Addr}, ZM w T c fs → ZM w' T' c fs
  | [], _, h => h
  | _ :: _, _, ⟨b, pw, cn, e, h1, h2, h3, h4⟩ => ⟨b, pw, cn, e, hT b h1, h2.keep (hw b h1), h3.mono hT hw, h4.mono hT hw⟩

def DownP (T : Nat → Prop) (fs : List ZF) (h a : List UInt8) (d : Nat) (k : Ts) (j : Nat) (w : World) (e : Ending) (w' : World) : Prop :=
  ∃ q b h' a' d' k', e = .returned (.agg #[Ptr q, Ptr b]) ∧ Fr No w w' ∧ k.nth j = some (h', a', d', k') ∧ Tm w' (TN T w w') q h' a' d' k' ∧ ZM w' (TN T w w') (some ⟨b, 0, none⟩) (⟨h, a, d, k, j⟩ :: fs)

set_option maxRecDepth 100000 in
set_option maxHeartbeats 2000000 in
theorem down_any (w : World) (T : Nat → Prop) (p : Nat) (h a : List UInt8) (d : Nat) (k : Ts) (c : Option Addr) (fs : List ZF) (j : Nat) (ht : Tm w T p h a d k) (hz : ZM w T c fs) (hT : ∀ b, T b → b < w.heap.size) (hj : j < k.len) (hk : k.len ≤ 5000) :
    Calls Tryz.prog 91 #[.agg #[Ptr p, .pointer c], .int .i64 (j : Int)] w fun e w' => DownP T fs h a d k j w e w' := by
  obtain ⟨g, o, cc, c3, _, lg, hkid⟩ := ht.kid (by omega)
  obtain ⟨q, h', a', d', k', en, _, xq, tq⟩ := hkid j hj
  have lp := ht.head.2.2.1
  obtain ⟨W, hW⟩ : ∃ W, W = (w.alloc (.cells #[Ptr p, .pointer c] 66)).alloc (.cells #[.pointer none, .pointer none] 66) := ⟨_, rfl⟩
  have hfw : Fr No w W := by rw [hW]; exact ((Fr.refl _ _).alloc _).alloc _
  have b0 : Blk W w.heap.size 66 #[Ptr p, .pointer c] := by rw [hW]; exact (Blk.new _ _ _).alloc _
  have b1 : Blk W (w.heap.size + 1) 66 #[.pointer none, .pointer none] := by rw [hW]; exact Blk.new_at _ _ _ (by simp)
  have hwz : W.heap.size = w.heap.size + 2 := by rw [hW]; simp
  obtain ⟨B1, hB1⟩ : ∃ z, w.heap.size + 1 = z := ⟨_, rfl⟩
  rw [hB1] at b1
  have c00 : W.cell? ⟨w.heap.size, 0, none⟩ = some (Ptr p) := (b0.cell 0).trans rfl
  have c01 : W.cell? ⟨w.heap.size, 1, none⟩ = some (.pointer c) := (b0.cell 1).trans rfl
  have c10 : W.cell? ⟨B1, 0, none⟩ = some (.pointer none) := (b1.cell 0).trans rfl
  have c11 : W.cell? ⟨B1, 1, none⟩ = some (.pointer none) := (b1.cell 1).trans rfl
  have f10 := b1.frozen 0
  have f11 := b1.frozen 1
  have l1 := b1.lt
  have c3' : W.cell? ⟨p, 3, none⟩ = some (.slice (some ⟨g, o, none⟩) k.len cc) := (hfw.cell (p := ⟨p, 3, none⟩) lp (fun h => h)).trans c3
  have xq' : W.cell? ⟨g, o + j, none⟩ = some (Ptr q) := (hfw.cell (p := ⟨g, o + j, none⟩) lg (fun h => h)).trans xq
  have m1 : w.heap.size ≠ B1 := by omega
  have m2 : B1 ≠ w.heap.size := by omega
  have m3 : p ≠ B1 := by omega
  have m4 : B1 ≠ p := by omega
  have m5 : g ≠ B1 := by omega
  have m6 : B1 ≠ g := by omega
  have lW0 : w.heap.size < W.heap.size := b0.lt
  have lWp : p < W.heap.size := by omega
  have lWg : g < W.heap.size := by omega
  have i1 : (0 : Int) ≤ (j : Int) := by omega
  have i2 : (j : Int) < (k.len : Int) := by omega
  have FIN : Hid (∀ (W1 W2 : World), W1 = (W.setCell ⟨B1, 0, none⟩ (Ptr q)).setCell ⟨B1, 1, none⟩ (Ptr W.heap.size) → W2 = (W1.alloc (.cells #[Ptr p, .int .i64 (j : Int), .pointer c] 91)).drew →
      DownP T fs h a d k j w (.returned (.agg #[Ptr q, Ptr W.heap.size])) W2 ∧ W2.cell? ⟨B1, 0, none⟩ = some (Ptr q) ∧ W2.cell? ⟨B1, 1, none⟩ = some (Ptr W.heap.size)) := by
    intro W1 W2 e1 e2
    have hz1 : W1.heap.size = W.heap.size := by rw [e1]; simp [World.setCell]
    have hf1 : Fr No w W1 := by rw [e1]; exact (hfw.setCell (p := ⟨B1, 0, none⟩) (.inr (by show w.heap.size ≤ B1; omega)) _).setCell (p := ⟨B1, 1, none⟩) (.inr (by show w.heap.size ≤ B1; omega)) _
    have hf2 : Fr No W1 W2 := by rw [e2]; exact ((Fr.refl No W1).alloc _).drew
    have hall := hf1.trans hf2
    have bc : Blk W2 W.heap.size 91 #[Ptr p, .int .i64 (j : Int), .pointer c] := by rw [e2, ← hz1]; exact (Blk.new _ _ _).drew
    have hh : ∀ b, T b → W2.heap[b]? = w.heap[b]? := fun b hb => hall.block b (hT b hb) (fun h => h)
    refine ⟨⟨q, W.heap.size, h', a', d', k', rfl, hall, en, tq.mono (fun _ h => .inl h) hh, W.heap.size, p, c, rfl, .inr ⟨hfw.size, bc.lt⟩, bc, ht.mono (fun _ h => .inl h) hh, hz.mono (fun _ h => .inl h) hh⟩, ?_, ?_⟩
    · refine (hf2.cell (p := ⟨B1, 0, none⟩) (by rw [hz1]; exact l1) (fun h => h)).trans ?_
      rw [e1]
      exact (World.cell?_setCell_other _ ⟨B1, 1, none⟩ ⟨B1, 0, none⟩ _ (by simp)).trans (cell_set_same c10 _)
    · refine (hf2.cell (p := ⟨B1, 1, none⟩) (by rw [hz1]; exact l1) (fun h => h)).trans ?_
      rw [e1]
      exact cell_set_next c11 _ _
  have HW := Lib.hid hW
  have HB1 := Lib.hid hB1
  clear ht hz hT hj hk hkid en xq tq hW hfw b0 b1 hwz hB1 c3
  go_enter Tryz.func91, Tryz.ntmps91
  go_wp2_with fail
  rw [← HW.out, HB1.out]
  go_region_held3 (fun w' => w'.cell? ⟨w.heap.size, 0, none⟩ = some (Ptr p) ∧ w'.cell? ⟨w.heap.size, 1, none⟩ = some (.pointer c) ∧ w'.cell? ⟨p, 3, none⟩ = some (.slice (some ⟨g, o, none⟩) k.len cc) ∧ w'.cell? ⟨g, o + j, none⟩ = some (Ptr q)) (go_keep) (fail)
  go_wp2_with fail
  obtain ⟨F1, r0, r1⟩ := FIN.out _ _ rfl rfl
  refine bodyPost_ret (v := .agg #[Ptr q, Ptr W.heap.size]) (by simp [results, Tryz.results91, go_sem, r0, r1]) rfl ?_
  exact F1
end Go.Proofs.YtnjgaenhjdjpfaaGreatDoor
