/- Steps of the model: l4Turn. -/
import Derived.Test.YtnjgaenhjdjpfaaGreatDoorS2put
import Derived.Test.YtnjgaenhjdjpfaaGreatDoorS4b
namespace Go.Proofs.YtnjgaenhjdjpfaaGreatDoor
open Go.RowKit Go.ChangeMaps

theorem fr_cell0 {W W' : World} (hf : Fr No W W') {g j : Nat} {v : Value} (hg : g < W.heap.size) (h : W.cell? ⟨g, j, none⟩ = some v) : W'.cell? ⟨g, j, none⟩ = some v := by
  unfold World.cell? at h ⊢
  rw [hf.block g hg (fun h => h)]
  exact h

def TurnP (T : Nat → Prop) (a' : List UInt8) (k' : Fo) (w : World) (e : Ending) (w' : World) : Prop :=
  ∃ A c, e = .returned (.agg #[S a', .slice A k'.len c]) ∧ Fr No w w' ∧ Sl w' (TN T w w') A k'

theorem turn_fin {w W : World} {T : Nat → Prop} (hf : Fr No w W) {T' : Nat → Prop} (hT' : ∀ b, T' b → TN T w W b ∧ b ≠ w.heap.size + 1) {A : Option Addr} {c : Nat} {a' : List UInt8} {k' : Fo} (h : Sl W T' A k') (v0 v1 : Value) :
    TurnP T a' k' w (.returned (.agg #[S a', .slice A k'.len c])) ((W.setCell ⟨w.heap.size + 1, 0, none⟩ v0).setCell ⟨w.heap.size + 1, 1, none⟩ v1) := by
  refine ⟨A, c, rfl, (hf.setCell (p := ⟨w.heap.size + 1, 0, none⟩) (.inr (by show w.heap.size ≤ w.heap.size + 1; omega)) v0).setCell (p := ⟨w.heap.size + 1, 1, none⟩) (.inr (by show w.heap.size ≤ w.heap.size + 1; omega)) v1, ?_⟩
  have hs : ((W.setCell ⟨w.heap.size + 1, 0, none⟩ v0).setCell ⟨w.heap.size + 1, 1, none⟩ v1).heap.size = W.heap.size := by simp [World.setCell]
  refine h.mono (fun b hb => ?_) (fun b hb => ?_)
  · have := (hT' b hb).1
    exact this.imp (fun h => h) (fun h => ⟨h.1, by rw [hs]; exact h.2⟩)
  · have := (hT' b hb).2
    rw [Below.heap_setCell _ ⟨w.heap.size + 1, 1, none⟩ _ _ this, Below.heap_setCell _ ⟨w.heap.size + 1, 0, none⟩ _ _ this]

/-- a call of l2Sub within l4Turn -/
theorem sub_turn (w : World) (T : Nat → Prop) (hT : ∀ b, T b → b < w.heap.size) (a0 : List UInt8) (A0 : Option Addr) (l0 c0 : Nat) (a : List UInt8) (A : Option Addr) (c : Nat) (k : Fo) (h : OkT a k) (hs : treeSize a k ≤ 300) (hA : Sl w T A k)
    (ba : List UInt8) (BA : Option Addr) (bc : Nat) (bk : Fo) (hb : OkT ba bk) (hsb : treeSize ba bk ≤ 300) (hB : Sl w T BA bk) (x : List UInt8) (hx : isName x = true) :
    Calls Tryz.prog 73 #[.agg #[S a, .slice A k.len c], S x, .agg #[S ba, .slice BA bk.len bc]] ((w.alloc (.cells #[S a0, .slice A0 l0 c0] 40)).alloc (.cells #[S [], .slice none 0 0] 40)).drew fun e w3 =>
      ∃ A5 c5, e = .returned (.agg #[S (sbA x ba a), .slice A5 (sbK x a k ba bk).len c5]) ∧
        (w3.cell? ⟨w.heap.size + 1, 0, none⟩ = some (S []) ∧ w3.cell? ⟨w.heap.size + 1, 1, none⟩ = some (.slice none 0 0) ∧ w3.frozen? ⟨w.heap.size + 1, 0, none⟩ = false ∧ w3.frozen? ⟨w.heap.size + 1, 1, none⟩ = false ∧ w.heap.size + 1 < w3.heap.size) ∧ Hid (∀ g j v, g < w.heap.size → w.cell? ⟨g, j, none⟩ = some v → w3.cell? ⟨g, j, none⟩ = some v) ∧
        Hid (∀ v0 v1, TurnP T (sbA x ba a) (sbK x a k ba bk) w (.returned (.agg #[S (sbA x ba a), .slice A5 (sbK x a k ba bk).len c5])) ((w3.setCell ⟨w.heap.size + 1, 0, none⟩ v0).setCell ⟨w.heap.size + 1, 1, none⟩ v1)) := by
  obtain ⟨W, hW⟩ : ∃ W, W = ((w.alloc (.cells #[S a0, .slice A0 l0 c0] 40)).alloc (.cells #[S [], .slice none 0 0] 40)).drew := ⟨_, rfl⟩
  have hfW : Fr No w W := by rw [hW]; exact (((Fr.refl _ _).alloc _).alloc _).drew
  have bR : Blk W (w.heap.size + 1) 40 #[S [], .slice none 0 0] := by rw [hW]; exact (Blk.new_at _ _ _ (by simp)).drew
  have hz : W.heap.size = w.heap.size + 2 := by rw [hW]; show ((w.alloc _).alloc _).heap.size = _; simp
  rw [← hW]
  clear hW
  have hTk : ∀ b, T b → W.heap[b]? = w.heap[b]? := fun b hb => hfW.block b (hT b hb) (fun h => h)
  refine (sub_any W T a A c k h hs (fun b hb => by have := hT b hb; omega) (hA.mono (fun _ h => h) hTk) ba BA bc bk hb hsb (hB.mono (fun _ h => h) hTk) x hx).mono ?_
  rintro e w3 ⟨A5, c5, rfl, g1, g2⟩
  have r3 := bR.fr g1 (fun h => h)
  refine ⟨A5, c5, rfl, ⟨(r3.cell 0).trans rfl, (r3.cell 1).trans rfl, r3.frozen 0, r3.frozen 1, r3.lt⟩, fun g j v hg hv => fr_cell0 (hfW.trans g1) hg hv, fun v0 v1 => ?_⟩
  refine turn_fin (T' := TN T W w3) (hfW.trans g1) (fun b hb => ?_) g2 v0 v1
  rcases hb with hb | hb
  · exact ⟨.inl hb, by have := hT b hb; omega⟩
  · exact ⟨.inr ⟨by omega, hb.2⟩, by omega⟩

set_option maxRecDepth 100000 in
set_option maxHeartbeats 4000000 in
theorem turn_any (w : World) (T : Nat → Prop) (A : Option Addr) (c : Nat) (k : Fo) (h : OkT [] k) (hx : rxF k = true) (hs : k.size ≤ 300) (hA : Sl w T A k) (hT : ∀ b, T b → b < w.heap.size) :
    Calls Tryz.prog 46 #[.agg #[S [], .slice A k.len c]] w fun e w' => TurnP T (rdFA k) (rdFK k) w e w' := by
  have hk := kdT h
  have P : ∀ (W : World) (A : Option Addr) (k : Fo), Sl w T A k → ∀ j, j < k.len → ∃ g o a' k' A' c', A = some ⟨g, o, none⟩ ∧ g < w.heap.size ∧ k.nth j = some (a', k') ∧ w.cell? ⟨g, o + j * 2, none⟩ = some (S a') ∧ w.cell? ⟨g, o + j * 2 + 1, none⟩ = some (.slice A' k'.len c') ∧ Sl w T A' k' := fun W A k hA j hj => by
    obtain ⟨g, o, a', k', A', c', e1, e2, e3, e4, e5, e6⟩ := hA.nth hj
    exact ⟨g, o, a', k', A', c', e1, hT g e2, e3, e4, e5, e6⟩
  have FQ : Hid (∀ (X Y : Obj) (a' : List UInt8) (k' : Fo) (A' : Option Addr) (c' : Nat), Sl w T A' k' → TurnP T a' k' w (.returned (.agg #[S a', .slice A' k'.len c'])) ((w.alloc X).alloc Y)) := fun X Y a' k' A' c' hs => by
    have hf : Fr No w ((w.alloc X).alloc Y) := ((Fr.refl _ _).alloc _).alloc _
    exact ⟨A', c', rfl, hf, hs.mono (fun _ h => .inl h) (fun b hb => hf.block b (hT b hb) (fun h => h))⟩
  have l0 : 1 < k.len := by cases hk <;> simp [Fo.len]
  obtain ⟨g, o, h0, k0, A0, c0, rfl, lg, n0, x0, _, _⟩ := P w A k hA 0 (by omega)
  obtain ⟨g', o', a1, k1, A1, c1, e, _, n1, x1, x2, s1⟩ := P w _ k hA 1 l0
  simp only [Option.some.injEq, Addr.mk.injEq, and_true] at e
  obtain ⟨rfl, rfl⟩ := e
  have y0 : w.cell? ⟨g, o, none⟩ = some (S h0) := x0
  have y1 : w.cell? ⟨g, o + 2, none⟩ = some (S a1) := x1
  have y2 : w.cell? ⟨g, o + 2 + 1, none⟩ = some (.slice A1 k1.len c1) := x2
  clear x0 x1 x2
  cases hk with
  | one hh b1 j1 hg =>
    obtain ⟨rfl, rfl⟩ : hh = h0 ∧ Fo.nil = k0 := by simpa [Fo.nth] using n0
    obtain ⟨rfl, rfl⟩ : b1 = a1 ∧ j1 = k1 := by simpa [Fo.nth] using n1
    have hb1 : b1 = [] ∧ hd1 j1 = hPair := by
      rcases hg with rfl | rfl
      · simpa [rxF, show (hFst == hLet) = false from by decide, show (hFst == hApp) = false from by decide, show (hFst == hIf) = false from by decide, show (hFst == hFst) = true from by decide] using hx
      · simpa [rxF, show (hSnd == hLet) = false from by decide, show (hSnd == hApp) = false from by decide, show (hSnd == hIf) = false from by decide, show (hSnd == hSnd) = true from by decide] using hx
    obtain ⟨rfl, hb2⟩ := hb1
    have hoj : OkT [] j1 := by cases kdT h <;> assumption
    obtain ⟨a2, k2, a3, k3, rfl, _, _⟩ := pair_of hoj hb2
    obtain ⟨g1, o1, b2, j2, A2, c2, rfl, lg1, m1, z1, z2, t1⟩ := P w A1 _ s1 1 (by simp [Fo.len])
    obtain ⟨g1', o1', b3, j3, A3, c3, e, _, m2, z3, z4, t2⟩ := P w _ _ s1 2 (by simp [Fo.len])
    simp only [Option.some.injEq, Addr.mk.injEq, and_true] at e
    obtain ⟨rfl, rfl⟩ := e
    obtain ⟨rfl, rfl⟩ : a2 = b2 ∧ k2 = j2 := by simpa [Fo.nth] using m1
    obtain ⟨rfl, rfl⟩ : a3 = b3 ∧ k3 = j3 := by simpa [Fo.nth] using m2
    have u1 : w.cell? ⟨g1, o1 + 2, none⟩ = some (S a2) := z1
    have u2 : w.cell? ⟨g1, o1 + 2 + 1, none⟩ = some (.slice A2 k2.len c2) := z2
    have u3 : w.cell? ⟨g1, o1 + 4, none⟩ = some (S a3) := z3
    have u4 : w.cell? ⟨g1, o1 + 4 + 1, none⟩ = some (.slice A3 k3.len c3) := z4
    clear z1 z2 z3 z4 P hT hA s1 n0 n1 m1 m2
    rcases hg with rfl | rfl
    · have er1 : rdFA (.cons hFst .nil (.cons [] (.cons hPair .nil (.cons a2 k2 (.cons a3 k3 .nil))) .nil)) = a2 := rfl
      have er2 : rdFK (.cons hFst .nil (.cons [] (.cons hPair .nil (.cons a2 k2 (.cons a3 k3 .nil))) .nil)) = k2 := rfl
      rw [er1, er2]
      simp only [Fo.len, Nat.reduceAdd, Nat.zero_add] at y2 ⊢
      have FIN := Lib.hid (fun X Y => FQ.out X Y a2 k2 A2 c2 t1)
      obtain ⟨kl, HKL⟩ : ∃ z, Hid (k2.len = z) := ⟨_, rfl⟩
      rw [HKL.out] at u2 FIN
      unfold hFst at y0
      clear er1 er2 h hx hs l0 t1 t2 hb2 hoj FQ
      go_enter Tryz.func46, Tryz.ntmps46
      go_wp2_with fail
      refine bodyPost_ret (v := .agg #[S a2, .slice A2 kl c2]) (by simp [results, Tryz.results46, go_sem]) rfl ?_
      exact FIN.out _ _
    · have er1 : rdFA (.cons hSnd .nil (.cons [] (.cons hPair .nil (.cons a2 k2 (.cons a3 k3 .nil))) .nil)) = a3 := rfl
      have er2 : rdFK (.cons hSnd .nil (.cons [] (.cons hPair .nil (.cons a2 k2 (.cons a3 k3 .nil))) .nil)) = k3 := rfl
      rw [er1, er2]
      simp only [Fo.len, Nat.reduceAdd, Nat.zero_add] at y2 ⊢
      have FIN := Lib.hid (fun X Y => FQ.out X Y a3 k3 A3 c3 t2)
      obtain ⟨kl, HKL⟩ : ∃ z, Hid (k3.len = z) := ⟨_, rfl⟩
      rw [HKL.out] at u4 FIN
      unfold hSnd at y0
      clear er1 er2 h hx hs l0 t1 t2 hb2 hoj FQ
      go_enter Tryz.func46, Tryz.ntmps46
      go_wp2_with fail
      refine bodyPost_ret (v := .agg #[S a3, .slice A3 kl c3]) (by simp [results, Tryz.results46, go_sem]) rfl ?_
      exact FIN.out _ _
  | two hh b1 j1 a2 k2 hg o1' o2 =>
    obtain ⟨rfl, rfl⟩ : hh = h0 ∧ Fo.nil = k0 := by simpa [Fo.nth] using n0
    obtain ⟨rfl, rfl⟩ : b1 = a1 ∧ j1 = k1 := by simpa [Fo.nth] using n1
    have hb1 : hh = hApp ∧ b1 = [] ∧ hd1 j1 = hLam := by
      rcases hg with rfl | rfl
      · exact ⟨rfl, by simpa [rxF, show (hApp == hLet) = false from by decide, show (hApp == hFst) = false from by decide, show (hApp == hSnd) = false from by decide, show (hApp == hIf) = false from by decide, show (hApp == hApp) = true from by decide] using hx⟩
      · simp [rxF, show (hPair == hLet) = false from by decide, show (hPair == hFst) = false from by decide, show (hPair == hSnd) = false from by decide, show (hPair == hIf) = false from by decide, show (hPair == hApp) = false from by decide] at hx
    obtain ⟨rfl, rfl, hb2⟩ := hb1
    obtain ⟨x, kx, a3, k3, rfl, hn, o3⟩ := lam_of o1' hb2
    obtain ⟨g2, o2', b2', j2', A2, c2, e, _, m1, z1, z2, t1⟩ := P w _ _ hA 2 (by simp [Fo.len])
    simp only [Option.some.injEq, Addr.mk.injEq, and_true] at e
    obtain ⟨rfl, rfl⟩ := e
    obtain ⟨rfl, rfl⟩ : a2 = b2' ∧ k2 = j2' := by simpa [Fo.nth] using m1
    obtain ⟨g1, o1, b4', j4', A4, c4, rfl, lg1, m3, z5, _, _⟩ := P w A1 _ s1 1 (by simp [Fo.len])
    obtain ⟨g3, o3', b3', j3', A3, c3, e, _, m2, z3, z4, t2⟩ := P w _ _ s1 2 (by simp [Fo.len])
    simp only [Option.some.injEq, Addr.mk.injEq, and_true] at e
    obtain ⟨rfl, rfl⟩ := e
    obtain ⟨rfl, rfl⟩ : a3 = b3' ∧ k3 = j3' := by simpa [Fo.nth] using m2
    obtain ⟨rfl, rfl⟩ : x = b4' ∧ kx = j4' := by simpa [Fo.nth] using m3
    have u1 : w.cell? ⟨g, o + 4, none⟩ = some (S a2) := z1
    have u2 : w.cell? ⟨g, o + 4 + 1, none⟩ = some (.slice A2 k2.len c2) := z2
    have u3 : w.cell? ⟨g1, o1 + 4, none⟩ = some (S a3) := z3
    have u4 : w.cell? ⟨g1, o1 + 4 + 1, none⟩ = some (.slice A3 k3.len c3) := z4
    have u5 : w.cell? ⟨g1, o1 + 2, none⟩ = some (S x) := z5
    clear z1 z2 z3 z4 z5
    have er1 : rdFA (.cons hApp .nil (.cons [] (.cons hLam .nil (.cons x kx (.cons a3 k3 .nil))) (.cons a2 k2 .nil))) = sbA x a2 a3 := rfl
    have er2 : rdFK (.cons hApp .nil (.cons [] (.cons hLam .nil (.cons x kx (.cons a3 k3 .nil))) (.cons a2 k2 .nil))) = sbK x a3 k3 a2 k2 := rfl
    rw [er1, er2]
    simp only [Fo.len, Nat.reduceAdd, Nat.zero_add] at y2 ⊢
    have hsz : treeSize a2 k2 ≤ 300 ∧ treeSize a3 k3 ≤ 300 := by simp only [Fo.size, if_true] at hs; unfold treeSize; omega
    have SB := Lib.hid (sub_turn w T hT [] (some ⟨g, o, none⟩) 3 c a3 A3 c3 k3 o3 hsz.2 t2 a2 A2 c2 k2 o2 hsz.1 t1 x hn)
    obtain ⟨W, HW⟩ : ∃ W, Hid (W = (w.alloc (.cells #[S [], .slice (some ⟨g, o, none⟩) 3 c] 40)).alloc (.cells #[S [], .slice none 0 0] 40)) := ⟨_, Lib.hid rfl⟩
    have hfW : Fr No w W := by rw [HW.out]; exact ((Fr.refl _ _).alloc _).alloc _
    have bR : Blk W (w.heap.size + 1) 40 #[S [], .slice none 0 0] := by rw [HW.out]; exact Blk.new_at _ _ _ (by simp)
    rw [← HW.out] at SB
    obtain ⟨B1, hB1⟩ : ∃ z, w.heap.size + 1 = z := ⟨_, rfl⟩
    have d1 : W.cell? ⟨g1, o1 + 2, none⟩ = some (S x) := fr_cell0 hfW lg1 u5
    have d2 : W.cell? ⟨g, o + 4, none⟩ = some (S a2) := fr_cell0 hfW lg u1
    have d3 : W.cell? ⟨g, o + 4 + 1, none⟩ = some (.slice A2 k2.len c2) := fr_cell0 hfW lg u2
    have d4 : W.cell? ⟨g1, o1 + 4, none⟩ = some (S a3) := fr_cell0 hfW lg1 u3
    have d5 : W.cell? ⟨g1, o1 + 4 + 1, none⟩ = some (.slice A3 k3.len c3) := fr_cell0 hfW lg1 u4
    have d6 : W.cell? ⟨g, o + 2 + 1, none⟩ = some (.slice (some ⟨g1, o1, none⟩) 3 c1) := fr_cell0 hfW lg y2
    have lgW : g < W.heap.size := Nat.lt_of_lt_of_le lg hfW.size
    have lgW1 : g1 < W.heap.size := Nat.lt_of_lt_of_le lg1 hfW.size
    have q1 : g ≠ B1 := by omega
    have q2 : B1 ≠ g := by omega
    have q3 : g1 ≠ B1 := by omega
    have q4 : B1 ≠ g1 := by omega
    have r0 : W.cell? ⟨B1, 0, none⟩ = some (S []) := by rw [← hB1]; exact (bR.cell 0).trans rfl
    have r1 : W.cell? ⟨B1, 1, none⟩ = some (.slice none 0 0) := by rw [← hB1]; exact (bR.cell 1).trans rfl
    have r2 : W.frozen? ⟨B1, 0, none⟩ = false := by rw [← hB1]; exact bR.frozen 0
    have r3 : W.frozen? ⟨B1, 1, none⟩ = false := by rw [← hB1]; exact bR.frozen 1
    have r4 : B1 < W.heap.size := by rw [← hB1]; exact bR.lt
    rw [hB1] at SB
    have HB1 := Lib.hid hB1
    obtain ⟨kl2, HK2⟩ : ∃ z, Hid (k2.len = z) := ⟨_, rfl⟩
    obtain ⟨kl3, HK3⟩ : ∃ z, Hid (k3.len = z) := ⟨_, rfl⟩
    obtain ⟨ra, HRA⟩ : ∃ z, Hid (sbA x a2 a3 = z) := ⟨_, rfl⟩
    obtain ⟨rk, HRK⟩ : ∃ z, Hid (sbK x a3 k3 a2 k2 = z) := ⟨_, rfl⟩
    obtain ⟨rl, HRL⟩ : ∃ z, Hid (rk.len = z) := ⟨_, rfl⟩
    rw [HRA.out, HRK.out] at SB ⊢
    rw [HRL.out] at SB
    rw [HK2.out] at SB d3 u2
    rw [HK3.out] at SB d5 u4
    have Y1 := Lib.hid y2
    have U1 := Lib.hid u1
    have U2 := Lib.hid u2
    have U3 := Lib.hid u3
    have U4 := Lib.hid u4
    have U5 := Lib.hid u5
    unfold hApp at y0
    clear er1 er2 h hx hs l0 t1 t2 FQ P hT hA s1 n0 n1 m1 m2 m3 u1 u2 u3 u4 u5 hsz hn o1' o2 o3 hfW bR hB1 y1 y2 hb2 hg
    go_enter Tryz.func46, Tryz.ntmps46
    go_wp2_with fail
    rw [← HW.out, HB1.out]
    go_region_held3 (fun w' => w'.cell? ⟨g1, o1 + 2, none⟩ = some (S x) ∧ w'.cell? ⟨g, o + 4, none⟩ = some (S a2) ∧ w'.cell? ⟨g, o + 4 + 1, none⟩ = some (.slice A2 kl2 c2) ∧ w'.cell? ⟨g1, o1 + 4, none⟩ = some (S a3) ∧ w'.cell? ⟨g1, o1 + 4 + 1, none⟩ = some (.slice A3 kl3 c3) ∧ w'.cell? ⟨g, o + 2 + 1, none⟩ = some (.slice (some ⟨g1, o1, none⟩) 3 c1)) (go_keep)
      (first | (go_at_call 73; ((with_reducible refine SB.out.mono ?_); rintro e w3 ⟨A5, c5, rfl, ⟨s0, s1, s2, s3, s4⟩, KP, FIN⟩; have k1 := KP.out _ _ _ lg1 U5.out; have k2 := KP.out _ _ _ lg U1.out; have k3 := KP.out _ _ _ lg U2.out; have k4 := KP.out _ _ _ lg1 U3.out; have k5 := KP.out _ _ _ lg1 U4.out; have k6 := KP.out _ _ _ lg Y1.out)))
    go_wp2_with fail
    refine bodyPost_ret (v := .agg #[S ra, .slice A5 rl c5]) (by simp [results, Tryz.results46, go_sem, cell_set_same s0, cell_set_next s1]) rfl ?_
    exact FIN.out _ _
  | let_ x kx a2 k2 a3 k3 hn o2 o3 =>
    obtain ⟨rfl, rfl⟩ : hLet = h0 ∧ Fo.nil = k0 := by simpa [Fo.nth] using n0
    obtain ⟨rfl, rfl⟩ : x = a1 ∧ kx = k1 := by simpa [Fo.nth] using n1
    obtain ⟨g2, o2', b2', j2', A2, c2, e, _, m1, z1, z2, t1⟩ := P w _ _ hA 2 (by simp [Fo.len])
    simp only [Option.some.injEq, Addr.mk.injEq, and_true] at e
    obtain ⟨rfl, rfl⟩ := e
    obtain ⟨rfl, rfl⟩ : a2 = b2' ∧ k2 = j2' := by simpa [Fo.nth] using m1
    obtain ⟨g3, o3', b3', j3', A3, c3, e, _, m2, z3, z4, t2⟩ := P w _ _ hA 3 (by simp [Fo.len])
    simp only [Option.some.injEq, Addr.mk.injEq, and_true] at e
    obtain ⟨rfl, rfl⟩ := e
    obtain ⟨rfl, rfl⟩ : a3 = b3' ∧ k3 = j3' := by simpa [Fo.nth] using m2
    have u1 : w.cell? ⟨g, o + 4, none⟩ = some (S a2) := z1
    have u2 : w.cell? ⟨g, o + 4 + 1, none⟩ = some (.slice A2 k2.len c2) := z2
    have u3 : w.cell? ⟨g, o + 6, none⟩ = some (S a3) := z3
    have u4 : w.cell? ⟨g, o + 6 + 1, none⟩ = some (.slice A3 k3.len c3) := z4
    clear z1 z2 z3 z4
    have er1 : rdFA (.cons hLet .nil (.cons x kx (.cons a2 k2 (.cons a3 k3 .nil)))) = sbA x a2 a3 := rfl
    have er2 : rdFK (.cons hLet .nil (.cons x kx (.cons a2 k2 (.cons a3 k3 .nil)))) = sbK x a3 k3 a2 k2 := rfl
    rw [er1, er2]
    simp only [Fo.len, Nat.reduceAdd, Nat.zero_add]
    have p2 := isTm_size o2.tm
    have hsz : treeSize a2 k2 ≤ 300 ∧ treeSize a3 k3 ≤ 300 := by simp only [Fo.size] at hs; unfold treeSize; omega
    have SB := Lib.hid (sub_turn w T hT [] (some ⟨g, o, none⟩) 4 c a3 A3 c3 k3 o3 hsz.2 t2 a2 A2 c2 k2 o2 hsz.1 t1 x hn)
    obtain ⟨W, HW⟩ : ∃ W, Hid (W = (w.alloc (.cells #[S [], .slice (some ⟨g, o, none⟩) 4 c] 40)).alloc (.cells #[S [], .slice none 0 0] 40)) := ⟨_, Lib.hid rfl⟩
    have hfW : Fr No w W := by rw [HW.out]; exact ((Fr.refl _ _).alloc _).alloc _
    have bR : Blk W (w.heap.size + 1) 40 #[S [], .slice none 0 0] := by rw [HW.out]; exact Blk.new_at _ _ _ (by simp)
    rw [← HW.out] at SB
    obtain ⟨B1, hB1⟩ : ∃ z, w.heap.size + 1 = z := ⟨_, rfl⟩
    have d1 : W.cell? ⟨g, o + 2, none⟩ = some (S x) := fr_cell0 hfW lg y1
    have d2 : W.cell? ⟨g, o + 4, none⟩ = some (S a2) := fr_cell0 hfW lg u1
    have d3 : W.cell? ⟨g, o + 4 + 1, none⟩ = some (.slice A2 k2.len c2) := fr_cell0 hfW lg u2
    have d4 : W.cell? ⟨g, o + 6, none⟩ = some (S a3) := fr_cell0 hfW lg u3
    have d5 : W.cell? ⟨g, o + 6 + 1, none⟩ = some (.slice A3 k3.len c3) := fr_cell0 hfW lg u4
    have lgW : g < W.heap.size := Nat.lt_of_lt_of_le lg hfW.size
    have q1 : g ≠ B1 := by omega
    have q2 : B1 ≠ g := by omega
    have r0 : W.cell? ⟨B1, 0, none⟩ = some (S []) := by rw [← hB1]; exact (bR.cell 0).trans rfl
    have r1 : W.cell? ⟨B1, 1, none⟩ = some (.slice none 0 0) := by rw [← hB1]; exact (bR.cell 1).trans rfl
    have r2 : W.frozen? ⟨B1, 0, none⟩ = false := by rw [← hB1]; exact bR.frozen 0
    have r3 : W.frozen? ⟨B1, 1, none⟩ = false := by rw [← hB1]; exact bR.frozen 1
    have r4 : B1 < W.heap.size := by rw [← hB1]; exact bR.lt
    rw [hB1] at SB
    have HB1 := Lib.hid hB1
    obtain ⟨kl2, HK2⟩ : ∃ z, Hid (k2.len = z) := ⟨_, rfl⟩
    obtain ⟨kl3, HK3⟩ : ∃ z, Hid (k3.len = z) := ⟨_, rfl⟩
    obtain ⟨ra, HRA⟩ : ∃ z, Hid (sbA x a2 a3 = z) := ⟨_, rfl⟩
    obtain ⟨rk, HRK⟩ : ∃ z, Hid (sbK x a3 k3 a2 k2 = z) := ⟨_, rfl⟩
    obtain ⟨rl, HRL⟩ : ∃ z, Hid (rk.len = z) := ⟨_, rfl⟩
    rw [HRA.out, HRK.out] at SB ⊢
    rw [HRL.out] at SB
    rw [HK2.out] at SB d3 u2
    rw [HK3.out] at SB d5 u4
    have Y1 := Lib.hid y1
    have U1 := Lib.hid u1
    have U2 := Lib.hid u2
    have U3 := Lib.hid u3
    have U4 := Lib.hid u4
    unfold hLet at y0
    clear er1 er2 h hx hs l0 t1 t2 FQ P hT hA s1 n0 n1 m1 m2 u1 u2 u3 u4 hsz p2 hn o2 o3 hfW bR hB1 y1 y2
    go_enter Tryz.func46, Tryz.ntmps46
    go_wp2_with fail
    rw [← HW.out, HB1.out]
    go_region_held3 (fun w' => w'.cell? ⟨g, o + 2, none⟩ = some (S x) ∧ w'.cell? ⟨g, o + 4, none⟩ = some (S a2) ∧ w'.cell? ⟨g, o + 4 + 1, none⟩ = some (.slice A2 kl2 c2) ∧ w'.cell? ⟨g, o + 6, none⟩ = some (S a3) ∧ w'.cell? ⟨g, o + 6 + 1, none⟩ = some (.slice A3 kl3 c3)) (go_keep)
      (first | (go_at_call 73; ((with_reducible refine SB.out.mono ?_); rintro e w3 ⟨A5, c5, rfl, ⟨s0, s1, s2, s3, s4⟩, KP, FIN⟩; have k1 := KP.out _ _ _ lg Y1.out; have k2 := KP.out _ _ _ lg U1.out; have k3 := KP.out _ _ _ lg U2.out; have k4 := KP.out _ _ _ lg U3.out; have k5 := KP.out _ _ _ lg U4.out)))
    go_wp2_with fail
    refine bodyPost_ret (v := .agg #[S ra, .slice A5 rl c5]) (by simp [results, Tryz.results46, go_sem, cell_set_same s0, cell_set_next s1]) rfl ?_
    exact FIN.out _ _
  | lam x kx a2 k2 => exact absurd hx (by simp [rxF, show (hLam == hLet) = false from by decide, show (hLam == hApp) = false from by decide, show (hLam == hFst) = false from by decide, show (hLam == hSnd) = false from by decide, show (hLam == hIf) = false from by decide])
  | if_ b1 j1 b2 j2 b3 j3 =>
    obtain ⟨rfl, rfl⟩ : hIf = h0 ∧ Fo.nil = k0 := by simpa [Fo.nth] using n0
    obtain ⟨rfl, rfl⟩ : b1 = a1 ∧ j1 = k1 := by simpa [Fo.nth] using n1
    by_cases ht : b1 = [116, 114, 117, 101]
    · subst ht
      have er1 : rdFA (.cons hIf .nil (.cons [116, 114, 117, 101] j1 (.cons b2 j2 (.cons b3 j3 .nil)))) = b2 := rfl
      have er2 : rdFK (.cons hIf .nil (.cons [116, 114, 117, 101] j1 (.cons b2 j2 (.cons b3 j3 .nil)))) = j2 := rfl
      obtain ⟨g2, o2', b2', j2', A2, c2, e, _, m1, z1, z2, t1⟩ := P w _ _ hA 2 (by simp [Fo.len])
      simp only [Option.some.injEq, Addr.mk.injEq, and_true] at e
      obtain ⟨rfl, rfl⟩ := e
      obtain ⟨rfl, rfl⟩ : b2 = b2' ∧ j2 = j2' := by simpa [Fo.nth] using m1
      have u1 : w.cell? ⟨g, o + 4, none⟩ = some (S b2) := z1
      have u2 : w.cell? ⟨g, o + 4 + 1, none⟩ = some (.slice A2 j2.len c2) := z2
      rw [er1, er2]
      have FIN := Lib.hid (fun X Y => FQ.out X Y b2 j2 A2 c2 t1)
      obtain ⟨kl, HKL⟩ : ∃ z, Hid (j2.len = z) := ⟨_, rfl⟩
      rw [HKL.out] at u2 FIN
      simp only [Fo.len, Nat.reduceAdd, Nat.zero_add] at ⊢
      unfold hIf at y0
      clear z1 z2 P hT hA s1 n0 n1 m1 er1 er2 h hx hs l0 t1 FQ
      go_enter Tryz.func46, Tryz.ntmps46
      go_wp2_with fail
      refine bodyPost_ret (v := .agg #[S b2, .slice A2 kl c2]) (by simp [results, Tryz.results46, go_sem]) rfl ?_
      exact FIN.out _ _
    · have hn : ¬ b1 = tTrue := ht
      have er1 : rdFA (.cons hIf .nil (.cons b1 j1 (.cons b2 j2 (.cons b3 j3 .nil)))) = b3 := by
        show (if b1 = tTrue then b2 else b3) = b3
        rw [if_neg hn]
      have er2 : rdFK (.cons hIf .nil (.cons b1 j1 (.cons b2 j2 (.cons b3 j3 .nil)))) = j3 := by
        show (if b1 = tTrue then j2 else j3) = j3
        rw [if_neg hn]
      have nt : (b1 == [116, 114, 117, 101]) = false := beq_eq_false_iff_ne.2 ht
      obtain ⟨g2, o2', b2', j2', A2, c2, e, _, m1, z1, z2, t1⟩ := P w _ _ hA 3 (by simp [Fo.len])
      simp only [Option.some.injEq, Addr.mk.injEq, and_true] at e
      obtain ⟨rfl, rfl⟩ := e
      obtain ⟨rfl, rfl⟩ : b3 = b2' ∧ j3 = j2' := by simpa [Fo.nth] using m1
      have u1 : w.cell? ⟨g, o + 6, none⟩ = some (S b3) := z1
      have u2 : w.cell? ⟨g, o + 6 + 1, none⟩ = some (.slice A2 j3.len c2) := z2
      rw [er1, er2]
      have FIN := Lib.hid (fun X Y => FQ.out X Y b3 j3 A2 c2 t1)
      obtain ⟨kl, HKL⟩ : ∃ z, Hid (j3.len = z) := ⟨_, rfl⟩
      rw [HKL.out] at u2 FIN
      simp only [Fo.len, Nat.reduceAdd, Nat.zero_add] at ⊢
      unfold hIf at y0
      clear z1 z2 P hT hA s1 n0 n1 m1 er1 er2 h hx hs l0 t1 FQ
      go_enter Tryz.func46, Tryz.ntmps46
      go_wp2_with fail
      refine bodyPost_ret (v := .agg #[S b3, .slice A2 kl c2]) (by simp [results, Tryz.results46, go_sem]) rfl ?_
      exact FIN.out _ _
end Go.Proofs.YtnjgaenhjdjpfaaGreatDoor
