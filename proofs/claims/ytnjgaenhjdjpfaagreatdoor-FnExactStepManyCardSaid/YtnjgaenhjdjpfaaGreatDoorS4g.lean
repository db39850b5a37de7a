/- Steps of the model: l4Grows. -/
import Derived.Test.YtnjgaenhjdjpfaaGreatDoorS4t
import Derived.Test.YtnjgaenhjdjpfaaGreatDoorTput
namespace Go.Proofs.YtnjgaenhjdjpfaaGreatDoor
open Go.RowKit Go.ChangeMaps

/-- the three calls of l4Grows -/
theorem grow_calls (w : World) (T : Nat → Prop) (hT : ∀ b, T b → b < w.heap.size) (o0 : Obj) (a : List UInt8) (A : Option Addr) (c : Nat) (k : Fo) (h : OkT a k) (hs : treeSize a k ≤ 300) (hA : Sl w T A k)
    (ba : List UInt8) (BA : Option Addr) (bc : Nat) (bk : Fo) (hb : OkT ba bk) (hsb : treeSize ba bk ≤ 300) (hB : Sl w T BA bk) (x : List UInt8) :
    Calls Tryz.prog 43 #[.agg #[S a, .slice A k.len c]] (w.alloc o0).drew fun e w3 => e = .returned (.int .i64 (treeSize a k : Nat)) ∧ Hid (∀ g j v, g < w.heap.size → w.cell? ⟨g, j, none⟩ = some v → w3.cell? ⟨g, j, none⟩ = some v) ∧
      Hid (Calls Tryz.prog 72 #[.agg #[S a, .slice A k.len c], S x] w3 fun e w4 => e = .returned (.int .i64 (usT x a k : Nat)) ∧ Hid (∀ g j v, g < w.heap.size → w.cell? ⟨g, j, none⟩ = some v → w4.cell? ⟨g, j, none⟩ = some v) ∧
        Hid (Calls Tryz.prog 43 #[.agg #[S ba, .slice BA bk.len bc]] w4 fun e w5 => e = .returned (.int .i64 (treeSize ba bk : Nat)) ∧ Hid (∀ g j v, g < w.heap.size → w.cell? ⟨g, j, none⟩ = some v → w5.cell? ⟨g, j, none⟩ = some v) ∧ Hid (Fr No w w5))) := by
  have hf0 : Fr No w (w.alloc o0).drew := ((Fr.refl _ _).alloc _).drew
  have hTk : ∀ w', Fr No w w' → ∀ b, T b → w'.heap[b]? = w.heap[b]? := fun w' hf b hb => hf.block b (hT b hb) (fun h => h)
  have hTl : ∀ w', Fr No w w' → ∀ b, T b → b < w'.heap.size := fun w' hf b hb => Nat.lt_of_lt_of_le (hT b hb) hf.size
  obtain ⟨_, q2, q3⟩ := term_small2 h (by omega)
  obtain ⟨_, r2, r3⟩ := term_small2 hb (by omega)
  refine (size_any _ k (Nat.lt_succ_self _) a A c _ T (by omega) q2 q3 (hTl _ hf0) (hA.mono (fun _ h => h) (hTk _ hf0))).mono ?_
  rintro e w3 ⟨rfl, g1⟩
  have hf3 := hf0.trans g1
  refine ⟨rfl, fun g j v hg hv => fr_cell0 hf3 hg hv, ?_⟩
  refine Lib.hid ((uses_any x _ k (Nat.lt_succ_self _) a A c w3 T h.tm (by omega) (hTl _ hf3) (hA.mono (fun _ h => h) (hTk _ hf3))).mono ?_)
  rintro e w4 ⟨rfl, g2⟩
  have hf4 := hf3.trans g2
  refine ⟨rfl, fun g j v hg hv => fr_cell0 hf4 hg hv, ?_⟩
  refine Lib.hid ((size_any _ bk (Nat.lt_succ_self _) ba BA bc w4 T (by omega) r2 r3 (hTl _ hf4) (hB.mono (fun _ h => h) (hTk _ hf4))).mono ?_)
  rintro e w5 ⟨rfl, g3⟩
  exact ⟨rfl, fun g j v hg hv => fr_cell0 (hf4.trans g3) hg hv, hf4.trans g3⟩

set_option maxRecDepth 100000 in
set_option maxHeartbeats 4000000 in
theorem grows_any (w : World) (T : Nat → Prop) (A : Option Addr) (c : Nat) (k : Fo) (h : OkT [] k) (hx : rxF k = true) (hs : k.size ≤ 300) (hA : Sl w T A k) (hT : ∀ b, T b → b < w.heap.size) :
    Calls Tryz.prog 45 #[.agg #[S [], .slice A k.len c]] w fun e w' => e = .returned (.bool (grF k)) ∧ Fr No w w' := by
  have hk := kdT h
  have P : ∀ (W : World) (A : Option Addr) (k : Fo), Sl w T A k → ∀ j, j < k.len → ∃ g o a' k' A' c', A = some ⟨g, o, none⟩ ∧ g < w.heap.size ∧ k.nth j = some (a', k') ∧ w.cell? ⟨g, o + j * 2, none⟩ = some (S a') ∧ w.cell? ⟨g, o + j * 2 + 1, none⟩ = some (.slice A' k'.len c') ∧ Sl w T A' k' := fun W A k hA j hj => by
    obtain ⟨g, o, a', k', A', c', e1, e2, e3, e4, e5, e6⟩ := hA.nth hj
    exact ⟨g, o, a', k', A', c', e1, hT g e2, e3, e4, e5, e6⟩
  have FQ : Hid (∀ (X : Obj), Fr No w (w.alloc X)) := fun X => (Fr.refl _ _).alloc _
  have l0 : 1 < k.len := by cases hk <;> simp [Fo.len]
  obtain ⟨g, o, h0, k0, A0, c0, rfl, lg, n0, x0, _, _⟩ := P w A k hA 0 (by omega)
  obtain ⟨g', o', a1, k1, A1, c1, e, _, n1, x1, x2, s1⟩ := P w _ k hA 1 l0
  simp only [Option.some.injEq, Addr.mk.injEq, and_true] at e
  obtain ⟨rfl, rfl⟩ := e
  have y0 : w.cell? ⟨g, o, none⟩ = some (S h0) := x0
  have y1 : w.cell? ⟨g, o + 2, none⟩ = some (S a1) := x1
  have y2 : w.cell? ⟨g, o + 2 + 1, none⟩ = some (.slice A1 k1.len c1) := x2
  clear x0 x1 x2
  cases hk with
  | one hh b1 j1 hg =>
    obtain ⟨rfl, rfl⟩ : hh = h0 ∧ Fo.nil = k0 := by simpa [Fo.nth] using n0
    simp only [Fo.len, Nat.reduceAdd, Nat.zero_add]
    rcases hg with rfl | rfl
    · have er : grF (.cons hFst .nil (.cons b1 j1 .nil)) = false := rfl
      rw [er]
      unfold hFst at y0
      clear er h hx hs l0 P hT hA s1 n0 n1
      go_enter Tryz.func45, Tryz.ntmps45
      go_wp2_with fail
      go_ret
      exact ⟨rfl, FQ.out _⟩
    · have er : grF (.cons hSnd .nil (.cons b1 j1 .nil)) = false := rfl
      rw [er]
      unfold hSnd at y0
      clear er h hx hs l0 P hT hA s1 n0 n1
      go_enter Tryz.func45, Tryz.ntmps45
      go_wp2_with fail
      go_ret
      exact ⟨rfl, FQ.out _⟩
  | if_ b1 j1 b2 j2 b3 j3 =>
    obtain ⟨rfl, rfl⟩ : hIf = h0 ∧ Fo.nil = k0 := by simpa [Fo.nth] using n0
    simp only [Fo.len, Nat.reduceAdd, Nat.zero_add]
    have er : grF (.cons hIf .nil (.cons b1 j1 (.cons b2 j2 (.cons b3 j3 .nil)))) = false := rfl
    rw [er]
    unfold hIf at y0
    clear er h hx hs l0 P hT hA s1 n0 n1
    go_enter Tryz.func45, Tryz.ntmps45
    go_wp2_with fail
    go_ret
    exact ⟨rfl, FQ.out _⟩
  | lam x kx a2 k2 => exact absurd hx (by simp [rxF, show (hLam == hLet) = false from by decide, show (hLam == hApp) = false from by decide, show (hLam == hFst) = false from by decide, show (hLam == hSnd) = false from by decide, show (hLam == hIf) = false from by decide])
  | let_ x kx a2 k2 a3 k3 hn o2 o3 =>
    obtain ⟨rfl, rfl⟩ : hLet = h0 ∧ Fo.nil = k0 := by simpa [Fo.nth] using n0
    obtain ⟨rfl, rfl⟩ : x = a1 ∧ kx = k1 := by simpa [Fo.nth] using n1
    obtain ⟨g2, o2', b2', j2', A2, c2, e, _, m1, z1, z2, t1⟩ := P w _ _ hA 2 (by simp [Fo.len])
    simp only [Option.some.injEq, Addr.mk.injEq, and_true] at e
    obtain ⟨rfl, rfl⟩ := e
    obtain ⟨rfl, rfl⟩ : a2 = b2' ∧ k2 = j2' := by simpa [Fo.nth] using m1
    obtain ⟨g3, o3', b3', j3', A3, c3, e, _, m2, z3, z4, t2⟩ := P w _ _ hA 3 (by simp [Fo.len])
    simp only [Option.some.injEq, Addr.mk.injEq, and_true] at e
    obtain ⟨rfl, rfl⟩ := e
    obtain ⟨rfl, rfl⟩ : a3 = b3' ∧ k3 = j3' := by simpa [Fo.nth] using m2
    have u1 : w.cell? ⟨g, o + 4, none⟩ = some (S a2) := z1
    have u2 : w.cell? ⟨g, o + 4 + 1, none⟩ = some (.slice A2 k2.len c2) := z2
    have u3 : w.cell? ⟨g, o + 6, none⟩ = some (S a3) := z3
    have u4 : w.cell? ⟨g, o + 6 + 1, none⟩ = some (.slice A3 k3.len c3) := z4
    clear z1 z2 z3 z4
    have er : grF (.cons hLet .nil (.cons x kx (.cons a2 k2 (.cons a3 k3 .nil)))) = decide (300 < treeSize a3 k3 + usT x a3 k3 * (treeSize a2 k2 - 1)) := rfl
    rw [er]
    simp only [Fo.len, Nat.reduceAdd, Nat.zero_add]
    have p2 := isTm_size o2.tm
    have hsz : treeSize a2 k2 ≤ 300 ∧ treeSize a3 k3 ≤ 300 := by simp only [Fo.size] at hs; unfold treeSize; omega
    have hus : usT x a3 k3 ≤ 300 := by
      have h4 : usT x a3 k3 ≤ treeSize a3 k3 := by rw [← cnt_nd hn o3, ← o3.size []]; exact cnt_size _ _
      omega
    have SB := Lib.hid (grow_calls w T hT (.cells #[S [], .slice (some ⟨g, o, none⟩) 4 c] 40) a3 A3 c3 k3 o3 hsz.2 t2 a2 A2 c2 k2 o2 hsz.1 t1 x)
    obtain ⟨W, HW⟩ : ∃ W, Hid (W = w.alloc (.cells #[S [], .slice (some ⟨g, o, none⟩) 4 c] 40)) := ⟨_, Lib.hid rfl⟩
    have hfW : Fr No w W := by rw [HW.out]; exact (Fr.refl _ _).alloc _
    rw [← HW.out] at SB
    have d1 : W.cell? ⟨g, o + 2, none⟩ = some (S x) := fr_cell0 hfW lg y1
    have d2 : W.cell? ⟨g, o + 4, none⟩ = some (S a2) := fr_cell0 hfW lg u1
    have d3 : W.cell? ⟨g, o + 4 + 1, none⟩ = some (.slice A2 k2.len c2) := fr_cell0 hfW lg u2
    have d4 : W.cell? ⟨g, o + 6, none⟩ = some (S a3) := fr_cell0 hfW lg u3
    have d5 : W.cell? ⟨g, o + 6 + 1, none⟩ = some (.slice A3 k3.len c3) := fr_cell0 hfW lg u4
    obtain ⟨kl2, HK2⟩ : ∃ z, Hid (k2.len = z) := ⟨_, rfl⟩
    obtain ⟨kl3, HK3⟩ : ∃ z, Hid (k3.len = z) := ⟨_, rfl⟩
    rw [HK2.out] at SB d3 u2
    rw [HK3.out] at SB d5 u4
    have Y1 := Lib.hid y1
    have U1 := Lib.hid u1
    have U2 := Lib.hid u2
    have U3 := Lib.hid u3
    have U4 := Lib.hid u4
    have hmul : usT x a3 k3 * (treeSize a2 k2 - 1) ≤ 300 * 300 := Nat.mul_le_mul hus (by omega)
    have hsz1 := hsz.1
    have hsz2 := hsz.2
    clear hsz
    generalize hU : usT x a3 k3 = U at *
    generalize hZ1 : treeSize a3 k3 = Z1 at *
    generalize hZ2 : treeSize a2 k2 = Z2 at *
    generalize hQ2 : U * (Z2 - 1) = Q at *
    have i1 : (1 : Int) ≤ (Z2 : Int) := by omega
    have i2 : (Z2 : Int) ≤ 300 := by omega
    have i3 : (Z1 : Int) ≤ 300 := by omega
    have i4 : (0 : Int) ≤ (Q : Int) := by omega
    have i5 : (Q : Int) ≤ 90000 := by omega
    have i6 : IntKind.i64.wrap ((Z2 : Int) - 1) = ((Z2 - 1 : Nat) : Int) := by rw [IntWalk.i64_in _ (by omega)]; omega
    have i7 : IntKind.i64.wrap ((U : Int) * ((Z2 - 1 : Nat) : Int)) = (Q : Int) := by
      have : (U : Int) * ((Z2 - 1 : Nat) : Int) = (Q : Int) := by rw [← hQ2]; exact (Int.natCast_mul U (Z2 - 1)).symm
      rw [this, IntWalk.i64_in _ (by omega)]
    have i8 : IntKind.i64.wrap ((Z1 : Int) + (Q : Int)) = ((Z1 + Q : Nat) : Int) := by rw [IntWalk.i64_in _ (by omega)]; omega
    have eq1 : decide (300 < Z1 + Q) = decide ((300 : Int) < (Z1 : Int) + (Q : Int)) := by
      rw [decide_eq_decide]; omega
    rw [eq1]
    unfold hLet at y0
    clear er h hx hs l0 t1 t2 FQ P hT hA s1 n0 n1 m1 m2 u1 u2 u3 u4 p2 hn o2 o3 hfW y1 y2 hU hZ1 hZ2 hQ2 hmul hus eq1
    go_enter Tryz.func45, Tryz.ntmps45
    go_wp2_with fail
    rw [← HW.out]
    go_region_held3 (fun w' => w'.cell? ⟨g, o + 2, none⟩ = some (S x) ∧ w'.cell? ⟨g, o + 4, none⟩ = some (S a2) ∧ w'.cell? ⟨g, o + 4 + 1, none⟩ = some (.slice A2 kl2 c2) ∧ w'.cell? ⟨g, o + 6, none⟩ = some (S a3) ∧ w'.cell? ⟨g, o + 6 + 1, none⟩ = some (.slice A3 kl3 c3)) (go_keep)
      (first
        | (go_at_call 43; ((with_reducible refine SB.out.mono ?_); rintro e w3 ⟨rfl, KP, US⟩; have k1 := KP.out _ _ _ lg Y1.out; have k2 := KP.out _ _ _ lg U1.out; have k3 := KP.out _ _ _ lg U2.out; have k4 := KP.out _ _ _ lg U3.out; have k5 := KP.out _ _ _ lg U4.out))
        | (go_at_call 72; ((with_reducible refine US.out.mono ?_); rintro e w4 ⟨rfl, KP2, SZ⟩; have k1 := KP2.out _ _ _ lg Y1.out; have k2 := KP2.out _ _ _ lg U1.out; have k3 := KP2.out _ _ _ lg U2.out; have k4 := KP2.out _ _ _ lg U3.out; have k5 := KP2.out _ _ _ lg U4.out))
        | (go_at_call 43; ((with_reducible refine SZ.out.mono ?_); rintro e w5 ⟨rfl, KP3, FIN⟩; have k1 := KP3.out _ _ _ lg Y1.out; have k2 := KP3.out _ _ _ lg U1.out; have k3 := KP3.out _ _ _ lg U2.out; have k4 := KP3.out _ _ _ lg U3.out; have k5 := KP3.out _ _ _ lg U4.out)))
    go_wp2_with fail
    refine bodyPost_ret (v := .bool (decide ((300 : Int) < (Z1 : Int) + (Q : Int)))) (by simp [results, Tryz.results45, go_sem]) rfl ?_
    exact ⟨rfl, FIN.out⟩
  | two hh b1 j1 a2 k2 hg o1' o2 =>
    obtain ⟨rfl, rfl⟩ : hh = h0 ∧ Fo.nil = k0 := by simpa [Fo.nth] using n0
    obtain ⟨rfl, rfl⟩ : b1 = a1 ∧ j1 = k1 := by simpa [Fo.nth] using n1
    have hb1 : hh = hApp ∧ b1 = [] ∧ hd1 j1 = hLam := by
      rcases hg with rfl | rfl
      · exact ⟨rfl, by simpa [rxF, show (hApp == hLet) = false from by decide, show (hApp == hFst) = false from by decide, show (hApp == hSnd) = false from by decide, show (hApp == hIf) = false from by decide, show (hApp == hApp) = true from by decide] using hx⟩
      · simp [rxF, show (hPair == hLet) = false from by decide, show (hPair == hFst) = false from by decide, show (hPair == hSnd) = false from by decide, show (hPair == hIf) = false from by decide, show (hPair == hApp) = false from by decide] at hx
    obtain ⟨rfl, rfl, hb2⟩ := hb1
    obtain ⟨x, kx, a3, k3, rfl, hn, o3⟩ := lam_of o1' hb2
    obtain ⟨g2, o2', b2', j2', A2, c2, e, _, m1, z1, z2, t1⟩ := P w _ _ hA 2 (by simp [Fo.len])
    simp only [Option.some.injEq, Addr.mk.injEq, and_true] at e
    obtain ⟨rfl, rfl⟩ := e
    obtain ⟨rfl, rfl⟩ : a2 = b2' ∧ k2 = j2' := by simpa [Fo.nth] using m1
    obtain ⟨g1, o1, b4', j4', A4, c4, rfl, lg1, m3, z5, _, _⟩ := P w A1 _ s1 1 (by simp [Fo.len])
    obtain ⟨g3, o3', b3', j3', A3, c3, e, _, m2, z3, z4, t2⟩ := P w _ _ s1 2 (by simp [Fo.len])
    simp only [Option.some.injEq, Addr.mk.injEq, and_true] at e
    obtain ⟨rfl, rfl⟩ := e
    obtain ⟨rfl, rfl⟩ : a3 = b3' ∧ k3 = j3' := by simpa [Fo.nth] using m2
    obtain ⟨rfl, rfl⟩ : x = b4' ∧ kx = j4' := by simpa [Fo.nth] using m3
    have u1 : w.cell? ⟨g, o + 4, none⟩ = some (S a2) := z1
    have u2 : w.cell? ⟨g, o + 4 + 1, none⟩ = some (.slice A2 k2.len c2) := z2
    have u3 : w.cell? ⟨g1, o1 + 4, none⟩ = some (S a3) := z3
    have u4 : w.cell? ⟨g1, o1 + 4 + 1, none⟩ = some (.slice A3 k3.len c3) := z4
    have u5 : w.cell? ⟨g1, o1 + 2, none⟩ = some (S x) := z5
    clear z1 z2 z3 z4 z5
    have er : grF (.cons hApp .nil (.cons [] (.cons hLam .nil (.cons x kx (.cons a3 k3 .nil))) (.cons a2 k2 .nil))) = decide (300 < treeSize a3 k3 + usT x a3 k3 * (treeSize a2 k2 - 1)) := rfl
    rw [er]
    simp only [Fo.len, Nat.reduceAdd, Nat.zero_add] at y2 ⊢
    have p2 := isTm_size o2.tm
    have hsz : treeSize a2 k2 ≤ 300 ∧ treeSize a3 k3 ≤ 300 := by simp only [Fo.size, if_true] at hs; unfold treeSize; omega
    have hus : usT x a3 k3 ≤ 300 := by
      have h4 : usT x a3 k3 ≤ treeSize a3 k3 := by rw [← cnt_nd hn o3, ← o3.size []]; exact cnt_size _ _
      omega
    have SB := Lib.hid (grow_calls w T hT (.cells #[S [], .slice (some ⟨g, o, none⟩) 3 c] 40) a3 A3 c3 k3 o3 hsz.2 t2 a2 A2 c2 k2 o2 hsz.1 t1 x)
    obtain ⟨W, HW⟩ : ∃ W, Hid (W = w.alloc (.cells #[S [], .slice (some ⟨g, o, none⟩) 3 c] 40)) := ⟨_, Lib.hid rfl⟩
    have hfW : Fr No w W := by rw [HW.out]; exact (Fr.refl _ _).alloc _
    rw [← HW.out] at SB
    have d1 : W.cell? ⟨g1, o1 + 2, none⟩ = some (S x) := fr_cell0 hfW lg1 u5
    have d2 : W.cell? ⟨g, o + 4, none⟩ = some (S a2) := fr_cell0 hfW lg u1
    have d3 : W.cell? ⟨g, o + 4 + 1, none⟩ = some (.slice A2 k2.len c2) := fr_cell0 hfW lg u2
    have d4 : W.cell? ⟨g1, o1 + 4, none⟩ = some (S a3) := fr_cell0 hfW lg1 u3
    have d5 : W.cell? ⟨g1, o1 + 4 + 1, none⟩ = some (.slice A3 k3.len c3) := fr_cell0 hfW lg1 u4
    have d6 : W.cell? ⟨g, o + 2 + 1, none⟩ = some (.slice (some ⟨g1, o1, none⟩) 3 c1) := fr_cell0 hfW lg y2
    obtain ⟨kl2, HK2⟩ : ∃ z, Hid (k2.len = z) := ⟨_, rfl⟩
    obtain ⟨kl3, HK3⟩ : ∃ z, Hid (k3.len = z) := ⟨_, rfl⟩
    rw [HK2.out] at SB d3 u2
    rw [HK3.out] at SB d5 u4
    have Y1 := Lib.hid u5
    have Y2 := Lib.hid y2
    have U1 := Lib.hid u1
    have U2 := Lib.hid u2
    have U3 := Lib.hid u3
    have U4 := Lib.hid u4
    have hmul : usT x a3 k3 * (treeSize a2 k2 - 1) ≤ 300 * 300 := Nat.mul_le_mul hus (by omega)
    have hsz1 := hsz.1
    have hsz2 := hsz.2
    clear hsz
    generalize hU : usT x a3 k3 = U at *
    generalize hZ1 : treeSize a3 k3 = Z1 at *
    generalize hZ2 : treeSize a2 k2 = Z2 at *
    generalize hQ2 : U * (Z2 - 1) = Q at *
    have i1 : (1 : Int) ≤ (Z2 : Int) := by omega
    have i2 : (Z2 : Int) ≤ 300 := by omega
    have i3 : (Z1 : Int) ≤ 300 := by omega
    have i4 : (0 : Int) ≤ (Q : Int) := by omega
    have i5 : (Q : Int) ≤ 90000 := by omega
    have i6 : IntKind.i64.wrap ((Z2 : Int) - 1) = ((Z2 - 1 : Nat) : Int) := by rw [IntWalk.i64_in _ (by omega)]; omega
    have i7 : IntKind.i64.wrap ((U : Int) * ((Z2 - 1 : Nat) : Int)) = (Q : Int) := by
      have : (U : Int) * ((Z2 - 1 : Nat) : Int) = (Q : Int) := by rw [← hQ2]; exact (Int.natCast_mul U (Z2 - 1)).symm
      rw [this, IntWalk.i64_in _ (by omega)]
    have i8 : IntKind.i64.wrap ((Z1 : Int) + (Q : Int)) = ((Z1 + Q : Nat) : Int) := by rw [IntWalk.i64_in _ (by omega)]; omega
    have eq1 : decide (300 < Z1 + Q) = decide ((300 : Int) < (Z1 : Int) + (Q : Int)) := by
      rw [decide_eq_decide]; omega
    rw [eq1]
    unfold hApp at y0
    clear er h hx hs l0 t1 t2 FQ P hT hA s1 n0 n1 m1 m2 u1 u2 u3 u4 u5 m3 p2 hn o1' o2 o3 hfW y1 y2 hb2 hg hU hZ1 hZ2 hQ2 hmul hus eq1
    go_enter Tryz.func45, Tryz.ntmps45
    go_wp2_with fail
    rw [← HW.out]
    go_region_held3 (fun w' => w'.cell? ⟨g1, o1 + 2, none⟩ = some (S x) ∧ w'.cell? ⟨g, o + 4, none⟩ = some (S a2) ∧ w'.cell? ⟨g, o + 4 + 1, none⟩ = some (.slice A2 kl2 c2) ∧ w'.cell? ⟨g1, o1 + 4, none⟩ = some (S a3) ∧ w'.cell? ⟨g1, o1 + 4 + 1, none⟩ = some (.slice A3 kl3 c3) ∧ w'.cell? ⟨g, o + 2 + 1, none⟩ = some (.slice (some ⟨g1, o1, none⟩) 3 c1)) (go_keep)
      (first
        | (go_at_call 43; ((with_reducible refine SB.out.mono ?_); rintro e w3 ⟨rfl, KP, US⟩; have k1 := KP.out _ _ _ lg1 Y1.out; have k2 := KP.out _ _ _ lg U1.out; have k3 := KP.out _ _ _ lg U2.out; have k4 := KP.out _ _ _ lg1 U3.out; have k5 := KP.out _ _ _ lg1 U4.out; have k6 := KP.out _ _ _ lg Y2.out))
        | (go_at_call 72; ((with_reducible refine US.out.mono ?_); rintro e w4 ⟨rfl, KP2, SZ⟩; have k1 := KP2.out _ _ _ lg1 Y1.out; have k2 := KP2.out _ _ _ lg U1.out; have k3 := KP2.out _ _ _ lg U2.out; have k4 := KP2.out _ _ _ lg1 U3.out; have k5 := KP2.out _ _ _ lg1 U4.out; have k6 := KP2.out _ _ _ lg Y2.out))
        | (go_at_call 43; ((with_reducible refine SZ.out.mono ?_); rintro e w5 ⟨rfl, KP3, FIN⟩; have k1 := KP3.out _ _ _ lg1 Y1.out; have k2 := KP3.out _ _ _ lg U1.out; have k3 := KP3.out _ _ _ lg U2.out; have k4 := KP3.out _ _ _ lg1 U3.out; have k5 := KP3.out _ _ _ lg1 U4.out; have k6 := KP3.out _ _ _ lg Y2.out)))
    go_wp2_with fail
    refine bodyPost_ret (v := .bool (decide ((300 : Int) < (Z1 : Int) + (Q : Int)))) (by simp [results, Tryz.results45, go_sem]) rfl ?_
    exact ⟨rfl, FIN.out⟩
end Go.Proofs.YtnjgaenhjdjpfaaGreatDoor
