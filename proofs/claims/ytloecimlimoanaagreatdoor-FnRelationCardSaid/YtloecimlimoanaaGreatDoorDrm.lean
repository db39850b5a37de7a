/- The draws of models and of elements. -/
import Derived.Test.YtloecimlimoanaaGreatDoorDrw
import Derived.Test.YtloecimlimoanaaGreatDoorStc
namespace Go.Proofs.YtloecimlimoanaaGreatDoor
open Go.RowKit Go.ChangeMaps

theorem Rdc.no {w w' : World} {r : Nat} {A : Option Addr} {n c p : Nat} (h : Rdc w r A n c p) (hf : Fr No w w') : Rdc w' r A n c p := h.fr hf (fun h => h) (fun _ _ _ h => h)

theorem Rdc.low {w : World} {r : Nat} {A : Option Addr} {n c p : Nat} (h : Rdc w r A n c p) (h0 : 0 < n) (g o : Nat) (e : A = some ⟨g, o, none⟩) : g < w.heap.size := by
  obtain ⟨g', o', x, e', _, hc⟩ := h.byt 0 h0
  rw [e] at e'
  simp only [Option.some.injEq, Addr.mk.injEq, and_true] at e'
  rw [e'.1]
  exact World.block_lt_of_cell? _ _ hc

theorem Rdc.fr2 {w w' : World} {r : Nat} {A : Option Addr} {n c p : Nat} {T : Nat → Prop} (h : Rdc w r A n c p) (hf : Fr T w w') (hr : ¬ T r) (hA : 0 < n → ∀ g o, A = some ⟨g, o, none⟩ → ¬ T g) : Rdc w' r A n c p := by
  refine ⟨h.blk.fr hf hr, fun j hj => ?_, h.small, h.apart⟩
  obtain ⟨g, o, x, e, hx, hc⟩ := h.byt j hj
  exact ⟨g, o, x, e, hx, (hf.cell (p := ⟨g, o + j, none⟩) (World.block_lt_of_cell? w _ hc) (hA (by omega) g o e)).trans hc⟩

/-- a model that is drawn: two slices -/
def MdP (r : Nat) (A : Option Addr) (n c p : Nat) (w : World) (e : Ending) (w' : World) : Prop :=
  ∃ N nc Z zc, ∃ (xs : List (List UInt8)) (zs : List Int) (p' : Nat), e = .returned (.tuple #[.slice N xs.length nc, .slice Z zs.length zc]) ∧ xs.length ≤ nc ∧ xs.length ≤ 4 ∧ zs.length ≤ 4 ∧ (∀ x ∈ xs, x.length ≤ 1) ∧ SSl w' N xs ∧ ISl w' Z zs ∧ (∀ g o, (N = some ⟨g, o, none⟩ ∨ Z = some ⟨g, o, none⟩) → w.heap.size ≤ g) ∧ Fr (One r) w w' ∧ p' ≤ p + 6 ∧ Rdc w' r A n c p'

theorem ssl_blk {W : World} {g : Nat} {t : TypeId} {cs : Array Value} {xs : List (List UInt8)} (h : Blk W g t cs) (hc : cs = (xs.map S).toArray) : SSl W (some ⟨g, 0, none⟩) xs := fun j x hj => ⟨g, 0, rfl, by
  rw [h.cell (0 + j), hc, Nat.zero_add]
  simp [hj]⟩

theorem isl_blk {W : World} {g : Nat} {t : TypeId} {cs : Array Value} {zs : List Int} (o : Nat) (h : Blk W g t cs) (hc : cs.toList.drop o = zs.map (.int .i64)) : ISl W (some ⟨g, o, none⟩) zs := fun j x hj => ⟨g, o, rfl, by
  rw [h.cell (o + j), ← Array.getElem?_toList, ← List.getElem?_drop, hc]
  simp [hj]⟩

theorem news {k a b x y : Nat} (ha : k ≤ a) (hb : k ≤ b) : ∀ g o : Nat, ((some (⟨a, x, none⟩ : Addr) = some ⟨g, o, none⟩) ∨ some (⟨b, y, none⟩ : Addr) = some ⟨g, o, none⟩) → k ≤ g := fun g o h => by
  rcases h with h | h <;> (injection h with h; injection h with h; omega)

theorem sslFr {w w' : World} {A : Option Addr} {xs : List (List UInt8)} {T : Nat → Prop} (h : SSl w A xs) (hf : Fr T w w') (hT : ∀ g o, A = some ⟨g, o, none⟩ → ¬ T g) : SSl w' A xs := fun j x hj => by
  obtain ⟨g, o, e, hc⟩ := h j x hj
  exact ⟨g, o, e, (hf.cell (p := ⟨g, o + j, none⟩) (World.block_lt_of_cell? w _ hc) (hT g o e)).trans hc⟩

theorem islFr {w w' : World} {A : Option Addr} {xs : List Int} {T : Nat → Prop} (h : ISl w A xs) (hf : Fr T w w') (hT : ∀ g o, A = some ⟨g, o, none⟩ → ¬ T g) : ISl w' A xs := fun j x hj => by
  obtain ⟨g, o, e, hc⟩ := h j x hj
  exact ⟨g, o, e, (hf.cell (p := ⟨g, o + j, none⟩) (World.block_lt_of_cell? w _ hc) (hT g o e)).trans hc⟩

theorem StcR.bounds {s : List UInt8} {ns : List (List UInt8)} {zs : List Int} {n : Int} (h : StcR s ns zs n) : n = -1 ∨ (1 ≤ n ∧ n ≤ 4096) := by
  rcases h with ⟨t, ms, _, hm, rfl⟩ | ⟨_, rfl⟩
  · rcases hc : t.cnt (szs ms) with _ | d
    · exact .inl (cntI_none hc)
    · have := Ty.cnt_bounds hm.sz t d hc
      rw [cntI_some hc]
      exact .inr (by omega)
  · exact .inl rfl

/-- a number that is drawn -/
def DelP (r : Nat) (A : Option Addr) (n c p : Nat) (w : World) (e : Ending) (w' : World) : Prop := ∃ (k : Int) (p' : Nat), e = .returned (.int .i64 k) ∧ -1 ≤ k ∧ k ≤ 5000 ∧ Fr (One r) w w' ∧ p' ≤ p + 3 ∧ Rdc w' r A n c p'

set_option maxRecDepth 100000 in
set_option maxHeartbeats 2000000 in
theorem elem_draw (w : World) (r : Nat) (A : Option Addr) (n c p : Nat) (h : Rdc w r A n c p) (hp : p ≤ 80000) (s : List UInt8) (hs : s.length ≤ maxLen) (N Z : Option Addr) (xs : List (List UInt8)) (zs : List Int) (nc zc : Nat) (hnc : xs.length ≤ nc) (hN : SSl w N xs) (hZ : ISl w Z zs) (hl : xs.length ≤ 4) (hl' : zs.length ≤ 4) (hx : ∀ x ∈ xs, x.length ≤ 1) :
    Calls Tryz.prog 58 #[Ptr r, S s, .slice N xs.length nc, .slice Z zs.length zc] w fun e w' => DelP r A n c p w e w' := by
  have SC := Lib.hid (specStc w s N Z xs zs nc zc hnc hs hN hZ (by omega) (by omega) (fun x h => by have := hx x h; unfold maxLen; omega))
  have HD := Lib.hid h
  have hrl := h.blk.lt
  have PK : Hid (∀ (V : World) (q k : Nat), Rdc V r A n c q → 1 ≤ k → k ≤ 1000 → q ≤ 90000 → Calls Tryz.prog 57 #[Ptr r, .int .i64 k] V fun e w' => PickP r A n c q k V e w') := fun V q k h1 h2 h3 h4 => pick_any V r A n c q k h1 h2 h3 (by omega)
  clear h hN hZ hx hnc hl hl' hs
  go_enter Tryz.func58, Tryz.ntmps58
  go_wp2_with fail
  refine SC.out.mono ?_
  rintro e w1 ⟨m, rfl, hst, hf1⟩
  have hm := hst.bounds
  have HF1 : Hid (Fr (One r) w w1) := hf1.mono (fun _ _ h => h.elim)
  have HD1 := Lib.hid (HD.out.no hf1)
  clear hst hf1 SC HD
  rcases hm with rfl | ⟨hm1, hm2⟩
  · obtain ⟨W2, hW2, hf2, hb2⟩ : ∃ W, W = w1.alloc (.cells #[.int .i64 (-1), .int .i64 0] 3) ∧ Fr No w1 W ∧ Blk W w1.heap.size 3 #[.int .i64 (-1), .int .i64 0] := ⟨_, rfl, (Fr.refl _ _).alloc _, Blk.new _ _ _⟩
    have HF2 : Hid (Fr (One r) w W2) := HF1.out.trans (hf2.mono (fun _ _ h => h.elim))
    have HD2 := Lib.hid (HD1.out.no hf2)
    have HB2 := Lib.hid hb2
    have hr1 : r < w1.heap.size := HD1.out.blk.lt
    clear hf2 hb2
    go_wp2_with fail
    rw [show max (0 : Int) (-1) = 0 from rfl, ← hW2]
    clear hW2
    refine (PK.out W2 p 2 HD2.out (by omega) (by omega) (by omega)).mono ?_
    rintro e w3 ⟨q, rfl, hq, hf3, hd3⟩
    have HB3 : Hid (Blk w3 w1.heap.size _ _) := HB2.out.fr hf3 (fun e => by have e : w1.heap.size = r := e; omega)
    obtain ⟨v, hv, hv2⟩ : ∃ v : Int, w3.cell? ⟨w1.heap.size, q, none⟩ = some (.int .i64 v) ∧ (v = -1 ∨ v = 0) := by
      rw [HB3.out.cell q]
      match q, hq with
      | 0, _ => exact ⟨_, rfl, .inl rfl⟩
      | 1, _ => exact ⟨_, rfl, .inr rfl⟩
    have lx := HB3.out.lt
    have q0 : (0 : Int) ≤ (q : Int) := by omega
    have q3 : (q : Int) < 2 := by omega
    have FIN : Hid (DelP r A n c p w (.returned (.int .i64 v)) w3) := ⟨v, _, rfl, by omega, by omega, HF2.out.trans hf3, by omega, hd3⟩
    clear hf3 hd3 hv2
    go_wp2_with fail
    go_ret
    exact FIN.out
  · have d1 : decide (m < 1) = false := by simp; omega
    have d0 : (0 : Int) < m := by omega
    go_wp2_with fail
    refine (PK.out w1 p 20 HD1.out (by omega) (by omega) (by omega)).mono ?_
    rintro e w2 ⟨z, rfl, hz, hf2, hd2⟩
    have HF2 : Hid (Fr (One r) w w2) := HF1.out.trans hf2
    have HD2 := Lib.hid hd2
    have hr2 : r < w2.heap.size := hd2.blk.lt
    clear hf2 hd2
    by_cases hz0 : z = 0
    · subst hz0
      obtain ⟨W3, hW3, hf3, hb3⟩ : ∃ W, W = w2.alloc (.cells #[.int .i64 (-1), .int .i64 m] 3) ∧ Fr No w2 W ∧ Blk W w2.heap.size 3 #[.int .i64 (-1), .int .i64 m] := ⟨_, rfl, (Fr.refl _ _).alloc _, Blk.new _ _ _⟩
      have HF3 : Hid (Fr (One r) w W3) := HF2.out.trans (hf3.mono (fun _ _ h => h.elim))
      have HD3 := Lib.hid (HD2.out.no hf3)
      have HB3 := Lib.hid hb3
      clear hf3 hb3
      go_wp2_with fail
      rw [show max (0 : Int) m = m by omega, ← hW3]
      clear hW3
      refine (PK.out W3 (p + 1) 2 HD3.out (by omega) (by omega) (by omega)).mono ?_
      rintro e w4 ⟨q, rfl, hq, hf4, hd4⟩
      have HB4 : Hid (Blk w4 w2.heap.size _ _) := HB3.out.fr hf4 (fun e => by have e : w2.heap.size = r := e; omega)
      obtain ⟨v, hv, hv2⟩ : ∃ v : Int, w4.cell? ⟨w2.heap.size, q, none⟩ = some (.int .i64 v) ∧ (v = -1 ∨ v = m) := by
        rw [HB4.out.cell q]
        match q, hq with
        | 0, _ => exact ⟨_, rfl, .inl rfl⟩
        | 1, _ => exact ⟨_, rfl, .inr rfl⟩
      have lx := HB4.out.lt
      have q0 : (0 : Int) ≤ (q : Int) := by omega
      have q3 : (q : Int) < 2 := by omega
      have FIN : Hid (DelP r A n c p w (.returned (.int .i64 v)) w4) := ⟨v, _, rfl, by omega, by omega, HF3.out.trans hf4, by omega, hd4⟩
      clear hf4 hd4 hv2
      go_wp2_with fail
      go_ret
      exact FIN.out
    · have z0 : ((z : Int) == 0) = false := beq_eq_false_iff_ne.2 (by omega)
      go_wp2_with fail
      refine (PK.out w2 (p + 1) 250 HD2.out (by omega) (by omega) (by omega)).mono ?_
      rintro e w3 ⟨a, rfl, ha, hf3, hd3⟩
      have HF3 : Hid (Fr (One r) w w3) := HF2.out.trans hf3
      have HD3 := Lib.hid hd3
      clear hf3 hd3
      have a0 : (0 : Int) ≤ (a : Int) := by omega
      have a1 : (a : Int) < 250 := by omega
      go_wp2_with fail
      refine (PK.out w3 (p + 1 + 1) 250 HD3.out (by omega) (by omega) (by omega)).mono ?_
      rintro e w4 ⟨b, rfl, hb, hf4, hd4⟩
      obtain ⟨v, hv⟩ : ∃ v : Int, v = ((a : Int) * 250 + (b : Int)).tmod m := ⟨_, rfl⟩
      have hv0 : 0 ≤ v := by rw [hv]; exact Int.tmod_nonneg _ (by omega)
      have hv1 : v < m := by rw [hv]; exact Int.tmod_lt_of_pos _ (by omega)
      have FIN : Hid (DelP r A n c p w (.returned (.int .i64 v)) w4) := ⟨v, _, rfl, by omega, by omega, HF3.out.trans hf4, by omega, hd4⟩
      have b0 : (0 : Int) ≤ (b : Int) := by omega
      have b1 : (b : Int) < 250 := by omega
      have m0 : (m == 0) = false := beq_eq_false_iff_ne.2 (by omega)
      have m1 : ¬ m = 0 := by omega
      have e1 : ((a : Int) * 250 + (b : Int)).tmod m = v := hv.symm
      clear hf4 hd4 hv
      go_wp2_with fail
      go_ret
      exact FIN.out
end Go.Proofs.YtloecimlimoanaaGreatDoor
