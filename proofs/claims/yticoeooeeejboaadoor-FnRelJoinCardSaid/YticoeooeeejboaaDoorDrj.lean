/- Draws of two relations. -/
import Derived.Test.YticoeooeeejboaaDoorDrs
namespace Go.Proofs.YticoeooeeejboaaDoor
open Go.RowKit Go.ChangeMaps Go.Shelf

/-- two relations that were drawn -/
def DrJ (w : World) (e : Ending) (w' : World) : Prop :=
  ∃ (L R : Int) (ps : List Int) (B : Option Addr) (cp : Nat) (L2 R2 : Int) (qs : List Int) (B2 : Option Addr) (cp2 : Nat), e = .returned (.tuple #[RV L R B ps.length cp, RV L2 R2 B2 qs.length cp2]) ∧ OR w' w.heap.size B ps.length cp ps ∧ OR w' w.heap.size B2 qs.length cp2 qs ∧ ps.length ≤ 1000 ∧ qs.length ≤ 1000 ∧ Fr No w w'

set_option maxRecDepth 100000 in
set_option maxHeartbeats 8000000 in
theorem drawRelJoin (w : World) (A : Option Addr) (n c : Nat) (hn : n ≤ maxLen) (hnc : n ≤ c) (hb : Byt w A n) :
    Calls Tryd.prog 20 #[.slice A n c] w fun e w' => DrJ w e w' := by
  obtain ⟨W0, hW0, hf0, hb0, hb1, hz0⟩ : ∃ W, W = (w.alloc (.cells #[.int .i64 0, .int .i64 0, .slice none 0 0] 25)).alloc (.cells #[.int .i64 0, .int .i64 0, .slice none 0 0] 25) ∧ Fr No w W ∧ Blk W w.heap.size 25 #[.int .i64 0, .int .i64 0, .slice none 0 0] ∧ Blk W (w.heap.size + 1) 25 #[.int .i64 0, .int .i64 0, .slice none 0 0] ∧ W.heap.size = w.heap.size + 2 := ⟨_, rfl, ((Fr.refl _ _).alloc _).alloc _, (Blk.new _ _ _).alloc _, Blk.new_at _ _ _ (by simp), by simp⟩
  have HF0 := Lib.hid hf0
  have HB0 := Lib.hid hb0
  have HB1 := Lib.hid hb1
  have HZ0 := Lib.hid hz0
  have OP := Lib.hid (open_any W0 A n c hn hnc (hb.keep hf0))
  clear hb hf0 hb0 hb1 hn hnc
  go_enter Tryd.func20, Tryd.ntmps20
  go_wp2_with fail
  rw [← hW0]
  clear hW0
  refine OP.out.mono ?_
  rintro e w1 ⟨r, A1, n1, c1, rfl, hf1, hr1, hd1⟩
  have AD := Lib.hid (any_draw w1 r A1 n1 c1 0 hd1 (by omega))
  have HF1 := Lib.hid hf1
  have HRL : Hid (r < w1.heap.size ∧ W0.heap.size ≤ r) := ⟨hd1.blk.lt, hr1⟩
  have hs1 : W0.heap.size ≤ w1.heap.size := hf1.size
  clear hf1 hd1 OP
  go_wp2_with fail
  refine AD.out.mono ?_
  rintro e w2 ⟨L, R, ps, g, cp, p', rfl, hor, hlen, ⟨hR1, hR4⟩, hf2, hp', hr2⟩
  have hs2 : w1.heap.size ≤ w2.heap.size := hf2.size
  obtain ⟨W3, hW3, hfa, hba⟩ : ∃ V, V = w2.alloc (.cells #[.int .i64 L, .int .i64 R, .slice (some ⟨g, 0, none⟩) ps.length cp] 25) ∧ Fr No w2 V ∧ Blk V w2.heap.size 25 #[.int .i64 L, .int .i64 R, .slice (some ⟨g, 0, none⟩) ps.length cp] := ⟨_, rfl, (Fr.refl _ _).alloc _, Blk.new _ _ _⟩
  have HBa : Hid (∀ V, Fr No W3 V → V.cell? ⟨w2.heap.size, 0, none⟩ = some (.int .i64 L) ∧ V.cell? ⟨w2.heap.size, 1, none⟩ = some (.int .i64 R) ∧ V.cell? ⟨w2.heap.size, 2, none⟩ = some (.slice (some ⟨g, 0, none⟩) ps.length cp) ∧ w2.heap.size < V.heap.size) := fun V hf => by
    have hb := hba.fr hf (fun h => h)
    exact ⟨(hb.cell 0).trans rfl, (hb.cell 1).trans rfl, (hb.cell 2).trans rfl, hb.lt⟩
  have HBA : Hid (Blk W3 w2.heap.size 25 #[.int .i64 L, .int .i64 R, .slice (some ⟨g, 0, none⟩) ps.length cp]) := hba
  have hr3 : Rdc W3 r A1 n1 c1 p' := hr2.fr hfa (fun h => h) (fun _ _ _ h => h)
  have PK := Lib.hid (pick_any W3 r A1 n1 c1 p' 12 hr3 (by decide) (by decide) (by omega))
  have HF3 : Hid (Fr (One r) w1 W3) := hf2.trans (hfa.mono (fun _ _ h => h.elim))
  have HO3 := Lib.hid (hor.no hfa)
  clear hor hf2 hr2 hr3 AD hfa hba
  go_wp2_with fail
  rw [← hW3]
  clear hW3
  refine PK.out.mono ?_
  rintro e w4 ⟨y, rfl, hy, hf4, hr4⟩
  have HF4 := Lib.hid (HF3.out.trans hf4)
  have HO4 := Lib.hid (HO3.out.fr hf4 (fun b hb e => by have e : b = r := e; have := (HO3.out.bounds hb).1; have := HRL.out; omega))
  have HA4 := Lib.hid (HBA.out.fr hf4 (fun e => by have e : w2.heap.size = r := e; have := HRL.out; omega))
  have HR4 := Lib.hid hr4
  have HS4 : Hid (w1.heap.size ≤ w4.heap.size) := HF4.out.size
  clear hf4 hr4 PK
  have CC : Hid (∀ V, Fr (One r) w4 V → V.cell? ⟨w2.heap.size, 0, none⟩ = some (.int .i64 L) ∧ V.cell? ⟨w2.heap.size, 1, none⟩ = some (.int .i64 R) ∧ V.cell? ⟨w2.heap.size, 2, none⟩ = some (.slice (some ⟨g, 0, none⟩) ps.length cp) ∧ V.cell? ⟨w.heap.size, 0, none⟩ = some (.int .i64 0) ∧ V.cell? ⟨w.heap.size, 1, none⟩ = some (.int .i64 0) ∧ V.cell? ⟨w.heap.size, 2, none⟩ = some (.slice none 0 0) ∧ V.cell? ⟨w.heap.size + 1, 0, none⟩ = some (.int .i64 0) ∧ V.cell? ⟨w.heap.size + 1, 1, none⟩ = some (.int .i64 0) ∧ V.cell? ⟨w.heap.size + 1, 2, none⟩ = some (.slice none 0 0) ∧ V.frozen? ⟨w.heap.size, 0, none⟩ = false ∧ V.frozen? ⟨w.heap.size, 1, none⟩ = false ∧ V.frozen? ⟨w.heap.size, 2, none⟩ = false ∧ V.frozen? ⟨w.heap.size + 1, 0, none⟩ = false ∧ V.frozen? ⟨w.heap.size + 1, 1, none⟩ = false ∧ V.frozen? ⟨w.heap.size + 1, 2, none⟩ = false ∧ w.heap.size < V.heap.size ∧ w.heap.size + 1 < V.heap.size ∧ w2.heap.size < V.heap.size) := fun V hf => by
    have ha := HA4.out.fr hf (fun e => by have e : w2.heap.size = r := e; have := HRL.out; omega)
    have h0 := (HB0.out.fr HF1.out (fun h => h)).fr (HF4.out.trans hf) (fun e => by have e : w.heap.size = r := e; have := HRL.out; omega)
    have h1 := (HB1.out.fr HF1.out (fun h => h)).fr (HF4.out.trans hf) (fun e => by have e : w.heap.size + 1 = r := e; have := HRL.out; omega)
    exact ⟨(ha.cell 0).trans rfl, (ha.cell 1).trans rfl, (ha.cell 2).trans rfl, (h0.cell 0).trans rfl, (h0.cell 1).trans rfl, (h0.cell 2).trans rfl, (h1.cell 0).trans rfl, (h1.cell 1).trans rfl, (h1.cell 2).trans rfl, h0.frozen 0, h0.frozen 1, h0.frozen 2, h1.frozen 0, h1.frozen 1, h1.frozen 2, h0.lt, h1.lt, ha.lt⟩
  have FIN : Hid (∀ (L2 R2 : Int) (qs : List Int) (g2 cp2 lo : Nat) (V : World) (v0 v1 v2 v3 v4 v5 : Value), Fr (One r) w4 V → OR V lo (some ⟨g2, 0, none⟩) qs.length cp2 qs → w4.heap.size ≤ lo → qs.length ≤ 1000 → DrJ w (.returned (.tuple #[RV L R (some ⟨g, 0, none⟩) ps.length cp, RV L2 R2 (some ⟨g2, 0, none⟩) qs.length cp2])) ((((((V.setCell ⟨w.heap.size, 0, none⟩ v0).setCell ⟨w.heap.size, 1, none⟩ v1).setCell ⟨w.heap.size, 2, none⟩ v2).setCell ⟨w.heap.size + 1, 0, none⟩ v3).setCell ⟨w.heap.size + 1, 1, none⟩ v4).setCell ⟨w.heap.size + 1, 2, none⟩ v5)) := by
    intro L2 R2 qs g2 cp2 lo V v0 v1 v2 v3 v4 v5 hf ho hlo hq
    have hT : Fr (fun b => b = w.heap.size ∨ b = w.heap.size + 1) V ((((((V.setCell ⟨w.heap.size, 0, none⟩ v0).setCell ⟨w.heap.size, 1, none⟩ v1).setCell ⟨w.heap.size, 2, none⟩ v2).setCell ⟨w.heap.size + 1, 0, none⟩ v3).setCell ⟨w.heap.size + 1, 1, none⟩ v4).setCell ⟨w.heap.size + 1, 2, none⟩ v5) :=
      ((((((Fr.refl (fun b => b = w.heap.size ∨ b = w.heap.size + 1) V).setCell (p := ⟨w.heap.size, 0, none⟩) (.inl (.inl rfl)) _).setCell (p := ⟨w.heap.size, 1, none⟩) (.inl (.inl rfl)) _).setCell (p := ⟨w.heap.size, 2, none⟩) (.inl (.inl rfl)) _).setCell (p := ⟨w.heap.size + 1, 0, none⟩) (.inl (.inr rfl)) _).setCell (p := ⟨w.heap.size + 1, 1, none⟩) (.inl (.inr rfl)) _).setCell (p := ⟨w.heap.size + 1, 2, none⟩) (.inl (.inr rfl)) _
    have hs4 := HS4.out
    have hzz := HZ0.out
    have hO := HO4.out.fr hf (fun b hb e => by have e : b = r := e; have := (HO4.out.bounds hb).1; have := HRL.out; omega)
    exact ⟨L, R, ps, _, cp, L2, R2, qs, _, cp2, rfl, (hO.fr hT (fun b hb e => by have := (hO.bounds hb).1; rcases e with e | e <;> omega)).low (by omega), (ho.fr hT (fun b hb e => by have := (ho.bounds hb).1; rcases e with e | e <;> omega)).low (by omega), by omega, hq,
      (((HF0.out.trans HF1.out).then_ HF4.out (fun b hb e => by have e : b = r := e; have := HRL.out; omega)).then_ hf (fun b hb e => by have e : b = r := e; have := HRL.out; omega)).then_ hT (fun b hb e => by rcases e with e | e <;> omega)⟩
  obtain ⟨s0, s1, s2, r0, r1, r2, r3, r4, r5, f0, f1, f2, f3, f4, f5, l0, l1, l2⟩ := CC.out w4 (Fr.refl _ _)
  have hd : Fr (One r) w4 w4.drew := (Fr.refl _ _).drew
  have hzz := HZ0.out
  have ne1 : w.heap.size ≠ w2.heap.size := by omega
  have ne2 : w2.heap.size ≠ w.heap.size := by omega
  have ne3 : w.heap.size + 1 ≠ w2.heap.size := by omega
  have ne4 : w2.heap.size ≠ w.heap.size + 1 := by omega
  clear hzz
  by_cases h0 : y = 0
  · subst h0
    have AD : Hid (∀ V, Fr No w4 V → Calls Tryd.prog 27 #[Ptr r] V fun e w' => DrA r A1 n1 c1 (p' + 1) V e w') := fun V hf => any_draw V r A1 n1 c1 _ (HR4.out.fr hf (fun h => h) (fun _ _ _ h => h)) (by omega)
    have hdn : Fr No w4 w4.drew := (Fr.refl _ _).drew
    clear HR4
    go_wp2_with fail
    go_region_held3 (fun w' => w'.cell? ⟨w2.heap.size, 0, none⟩ = some (.int .i64 L) ∧ w'.cell? ⟨w2.heap.size, 1, none⟩ = some (.int .i64 R) ∧ w'.cell? ⟨w2.heap.size, 2, none⟩ = some (.slice (some ⟨g, 0, none⟩) ps.length cp)) (go_keep)
      (first | (go_at_call 27; ((with_reducible refine (AD.out _ hdn).mono ?_); rintro e w6 ⟨L2, R2, qs, g2, cp2, p2, rfl, ho6, hl6, _, hf6, _, _⟩; obtain ⟨t0, t1, t2, r0, r1, r2, r3, r4, r5, f0, f1, f2, f3, f4, f5, l0, l1, l2⟩ := CC.out w6 (hd.trans hf6))))
    all_goals
      go_wp2_with fail
      refine bodyPost_ret (v := .tuple #[RV L R (some ⟨g, 0, none⟩) ps.length cp, RV L2 R2 (some ⟨g2, 0, none⟩) qs.length cp2]) (by simp [results, Tryd.results20, go_sem, r0, r1, r2, r3, r4, r5]) rfl ?_
      exact FIN.out _ _ _ _ _ _ w6 _ _ _ _ _ _ (hd.trans hf6) ho6 (Nat.le_refl _) (by omega)
  · have hy0 : ((y : Int) == 0) = false := beq_eq_false_iff_ne.2 (by omega)
    rcases (show R = 1 ∨ 1 < R by omega) with hRc | hRc
    · subst hRc
      obtain ⟨rN, hrN⟩ : ∃ k : Nat, (1 : Int) = k := ⟨1, by omega⟩
      have PK : Hid (∀ V, Fr No w4 V → Calls Tryd.prog 28 #[Ptr r, .int .i64 4] V fun e w' => ∃ z : Nat, e = .returned (.int .i64 (z : Int)) ∧ Hid (z < 4 ∧ Fr (One r) w4 w' ∧ V.heap.size ≤ w'.heap.size ∧ Rdc w' r A1 n1 c1 (p' + 1 + 1)) ∧ (z : Int) < 4) := fun V hf => (pick_any V r A1 n1 c1 _ 4 (HR4.out.fr hf (fun h => h) (fun _ _ _ h => h)) (by decide) (by decide) (by omega)).mono (fun e w' ⟨z, h1, h2, h3, h4⟩ => ⟨z, h1, ⟨h2, (hf.mono (fun _ _ h => h.elim)).trans h3, h3.size, h4⟩, by omega⟩)
      have RD : Hid (∀ V (z : Nat), z < 4 → Rdc V r A1 n1 c1 (p' + 1 + 1) → Calls Tryd.prog 44 #[Ptr r, .int .i64 1, .int .i64 (IntKind.i64.wrap (1 + (z : Int)))] V fun e w' => DrR r A1 n1 c1 (p' + 1 + 1) (rN * (1 + z) + 2) ((1 + z : Nat) : Int) V e w') := fun V z hz hr => by
        have h := rel_draw V r A1 n1 c1 (p' + 1 + 1) rN (1 + z) hr (by omega) (by omega) (by omega) (by omega) (by omega)
        have e1 : IntKind.i64.wrap (1 + (z : Int)) = ((1 + z : Nat) : Int) := by rw [IntWalk.i64_in _ (by omega)]; omega
        obtain rfl : rN = 1 := by omega
        rw [e1]
        exact h
      have hdn : Fr No w4 w4.drew := (Fr.refl _ _).drew
      have CA : Hid (∀ V, Fr (One r) w4 V → V.cell? ⟨w2.heap.size, 0, none⟩ = some (.int .i64 L) ∧ V.cell? ⟨w2.heap.size, 1, none⟩ = some (.int .i64 1) ∧ V.cell? ⟨w2.heap.size, 2, none⟩ = some (.slice (some ⟨g, 0, none⟩) ps.length cp)) := fun V hf => ⟨(CC.out V hf).1, (CC.out V hf).2.1, (CC.out V hf).2.2.1⟩
      have HRN : Hid (rN ≤ 4) := Lib.hid (by omega)
      clear HR4 hrN
      go_wp2_with fail
      go_region_held3 (fun w' => w'.cell? ⟨w2.heap.size, 0, none⟩ = some (.int .i64 L) ∧ w'.cell? ⟨w2.heap.size, 1, none⟩ = some (.int .i64 1) ∧ w'.cell? ⟨w2.heap.size, 2, none⟩ = some (.slice (some ⟨g, 0, none⟩) ps.length cp)) (go_keep)
        (first
          | (go_at_call 28; ((with_reducible refine (PK.out _ hdn).mono ?_); rintro e w5 ⟨z, rfl, HZ5, hz4⟩; obtain ⟨t0, t1, t2⟩ := CA.out w5 HZ5.out.2.1))
          | (go_at_call 44; ((with_reducible refine (RD.out w5 z HZ5.out.1 HZ5.out.2.2.2).mono ?_); rintro e w6 ⟨L2, qs, g2, cp2, p2, rfl, ho6, hl6, hf6, _, _⟩; obtain ⟨t0, t1, t2, r0, r1, r2, r3, r4, r5, f0, f1, f2, f3, f4, f5, l0, l1, l2⟩ := CC.out w6 (HZ5.out.2.1.trans hf6))))
      all_goals
        go_wp2_with fail
        refine bodyPost_ret (v := .tuple #[RV L 1 (some ⟨g, 0, none⟩) ps.length cp, RV L2 ((1 + z : Nat) : Int) (some ⟨g2, 0, none⟩) qs.length cp2]) (by simp [results, Tryd.results20, go_sem, r0, r1, r2, r3, r4, r5]) rfl ?_
        exact FIN.out _ _ _ _ _ _ w6 _ _ _ _ _ _ (HZ5.out.2.1.trans hf6) ho6 HZ5.out.2.2.1 (Nat.le_trans hl6 (by
          have hz := HZ5.out.1
          have hrr := HRN.out
          have := Nat.mul_le_mul (show rN ≤ 4 by omega) (show 1 + z ≤ 4 by omega)
          omega))
    · have hRc2 : R > 1 := hRc
      obtain ⟨rN, hrN⟩ : ∃ k : Nat, R = k := ⟨R.toNat, by omega⟩
      have PK : Hid (∀ V, Fr No w4 V → Calls Tryd.prog 28 #[Ptr r, .int .i64 4] V fun e w' => ∃ z : Nat, e = .returned (.int .i64 (z : Int)) ∧ Hid (z < 4 ∧ Fr (One r) w4 w' ∧ V.heap.size ≤ w'.heap.size ∧ Rdc w' r A1 n1 c1 (p' + 1 + 1)) ∧ (z : Int) < 4) := fun V hf => (pick_any V r A1 n1 c1 _ 4 (HR4.out.fr hf (fun h => h) (fun _ _ _ h => h)) (by decide) (by decide) (by omega)).mono (fun e w' ⟨z, h1, h2, h3, h4⟩ => ⟨z, h1, ⟨h2, (hf.mono (fun _ _ h => h.elim)).trans h3, h3.size, h4⟩, by omega⟩)
      have RD : Hid (∀ V (z : Nat), z < 4 → Rdc V r A1 n1 c1 (p' + 1 + 1) → Calls Tryd.prog 44 #[Ptr r, .int .i64 R, .int .i64 (IntKind.i64.wrap (1 + (z : Int)))] V fun e w' => DrR r A1 n1 c1 (p' + 1 + 1) (rN * (1 + z) + 2) ((1 + z : Nat) : Int) V e w') := fun V z hz hr => by
        have h := rel_draw V r A1 n1 c1 (p' + 1 + 1) rN (1 + z) hr (by omega) (by omega) (by omega) (by omega) (by omega)
        have e1 : IntKind.i64.wrap (1 + (z : Int)) = ((1 + z : Nat) : Int) := by rw [IntWalk.i64_in _ (by omega)]; omega
        rw [e1, hrN]
        exact h
      have hdn : Fr No w4 w4.drew := (Fr.refl _ _).drew
      have CA : Hid (∀ V, Fr (One r) w4 V → V.cell? ⟨w2.heap.size, 0, none⟩ = some (.int .i64 L) ∧ V.cell? ⟨w2.heap.size, 1, none⟩ = some (.int .i64 R) ∧ V.cell? ⟨w2.heap.size, 2, none⟩ = some (.slice (some ⟨g, 0, none⟩) ps.length cp)) := fun V hf => ⟨(CC.out V hf).1, (CC.out V hf).2.1, (CC.out V hf).2.2.1⟩
      have HRN : Hid (rN ≤ 4) := Lib.hid (by omega)
      clear HR4 hrN
      go_wp2_with fail
      go_region_held3 (fun w' => w'.cell? ⟨w2.heap.size, 0, none⟩ = some (.int .i64 L) ∧ w'.cell? ⟨w2.heap.size, 1, none⟩ = some (.int .i64 R) ∧ w'.cell? ⟨w2.heap.size, 2, none⟩ = some (.slice (some ⟨g, 0, none⟩) ps.length cp)) (go_keep)
        (first
          | (go_at_call 28; ((with_reducible refine (PK.out _ hdn).mono ?_); rintro e w5 ⟨z, rfl, HZ5, hz4⟩; obtain ⟨t0, t1, t2⟩ := CA.out w5 HZ5.out.2.1))
          | (go_at_call 44; ((with_reducible refine (RD.out w5 z HZ5.out.1 HZ5.out.2.2.2).mono ?_); rintro e w6 ⟨L2, qs, g2, cp2, p2, rfl, ho6, hl6, hf6, _, _⟩; obtain ⟨t0, t1, t2, r0, r1, r2, r3, r4, r5, f0, f1, f2, f3, f4, f5, l0, l1, l2⟩ := CC.out w6 (HZ5.out.2.1.trans hf6))))
      all_goals
        go_wp2_with fail
        refine bodyPost_ret (v := .tuple #[RV L R (some ⟨g, 0, none⟩) ps.length cp, RV L2 ((1 + z : Nat) : Int) (some ⟨g2, 0, none⟩) qs.length cp2]) (by simp [results, Tryd.results20, go_sem, r0, r1, r2, r3, r4, r5]) rfl ?_
        exact FIN.out _ _ _ _ _ _ w6 _ _ _ _ _ _ (HZ5.out.2.1.trans hf6) ho6 HZ5.out.2.2.1 (Nat.le_trans hl6 (by
          have hz := HZ5.out.1
          have hrr := HRN.out
          have := Nat.mul_le_mul (show rN ≤ 4 by omega) (show 1 + z ≤ 4 by omega)
          omega))
end Go.Proofs.YticoeooeeejboaaDoor
