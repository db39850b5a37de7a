/- The law FnRelHas: related numbers are related back. -/
import Derived.Test.YticoeooeeejboaaDoorDrs
import Derived.Test.YticoeooeeejboaaDoorSam
import Derived.Test.YticoeooeeejboaaDoorGbk
import Derived.Test.YticoeooeeejboaaDoorBk2
import Derived.Test.YticoeooeeejboaaDoorLrel
namespace Go.Proofs.YticoeooeeejboaaDoor
open Go.RowKit Go.ChangeMaps Go.Shelf

/-- a relation and two numbers that were drawn -/
def DrH (w : World) (e : Ending) (w' : World) : Prop :=
  ∃ (L R : Int) (ps : List Int) (B : Option Addr) (cp : Nat) (i j : Int), e = .returned (.tuple #[RV L R B ps.length cp, .int .i64 i, .int .i64 j]) ∧ OR w' w.heap.size B ps.length cp ps ∧ ps.length ≤ 1000 ∧ Fr No w w'

set_option maxRecDepth 100000 in
set_option maxHeartbeats 2000000 in
theorem drawRelHas (w : World) (A : Option Addr) (n c : Nat) (hn : n ≤ maxLen) (hnc : n ≤ c) (hb : Byt w A n) :
    Calls Tryd.prog 8 #[.slice A n c] w fun e w' => DrH w e w' := by
  obtain ⟨W0, hW0, hf0, hb0⟩ : ∃ W, W = w.alloc (.cells #[.int .i64 0, .int .i64 0, .slice none 0 0] 25) ∧ Fr No w W ∧ Blk W w.heap.size 25 #[.int .i64 0, .int .i64 0, .slice none 0 0] := ⟨_, rfl, (Fr.refl _ _).alloc _, Blk.new _ _ _⟩
  have HF0 := Lib.hid hf0
  have HB0 := Lib.hid hb0
  have OP := Lib.hid (open_any W0 A n c hn hnc (hb.keep hf0))
  clear hb hf0 hb0 hn hnc
  go_enter Tryd.func8, Tryd.ntmps8
  go_wp2_with fail
  rw [← hW0]
  clear hW0
  refine OP.out.mono ?_
  rintro e w1 ⟨r, A1, n1, c1, rfl, hf1, hr1, hd1⟩
  have AD := Lib.hid (any_draw w1 r A1 n1 c1 0 hd1 (by omega))
  have HF1 := Lib.hid hf1
  have HRL : Hid (r < w1.heap.size) := hd1.blk.lt
  have hs0 : w.heap.size < W0.heap.size := HB0.out.lt
  have hs1 : W0.heap.size ≤ w1.heap.size := hf1.size
  clear hf1 hd1 OP
  go_wp2_with fail
  refine AD.out.mono ?_
  rintro e w2 ⟨L, R, ps, g, cp, p', rfl, hor, hlen, _, hf2, hp', hr2⟩
  have PK := Lib.hid (pick_any w2 r A1 n1 c1 p' 5 hr2 (by decide) (by decide) (by omega))
  have HF2 : Hid (Fr (One r) w1 w2) := hf2
  have HO2 := Lib.hid hor
  clear hor hf2 hr2 AD
  go_wp2_with fail
  refine PK.out.mono ?_
  rintro e w3 ⟨y, rfl, hy, hf3, hr3⟩
  have PK2 := Lib.hid (pick_any w3 r A1 n1 c1 _ 20 hr3 (by decide) (by decide) (by omega))
  have HF3 := Lib.hid (HF2.out.trans hf3)
  have HO3 := Lib.hid (HO2.out.fr hf3 (fun b hb e => by have e : b = r := e; have := (HO2.out.bounds hb).1; have := HRL.out; omega))
  clear hf3 hr3 PK
  go_wp2_with fail
  refine PK2.out.mono ?_
  rintro e w4 ⟨z, rfl, hz, hf4, hr4⟩
  have PK3 := Lib.hid (pick_any w4 r A1 n1 c1 _ 5 hr4 (by decide) (by decide) (by omega))
  have HF4 := Lib.hid (HF3.out.trans hf4)
  have HO4 := Lib.hid (HO3.out.fr hf4 (fun b hb e => by have e : b = r := e; have := (HO3.out.bounds hb).1; have := HRL.out; omega))
  have hq1 : ((z : Int)).tdiv 19 = (z : Int) / 19 := Int.tdiv_eq_ediv_of_nonneg (by omega)
  clear hf4 hr4 PK2
  go_wp2_with fail
  refine PK3.out.mono ?_
  rintro e w5 ⟨u, rfl, hu, hf5, hr5⟩
  have HF5 := Lib.hid (HF4.out.trans hf5)
  have HO5 := Lib.hid (HO4.out.fr hf5 (fun b hb e => by have e : b = r := e; have := (HO4.out.bounds hb).1; have := HRL.out; omega))
  have hb3 := (HB0.out.fr HF1.out (fun h => h)).fr HF5.out (fun e => by have e : w.heap.size = r := e; omega)
  have a0 : w5.cell? ⟨w.heap.size, 0, none⟩ = some (.int .i64 0) := (hb3.cell 0).trans rfl
  have a1 : w5.cell? ⟨w.heap.size, 1, none⟩ = some (.int .i64 0) := (hb3.cell 1).trans rfl
  have a2 : w5.cell? ⟨w.heap.size, 2, none⟩ = some (.slice none 0 0) := (hb3.cell 2).trans rfl
  have f0 := hb3.frozen 0
  have f1 := hb3.frozen 1
  have f2 := hb3.frozen 2
  have l0 := hb3.lt
  have HFIN : Hid (∀ v0 v1 v2 (i j : Int), DrH w (.returned (.tuple #[RV L R (some ⟨g, 0, none⟩) ps.length cp, .int .i64 i, .int .i64 j])) (((w5.setCell ⟨w.heap.size, 0, none⟩ v0).setCell ⟨w.heap.size, 1, none⟩ v1).setCell ⟨w.heap.size, 2, none⟩ v2)) := fun v0 v1 v2 i j => by
    have hf : Fr (One w.heap.size) w5 (((w5.setCell ⟨w.heap.size, 0, none⟩ v0).setCell ⟨w.heap.size, 1, none⟩ v1).setCell ⟨w.heap.size, 2, none⟩ v2) := (((Fr.refl (One w.heap.size) w5).setCell (p := ⟨w.heap.size, 0, none⟩) (.inl rfl) _).setCell (p := ⟨w.heap.size, 1, none⟩) (.inl rfl) _).setCell (p := ⟨w.heap.size, 2, none⟩) (.inl rfl) _
    exact ⟨L, R, ps, _, cp, i, j, rfl, (HO5.out.fr hf (fun b hb e => by have e : b = w.heap.size := e; have := (HO5.out.bounds hb).1; omega)).low (by omega), by omega, ((HF0.out.trans HF1.out).then_ HF5.out (fun b hb e => by have e : b = r := e; omega)).then_ hf (fun b hb e => by have e : b = w.heap.size := e; omega)⟩
  clear hb3 hf5 hr5 PK3
  go_wp2_with fail
  refine bodyPost_ret (v := .tuple #[RV L R (some ⟨g, 0, none⟩) ps.length cp, .int .i64 ((y : Int) - (z : Int) / 19), .int .i64 (u : Int)]) (by simp [results, Tryd.results8, go_sem, a0, a1, a2]) rfl ?_
  exact HFIN.out _ _ _ _ _

set_option maxRecDepth 100000 in
set_option maxHeartbeats 8000000 in
theorem lawRelHasP (w : World) (hT : TZt w) (A : Option Addr) (n c : Nat) (hn : n ≤ maxLen) (hnc : n ≤ c) (hb : Byt w A n) :
    Calls Tryd.prog 3 #[.slice A n c] w fun e w' => Yes w e w' := by
  have hn' := hn
  unfold maxLen at hn'
  by_cases hbig : 1048576 < n
  · have hd : decide ((1048576 : Int) < (n : Int)) = true := by simp; omega
    go_enter Tryd.func3, Tryd.ntmps3
    go_wp2_with fail
    go_ret
    exact ⟨rfl, Fr.refl _ _⟩
  have hd : decide ((1048576 : Int) < (n : Int)) = false := by simp; omega
  have DR := Lib.hid (drawRelHas w A n c hn hnc hb)
  have HT := Lib.hid hT
  clear hb hbig hT
  go_enter Tryd.func3, Tryd.ntmps3
  go_wp2_with fail
  refine DR.out.mono ?_
  rintro e w1 ⟨L, R, ps, B, cp, i, j, rfl, ho1, hl1, hf1⟩
  obtain ⟨W2, hW2, hfr, hbr⟩ : ∃ V, V = w1.alloc (.cells #[.int .i64 L, .int .i64 R, .slice B ps.length cp] 25) ∧ Fr No w1 V ∧ Blk V w1.heap.size 25 #[.int .i64 L, .int .i64 R, .slice B ps.length cp] := ⟨_, rfl, (Fr.refl _ _).alloc _, Blk.new _ _ _⟩
  have HBr : Hid (∀ V, Fr No W2 V → V.cell? ⟨w1.heap.size, 0, none⟩ = some (.int .i64 L) ∧ V.cell? ⟨w1.heap.size, 1, none⟩ = some (.int .i64 R) ∧ V.cell? ⟨w1.heap.size, 2, none⟩ = some (.slice B ps.length cp) ∧ w1.heap.size < V.heap.size) := fun V hf => by
    have hb := hbr.fr hf (fun h => h)
    exact ⟨(hb.cell 0).trans rfl, (hb.cell 1).trans rfl, (hb.cell 2).trans rfl, hb.lt⟩
  have HF2 := Lib.hid (hf1.trans hfr)
  have HO2 := Lib.hid (ho1.no hfr)
  obtain ⟨b, HHB, FI, FS⟩ : ∃ b : Bool, Hid (b = true ↔ HasRel L R ps i j) ∧ Hid (Calls Tryd.prog 9 #[RV L R B ps.length cp, .int .i64 i, .int .i64 j] W2 fun e w' => e = .returned (.bool b) ∧ Fr No W2 w') ∧ Hid (∀ V, Fr No W2 V → Calls Tryd.prog 10 #[RV L R B ps.length cp, .int .i64 i, .int .i64 j] V fun e w' => e = .returned (.bool b) ∧ Fr No V w') := by
    have key : ∀ (b b' : Bool), (b = true ↔ HasRel L R ps i j) → (b' = true ↔ HasRel L R ps i j) → b = b' := fun b b' h h' => Bool.eq_iff_iff.2 (h.trans h'.symm)
    obtain ⟨b, hb⟩ : ∃ b : Bool, b = true ↔ HasRel L R ps i j := by
      by_cases h : HasRel L R ps i j
      · exact ⟨true, by simpa using h⟩
      · exact ⟨false, by simpa using h⟩
    refine ⟨b, hb, (implRelHas W2 L R B cp ps i j (OR.isl HO2.out) (by omega)).mono ?_, fun V hf => (specRelHas V L R B cp ps i j (OR.isl (HO2.out.no hf)) (by omega)).mono ?_⟩
    · rintro e w' ⟨b', rfl, hb', hf'⟩
      exact ⟨by rw [key b b' hb hb'], hf'⟩
    · rintro e w' ⟨b', rfl, hb', hf'⟩
      exact ⟨by rw [key b b' hb hb'], hf'⟩
  obtain ⟨c0, c1, c2, c3⟩ := HBr.out W2 (Fr.refl _ _)
  clear hf1 hfr hbr ho1 DR
  subst hW2
  go_wp2_with fail
  refine FI.out.mono ?_
  rintro e w3 ⟨rfl, hf3⟩
  have HF3 := Lib.hid hf3
  clear c0 c1 c2 c3
  obtain ⟨c0, c1, c2, c3⟩ := HBr.out w3 hf3
  clear hf3
  go_wp2_with fail
  refine (FS.out w3 HF3.out).mono ?_
  rintro e w4 ⟨rfl, hf4⟩
  have HF4 := Lib.hid (HF3.out.trans hf4)
  clear c0 c1 c2 c3
  obtain ⟨c0, c1, c2, c3⟩ := HBr.out w4 HF4.out
  clear hf4 FI FS
  cases b with
  | false =>
    go_wp2_with fail
    go_ret
    exact ⟨rfl, HF2.out.trans HF4.out⟩
  | true =>
    obtain ⟨hok, hi, hj, hm⟩ := HHB.out.1 rfl
    have hhr : HasRel L R ps i j := ⟨hok, hi, hj, hm⟩
    obtain ⟨l, r, rfl, rfl, l1, l2, r1, r2⟩ := hok.nat
    obtain ⟨iN, rfl⟩ : ∃ k : Nat, i = k := ⟨i.toNat, by omega⟩
    obtain ⟨jN, rfl⟩ : ∃ k : Nat, j = k := ⟨j.toNat, by omega⟩
    have hbm : HasRel (r : Int) (l : Int) (bk l r ps) (jN : Int) (iN : Int) := (memR_has (bk_ok hok) (by omega) (by omega)).1 (by
      rw [bk_mem (by omega) (by omega) (by omega)]
      exact (memR_has hok (by omega) (by omega)).2 hhr)
    have HBM := Lib.hid hbm
    have hbl : (bk l r ps).length ≤ 1000 := by rw [bk_len hok]; exact hl1
    have BI := Lib.hid (implRelBack w4 (l : Int) (r : Int) B cp ps (OR.isl (HO2.out.no HF4.out)) (by omega) (HT.out.fr (HF2.out.trans HF4.out) (fun h => h)))
    rw [backO_bk hok] at BI
    obtain ⟨hi0, hil⟩ := hi
    obtain ⟨hj0, hjl⟩ := hj
    clear hok hm hhr hbm
    go_wp2_with fail
    refine BI.out.mono ?_
    rintro e w8 ⟨Ax, nx, cx, rfl, hf8, ho8⟩
    simp only [Option.getD_some, Option.isSome_some] at ho8 ⊢
    obtain ⟨W9, hW9, hfx, hbx⟩ : ∃ V, V = w8.alloc (.cells #[.int .i64 (r : Int), .int .i64 (l : Int), .slice Ax nx cx] 25) ∧ Fr No w8 V ∧ Blk V w8.heap.size 25 #[.int .i64 (r : Int), .int .i64 (l : Int), .slice Ax nx cx] := ⟨_, rfl, (Fr.refl _ _).alloc _, Blk.new _ _ _⟩
    have HBx : Hid (∀ V, Fr No W9 V → V.cell? ⟨w8.heap.size, 0, none⟩ = some (.int .i64 (r : Int)) ∧ V.cell? ⟨w8.heap.size, 1, none⟩ = some (.int .i64 (l : Int)) ∧ V.cell? ⟨w8.heap.size, 2, none⟩ = some (.slice Ax nx cx) ∧ w8.heap.size < V.heap.size) := fun V hf => by
      have hb := hbx.fr hf (fun h => h)
      exact ⟨(hb.cell 0).trans rfl, (hb.cell 1).trans rfl, (hb.cell 2).trans rfl, hb.lt⟩
    have HF9 := Lib.hid (HF4.out.trans (hf8.trans hfx))
    have HX9 := Lib.hid (ho8.no hfx)
    have hnx : nx = (bk l r ps).length := HX9.out.1
    subst hnx
    have HI := Lib.hid (implRelHas W9 (r : Int) (l : Int) Ax cx (bk l r ps) (jN : Int) (iN : Int) (OR.isl HX9.out) (by omega))
    clear c0 c1 c2 c3 hf8 ho8 hfx hbx BI
    obtain ⟨a0, a1, a2, a3⟩ := HBx.out W9 (Fr.refl _ _)
    subst hW9
    go_wp2_with fail
    refine HI.out.mono ?_
    rintro e w10 ⟨b, rfl, hb, hf10⟩
    obtain rfl : b = true := hb.2 HBM.out
    have HEND := Lib.hid (HF2.out.trans (HF9.out.trans hf10))
    obtain ⟨c0, c1, c2, c3⟩ := HBr.out w10 (HF9.out.trans hf10)
    clear a0 a1 a2 a3 hb hf10
    go_wp2_with fail
    go_ret
    exact ⟨rfl, HEND.out⟩
end Go.Proofs.YticoeooeeejboaaDoor
