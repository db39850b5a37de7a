/- The law FnRelJoin: joined relations are joined back in the opposite order. -/
import Derived.Test.YticoeooeeejboaaDoorDrj
import Derived.Test.YticoeooeeejboaaDoorSam
import Derived.Test.YticoeooeeejboaaDoorGbk
import Derived.Test.YticoeooeeejboaaDoorBk2
import Derived.Test.YticoeooeeejboaaDoorJn1
import Derived.Test.YticoeooeeejboaaDoorJn2
namespace Go.Proofs.YticoeooeeejboaaDoor
open Go.RowKit Go.ChangeMaps Go.Shelf

set_option maxRecDepth 100000 in
set_option maxHeartbeats 16000000 in
theorem lawRelJoinP (w : World) (hT : TZt w) (A : Option Addr) (n c : Nat) (hn : n ≤ maxLen) (hnc : n ≤ c) (hb : Byt w A n) :
    Calls Tryd.prog 6 #[.slice A n c] w fun e w' => Yes w e w' := by
  have hn' := hn
  unfold maxLen at hn'
  by_cases hbig : 1048576 < n
  · have hd : decide ((1048576 : Int) < (n : Int)) = true := by simp; omega
    go_enter Tryd.func6, Tryd.ntmps6
    go_wp2_with fail
    go_ret
    exact ⟨rfl, Fr.refl _ _⟩
  have hd : decide ((1048576 : Int) < (n : Int)) = false := by simp; omega
  have DR := Lib.hid (drawRelJoin w A n c hn hnc hb)
  have HT := Lib.hid hT
  clear hb hbig hT
  go_enter Tryd.func6, Tryd.ntmps6
  go_wp2_with fail
  refine DR.out.mono ?_
  rintro e w1 ⟨L, R, ps, B, cp, L2, R2, qs, B2, cp2, rfl, ho1, hq1, hl1, hl2, hf1⟩
  obtain ⟨V1, hV1, hfa, hba⟩ : ∃ V, V = w1.alloc (.cells #[.int .i64 L, .int .i64 R, .slice B ps.length cp] 25) ∧ Fr No w1 V ∧ Blk V w1.heap.size 25 #[.int .i64 L, .int .i64 R, .slice B ps.length cp] := ⟨_, rfl, (Fr.refl _ _).alloc _, Blk.new _ _ _⟩
  have HBa : Hid (∀ V, Fr No V1 V → V.cell? ⟨w1.heap.size, 0, none⟩ = some (.int .i64 L) ∧ V.cell? ⟨w1.heap.size, 1, none⟩ = some (.int .i64 R) ∧ V.cell? ⟨w1.heap.size, 2, none⟩ = some (.slice B ps.length cp) ∧ w1.heap.size < V.heap.size) := fun V hf => by
    have hb := hba.fr hf (fun h => h)
    exact ⟨(hb.cell 0).trans rfl, (hb.cell 1).trans rfl, (hb.cell 2).trans rfl, hb.lt⟩
  obtain ⟨W2, hW2, hfb, hbb⟩ : ∃ V, V = V1.alloc (.cells #[.int .i64 L2, .int .i64 R2, .slice B2 qs.length cp2] 25) ∧ Fr No V1 V ∧ Blk V V1.heap.size 25 #[.int .i64 L2, .int .i64 R2, .slice B2 qs.length cp2] := ⟨_, rfl, (Fr.refl _ _).alloc _, Blk.new _ _ _⟩
  have HBb : Hid (∀ V, Fr No W2 V → V.cell? ⟨V1.heap.size, 0, none⟩ = some (.int .i64 L2) ∧ V.cell? ⟨V1.heap.size, 1, none⟩ = some (.int .i64 R2) ∧ V.cell? ⟨V1.heap.size, 2, none⟩ = some (.slice B2 qs.length cp2) ∧ V1.heap.size < V.heap.size) := fun V hf => by
    have hb := hbb.fr hf (fun h => h)
    exact ⟨(hb.cell 0).trans rfl, (hb.cell 1).trans rfl, (hb.cell 2).trans rfl, hb.lt⟩
  have hz1 : V1.heap.size = w1.heap.size + 1 := by rw [hV1]; simp
  rw [hz1] at HBb
  clear hz1
  have HF2 := Lib.hid (hf1.trans (hfa.trans hfb))
  have HO2 := Lib.hid (ho1.no (hfa.trans hfb))
  have HQ2 := Lib.hid (hq1.no (hfa.trans hfb))
  have HBA : Hid (∀ V, Fr No W2 V → V.cell? ⟨w1.heap.size, 0, none⟩ = some (.int .i64 L) ∧ V.cell? ⟨w1.heap.size, 1, none⟩ = some (.int .i64 R) ∧ V.cell? ⟨w1.heap.size, 2, none⟩ = some (.slice B ps.length cp) ∧ w1.heap.size < V.heap.size) := fun V hf => HBa.out V (hfb.trans hf)
  clear HBa
  have HBa := HBA
  have FI := Lib.hid (implRelJoin W2 L R B cp ps L2 R2 B2 cp2 qs (OR.isl HO2.out) (by omega) (OR.isl HQ2.out) (by omega) (HT.out.fr HF2.out (fun h => h)))
  have FS : Hid (∀ V, Fr No W2 V → Calls Tryd.prog 21 #[RV L R B ps.length cp, RV L2 R2 B2 qs.length cp2] V fun e w' => AnsR (joinO L R ps L2 R2 qs) V e w') := fun V hf => specRelJoin V L R B cp ps L2 R2 B2 cp2 qs (OR.isl (HO2.out.no hf)) (by omega) (OR.isl (HQ2.out.no hf)) (by omega)
  obtain ⟨a0, a1, a2, a3⟩ := HBa.out W2 (Fr.refl _ _)
  obtain ⟨b0, b1, b2, b3⟩ := HBb.out W2 (Fr.refl _ _)
  clear hf1 hfa hba hfb hbb ho1 hq1 DR HBA
  by_cases hok : JoinOk L R ps L2 R2 qs
  · obtain ⟨k1, k2, k3⟩ := hok
    obtain ⟨l, r, rfl, rfl, l1, l2, r1, r2'⟩ := k1.nat
    obtain rfl : L2 = (r : Int) := by omega
    obtain ⟨r0, r2, e0, rfl, _, _, h1r2, h2r2⟩ := k2.nat
    obtain rfl : r = r0 := by omega
    clear e0
    rw [joinO_jn k1 k2] at FI FS
    have HOK1 := Lib.hid k1
    have HOK2 := Lib.hid k2
    have HOK3 := Lib.hid (jn_ok k1 k2)
    have hjl := bk_le HOK3.out
    have hl3 := bk_le (bk_ok k1)
    have hl4 := bk_le (bk_ok k2)
    have hl5 := bk_le (bk_ok HOK3.out)
    have hl6 := bk_le (sm_ok h1r2 h2r2)
    clear k1 k2 k3
    subst hW2
    subst hV1
    go_wp2_with fail
    refine FI.out.mono ?_
    rintro e w3 ⟨Ag, ng, cg, rfl, hf3, ho3⟩
    simp only [Option.getD_some, Option.isSome_some] at ho3 ⊢
    obtain ⟨W4, hW4, hfg, hbg⟩ : ∃ V, V = w3.alloc (.cells #[.int .i64 (l : Int), .int .i64 (r2 : Int), .slice Ag ng cg] 25) ∧ Fr No w3 V ∧ Blk V w3.heap.size 25 #[.int .i64 (l : Int), .int .i64 (r2 : Int), .slice Ag ng cg] := ⟨_, rfl, (Fr.refl _ _).alloc _, Blk.new _ _ _⟩
    have HBg : Hid (∀ V, Fr No W4 V → V.cell? ⟨w3.heap.size, 0, none⟩ = some (.int .i64 (l : Int)) ∧ V.cell? ⟨w3.heap.size, 1, none⟩ = some (.int .i64 (r2 : Int)) ∧ V.cell? ⟨w3.heap.size, 2, none⟩ = some (.slice Ag ng cg) ∧ w3.heap.size < V.heap.size) := fun V hf => by
      have hb := hbg.fr hf (fun h => h)
      exact ⟨(hb.cell 0).trans rfl, (hb.cell 1).trans rfl, (hb.cell 2).trans rfl, hb.lt⟩
    have HF4 := Lib.hid (hf3.trans hfg)
    have HO4 := Lib.hid (ho3.no hfg)
    clear a0 a1 a2 a3 b0 b1 b2 b3 hf3 ho3 hfg hbg FI
    obtain ⟨a0, a1, a2, a3⟩ := HBa.out W4 HF4.out
    obtain ⟨b0, b1, b2, b3⟩ := HBb.out W4 HF4.out
    subst hW4
    go_wp2_with fail
    refine (FS.out _ HF4.out).mono ?_
    rintro e w5 ⟨As, ns, cs, rfl, hf5, ho5⟩
    simp only [Option.getD_some, Option.isSome_some] at ho5 ⊢
    obtain ⟨W6, hW6, hfs, hbs⟩ : ∃ V, V = w5.alloc (.cells #[.int .i64 (l : Int), .int .i64 (r2 : Int), .slice As ns cs] 25) ∧ Fr No w5 V ∧ Blk V w5.heap.size 25 #[.int .i64 (l : Int), .int .i64 (r2 : Int), .slice As ns cs] := ⟨_, rfl, (Fr.refl _ _).alloc _, Blk.new _ _ _⟩
    have HBs : Hid (∀ V, Fr No W6 V → V.cell? ⟨w5.heap.size, 0, none⟩ = some (.int .i64 (l : Int)) ∧ V.cell? ⟨w5.heap.size, 1, none⟩ = some (.int .i64 (r2 : Int)) ∧ V.cell? ⟨w5.heap.size, 2, none⟩ = some (.slice As ns cs) ∧ w5.heap.size < V.heap.size) := fun V hf => by
      have hb := hbs.fr hf (fun h => h)
      exact ⟨(hb.cell 0).trans rfl, (hb.cell 1).trans rfl, (hb.cell 2).trans rfl, hb.lt⟩
    have HF6 := Lib.hid (hf5.trans hfs)
    have HG6 := Lib.hid (HO4.out.no HF6.out)
    have HO6 := Lib.hid (ho5.no hfs)
    clear a0 a1 a2 a3 b0 b1 b2 b3 hf5 ho5 hfs hbs FS HO4
    have hng : ng = (jn l r ps r2 qs).length := HG6.out.1
    have hns : ns = (jn l r ps r2 qs).length := HO6.out.1
    subst hng hns
    have SR1 : Hid (∀ V, Fr No W6 V → Calls Tryd.prog 15 #[RV (l : Int) (r2 : Int) Ag (jn l r ps r2 qs).length cg, RV (l : Int) (r2 : Int) As (jn l r ps r2 qs).length cs] V fun e w' => e = .returned (.bool true) ∧ Fr No V w') := fun V hf => by
      refine (samer_any V (l : Int) (r2 : Int) Ag cg (jn l r ps r2 qs) (l : Int) (r2 : Int) As cs (jn l r ps r2 qs) (OR.isl (HG6.out.no hf)) (OR.isl (HO6.out.no hf)) (by first | omega | simp) (by first | omega | simp)).mono ?_
      rintro e w' ⟨b, rfl, hb, hf'⟩
      obtain rfl : b = true := hb.2 ⟨rfl, rfl, rfl⟩
      exact ⟨rfl, hf'⟩
    obtain ⟨a0, a1, a2, a3⟩ := HBg.out W6 HF6.out
    obtain ⟨b0, b1, b2, b3⟩ := HBs.out W6 (Fr.refl _ _)
    subst hW6
    go_wp2_with fail
    refine (SR1.out _ (Fr.refl _ _)).mono ?_
    rintro e w7 ⟨rfl, hf7⟩
    have HF7 := Lib.hid hf7
    clear a0 a1 a2 a3 b0 b1 b2 b3 hf7
    have HFW7 : Hid (Fr No w w7) := HF2.out.trans (HF4.out.trans (HF6.out.trans HF7.out))
    have HFg7 := Lib.hid (HF6.out.trans HF7.out)
    have HF27 := Lib.hid (HF4.out.trans HFg7.out)
    have HG7 := Lib.hid (HG6.out.no HF7.out)
    have HOa7 := Lib.hid (HO2.out.no HF27.out)
    have HQb7 := Lib.hid (HQ2.out.no HF27.out)
    have HBg' := HBg
    have HBa' := HBa
    have HBb' := HBb
    clear HBg HBa HBb SR1
    have HBg : Hid (∀ V, Fr No w7 V → _) := fun V hf => HBg'.out V (HFg7.out.trans hf)
    have HBa : Hid (∀ V, Fr No w7 V → _) := fun V hf => HBa'.out V (HF27.out.trans hf)
    have HBb : Hid (∀ V, Fr No w7 V → _) := fun V hf => HBb'.out V (HF27.out.trans hf)
    clear HBg' HBa' HBb'
    have CIx := Lib.hid (implRelBack w7 (l : Int) (r : Int) B cp ps (OR.isl (HOa7.out.no (Fr.refl _ _))) (by omega) (HT.out.fr HFW7.out (fun h => h)))
    rw [backO_bk HOK1.out] at CIx
    obtain ⟨qa0, qa1, qa2, qa3⟩ := HBa.out w7 (Fr.refl _ _)
    go_wp2_with fail
    refine CIx.out.mono ?_
    rintro e w20 ⟨Ax, nx, cx, rfl, hfx', hox⟩
    simp only [Option.getD_some, Option.isSome_some] at hox ⊢
    obtain ⟨W21, hW21, hfx, hbx⟩ : ∃ V, V = w20.alloc (.cells #[.int .i64 (r : Int), .int .i64 (l : Int), .slice Ax nx cx] 25) ∧ Fr No w20 V ∧ Blk V w20.heap.size 25 #[.int .i64 (r : Int), .int .i64 (l : Int), .slice Ax nx cx] := ⟨_, rfl, (Fr.refl _ _).alloc _, Blk.new _ _ _⟩
    have HBx : Hid (∀ V, Fr No W21 V → V.cell? ⟨w20.heap.size, 0, none⟩ = some (.int .i64 (r : Int)) ∧ V.cell? ⟨w20.heap.size, 1, none⟩ = some (.int .i64 (l : Int)) ∧ V.cell? ⟨w20.heap.size, 2, none⟩ = some (.slice Ax nx cx) ∧ w20.heap.size < V.heap.size) := fun V hf => by
      have hb := hbx.fr hf (fun h => h)
      exact ⟨(hb.cell 0).trans rfl, (hb.cell 1).trans rfl, (hb.cell 2).trans rfl, hb.lt⟩
    have HFx := Lib.hid (hfx'.trans hfx)
    have HOx := Lib.hid (hox.no hfx)
    have hnx : nx = (bk l r ps).length := HOx.out.1
    subst hnx
    clear qa0 qa1 qa2 qa3
    clear hfx' hox hfx hbx CIx
    have CIy := Lib.hid (implRelBack W21 (r : Int) (r2 : Int) B2 cp2 qs (OR.isl (HQb7.out.no ((HFx.out)))) (by omega) (HT.out.fr (HFW7.out.trans (HFx.out)) (fun h => h)))
    rw [backO_bk HOK2.out] at CIy
    obtain ⟨qb0, qb1, qb2, qb3⟩ := HBb.out W21 ((HFx.out))
    subst hW21
    go_wp2_with fail
    refine CIy.out.mono ?_
    rintro e w22 ⟨Ay, ny, cy, rfl, hfy', hoy⟩
    simp only [Option.getD_some, Option.isSome_some] at hoy ⊢
    obtain ⟨W23, hW23, hfy, hby⟩ : ∃ V, V = w22.alloc (.cells #[.int .i64 (r2 : Int), .int .i64 (r : Int), .slice Ay ny cy] 25) ∧ Fr No w22 V ∧ Blk V w22.heap.size 25 #[.int .i64 (r2 : Int), .int .i64 (r : Int), .slice Ay ny cy] := ⟨_, rfl, (Fr.refl _ _).alloc _, Blk.new _ _ _⟩
    have HBy : Hid (∀ V, Fr No W23 V → V.cell? ⟨w22.heap.size, 0, none⟩ = some (.int .i64 (r2 : Int)) ∧ V.cell? ⟨w22.heap.size, 1, none⟩ = some (.int .i64 (r : Int)) ∧ V.cell? ⟨w22.heap.size, 2, none⟩ = some (.slice Ay ny cy) ∧ w22.heap.size < V.heap.size) := fun V hf => by
      have hb := hby.fr hf (fun h => h)
      exact ⟨(hb.cell 0).trans rfl, (hb.cell 1).trans rfl, (hb.cell 2).trans rfl, hb.lt⟩
    have HFy := Lib.hid (hfy'.trans hfy)
    have HOy := Lib.hid (hoy.no hfy)
    have hny : ny = (bk r r2 qs).length := HOy.out.1
    subst hny
    clear qb0 qb1 qb2 qb3
    clear hfy' hoy hfy hby CIy
    have CIz := Lib.hid (implRelJoin W23 (r2 : Int) (r : Int) Ay cy (bk r r2 qs) (r : Int) (l : Int) Ax cx (bk l r ps) (OR.isl (HOy.out.no (Fr.refl _ _))) (by omega) (OR.isl (HOx.out.no ((HFy.out)))) (by omega) (HT.out.fr (HFW7.out.trans (HFx.out.trans (HFy.out))) (fun h => h)))
    rw [joinO_jn (bk_ok HOK2.out) (bk_ok HOK1.out)] at CIz
    rw [jn_bk HOK1.out HOK2.out] at CIz
    obtain ⟨qy0, qy1, qy2, qy3⟩ := HBy.out W23 (Fr.refl _ _)
    obtain ⟨qx0, qx1, qx2, qx3⟩ := HBx.out W23 ((HFy.out))
    subst hW23
    go_wp2_with fail
    refine CIz.out.mono ?_
    rintro e w24 ⟨Az, nz, cz, rfl, hfz', hoz⟩
    simp only [Option.getD_some, Option.isSome_some] at hoz ⊢
    obtain ⟨W25, hW25, hfz, hbz⟩ : ∃ V, V = w24.alloc (.cells #[.int .i64 (r2 : Int), .int .i64 (l : Int), .slice Az nz cz] 25) ∧ Fr No w24 V ∧ Blk V w24.heap.size 25 #[.int .i64 (r2 : Int), .int .i64 (l : Int), .slice Az nz cz] := ⟨_, rfl, (Fr.refl _ _).alloc _, Blk.new _ _ _⟩
    have HBz : Hid (∀ V, Fr No W25 V → V.cell? ⟨w24.heap.size, 0, none⟩ = some (.int .i64 (r2 : Int)) ∧ V.cell? ⟨w24.heap.size, 1, none⟩ = some (.int .i64 (l : Int)) ∧ V.cell? ⟨w24.heap.size, 2, none⟩ = some (.slice Az nz cz) ∧ w24.heap.size < V.heap.size) := fun V hf => by
      have hb := hbz.fr hf (fun h => h)
      exact ⟨(hb.cell 0).trans rfl, (hb.cell 1).trans rfl, (hb.cell 2).trans rfl, hb.lt⟩
    have HFz := Lib.hid (hfz'.trans hfz)
    have HOz := Lib.hid (hoz.no hfz)
    have hnz : nz = (bk l r2 (jn l r ps r2 qs)).length := HOz.out.1
    subst hnz
    clear qy0 qy1 qy2 qy3 qx0 qx1 qx2 qx3
    clear hfz' hoz hfz hbz CIz
    have CIv := Lib.hid (implRelBack W25 (l : Int) (r2 : Int) Ag cg (jn l r ps r2 qs) (OR.isl (HG7.out.no ((HFx.out.trans (HFy.out.trans (HFz.out)))))) (by omega) (HT.out.fr (HFW7.out.trans (HFx.out.trans (HFy.out.trans (HFz.out)))) (fun h => h)))
    rw [backO_bk HOK3.out] at CIv
    obtain ⟨qg0, qg1, qg2, qg3⟩ := HBg.out W25 ((HFx.out.trans (HFy.out.trans (HFz.out))))
    subst hW25
    go_wp2_with fail
    refine CIv.out.mono ?_
    rintro e w26 ⟨Av, nv, cv, rfl, hfv', hov⟩
    simp only [Option.getD_some, Option.isSome_some] at hov ⊢
    obtain ⟨W27, hW27, hfv, hbv⟩ : ∃ V, V = w26.alloc (.cells #[.int .i64 (r2 : Int), .int .i64 (l : Int), .slice Av nv cv] 25) ∧ Fr No w26 V ∧ Blk V w26.heap.size 25 #[.int .i64 (r2 : Int), .int .i64 (l : Int), .slice Av nv cv] := ⟨_, rfl, (Fr.refl _ _).alloc _, Blk.new _ _ _⟩
    have HBv : Hid (∀ V, Fr No W27 V → V.cell? ⟨w26.heap.size, 0, none⟩ = some (.int .i64 (r2 : Int)) ∧ V.cell? ⟨w26.heap.size, 1, none⟩ = some (.int .i64 (l : Int)) ∧ V.cell? ⟨w26.heap.size, 2, none⟩ = some (.slice Av nv cv) ∧ w26.heap.size < V.heap.size) := fun V hf => by
      have hb := hbv.fr hf (fun h => h)
      exact ⟨(hb.cell 0).trans rfl, (hb.cell 1).trans rfl, (hb.cell 2).trans rfl, hb.lt⟩
    have HFv := Lib.hid (hfv'.trans hfv)
    have HOv := Lib.hid (hov.no hfv)
    have hnv : nv = (bk l r2 (jn l r ps r2 qs)).length := HOv.out.1
    subst hnv
    clear qg0 qg1 qg2 qg3
    clear hfv' hov hfv hbv CIv
    have CIm := Lib.hid (implRelSame W27 (r2 : Int) (HT.out.fr (HFW7.out.trans (HFx.out.trans (HFy.out.trans (HFz.out.trans (HFv.out))))) (fun h => h)))
    rw [sameO_sm h1r2 h2r2] at CIm
    obtain ⟨qg0, qg1, qg2, qg3⟩ := HBg.out W27 ((HFx.out.trans (HFy.out.trans (HFz.out.trans (HFv.out)))))
    subst hW27
    go_wp2_with fail
    refine CIm.out.mono ?_
    rintro e w28 ⟨Am, nm, cm, rfl, hfm', hom⟩
    simp only [Option.getD_some, Option.isSome_some] at hom ⊢
    obtain ⟨W29, hW29, hfm, hbm⟩ : ∃ V, V = w28.alloc (.cells #[.int .i64 (r2 : Int), .int .i64 (r2 : Int), .slice Am nm cm] 25) ∧ Fr No w28 V ∧ Blk V w28.heap.size 25 #[.int .i64 (r2 : Int), .int .i64 (r2 : Int), .slice Am nm cm] := ⟨_, rfl, (Fr.refl _ _).alloc _, Blk.new _ _ _⟩
    have HBm : Hid (∀ V, Fr No W29 V → V.cell? ⟨w28.heap.size, 0, none⟩ = some (.int .i64 (r2 : Int)) ∧ V.cell? ⟨w28.heap.size, 1, none⟩ = some (.int .i64 (r2 : Int)) ∧ V.cell? ⟨w28.heap.size, 2, none⟩ = some (.slice Am nm cm) ∧ w28.heap.size < V.heap.size) := fun V hf => by
      have hb := hbm.fr hf (fun h => h)
      exact ⟨(hb.cell 0).trans rfl, (hb.cell 1).trans rfl, (hb.cell 2).trans rfl, hb.lt⟩
    have HFm := Lib.hid (hfm'.trans hfm)
    have HOm := Lib.hid (hom.no hfm)
    have hnm : nm = (smL r2).length := HOm.out.1
    subst hnm
    clear qg0 qg1 qg2 qg3
    clear hfm' hom hfm hbm CIm
    have CIk := Lib.hid (implRelJoin W29 (l : Int) (r2 : Int) Ag cg (jn l r ps r2 qs) (r2 : Int) (r2 : Int) Am cm (smL r2) (OR.isl (HG7.out.no ((HFx.out.trans (HFy.out.trans (HFz.out.trans (HFv.out.trans (HFm.out)))))))) (by omega) (OR.isl (HOm.out.no (Fr.refl _ _))) (by omega) (HT.out.fr (HFW7.out.trans (HFx.out.trans (HFy.out.trans (HFz.out.trans (HFv.out.trans (HFm.out)))))) (fun h => h)))
    rw [joinO_jn HOK3.out (sm_ok h1r2 h2r2)] at CIk
    rw [jn_sm HOK3.out] at CIk
    obtain ⟨qg0, qg1, qg2, qg3⟩ := HBg.out W29 ((HFx.out.trans (HFy.out.trans (HFz.out.trans (HFv.out.trans (HFm.out))))))
    obtain ⟨qm0, qm1, qm2, qm3⟩ := HBm.out W29 (Fr.refl _ _)
    subst hW29
    go_wp2_with fail
    refine CIk.out.mono ?_
    rintro e w30 ⟨Ak, nk, ck, rfl, hfk', hok⟩
    simp only [Option.getD_some, Option.isSome_some] at hok ⊢
    obtain ⟨W31, hW31, hfk, hbk⟩ : ∃ V, V = w30.alloc (.cells #[.int .i64 (l : Int), .int .i64 (r2 : Int), .slice Ak nk ck] 25) ∧ Fr No w30 V ∧ Blk V w30.heap.size 25 #[.int .i64 (l : Int), .int .i64 (r2 : Int), .slice Ak nk ck] := ⟨_, rfl, (Fr.refl _ _).alloc _, Blk.new _ _ _⟩
    have HBk : Hid (∀ V, Fr No W31 V → V.cell? ⟨w30.heap.size, 0, none⟩ = some (.int .i64 (l : Int)) ∧ V.cell? ⟨w30.heap.size, 1, none⟩ = some (.int .i64 (r2 : Int)) ∧ V.cell? ⟨w30.heap.size, 2, none⟩ = some (.slice Ak nk ck) ∧ w30.heap.size < V.heap.size) := fun V hf => by
      have hb := hbk.fr hf (fun h => h)
      exact ⟨(hb.cell 0).trans rfl, (hb.cell 1).trans rfl, (hb.cell 2).trans rfl, hb.lt⟩
    have HFk := Lib.hid (hfk'.trans hfk)
    have HOk := Lib.hid (hok.no hfk)
    have hnk : nk = (jn l r ps r2 qs).length := HOk.out.1
    subst hnk
    clear qg0 qg1 qg2 qg3 qm0 qm1 qm2 qm3
    clear hfk' hok hfk hbk CIk
    have SSzv := Lib.hid (samer_any W31 (r2 : Int) (l : Int) Az cz (bk l r2 (jn l r ps r2 qs)) (r2 : Int) (l : Int) Av cv (bk l r2 (jn l r ps r2 qs)) (OR.isl (HOz.out.no ((HFv.out.trans (HFm.out.trans (HFk.out)))))) (OR.isl (HOv.out.no ((HFm.out.trans (HFk.out))))) (by omega) (by omega))
    obtain ⟨qz0, qz1, qz2, qz3⟩ := HBz.out W31 ((HFv.out.trans (HFm.out.trans (HFk.out))))
    obtain ⟨qv0, qv1, qv2, qv3⟩ := HBv.out W31 ((HFm.out.trans (HFk.out)))
    subst hW31
    go_wp2_with fail
    refine SSzv.out.mono ?_
    rintro e w32 ⟨b32, rfl, hb32, hf32⟩
    obtain rfl : b32 = true := hb32.2 ⟨rfl, rfl, rfl⟩
    have HF32' := Lib.hid hf32
    clear qz0 qz1 qz2 qz3 qv0 qv1 qv2 qv3
    clear hf32 hb32 SSzv
    have SSkg := Lib.hid (samer_any w32 (l : Int) (r2 : Int) Ak ck (jn l r ps r2 qs) (l : Int) (r2 : Int) Ag cg (jn l r ps r2 qs) (OR.isl (HOk.out.no ((HF32'.out)))) (OR.isl (HG7.out.no ((HFx.out.trans (HFy.out.trans (HFz.out.trans (HFv.out.trans (HFm.out.trans (HFk.out.trans (HF32'.out)))))))))) (by omega) (by omega))
    obtain ⟨qk0, qk1, qk2, qk3⟩ := HBk.out w32 ((HF32'.out))
    obtain ⟨qg0, qg1, qg2, qg3⟩ := HBg.out w32 ((HFx.out.trans (HFy.out.trans (HFz.out.trans (HFv.out.trans (HFm.out.trans (HFk.out.trans (HF32'.out))))))))
    go_wp2_with fail
    refine SSkg.out.mono ?_
    rintro e w33 ⟨b33, rfl, hb33, hf33⟩
    obtain rfl : b33 = true := hb33.2 ⟨rfl, rfl, rfl⟩
    have HF33' := Lib.hid hf33
    clear qk0 qk1 qk2 qk3 qg0 qg1 qg2 qg3
    clear hf33 hb33 SSkg
    have HEND := Lib.hid (HFW7.out.trans (HFx.out.trans (HFy.out.trans (HFz.out.trans (HFv.out.trans (HFm.out.trans (HFk.out.trans (HF32'.out.trans (HF33'.out)))))))))
    go_wp2_with fail
    go_ret
    exact ⟨rfl, HEND.out⟩
  · rw [joinO_no hok] at FI FS
    clear hok
    subst hW2
    subst hV1
    go_wp2_with fail
    refine FI.out.mono ?_
    rintro e w3 ⟨Ag, ng, cg, rfl, hf3, ho3⟩
    simp only [Option.getD_none, Option.isSome_none] at ho3 ⊢
    obtain ⟨W4, hW4, hfg, hbg⟩ : ∃ V, V = w3.alloc (.cells #[.int .i64 0, .int .i64 0, .slice Ag ng cg] 25) ∧ Fr No w3 V ∧ Blk V w3.heap.size 25 #[.int .i64 0, .int .i64 0, .slice Ag ng cg] := ⟨_, rfl, (Fr.refl _ _).alloc _, Blk.new _ _ _⟩
    have HBg : Hid (∀ V, Fr No W4 V → V.cell? ⟨w3.heap.size, 0, none⟩ = some (.int .i64 0) ∧ V.cell? ⟨w3.heap.size, 1, none⟩ = some (.int .i64 0) ∧ V.cell? ⟨w3.heap.size, 2, none⟩ = some (.slice Ag ng cg) ∧ w3.heap.size < V.heap.size) := fun V hf => by
      have hb := hbg.fr hf (fun h => h)
      exact ⟨(hb.cell 0).trans rfl, (hb.cell 1).trans rfl, (hb.cell 2).trans rfl, hb.lt⟩
    have HF4 := Lib.hid (hf3.trans hfg)
    have HO4 := Lib.hid (ho3.no hfg)
    clear a0 a1 a2 a3 b0 b1 b2 b3 hf3 ho3 hfg hbg FI
    obtain ⟨a0, a1, a2, a3⟩ := HBa.out W4 HF4.out
    obtain ⟨b0, b1, b2, b3⟩ := HBb.out W4 HF4.out
    subst hW4
    go_wp2_with fail
    refine (FS.out _ HF4.out).mono ?_
    rintro e w5 ⟨As, ns, cs, rfl, hf5, ho5⟩
    simp only [Option.getD_none, Option.isSome_none] at ho5 ⊢
    obtain ⟨W6, hW6, hfs, hbs⟩ : ∃ V, V = w5.alloc (.cells #[.int .i64 0, .int .i64 0, .slice As ns cs] 25) ∧ Fr No w5 V ∧ Blk V w5.heap.size 25 #[.int .i64 0, .int .i64 0, .slice As ns cs] := ⟨_, rfl, (Fr.refl _ _).alloc _, Blk.new _ _ _⟩
    have HBs : Hid (∀ V, Fr No W6 V → V.cell? ⟨w5.heap.size, 0, none⟩ = some (.int .i64 0) ∧ V.cell? ⟨w5.heap.size, 1, none⟩ = some (.int .i64 0) ∧ V.cell? ⟨w5.heap.size, 2, none⟩ = some (.slice As ns cs) ∧ w5.heap.size < V.heap.size) := fun V hf => by
      have hb := hbs.fr hf (fun h => h)
      exact ⟨(hb.cell 0).trans rfl, (hb.cell 1).trans rfl, (hb.cell 2).trans rfl, hb.lt⟩
    have HF6 := Lib.hid (hf5.trans hfs)
    have HG6 := Lib.hid (HO4.out.no HF6.out)
    have HO6 := Lib.hid (ho5.no hfs)
    clear a0 a1 a2 a3 b0 b1 b2 b3 hf5 ho5 hfs hbs FS HO4
    have hng : ng = 0 := HG6.out.1
    have hns : ns = 0 := HO6.out.1
    subst hng hns
    have SR1 : Hid (∀ V, Fr No W6 V → Calls Tryd.prog 15 #[RV 0 0 Ag 0 cg, RV 0 0 As 0 cs] V fun e w' => e = .returned (.bool true) ∧ Fr No V w') := fun V hf => by
      refine (samer_any V 0 0 Ag cg ([] : List Int) 0 0 As cs ([] : List Int) (OR.isl (HG6.out.no hf)) (OR.isl (HO6.out.no hf)) (by first | omega | simp) (by first | omega | simp)).mono ?_
      rintro e w' ⟨b, rfl, hb, hf'⟩
      obtain rfl : b = true := hb.2 ⟨rfl, rfl, rfl⟩
      exact ⟨rfl, hf'⟩
    obtain ⟨a0, a1, a2, a3⟩ := HBg.out W6 HF6.out
    obtain ⟨b0, b1, b2, b3⟩ := HBs.out W6 (Fr.refl _ _)
    subst hW6
    go_wp2_with fail
    refine (SR1.out _ (Fr.refl _ _)).mono ?_
    rintro e w7 ⟨rfl, hf7⟩
    have HF7 := Lib.hid hf7
    clear a0 a1 a2 a3 b0 b1 b2 b3 hf7
    obtain ⟨a0, a1, a2, a3⟩ := HBg.out w7 (HF6.out.trans HF7.out)
    obtain ⟨b0, b1, b2, b3⟩ := HBs.out w7 HF7.out
    go_wp2_with fail
    refine (SR1.out w7 HF7.out).mono ?_
    rintro e w8 ⟨rfl, hf8⟩
    have HEND := Lib.hid (HF2.out.trans (HF4.out.trans (HF6.out.trans (HF7.out.trans hf8))))
    clear hf8
    go_wp2_with fail
    go_ret
    exact ⟨rfl, HEND.out⟩
end Go.Proofs.YticoeooeeejboaaDoor
