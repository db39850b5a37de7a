/- The law FnBack: back and back is the relation. -/
import Derived.Test.YticoeooeeejboaaDoorDrs
import Derived.Test.YticoeooeeejboaaDoorSam
import Derived.Test.YticoeooeeejboaaDoorGbk
import Derived.Test.YticoeooeeejboaaDoorBk1
import Derived.Test.YticoeooeeejboaaDoorBk2
namespace Go.Proofs.YticoeooeeejboaaDoor
open Go.RowKit Go.ChangeMaps Go.Shelf

set_option maxRecDepth 100000 in
set_option maxHeartbeats 4000000 in
theorem lawBackP (w : World) (hT : TZt w) (A : Option Addr) (n c : Nat) (hn : n ≤ maxLen) (hnc : n ≤ c) (hb : Byt w A n) :
    Calls Tryd.prog 5 #[.slice A n c] w fun e w' => Yes w e w' := by
  have hn' := hn
  unfold maxLen at hn'
  by_cases hbig : 1048576 < n
  · have hd : decide ((1048576 : Int) < (n : Int)) = true := by simp; omega
    go_enter Tryd.func5, Tryd.ntmps5
    go_wp2_with fail
    go_ret
    exact ⟨rfl, Fr.refl _ _⟩
  have hd : decide ((1048576 : Int) < (n : Int)) = false := by simp; omega
  have DR := Lib.hid (drawRelBack w A n c hn hnc hb)
  have HT := Lib.hid hT
  clear hb hbig hT
  go_enter Tryd.func5, Tryd.ntmps5
  go_wp2_with fail
  refine DR.out.mono ?_
  rintro e w1 ⟨L, R, ps, B, cp, rfl, ho1, hl1, hf1⟩
  obtain ⟨W2, hW2, hfr, hbr⟩ : ∃ V, V = w1.alloc (.cells #[.int .i64 L, .int .i64 R, .slice B ps.length cp] 25) ∧ Fr No w1 V ∧ Blk V w1.heap.size 25 #[.int .i64 L, .int .i64 R, .slice B ps.length cp] := ⟨_, rfl, (Fr.refl _ _).alloc _, Blk.new _ _ _⟩
  have HBr : Hid (∀ V, Fr No W2 V → V.cell? ⟨w1.heap.size, 0, none⟩ = some (.int .i64 L) ∧ V.cell? ⟨w1.heap.size, 1, none⟩ = some (.int .i64 R) ∧ V.cell? ⟨w1.heap.size, 2, none⟩ = some (.slice B ps.length cp) ∧ w1.heap.size < V.heap.size) := fun V hf => by
    have hb := hbr.fr hf (fun h => h)
    exact ⟨(hb.cell 0).trans rfl, (hb.cell 1).trans rfl, (hb.cell 2).trans rfl, hb.lt⟩
  have HF2 := Lib.hid (hf1.trans hfr)
  have HO2 := Lib.hid (ho1.no hfr)
  have FI := Lib.hid (implRelBack W2 L R B cp ps (OR.isl HO2.out) (by omega) (HT.out.fr HF2.out (fun h => h)))
  have FS : Hid (∀ V, Fr No W2 V → Calls Tryd.prog 19 #[RV L R B ps.length cp] V fun e w' => AnsR (backO L R ps) V e w') := fun V hf => specRelBack V L R B cp ps (OR.isl (HO2.out.no hf)) (by omega)
  obtain ⟨c0, c1, c2, c3⟩ := HBr.out W2 (Fr.refl _ _)
  clear hf1 hfr hbr ho1 DR
  by_cases hok : RelOk L R ps
  · obtain ⟨l, r, rfl, rfl, l1, l2, r1, r2⟩ := hok.nat
    rw [backO_bk hok] at FI FS
    have hbl : (bk l r ps).length ≤ 1000 := by rw [bk_len hok]; exact hl1
    have HBL : Hid ((bk l r ps).length = ps.length) := bk_len hok
    have HBB : Hid (backO r l (bk l r ps) = some ((l : Int), (r : Int), ps)) := by
      have h := backO_bk (bk_ok hok)
      rw [bk_bk hok] at h
      exact h
    clear hok
    subst hW2
    go_wp2_with fail
    refine FI.out.mono ?_
    rintro e w3 ⟨Ag, ng, cg, rfl, hf3, ho3⟩
    simp only [Option.getD_some, Option.isSome_some] at ho3 ⊢
    obtain ⟨W4, hW4, hfg, hbg⟩ : ∃ V, V = w3.alloc (.cells #[.int .i64 (r : Int), .int .i64 (l : Int), .slice Ag ng cg] 25) ∧ Fr No w3 V ∧ Blk V w3.heap.size 25 #[.int .i64 (r : Int), .int .i64 (l : Int), .slice Ag ng cg] := ⟨_, rfl, (Fr.refl _ _).alloc _, Blk.new _ _ _⟩
    have HBg : Hid (∀ V, Fr No W4 V → V.cell? ⟨w3.heap.size, 0, none⟩ = some (.int .i64 (r : Int)) ∧ V.cell? ⟨w3.heap.size, 1, none⟩ = some (.int .i64 (l : Int)) ∧ V.cell? ⟨w3.heap.size, 2, none⟩ = some (.slice Ag ng cg) ∧ w3.heap.size < V.heap.size) := fun V hf => by
      have hb := hbg.fr hf (fun h => h)
      exact ⟨(hb.cell 0).trans rfl, (hb.cell 1).trans rfl, (hb.cell 2).trans rfl, hb.lt⟩
    have HF4 := Lib.hid (hf3.trans hfg)
    have HO4 := Lib.hid (ho3.no hfg)
    clear c0 c1 c2 c3 hf3 ho3 hfg hbg FI
    obtain ⟨c0, c1, c2, c3⟩ := HBr.out W4 HF4.out
    subst hW4
    go_wp2_with fail
    refine (FS.out _ HF4.out).mono ?_
    rintro e w5 ⟨As, ns, cs, rfl, hf5, ho5⟩
    simp only [Option.getD_some, Option.isSome_some] at ho5 ⊢
    obtain ⟨W6, hW6, hfs, hbs⟩ : ∃ V, V = w5.alloc (.cells #[.int .i64 (r : Int), .int .i64 (l : Int), .slice As ns cs] 25) ∧ Fr No w5 V ∧ Blk V w5.heap.size 25 #[.int .i64 (r : Int), .int .i64 (l : Int), .slice As ns cs] := ⟨_, rfl, (Fr.refl _ _).alloc _, Blk.new _ _ _⟩
    have HBs : Hid (∀ V, Fr No W6 V → V.cell? ⟨w5.heap.size, 0, none⟩ = some (.int .i64 (r : Int)) ∧ V.cell? ⟨w5.heap.size, 1, none⟩ = some (.int .i64 (l : Int)) ∧ V.cell? ⟨w5.heap.size, 2, none⟩ = some (.slice As ns cs) ∧ w5.heap.size < V.heap.size) := fun V hf => by
      have hb := hbs.fr hf (fun h => h)
      exact ⟨(hb.cell 0).trans rfl, (hb.cell 1).trans rfl, (hb.cell 2).trans rfl, hb.lt⟩
    have HF6 := Lib.hid (hf5.trans hfs)
    have HG6 := Lib.hid (HO4.out.no HF6.out)
    have HO6 := Lib.hid (ho5.no hfs)
    clear c0 c1 c2 c3 hf5 ho5 hfs hbs FS HO4
    have hng : ng = (bk l r ps).length := HG6.out.1
    have hns : ns = (bk l r ps).length := HO6.out.1
    subst hng hns
    have SR1 : Hid (∀ V, Fr No W6 V → Calls Tryd.prog 15 #[RV (r : Int) (l : Int) Ag (bk l r ps).length cg, RV (r : Int) (l : Int) As (bk l r ps).length cs] V fun e w' => e = .returned (.bool true) ∧ Fr No V w') := fun V hf => by
      refine (samer_any V (r : Int) (l : Int) Ag cg (bk l r ps) (r : Int) (l : Int) As cs (bk l r ps) (OR.isl (HG6.out.no hf)) (OR.isl (HO6.out.no hf)) (by first | omega | simp) (by first | omega | simp)).mono ?_
      rintro e w' ⟨b, rfl, hb, hf'⟩
      obtain rfl : b = true := hb.2 ⟨rfl, rfl, rfl⟩
      exact ⟨rfl, hf'⟩
    obtain ⟨a0, a1, a2, a3⟩ := HBg.out W6 HF6.out
    obtain ⟨b0, b1, b2, b3⟩ := HBs.out W6 (Fr.refl _ _)
    subst hW6
    go_wp2_with fail
    refine (SR1.out _ (Fr.refl _ _)).mono ?_
    rintro e w7 ⟨rfl, hf7⟩
    have HF7 := Lib.hid hf7
    clear a0 a1 a2 a3 b0 b1 b2 b3 hf7
    obtain ⟨a0, a1, a2, a3⟩ := HBg.out w7 (HF6.out.trans HF7.out)
    have GI := Lib.hid (implRelBack w7 (r : Int) (l : Int) Ag cg (bk l r ps) (OR.isl (HG6.out.no HF7.out)) (by omega) (HT.out.fr (HF2.out.trans (HF4.out.trans (HF6.out.trans HF7.out))) (fun h => h)))
    rw [HBB.out] at GI
    go_wp2_with fail
    refine GI.out.mono ?_
    rintro e w8 ⟨Ax, nx, cx, rfl, hf8, ho8⟩
    simp only [Option.getD_some, Option.isSome_some] at ho8 ⊢
    obtain ⟨W9, hW9, hfx, hbx⟩ : ∃ V, V = w8.alloc (.cells #[.int .i64 (l : Int), .int .i64 (r : Int), .slice Ax nx cx] 25) ∧ Fr No w8 V ∧ Blk V w8.heap.size 25 #[.int .i64 (l : Int), .int .i64 (r : Int), .slice Ax nx cx] := ⟨_, rfl, (Fr.refl _ _).alloc _, Blk.new _ _ _⟩
    have HBx : Hid (∀ V, Fr No W9 V → V.cell? ⟨w8.heap.size, 0, none⟩ = some (.int .i64 (l : Int)) ∧ V.cell? ⟨w8.heap.size, 1, none⟩ = some (.int .i64 (r : Int)) ∧ V.cell? ⟨w8.heap.size, 2, none⟩ = some (.slice Ax nx cx) ∧ w8.heap.size < V.heap.size) := fun V hf => by
      have hb := hbx.fr hf (fun h => h)
      exact ⟨(hb.cell 0).trans rfl, (hb.cell 1).trans rfl, (hb.cell 2).trans rfl, hb.lt⟩
    have HF9 := Lib.hid (HF7.out.trans (hf8.trans hfx))
    have HX9 := Lib.hid (ho8.no hfx)
    have hnx : nx = ps.length := HX9.out.1
    subst hnx
    clear a0 a1 a2 a3 hf8 ho8 hfx hbx GI SR1
    have HFA := Lib.hid (HF4.out.trans (HF6.out.trans HF9.out))
    have SR := Lib.hid (samer_any W9 (l : Int) (r : Int) Ax cx ps (l : Int) (r : Int) B cp ps (OR.isl HX9.out) (OR.isl (HO2.out.no HFA.out)) (by omega) (by omega))
    obtain ⟨a0, a1, a2, a3⟩ := HBx.out W9 (Fr.refl _ _)
    obtain ⟨c0, c1, c2, c3⟩ := HBr.out W9 HFA.out
    subst hW9
    go_wp2_with fail
    refine SR.out.mono ?_
    rintro e w10 ⟨b, rfl, hb, hf10⟩
    obtain rfl : b = true := hb.2 ⟨rfl, rfl, rfl⟩
    have HEND := Lib.hid (HF2.out.trans (HFA.out.trans hf10))
    clear a0 a1 a2 a3 c0 c1 c2 c3 hb
    obtain ⟨a0, a1, a2, a3⟩ := HBg.out w10 (HF6.out.trans (HF9.out.trans hf10))
    obtain ⟨c0, c1, c2, c3⟩ := HBr.out w10 (HFA.out.trans hf10)
    have hle : (((bk l r ps).length : Int) == (ps.length : Int)) = true := by rw [HBL.out]; simp
    clear hf10
    go_wp2_with fail
    go_ret
    exact ⟨rfl, HEND.out⟩
  · rw [backO_no hok] at FI FS
    clear hok
    subst hW2
    go_wp2_with fail
    refine FI.out.mono ?_
    rintro e w3 ⟨Ag, ng, cg, rfl, hf3, ho3⟩
    simp only [Option.getD_none, Option.isSome_none] at ho3 ⊢
    obtain ⟨W4, hW4, hfg, hbg⟩ : ∃ V, V = w3.alloc (.cells #[.int .i64 0, .int .i64 0, .slice Ag ng cg] 25) ∧ Fr No w3 V ∧ Blk V w3.heap.size 25 #[.int .i64 0, .int .i64 0, .slice Ag ng cg] := ⟨_, rfl, (Fr.refl _ _).alloc _, Blk.new _ _ _⟩
    have HBg : Hid (∀ V, Fr No W4 V → V.cell? ⟨w3.heap.size, 0, none⟩ = some (.int .i64 0) ∧ V.cell? ⟨w3.heap.size, 1, none⟩ = some (.int .i64 0) ∧ V.cell? ⟨w3.heap.size, 2, none⟩ = some (.slice Ag ng cg) ∧ w3.heap.size < V.heap.size) := fun V hf => by
      have hb := hbg.fr hf (fun h => h)
      exact ⟨(hb.cell 0).trans rfl, (hb.cell 1).trans rfl, (hb.cell 2).trans rfl, hb.lt⟩
    have HF4 := Lib.hid (hf3.trans hfg)
    have HO4 := Lib.hid (ho3.no hfg)
    clear c0 c1 c2 c3 hf3 ho3 hfg hbg FI
    obtain ⟨c0, c1, c2, c3⟩ := HBr.out W4 HF4.out
    subst hW4
    go_wp2_with fail
    refine (FS.out _ HF4.out).mono ?_
    rintro e w5 ⟨As, ns, cs, rfl, hf5, ho5⟩
    simp only [Option.getD_none, Option.isSome_none] at ho5 ⊢
    obtain ⟨W6, hW6, hfs, hbs⟩ : ∃ V, V = w5.alloc (.cells #[.int .i64 0, .int .i64 0, .slice As ns cs] 25) ∧ Fr No w5 V ∧ Blk V w5.heap.size 25 #[.int .i64 0, .int .i64 0, .slice As ns cs] := ⟨_, rfl, (Fr.refl _ _).alloc _, Blk.new _ _ _⟩
    have HBs : Hid (∀ V, Fr No W6 V → V.cell? ⟨w5.heap.size, 0, none⟩ = some (.int .i64 0) ∧ V.cell? ⟨w5.heap.size, 1, none⟩ = some (.int .i64 0) ∧ V.cell? ⟨w5.heap.size, 2, none⟩ = some (.slice As ns cs) ∧ w5.heap.size < V.heap.size) := fun V hf => by
      have hb := hbs.fr hf (fun h => h)
      exact ⟨(hb.cell 0).trans rfl, (hb.cell 1).trans rfl, (hb.cell 2).trans rfl, hb.lt⟩
    have HF6 := Lib.hid (hf5.trans hfs)
    have HG6 := Lib.hid (HO4.out.no HF6.out)
    have HO6 := Lib.hid (ho5.no hfs)
    clear c0 c1 c2 c3 hf5 ho5 hfs hbs FS HO4
    have hng : ng = 0 := HG6.out.1
    have hns : ns = 0 := HO6.out.1
    subst hng hns
    have SR1 : Hid (∀ V, Fr No W6 V → Calls Tryd.prog 15 #[RV 0 0 Ag 0 cg, RV 0 0 As 0 cs] V fun e w' => e = .returned (.bool true) ∧ Fr No V w') := fun V hf => by
      refine (samer_any V 0 0 Ag cg ([] : List Int) 0 0 As cs ([] : List Int) (OR.isl (HG6.out.no hf)) (OR.isl (HO6.out.no hf)) (by first | omega | simp) (by first | omega | simp)).mono ?_
      rintro e w' ⟨b, rfl, hb, hf'⟩
      obtain rfl : b = true := hb.2 ⟨rfl, rfl, rfl⟩
      exact ⟨rfl, hf'⟩
    obtain ⟨a0, a1, a2, a3⟩ := HBg.out W6 HF6.out
    obtain ⟨b0, b1, b2, b3⟩ := HBs.out W6 (Fr.refl _ _)
    subst hW6
    go_wp2_with fail
    refine (SR1.out _ (Fr.refl _ _)).mono ?_
    rintro e w7 ⟨rfl, hf7⟩
    have HF7 := Lib.hid hf7
    clear a0 a1 a2 a3 b0 b1 b2 b3 hf7
    obtain ⟨a0, a1, a2, a3⟩ := HBg.out w7 (HF6.out.trans HF7.out)
    obtain ⟨b0, b1, b2, b3⟩ := HBs.out w7 HF7.out
    go_wp2_with fail
    refine (SR1.out w7 HF7.out).mono ?_
    rintro e w8 ⟨rfl, hf8⟩
    have HEND := Lib.hid (HF2.out.trans (HF4.out.trans (HF6.out.trans (HF7.out.trans hf8))))
    clear hf8
    go_wp2_with fail
    go_ret
    exact ⟨rfl, HEND.out⟩
end Go.Proofs.YticoeooeeejboaaDoor
