/- The law FnRelSame: the relation of equal numbers changes nothing. -/
import Derived.Test.YticoeooeeejboaaDoorDrs
import Derived.Test.YticoeooeeejboaaDoorSam
import Derived.Test.YticoeooeeejboaaDoorGbk
import Derived.Test.YticoeooeeejboaaDoorBk2
import Derived.Test.YticoeooeeejboaaDoorJn2
import Derived.Test.YticoeooeeejboaaDoorGra2
namespace Go.Proofs.YticoeooeeejboaaDoor
open Go.RowKit Go.ChangeMaps Go.Shelf

/-- a size that was drawn -/
def DrN (w : World) (e : Ending) (w' : World) : Prop := ∃ N : Nat, e = .returned (.int .i64 (N : Int)) ∧ N ≤ 200 ∧ Fr No w w'

set_option maxRecDepth 100000 in
set_option maxHeartbeats 2000000 in
theorem drawRelSame (w : World) (A : Option Addr) (n c : Nat) (hn : n ≤ maxLen) (hnc : n ≤ c) (hb : Byt w A n) :
    Calls Tryd.prog 12 #[.slice A n c] w fun e w' => DrN w e w' := by
  have OP := Lib.hid (open_any w A n c hn hnc hb)
  clear hb hn hnc
  go_enter Tryd.func12, Tryd.ntmps12
  go_wp2_with fail
  refine OP.out.mono ?_
  rintro e w1 ⟨r, A1, n1, c1, rfl, hf1, hr1, hd1⟩
  have PK := Lib.hid (pick_any w1 r A1 n1 c1 0 8 hd1 (by decide) (by decide) (by omega))
  have HF1 := Lib.hid hf1
  clear hf1 hd1 OP
  go_wp2_with fail
  refine PK.out.mono ?_
  rintro e w2 ⟨y, rfl, hy, hf2, hr2⟩
  have PK2 := Lib.hid (pick_any w2 r A1 n1 c1 _ 20 hr2 (by decide) (by decide) (by omega))
  have HF2 := Lib.hid (HF1.out.then_ hf2 (fun b hb e => by have e : b = r := e; omega))
  clear hf2 hr2 PK
  go_wp2_with fail
  refine PK2.out.mono ?_
  rintro e w3 ⟨z, rfl, hz, hf3, hr3⟩
  have HF3 := Lib.hid (HF2.out.then_ hf3 (fun b hb e => by have e : b = r := e; omega))
  have hq1 : ((z : Int)).tdiv 19 = (z : Int) / 19 := Int.tdiv_eq_ediv_of_nonneg (by omega)
  have HE : Hid (DrN w (.returned (.int .i64 ((y : Int) + (z : Int) / 19 * 125))) w3) := ⟨y + z / 19 * 125, rfl, by omega, HF3.out⟩
  clear hf3 hr3 PK2
  go_wp2_with fail
  go_ret
  exact HE.out

set_option maxRecDepth 100000 in
set_option maxHeartbeats 8000000 in
theorem lawRelSameP (w : World) (hT : TZt w) (A : Option Addr) (n c : Nat) (hn : n ≤ maxLen) (hnc : n ≤ c) (hb : Byt w A n) :
    Calls Tryd.prog 4 #[.slice A n c] w fun e w' => Yes w e w' := by
  have hn' := hn
  unfold maxLen at hn'
  by_cases hbig : 1048576 < n
  · have hd : decide ((1048576 : Int) < (n : Int)) = true := by simp; omega
    go_enter Tryd.func4, Tryd.ntmps4
    go_wp2_with fail
    go_ret
    exact ⟨rfl, Fr.refl _ _⟩
  have hd : decide ((1048576 : Int) < (n : Int)) = false := by simp; omega
  have DR := Lib.hid (drawRelSame w A n c hn hnc hb)
  have HT := Lib.hid hT
  clear hb hbig hT
  go_enter Tryd.func4, Tryd.ntmps4
  go_wp2_with fail
  refine DR.out.mono ?_
  rintro e w1 ⟨N, rfl, hN, hf1⟩
  have HF1 := Lib.hid hf1
  have FI := Lib.hid (implRelSame w1 (N : Int) (HT.out.fr HF1.out (fun h => h)))
  have FS : Hid (∀ V, Fr No w1 V → Calls Tryd.prog 14 #[.int .i64 (N : Int)] V fun e w' => AnsR (sameO (N : Int)) V e w') := fun V hf => specRelSame V (N : Int)
  clear hf1 DR
  by_cases hok : 1 ≤ N ∧ N ≤ 128
  · rw [sameO_sm hok.1 hok.2] at FI FS
    have HOK := Lib.hid (sm_ok hok.1 hok.2)
    have hsl : (smL N).length ≤ 16384 := bk_le HOK.out
    have HBB : Hid (backO N N (smL N) = some ((N : Int), (N : Int), smL N)) := by
      show _ = _
      rw [backO_bk HOK.out, bk_sm hok.1]
    have HJJ : Hid (joinO N N (smL N) N N (smL N) = some ((N : Int), (N : Int), smL N)) := by
      show _ = _
      rw [joinO_jn HOK.out HOK.out, jn_sm HOK.out]
    have HFU : Hid (funO N N (smL N) = some ((List.range N).map Int.ofNat)) := fun_sm hok.1 hok.2
    have hN128 : N ≤ 128 := hok.2
    clear hok
    go_wp2_with fail
    refine FI.out.mono ?_
    rintro e w3 ⟨Ag, ng, cg, rfl, hf3, ho3⟩
    simp only [Option.getD_some, Option.isSome_some] at ho3 ⊢
    obtain ⟨W4, hW4, hfg, hbg⟩ : ∃ V, V = w3.alloc (.cells #[.int .i64 (N : Int), .int .i64 (N : Int), .slice Ag ng cg] 25) ∧ Fr No w3 V ∧ Blk V w3.heap.size 25 #[.int .i64 (N : Int), .int .i64 (N : Int), .slice Ag ng cg] := ⟨_, rfl, (Fr.refl _ _).alloc _, Blk.new _ _ _⟩
    have HBg : Hid (∀ V, Fr No W4 V → V.cell? ⟨w3.heap.size, 0, none⟩ = some (.int .i64 (N : Int)) ∧ V.cell? ⟨w3.heap.size, 1, none⟩ = some (.int .i64 (N : Int)) ∧ V.cell? ⟨w3.heap.size, 2, none⟩ = some (.slice Ag ng cg) ∧ w3.heap.size < V.heap.size) := fun V hf => by
      have hb := hbg.fr hf (fun h => h)
      exact ⟨(hb.cell 0).trans rfl, (hb.cell 1).trans rfl, (hb.cell 2).trans rfl, hb.lt⟩
    have HF4 := Lib.hid (hf3.trans hfg)
    have HO4 := Lib.hid (ho3.no hfg)
    clear hf3 ho3 hfg hbg FI
    subst hW4
    go_wp2_with fail
    refine (FS.out _ HF4.out).mono ?_
    rintro e w5 ⟨As, ns, cs, rfl, hf5, ho5⟩
    simp only [Option.getD_some, Option.isSome_some] at ho5 ⊢
    obtain ⟨W6, hW6, hfs, hbs⟩ : ∃ V, V = w5.alloc (.cells #[.int .i64 (N : Int), .int .i64 (N : Int), .slice As ns cs] 25) ∧ Fr No w5 V ∧ Blk V w5.heap.size 25 #[.int .i64 (N : Int), .int .i64 (N : Int), .slice As ns cs] := ⟨_, rfl, (Fr.refl _ _).alloc _, Blk.new _ _ _⟩
    have HBs : Hid (∀ V, Fr No W6 V → V.cell? ⟨w5.heap.size, 0, none⟩ = some (.int .i64 (N : Int)) ∧ V.cell? ⟨w5.heap.size, 1, none⟩ = some (.int .i64 (N : Int)) ∧ V.cell? ⟨w5.heap.size, 2, none⟩ = some (.slice As ns cs) ∧ w5.heap.size < V.heap.size) := fun V hf => by
      have hb := hbs.fr hf (fun h => h)
      exact ⟨(hb.cell 0).trans rfl, (hb.cell 1).trans rfl, (hb.cell 2).trans rfl, hb.lt⟩
    have HF6 := Lib.hid (hf5.trans hfs)
    have HG6 := Lib.hid (HO4.out.no HF6.out)
    have HO6 := Lib.hid (ho5.no hfs)
    clear hf5 ho5 hfs hbs FS HO4
    have hng : ng = (smL N).length := HG6.out.1
    have hns : ns = (smL N).length := HO6.out.1
    subst hng hns
    have SR1 : Hid (∀ V, Fr No W6 V → Calls Tryd.prog 15 #[RV (N : Int) (N : Int) Ag (smL N).length cg, RV (N : Int) (N : Int) As (smL N).length cs] V fun e w' => e = .returned (.bool true) ∧ Fr No V w') := fun V hf => by
      refine (samer_any V (N : Int) (N : Int) Ag cg (smL N) (N : Int) (N : Int) As cs (smL N) (OR.isl (HG6.out.no hf)) (OR.isl (HO6.out.no hf)) (by first | omega | simp) (by first | omega | simp)).mono ?_
      rintro e w' ⟨b, rfl, hb, hf'⟩
      obtain rfl : b = true := hb.2 ⟨rfl, rfl, rfl⟩
      exact ⟨rfl, hf'⟩
    obtain ⟨a0, a1, a2, a3⟩ := HBg.out W6 HF6.out
    obtain ⟨b0, b1, b2, b3⟩ := HBs.out W6 (Fr.refl _ _)
    subst hW6
    go_wp2_with fail
    refine (SR1.out _ (Fr.refl _ _)).mono ?_
    rintro e w7 ⟨rfl, hf7⟩
    have HF7 := Lib.hid hf7
    clear a0 a1 a2 a3 b0 b1 b2 b3 hf7
    have HW7 : Hid (Fr No w w7) := HF1.out.trans (HF4.out.trans (HF6.out.trans HF7.out))
    have HG7 := Lib.hid (HG6.out.no HF7.out)
    have HFg7 := Lib.hid (HF6.out.trans HF7.out)
    have BI := Lib.hid (implRelBack w7 (N : Int) (N : Int) Ag cg (smL N) (OR.isl HG7.out) (by omega) (HT.out.fr HW7.out (fun h => h)))
    rw [HBB.out] at BI
    clear SR1 HG6 HO6
    obtain ⟨a0, a1, a2, a3⟩ := HBg.out w7 (HFg7.out)
    go_wp2_with fail
    refine BI.out.mono ?_
    rintro e w8 ⟨Ax, nx, cx, rfl, hf8, ho8⟩
    simp only [Option.getD_some, Option.isSome_some] at ho8 ⊢
    obtain ⟨W9, hW9, hfx, hbx⟩ : ∃ V, V = w8.alloc (.cells #[.int .i64 (N : Int), .int .i64 (N : Int), .slice Ax nx cx] 25) ∧ Fr No w8 V ∧ Blk V w8.heap.size 25 #[.int .i64 (N : Int), .int .i64 (N : Int), .slice Ax nx cx] := ⟨_, rfl, (Fr.refl _ _).alloc _, Blk.new _ _ _⟩
    have HBx : Hid (∀ V, Fr No W9 V → V.cell? ⟨w8.heap.size, 0, none⟩ = some (.int .i64 (N : Int)) ∧ V.cell? ⟨w8.heap.size, 1, none⟩ = some (.int .i64 (N : Int)) ∧ V.cell? ⟨w8.heap.size, 2, none⟩ = some (.slice Ax nx cx) ∧ w8.heap.size < V.heap.size) := fun V hf => by
      have hb := hbx.fr hf (fun h => h)
      exact ⟨(hb.cell 0).trans rfl, (hb.cell 1).trans rfl, (hb.cell 2).trans rfl, hb.lt⟩
    have HF9 := Lib.hid (hf8.trans hfx)
    have HX9 := Lib.hid (ho8.no hfx)
    have hnx : nx = (smL N).length := HX9.out.1
    subst hnx
    have HG9 := Lib.hid (HG7.out.no HF9.out)
    have JI := Lib.hid (implRelJoin W9 (N : Int) (N : Int) Ag cg (smL N) (N : Int) (N : Int) Ag cg (smL N) (OR.isl HG9.out) (by omega) (OR.isl HG9.out) (by omega) (HT.out.fr (HW7.out.trans HF9.out) (fun h => h)))
    rw [HJJ.out] at JI
    clear a0 a1 a2 a3 hf8 ho8 hfx hbx BI
    obtain ⟨a0, a1, a2, a3⟩ := HBg.out W9 (HFg7.out.trans HF9.out)
    subst hW9
    go_wp2_with fail
    refine JI.out.mono ?_
    rintro e w10 ⟨Ay, ny, cy, rfl, hf10, ho10⟩
    simp only [Option.getD_some, Option.isSome_some] at ho10 ⊢
    obtain ⟨W11, hW11, hfy, hby⟩ : ∃ V, V = w10.alloc (.cells #[.int .i64 (N : Int), .int .i64 (N : Int), .slice Ay ny cy] 25) ∧ Fr No w10 V ∧ Blk V w10.heap.size 25 #[.int .i64 (N : Int), .int .i64 (N : Int), .slice Ay ny cy] := ⟨_, rfl, (Fr.refl _ _).alloc _, Blk.new _ _ _⟩
    have HBy : Hid (∀ V, Fr No W11 V → V.cell? ⟨w10.heap.size, 0, none⟩ = some (.int .i64 (N : Int)) ∧ V.cell? ⟨w10.heap.size, 1, none⟩ = some (.int .i64 (N : Int)) ∧ V.cell? ⟨w10.heap.size, 2, none⟩ = some (.slice Ay ny cy) ∧ w10.heap.size < V.heap.size) := fun V hf => by
      have hb := hby.fr hf (fun h => h)
      exact ⟨(hb.cell 0).trans rfl, (hb.cell 1).trans rfl, (hb.cell 2).trans rfl, hb.lt⟩
    have HF11 := Lib.hid (HF9.out.trans (hf10.trans hfy))
    have HFx11 := Lib.hid (hf10.trans hfy)
    have HY11 := Lib.hid (ho10.no hfy)
    have hny : ny = (smL N).length := HY11.out.1
    subst hny
    have HG11 := Lib.hid (HG7.out.no HF11.out)
    have FU := Lib.hid (implRelFun W11 (N : Int) (N : Int) Ag cg (smL N) (OR.isl HG11.out) (by omega) (HT.out.fr (HW7.out.trans HF11.out) (fun h => h)))
    rw [HFU.out] at FU
    clear a0 a1 a2 a3 hf10 ho10 hfy hby JI
    obtain ⟨a0, a1, a2, a3⟩ := HBg.out W11 (HFg7.out.trans HF11.out)
    subst hW11
    go_wp2_with fail
    refine FU.out.mono ?_
    rintro e w12 ⟨Al, nl, cl, rfl, hf12, ho12⟩
    simp only [Option.getD_some, Option.isSome_some] at ho12 ⊢
    have HF12 := Lib.hid (HF11.out.trans hf12)
    have HFx12 := Lib.hid (HFx11.out.trans hf12)
    have HFy12 := Lib.hid hf12
    have HL12 := Lib.hid ho12
    have hnl : nl = N := by have := HL12.out.1; simpa using this
    subst hnl
    clear a0 a1 a2 a3 hf12 ho12 FU
    go_wp2_with fail
    go_loopw [14] (fun u wr => ∃ i : Nat, i ≤ nl ∧ u = .int .i64 i ∧ wr = w12) (fun u _ => nl - (intOf u).toNat)
    case atStart => exact ⟨0, Nat.zero_le _, rfl, rfl⟩
    case round =>
      obtain ⟨i, hi, rfl, rfl⟩ := hrel
      by_cases hlt : i < nl
      · have hiI : (i : Int) < (nl : Int) := by omega
        obtain ⟨g1, o1, e1, k1⟩ := (OR.isl HL12.out) i (i : Int) (by rw [List.getElem?_map, List.getElem?_range hlt]; rfl)
        subst e1
        go_wp2_with fail
        go_roundw
        case rel => exact ⟨i + 1, by omega, by go_num, trivial⟩
        case measure => simp [intOf]; omega
      · have hin : nl = i := by omega
        subst hin
        have SRA := Lib.hid (samer_any wr (nl : Int) (nl : Int) Ax cx (smL nl) (nl : Int) (nl : Int) Ag cg (smL nl) (OR.isl (HX9.out.no HFx12.out)) (OR.isl (HG7.out.no HF12.out)) (by omega) (by omega))
        obtain ⟨a0, a1, a2, a3⟩ := HBg.out wr (HFg7.out.trans HF12.out)
        obtain ⟨b0, b1, b2, b3⟩ := HBx.out wr HFx12.out
        go_wp2_with fail
        refine SRA.out.mono ?_
        rintro e w13 ⟨b, rfl, hb, hf13⟩
        obtain rfl : b = true := hb.2 ⟨rfl, rfl, rfl⟩
        have HF13 := Lib.hid hf13
        have SRB := Lib.hid (samer_any w13 (nl : Int) (nl : Int) Ay cy (smL nl) (nl : Int) (nl : Int) Ag cg (smL nl) (OR.isl (HY11.out.no (HFy12.out.trans hf13))) (OR.isl (HG7.out.no (HF12.out.trans hf13))) (by omega) (by omega))
        clear a0 a1 a2 a3 b0 b1 b2 b3 hb SRA
        obtain ⟨a0, a1, a2, a3⟩ := HBg.out w13 (HFg7.out.trans (HF12.out.trans hf13))
        obtain ⟨b0, b1, b2, b3⟩ := HBy.out w13 (HFy12.out.trans hf13)
        clear hf13
        go_wp2_with fail
        refine SRB.out.mono ?_
        rintro e w14 ⟨b, rfl, hb, hf14⟩
        obtain rfl : b = true := hb.2 ⟨rfl, rfl, rfl⟩
        have HEND := Lib.hid (HW7.out.trans (HF12.out.trans (HF13.out.trans hf14)))
        clear hf14 hb
        go_wp2_with fail
        go_ret
        exact ⟨rfl, HEND.out⟩
  · have hno : sameO (N : Int) = none := by
      unfold sameO
      rw [if_neg]
      intro h
      exact hok ⟨by omega, by omega⟩
    rw [hno] at FI FS
    clear hok hno
    go_wp2_with fail
    refine FI.out.mono ?_
    rintro e w3 ⟨Ag, ng, cg, rfl, hf3, ho3⟩
    simp only [Option.getD_none, Option.isSome_none] at ho3 ⊢
    obtain ⟨W4, hW4, hfg, hbg⟩ : ∃ V, V = w3.alloc (.cells #[.int .i64 0, .int .i64 0, .slice Ag ng cg] 25) ∧ Fr No w3 V ∧ Blk V w3.heap.size 25 #[.int .i64 0, .int .i64 0, .slice Ag ng cg] := ⟨_, rfl, (Fr.refl _ _).alloc _, Blk.new _ _ _⟩
    have HBg : Hid (∀ V, Fr No W4 V → V.cell? ⟨w3.heap.size, 0, none⟩ = some (.int .i64 0) ∧ V.cell? ⟨w3.heap.size, 1, none⟩ = some (.int .i64 0) ∧ V.cell? ⟨w3.heap.size, 2, none⟩ = some (.slice Ag ng cg) ∧ w3.heap.size < V.heap.size) := fun V hf => by
      have hb := hbg.fr hf (fun h => h)
      exact ⟨(hb.cell 0).trans rfl, (hb.cell 1).trans rfl, (hb.cell 2).trans rfl, hb.lt⟩
    have HF4 := Lib.hid (hf3.trans hfg)
    have HO4 := Lib.hid (ho3.no hfg)
    clear hf3 ho3 hfg hbg FI
    subst hW4
    go_wp2_with fail
    refine (FS.out _ HF4.out).mono ?_
    rintro e w5 ⟨As, ns, cs, rfl, hf5, ho5⟩
    simp only [Option.getD_none, Option.isSome_none] at ho5 ⊢
    obtain ⟨W6, hW6, hfs, hbs⟩ : ∃ V, V = w5.alloc (.cells #[.int .i64 0, .int .i64 0, .slice As ns cs] 25) ∧ Fr No w5 V ∧ Blk V w5.heap.size 25 #[.int .i64 0, .int .i64 0, .slice As ns cs] := ⟨_, rfl, (Fr.refl _ _).alloc _, Blk.new _ _ _⟩
    have HBs : Hid (∀ V, Fr No W6 V → V.cell? ⟨w5.heap.size, 0, none⟩ = some (.int .i64 0) ∧ V.cell? ⟨w5.heap.size, 1, none⟩ = some (.int .i64 0) ∧ V.cell? ⟨w5.heap.size, 2, none⟩ = some (.slice As ns cs) ∧ w5.heap.size < V.heap.size) := fun V hf => by
      have hb := hbs.fr hf (fun h => h)
      exact ⟨(hb.cell 0).trans rfl, (hb.cell 1).trans rfl, (hb.cell 2).trans rfl, hb.lt⟩
    have HF6 := Lib.hid (hf5.trans hfs)
    have HG6 := Lib.hid (HO4.out.no HF6.out)
    have HO6 := Lib.hid (ho5.no hfs)
    clear hf5 ho5 hfs hbs FS HO4
    have hng : ng = 0 := HG6.out.1
    have hns : ns = 0 := HO6.out.1
    subst hng hns
    have SR1 : Hid (∀ V, Fr No W6 V → Calls Tryd.prog 15 #[RV 0 0 Ag 0 cg, RV 0 0 As 0 cs] V fun e w' => e = .returned (.bool true) ∧ Fr No V w') := fun V hf => by
      refine (samer_any V 0 0 Ag cg ([] : List Int) 0 0 As cs ([] : List Int) (OR.isl (HG6.out.no hf)) (OR.isl (HO6.out.no hf)) (by first | omega | simp) (by first | omega | simp)).mono ?_
      rintro e w' ⟨b, rfl, hb, hf'⟩
      obtain rfl : b = true := hb.2 ⟨rfl, rfl, rfl⟩
      exact ⟨rfl, hf'⟩
    obtain ⟨a0, a1, a2, a3⟩ := HBg.out W6 HF6.out
    obtain ⟨b0, b1, b2, b3⟩ := HBs.out W6 (Fr.refl _ _)
    subst hW6
    go_wp2_with fail
    refine (SR1.out _ (Fr.refl _ _)).mono ?_
    rintro e w7 ⟨rfl, hf7⟩
    have HF7 := Lib.hid hf7
    clear a0 a1 a2 a3 b0 b1 b2 b3 hf7
    obtain ⟨a0, a1, a2, a3⟩ := HBg.out w7 (HF6.out.trans HF7.out)
    obtain ⟨b0, b1, b2, b3⟩ := HBs.out w7 HF7.out
    go_wp2_with fail
    refine (SR1.out w7 HF7.out).mono ?_
    rintro e w8 ⟨rfl, hf8⟩
    have HEND := Lib.hid (HF1.out.trans (HF4.out.trans (HF6.out.trans (HF7.out.trans hf8))))
    clear hf8
    go_wp2_with fail
    go_ret
    exact ⟨rfl, HEND.out⟩
end Go.Proofs.YticoeooeeejboaaDoor
