/- RelSame and RelGraph of the model. -/
import Derived.Test.YticoeooeeejboaaDoorGra
namespace Go.Proofs.YticoeooeeejboaaDoor
open Go.RowKit Go.ChangeMaps Go.Shelf

theorem same_graph (m : Nat) : graphL ((List.range m).map Int.ofNat) m m = (List.range m).map fun i => ((i * m + i : Nat) : Int) := by
  unfold graphL
  refine List.map_congr_left fun i hi => ?_
  have h := List.mem_range.1 hi
  rw [List.getD_eq_getElem?_getD, List.getElem?_map, List.getElem?_range h]
  simp

/-- the result's cell holds what a call has handed back -/
theorem ret_facts {w w3 : World} (hb : Blk w3 w.heap.size 25 #[.int .i64 0, .int .i64 0, .slice none 0 0]) :
    (w3.cell? ⟨w.heap.size, 0, none⟩ = some (.int .i64 0) ∧ w3.cell? ⟨w.heap.size, 1, none⟩ = some (.int .i64 0) ∧ w3.cell? ⟨w.heap.size, 2, none⟩ = some (.slice none 0 0)) ∧ (w3.frozen? ⟨w.heap.size, 0, none⟩ = false ∧ w3.frozen? ⟨w.heap.size, 1, none⟩ = false ∧ w3.frozen? ⟨w.heap.size, 2, none⟩ = false) :=
  ⟨⟨(hb.cell 0).trans rfl, (hb.cell 1).trans rfl, (hb.cell 2).trans rfl⟩, hb.frozen 0, hb.frozen 1, hb.frozen 2⟩

set_option maxRecDepth 100000 in
set_option maxHeartbeats 2000000 in
theorem specRelSame (w : World) (n : Int) :
    Calls Tryd.prog 14 #[.int .i64 n] w fun e w' => AnsR (sameO n) w e w' := by
  have IN : Hid (∀ (W : World) (a b c : Int), Calls Tryd.prog 32 #[.int .i64 a, .int .i64 b, .int .i64 c] W fun e w' => e = .returned (.bool (decide (b ≤ a ∧ a ≤ c))) ∧ W = w') := fun W a b c => in_any W a b c
  have HF0 : Hid (Fr No w (w.alloc (.cells #[.int .i64 0, .int .i64 0, .slice none 0 0] 25))) := (Fr.refl No w).alloc _
  have HB0 : Hid (Blk (w.alloc (.cells #[.int .i64 0, .int .i64 0, .slice none 0 0] 25)) w.heap.size 25 #[.int .i64 0, .int .i64 0, .slice none 0 0]) := Blk.new _ _ _
  obtain ⟨i0, hi0, hz0, hz1, hz2⟩ := info_parts info_int
  by_cases hn : 1 ≤ n ∧ n ≤ 128
  · have hnd : decide (1 ≤ n ∧ n ≤ 128) = true := by simpa using hn
    have HND := Lib.hid hnd
    have HYES : Hid (sameO n = some (n, n, (List.range n.toNat).map fun i => ((i * n.toNat + i : Nat) : Int))) := if_pos hn
    obtain ⟨m, rfl⟩ : ∃ m : Nat, n = m := ⟨n.toNat, by omega⟩
    have hm1 : 1 ≤ m := by omega
    have hm2 : m ≤ 128 := by omega
    have HFW : Hid (Fr No w ((w.alloc (.cells #[.int .i64 0, .int .i64 0, .slice none 0 0] 25)).alloc (.cells #[] 3))) := HF0.out.alloc _
    have HBW : Hid (Blk ((w.alloc (.cells #[.int .i64 0, .int .i64 0, .slice none 0 0] 25)).alloc (.cells #[] 3)) w.heap.size 25 #[.int .i64 0, .int .i64 0, .slice none 0 0]) := HB0.out.alloc _
    have HOW : Hid (OR ((w.alloc (.cells #[.int .i64 0, .int .i64 0, .slice none 0 0] 25)).alloc (.cells #[] 3)) (w.heap.size + 1) (some ⟨w.heap.size + 1, 0, none⟩) 0 0 []) := by
      have h := or_new (w.alloc (.cells #[.int .i64 0, .int .i64 0, .slice none 0 0] 25))
      show OR _ _ _ _ _ _
      simpa using h
    clear hnd hn HF0 HB0
    go_enter Tryd.func14, Tryd.ntmps14
    go_wp2_with fail
    refine (IN.out _ _ _ _).mono ?_
    rintro e W ⟨rfl, rfl⟩
    rw [HND.out]
    go_wp2_with fail
    generalize (w.alloc (.cells #[.int .i64 0, .int .i64 0, .slice none 0 0] 25)).alloc (.cells #[] 3) = W2 at *
    go_loopw [4, 5] (fun s u wr => ∃ (j k c : Nat) (A : Option Addr), j ≤ m ∧ u = .int .i64 j ∧ s = .slice A k c ∧ Fr No w wr ∧ Blk wr w.heap.size 25 #[.int .i64 0, .int .i64 0, .slice none 0 0] ∧ OR wr (w.heap.size + 1) A k c ((List.range j).map Int.ofNat)) (fun _ u _ => m - (intOf u).toNat)
    case atStart => exact ⟨0, 0, 0, _, Nat.zero_le _, rfl, rfl, HFW.out, HBW.out, HOW.out⟩
    case round =>
      obtain ⟨j, k, c, A, hj, rfl, rfl, hfr, hres, hor⟩ := hrel
      have HF := Lib.hid hfr
      have HRS := Lib.hid hres
      have HOR := Lib.hid hor
      have HKJ : Hid (k = j) := by show _ = _; rw [hor.1]; simp
      by_cases hlt : j < m
      · have hown := hor.2
        have hkl : k + 1 ≤ 100000 := by have := HKJ.out; omega
        have hsz : w.heap.size + 1 ≤ wr.heap.size := by have := hres.lt; omega
        have hjI : (j : Int) < (m : Int) := by omega
        have ARM : Hid (∀ (v' : Value) (w1 : World), w1.ownsRow (w.heap.size + 1) 3 1 v' (k + 1) ((((List.range j).map Int.ofNat).map (Value.int .i64)) ++ [.int .i64 (j : Int)]) → (wr.alloc (.cells #[.int .i64 (j : Int)] 3)).grownBy w1 (Value.slice A k c).ownBlock →
            ∃ g' cap', v' = .slice (some ⟨g', 0, none⟩) (k + 1) cap' ∧ Hid (Fr No w w1 ∧ Blk w1 w.heap.size 25 #[.int .i64 0, .int .i64 0, .slice none 0 0] ∧ OR w1 (w.heap.size + 1) (some ⟨g', 0, none⟩) (k + 1) cap' ((List.range (j + 1)).map Int.ofNat))) := by
          intro v' w1 ho hg
          obtain ⟨g', cap', rfl, h1, h2⟩ := or_more HOR.out ((Fr.refl No wr).alloc _) ho hg
          refine ⟨g', cap', rfl, HF.out.then_ h1 (fun b hb h => by have := (HOR.out.bounds h).1; omega), HRS.out.fr h1 (HOR.out.other HRS.out (by decide)), ?_⟩
          rw [List.range_succ, List.map_append]
          exact h2
        clear hfr hres hor
        go_wp2_with (at_builtin; refine wpList_append_own _ rfl _ _ 23 rfl (w.heap.size + 1) 3 i0 (.int .i64 0) 1 8 Tryd.underlying23 hi0 hz0 hz1 hz2 rfl (by decide) _ _ _ rfl (hown.alloc _) ⟨wr.heap.size, 0, none⟩ 1 1 [.int .i64 (j : Int)] rfl rfl (cell_one_new _ _ _) (by simp [Value.oneCell']) (by unfold maxLen; omega) (by omega) (by simp; omega) ?_; intro v' w1 hown' hgrow _; obtain ⟨g', cap', rfl, n4⟩ := ARM.out v' w1 hown' hgrow; clear hown' hgrow)
        clear hown ARM
        go_wp2_with fail
        go_roundw
        case rel => exact ⟨j + 1, k + 1, cap', some ⟨g', 0, none⟩, by omega, by go_num, rfl, n4.out⟩
        case measure => simp [intOf]; omega
      · have hjm : j = m := by omega
        have hnlt : ¬ (j : Int) < (m : Int) := by omega
        have GR : Hid (Calls Tryd.prog 40 #[.slice A k c, .int .i64 m] wr fun e w' => ∃ A m' c, e = .returned (RV m m A m' c) ∧ Fr No wr w' ∧ OR w' wr.heap.size A m' c ((List.range m).map fun i => ((i * m + i : Nat) : Int))) := by
          have hk : k = ((List.range m).map Int.ofNat).length := by have := HKJ.out; simp; omega
          have hl := hor.isl
          rw [hjm] at hl
          have h := graph6_any wr A ((List.range m).map Int.ofNat) c m hl (by simp; omega) (by omega) (by omega) (fun z hz => by
            obtain ⟨i, hi, rfl⟩ := List.mem_map.1 hz
            have := List.mem_range.1 hi
            show 0 ≤ (i : Int) ∧ (i : Int) < m
            omega)
          rw [← hk] at h
          have hkm : k = m := by simpa using hk
          show Calls _ _ _ _ _
          rw [hkm] at h ⊢
          rw [same_graph] at h
          exact h
        clear hfr hres hor hjm
        go_wp2_with fail
        refine GR.out.mono ?_
        rintro e w3 ⟨A1, m1, c1, rfl, hf3, hor3⟩
        obtain ⟨⟨a0, a1, a2⟩, f0, f1, f2⟩ := ret_facts (HRS.out.fr hf3 (fun h => h))
        have FIN := Lib.hid (fun v0 v1 v2 => ans_store (Nat.le_refl w.heap.size) (HF.out.trans hf3) (HRS.out.fr hf3 (fun h => h)) hor3 HF.out.size v0 v1 v2)
        clear hf3 hor3 GR
        go_wp2_with fail
        refine bodyPost_ret (v := .tuple #[RV m m A1 m1 c1, .bool true]) (by simp [results, Tryd.results14, go_sem, a0, a1, a2]) rfl ?_
        rw [HYES.out]
        exact ⟨A1, m1, c1, rfl, (FIN.out _ _ _).1, (FIN.out _ _ _).2⟩
  · have hnd : decide (1 ≤ n ∧ n ≤ 128) = false := by simpa using hn
    have HND := Lib.hid hnd
    have HNO : Hid (sameO n = none) := if_neg hn
    have HAN := Lib.hid (AnsR.none_ HF0.out)
    clear hnd hn HF0 HB0
    go_enter Tryd.func14, Tryd.ntmps14
    go_wp2_with fail
    refine (IN.out _ _ _ _).mono ?_
    rintro e W ⟨rfl, rfl⟩
    rw [HND.out]
    go_wp2_with fail
    refine bodyPost_ret (v := .tuple #[RV 0 0 none 0 0, .bool false]) (by simp [results, Tryd.results14, go_sem]) rfl ?_
    rw [HNO.out]
    exact HAN.out
end Go.Proofs.YticoeooeeejboaaDoor
