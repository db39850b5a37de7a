/- Graphs of lists, in the model. -/
import Derived.Test.YticoeooeeejboaaDoorReq
namespace Go.Proofs.YticoeooeeejboaaDoor
open Go.RowKit Go.ChangeMaps Go.Shelf

/-- the pairs of a list's graph -/
def graphL (lst : List Int) (n : Int) (k : Nat) : List Int := (List.range k).map fun (i : Nat) => (i : Int) * n + lst.getD i 0

theorem graphL_more (lst : List Int) (n : Int) (k : Nat) : graphL lst n (k + 1) = graphL lst n k ++ [(k : Int) * n + lst.getD k 0] := by
  unfold graphL
  rw [List.range_succ, List.map_append]
  rfl

theorem graphL_len (lst : List Int) (n : Int) (k : Nat) : (graphL lst n k).length = k := by simp [graphL]

set_option maxRecDepth 100000 in
set_option maxHeartbeats 4000000 in
theorem graph6_any (w : World) (A0 : Option Addr) (lst : List Int) (c0 : Nat) (n : Int) (hl : ISl w A0 lst) (hlen : lst.length ≤ 128) (hn1 : 1 ≤ n) (hn2 : n ≤ 128) (hz : ∀ z ∈ lst, 0 ≤ z ∧ z < n) :
    Calls Tryd.prog 40 #[.slice A0 lst.length c0, .int .i64 n] w fun e w' => ∃ A m c, e = .returned (RV lst.length n A m c) ∧ Fr No w w' ∧ OR w' w.heap.size A m c (graphL lst n lst.length) := by
  obtain ⟨i0, hi0, hz0, hz1, hz2⟩ := info_parts info_int
  have HL := Lib.hid hl
  have HZ := Lib.hid hz
  have hlI : (lst.length : Int) ≤ 128 := by omega
  clear hl hz
  go_enter Tryd.func40, Tryd.ntmps40
  go_wp2_with fail
  obtain ⟨W0, hW0, hf0, hr0, hb0, ho0⟩ := start_rel w lst.length n
  rw [← hW0]
  have HF0 := Lib.hid hf0
  have HR0 := Lib.hid hr0
  have HB0 := Lib.hid hb0
  have HO0 := Lib.hid ho0
  clear hW0 hf0 hr0 hb0 ho0
  go_loopw [6] (fun u wr => ∃ (j m c : Nat) (A : Option Addr), j ≤ lst.length ∧ u = .int .i64 j ∧ Fr No w wr ∧ Blk wr w.heap.size 25 #[.int .i64 0, .int .i64 0, .slice none 0 0] ∧ Blk wr (w.heap.size + 1 + 1) 25 #[.int .i64 (lst.length : Int), .int .i64 n, .slice A m c] ∧ OR wr (w.heap.size + 1) A m c (graphL lst n j)) (fun u _ => lst.length - (intOf u).toNat)
  case atStart => exact ⟨0, 0, 0, _, Nat.zero_le _, rfl, HF0.out, HR0.out, HB0.out, HO0.out⟩
  case round =>
    obtain ⟨j, m, c, A, hj, rfl, hfr, hres, hbx, hor⟩ := hrel
    have HF := Lib.hid hfr
    have HRS := Lib.hid hres
    have HBX := Lib.hid hbx
    have HOR := Lib.hid hor
    have c2 : wr.cell? ⟨w.heap.size + 1 + 1, 2, none⟩ = some (.slice A m c) := (hbx.cell 2).trans rfl
    by_cases hlt : j < lst.length
    · obtain ⟨z, hzj⟩ : ∃ z, lst[j]? = some z := ⟨_, List.getElem?_eq_getElem hlt⟩
      have hzz := HZ.out z (List.mem_of_getElem? hzj)
      have HGD : Hid (lst.getD j 0 = z) := by show _ = _; rw [List.getD_eq_getElem?_getD, hzj]; rfl
      obtain ⟨g, o, rfl, hc0⟩ := HL.out j z hzj
      have hgl := block_lt hc0
      have hc : wr.cell? ⟨g, o + j, none⟩ = some (.int .i64 z) := (hfr.cell (p := ⟨g, o + j, none⟩) hgl (fun h => h)).trans hc0
      have HC : Hid (∀ w4, Fr No w w4 → w4.cell? ⟨g, o + j, none⟩ = some (.int .i64 z)) := fun w4 hf => (hf.cell (p := ⟨g, o + j, none⟩) hgl (fun h => h)).trans hc0
      have ng1 : g ≠ w.heap.size + 1 + 1 := by omega
      have ng2 : w.heap.size + 1 + 1 ≠ g := by omega
      have hfz : wr.frozen? ⟨w.heap.size + 1 + 1, 2, none⟩ = false := hbx.frozen 2
      have hlb := hbx.lt
      have hml : m + 1 ≤ 100000 := by have := hor.1; rw [graphL_len] at this; omega
      have hjI : (j : Int) < (lst.length : Int) := by omega
      have hp0 : 0 ≤ (j : Int) * n := Int.mul_nonneg (by omega) (by omega)
      have hp1 : (j : Int) * n ≤ 16384 := by
        obtain ⟨k, rfl⟩ : ∃ k : Nat, n = k := ⟨n.toNat, by omega⟩
        have h := Nat.mul_le_mul (show j ≤ 128 by omega) (show k ≤ 128 by omega)
        rw [← Int.natCast_mul]; omega
      have hw1 : IntKind.i64.wrap ((j : Int) * n) = (j : Int) * n := IntWalk.i64_in _ (by omega)
      have hw2 : IntKind.i64.wrap ((j : Int) * n + z) = (j : Int) * n + z := IntWalk.i64_in _ (by omega)
      have NEWC : Hid (∀ k u, [Value.int .i64 ((j : Int) * n + z)][k]? = some u → ((wr.alloc (.cells #[.int .i64 ((j : Int) * n + z)] 3)).drew).cell? ((⟨wr.heap.size, 0, none⟩ : Addr).add k) = some u) := fun k u h => cell_one_new wr _ _ k u h
      have OWN : Hid (∀ V, Fr No wr V → World.ownsRow V (w.heap.size + 1) 3 1 (.slice A m c) m ((graphL lst n j).map (Value.int .i64)) ∧ w.heap.size + 1 ≤ V.heap.size) := fun V hf => ⟨(HOR.out.no hf).2, by have := hf.size; omega⟩
      have ARM : Hid (∀ (g' cap' : Nat) (V w1 : World), Fr No wr V → w1.ownsRow (w.heap.size + 1) 3 1 (.slice (some ⟨g', 0, none⟩) (m + 1) cap') (m + 1) (((graphL lst n j).map (Value.int .i64)) ++ [.int .i64 ((j : Int) * n + z)]) → V.grownBy w1 (Value.slice A m c).ownBlock →
          w1.cell? ⟨g, o + j, none⟩ = some (.int .i64 z) ∧ w1.cell? ⟨w.heap.size + 1 + 1, 2, none⟩ = some (.slice A m c) ∧ w1.frozen? ⟨w.heap.size + 1 + 1, 2, none⟩ = false ∧ w.heap.size + 1 + 1 < w1.heap.size ∧ (w1.setCell ⟨w.heap.size + 1 + 1, 2, none⟩ (.slice (some ⟨g', 0, none⟩) (m + 1) cap')).cell? ⟨g, o + j, none⟩ = some (.int .i64 z) ∧
          Hid (Fr No w (w1.setCell ⟨w.heap.size + 1 + 1, 2, none⟩ (.slice (some ⟨g', 0, none⟩) (m + 1) cap')) ∧ Blk (w1.setCell ⟨w.heap.size + 1 + 1, 2, none⟩ (.slice (some ⟨g', 0, none⟩) (m + 1) cap')) w.heap.size 25 #[.int .i64 0, .int .i64 0, .slice none 0 0] ∧ Blk (w1.setCell ⟨w.heap.size + 1 + 1, 2, none⟩ (.slice (some ⟨g', 0, none⟩) (m + 1) cap')) (w.heap.size + 1 + 1) 25 #[.int .i64 (lst.length : Int), .int .i64 n, .slice (some ⟨g', 0, none⟩) (m + 1) cap'] ∧ OR (w1.setCell ⟨w.heap.size + 1 + 1, 2, none⟩ (.slice (some ⟨g', 0, none⟩) (m + 1) cap')) (w.heap.size + 1) (some ⟨g', 0, none⟩) (m + 1) cap' (graphL lst n (j + 1)))) := by
        intro g' cap' V w1 hV ho hg
        obtain ⟨h1, h2, h3, h4⟩ := app_fin HBX.out HOR.out hV ho hg
        have hB : ∀ b, Own A b ∨ b = w.heap.size + 1 + 1 → w.heap.size + 1 ≤ b := fun b hb => by
          rcases hb with hb | hb
          · exact (HOR.out.bounds hb).1
          · omega
        have hfin := HF.out.then_ h2 (fun b hb h => by have := hB b h; omega)
        have hg1 : Fr (Own A) wr w1 := (hV.mono (fun _ _ h => h.elim)).grown hg (fun k hk => .inl (by
          unfold Value.ownBlock at hk
          cases A with
          | none => cases hk
          | some a => exact ⟨a, rfl, by injection hk⟩))
        refine ⟨HC.out w1 (HF.out.then_ hg1 (fun b hb h => by have := (HOR.out.bounds h).1; omega)), (h1.cell 2).trans rfl, h1.frozen 2, h1.lt, HC.out _ hfin, hfin, HRS.out.fr h2 (fun h => by have := hB _ h; omega), h3, ?_⟩
        rw [graphL_more, HGD.out]
        exact h4
      clear hfr hres hbx hor HF0 HR0 HB0 HO0 hc0 hzj
      go_wp2_with fail
      refine wp_region_held_drew (S := fun w' => w'.cell? ⟨g, o + j, none⟩ = some (.int .i64 z)) (by kernel_rfl) ?hS (fun hHeld => ?_)
      case hS => exact hc
      refine wpAnyH_take (i := 0) (v := ?v0) (by simp only [List.getElem?_toArray, List.getElem?_cons_zero]; rfl) (by kernel_rfl) (by kernel_rfl) (by kernel_rfl) (by exact fun _ _ _ h => h) (Or.inl ⟨by rfl, ?hy0⟩) (by assumption) ?rest0
      case hy0 => (intro w hSw; (try dsimp only at hSw); go_simp; try with_reducible rfl)
      ((try simp only [Act.put]); (try simp only [List.setIfInBounds_toArray]); (try simp only [List.set_cons_succ]); (try simp only [List.set_cons_zero]))
      refine wpAnyH_take (i := 2) (v := ?v2) (by simp only [List.getElem?_toArray, List.getElem?_cons_succ, List.getElem?_cons_zero]; rfl) (by kernel_rfl) (by kernel_rfl) (by kernel_rfl) (by exact fun _ _ _ h => h) (Or.inl ⟨by rfl, ?hy2⟩) (by assumption) ?rest2
      case hy2 => (intro w hSw; (try dsimp only at hSw); go_simp; try with_reducible rfl)
      ((try simp only [Act.put]); (try simp only [List.setIfInBounds_toArray]); (try simp only [List.set_cons_succ]); (try simp only [List.set_cons_zero]))
      refine wpAnyH_take (i := 3) (v := ?v3) (by simp only [List.getElem?_toArray, List.getElem?_cons_succ, List.getElem?_cons_zero]; rfl) (by kernel_rfl) (by kernel_rfl) (by kernel_rfl) (by exact fun _ _ _ h => h) (Or.inl ⟨by rfl, ?hy3⟩) (by assumption) ?rest3
      case hy3 => (intro w hSw; (try dsimp only at hSw); go_simp; try with_reducible rfl)
      ((try simp only [Act.put]); (try simp only [List.setIfInBounds_toArray]); (try simp only [List.set_cons_succ]); (try simp only [List.set_cons_zero]))
      refine wpAnyH_take (i := 4) (v := ?v4) (by simp only [List.getElem?_toArray, List.getElem?_cons_succ, List.getElem?_cons_zero]; rfl) (by kernel_rfl) (by kernel_rfl) (by kernel_rfl) (by exact fun _ _ _ h => h) (Or.inl ⟨by rfl, ?hy4⟩) (by assumption) ?rest4
      case hy4 => (intro w hSw; (try dsimp only at hSw); go_simp; try with_reducible rfl)
      ((try simp only [Act.put]); (try simp only [List.setIfInBounds_toArray]); (try simp only [List.set_cons_succ]); (try simp only [List.set_cons_zero]))
      refine wpAnyH_take (i := 5) (v := ?v5) (by simp only [List.getElem?_toArray, List.getElem?_cons_succ, List.getElem?_cons_zero]; rfl) (by kernel_rfl) (by kernel_rfl) (by kernel_rfl) (by exact fun _ _ _ h => h) (Or.inl ⟨by rfl, ?hy5⟩) (by assumption) ?rest5
      case hy5 => (intro w hSw; (try dsimp only at hSw); go_simp; try with_reducible rfl)
      ((try simp only [Act.put]); (try simp only [List.setIfInBounds_toArray]); (try simp only [List.set_cons_succ]); (try simp only [List.set_cons_zero]))
      refine wpAnyH_take (i := 6) (v := ?v6) (by simp only [List.getElem?_toArray, List.getElem?_cons_succ, List.getElem?_cons_zero]; rfl) (by kernel_rfl) (by kernel_rfl) (by kernel_rfl) (by exact fun _ _ _ h => h) (Or.inl ⟨by rfl, ?hy6⟩) (by assumption) ?rest6
      case hy6 => (intro w hSw; (try dsimp only at hSw); go_simp; try with_reducible rfl)
      ((try simp only [Act.put]); (try simp only [List.setIfInBounds_toArray]); (try simp only [List.set_cons_succ]); (try simp only [List.set_cons_zero]))
      refine wpAnyH_take (i := 7) (v := ?v7) (by simp only [List.getElem?_toArray, List.getElem?_cons_succ, List.getElem?_cons_zero]; rfl) (by kernel_rfl) (by kernel_rfl) (by kernel_rfl) (by exact fun _ _ _ h => h) (Or.inl ⟨by rfl, ?hy7⟩) (by assumption) ?rest7
      case hy7 => (intro w hSw; (try dsimp only at hSw); go_simp; try with_reducible rfl)
      ((try simp only [Act.put]); (try simp only [List.setIfInBounds_toArray]); (try simp only [List.set_cons_succ]); (try simp only [List.set_cons_zero]))
      refine wpAnyH_take (i := 8) (v := ?v8) (by simp only [List.getElem?_toArray, List.getElem?_cons_succ, List.getElem?_cons_zero]; rfl) (by kernel_rfl) (by kernel_rfl) (by kernel_rfl) (by exact fun _ _ _ h => h) (Or.inl ⟨by rfl, ?hy8⟩) (by assumption) ?rest8
      case hy8 => (intro w hSw; (try dsimp only at hSw); go_simp; try with_reducible rfl)
      ((try simp only [Act.put]); (try simp only [List.setIfInBounds_toArray]); (try simp only [List.set_cons_succ]); (try simp only [List.set_cons_zero]))
      refine wpAnyH_take (i := 9) (v := ?v9) (by simp only [List.getElem?_toArray, List.getElem?_cons_succ, List.getElem?_cons_zero]; rfl) (by kernel_rfl) (by kernel_rfl) (by kernel_rfl) (by exact fun _ _ _ h => h) (Or.inl ⟨by rfl, ?hy9⟩) (by assumption) ?rest9
      case hy9 => (intro w hSw; (try dsimp only at hSw); go_simp; try with_reducible rfl)
      ((try simp only [Act.put]); (try simp only [List.setIfInBounds_toArray]); (try simp only [List.set_cons_succ]); (try simp only [List.set_cons_zero]))
      refine wpAnyH_ready (rs := [1, 10]) (by kernel_rfl) (by simp) ?_
      refine AllReadyH.cons rfl (fun K hK => ?_) (AllReadyH.cons rfl (fun K hK => ?_) AllReadyH.nil)
      · go_simp
        refine hK.out _ _ (by assumption) (fun hH1 => ?_)
        clear hK K
        ((try simp only [Act.put]); (try simp only [List.setIfInBounds_toArray]); (try simp only [List.set_cons_succ]); (try simp only [List.set_cons_zero]))
        refine wpAnyH_ready (rs := [10]) (by kernel_rfl) (by simp) ?_
        refine AllReadyH.cons rfl (fun K hK => ?_) AllReadyH.nil
        go_simp
        refine hK.out _ _ (by first | go_keep | (refine ⟨?_⟩ <;> go_keep)) (fun hH2 => ?_)
        clear hK K
        ((try simp only [Act.put]); (try simp only [List.setIfInBounds_toArray]); (try simp only [List.set_cons_succ]); (try simp only [List.set_cons_zero]))
        refine wpAnyH_ready (rs := [11]) (by kernel_rfl) (by simp) ?_
        refine AllReadyH.cons rfl (fun K hK => ?_) AllReadyH.nil
        refine step_append_lies _ (by rfl) _ _ _ (by rfl) (w.heap.size + 1) 3 i0 (.int .i64 0) 1 8 Tryd.underlying23 hi0 hz0 hz1 hz2 (by rfl) (by decide) (.slice A m c) m ((graphL lst n j).map (Value.int .i64)) (by rfl) (OWN.out _ ((Fr.refl No wr).alloc _).drew).1 ⟨_, 0, none⟩ 1 1 [.int .i64 ((j : Int) * n + z)] (by rfl) (by rfl) NEWC.out (by simp [Value.oneCell']) (by decide) (by unfold maxLen; omega) (by omega) (OWN.out _ ((Fr.refl No wr).alloc _).drew).2 _ rfl ?_
        intro g4 cap4 w4 hown4 hgrow4 _ hlt4
        obtain ⟨k0, k1, k2, k3, k5, k4⟩ := ARM.out g4 cap4 _ w4 ((Fr.refl No wr).alloc _).drew hown4 hgrow4; clear hown4 hgrow4
        refine hK.out _ _ k0 (fun hH3 => ?_)
        clear hK K
        ((try simp only [Act.put]); (try simp only [List.setIfInBounds_toArray]); (try simp only [List.set_cons_succ]); (try simp only [List.set_cons_zero]))
        refine wpAnyH_take (i := 12) (v := ?va12) (by simp only [List.getElem?_toArray, List.getElem?_cons_succ, List.getElem?_cons_zero]; rfl) (by kernel_rfl) (by kernel_rfl) (by kernel_rfl) (by exact fun _ _ _ h => h) (Or.inl ⟨by rfl, ?hya12⟩) (by assumption) ?resta12
        case hya12 => (intro w hSw; (try dsimp only at hSw); go_simp; try with_reducible rfl)
        ((try simp only [Act.put]); (try simp only [List.setIfInBounds_toArray]); (try simp only [List.set_cons_succ]); (try simp only [List.set_cons_zero]))
        refine wpAnyH_ready (rs := [13]) (by kernel_rfl) (by simp) ?_
        refine AllReadyH.cons rfl (fun K hK => ?_) AllReadyH.nil
        go_simp
        refine hK.out _ _ k5 (fun hH4 => ?_)
        clear hK K
        ((try simp only [Act.put]); (try simp only [List.setIfInBounds_toArray]); (try simp only [List.set_cons_succ]); (try simp only [List.set_cons_zero]))
        refine wpAnyH_done (by kernel_rfl) ?_ _
        go_wp2_with fail
        go_roundw
        case rel => exact ⟨j + 1, m + 1, cap4, _, by omega, by go_num, k4.out⟩
        case measure => simp [intOf]; omega
      · go_simp
        refine hK.out _ _ (by first | go_keep | (refine ⟨?_⟩ <;> go_keep)) (fun hH2 => ?_)
        clear hK K
        ((try simp only [Act.put]); (try simp only [List.setIfInBounds_toArray]); (try simp only [List.set_cons_succ]); (try simp only [List.set_cons_zero]))
        refine wpAnyH_ready (rs := [1]) (by kernel_rfl) (by simp) ?_
        refine AllReadyH.cons rfl (fun K hK => ?_) AllReadyH.nil
        go_simp
        refine hK.out _ _ (by assumption) (fun hH1 => ?_)
        clear hK K
        ((try simp only [Act.put]); (try simp only [List.setIfInBounds_toArray]); (try simp only [List.set_cons_succ]); (try simp only [List.set_cons_zero]))
        refine wpAnyH_ready (rs := [11]) (by kernel_rfl) (by simp) ?_
        refine AllReadyH.cons rfl (fun K hK => ?_) AllReadyH.nil
        refine step_append_lies _ (by rfl) _ _ _ (by rfl) (w.heap.size + 1) 3 i0 (.int .i64 0) 1 8 Tryd.underlying23 hi0 hz0 hz1 hz2 (by rfl) (by decide) (.slice A m c) m ((graphL lst n j).map (Value.int .i64)) (by rfl) (OWN.out _ ((Fr.refl No wr).alloc _).drew).1 ⟨_, 0, none⟩ 1 1 [.int .i64 ((j : Int) * n + z)] (by rfl) (by rfl) NEWC.out (by simp [Value.oneCell']) (by decide) (by unfold maxLen; omega) (by omega) (OWN.out _ ((Fr.refl No wr).alloc _).drew).2 _ rfl ?_
        intro g4 cap4 w4 hown4 hgrow4 _ hlt4
        obtain ⟨k0, k1, k2, k3, k5, k4⟩ := ARM.out g4 cap4 _ w4 ((Fr.refl No wr).alloc _).drew hown4 hgrow4; clear hown4 hgrow4
        refine hK.out _ _ k0 (fun hH3 => ?_)
        clear hK K
        ((try simp only [Act.put]); (try simp only [List.setIfInBounds_toArray]); (try simp only [List.set_cons_succ]); (try simp only [List.set_cons_zero]))
        refine wpAnyH_take (i := 12) (v := ?vb12) (by simp only [List.getElem?_toArray, List.getElem?_cons_succ, List.getElem?_cons_zero]; rfl) (by kernel_rfl) (by kernel_rfl) (by kernel_rfl) (by exact fun _ _ _ h => h) (Or.inl ⟨by rfl, ?hyb12⟩) (by assumption) ?restb12
        case hyb12 => (intro w hSw; (try dsimp only at hSw); go_simp; try with_reducible rfl)
        ((try simp only [Act.put]); (try simp only [List.setIfInBounds_toArray]); (try simp only [List.set_cons_succ]); (try simp only [List.set_cons_zero]))
        refine wpAnyH_ready (rs := [13]) (by kernel_rfl) (by simp) ?_
        refine AllReadyH.cons rfl (fun K hK => ?_) AllReadyH.nil
        go_simp
        refine hK.out _ _ k5 (fun hH4 => ?_)
        clear hK K
        ((try simp only [Act.put]); (try simp only [List.setIfInBounds_toArray]); (try simp only [List.set_cons_succ]); (try simp only [List.set_cons_zero]))
        refine wpAnyH_done (by kernel_rfl) ?_ _
        go_wp2_with fail
        go_roundw
        case rel => exact ⟨j + 1, m + 1, cap4, _, by omega, by go_num, k4.out⟩
        case measure => simp [intOf]; omega
    · have hjl : j = lst.length := by omega
      have hnlt : ¬ (j : Int) < (lst.length : Int) := by omega
      have c0 : wr.cell? ⟨w.heap.size + 1 + 1, 0, none⟩ = some (.int .i64 lst.length) := (hbx.cell 0).trans rfl
      have c1 : wr.cell? ⟨w.heap.size + 1 + 1, 1, none⟩ = some (.int .i64 n) := (hbx.cell 1).trans rfl
      have a0 : wr.cell? ⟨w.heap.size, 0, none⟩ = some (.int .i64 0) := (hres.cell 0).trans rfl
      have a1 : wr.cell? ⟨w.heap.size, 1, none⟩ = some (.int .i64 0) := (hres.cell 1).trans rfl
      have a2 : wr.cell? ⟨w.heap.size, 2, none⟩ = some (.slice none 0 0) := (hres.cell 2).trans rfl
      have f0 := hres.frozen 0
      have f1 := hres.frozen 1
      have f2 := hres.frozen 2
      have FIN := Lib.hid (fun v0 v1 v2 => ans_store (Nat.le_refl w.heap.size) hfr hres hor (Nat.le_succ _) v0 v1 v2)
      have HJL := Lib.hid hjl
      clear hfr hres hbx hor HF0 HR0 HB0 HO0 hjl
      go_wp2_with fail
      refine bodyPost_ret (v := RV lst.length n A m c) (by simp [results, Tryd.results40, go_sem, a0, a1, a2]) rfl ?_
      have h := (FIN.out (.int .i64 lst.length) (.int .i64 n) (.slice A m c)).2
      rw [HJL.out] at h
      exact ⟨A, m, c, rfl, (FIN.out _ _ _).1, h⟩
end Go.Proofs.YticoeooeeejboaaDoor
