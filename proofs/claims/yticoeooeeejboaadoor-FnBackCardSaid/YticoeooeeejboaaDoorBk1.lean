/- RelBack of the model. -/
import Derived.Test.YticoeooeeejboaaDoorBk0
namespace Go.Proofs.YticoeooeeejboaaDoor
open Go.RowKit Go.ChangeMaps Go.Shelf

/-- what is there while pairs come in -/
structure BI (w : World) (B0 l r : Nat) (A0 : Option Addr) (n0 c0 : Nat) (qs : List Nat) (wr : World) : Prop where
  fr : Fr No w wr
  rb : Blk wr w.heap.size 25 #[.int .i64 (l : Int), .int .i64 (r : Int), .slice A0 n0 c0]
  rt : Blk wr (w.heap.size + 1) 25 #[.int .i64 0, .int .i64 0, .slice none 0 0]
  bx : ∃ A m c, Blk wr (B0 + 1) 25 #[.int .i64 (r : Int), .int .i64 (l : Int), .slice A m c] ∧ OR wr B0 A m c (qs.map Int.ofNat)
  lo : w.heap.size + 2 ≤ B0

theorem BI.step {w wr wr' : World} {B0 l r n0 c0 : Nat} {A0 : Option Addr} {qs : List Nat} (h : BI w B0 l r A0 n0 c0 qs wr) (hf : Fr No wr wr') : BI w B0 l r A0 n0 c0 qs wr' := by
  obtain ⟨A, m, c, h1, h2⟩ := h.bx
  exact ⟨h.fr.trans hf, h.rb.fr hf (fun h => h), h.rt.fr hf (fun h => h), ⟨A, m, c, h1.fr hf (fun h => h), h2.no hf⟩, h.lo⟩

set_option maxRecDepth 100000 in
set_option maxHeartbeats 4000000 in
theorem specRelBack (w : World) (L R : Int) (A0 : Option Addr) (c0 : Nat) (ps : List Int) (hp : ISl w A0 ps) (hn : ps.length ≤ 2000000) :
    Calls Tryd.prog 19 #[RV L R A0 ps.length c0] w fun e w' => AnsR (backO L R ps) w e w' := by
  obtain ⟨W0, hW0, hf0, hr0, hb0⟩ : ∃ W, W = (w.alloc (.cells #[.int .i64 L, .int .i64 R, .slice A0 ps.length c0] 25)).alloc (.cells #[.int .i64 0, .int .i64 0, .slice none 0 0] 25) ∧ Fr No w W ∧ Blk W w.heap.size 25 #[.int .i64 L, .int .i64 R, .slice A0 ps.length c0] ∧ Blk W (w.heap.size + 1) 25 #[.int .i64 0, .int .i64 0, .slice none 0 0] :=
    ⟨_, rfl, ((Fr.refl No w).alloc _).alloc _, (Blk.new _ _ _).alloc _, Blk.new_at _ _ _ (by simp)⟩
  have HF0 := Lib.hid hf0
  have HR0 := Lib.hid hr0
  have HB0 := Lib.hid hb0
  have VAL : Hid (∀ W, Fr No w W → Calls Tryd.prog 31 #[RV L R A0 ps.length c0] W fun e w' => ValP L R ps W e w') := fun W hf => specRelValid W L R A0 c0 ps (hp.keep hf (fun _ h => h.elim)) hn
  have HAS : Hid (∀ W (l r i k : Nat), Fr No w W → RelOk l r ps → i < l → k < r → Calls Tryd.prog 33 #[RV l r A0 ps.length c0, .int .i64 i, .int .i64 k] W fun e w' => e = .returned (.bool (memR r ps i k)) ∧ Fr No W w') := fun W l r i k hf hok hi hk => has6_any W l r A0 c0 ps (hp.keep hf (fun _ h => h.elim)) hn hok i k hi hk
  obtain ⟨i0, hi0, hz0, hz1, hz2⟩ := info_parts info_int
  clear hf0 hr0 hb0 hp
  go_enter Tryd.func19, Tryd.ntmps19
  go_wp2_with fail
  rw [← hW0]
  clear hW0
  refine (VAL.out _ HF0.out).mono ?_
  rintro e w1 ⟨bv, rfl, hbv, hf1⟩
  have HBV := Lib.hid hbv
  have HF1 := Lib.hid (HF0.out.trans hf1)
  have HR1 := Lib.hid (HR0.out.fr hf1 (fun h => h))
  have HB1 := Lib.hid (HB0.out.fr hf1 (fun h => h))
  have d0 : w1.cell? ⟨w.heap.size, 0, none⟩ = some (.int .i64 L) := (HR1.out.cell 0).trans rfl
  have d1 : w1.cell? ⟨w.heap.size, 1, none⟩ = some (.int .i64 R) := (HR1.out.cell 1).trans rfl
  have d2 : w1.cell? ⟨w.heap.size, 2, none⟩ = some (.slice A0 ps.length c0) := (HR1.out.cell 2).trans rfl
  have a0 : w1.cell? ⟨w.heap.size + 1, 0, none⟩ = some (.int .i64 0) := (HB1.out.cell 0).trans rfl
  have a1 : w1.cell? ⟨w.heap.size + 1, 1, none⟩ = some (.int .i64 0) := (HB1.out.cell 1).trans rfl
  have a2 : w1.cell? ⟨w.heap.size + 1, 2, none⟩ = some (.slice none 0 0) := (HB1.out.cell 2).trans rfl
  have f0 := HB1.out.frozen 0
  have f1 := HB1.out.frozen 1
  have f2 := HB1.out.frozen 2
  clear hbv hf1 VAL HF0 HR0 HB0
  cases bv with
  | false =>
    have HE : Hid (AnsR (backO L R ps) w (.returned (.tuple #[RV 0 0 none 0 0, .bool false])) (((w1.setCell ⟨w.heap.size + 1, 0, none⟩ (.int .i64 0)).setCell ⟨w.heap.size + 1, 1, none⟩ (.int .i64 0)).setCell ⟨w.heap.size + 1, 2, none⟩ (.slice none 0 0))) := by
      show AnsR _ _ _ _
      rw [backO_no (fun h => by have := HBV.out.2 h; cases this)]
      exact AnsR.none_ (((HF1.out.setCell (p := ⟨w.heap.size + 1, 0, none⟩) (.inr (Nat.le_succ _)) _).setCell (p := ⟨w.heap.size + 1, 1, none⟩) (.inr (Nat.le_succ _)) _).setCell (p := ⟨w.heap.size + 1, 2, none⟩) (.inr (Nat.le_succ _)) _)
    go_wp2_with fail
    refine bodyPost_ret (v := .tuple #[RV 0 0 none 0 0, .bool false]) (by simp [results, Tryd.results19, go_sem, a0, a1, a2]) rfl ?_
    exact HE.out
  | true =>
    have hok : RelOk L R ps := HBV.out.1 rfl
    have HOK := Lib.hid hok
    obtain ⟨⟨l0, l1⟩, ⟨r0, r1⟩, _, _⟩ := hok
    obtain ⟨l, rfl⟩ : ∃ l : Nat, L = l := ⟨L.toNat, by omega⟩
    obtain ⟨r, rfl⟩ : ∃ r : Nat, R = r := ⟨R.toNat, by omega⟩
    have hl2 : l ≤ 128 := by omega
    have hr2 : r ≤ 128 := by omega
    go_wp2_with fail
    have B0E : Hid (BI w w1.heap.size l r A0 ps.length c0 [] ((w1.alloc (.cells #[] 3)).alloc (.cells #[.int .i64 (r : Int), .int .i64 (l : Int), .slice (some ⟨w1.heap.size, 0, none⟩) 0 0] 25))) := by
      have hf : Fr No w1 ((w1.alloc (.cells #[] 3)).alloc (.cells #[.int .i64 (r : Int), .int .i64 (l : Int), .slice (some ⟨w1.heap.size, 0, none⟩) 0 0] 25)) := ((Fr.refl No w1).alloc _).alloc _
      exact ⟨HF1.out.trans hf, HR1.out.fr hf (fun h => h), HB1.out.fr hf (fun h => h), ⟨_, 0, 0, Blk.new_at _ _ _ (by simp), (or_new w1).no ((Fr.refl No _).alloc _)⟩, by have := HB1.out.lt; omega⟩
    generalize ((w1.alloc (.cells #[] 3)).alloc (.cells #[.int .i64 (r : Int), .int .i64 (l : Int), .slice (some ⟨w1.heap.size, 0, none⟩) 0 0] 25)) = W2 at B0E ⊢
    generalize w1.heap.size = B0 at B0E ⊢
    clear d0 d1 d2 a0 a1 a2 f0 f1 f2 HF1 HR1 HB1 HBV
    go_loopw [5] (fun u wr => ∃ (j : Nat), j ≤ r ∧ u = .int .i64 j ∧ BI w B0 l r A0 ps.length c0 (pairsOf j l (fun j i => memR r ps i j)) wr) (fun u _ => r - (intOf u).toNat)
    case atStart => exact ⟨0, Nat.zero_le _, rfl, B0E.out⟩
    case round =>
      obtain ⟨j, hj, rfl, hbi⟩ := hrel
      have HBI := Lib.hid hbi
      have b0 : wr.cell? ⟨w.heap.size, 0, none⟩ = some (.int .i64 l) := (hbi.rb.cell 0).trans rfl
      have b1 : wr.cell? ⟨w.heap.size, 1, none⟩ = some (.int .i64 r) := (hbi.rb.cell 1).trans rfl
      clear hbi B0E
      by_cases hlt : j < r
      · have hjI : (j : Int) < (r : Int) := by omega
        go_wp2_with fail
        have START : Hid (BI w B0 l r A0 ps.length c0 (pairsOf j l (fun j i => memR r ps i j) ++ (elems 0 (fun i => memR r ps i j)).map (j * l + ·)) wr) := by
          have h := HBI.out
          show BI _ _ _ _ _ _ _ _ _
          simpa [elems] using h
        clear b0 b1 HBI
        go_loopw [6] (fun u w3 => ∃ (i : Nat), i ≤ l ∧ u = .int .i64 i ∧ BI w B0 l r A0 ps.length c0 (pairsOf j l (fun j i => memR r ps i j) ++ (elems i (fun i => memR r ps i j)).map (j * l + ·)) w3) (fun u _ => l - (intOf u).toNat)
        case atStart => exact ⟨0, Nat.zero_le _, rfl, START.out⟩
        case round =>
          obtain ⟨i, hi, rfl, hbi⟩ := hrel
          have HBI := Lib.hid hbi
          have b0 : wr.cell? ⟨w.heap.size, 0, none⟩ = some (.int .i64 l) := (hbi.rb.cell 0).trans rfl
          have b1 : wr.cell? ⟨w.heap.size, 1, none⟩ = some (.int .i64 r) := (hbi.rb.cell 1).trans rfl
          have b2 : wr.cell? ⟨w.heap.size, 2, none⟩ = some (.slice A0 ps.length c0) := (hbi.rb.cell 2).trans rfl
          clear hbi START
          by_cases hlt2 : i < l
          · have hiI : (i : Int) < (l : Int) := by omega
            have CALL : Hid (Calls Tryd.prog 33 #[RV l r A0 ps.length c0, .int .i64 i, .int .i64 j] wr fun e w' => e = .returned (.bool (memR r ps i j)) ∧ Fr No wr w') := HAS.out wr l r i j HBI.out.fr HOK.out hlt2 hlt
            go_wp2_with fail
            refine CALL.out.mono ?_
            rintro e w4 ⟨rfl, hf4⟩
            have HB4 := Lib.hid (HBI.out.step hf4)
            clear hf4 CALL HBI b0 b1 b2
            cases hm : memR r ps i j with
            | false =>
              have HN : Hid (BI w B0 l r A0 ps.length c0 (pairsOf j l (fun j i => memR r ps i j) ++ (elems (i + 1) (fun i => memR r ps i j)).map (j * l + ·)) w4) := by
                have h := HB4.out
                show BI _ _ _ _ _ _ _ _ _
                rw [elems_more, hm]
                simpa using h
              clear hm HB4
              go_wp2_with fail
              go_roundw
              case rel => exact ⟨i + 1, by omega, by go_num, HN.out⟩
              case measure => simp [intOf]; omega
            | true =>
              obtain ⟨A, m, c, hbx, hor⟩ := HB4.out.bx
              have b0 : w4.cell? ⟨w.heap.size, 0, none⟩ = some (.int .i64 l) := (HB4.out.rb.cell 0).trans rfl
              have c2 : w4.cell? ⟨B0 + 1, 2, none⟩ = some (.slice A m c) := (hbx.cell 2).trans rfl
              have hfz : w4.frozen? ⟨B0 + 1, 2, none⟩ = false := hbx.frozen 2
              have hlb := hbx.lt
              have HM := Lib.hid hm
              have hown := hor.2
              have hml : m + 1 ≤ 100000 := by
                have h1 := hor.1
                have h2 := pairsOf_len j l (fun j i => memR r ps i j)
                have h3 : j * l ≤ 128 * 128 := Nat.mul_le_mul (by omega) hl2
                have h4 := elems_len i (fun i => memR r ps i j)
                simp at h1
                omega
              have hp0 : 0 ≤ (j : Int) * (l : Int) := by rw [← Int.natCast_mul]; omega
              have hp1 : (j : Int) * (l : Int) ≤ 16384 := by
                have h := Nat.mul_le_mul (show j ≤ 128 by omega) hl2
                rw [← Int.natCast_mul]; omega
              have hw1 : IntKind.i64.wrap ((j : Int) * (l : Int)) = (j : Int) * (l : Int) := IntWalk.i64_in _ (by omega)
              have hw2 : IntKind.i64.wrap ((j : Int) * (l : Int) + (i : Int)) = (j : Int) * (l : Int) + (i : Int) := IntWalk.i64_in _ (by omega)
              have ARM : Hid (∀ (v' : Value) (w1 : World), w1.ownsRow B0 3 1 v' (m + 1) ((((pairsOf j l (fun j i => memR r ps i j) ++ (elems i (fun i => memR r ps i j)).map (j * l + ·)).map Int.ofNat).map (Value.int .i64)) ++ [.int .i64 ((j : Int) * (l : Int) + (i : Int))]) → (w4.alloc (.cells #[.int .i64 ((j : Int) * (l : Int) + (i : Int))] 3)).grownBy w1 (Value.slice A m c).ownBlock →
                  ∃ g' cap', v' = .slice (some ⟨g', 0, none⟩) (m + 1) cap' ∧ w1.cell? ⟨B0 + 1, 2, none⟩ = some (.slice A m c) ∧ w1.frozen? ⟨B0 + 1, 2, none⟩ = false ∧ B0 + 1 < w1.heap.size ∧
                  Hid (BI w B0 l r A0 ps.length c0 (pairsOf j l (fun j i => memR r ps i j) ++ (elems (i + 1) (fun i => memR r ps i j)).map (j * l + ·)) (w1.setCell ⟨B0 + 1, 2, none⟩ (.slice (some ⟨g', 0, none⟩) (m + 1) cap')))) := by
                intro v' w1 ho hg
                obtain ⟨g', cap', rfl⟩ := ownsRow_succ ho
                obtain ⟨h1, h2, h3, h4⟩ := app_fin hbx hor ((Fr.refl No w4).alloc _) ho hg
                have hlo := HB4.out.lo
                have hB : ∀ b, Own A b ∨ b = B0 + 1 → B0 ≤ b := fun b hb => by
                  rcases hb with hb | hb
                  · exact (hor.bounds hb).1
                  · omega
                refine ⟨g', cap', rfl, (h1.cell 2).trans rfl, h1.frozen 2, h1.lt, HB4.out.fr.then_ h2 (fun b hb h => by have := hB b h; omega), HB4.out.rb.fr h2 (fun h => by have := hB _ h; omega), HB4.out.rt.fr h2 (fun h => by have := hB _ h; omega), ⟨_, _, _, h3, ?_⟩, hlo⟩
                rw [elems_more, HM.out]
                simpa using h4
              have hsz : B0 ≤ w4.heap.size := by omega
              clear hm HM HB4 hbx hor
              go_wp2_with (at_builtin; refine wpList_append_own _ rfl _ _ 23 rfl B0 3 i0 (.int .i64 0) 1 8 Tryd.underlying23 hi0 hz0 hz1 hz2 rfl (by decide) _ _ _ rfl (hown.alloc _) ⟨w4.heap.size, 0, none⟩ 1 1 [.int .i64 ((j : Int) * (l : Int) + (i : Int))] rfl rfl (cell_one_new _ _ _) (by simp [Value.oneCell']) (by unfold maxLen; omega) (by omega) (by simp; omega) ?_; intro v' w1 hown' hgrow _; obtain ⟨g', cap', rfl, n1, n2, n3, n4⟩ := ARM.out v' w1 hown' hgrow; clear hown' hgrow)
              clear hown ARM
              go_wp2_with fail
              go_roundw
              case rel => exact ⟨i + 1, by omega, by go_num, n4.out⟩
              case measure => simp [intOf]; omega
          · have hil : i = l := by omega
            have hnlt : ¬ (i : Int) < (l : Int) := by omega
            have HN : Hid (BI w B0 l r A0 ps.length c0 (pairsOf (j + 1) l (fun j i => memR r ps i j)) wr) := by
              have h := HBI.out
              show BI _ _ _ _ _ _ _ _ _
              rw [pairsOf_succ, ← hil]
              rwa [← hil] at h
            clear hil HBI
            go_wp2_with fail
            go_roundw
            case rel => exact ⟨j + 1, by omega, by go_num, HN.out⟩
            case measure => simp [intOf]; omega
      · have hjr : j = r := by omega
        have hnlt : ¬ (j : Int) < (r : Int) := by omega
        obtain ⟨A, m, c, hbx, hor⟩ := HBI.out.bx
        have e0 : wr.cell? ⟨B0 + 1, 0, none⟩ = some (.int .i64 r) := (hbx.cell 0).trans rfl
        have e1 : wr.cell? ⟨B0 + 1, 1, none⟩ = some (.int .i64 l) := (hbx.cell 1).trans rfl
        have e2 : wr.cell? ⟨B0 + 1, 2, none⟩ = some (.slice A m c) := (hbx.cell 2).trans rfl
        have a0 : wr.cell? ⟨w.heap.size + 1, 0, none⟩ = some (.int .i64 0) := (HBI.out.rt.cell 0).trans rfl
        have a1 : wr.cell? ⟨w.heap.size + 1, 1, none⟩ = some (.int .i64 0) := (HBI.out.rt.cell 1).trans rfl
        have a2 : wr.cell? ⟨w.heap.size + 1, 2, none⟩ = some (.slice none 0 0) := (HBI.out.rt.cell 2).trans rfl
        have f0 := HBI.out.rt.frozen 0
        have f1 := HBI.out.rt.frozen 1
        have f2 := HBI.out.rt.frozen 2
        have FIN := Lib.hid (fun v0 v1 v2 => ans_store (w := w) (k := w.heap.size + 1) (Nat.le_succ _) HBI.out.fr HBI.out.rt hor (by have := HBI.out.lo; omega) v0 v1 v2)
        have HJR := Lib.hid hjr
        clear hbx hor hjr
        go_wp2_with fail
        refine bodyPost_ret (v := .tuple #[RV r l A m c, .bool true]) (by simp [results, Tryd.results19, go_sem, a0, a1, a2]) rfl ?_
        rw [backO_yes HOK.out]
        have h := (FIN.out (.int .i64 r) (.int .i64 l) (.slice A m c)).2
        rw [HJR.out] at h
        exact ⟨A, m, c, rfl, (FIN.out _ _ _).1, h⟩
end Go.Proofs.YticoeooeeejboaaDoor
