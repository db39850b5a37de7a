/- RelFun of the model. -/
import Derived.Test.YtbdmlogkedpbdaaDoorRfun
import Derived.Test.YtbdmlogkedpbdaaDoorShas
namespace Go.Proofs.YtbdmlogkedpbdaaDoor
open Go.RowKit Go.ChangeMaps Go.Shelf

set_option maxRecDepth 100000 in
set_option maxHeartbeats 4000000 in
theorem specRelFun (w : World) (L R : Int) (A0 : Option Addr) (c0 : Nat) (ps : List Int) (hp : ISl w A0 ps) (hn : ps.length ≤ 2000000) :
    Calls Tryd.prog 19 #[RV L R A0 ps.length c0] w fun e w' => AnsI (funO L R ps) w e w' := by
  obtain ⟨W0, hW0, hf0, hb0, ho0⟩ : ∃ W, W = (w.alloc (.cells #[.int .i64 L, .int .i64 R, .slice A0 ps.length c0] 27)).alloc (.cells #[] 3) ∧ Fr No w W ∧ Blk W w.heap.size 27 #[.int .i64 L, .int .i64 R, .slice A0 ps.length c0] ∧ OR W (w.heap.size + 1) (some ⟨w.heap.size + 1, 0, none⟩) 0 0 [] := by
    refine ⟨_, rfl, ((Fr.refl No w).alloc _).alloc _, (Blk.new _ _ _).alloc _, ?_⟩
    have h := or_new (w.alloc (.cells #[.int .i64 L, .int .i64 R, .slice A0 ps.length c0] 27))
    simpa using h
  have HF0 := Lib.hid hf0
  have HB0 := Lib.hid hb0
  have HO0 := Lib.hid ho0
  have VAL : Hid (∀ W, Fr No w W → Calls Tryd.prog 59 #[RV L R A0 ps.length c0] W fun e w' => ValP L R ps W e w') := fun W hf => specRelValid W L R A0 c0 ps (hp.keep hf (fun _ h => h.elim)) hn
  have HP := Lib.hid hp
  obtain ⟨i0, hi0, hz0, hz1, hz2⟩ := info_parts info_int
  clear hf0 hb0 ho0 hp
  go_enter Tryd.func19, Tryd.ntmps19
  go_wp2_with fail
  rw [← hW0]
  clear hW0
  refine (VAL.out _ HF0.out).mono ?_
  rintro e w1 ⟨bv, rfl, hbv, hf1⟩
  have HBV := Lib.hid hbv
  have HF1 := Lib.hid (HF0.out.trans hf1)
  have HB1 := Lib.hid (HB0.out.fr hf1 (fun h => h))
  have HO1 := Lib.hid (HO0.out.no hf1)
  have d0 : w1.cell? ⟨w.heap.size, 0, none⟩ = some (.int .i64 L) := (HB1.out.cell 0).trans rfl
  have d1 : w1.cell? ⟨w.heap.size, 1, none⟩ = some (.int .i64 R) := (HB1.out.cell 1).trans rfl
  have d2 : w1.cell? ⟨w.heap.size, 2, none⟩ = some (.slice A0 ps.length c0) := (HB1.out.cell 2).trans rfl
  have FAIL : Hid (¬ FunOk L R ps → AnsI (funO L R ps) w (.returned (.tuple #[.slice (some ⟨w.heap.size + 1, 0, none⟩) 0 0, .bool false])) w1) := fun h => by
    rw [funO_no h]
    exact ⟨_, 0, 0, rfl, HF1.out, HO1.out.low (Nat.le_succ _)⟩
  clear hbv hf1 VAL HF0 HB0 HO0
  cases bv with
  | false =>
    have HE := FAIL.out (fun h => (HBV.out.2 h.1) |> fun h => by cases h)
    go_wp2_with fail
    go_ret2
    exact HE
  | true =>
    have hok : RelOk L R ps := HBV.out.1 rfl
    have HOK := Lib.hid hok
    obtain ⟨⟨l0, l1⟩, ⟨r0, r1⟩, _, _⟩ := hok
    obtain ⟨l, rfl⟩ : ∃ l : Nat, L = l := ⟨L.toNat, by omega⟩
    obtain ⟨r, rfl⟩ : ∃ r : Nat, R = r := ⟨R.toNat, by omega⟩
    by_cases hlen : ps.length = l
    · have hne : ((ps.length : Int) != (l : Int)) = false := by simp [hlen]
      have HLEN := Lib.hid hlen
      have hl2 : l ≤ 128 := by omega
      clear hlen FAIL
      go_wp2_with fail
      go_loopw [4, 5] (fun s u wr => ∃ (i m c : Nat) (A : Option Addr), i ≤ l ∧ u = .int .i64 i ∧ s = .slice A m c ∧ Fr No w wr ∧ Blk wr w.heap.size 27 #[.int .i64 (l : Int), .int .i64 (r : Int), .slice A0 ps.length c0] ∧ OR wr (w.heap.size + 1) A m c ((ps.take i).map (· % (r : Int))) ∧ ∀ (k : Nat) (z : Int), k < i → ps[k]? = some z → z / (r : Int) = k) (fun _ u _ => l - (intOf u).toNat)
      case atStart => exact ⟨0, 0, 0, _, Nat.zero_le _, rfl, rfl, HF1.out, HB1.out, HO1.out, fun k z hk => by omega⟩
      case round =>
        obtain ⟨i, m, c, A, hi, rfl, rfl, hfr, hbx, hor, hall⟩ := hrel
        have HFR := Lib.hid hfr
        have HBX := Lib.hid hbx
        have HOR := Lib.hid hor
        have HALL := Lib.hid hall
        have HML : Hid (m = i) := by show _ = _; rw [hor.1, List.length_map, List.length_take]; have := HLEN.out; omega
        have b0 : wr.cell? ⟨w.heap.size, 0, none⟩ = some (.int .i64 l) := (hbx.cell 0).trans rfl
        have b1 : wr.cell? ⟨w.heap.size, 1, none⟩ = some (.int .i64 r) := (hbx.cell 1).trans rfl
        have b2 : wr.cell? ⟨w.heap.size, 2, none⟩ = some (.slice A0 ps.length c0) := (hbx.cell 2).trans rfl
        clear hfr hbx hor hall d0 d1 d2
        by_cases hlt : i < l
        · have hil : i < ps.length := by rw [HLEN.out]; exact hlt
          obtain ⟨z, hz⟩ : ∃ z, ps[i]? = some z := ⟨_, List.getElem?_eq_getElem hil⟩
          obtain ⟨g, o, rfl, hc0⟩ := HP.out i z hz
          have hc : wr.cell? ⟨g, o + i, none⟩ = some (.int .i64 z) := (HFR.out.cell (p := ⟨g, o + i, none⟩) (block_lt hc0) (fun h => h)).trans hc0
          have hzb := HOK.out.bnd z (List.mem_of_getElem? hz)
          have HZ := Lib.hid hz
          have hzI : z < 16384 := by
            have h1 := Nat.mul_le_mul hl2 (show r ≤ 128 by omega)
            have h2 := hzb.2
            rw [← Int.natCast_mul] at h2
            omega
          obtain ⟨q, hq⟩ : ∃ q, q = z / (r : Int) := ⟨_, rfl⟩
          obtain ⟨x, hx⟩ : ∃ x, x = z % (r : Int) := ⟨_, rfl⟩
          have m1 : z.tdiv (r : Int) = q := by rw [hq]; exact Int.tdiv_eq_ediv_of_nonneg hzb.1
          have m2 : z.tmod (r : Int) = x := by rw [hx]; exact Int.tmod_eq_emod_of_nonneg hzb.1
          have hq0 : 0 ≤ q := by rw [hq]; exact Int.ediv_nonneg hzb.1 (by omega)
          have hq1 : q ≤ z := by rw [hq]; exact Int.ediv_le_self _ hzb.1
          have a1 : IntKind.i64.wrap q = q := IntWalk.i64_in _ (by omega)
          have HQ := Lib.hid hq
          have HX := Lib.hid hx
          have hr0 : ((r : Int) == 0) = false := beq_eq_false_iff_ne.2 (by omega)
          have hrn : ¬ r = 0 := by omega
          have hiI : (i : Int) < (ps.length : Int) := by omega
          have hm1 : m + 1 ≤ 100000 := by have := HML.out; omega
          clear hc0 hz hq hx
          by_cases he : q = (i : Int)
          · have hqn : (q != (i : Int)) = false := by simp [he]
            have HE2 := Lib.hid he
            have hown := HOR.out.2
            have hszr : w.heap.size + 1 ≤ wr.heap.size := by have := HBX.out.lt; omega
            have hW : Fr No wr wr.drew := (Fr.refl _ _).drew
            have HCE : Hid (∀ w4, Fr No w w4 → w4.cell? ⟨g, o + i, none⟩ = some (.int .i64 z)) := fun w4 hf => by
              obtain ⟨g2, o2, e, hc2⟩ := HP.out i z HZ.out
              injection e with e
              injection e with e1 e2
              subst e1 e2
              exact (hf.cell (p := ⟨g, o + i, none⟩) (block_lt hc2) (fun h => h)).trans hc2
            have ARM : Hid (∀ (g' cap' : Nat) (W1 w4 : World), Fr No wr W1 → w4.ownsRow (w.heap.size + 1) 3 1 (.slice (some ⟨g', 0, none⟩) (m + 1) cap') (m + 1) ((((ps.take i).map (· % (r : Int))).map (Value.int .i64)) ++ [.int .i64 x]) → W1.grownBy w4 (Value.slice A m c).ownBlock →
                (w4.cell? ⟨w.heap.size, 1, none⟩ = some (.int .i64 r) ∧ w4.cell? ⟨w.heap.size, 2, none⟩ = some (.slice (some ⟨g, o, none⟩) ps.length c0) ∧ w4.cell? ⟨g, o + i, none⟩ = some (.int .i64 z)) ∧ Hid (Fr No w w4 ∧ Blk w4 w.heap.size 27 #[.int .i64 (l : Int), .int .i64 (r : Int), .slice (some ⟨g, o, none⟩) ps.length c0] ∧ OR w4 (w.heap.size + 1) (some ⟨g', 0, none⟩) (m + 1) cap' ((ps.take (i + 1)).map (· % (r : Int))) ∧ ∀ (k : Nat) (z : Int), k < i + 1 → ps[k]? = some z → z / (r : Int) = k)) := by
              intro g' cap' W1 w4 hfa ho hg
              obtain ⟨g2, cap2, e, h1, h2⟩ := or_more HOR.out hfa ho hg
              injection e with e1 _ e3
              injection e1 with e1
              injection e1 with e1
              subst e1 e3
              have hff := HFR.out.then_ h1 (fun b hb h => by have := (HOR.out.bounds h).1; omega)
              have hbb := HBX.out.fr h1 (HOR.out.other HBX.out (by decide))
              refine ⟨⟨(hbb.cell 1).trans rfl, (hbb.cell 2).trans rfl, HCE.out w4 hff⟩, hff, hbb, ?_, fun k z' hk hz' => ?_⟩
              · rw [List.take_add_one, HZ.out, List.map_append]
                rw [HX.out] at h2
                exact h2
              · by_cases e : k = i
                · subst e
                  rw [HZ.out] at hz'
                  injection hz' with hz'
                  rw [← hz', ← HQ.out]
                  exact HE2.out
                · exact HALL.out k z' (by omega) hz'
            have OWN : ∀ n, World.ownsRow ((wr.drewN n).drew) (w.heap.size + 1) 3 1 (.slice A m c) m (((ps.take i).map (· % (r : Int))).map (Value.int .i64)) := fun n => hown
            have HOWN := Lib.hid OWN
            clear he OWN hown
            go_wp2_with fail
            go_quiet (fail)
            go_wp2_with fail
            have hown2 := HOWN.out nq
            have hfq : Fr No wr ((wr.drewN nq).drew) := ((Fr.refl No wr).drewN nq).drew
            have q1 : (wr.drewN nq).cell? ⟨w.heap.size, 1, none⟩ = some (.int .i64 r) := b1
            have q2 : (wr.drewN nq).cell? ⟨w.heap.size, 2, none⟩ = some (.slice (some ⟨g, o, none⟩) ps.length c0) := b2
            have q3 : (wr.drewN nq).cell? ⟨g, o + i, none⟩ = some (.int .i64 z) := hc
            have hszq : w.heap.size + 1 ≤ (wr.drewN nq).heap.size := hszr
            generalize hWq : (wr.drewN nq) = wq at *
            go_region_held3 (fun w' => w'.cell? ⟨w.heap.size, 1, none⟩ = some (.int .i64 r) ∧ w'.cell? ⟨w.heap.size, 2, none⟩ = some (.slice (some ⟨g, o, none⟩) ps.length c0) ∧ w'.cell? ⟨g, o + i, none⟩ = some (.int .i64 z)) (go_keep)
              (first | (refine step_append_lies _ (by rfl) _ _ _ (by rfl) (w.heap.size + 1) 3 i0 (.int .i64 0) 1 8 Tryd.underlying23 hi0 hz0 hz1 hz2 (by rfl) (by decide) (.slice A m c) m (((ps.take i).map (· % (r : Int))).map (Value.int .i64)) (by rfl) (hown2.alloc _) ⟨_, 0, none⟩ 1 1 [.int .i64 x] (by rfl) (by rfl) (cell_one_new _ _ _) (by simp [Value.oneCell']) (by decide) (by unfold maxLen; omega) (by omega) (by simp; omega) _ rfl ?_; intro g4 cap4 w4 hown4 hgrow4 _ hlt4; obtain ⟨⟨n1, n2, n3⟩, n4⟩ := ARM.out g4 cap4 _ w4 (hfq.alloc _) hown4 hgrow4; clear hown4 hgrow4))
            clear ARM HOWN hown2
            go_wp2_with fail
            go_roundw
            case rel => exact ⟨i + 1, m + 1, cap4, _, by omega, by go_num, rfl, n4.out⟩
            case measure => simp [intOf]; omega
          · have hqn : (q != (i : Int)) = true := by simp [he]
            have HNO : Hid (funO l r ps = none) := funO_no (fun h => he (by rw [HQ.out]; exact h.2.2 i z HZ.out))
            have HE : Hid (∀ n, AnsI none w (.returned (.tuple #[.slice (some ⟨wr.heap.size, 0, none⟩) 0 0, .bool false])) ((wr.drewN n).alloc (.cells #[] 3))) := fun n => ⟨_, 0, 0, rfl, (HFR.out.drewN n).alloc _, (or_new (wr.drewN n)).low HFR.out.size⟩
            clear he
            go_wp2_with fail
            go_quiet (fail)
            go_wp2_with fail
            go_ret2
            rw [HNO.out]
            exact HE.out nq
        · have hil : i = l := by omega
          have HE : Hid (AnsI (funO l r ps) w (.returned (.tuple #[.slice A m c, .bool true])) wr) := by
            have ho := HOR.out
            have h : FunOk l r ps := ⟨HOK.out, by rw [HLEN.out], fun k z hz => HALL.out k z (by have := (List.getElem?_eq_some_iff.1 hz).1; have := HLEN.out; omega) hz⟩
            rw [List.take_of_length_le (by have := HLEN.out; omega)] at ho
            rw [funO_yes h]
            exact ⟨A, m, c, rfl, HFR.out, ho.low (Nat.le_succ _)⟩
          have hnlt : ¬ (i : Int) < (l : Int) := by omega
          clear hil
          go_wp2_with fail
          go_ret2
          exact HE.out
    · have hne : ((ps.length : Int) != (l : Int)) = true := by simp; omega
      have HE := FAIL.out (fun h => hlen (by have := h.2.1; omega))
      clear hlen FAIL
      go_wp2_with fail
      go_ret2
      exact HE
end Go.Proofs.YtbdmlogkedpbdaaDoor
