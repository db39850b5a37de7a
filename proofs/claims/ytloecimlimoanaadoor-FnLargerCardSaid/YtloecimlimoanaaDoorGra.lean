/- Graphs of lists, in the model. · RelSame and RelGraph of the model. · RelGraph of the model and of the program. · RelGraph of the program. -/
import Derived.Test.YtloecimlimoanaaDoorReq
/- Graphs of lists, in the model. -/
namespace Go.Proofs.YtloecimlimoanaaDoor
open Go.RowKit Go.ChangeMaps Go.Shelf

/-- the pairs of a list's graph -/
def graphL (lst : List Int) (n : Int) (k : Nat) : List Int := (List.range k).map fun (i : Nat) => (i : Int) * n + lst.getD i 0

theorem graphL_more (lst : List Int) (n : Int) (k : Nat) : graphL lst n (k + 1) = graphL lst n k ++ [(k : Int) * n + lst.getD k 0] := by
  unfold graphL
  rw [List.range_succ, List.map_append]
  rfl

theorem graphL_len (lst : List Int) (n : Int) (k : Nat) : (graphL lst n k).length = k := by simp [graphL]

end Go.Proofs.YtloecimlimoanaaDoor

/- RelSame and RelGraph of the model. -/
namespace Go.Proofs.YtloecimlimoanaaDoor
open Go.RowKit Go.ChangeMaps Go.Shelf

theorem same_graph (m : Nat) : graphL ((List.range m).map Int.ofNat) m m = (List.range m).map fun i => ((i * m + i : Nat) : Int) := by
  unfold graphL
  refine List.map_congr_left fun i hi => ?_
  have h := List.mem_range.1 hi
  rw [List.getD_eq_getElem?_getD, List.getElem?_map, List.getElem?_range h]
  simp

/-- the result's cell holds what a call has handed back -/
theorem ret_facts {w w3 : World} (hb : Blk w3 w.heap.size 30 #[.int .i64 0, .int .i64 0, .slice none 0 0]) :
    (w3.cell? ⟨w.heap.size, 0, none⟩ = some (.int .i64 0) ∧ w3.cell? ⟨w.heap.size, 1, none⟩ = some (.int .i64 0) ∧ w3.cell? ⟨w.heap.size, 2, none⟩ = some (.slice none 0 0)) ∧ (w3.frozen? ⟨w.heap.size, 0, none⟩ = false ∧ w3.frozen? ⟨w.heap.size, 1, none⟩ = false ∧ w3.frozen? ⟨w.heap.size, 2, none⟩ = false) :=
  ⟨⟨(hb.cell 0).trans rfl, (hb.cell 1).trans rfl, (hb.cell 2).trans rfl⟩, hb.frozen 0, hb.frozen 1, hb.frozen 2⟩

end Go.Proofs.YtloecimlimoanaaDoor

/- RelGraph of the model and of the program. -/
namespace Go.Proofs.YtloecimlimoanaaDoor
open Go.RowKit Go.ChangeMaps Go.Shelf

/-- a list has a graph -/
def GraphOk (lst : List Int) (n : Int) : Prop := (1 ≤ lst.length ∧ lst.length ≤ 128) ∧ (1 ≤ n ∧ n ≤ 128) ∧ ∀ z ∈ lst, 0 ≤ z ∧ z < n

open Classical in
noncomputable def graphO (lst : List Int) (n : Int) : Option (Int × Int × List Int) := if GraphOk lst n then some ((lst.length : Int), n, graphL lst n lst.length) else none

theorem graphO_no {lst : List Int} {n : Int} (h : ¬ GraphOk lst n) : graphO lst n = none := if_neg h
theorem graphO_yes {lst : List Int} {n : Int} (h : GraphOk lst n) : graphO lst n = some ((lst.length : Int), n, graphL lst n lst.length) := if_pos h

end Go.Proofs.YtloecimlimoanaaDoor

/- RelGraph of the program. -/
namespace Go.Proofs.YtloecimlimoanaaDoor
open Go.RowKit Go.ChangeMaps Go.Shelf

theorem graph_pairs {lst : List Int} {n : Nat} (hz : ∀ z ∈ lst, 0 ≤ z ∧ z < (n : Int)) : (pairsOf lst.length n (fun i k => decide ((k : Int) = lst.getD i 0))).map Int.ofNat = graphL lst n lst.length := by
  have hg : ∀ i, i < lst.length → 0 ≤ lst.getD i 0 ∧ lst.getD i 0 < (n : Int) := fun i hi => by
    rw [List.getD_eq_getElem?_getD, List.getElem?_eq_getElem hi]
    exact hz _ (List.getElem_mem hi)
  rw [pairsOf_single (f := fun i => (lst.getD i 0).toNat) lst.length (fun i hi => elems_single (by have := hg i hi; omega) (fun j _ => decide_eq_decide.2 (by have := hg i hi; omega))), List.map_map]
  unfold graphL
  refine List.map_congr_left fun i hi => ?_
  have h := hg i (List.mem_range.1 hi)
  show ((i * n + (lst.getD i 0).toNat : Nat) : Int) = (i : Int) * (n : Int) + lst.getD i 0
  rw [Int.natCast_add, Int.natCast_mul, Int.toNat_of_nonneg h.1]

set_option maxRecDepth 100000 in
set_option maxHeartbeats 4000000 in
theorem implRelGraph (w : World) (A : Option Addr) (lst : List Int) (c : Nat) (n : Int) (hl : ISl w A lst) (hlen : lst.length ≤ 2000000) (hT : TZt w) :
    Calls Tryd.prog 33 #[.slice A lst.length c, .int .i64 n] w fun e w' => AnsR (graphO lst n) w e w' := by
  have HT := Lib.hid hT
  have SV : Hid (∀ (W : World) (n : Int), Calls Tryd.prog 68 #[.int .i64 n] W fun e w' => e = .returned (.bool (decide (1 ≤ n ∧ n ≤ 128))) ∧ W = w') := fun W n => sideValid_any W n
  have HF0 : Hid (Fr No w (w.alloc (.cells #[.int .i64 0, .int .i64 0, .slice none 0 0] 30))) := (Fr.refl No w).alloc _
  have HB0 : Hid (Blk (w.alloc (.cells #[.int .i64 0, .int .i64 0, .slice none 0 0] 30)) w.heap.size 30 #[.int .i64 0, .int .i64 0, .slice none 0 0]) := Blk.new _ _ _
  have HL := Lib.hid hl
  have hlI : (lst.length : Int) ≤ 2000000 := by omega
  clear hl hT
  by_cases hll : 1 ≤ (lst.length : Int) ∧ (lst.length : Int) ≤ 128
  · have hd1 : decide (1 ≤ (lst.length : Int) ∧ (lst.length : Int) ≤ 128) = true := by simpa using hll
    have HD1 := Lib.hid hd1
    by_cases hnn : 1 ≤ n ∧ n ≤ 128
    · have hd2 : decide (1 ≤ n ∧ n ≤ 128) = true := by simpa using hnn
      have HD2 := Lib.hid hd2
      have HLL := Lib.hid hll
      have HNN := Lib.hid hnn
      obtain ⟨k, rfl⟩ : ∃ k : Nat, n = k := ⟨n.toNat, by omega⟩
      have hk1 : 1 ≤ k := by omega
      have hk2 : k ≤ 128 := by omega
      have NEW : Hid (∀ W, Calls Tryd.prog 63 #[.int .i64 lst.length, .int .i64 k] W fun e w' => NewRel lst.length k W e w') := fun W => newBitRelation_any W lst.length k (by omega) hk1 (by omega)
      clear hd1 hd2 hll hnn
      go_enter Tryd.func33, Tryd.ntmps33
      go_wp2_with fail
      refine (SV.out _ _).mono ?_
      rintro e W ⟨rfl, rfl⟩
      rw [HD1.out]
      go_wp2_with fail
      refine (SV.out _ _).mono ?_
      rintro e W ⟨rfl, rfl⟩
      rw [HD2.out]
      go_wp2_with fail
      generalize w.alloc (.cells #[.int .i64 0, .int .i64 0, .slice none 0 0] 30) = W2 at *
      refine (NEW.out _).mono ?_
      rintro e w1 ⟨b, rfl, hf1, hB, Rb, gs, hbb, hrows⟩
      have HF1 := Lib.hid (HF0.out.trans hf1)
      have HR1 := Lib.hid (HB0.out.fr hf1 (fun h => h))
      have HBB := Lib.hid hbb
      have HROWS := Lib.hid (hrows.base HF0.out.size)
      have HBL : Hid (w.heap.size ≤ b) := Nat.le_trans HF0.out.size hB
      clear hf1 hbb hrows hB NEW HF0 HB0
      go_wp2_with fail
      go_loopw [25] (fun u wr => ∃ i : Nat, i ≤ lst.length ∧ u = .int .i64 i ∧ Fr No w wr ∧ Blk wr w.heap.size 30 #[.int .i64 0, .int .i64 0, .slice none 0 0] ∧ Blk wr b 97 #[.int .i64 k, .slice (some ⟨Rb, 0, none⟩) lst.length lst.length] ∧ RowsTo wr Rb lst.length k lst.length w.heap.size gs (fun i' j => decide (i' < i) && decide ((j : Int) = lst.getD i' 0)) ∧ ∀ z ∈ lst.take i, 0 ≤ z ∧ z < (k : Int)) (fun u _ => lst.length - (intOf u).toNat)
      case atStart => exact ⟨0, Nat.zero_le _, rfl, HF1.out, HR1.out, HBB.out, HROWS.out.congr (fun i hi j hj => by simp), by simp⟩
      case round =>
        obtain ⟨i, hi, rfl, hfr, hres, hbb, hrows, hall⟩ := hrel
        have HFR := Lib.hid hfr
        have HRS := Lib.hid hres
        have HBB2 := Lib.hid hbb
        have HROWS2 := Lib.hid hrows
        have HALL := Lib.hid hall
        obtain ⟨⟨a0, a1, a2⟩, f0, f1, f2⟩ := ret_facts hres
        clear HF1 HR1 HBB HROWS hall hres
        by_cases hlt : i < lst.length
        · obtain ⟨z, hzj⟩ : ∃ z, lst[i]? = some z := ⟨_, List.getElem?_eq_getElem hlt⟩
          obtain ⟨g, o, rfl, hc0⟩ := HL.out i z hzj
          have hc : wr.cell? ⟨g, o + i, none⟩ = some (.int .i64 z) := (hfr.cell (p := ⟨g, o + i, none⟩) (block_lt hc0) (fun h => h)).trans hc0
          have HZ := Lib.hid hzj
          have hiI : (i : Int) < (lst.length : Int) := by omega
          have FAIL : Hid (¬ GraphOk lst k → AnsR (graphO lst k) w (.returned (.tuple #[RV 0 0 none 0 0, .bool false])) (((wr.setCell ⟨w.heap.size, 0, none⟩ (.int .i64 0)).setCell ⟨w.heap.size, 1, none⟩ (.int .i64 0)).setCell ⟨w.heap.size, 2, none⟩ (.slice none 0 0))) := fun h => by
            rw [graphO_no h]
            exact AnsR.none_ (((HFR.out.setCell (p := ⟨w.heap.size, 0, none⟩) (.inr (Nat.le_refl _)) _).setCell (p := ⟨w.heap.size, 1, none⟩) (.inr (Nat.le_refl _)) _).setCell (p := ⟨w.heap.size, 2, none⟩) (.inr (Nat.le_refl _)) _)
          by_cases hz0 : z < 0
          · have HEE := Lib.hid (FAIL.out (fun h => by have := h.2.2 z (List.mem_of_getElem? HZ.out); omega))
            clear hfr hbb hrows hc0 hzj FAIL
            go_wp2_with fail
            refine bodyPost_ret (v := .tuple #[RV 0 0 none 0 0, .bool false]) (by simp [results, Tryd.results33, go_sem, a0, a1, a2]) rfl ?_
            exact HEE.out
          · have hz0d : decide (z < 0) = false := by simpa using hz0
            by_cases hz1 : (k : Int) ≤ z
            · have HEE := Lib.hid (FAIL.out (fun h => by have := h.2.2 z (List.mem_of_getElem? HZ.out); omega))
              clear hfr hbb hrows hc0 hzj FAIL hz0
              go_wp2_with fail
              refine bodyPost_ret (v := .tuple #[RV 0 0 none 0 0, .bool false]) (by simp [results, Tryd.results33, go_sem, a0, a1, a2]) rfl ?_
              exact HEE.out
            · have hz1d : decide ((k : Int) ≤ z) = false := by simpa using hz1
              obtain ⟨x, rfl⟩ : ∃ x : Nat, z = x := ⟨z.toNat, by omega⟩
              have hxk : x < k := by omega
              obtain ⟨hlo, ws, hws, hbits⟩ := hrows.each i hlt
              have e1 : wr.cell? ⟨b, 1, none⟩ = some (.slice (some ⟨Rb, 0, none⟩) lst.length lst.length) := (hbb.cell 1).trans rfl
              have e2 : wr.cell? ⟨Rb, i, none⟩ = some (.slice (some ⟨gs i, 0, none⟩) (nw k) (nw k)) := by rw [hrows.rows.cell, RA_at hlt, if_pos hlt]
              have ADD : Hid (∀ m, Calls Tryd.prog 65 #[.slice (some ⟨gs i, 0, none⟩) (nw k) (nw k), .int .i64 x] (wr.drewN m) fun e w' => e = .returned (.tuple #[]) ∧ AddP (gs i) k (fun j => (decide (i < i) && decide ((j : Int) = lst.getD i 0)) || decide (j = x)) wr w') := fun m => (bsAdd_any (wr.drewN m) (gs i) ws k x _ hws hbits hxk (by omega)).mono (fun e w' h => ⟨h.1, ((Fr.refl _ wr).drewN m).trans h.2.1, h.2.2⟩)
              have ADD0 : Hid (Calls Tryd.prog 65 #[.slice (some ⟨gs i, 0, none⟩) (nw k) (nw k), .int .i64 x] wr fun e w' => e = .returned (.tuple #[]) ∧ AddP (gs i) k (fun j => (decide (i < i) && decide ((j : Int) = lst.getD i 0)) || decide (j = x)) wr w') := ADD.out 0
              have HLO := Lib.hid hlo
              clear hfr hbb hrows hws hbits hlo hc0 hzj FAIL hz0 hz1 ADD
              go_wp2_with fail
              refine ADD0.out.mono ?_
              rintro e w3 ⟨rfl, ha⟩
              obtain ⟨h5, h6⟩ := HROWS2.out.add hlt ha
              have HNX : Hid (Fr No w w3 ∧ Blk w3 w.heap.size 30 #[.int .i64 0, .int .i64 0, .slice none 0 0] ∧ Blk w3 b 97 #[.int .i64 k, .slice (some ⟨Rb, 0, none⟩) lst.length lst.length] ∧ RowsTo w3 Rb lst.length k lst.length w.heap.size gs (fun i' j => decide (i' < i + 1) && decide ((j : Int) = lst.getD i' 0)) ∧ ∀ z ∈ lst.take (i + 1), 0 ≤ z ∧ z < (k : Int)) := by
                refine ⟨HFR.out.then_ ha.1 (fun q hq h => by have h : q = gs i := h; have := HLO.out; omega), h6 _ _ _ HRS.out (by decide), h6 _ _ _ HBB2.out (by decide), h5.congr (fun i' hi' q hq => ?_), fun z' hz' => ?_⟩
                · by_cases e : i' = i
                  · subst e
                    have hg : lst.getD i' 0 = (x : Int) := by rw [List.getD_eq_getElem?_getD, HZ.out]; rfl
                    have : decide ((q : Int) = (x : Int)) = decide (q = x) := decide_eq_decide.2 (by omega)
                    rw [hg, this]
                    simp
                  · have : (i' < i + 1) = (i' < i) := by apply propext; constructor <;> intro h <;> omega
                    simp [e, this]
                · rw [List.take_add_one, HZ.out] at hz'
                  rcases List.mem_append.1 hz' with h | h
                  · exact HALL.out z' h
                  · have : z' = (x : Int) := by simpa using h
                    rw [this]; omega
              clear ha h5 h6
              go_wp2_with fail
              go_roundw
              case rel => exact ⟨i + 1, by omega, by go_num, HNX.out⟩
              case measure => simp [intOf]; omega
        · have hil : i = lst.length := by omega
          have hnlt : ¬ (i : Int) < (lst.length : Int) := by omega
          have HALL2 : Hid (∀ z ∈ lst, 0 ≤ z ∧ z < (k : Int)) := by
            have h := HALL.out
            rw [hil, List.take_length] at h
            exact h
          have HREL : Hid (RelAt wr b lst.length k w.heap.size (fun i j => decide ((j : Int) = lst.getD i 0))) := ⟨HBL.out, Rb, gs, hbb, hrows.congr (fun i' hi' j hj => by
            have : i' < i := by omega
            simp [this])⟩
          have WR := Lib.hid (written_any wr b lst.length k _ _ (by have := HLL.out; omega) hk1 hk2 HREL.out (HT.out.fr HFR.out (fun h => h)))
          have HOK : Hid (GraphOk lst k) := ⟨by have := HLL.out; omega, HNN.out, HALL2.out⟩
          clear hfr hbb hrows hil HALL
          go_wp2_with fail
          refine WR.out.mono ?_
          rintro e w4 ⟨A1, m1, c1, rfl, hf4, hor⟩
          obtain ⟨⟨b0, b1, b2⟩, g0, g1, g2⟩ := ret_facts (HRS.out.fr hf4 (fun h => h))
          have FIN := Lib.hid (fun v0 v1 v2 => ans_store (Nat.le_refl w.heap.size) (HFR.out.trans hf4) (HRS.out.fr hf4 (fun h => h)) hor HFR.out.size v0 v1 v2)
          clear hf4 hor WR
          go_wp2_with fail
          refine bodyPost_ret (v := .tuple #[RV lst.length k A1 m1 c1, .bool true]) (by simp [results, Tryd.results33, go_sem, b0, b1, b2]) rfl ?_
          rw [graphO_yes HOK.out]
          refine ⟨A1, m1, c1, rfl, (FIN.out _ _ _).1, ?_⟩
          have h := (FIN.out (.int .i64 lst.length) (.int .i64 k) (.slice A1 m1 c1)).2
          rw [graph_pairs HALL2.out] at h
          exact h
    · have hd2 : decide (1 ≤ n ∧ n ≤ 128) = false := by simpa using hnn
      have HD2 := Lib.hid hd2
      have HNO : Hid (graphO lst n = none) := graphO_no (fun h => hnn h.2.1)
      have HAN := Lib.hid (AnsR.none_ HF0.out)
      clear hd1 hd2 hll hnn HF0 HB0
      go_enter Tryd.func33, Tryd.ntmps33
      go_wp2_with fail
      refine (SV.out _ _).mono ?_
      rintro e W ⟨rfl, rfl⟩
      rw [HD1.out]
      go_wp2_with fail
      refine (SV.out _ _).mono ?_
      rintro e W ⟨rfl, rfl⟩
      rw [HD2.out]
      go_wp2_with fail
      refine bodyPost_ret (v := .tuple #[RV 0 0 none 0 0, .bool false]) (by simp [results, Tryd.results33, go_sem]) rfl ?_
      rw [HNO.out]
      exact HAN.out
  · have hd1 : decide (1 ≤ (lst.length : Int) ∧ (lst.length : Int) ≤ 128) = false := by simpa using hll
    have HD1 := Lib.hid hd1
    have HNO : Hid (graphO lst n = none) := graphO_no (fun h => hll (by have := h.1; omega))
    have HAN := Lib.hid (AnsR.none_ HF0.out)
    clear hd1 hll HF0 HB0
    go_enter Tryd.func33, Tryd.ntmps33
    go_wp2_with fail
    refine (SV.out _ _).mono ?_
    rintro e W ⟨rfl, rfl⟩
    rw [HD1.out]
    go_wp2_with fail
    refine bodyPost_ret (v := .tuple #[RV 0 0 none 0 0, .bool false]) (by simp [results, Tryd.results33, go_sem]) rfl ?_
    rw [HNO.out]
    exact HAN.out
end Go.Proofs.YtloecimlimoanaaDoor
