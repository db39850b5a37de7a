/- RelGraph of the model and of the program. -/
import Derived.Test.YtbdmlogkedpbdaaDoorGra2
namespace Go.Proofs.YtbdmlogkedpbdaaDoor
open Go.RowKit Go.ChangeMaps Go.Shelf

/-- a list has a graph -/
def GraphOk (lst : List Int) (n : Int) : Prop := (1 ≤ lst.length ∧ lst.length ≤ 128) ∧ (1 ≤ n ∧ n ≤ 128) ∧ ∀ z ∈ lst, 0 ≤ z ∧ z < n

open Classical in
noncomputable def graphO (lst : List Int) (n : Int) : Option (Int × Int × List Int) := if GraphOk lst n then some ((lst.length : Int), n, graphL lst n lst.length) else none

theorem graphO_no {lst : List Int} {n : Int} (h : ¬ GraphOk lst n) : graphO lst n = none := if_neg h
theorem graphO_yes {lst : List Int} {n : Int} (h : GraphOk lst n) : graphO lst n = some ((lst.length : Int), n, graphL lst n lst.length) := if_pos h

set_option maxRecDepth 100000 in
set_option maxHeartbeats 2000000 in
theorem specRelGraph (w : World) (A : Option Addr) (lst : List Int) (c : Nat) (n : Int) (hl : ISl w A lst) (hlen : lst.length ≤ 2000000) :
    Calls Tryd.prog 13 #[.slice A lst.length c, .int .i64 n] w fun e w' => AnsR (graphO lst n) w e w' := by
  have IN : Hid (∀ (W : World) (a b c : Int), Calls Tryd.prog 52 #[.int .i64 a, .int .i64 b, .int .i64 c] W fun e w' => e = .returned (.bool (decide (b ≤ a ∧ a ≤ c))) ∧ W = w') := fun W a b c => in_any W a b c
  have HF0 : Hid (Fr No w (w.alloc (.cells #[.int .i64 0, .int .i64 0, .slice none 0 0] 27))) := (Fr.refl No w).alloc _
  have HB0 : Hid (Blk (w.alloc (.cells #[.int .i64 0, .int .i64 0, .slice none 0 0] 27)) w.heap.size 27 #[.int .i64 0, .int .i64 0, .slice none 0 0]) := Blk.new _ _ _
  have HL := Lib.hid hl
  have hlI : (lst.length : Int) ≤ 2000000 := by omega
  obtain ⟨n1, hn1⟩ : ∃ n1, n1 = IntKind.i64.wrap (n - 1) := ⟨_, rfl⟩
  have HN1 : Hid (1 ≤ n ∧ n ≤ 128 → n1 = n - 1) := fun h => by rw [hn1]; exact IntWalk.i64_in _ (by omega)
  have hw := hn1.symm
  clear hl hn1
  go_enter Tryd.func13, Tryd.ntmps13
  go_wp2_with fail
  generalize w.alloc (.cells #[.int .i64 0, .int .i64 0, .slice none 0 0] 27) = W2 at *
  have FAIL : Hid (¬ GraphOk lst n → AnsR (graphO lst n) w (.returned (.tuple #[RV 0 0 none 0 0, .bool false])) (((W2.setCell ⟨w.heap.size, 0, none⟩ (.int .i64 0)).setCell ⟨w.heap.size, 1, none⟩ (.int .i64 0)).setCell ⟨w.heap.size, 2, none⟩ (.slice none 0 0))) := fun h => by
    rw [graphO_no h]
    exact AnsR.none_ (((HF0.out.setCell (p := ⟨w.heap.size, 0, none⟩) (.inr (Nat.le_refl _)) _).setCell (p := ⟨w.heap.size, 1, none⟩) (.inr (Nat.le_refl _)) _).setCell (p := ⟨w.heap.size, 2, none⟩) (.inr (Nat.le_refl _)) _)
  obtain ⟨⟨a0, a1, a2⟩, f0, f1, f2⟩ := ret_facts HB0.out
  go_loop [6] (fun u => ∃ j : Nat, j ≤ lst.length ∧ u = .int .i64 j ∧ ∀ z ∈ lst.take j, 0 ≤ z ∧ z ≤ n1) (fun u => lst.length - (intOf u).toNat)
  case atStart => exact ⟨0, Nat.zero_le _, rfl, by simp⟩
  case round =>
    obtain ⟨j, hj, rfl, hall⟩ := hrel
    have HALL := Lib.hid hall
    clear hall
    by_cases hlt : j < lst.length
    · obtain ⟨z, hzj⟩ : ∃ z, lst[j]? = some z := ⟨_, List.getElem?_eq_getElem hlt⟩
      obtain ⟨g, o, rfl, hc0⟩ := HL.out j z hzj
      have hc : W2.cell? ⟨g, o + j, none⟩ = some (.int .i64 z) := (HF0.out.cell (p := ⟨g, o + j, none⟩) (block_lt hc0) (fun h => h)).trans hc0
      have HZ := Lib.hid hzj
      have hjI : (j : Int) < (lst.length : Int) := by omega
      clear hc0 hzj
      by_cases hin : 0 ≤ z ∧ z ≤ n1
      · have hd : decide (0 ≤ z ∧ z ≤ n1) = true := by simpa using hin
        have HD := Lib.hid hd
        have HIN := Lib.hid hin
        clear hd hin
        go_wp2_with fail
        refine (IN.out _ _ _ _).mono ?_
        rintro e W ⟨rfl, rfl⟩
        rw [HD.out]
        go_wp2_with fail
        go_round
        case rel =>
          refine ⟨j + 1, by omega, by go_num, fun z' hz' => ?_⟩
          rw [List.take_add_one, HZ.out] at hz'
          rcases List.mem_append.1 hz' with h | h
          · exact HALL.out z' h
          · have : z' = z := by simpa using h
            rw [this]; exact HIN.out
        case measure => simp [intOf]; omega
      · have hd : decide (0 ≤ z ∧ z ≤ n1) = false := by simpa using hin
        have HD := Lib.hid hd
        have HE := FAIL.out (fun h => hin (by have h1 := h.2.2 z (List.mem_of_getElem? HZ.out); have h2 := HN1.out h.2.1; omega))
        have HEE := Lib.hid HE
        clear hd hin HE
        go_wp2_with fail
        refine (IN.out _ _ _ _).mono ?_
        rintro e W ⟨rfl, rfl⟩
        rw [HD.out]
        go_wp2_with fail
        refine bodyPost_ret (v := .tuple #[RV 0 0 none 0 0, .bool false]) (by simp [results, Tryd.results13, go_sem, a0, a1, a2]) rfl ?_
        exact HEE.out
    · have hjl : j = lst.length := by omega
      have HJA : Hid (∀ z ∈ lst, 0 ≤ z ∧ z ≤ n1) := by
        have h := HALL.out
        rw [hjl, List.take_length] at h
        exact h
      have hnlt : ¬ (j : Int) < (lst.length : Int) := by omega
      clear hjl HALL
      by_cases hll : 1 ≤ (lst.length : Int) ∧ (lst.length : Int) ≤ 128
      · have hd1 : decide (1 ≤ (lst.length : Int) ∧ (lst.length : Int) ≤ 128) = true := by simpa using hll
        have HD1 := Lib.hid hd1
        by_cases hnn : 1 ≤ n ∧ n ≤ 128
        · have hd2 : decide (1 ≤ n ∧ n ≤ 128) = true := by simpa using hnn
          have HD2 := Lib.hid hd2
          have hok : GraphOk lst n := ⟨by omega, hnn, fun z hz => by have h1 := HJA.out z hz; have h2 := HN1.out hnn; omega⟩
          have HOK := Lib.hid hok
          have GR := Lib.hid (graph6_any W2 A lst c n (HL.out.keep HF0.out (fun _ h => h.elim)) (by omega) hnn.1 hnn.2 hok.2.2)
          clear hd1 hd2 hll hnn hok
          go_wp2_with fail
          refine (IN.out _ _ _ _).mono ?_
          rintro e W ⟨rfl, rfl⟩
          rw [HD1.out]
          go_wp2_with fail
          refine (IN.out _ _ _ _).mono ?_
          rintro e W ⟨rfl, rfl⟩
          rw [HD2.out]
          go_wp2_with fail
          refine GR.out.mono ?_
          rintro e w3 ⟨A1, m1, c1, rfl, hf3, hor3⟩
          obtain ⟨⟨b0, b1, b2⟩, g0, g1, g2⟩ := ret_facts (HB0.out.fr hf3 (fun h => h))
          have FIN := Lib.hid (fun v0 v1 v2 => ans_store (Nat.le_refl w.heap.size) (HF0.out.trans hf3) (HB0.out.fr hf3 (fun h => h)) hor3 HF0.out.size v0 v1 v2)
          clear hf3 hor3 GR
          go_wp2_with fail
          refine bodyPost_ret (v := .tuple #[RV lst.length n A1 m1 c1, .bool true]) (by simp [results, Tryd.results13, go_sem, b0, b1, b2]) rfl ?_
          rw [graphO_yes HOK.out]
          exact ⟨A1, m1, c1, rfl, (FIN.out _ _ _).1, (FIN.out _ _ _).2⟩
        · have hd2 : decide (1 ≤ n ∧ n ≤ 128) = false := by simpa using hnn
          have HD2 := Lib.hid hd2
          have HE := FAIL.out (fun h => hnn h.2.1)
          have HEE := Lib.hid HE
          clear hd1 hd2 hll hnn HE
          go_wp2_with fail
          refine (IN.out _ _ _ _).mono ?_
          rintro e W ⟨rfl, rfl⟩
          rw [HD1.out]
          go_wp2_with fail
          refine (IN.out _ _ _ _).mono ?_
          rintro e W ⟨rfl, rfl⟩
          rw [HD2.out]
          go_wp2_with fail
          refine bodyPost_ret (v := .tuple #[RV 0 0 none 0 0, .bool false]) (by simp [results, Tryd.results13, go_sem, a0, a1, a2]) rfl ?_
          exact HEE.out
      · have hd1 : decide (1 ≤ (lst.length : Int) ∧ (lst.length : Int) ≤ 128) = false := by simpa using hll
        have HD1 := Lib.hid hd1
        have HE := FAIL.out (fun h => hll (by have := h.1; omega))
        have HEE := Lib.hid HE
        clear hd1 hll HE
        go_wp2_with fail
        refine (IN.out _ _ _ _).mono ?_
        rintro e W ⟨rfl, rfl⟩
        rw [HD1.out]
        go_wp2_with fail
        refine bodyPost_ret (v := .tuple #[RV 0 0 none 0 0, .bool false]) (by simp [results, Tryd.results13, go_sem, a0, a1, a2]) rfl ?_
        exact HEE.out
end Go.Proofs.YtbdmlogkedpbdaaDoor
