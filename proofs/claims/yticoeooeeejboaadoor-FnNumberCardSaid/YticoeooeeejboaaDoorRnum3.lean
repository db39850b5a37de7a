/- RelNumber of the model. -/
import Derived.Test.YticoeooeeejboaaDoorRnum
namespace Go.Proofs.YticoeooeeejboaaDoor
open Go.RowKit Go.ChangeMaps Go.Shelf

set_option maxRecDepth 100000 in
set_option maxHeartbeats 2000000 in
theorem specRelNumber (w : World) (l r n : Int) :
    Calls Tryd.prog 24 #[.int .i64 l, .int .i64 r, .int .i64 n] w fun e w' => AnsR (relNumO l r n) w e w' := by
  have IN : Hid (∀ (W : World) (a b c : Int), Calls Tryd.prog 32 #[.int .i64 a, .int .i64 b, .int .i64 c] W fun e w' => e = .returned (.bool (decide (b ≤ a ∧ a ≤ c))) ∧ W = w') := fun W a b c => in_any W a b c
  have HF0 : Hid (Fr No w (w.alloc (.cells #[.int .i64 0, .int .i64 0, .slice none 0 0] 25))) := (Fr.refl No w).alloc _
  have HB0 : Hid (Blk (w.alloc (.cells #[.int .i64 0, .int .i64 0, .slice none 0 0] 25)) w.heap.size 25 #[.int .i64 0, .int .i64 0, .slice none 0 0]) := Blk.new _ _ _
  by_cases hl : 1 ≤ l ∧ l ≤ 16
  · have hld : decide (1 ≤ l ∧ l ≤ 16) = true := by simpa using hl
    have HLD := Lib.hid hld
    by_cases hr : 1 ≤ r ∧ r ≤ 16
    · have hrd : decide (1 ≤ r ∧ r ≤ 16) = true := by simpa using hr
      have HRD := Lib.hid hrd
      obtain ⟨hp1, hp2⟩ := prod_bounds hl.1 (by omega) hr.1 (by omega)
      have HL := Lib.hid hl
      have HR := Lib.hid hr
      by_cases hp : l * r ≤ 16
      · have hpd : decide (16 < l * r) = false := by simpa using hp
        obtain ⟨hq1, hq2⟩ := pow_bound (p := (l * r).toNat) (by omega)
        by_cases hn : 0 ≤ n ∧ n ≤ 2 ^ (l * r).toNat - 1
        · have HOK : Hid (NumOk l r n) := ⟨hl.1, hr.1, hp, hn.1, by omega⟩
          have hnd : decide (0 ≤ n ∧ n ≤ 2 ^ (l * r).toNat - 1) = true := by simpa using hn
          have HND := Lib.hid hnd
          have HNN := Lib.hid hn
          obtain ⟨n', rfl⟩ : ∃ m : Nat, n = m := ⟨n.toNat, by omega⟩
          have NUM : Hid (∀ W, Calls Tryd.prog 45 #[.int .i64 l, .int .i64 r, .int .i64 n'] W fun e w' => ∃ A m c, e = .returned (RV l r A m c) ∧ Fr No W w' ∧ OR w' W.heap.size A m c ((elems (l * r).toNat n'.testBit).map Int.ofNat)) := fun W => number_any W l r n' HL.out.1 HR.out.1 hp (by omega)
          clear hld hrd hnd hl hr hn
          go_enter Tryd.func24, Tryd.ntmps24
          go_wp2_with fail
          refine (IN.out _ _ _ _).mono ?_
          rintro e W ⟨rfl, rfl⟩
          rw [HLD.out]
          go_wp2_with fail
          refine (IN.out _ _ _ _).mono ?_
          rintro e W ⟨rfl, rfl⟩
          rw [HRD.out]
          go_wp2_with fail
          refine (IN.out _ _ _ _).mono ?_
          rintro e W ⟨rfl, rfl⟩
          rw [HND.out]
          go_wp2_with fail
          generalize w.alloc (.cells #[.int .i64 0, .int .i64 0, .slice none 0 0] 25) = W2 at *
          refine (NUM.out _).mono ?_
          rintro e w3 ⟨A, m, c, rfl, hf3, hor⟩
          have hbr := HB0.out.fr hf3 (fun h => h)
          have a0 : w3.cell? ⟨w.heap.size, 0, none⟩ = some (.int .i64 0) := (hbr.cell 0).trans rfl
          have a1 : w3.cell? ⟨w.heap.size, 1, none⟩ = some (.int .i64 0) := (hbr.cell 1).trans rfl
          have a2 : w3.cell? ⟨w.heap.size, 2, none⟩ = some (.slice none 0 0) := (hbr.cell 2).trans rfl
          have f0 := hbr.frozen 0
          have f1 := hbr.frozen 1
          have f2 := hbr.frozen 2
          have FIN := Lib.hid (fun v0 v1 v2 => ans_store (Nat.le_refl w.heap.size) (HF0.out.trans hf3) hbr hor HF0.out.size v0 v1 v2)
          clear hf3 hbr hor HB0 HF0 NUM
          go_wp2_with fail
          refine bodyPost_ret (v := .tuple #[RV l r A m c, .bool true]) (by simp [results, Tryd.results24, go_sem, a0, a1, a2]) rfl ?_
          rw [relNumO_yes HOK.out]
          exact ⟨A, m, c, rfl, (FIN.out _ _ _).1, (FIN.out _ _ _).2⟩
        · have HNO : Hid (relNumO l r n = none) := relNumO_no (fun h => hn ⟨h.2.2.2.1, by have := h.2.2.2.2; omega⟩)
          have HAN := Lib.hid (AnsR.none_ HF0.out)
          have hnd : decide (0 ≤ n ∧ n ≤ 2 ^ (l * r).toNat - 1) = false := by simpa using hn
          have HND := Lib.hid hnd
          clear hld hrd hl hr hn hnd HF0 HB0
          go_enter Tryd.func24, Tryd.ntmps24
          go_wp2_with fail
          refine (IN.out _ _ _ _).mono ?_
          rintro e W ⟨rfl, rfl⟩
          rw [HLD.out]
          go_wp2_with fail
          refine (IN.out _ _ _ _).mono ?_
          rintro e W ⟨rfl, rfl⟩
          rw [HRD.out]
          go_wp2_with fail
          refine (IN.out _ _ _ _).mono ?_
          rintro e W ⟨rfl, rfl⟩
          rw [HND.out]
          go_wp2_with fail
          refine bodyPost_ret (v := .tuple #[RV 0 0 none 0 0, .bool false]) (by simp [results, Tryd.results24, go_sem]) rfl ?_
          rw [HNO.out]
          exact HAN.out
      · have HNO : Hid (relNumO l r n = none) := relNumO_no (fun h => hp h.2.2.1)
        have HAN := Lib.hid (AnsR.none_ HF0.out)
        have hpd : 16 < l * r := by omega
        clear hld hrd hl hr hp HF0 HB0
        go_enter Tryd.func24, Tryd.ntmps24
        go_wp2_with fail
        refine (IN.out _ _ _ _).mono ?_
        rintro e W ⟨rfl, rfl⟩
        rw [HLD.out]
        go_wp2_with fail
        refine (IN.out _ _ _ _).mono ?_
        rintro e W ⟨rfl, rfl⟩
        rw [HRD.out]
        go_wp2_with fail
        refine bodyPost_ret (v := .tuple #[RV 0 0 none 0 0, .bool false]) (by simp [results, Tryd.results24, go_sem]) rfl ?_
        rw [HNO.out]
        exact HAN.out
    · have HNO : Hid (relNumO l r n = none) := relNumO_no (fun h => hr (by have := prod_le h.1 h.2.1 h.2.2.1; exact ⟨h.2.1, this.2⟩))
      have HAN := Lib.hid (AnsR.none_ HF0.out)
      have hrd : decide (1 ≤ r ∧ r ≤ 16) = false := by simpa using hr
      have HRD := Lib.hid hrd
      clear hld hrd hl hr HF0 HB0
      go_enter Tryd.func24, Tryd.ntmps24
      go_wp2_with fail
      refine (IN.out _ _ _ _).mono ?_
      rintro e W ⟨rfl, rfl⟩
      rw [HLD.out]
      go_wp2_with fail
      refine (IN.out _ _ _ _).mono ?_
      rintro e W ⟨rfl, rfl⟩
      rw [HRD.out]
      go_wp2_with fail
      refine bodyPost_ret (v := .tuple #[RV 0 0 none 0 0, .bool false]) (by simp [results, Tryd.results24, go_sem]) rfl ?_
      rw [HNO.out]
      exact HAN.out
  · have HNO : Hid (relNumO l r n = none) := relNumO_no (fun h => hl (by have := prod_le h.1 h.2.1 h.2.2.1; exact ⟨h.1, this.1⟩))
    have HAN := Lib.hid (AnsR.none_ HF0.out)
    have hld : decide (1 ≤ l ∧ l ≤ 16) = false := by simpa using hl
    have HLD := Lib.hid hld
    clear hld hl HF0 HB0
    go_enter Tryd.func24, Tryd.ntmps24
    go_wp2_with fail
    refine (IN.out _ _ _ _).mono ?_
    rintro e W ⟨rfl, rfl⟩
    rw [HLD.out]
    go_wp2_with fail
    refine bodyPost_ret (v := .tuple #[RV 0 0 none 0 0, .bool false]) (by simp [results, Tryd.results24, go_sem]) rfl ?_
    rw [HNO.out]
    exact HAN.out
end Go.Proofs.YticoeooeeejboaaDoor
