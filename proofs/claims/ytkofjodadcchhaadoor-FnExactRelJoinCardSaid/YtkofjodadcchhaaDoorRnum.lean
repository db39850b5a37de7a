/- Relations by their numbers. -/
import Derived.Test.YtkofjodadcchhaaDoorCol
import Derived.Test.YtkofjodadcchhaaDoorIn6
namespace Go.Proofs.YtkofjodadcchhaaDoor
open Go.RowKit Go.ChangeMaps

/-- a relation, and whether there is one, is returned -/
def AnsR (o : Option (Int × Int × List Int)) (w : World) (e : Ending) (w' : World) : Prop :=
  ∃ A n c, e = .returned (.tuple #[RV (o.getD (0, 0, [])).1 (o.getD (0, 0, [])).2.1 A n c, .bool o.isSome]) ∧ Fr No w w' ∧ OR w' w.heap.size A n c (o.getD (0, 0, [])).2.2

theorem AnsR.none_ {w w' : World} (hf : Fr No w w') : AnsR none w (.returned (.tuple #[RV 0 0 none 0 0, .bool false])) w' := ⟨none, 0, 0, rfl, hf, rfl, rfl, .inl ⟨rfl, rfl⟩⟩

/-- the result's cell is filled -/
theorem ans_store {w w3 : World} {k B : Nat} {A : Option Addr} {m c : Nat} {ps : List Int} {cs : Array Value} (hk : w.heap.size ≤ k) (hf : Fr No w w3) (hb : Blk w3 k 27 cs) (hor : OR w3 B A m c ps) (hB : w.heap.size ≤ B) (v0 v1 v2 : Value) :
    Fr No w (((w3.setCell ⟨k, 0, none⟩ v0).setCell ⟨k, 1, none⟩ v1).setCell ⟨k, 2, none⟩ v2) ∧ OR (((w3.setCell ⟨k, 0, none⟩ v0).setCell ⟨k, 1, none⟩ v1).setCell ⟨k, 2, none⟩ v2) w.heap.size A m c ps := by
  have hn := hor.other hb (by decide)
  have h1 : Fr (One k) w3 (((w3.setCell ⟨k, 0, none⟩ v0).setCell ⟨k, 1, none⟩ v1).setCell ⟨k, 2, none⟩ v2) := (((Fr.refl (One k) w3).setCell (p := ⟨k, 0, none⟩) (.inl rfl) _).setCell (p := ⟨k, 1, none⟩) (.inl rfl) _).setCell (p := ⟨k, 2, none⟩) (.inl rfl) _
  refine ⟨hf.then_ h1 (fun b hb h => by have h : b = k := h; omega), (hor.fr h1 (fun b ho h => ?_)).low hB⟩
  have h : b = k := h
  subst h
  exact hn ho

/-- there is a relation with this number -/
def NumOk (l r n : Int) : Prop := 1 ≤ l ∧ 1 ≤ r ∧ l * r ≤ 16 ∧ 0 ≤ n ∧ n < 2 ^ (l * r).toNat

open Classical in
noncomputable def relNumO (l r n : Int) : Option (Int × Int × List Int) := if NumOk l r n then some (l, r, (elems (l * r).toNat n.toNat.testBit).map Int.ofNat) else none

theorem relNumO_no {l r n : Int} (h : ¬ NumOk l r n) : relNumO l r n = none := if_neg h
theorem relNumO_yes {l r n : Int} (h : NumOk l r n) : relNumO l r n = some (l, r, (elems (l * r).toNat n.toNat.testBit).map Int.ofNat) := if_pos h

theorem prod_bounds {l r : Int} (hl : 1 ≤ l) (hl2 : l ≤ 128) (hr : 1 ≤ r) (hr2 : r ≤ 128) : 1 ≤ l * r ∧ l * r ≤ 16384 := by
  obtain ⟨a, rfl⟩ : ∃ a : Nat, l = a := ⟨l.toNat, by omega⟩
  obtain ⟨b, rfl⟩ : ∃ b : Nat, r = b := ⟨r.toNat, by omega⟩
  have h1 := Nat.mul_le_mul (show a ≤ 128 by omega) (show b ≤ 128 by omega)
  have h2 := Nat.mul_le_mul (show 1 ≤ a by omega) (show 1 ≤ b by omega)
  rw [← Int.natCast_mul]
  omega

theorem prod_le {l r : Int} (hl : 1 ≤ l) (hr : 1 ≤ r) (h : l * r ≤ 16) : l ≤ 16 ∧ r ≤ 16 := by
  obtain ⟨a, rfl⟩ : ∃ a : Nat, l = a := ⟨l.toNat, by omega⟩
  obtain ⟨b, rfl⟩ : ∃ b : Nat, r = b := ⟨r.toNat, by omega⟩
  rw [← Int.natCast_mul] at h
  have h1 : a ≤ a * b := Nat.le_mul_of_pos_right _ (by omega)
  have h2 : b ≤ a * b := Nat.le_mul_of_pos_left _ (by omega)
  omega

theorem pow_bound {p : Nat} (h : p ≤ 16) : (1 : Int) ≤ 2 ^ p ∧ (2 : Int) ^ p ≤ 65536 := by
  have h1 : 2 ^ p ≤ 2 ^ 16 := Nat.pow_le_pow_right (by decide) h
  have h2 : 1 ≤ 2 ^ p := Nat.one_le_two_pow
  have e : ((2 : Int) ^ p) = ((2 ^ p : Nat) : Int) := by rw [Int.natCast_pow]; rfl
  rw [e]
  omega

/-- one word is the set of a small number's bits -/
theorem bits_one {N m : Nat} (h1 : 1 ≤ N) (h2 : N ≤ 16) (hm : m < 2 ^ N) : BitsIs [m] N m.testBit := by
  have hp : 2 ^ N ≤ 2 ^ 16 := Nat.pow_le_pow_right (by decide) h2
  refine ⟨by unfold nw; simp; omega, by intro x hx; have := List.mem_singleton.1 hx; omega, fun j => ?_⟩
  unfold hasW
  by_cases h64 : j < 64
  · rw [show j / 64 = 0 by omega, show j % 64 = j by omega]
    show m.testBit j = _
    by_cases hj : j < N
    · simp [hj]
    · have : m.testBit j = false := Nat.testBit_lt_two_pow (Nat.lt_of_lt_of_le hm (Nat.pow_le_pow_right (by decide) (by omega)))
      simp [hj, this]
  · have : ([m] : List Nat).getD (j / 64) 0 = 0 := by
      rw [List.getD_eq_getElem?_getD, List.getElem?_eq_none (by simp; omega)]; rfl
    rw [this]
    have hj : ¬ j < N := by omega
    simp [hj]

set_option maxRecDepth 100000 in
set_option maxHeartbeats 2000000 in
theorem implRelNumber (w : World) (l r n : Int) (hT : TZt w) :
    Calls Tryd.prog 37 #[.int .i64 l, .int .i64 r, .int .i64 n] w fun e w' => AnsR (relNumO l r n) w e w' := by
  have HT := Lib.hid hT
  have SV : Hid (∀ (W : World) (n : Int), Calls Tryd.prog 52 #[.int .i64 n] W fun e w' => e = .returned (.bool (decide (1 ≤ n ∧ n ≤ 128))) ∧ W = w') := fun W n => sideValid_any W n
  have HF0 : Hid (Fr No w (w.alloc (.cells #[.int .i64 0, .int .i64 0, .slice none 0 0] 27))) := (Fr.refl No w).alloc _
  have HB0 : Hid (Blk (w.alloc (.cells #[.int .i64 0, .int .i64 0, .slice none 0 0] 27)) w.heap.size 27 #[.int .i64 0, .int .i64 0, .slice none 0 0]) := Blk.new _ _ _
  clear hT
  by_cases hl : 1 ≤ l ∧ l ≤ 128
  · have hld : decide (1 ≤ l ∧ l ≤ 128) = true := by simpa using hl
    have HLD := Lib.hid hld
    by_cases hr : 1 ≤ r ∧ r ≤ 128
    · have hrd : decide (1 ≤ r ∧ r ≤ 128) = true := by simpa using hr
      have HRD := Lib.hid hrd
      obtain ⟨hp1, hp2⟩ := prod_bounds hl.1 hl.2 hr.1 hr.2
      have HL := Lib.hid hl
      have HR := Lib.hid hr
      by_cases hp : l * r ≤ 16
      · by_cases hn0 : 0 ≤ n
        · obtain ⟨hq1, hq2⟩ := pow_bound (p := (l * r).toNat) (by omega)
          by_cases hn : n < 2 ^ (l * r).toNat
          · have HOK : Hid (NumOk l r n) := ⟨hl.1, hr.1, hp, hn0, hn⟩
            clear hld hrd hl hr
            have hpd : decide (16 < l * r) = false := by simpa using hp
            have hn0d : decide (n < 0) = false := by simpa using hn0
            go_enter Tryd.func37, Tryd.ntmps37
            go_wp2_with fail
            refine (SV.out _ _).mono ?_
            rintro e W ⟨rfl, rfl⟩
            rw [HLD.out]
            go_wp2_with fail
            refine (SV.out _ _).mono ?_
            rintro e W ⟨rfl, rfl⟩
            rw [HRD.out]
            go_wp2_with fail
            have HFW : Hid (Fr No w ((w.alloc (.cells #[.int .i64 0, .int .i64 0, .slice none 0 0] 27)).alloc (.cells #[.int .u64 (n : Int)] 88))) := HF0.out.alloc _
            have HBR : Hid (Blk ((w.alloc (.cells #[.int .i64 0, .int .i64 0, .slice none 0 0] 27)).alloc (.cells #[.int .u64 (n : Int)] 88)) w.heap.size 27 #[.int .i64 0, .int .i64 0, .slice none 0 0]) := HB0.out.alloc _
            have HBW : Hid (Blk ((w.alloc (.cells #[.int .i64 0, .int .i64 0, .slice none 0 0] 27)).alloc (.cells #[.int .u64 (n : Int)] 88)) (w.heap.size + 1) 88 #[.int .u64 (n : Int)]) := Blk.new_at _ _ _ (by simp)
            generalize (w.alloc (.cells #[.int .i64 0, .int .i64 0, .slice none 0 0] 27)).alloc (.cells #[.int .u64 (n : Int)] 88) = W2 at *
            have HCO : Hid (Calls Tryd.prog 59 #[.func (.func 60) #[.slice (some ⟨w.heap.size + 1, 0, none⟩) 1 1] #[]] W2 fun e w' => ColP (l * r).toNat n.toNat.testBit W2 e w') := by
              have hb : Blk W2 (w.heap.size + 1) 88 (WV [n.toNat]) := by
                have : WV [n.toNat] = #[.int .u64 (n : Int)] := by unfold WV; simp; omega
                rw [this]; exact HBW.out
              have hnat : n.toNat < 2 ^ (l * r).toNat := by
                have e : ((2 : Int) ^ (l * r).toNat) = ((2 ^ (l * r).toNat : Nat) : Int) := by rw [Int.natCast_pow]; rfl
                rw [e] at hn
                omega
              have h := collect_any W2 (w.heap.size + 1) (l * r).toNat n.toNat.testBit [n.toNat] hb (bits_one (by omega) (by omega) hnat) (by omega) (HT.out.fr HFW.out (fun h => h))
              rw [show nw (l * r).toNat = 1 by unfold nw; omega] at h
              exact h
            have HSZ : Hid (w.heap.size + 1 ≤ W2.heap.size) := by have := HBW.out.lt; show _ ≤ _; omega
            refine HCO.out.mono ?_
            rintro e w3 ⟨A, m, c, rfl, hf3, hor⟩
            have hbr := HBR.out.fr hf3 (fun h => h)
            have a0 : w3.cell? ⟨w.heap.size, 0, none⟩ = some (.int .i64 0) := (hbr.cell 0).trans rfl
            have a1 : w3.cell? ⟨w.heap.size, 1, none⟩ = some (.int .i64 0) := (hbr.cell 1).trans rfl
            have a2 : w3.cell? ⟨w.heap.size, 2, none⟩ = some (.slice none 0 0) := (hbr.cell 2).trans rfl
            have f0 := hbr.frozen 0
            have f1 := hbr.frozen 1
            have f2 := hbr.frozen 2
            have FIN := Lib.hid (fun v0 v1 v2 => ans_store (Nat.le_refl w.heap.size) (HFW.out.trans hf3) hbr hor (by have := HSZ.out; omega) v0 v1 v2)
            clear hf3 hbr hor HCO HBR HBW HFW HB0 HF0
            go_wp2_with fail
            refine bodyPost_ret (v := .tuple #[RV l r A m c, .bool true]) (by simp [results, Tryd.results37, go_sem, a0, a1, a2]) rfl ?_
            rw [relNumO_yes HOK.out]
            exact ⟨A, m, c, rfl, (FIN.out _ _ _).1, (FIN.out _ _ _).2⟩
          · have HNO : Hid (relNumO l r n = none) := relNumO_no (fun h => hn h.2.2.2.2)
            have HAN := Lib.hid (AnsR.none_ HF0.out)
            have hge : 2 ^ (l * r).toNat ≤ n := by omega
            have hpd : decide (16 < l * r) = false := by simpa using hp
            have hn0d : decide (n < 0) = false := by simpa using hn0
            clear hld hrd hl hr HF0 HB0 hn
            go_enter Tryd.func37, Tryd.ntmps37
            go_wp2_with fail
            refine (SV.out _ _).mono ?_
            rintro e W ⟨rfl, rfl⟩
            rw [HLD.out]
            go_wp2_with fail
            refine (SV.out _ _).mono ?_
            rintro e W ⟨rfl, rfl⟩
            rw [HRD.out]
            go_wp2_with fail
            refine bodyPost_ret (v := .tuple #[RV 0 0 none 0 0, .bool false]) (by simp [results, Tryd.results37, go_sem]) rfl ?_
            rw [HNO.out]
            exact HAN.out
        · have HNO : Hid (relNumO l r n = none) := relNumO_no (fun h => hn0 h.2.2.2.1)
          have HAN := Lib.hid (AnsR.none_ HF0.out)
          have hpd : decide (16 < l * r) = false := by simpa using hp
          have hn0d : n < 0 := by omega
          clear hld hrd hl hr hn0 HF0 HB0
          go_enter Tryd.func37, Tryd.ntmps37
          go_wp2_with fail
          refine (SV.out _ _).mono ?_
          rintro e W ⟨rfl, rfl⟩
          rw [HLD.out]
          go_wp2_with fail
          refine (SV.out _ _).mono ?_
          rintro e W ⟨rfl, rfl⟩
          rw [HRD.out]
          go_wp2_with fail
          refine bodyPost_ret (v := .tuple #[RV 0 0 none 0 0, .bool false]) (by simp [results, Tryd.results37, go_sem]) rfl ?_
          rw [HNO.out]
          exact HAN.out
      · have HNO : Hid (relNumO l r n = none) := relNumO_no (fun h => hp h.2.2.1)
        have HAN := Lib.hid (AnsR.none_ HF0.out)
        have hpd : 16 < l * r := by omega
        clear hld hrd hl hr hp HF0 HB0
        go_enter Tryd.func37, Tryd.ntmps37
        go_wp2_with fail
        refine (SV.out _ _).mono ?_
        rintro e W ⟨rfl, rfl⟩
        rw [HLD.out]
        go_wp2_with fail
        refine (SV.out _ _).mono ?_
        rintro e W ⟨rfl, rfl⟩
        rw [HRD.out]
        go_wp2_with fail
        refine bodyPost_ret (v := .tuple #[RV 0 0 none 0 0, .bool false]) (by simp [results, Tryd.results37, go_sem]) rfl ?_
        rw [HNO.out]
        exact HAN.out
    · have HNO : Hid (relNumO l r n = none) := relNumO_no (fun h => hr ⟨h.2.1, by have := prod_le h.1 h.2.1 h.2.2.1; omega⟩)
      have HAN := Lib.hid (AnsR.none_ HF0.out)
      have hrd : decide (1 ≤ r ∧ r ≤ 128) = false := by simpa using hr
      have HRD := Lib.hid hrd
      clear hld hrd hl hr HF0 HB0
      go_enter Tryd.func37, Tryd.ntmps37
      go_wp2_with fail
      refine (SV.out _ _).mono ?_
      rintro e W ⟨rfl, rfl⟩
      rw [HLD.out]
      go_wp2_with fail
      refine (SV.out _ _).mono ?_
      rintro e W ⟨rfl, rfl⟩
      rw [HRD.out]
      go_wp2_with fail
      refine bodyPost_ret (v := .tuple #[RV 0 0 none 0 0, .bool false]) (by simp [results, Tryd.results37, go_sem]) rfl ?_
      rw [HNO.out]
      exact HAN.out
  · have HNO : Hid (relNumO l r n = none) := relNumO_no (fun h => hl ⟨h.1, by have := prod_le h.1 h.2.1 h.2.2.1; omega⟩)
    have HAN := Lib.hid (AnsR.none_ HF0.out)
    have hld : decide (1 ≤ l ∧ l ≤ 128) = false := by simpa using hl
    have HLD := Lib.hid hld
    clear hld hl HF0 HB0
    go_enter Tryd.func37, Tryd.ntmps37
    go_wp2_with fail
    refine (SV.out _ _).mono ?_
    rintro e W ⟨rfl, rfl⟩
    rw [HLD.out]
    go_wp2_with fail
    refine bodyPost_ret (v := .tuple #[RV 0 0 none 0 0, .bool false]) (by simp [results, Tryd.results37, go_sem]) rfl ?_
    rw [HNO.out]
    exact HAN.out
end Go.Proofs.YtkofjodadcchhaaDoor
