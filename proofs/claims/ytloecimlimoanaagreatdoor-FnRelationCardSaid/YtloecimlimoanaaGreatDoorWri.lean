/- Relations by their numbers. · Relations by their numbers, in the model. · Functions that range over a function inside a loop: their marks; rows beside other blocks. · A relation of bit sets is written as a list of pairs. -/
import Derived.Test.YtloecimlimoanaaGreatDoorCol
import Derived.Test.YtloecimlimoanaaGreatDoorIn6
import Derived.Test.YtloecimlimoanaaGreatDoorRfun
/- Relations by their numbers. · Relations by their numbers, in the model. -/
/- Relations by their numbers. -/
namespace Go.Proofs.YtloecimlimoanaaGreatDoor
open Go.RowKit Go.ChangeMaps

/-- a relation, and whether there is one, is returned -/
def AnsR (o : Option (Int × Int × List Int)) (w : World) (e : Ending) (w' : World) : Prop :=
  ∃ A n c, e = .returned (.tuple #[RV (o.getD (0, 0, [])).1 (o.getD (0, 0, [])).2.1 A n c, .bool o.isSome]) ∧ Fr No w w' ∧ OR w' w.heap.size A n c (o.getD (0, 0, [])).2.2

theorem AnsR.none_ {w w' : World} (hf : Fr No w w') : AnsR none w (.returned (.tuple #[RV 0 0 none 0 0, .bool false])) w' := ⟨none, 0, 0, rfl, hf, rfl, rfl, .inl ⟨rfl, rfl⟩⟩

/-- the result's cell is filled -/
theorem ans_store {w w3 : World} {k B : Nat} {A : Option Addr} {m c : Nat} {ps : List Int} {cs : Array Value} (hk : w.heap.size ≤ k) (hf : Fr No w w3) (hb : Blk w3 k 27 cs) (hor : OR w3 B A m c ps) (hB : w.heap.size ≤ B) (v0 v1 v2 : Value) :
    Fr No w (((w3.setCell ⟨k, 0, none⟩ v0).setCell ⟨k, 1, none⟩ v1).setCell ⟨k, 2, none⟩ v2) ∧ OR (((w3.setCell ⟨k, 0, none⟩ v0).setCell ⟨k, 1, none⟩ v1).setCell ⟨k, 2, none⟩ v2) w.heap.size A m c ps := by
  have hn := hor.other hb (by decide)
  have h1 : Fr (One k) w3 (((w3.setCell ⟨k, 0, none⟩ v0).setCell ⟨k, 1, none⟩ v1).setCell ⟨k, 2, none⟩ v2) := (((Fr.refl (One k) w3).setCell (p := ⟨k, 0, none⟩) (.inl rfl) _).setCell (p := ⟨k, 1, none⟩) (.inl rfl) _).setCell (p := ⟨k, 2, none⟩) (.inl rfl) _
  refine ⟨hf.then_ h1 (fun b hb h => by have h : b = k := h; omega), (hor.fr h1 (fun b ho h => ?_)).low hB⟩
  have h : b = k := h
  subst h
  exact hn ho

/-- there is a relation with this number -/
def NumOk (l r n : Int) : Prop := 1 ≤ l ∧ 1 ≤ r ∧ l * r ≤ 16 ∧ 0 ≤ n ∧ n < 2 ^ (l * r).toNat

open Classical in
noncomputable def relNumO (l r n : Int) : Option (Int × Int × List Int) := if NumOk l r n then some (l, r, (elems (l * r).toNat n.toNat.testBit).map Int.ofNat) else none

theorem relNumO_no {l r n : Int} (h : ¬ NumOk l r n) : relNumO l r n = none := if_neg h
theorem relNumO_yes {l r n : Int} (h : NumOk l r n) : relNumO l r n = some (l, r, (elems (l * r).toNat n.toNat.testBit).map Int.ofNat) := if_pos h

theorem prod_bounds {l r : Int} (hl : 1 ≤ l) (hl2 : l ≤ 128) (hr : 1 ≤ r) (hr2 : r ≤ 128) : 1 ≤ l * r ∧ l * r ≤ 16384 := by
  obtain ⟨a, rfl⟩ : ∃ a : Nat, l = a := ⟨l.toNat, by omega⟩
  obtain ⟨b, rfl⟩ : ∃ b : Nat, r = b := ⟨r.toNat, by omega⟩
  have h1 := Nat.mul_le_mul (show a ≤ 128 by omega) (show b ≤ 128 by omega)
  have h2 := Nat.mul_le_mul (show 1 ≤ a by omega) (show 1 ≤ b by omega)
  rw [← Int.natCast_mul]
  omega

theorem prod_le {l r : Int} (hl : 1 ≤ l) (hr : 1 ≤ r) (h : l * r ≤ 16) : l ≤ 16 ∧ r ≤ 16 := by
  obtain ⟨a, rfl⟩ : ∃ a : Nat, l = a := ⟨l.toNat, by omega⟩
  obtain ⟨b, rfl⟩ : ∃ b : Nat, r = b := ⟨r.toNat, by omega⟩
  rw [← Int.natCast_mul] at h
  have h1 : a ≤ a * b := Nat.le_mul_of_pos_right _ (by omega)
  have h2 : b ≤ a * b := Nat.le_mul_of_pos_left _ (by omega)
  omega

theorem pow_bound {p : Nat} (h : p ≤ 16) : (1 : Int) ≤ 2 ^ p ∧ (2 : Int) ^ p ≤ 65536 := by
  have h1 : 2 ^ p ≤ 2 ^ 16 := Nat.pow_le_pow_right (by decide) h
  have h2 : 1 ≤ 2 ^ p := Nat.one_le_two_pow
  have e : ((2 : Int) ^ p) = ((2 ^ p : Nat) : Int) := by rw [Int.natCast_pow]; rfl
  rw [e]
  omega

/-- one word is the set of a small number's bits -/
theorem bits_one {N m : Nat} (h1 : 1 ≤ N) (h2 : N ≤ 16) (hm : m < 2 ^ N) : BitsIs [m] N m.testBit := by
  have hp : 2 ^ N ≤ 2 ^ 16 := Nat.pow_le_pow_right (by decide) h2
  refine ⟨by unfold nw; simp; omega, by intro x hx; have := List.mem_singleton.1 hx; omega, fun j => ?_⟩
  unfold hasW
  by_cases h64 : j < 64
  · rw [show j / 64 = 0 by omega, show j % 64 = j by omega]
    show m.testBit j = _
    by_cases hj : j < N
    · simp [hj]
    · have : m.testBit j = false := Nat.testBit_lt_two_pow (Nat.lt_of_lt_of_le hm (Nat.pow_le_pow_right (by decide) (by omega)))
      simp [hj, this]
  · have : ([m] : List Nat).getD (j / 64) 0 = 0 := by
      rw [List.getD_eq_getElem?_getD, List.getElem?_eq_none (by simp; omega)]; rfl
    rw [this]
    have hj : ¬ j < N := by omega
    simp [hj]

set_option maxRecDepth 100000 in
set_option maxHeartbeats 2000000 in
theorem implRelNumber (w : World) (l r n : Int) (hT : TZt w) :
    Calls Tryz.prog 15 #[.int .i64 l, .int .i64 r, .int .i64 n] w fun e w' => AnsR (relNumO l r n) w e w' := by
  have HT := Lib.hid hT
  have SV : Hid (∀ (W : World) (n : Int), Calls Tryz.prog 28 #[.int .i64 n] W fun e w' => e = .returned (.bool (decide (1 ≤ n ∧ n ≤ 128))) ∧ W = w') := fun W n => sideValid_any W n
  have HF0 : Hid (Fr No w (w.alloc (.cells #[.int .i64 0, .int .i64 0, .slice none 0 0] 27))) := (Fr.refl No w).alloc _
  have HB0 : Hid (Blk (w.alloc (.cells #[.int .i64 0, .int .i64 0, .slice none 0 0] 27)) w.heap.size 27 #[.int .i64 0, .int .i64 0, .slice none 0 0]) := Blk.new _ _ _
  clear hT
  by_cases hl : 1 ≤ l ∧ l ≤ 128
  · have hld : decide (1 ≤ l ∧ l ≤ 128) = true := by simpa using hl
    have HLD := Lib.hid hld
    by_cases hr : 1 ≤ r ∧ r ≤ 128
    · have hrd : decide (1 ≤ r ∧ r ≤ 128) = true := by simpa using hr
      have HRD := Lib.hid hrd
      obtain ⟨hp1, hp2⟩ := prod_bounds hl.1 hl.2 hr.1 hr.2
      have HL := Lib.hid hl
      have HR := Lib.hid hr
      by_cases hp : l * r ≤ 16
      · by_cases hn0 : 0 ≤ n
        · obtain ⟨hq1, hq2⟩ := pow_bound (p := (l * r).toNat) (by omega)
          by_cases hn : n < 2 ^ (l * r).toNat
          · have HOK : Hid (NumOk l r n) := ⟨hl.1, hr.1, hp, hn0, hn⟩
            clear hld hrd hl hr
            have hpd : decide (16 < l * r) = false := by simpa using hp
            have hn0d : decide (n < 0) = false := by simpa using hn0
            go_enter Tryz.func15, Tryz.ntmps15
            go_wp2_with fail
            refine (SV.out _ _).mono ?_
            rintro e W ⟨rfl, rfl⟩
            rw [HLD.out]
            go_wp2_with fail
            refine (SV.out _ _).mono ?_
            rintro e W ⟨rfl, rfl⟩
            rw [HRD.out]
            go_wp2_with fail
            have HFW : Hid (Fr No w ((w.alloc (.cells #[.int .i64 0, .int .i64 0, .slice none 0 0] 27)).alloc (.cells #[.int .u64 (n : Int)] 63))) := HF0.out.alloc _
            have HBR : Hid (Blk ((w.alloc (.cells #[.int .i64 0, .int .i64 0, .slice none 0 0] 27)).alloc (.cells #[.int .u64 (n : Int)] 63)) w.heap.size 27 #[.int .i64 0, .int .i64 0, .slice none 0 0]) := HB0.out.alloc _
            have HBW : Hid (Blk ((w.alloc (.cells #[.int .i64 0, .int .i64 0, .slice none 0 0] 27)).alloc (.cells #[.int .u64 (n : Int)] 63)) (w.heap.size + 1) 63 #[.int .u64 (n : Int)]) := Blk.new_at _ _ _ (by simp)
            generalize (w.alloc (.cells #[.int .i64 0, .int .i64 0, .slice none 0 0] 27)).alloc (.cells #[.int .u64 (n : Int)] 63) = W2 at *
            have HCO : Hid (Calls Tryz.prog 29 #[.func (.func 30) #[.slice (some ⟨w.heap.size + 1, 0, none⟩) 1 1] #[]] W2 fun e w' => ColP (l * r).toNat n.toNat.testBit W2 e w') := by
              have hb : Blk W2 (w.heap.size + 1) 63 (WV [n.toNat]) := by
                have : WV [n.toNat] = #[.int .u64 (n : Int)] := by unfold WV; simp; omega
                rw [this]; exact HBW.out
              have hnat : n.toNat < 2 ^ (l * r).toNat := by
                have e : ((2 : Int) ^ (l * r).toNat) = ((2 ^ (l * r).toNat : Nat) : Int) := by rw [Int.natCast_pow]; rfl
                rw [e] at hn
                omega
              have h := collect_any W2 (w.heap.size + 1) (l * r).toNat n.toNat.testBit [n.toNat] hb (bits_one (by omega) (by omega) hnat) (by omega) (HT.out.fr HFW.out (fun h => h))
              rw [show nw (l * r).toNat = 1 by unfold nw; omega] at h
              exact h
            have HSZ : Hid (w.heap.size + 1 ≤ W2.heap.size) := by have := HBW.out.lt; show _ ≤ _; omega
            refine HCO.out.mono ?_
            rintro e w3 ⟨A, m, c, rfl, hf3, hor⟩
            have hbr := HBR.out.fr hf3 (fun h => h)
            have a0 : w3.cell? ⟨w.heap.size, 0, none⟩ = some (.int .i64 0) := (hbr.cell 0).trans rfl
            have a1 : w3.cell? ⟨w.heap.size, 1, none⟩ = some (.int .i64 0) := (hbr.cell 1).trans rfl
            have a2 : w3.cell? ⟨w.heap.size, 2, none⟩ = some (.slice none 0 0) := (hbr.cell 2).trans rfl
            have f0 := hbr.frozen 0
            have f1 := hbr.frozen 1
            have f2 := hbr.frozen 2
            have FIN := Lib.hid (fun v0 v1 v2 => ans_store (Nat.le_refl w.heap.size) (HFW.out.trans hf3) hbr hor (by have := HSZ.out; omega) v0 v1 v2)
            clear hf3 hbr hor HCO HBR HBW HFW HB0 HF0
            go_wp2_with fail
            refine bodyPost_ret (v := .tuple #[RV l r A m c, .bool true]) (by simp [results, Tryz.results15, go_sem, a0, a1, a2]) rfl ?_
            rw [relNumO_yes HOK.out]
            exact ⟨A, m, c, rfl, (FIN.out _ _ _).1, (FIN.out _ _ _).2⟩
          · have HNO : Hid (relNumO l r n = none) := relNumO_no (fun h => hn h.2.2.2.2)
            have HAN := Lib.hid (AnsR.none_ HF0.out)
            have hge : 2 ^ (l * r).toNat ≤ n := by omega
            have hpd : decide (16 < l * r) = false := by simpa using hp
            have hn0d : decide (n < 0) = false := by simpa using hn0
            clear hld hrd hl hr HF0 HB0 hn
            go_enter Tryz.func15, Tryz.ntmps15
            go_wp2_with fail
            refine (SV.out _ _).mono ?_
            rintro e W ⟨rfl, rfl⟩
            rw [HLD.out]
            go_wp2_with fail
            refine (SV.out _ _).mono ?_
            rintro e W ⟨rfl, rfl⟩
            rw [HRD.out]
            go_wp2_with fail
            refine bodyPost_ret (v := .tuple #[RV 0 0 none 0 0, .bool false]) (by simp [results, Tryz.results15, go_sem]) rfl ?_
            rw [HNO.out]
            exact HAN.out
        · have HNO : Hid (relNumO l r n = none) := relNumO_no (fun h => hn0 h.2.2.2.1)
          have HAN := Lib.hid (AnsR.none_ HF0.out)
          have hpd : decide (16 < l * r) = false := by simpa using hp
          have hn0d : n < 0 := by omega
          clear hld hrd hl hr hn0 HF0 HB0
          go_enter Tryz.func15, Tryz.ntmps15
          go_wp2_with fail
          refine (SV.out _ _).mono ?_
          rintro e W ⟨rfl, rfl⟩
          rw [HLD.out]
          go_wp2_with fail
          refine (SV.out _ _).mono ?_
          rintro e W ⟨rfl, rfl⟩
          rw [HRD.out]
          go_wp2_with fail
          refine bodyPost_ret (v := .tuple #[RV 0 0 none 0 0, .bool false]) (by simp [results, Tryz.results15, go_sem]) rfl ?_
          rw [HNO.out]
          exact HAN.out
      · have HNO : Hid (relNumO l r n = none) := relNumO_no (fun h => hp h.2.2.1)
        have HAN := Lib.hid (AnsR.none_ HF0.out)
        have hpd : 16 < l * r := by omega
        clear hld hrd hl hr hp HF0 HB0
        go_enter Tryz.func15, Tryz.ntmps15
        go_wp2_with fail
        refine (SV.out _ _).mono ?_
        rintro e W ⟨rfl, rfl⟩
        rw [HLD.out]
        go_wp2_with fail
        refine (SV.out _ _).mono ?_
        rintro e W ⟨rfl, rfl⟩
        rw [HRD.out]
        go_wp2_with fail
        refine bodyPost_ret (v := .tuple #[RV 0 0 none 0 0, .bool false]) (by simp [results, Tryz.results15, go_sem]) rfl ?_
        rw [HNO.out]
        exact HAN.out
    · have HNO : Hid (relNumO l r n = none) := relNumO_no (fun h => hr ⟨h.2.1, by have := prod_le h.1 h.2.1 h.2.2.1; omega⟩)
      have HAN := Lib.hid (AnsR.none_ HF0.out)
      have hrd : decide (1 ≤ r ∧ r ≤ 128) = false := by simpa using hr
      have HRD := Lib.hid hrd
      clear hld hrd hl hr HF0 HB0
      go_enter Tryz.func15, Tryz.ntmps15
      go_wp2_with fail
      refine (SV.out _ _).mono ?_
      rintro e W ⟨rfl, rfl⟩
      rw [HLD.out]
      go_wp2_with fail
      refine (SV.out _ _).mono ?_
      rintro e W ⟨rfl, rfl⟩
      rw [HRD.out]
      go_wp2_with fail
      refine bodyPost_ret (v := .tuple #[RV 0 0 none 0 0, .bool false]) (by simp [results, Tryz.results15, go_sem]) rfl ?_
      rw [HNO.out]
      exact HAN.out
  · have HNO : Hid (relNumO l r n = none) := relNumO_no (fun h => hl ⟨h.1, by have := prod_le h.1 h.2.1 h.2.2.1; omega⟩)
    have HAN := Lib.hid (AnsR.none_ HF0.out)
    have hld : decide (1 ≤ l ∧ l ≤ 128) = false := by simpa using hl
    have HLD := Lib.hid hld
    clear hld hl HF0 HB0
    go_enter Tryz.func15, Tryz.ntmps15
    go_wp2_with fail
    refine (SV.out _ _).mono ?_
    rintro e W ⟨rfl, rfl⟩
    rw [HLD.out]
    go_wp2_with fail
    refine bodyPost_ret (v := .tuple #[RV 0 0 none 0 0, .bool false]) (by simp [results, Tryz.results15, go_sem]) rfl ?_
    rw [HNO.out]
    exact HAN.out
end Go.Proofs.YtloecimlimoanaaGreatDoor

/- Relations by their numbers, in the model. -/
namespace Go.Proofs.YtloecimlimoanaaGreatDoor
open Go.RowKit Go.ChangeMaps Go.Shelf

/-- one pair more in a relation under way -/
theorem app_fin {W W1 w1 : World} {ob B m c g' cap' : Nat} {L R x : Int} {A : Option Addr} {ps : List Int} (hob : Blk W ob 27 #[.int .i64 L, .int .i64 R, .slice A m c]) (hor : OR W B A m c ps) (hfa : Fr No W W1)
    (ho : w1.ownsRow B 3 1 (.slice (some ⟨g', 0, none⟩) (m + 1) cap') (m + 1) (ps.map (Value.int .i64) ++ [.int .i64 x])) (hg : W1.grownBy w1 (Value.slice A m c).ownBlock) :
    Blk w1 ob 27 #[.int .i64 L, .int .i64 R, .slice A m c] ∧ Fr (fun b => Own A b ∨ b = ob) W (w1.setCell ⟨ob, 2, none⟩ (.slice (some ⟨g', 0, none⟩) (m + 1) cap')) ∧
    Blk (w1.setCell ⟨ob, 2, none⟩ (.slice (some ⟨g', 0, none⟩) (m + 1) cap')) ob 27 #[.int .i64 L, .int .i64 R, .slice (some ⟨g', 0, none⟩) (m + 1) cap'] ∧
    OR (w1.setCell ⟨ob, 2, none⟩ (.slice (some ⟨g', 0, none⟩) (m + 1) cap')) B (some ⟨g', 0, none⟩) (m + 1) cap' (ps ++ [x]) := by
  have hf1 : Fr (Own A) W w1 := (hfa.mono (fun _ _ h => h.elim)).grown hg (fun k hk => .inl (by
    unfold Value.ownBlock at hk
    cases A with
    | none => cases hk
    | some a => exact ⟨a, rfl, by injection hk⟩))
  have hb1 : Blk w1 ob 27 #[.int .i64 L, .int .i64 R, .slice A m c] := hob.fr hf1 (hor.other hob (by decide))
  have hor1 : OR w1 B (some ⟨g', 0, none⟩) (m + 1) cap' (ps ++ [x]) := ⟨by rw [hor.1]; simp, by simpa using ho⟩
  refine ⟨hb1, (hf1.mono (fun _ _ h => .inl h)).setCell (p := ⟨ob, 2, none⟩) (.inl (.inr rfl)) _, hb1.set_ 2 _, hor1.fr ((Fr.refl (One ob) w1).setCell (p := ⟨ob, 2, none⟩) (.inl rfl) _) (fun b hb h => ?_)⟩
  have h : b = ob := h
  subst h
  exact hor1.other hb1 (by decide) hb

/-- a relation without pairs, under way: the result's cell, the row, the box -/
theorem start_rel (w : World) (L R : Int) : ∃ W, W = (((w.alloc (.cells #[.int .i64 0, .int .i64 0, .slice none 0 0] 27)).alloc (.cells #[] 3)).alloc (.cells #[.int .i64 L, .int .i64 R, .slice (some ⟨w.heap.size + 1, 0, none⟩) 0 0] 27)) ∧
    Fr No w W ∧ Blk W w.heap.size 27 #[.int .i64 0, .int .i64 0, .slice none 0 0] ∧ Blk W (w.heap.size + 1 + 1) 27 #[.int .i64 L, .int .i64 R, .slice (some ⟨w.heap.size + 1, 0, none⟩) 0 0] ∧ OR W (w.heap.size + 1) (some ⟨w.heap.size + 1, 0, none⟩) 0 0 [] := by
  refine ⟨_, rfl, (((Fr.refl No w).alloc _).alloc _).alloc _, ((Blk.new _ _ _).alloc _).alloc _, Blk.new_at _ _ _ (by simp), rfl, rfl, .inr ⟨_, 0, #[], rfl, Nat.le_refl _, ?_, Nat.le_refl _, Nat.zero_le _, rfl, rfl⟩⟩
  exact (Blk.new_at (w.alloc (.cells #[.int .i64 0, .int .i64 0, .slice none 0 0] 27)) 3 #[] (by simp)).alloc _

theorem elems_more (j : Nat) (P : Nat → Bool) : elems (j + 1) P = elems j P ++ (if P j then [j] else []) := by
  unfold elems
  rw [List.range_succ, List.filter_append]
  congr 1
  simp only [List.filter_cons, List.filter_nil]

theorem i64_and_one (i : Nat) (hi : i < 9223372036854775808) : bits BinOp.and IntKind.i64 (i : Int) 1 = ((i &&& 1 : Nat) : Int) := by
  have h1 : (BitVec.ofInt 64 (i : Int)).toNat = i := by
    rw [BitVec.ofInt_natCast, BitVec.toNat_ofNat]; exact Nat.mod_eq_of_lt (by omega)
  show IntKind.i64.wrap ((BitVec.ofInt 64 (i : Int) &&& BitVec.ofInt 64 1).toNat : Int) = _
  rw [BitVec.toNat_and, h1, show (BitVec.ofInt 64 1).toNat = 1 from rfl, IntKind.wrap_i64]
  have := Nat.and_le_right (n := i) (m := 1)
  omega

theorem and_one_bit (n j : Nat) : n / 2 ^ j &&& 1 = if n.testBit j then 1 else 0 := by
  rw [Nat.and_one_is_mod, Nat.testBit_eq_decide_div_mod_eq]
  have := Nat.mod_lt (n / 2 ^ j) (show 0 < 2 by decide)
  by_cases h : n / 2 ^ j % 2 = 1
  · simp [h]
  · have h0 : n / 2 ^ j % 2 = 0 := by omega
    simp [h0]

set_option maxRecDepth 100000 in
set_option maxHeartbeats 2000000 in
theorem number_any (w : World) (l r : Int) (n : Nat) (hl : 1 ≤ l) (hr : 1 ≤ r) (hp : l * r ≤ 16) (hn : n < 65536) :
    Calls Tryz.prog 22 #[.int .i64 l, .int .i64 r, .int .i64 n] w fun e w' =>
      ∃ A m c, e = .returned (RV l r A m c) ∧ Fr No w w' ∧ OR w' w.heap.size A m c ((elems (l * r).toNat n.testBit).map Int.ofNat) := by
  obtain ⟨hl16, hr16⟩ := prod_le hl hr hp
  obtain ⟨hp1, _⟩ := prod_bounds hl (by omega) hr (by omega)
  obtain ⟨N, hN⟩ : ∃ N : Nat, l * r = N := ⟨(l * r).toNat, by omega⟩
  have hN16 : N ≤ 16 := by omega
  obtain ⟨i0, hi0, hz0, hz1, hz2⟩ := info_parts info_int
  have HNN : Hid ((l * r).toNat = N) := by show _ = _; omega
  rw [HNN.out]
  go_enter Tryz.func22, Tryz.ntmps22
  go_wp2_with fail
  obtain ⟨W0, hW0, hf0, hr0, hb0, ho0⟩ := start_rel w l r
  rw [← hW0]
  have HF0 := Lib.hid hf0
  have HR0 := Lib.hid hr0
  have HB0 := Lib.hid hb0
  have HO0 := Lib.hid ho0
  have hbnd : N ≤ 100000 := by omega
  clear hW0 hf0 hr0 hb0 ho0
  go_loopw [8] (fun u wr => ∃ (j m c : Nat) (A : Option Addr), j ≤ N ∧ u = .int .i64 j ∧ Fr No w wr ∧ Blk wr w.heap.size 27 #[.int .i64 0, .int .i64 0, .slice none 0 0] ∧ Blk wr (w.heap.size + 1 + 1) 27 #[.int .i64 l, .int .i64 r, .slice A m c] ∧ OR wr (w.heap.size + 1) A m c ((elems j n.testBit).map Int.ofNat)) (fun u _ => N - (intOf u).toNat)
  case atStart => exact ⟨0, 0, 0, _, Nat.zero_le _, rfl, HF0.out, HR0.out, HB0.out, HO0.out⟩
  case round =>
    obtain ⟨j, m, c, A, hj, rfl, hfr, hres, hbx, hor⟩ := hrel
    have HF := Lib.hid hfr
    have HRS := Lib.hid hres
    have HBX := Lib.hid hbx
    have HOR := Lib.hid hor
    have c2 : wr.cell? ⟨w.heap.size + 1 + 1, 2, none⟩ = some (.slice A m c) := (hbx.cell 2).trans rfl
    by_cases hlt : j < N
    · have hjI : (j : Int) < l * r := by omega
      have hdiv : (n : Int) / 2 ^ j = ((n / 2 ^ j : Nat) : Int) := by rw [Int.natCast_ediv, Int.natCast_pow]; rfl
      have hdl : n / 2 ^ j ≤ n := Nat.div_le_self _ _
      have hand : bits BinOp.and IntKind.i64 ((n : Int) / 2 ^ j) 1 = if n.testBit j then 1 else 0 := by
        rw [hdiv, i64_and_one _ (by omega), and_one_bit]
        split <;> rfl
      have hj64 : j ≤ 64 := by omega
      have hml : m ≤ N := by
        rw [hor.1, List.length_map]
        exact Nat.le_trans (elems_len j _) hj
      have hown := hor.2
      clear hfr hres hbx hor HF0 HR0 HB0 HO0 hdiv hdl
      cases hbit : n.testBit j with
      | false =>
        rw [hbit] at hand
        have hand' : bits BinOp.and IntKind.i64 ((n : Int) / 2 ^ j) 1 = 0 := hand
        have HFIN : Hid (OR wr (w.heap.size + 1) A m c ((elems (j + 1) n.testBit).map Int.ofNat)) := by
          have h := HOR.out
          show OR _ _ _ _ _ _
          rw [elems_more, hbit]
          simpa using h
        clear hand hbit
        go_wp2_with fail
        go_roundw
        case rel => exact ⟨j + 1, m, c, A, by omega, by go_num, HF.out, HRS.out, HBX.out, HFIN.out⟩
        case measure => simp [intOf]; omega
      | true =>
        rw [hbit] at hand
        have hand' : bits BinOp.and IntKind.i64 ((n : Int) / 2 ^ j) 1 = 1 := hand
        have hfz : wr.frozen? ⟨w.heap.size + 1 + 1, 2, none⟩ = false := HBX.out.frozen 2
        have hlb := HBX.out.lt
        have HBIT := Lib.hid hbit
        have ARM : Hid (∀ (v' : Value) (w1 : World), w1.ownsRow (w.heap.size + 1) 3 1 v' (m + 1) ((((elems j n.testBit).map Int.ofNat).map (Value.int .i64)) ++ [.int .i64 (j : Int)]) → (wr.alloc (.cells #[.int .i64 (j : Int)] 3)).grownBy w1 (Value.slice A m c).ownBlock →
            ∃ g' cap', v' = .slice (some ⟨g', 0, none⟩) (m + 1) cap' ∧ w1.cell? ⟨w.heap.size + 1 + 1, 2, none⟩ = some (.slice A m c) ∧ w1.frozen? ⟨w.heap.size + 1 + 1, 2, none⟩ = false ∧ w.heap.size + 1 + 1 < w1.heap.size ∧
            Hid (Fr No w (w1.setCell ⟨w.heap.size + 1 + 1, 2, none⟩ (.slice (some ⟨g', 0, none⟩) (m + 1) cap')) ∧ Blk (w1.setCell ⟨w.heap.size + 1 + 1, 2, none⟩ (.slice (some ⟨g', 0, none⟩) (m + 1) cap')) w.heap.size 27 #[.int .i64 0, .int .i64 0, .slice none 0 0] ∧ Blk (w1.setCell ⟨w.heap.size + 1 + 1, 2, none⟩ (.slice (some ⟨g', 0, none⟩) (m + 1) cap')) (w.heap.size + 1 + 1) 27 #[.int .i64 l, .int .i64 r, .slice (some ⟨g', 0, none⟩) (m + 1) cap'] ∧ OR (w1.setCell ⟨w.heap.size + 1 + 1, 2, none⟩ (.slice (some ⟨g', 0, none⟩) (m + 1) cap')) (w.heap.size + 1) (some ⟨g', 0, none⟩) (m + 1) cap' ((elems (j + 1) n.testBit).map Int.ofNat))) := by
          intro v' w1 ho hg
          obtain ⟨g', cap', rfl⟩ := ownsRow_succ ho
          obtain ⟨h1, h2, h3, h4⟩ := app_fin HBX.out HOR.out ((Fr.refl No wr).alloc _) ho hg
          have hB : ∀ b, Own A b ∨ b = w.heap.size + 1 + 1 → w.heap.size + 1 ≤ b := fun b hb => by
            rcases hb with hb | hb
            · exact (HOR.out.bounds hb).1
            · omega
          refine ⟨g', cap', rfl, (h1.cell 2).trans rfl, h1.frozen 2, h1.lt, HF.out.then_ h2 (fun b hb h => by have := hB b h; omega), HRS.out.fr h2 (fun h => by have := hB _ h; omega), h3, ?_⟩
          rw [elems_more, HBIT.out]
          simpa using h4
        clear hand hbit
        go_wp2_with (at_builtin; refine wpList_append_own _ rfl _ _ 25 rfl (w.heap.size + 1) 3 i0 (.int .i64 0) 1 8 Tryz.underlying25 hi0 hz0 hz1 hz2 rfl (by decide) _ _ _ rfl (hown.alloc _) ⟨wr.heap.size, 0, none⟩ 1 1 [.int .i64 (j : Int)] rfl rfl (cell_one_new _ _ _) (by simp [Value.oneCell']) (by unfold maxLen; omega) (by omega) (by simp; omega) ?_; intro v' w1 hown' hgrow _; obtain ⟨g', cap', rfl, n1, n2, n3, n4⟩ := ARM.out v' w1 hown' hgrow; clear hown' hgrow)
        clear hown ARM
        go_wp2_with fail
        go_roundw
        case rel => exact ⟨j + 1, m + 1, cap', some ⟨g', 0, none⟩, by omega, by go_num, n4.out⟩
        case measure => simp [intOf]; omega
    · have hjN : j = N := by omega
      have hnlt : ¬ (j : Int) < l * r := by omega
      have c0 : wr.cell? ⟨w.heap.size + 1 + 1, 0, none⟩ = some (.int .i64 l) := (hbx.cell 0).trans rfl
      have c1 : wr.cell? ⟨w.heap.size + 1 + 1, 1, none⟩ = some (.int .i64 r) := (hbx.cell 1).trans rfl
      have a0 : wr.cell? ⟨w.heap.size, 0, none⟩ = some (.int .i64 0) := (hres.cell 0).trans rfl
      have a1 : wr.cell? ⟨w.heap.size, 1, none⟩ = some (.int .i64 0) := (hres.cell 1).trans rfl
      have a2 : wr.cell? ⟨w.heap.size, 2, none⟩ = some (.slice none 0 0) := (hres.cell 2).trans rfl
      have f0 := hres.frozen 0
      have f1 := hres.frozen 1
      have f2 := hres.frozen 2
      have FIN := Lib.hid (fun v0 v1 v2 => ans_store (Nat.le_refl w.heap.size) hfr hres hor (Nat.le_succ _) v0 v1 v2)
      have HJN := Lib.hid hjN
      clear hfr hres hbx hor HF0 HR0 HB0 HO0 hjN
      go_wp2_with fail
      refine bodyPost_ret (v := RV l r A m c) (by simp [results, Tryz.results22, go_sem, a0, a1, a2]) rfl ?_
      rw [← HJN.out]
      exact ⟨A, m, c, rfl, (FIN.out _ _ _).1, (FIN.out _ _ _).2⟩
end Go.Proofs.YtloecimlimoanaaGreatDoor

/- Functions that range over a function inside a loop: their marks; rows beside other blocks. · A relation of bit sets is written as a list of pairs. -/
/- Functions that range over a function inside a loop: their marks; rows beside other blocks. -/
namespace Go.Proofs.YtloecimlimoanaaGreatDoor
open Go.RowKit Go.ChangeMaps Go.Shelf

/-- the marks among the deferred calls -/
def marksD (Ds : List Nat) : List Deferred := Ds.map fun D => { target := .collected D, args := #[] }

theorem leaves_marks {F : Fence} {n : Nat} {P : Program} {fn : Func} {tmps : Array Value} {R : Ending → World → Prop} : ∀ (Ds : List Nat) (w : World), Ds.Nodup → (∀ D, D ∈ Ds → w.heap[D]? = some (.deferred (some []))) →
    (∀ w', Fr (fun b => b ∈ Ds) w w' → ∃ v, (results fn tmps).run P w' = .ok v w' ∧ R (.returned v) w') → LeavesInM F n P fn tmps R (marksD Ds) .returning w := by
  intro Ds
  induction Ds with
  | nil => intro w _ _ h; exact h w (Fr.refl _ _)
  | cons D Ds ih =>
    intro w hnd hd h
    rw [List.nodup_cons] at hnd
    refine ⟨by simp, .inl ⟨D, _, rfl, run_takeDeferred (hd D List.mem_cons_self), ?_⟩⟩
    refine ih _ hnd.2 (fun D' hD' => ?_) fun w' hf => ?_
    · exact (World.putObj_heap_other (by rintro rfl; exact hnd.1 hD')).trans (hd D' (List.mem_cons_of_mem _ hD'))
    · exact h w' (((Fr.putObj D _).mono (fun b _ h => by have h : b = D := h; rw [h]; exact List.mem_cons_self)).trans (hf.mono (fun b _ h => List.mem_cons_of_mem _ h)))

/-- a block that holds no integers is not a row's -/
theorem OR.notAt {w : World} {B : Nat} {A : Option Addr} {n c : Nat} {xs : List Int} (h : OR w B A n c xs) {b : Nat} {o : Obj} (hb : w.heap[b]? = some o) (ho : ∀ cs, o ≠ .cells cs 3 (0, 0)) : ¬ Own A b := by
  rintro ⟨a, rfl, rfl⟩
  rcases h.2.2 with ⟨hv, _⟩ | ⟨g, cap, cur, hv, h2, h3, _⟩
  · cases hv
  · injection hv with e1 e2 e3
    injection e1 with e1
    subst e1
    rw [hb] at h3
    injection h3 with h3
    exact ho _ h3

theorem pairsOf_len (l r : Nat) (R : Nat → Nat → Bool) : (pairsOf l r R).length ≤ l * r := by
  induction l with
  | zero => simp [pairsOf]
  | succ l ih =>
    rw [pairsOf_succ, List.length_append, List.length_map, Nat.add_one_mul]
    have := elems_len r (R l)
    omega
end Go.Proofs.YtloecimlimoanaaGreatDoor

/- A relation of bit sets is written as a list of pairs. -/
namespace Go.Proofs.YtloecimlimoanaaGreatDoor
open Go.RowKit Go.ChangeMaps Go.Shelf

attribute [local go_sem] Oper.semAt_some

def WriP (l r : Nat) (R : Nat → Nat → Bool) (w : World) (e : Ending) (w' : World) : Prop := ∃ A n c, e = .returned (RV l r A n c) ∧ Fr No w w' ∧ OR w' w.heap.size A n c ((pairsOf l r R).map Int.ofNat)

/-- what is there ahead of row i -/
structure WI (w : World) (b l r : Nat) (R : Nat → Nat → Bool) (b3 i : Nat) (Ds : List Nat) (W : World) : Prop where
  fr : Fr No w W
  pt : Blk W w.heap.size 64 #[Ptr b]
  rs : Blk W (w.heap.size + 1) 27 #[.int .i64 0, .int .i64 0, .slice none 0 0]
  bx : ∃ A n c, Blk W b3 27 #[.int .i64 l, .int .i64 r, .slice A n c] ∧ OR W w.heap.size A n c ((pairsOf i r R).map Int.ofNat)
  b3n : w.heap.size + 1 < b3
  nd : Ds.Nodup
  ds : ∀ D, D ∈ Ds → w.heap.size ≤ D ∧ W.heap[D]? = some (.deferred (some []))

/-- what came in so far in row i -/
structure WJ (w : World) (b l r : Nat) (R : Nat → Nat → Bool) (b3 b4 i : Nat) (Ds : List Nat) (D : Nat) (rec : LoopState → Option Code → Loop) (pre : List Nat) (W : World) : Prop where
  fr : Fr No w W
  pt : Blk W w.heap.size 64 #[Ptr b]
  rs : Blk W (w.heap.size + 1) 27 #[.int .i64 0, .int .i64 0, .slice none 0 0]
  bx : ∃ A n c, Blk W b3 27 #[.int .i64 l, .int .i64 r, .slice A n c] ∧ OR W w.heap.size A n c ((pairsOf i r R ++ pre.map (i * r + ·)).map Int.ofNat) ∧ ¬ Own A b4
  b4 : Blk W b4 3 #[.int .i64 i]
  lp : W.heap[D + 1]? = some (.loop (rec .ready none))
  df : W.heap[D]? = some (.deferred (some []))
  ds : ∀ D', D' ∈ Ds → W.heap[D']? = some (.deferred (some []))
  sz : D + 2 ≤ W.heap.size

theorem Blk.ne_of {W : World} {g k : Nat} {t : TypeId} {cs : Array Value} {o : Obj} (h : Blk W g t cs) (hk : W.heap[k]? = some o) (ho : ∀ cs, o ≠ .cells cs t (0, 0)) : g ≠ k := by
  rintro rfl
  unfold Blk at h
  rw [h] at hk
  injection hk with hk
  exact ho _ hk.symm

theorem wi_start {w W : World} {b l r b3 : Nat} {R : Nat → Nat → Bool} {A : Option Addr} (hf : Fr No w W) (hp : Blk W w.heap.size 64 #[Ptr b]) (hr : Blk W (w.heap.size + 1) 27 #[.int .i64 0, .int .i64 0, .slice none 0 0])
    (hb : Blk W b3 27 #[.int .i64 l, .int .i64 r, .slice A 0 0]) (ho : OR W w.heap.size A 0 0 []) (h3 : w.heap.size + 1 < b3) : WI w b l r R b3 0 [] W :=
  ⟨hf, hp, hr, ⟨A, 0, 0, hb, ho⟩, h3, by simp, fun D h => by cases h⟩

/-- a relation of bit sets that is there to be read, whatever room its rows have -/
def WRel (w : World) (b l r : Nat) (R : Nat → Nat → Bool) : Prop := ∃ (Rb cap : Nat) (gs : Nat → Nat) (cs : Array Value), Blk w b 67 #[.int .i64 r, .slice (some ⟨Rb, 0, none⟩) l cap] ∧ Blk w Rb 60 cs ∧ ∀ i, i < l → cs[i]? = some (.slice (some ⟨gs i, 0, none⟩) (nw r) (nw r)) ∧ ∃ ws, Blk w (gs i) 63 (WV ws) ∧ BitsIs ws r (R i)

theorem RelAt.wrel {w : World} {b l r B : Nat} {R : Nat → Nat → Bool} (h : RelAt w b l r B R) : WRel w b l r R := by
  obtain ⟨_, Rb, gs, hb, hr⟩ := h
  exact ⟨Rb, l, gs, _, hb, hr.rows, fun i hi => ⟨by rw [RA_at hi, if_pos hi], (hr.each i hi).2⟩⟩

end Go.Proofs.YtloecimlimoanaaGreatDoor
