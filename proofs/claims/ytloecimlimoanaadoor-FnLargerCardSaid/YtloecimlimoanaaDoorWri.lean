/- Relations by their numbers. · Relations by their numbers, in the model. · Functions that range over a function inside a loop: their marks; rows beside other blocks. · A relation of bit sets is written as a list of pairs. -/
import Derived.Test.YtloecimlimoanaaDoorCol
import Derived.Test.YtloecimlimoanaaDoorIn6
import Derived.Test.YtloecimlimoanaaDoorRfun
/- Relations by their numbers. · Relations by their numbers, in the model. -/
/- Relations by their numbers. -/
namespace Go.Proofs.YtloecimlimoanaaDoor
open Go.RowKit Go.ChangeMaps

/-- a relation, and whether there is one, is returned -/
def AnsR (o : Option (Int × Int × List Int)) (w : World) (e : Ending) (w' : World) : Prop :=
  ∃ A n c, e = .returned (.tuple #[RV (o.getD (0, 0, [])).1 (o.getD (0, 0, [])).2.1 A n c, .bool o.isSome]) ∧ Fr No w w' ∧ OR w' w.heap.size A n c (o.getD (0, 0, [])).2.2

theorem AnsR.none_ {w w' : World} (hf : Fr No w w') : AnsR none w (.returned (.tuple #[RV 0 0 none 0 0, .bool false])) w' := ⟨none, 0, 0, rfl, hf, rfl, rfl, .inl ⟨rfl, rfl⟩⟩

/-- the result's cell is filled -/
theorem ans_store {w w3 : World} {k B : Nat} {A : Option Addr} {m c : Nat} {ps : List Int} {cs : Array Value} (hk : w.heap.size ≤ k) (hf : Fr No w w3) (hb : Blk w3 k 30 cs) (hor : OR w3 B A m c ps) (hB : w.heap.size ≤ B) (v0 v1 v2 : Value) :
    Fr No w (((w3.setCell ⟨k, 0, none⟩ v0).setCell ⟨k, 1, none⟩ v1).setCell ⟨k, 2, none⟩ v2) ∧ OR (((w3.setCell ⟨k, 0, none⟩ v0).setCell ⟨k, 1, none⟩ v1).setCell ⟨k, 2, none⟩ v2) w.heap.size A m c ps := by
  have hn := hor.other hb (by decide)
  have h1 : Fr (One k) w3 (((w3.setCell ⟨k, 0, none⟩ v0).setCell ⟨k, 1, none⟩ v1).setCell ⟨k, 2, none⟩ v2) := (((Fr.refl (One k) w3).setCell (p := ⟨k, 0, none⟩) (.inl rfl) _).setCell (p := ⟨k, 1, none⟩) (.inl rfl) _).setCell (p := ⟨k, 2, none⟩) (.inl rfl) _
  refine ⟨hf.then_ h1 (fun b hb h => by have h : b = k := h; omega), (hor.fr h1 (fun b ho h => ?_)).low hB⟩
  have h : b = k := h
  subst h
  exact hn ho

/-- there is a relation with this number -/
def NumOk (l r n : Int) : Prop := 1 ≤ l ∧ 1 ≤ r ∧ l * r ≤ 16 ∧ 0 ≤ n ∧ n < 2 ^ (l * r).toNat

open Classical in
noncomputable def relNumO (l r n : Int) : Option (Int × Int × List Int) := if NumOk l r n then some (l, r, (elems (l * r).toNat n.toNat.testBit).map Int.ofNat) else none

theorem relNumO_no {l r n : Int} (h : ¬ NumOk l r n) : relNumO l r n = none := if_neg h
theorem relNumO_yes {l r n : Int} (h : NumOk l r n) : relNumO l r n = some (l, r, (elems (l * r).toNat n.toNat.testBit).map Int.ofNat) := if_pos h

theorem prod_bounds {l r : Int} (hl : 1 ≤ l) (hl2 : l ≤ 128) (hr : 1 ≤ r) (hr2 : r ≤ 128) : 1 ≤ l * r ∧ l * r ≤ 16384 := by
  obtain ⟨a, rfl⟩ : ∃ a : Nat, l = a := ⟨l.toNat, by omega⟩
  obtain ⟨b, rfl⟩ : ∃ b : Nat, r = b := ⟨r.toNat, by omega⟩
  have h1 := Nat.mul_le_mul (show a ≤ 128 by omega) (show b ≤ 128 by omega)
  have h2 := Nat.mul_le_mul (show 1 ≤ a by omega) (show 1 ≤ b by omega)
  rw [← Int.natCast_mul]
  omega

theorem prod_le {l r : Int} (hl : 1 ≤ l) (hr : 1 ≤ r) (h : l * r ≤ 16) : l ≤ 16 ∧ r ≤ 16 := by
  obtain ⟨a, rfl⟩ : ∃ a : Nat, l = a := ⟨l.toNat, by omega⟩
  obtain ⟨b, rfl⟩ : ∃ b : Nat, r = b := ⟨r.toNat, by omega⟩
  rw [← Int.natCast_mul] at h
  have h1 : a ≤ a * b := Nat.le_mul_of_pos_right _ (by omega)
  have h2 : b ≤ a * b := Nat.le_mul_of_pos_left _ (by omega)
  omega

theorem pow_bound {p : Nat} (h : p ≤ 16) : (1 : Int) ≤ 2 ^ p ∧ (2 : Int) ^ p ≤ 65536 := by
  have h1 : 2 ^ p ≤ 2 ^ 16 := Nat.pow_le_pow_right (by decide) h
  have h2 : 1 ≤ 2 ^ p := Nat.one_le_two_pow
  have e : ((2 : Int) ^ p) = ((2 ^ p : Nat) : Int) := by rw [Int.natCast_pow]; rfl
  rw [e]
  omega

/-- one word is the set of a small number's bits -/
theorem bits_one {N m : Nat} (h1 : 1 ≤ N) (h2 : N ≤ 16) (hm : m < 2 ^ N) : BitsIs [m] N m.testBit := by
  have hp : 2 ^ N ≤ 2 ^ 16 := Nat.pow_le_pow_right (by decide) h2
  refine ⟨by unfold nw; simp; omega, by intro x hx; have := List.mem_singleton.1 hx; omega, fun j => ?_⟩
  unfold hasW
  by_cases h64 : j < 64
  · rw [show j / 64 = 0 by omega, show j % 64 = j by omega]
    show m.testBit j = _
    by_cases hj : j < N
    · simp [hj]
    · have : m.testBit j = false := Nat.testBit_lt_two_pow (Nat.lt_of_lt_of_le hm (Nat.pow_le_pow_right (by decide) (by omega)))
      simp [hj, this]
  · have : ([m] : List Nat).getD (j / 64) 0 = 0 := by
      rw [List.getD_eq_getElem?_getD, List.getElem?_eq_none (by simp; omega)]; rfl
    rw [this]
    have hj : ¬ j < N := by omega
    simp [hj]

set_option maxRecDepth 100000 in
set_option maxHeartbeats 2000000 in
theorem implRelNumber (w : World) (l r n : Int) (hT : TZt w) :
    Calls Tryd.prog 29 #[.int .i64 l, .int .i64 r, .int .i64 n] w fun e w' => AnsR (relNumO l r n) w e w' := by
  have HT := Lib.hid hT
  have SV : Hid (∀ (W : World) (n : Int), Calls Tryd.prog 68 #[.int .i64 n] W fun e w' => e = .returned (.bool (decide (1 ≤ n ∧ n ≤ 128))) ∧ W = w') := fun W n => sideValid_any W n
  have HF0 : Hid (Fr No w (w.alloc (.cells #[.int .i64 0, .int .i64 0, .slice none 0 0] 30))) := (Fr.refl No w).alloc _
  have HB0 : Hid (Blk (w.alloc (.cells #[.int .i64 0, .int .i64 0, .slice none 0 0] 30)) w.heap.size 30 #[.int .i64 0, .int .i64 0, .slice none 0 0]) := Blk.new _ _ _
  clear hT
  by_cases hl : 1 ≤ l ∧ l ≤ 128
  · have hld : decide (1 ≤ l ∧ l ≤ 128) = true := by simpa using hl
    have HLD := Lib.hid hld
    by_cases hr : 1 ≤ r ∧ r ≤ 128
    · have hrd : decide (1 ≤ r ∧ r ≤ 128) = true := by simpa using hr
      have HRD := Lib.hid hrd
      obtain ⟨hp1, hp2⟩ := prod_bounds hl.1 hl.2 hr.1 hr.2
      have HL := Lib.hid hl
      have HR := Lib.hid hr
      by_cases hp : l * r ≤ 16
      · by_cases hn0 : 0 ≤ n
        · obtain ⟨hq1, hq2⟩ := pow_bound (p := (l * r).toNat) (by omega)
          by_cases hn : n < 2 ^ (l * r).toNat
          · have HOK : Hid (NumOk l r n) := ⟨hl.1, hr.1, hp, hn0, hn⟩
            clear hld hrd hl hr
            have hpd : decide (16 < l * r) = false := by simpa using hp
            have hn0d : decide (n < 0) = false := by simpa using hn0
            go_enter Tryd.func29, Tryd.ntmps29
            go_wp2_with fail
            refine (SV.out _ _).mono ?_
            rintro e W ⟨rfl, rfl⟩
            rw [HLD.out]
            go_wp2_with fail
            refine (SV.out _ _).mono ?_
            rintro e W ⟨rfl, rfl⟩
            rw [HRD.out]
            go_wp2_with fail
            have HFW : Hid (Fr No w ((w.alloc (.cells #[.int .i64 0, .int .i64 0, .slice none 0 0] 30)).alloc (.cells #[.int .u64 (n : Int)] 127))) := HF0.out.alloc _
            have HBR : Hid (Blk ((w.alloc (.cells #[.int .i64 0, .int .i64 0, .slice none 0 0] 30)).alloc (.cells #[.int .u64 (n : Int)] 127)) w.heap.size 30 #[.int .i64 0, .int .i64 0, .slice none 0 0]) := HB0.out.alloc _
            have HBW : Hid (Blk ((w.alloc (.cells #[.int .i64 0, .int .i64 0, .slice none 0 0] 30)).alloc (.cells #[.int .u64 (n : Int)] 127)) (w.heap.size + 1) 127 #[.int .u64 (n : Int)]) := Blk.new_at _ _ _ (by simp)
            generalize (w.alloc (.cells #[.int .i64 0, .int .i64 0, .slice none 0 0] 30)).alloc (.cells #[.int .u64 (n : Int)] 127) = W2 at *
            have HCO : Hid (Calls Tryd.prog 83 #[.func (.func 64) #[.slice (some ⟨w.heap.size + 1, 0, none⟩) 1 1] #[]] W2 fun e w' => ColP (l * r).toNat n.toNat.testBit W2 e w') := by
              have hb : Blk W2 (w.heap.size + 1) 127 (WV [n.toNat]) := by
                have : WV [n.toNat] = #[.int .u64 (n : Int)] := by unfold WV; simp; omega
                rw [this]; exact HBW.out
              have hnat : n.toNat < 2 ^ (l * r).toNat := by
                have e : ((2 : Int) ^ (l * r).toNat) = ((2 ^ (l * r).toNat : Nat) : Int) := by rw [Int.natCast_pow]; rfl
                rw [e] at hn
                omega
              have h := collect_any W2 (w.heap.size + 1) (l * r).toNat n.toNat.testBit [n.toNat] hb (bits_one (by omega) (by omega) hnat) (by omega) (HT.out.fr HFW.out (fun h => h))
              rw [show nw (l * r).toNat = 1 by unfold nw; omega] at h
              exact h
            have HSZ : Hid (w.heap.size + 1 ≤ W2.heap.size) := by have := HBW.out.lt; show _ ≤ _; omega
            refine HCO.out.mono ?_
            rintro e w3 ⟨A, m, c, rfl, hf3, hor⟩
            have hbr := HBR.out.fr hf3 (fun h => h)
            have a0 : w3.cell? ⟨w.heap.size, 0, none⟩ = some (.int .i64 0) := (hbr.cell 0).trans rfl
            have a1 : w3.cell? ⟨w.heap.size, 1, none⟩ = some (.int .i64 0) := (hbr.cell 1).trans rfl
            have a2 : w3.cell? ⟨w.heap.size, 2, none⟩ = some (.slice none 0 0) := (hbr.cell 2).trans rfl
            have f0 := hbr.frozen 0
            have f1 := hbr.frozen 1
            have f2 := hbr.frozen 2
            have FIN := Lib.hid (fun v0 v1 v2 => ans_store (Nat.le_refl w.heap.size) (HFW.out.trans hf3) hbr hor (by have := HSZ.out; omega) v0 v1 v2)
            clear hf3 hbr hor HCO HBR HBW HFW HB0 HF0
            go_wp2_with fail
            refine bodyPost_ret (v := .tuple #[RV l r A m c, .bool true]) (by simp [results, Tryd.results29, go_sem, a0, a1, a2]) rfl ?_
            rw [relNumO_yes HOK.out]
            exact ⟨A, m, c, rfl, (FIN.out _ _ _).1, (FIN.out _ _ _).2⟩
          · have HNO : Hid (relNumO l r n = none) := relNumO_no (fun h => hn h.2.2.2.2)
            have HAN := Lib.hid (AnsR.none_ HF0.out)
            have hge : 2 ^ (l * r).toNat ≤ n := by omega
            have hpd : decide (16 < l * r) = false := by simpa using hp
            have hn0d : decide (n < 0) = false := by simpa using hn0
            clear hld hrd hl hr HF0 HB0 hn
            go_enter Tryd.func29, Tryd.ntmps29
            go_wp2_with fail
            refine (SV.out _ _).mono ?_
            rintro e W ⟨rfl, rfl⟩
            rw [HLD.out]
            go_wp2_with fail
            refine (SV.out _ _).mono ?_
            rintro e W ⟨rfl, rfl⟩
            rw [HRD.out]
            go_wp2_with fail
            refine bodyPost_ret (v := .tuple #[RV 0 0 none 0 0, .bool false]) (by simp [results, Tryd.results29, go_sem]) rfl ?_
            rw [HNO.out]
            exact HAN.out
        · have HNO : Hid (relNumO l r n = none) := relNumO_no (fun h => hn0 h.2.2.2.1)
          have HAN := Lib.hid (AnsR.none_ HF0.out)
          have hpd : decide (16 < l * r) = false := by simpa using hp
          have hn0d : n < 0 := by omega
          clear hld hrd hl hr hn0 HF0 HB0
          go_enter Tryd.func29, Tryd.ntmps29
          go_wp2_with fail
          refine (SV.out _ _).mono ?_
          rintro e W ⟨rfl, rfl⟩
          rw [HLD.out]
          go_wp2_with fail
          refine (SV.out _ _).mono ?_
          rintro e W ⟨rfl, rfl⟩
          rw [HRD.out]
          go_wp2_with fail
          refine bodyPost_ret (v := .tuple #[RV 0 0 none 0 0, .bool false]) (by simp [results, Tryd.results29, go_sem]) rfl ?_
          rw [HNO.out]
          exact HAN.out
      · have HNO : Hid (relNumO l r n = none) := relNumO_no (fun h => hp h.2.2.1)
        have HAN := Lib.hid (AnsR.none_ HF0.out)
        have hpd : 16 < l * r := by omega
        clear hld hrd hl hr hp HF0 HB0
        go_enter Tryd.func29, Tryd.ntmps29
        go_wp2_with fail
        refine (SV.out _ _).mono ?_
        rintro e W ⟨rfl, rfl⟩
        rw [HLD.out]
        go_wp2_with fail
        refine (SV.out _ _).mono ?_
        rintro e W ⟨rfl, rfl⟩
        rw [HRD.out]
        go_wp2_with fail
        refine bodyPost_ret (v := .tuple #[RV 0 0 none 0 0, .bool false]) (by simp [results, Tryd.results29, go_sem]) rfl ?_
        rw [HNO.out]
        exact HAN.out
    · have HNO : Hid (relNumO l r n = none) := relNumO_no (fun h => hr ⟨h.2.1, by have := prod_le h.1 h.2.1 h.2.2.1; omega⟩)
      have HAN := Lib.hid (AnsR.none_ HF0.out)
      have hrd : decide (1 ≤ r ∧ r ≤ 128) = false := by simpa using hr
      have HRD := Lib.hid hrd
      clear hld hrd hl hr HF0 HB0
      go_enter Tryd.func29, Tryd.ntmps29
      go_wp2_with fail
      refine (SV.out _ _).mono ?_
      rintro e W ⟨rfl, rfl⟩
      rw [HLD.out]
      go_wp2_with fail
      refine (SV.out _ _).mono ?_
      rintro e W ⟨rfl, rfl⟩
      rw [HRD.out]
      go_wp2_with fail
      refine bodyPost_ret (v := .tuple #[RV 0 0 none 0 0, .bool false]) (by simp [results, Tryd.results29, go_sem]) rfl ?_
      rw [HNO.out]
      exact HAN.out
  · have HNO : Hid (relNumO l r n = none) := relNumO_no (fun h => hl ⟨h.1, by have := prod_le h.1 h.2.1 h.2.2.1; omega⟩)
    have HAN := Lib.hid (AnsR.none_ HF0.out)
    have hld : decide (1 ≤ l ∧ l ≤ 128) = false := by simpa using hl
    have HLD := Lib.hid hld
    clear hld hl HF0 HB0
    go_enter Tryd.func29, Tryd.ntmps29
    go_wp2_with fail
    refine (SV.out _ _).mono ?_
    rintro e W ⟨rfl, rfl⟩
    rw [HLD.out]
    go_wp2_with fail
    refine bodyPost_ret (v := .tuple #[RV 0 0 none 0 0, .bool false]) (by simp [results, Tryd.results29, go_sem]) rfl ?_
    rw [HNO.out]
    exact HAN.out
end Go.Proofs.YtloecimlimoanaaDoor

/- Relations by their numbers, in the model. -/
namespace Go.Proofs.YtloecimlimoanaaDoor
open Go.RowKit Go.ChangeMaps Go.Shelf

/-- one pair more in a relation under way -/
theorem app_fin {W W1 w1 : World} {ob B m c g' cap' : Nat} {L R x : Int} {A : Option Addr} {ps : List Int} (hob : Blk W ob 30 #[.int .i64 L, .int .i64 R, .slice A m c]) (hor : OR W B A m c ps) (hfa : Fr No W W1)
    (ho : w1.ownsRow B 3 1 (.slice (some ⟨g', 0, none⟩) (m + 1) cap') (m + 1) (ps.map (Value.int .i64) ++ [.int .i64 x])) (hg : W1.grownBy w1 (Value.slice A m c).ownBlock) :
    Blk w1 ob 30 #[.int .i64 L, .int .i64 R, .slice A m c] ∧ Fr (fun b => Own A b ∨ b = ob) W (w1.setCell ⟨ob, 2, none⟩ (.slice (some ⟨g', 0, none⟩) (m + 1) cap')) ∧
    Blk (w1.setCell ⟨ob, 2, none⟩ (.slice (some ⟨g', 0, none⟩) (m + 1) cap')) ob 30 #[.int .i64 L, .int .i64 R, .slice (some ⟨g', 0, none⟩) (m + 1) cap'] ∧
    OR (w1.setCell ⟨ob, 2, none⟩ (.slice (some ⟨g', 0, none⟩) (m + 1) cap')) B (some ⟨g', 0, none⟩) (m + 1) cap' (ps ++ [x]) := by
  have hf1 : Fr (Own A) W w1 := (hfa.mono (fun _ _ h => h.elim)).grown hg (fun k hk => .inl (by
    unfold Value.ownBlock at hk
    cases A with
    | none => cases hk
    | some a => exact ⟨a, rfl, by injection hk⟩))
  have hb1 : Blk w1 ob 30 #[.int .i64 L, .int .i64 R, .slice A m c] := hob.fr hf1 (hor.other hob (by decide))
  have hor1 : OR w1 B (some ⟨g', 0, none⟩) (m + 1) cap' (ps ++ [x]) := ⟨by rw [hor.1]; simp, by simpa using ho⟩
  refine ⟨hb1, (hf1.mono (fun _ _ h => .inl h)).setCell (p := ⟨ob, 2, none⟩) (.inl (.inr rfl)) _, hb1.set_ 2 _, hor1.fr ((Fr.refl (One ob) w1).setCell (p := ⟨ob, 2, none⟩) (.inl rfl) _) (fun b hb h => ?_)⟩
  have h : b = ob := h
  subst h
  exact hor1.other hb1 (by decide) hb

/-- a relation without pairs, under way: the result's cell, the row, the box -/
theorem start_rel (w : World) (L R : Int) : ∃ W, W = (((w.alloc (.cells #[.int .i64 0, .int .i64 0, .slice none 0 0] 30)).alloc (.cells #[] 3)).alloc (.cells #[.int .i64 L, .int .i64 R, .slice (some ⟨w.heap.size + 1, 0, none⟩) 0 0] 30)) ∧
    Fr No w W ∧ Blk W w.heap.size 30 #[.int .i64 0, .int .i64 0, .slice none 0 0] ∧ Blk W (w.heap.size + 1 + 1) 30 #[.int .i64 L, .int .i64 R, .slice (some ⟨w.heap.size + 1, 0, none⟩) 0 0] ∧ OR W (w.heap.size + 1) (some ⟨w.heap.size + 1, 0, none⟩) 0 0 [] := by
  refine ⟨_, rfl, (((Fr.refl No w).alloc _).alloc _).alloc _, ((Blk.new _ _ _).alloc _).alloc _, Blk.new_at _ _ _ (by simp), rfl, rfl, .inr ⟨_, 0, #[], rfl, Nat.le_refl _, ?_, Nat.le_refl _, Nat.zero_le _, rfl, rfl⟩⟩
  exact (Blk.new_at (w.alloc (.cells #[.int .i64 0, .int .i64 0, .slice none 0 0] 30)) 3 #[] (by simp)).alloc _

theorem elems_more (j : Nat) (P : Nat → Bool) : elems (j + 1) P = elems j P ++ (if P j then [j] else []) := by
  unfold elems
  rw [List.range_succ, List.filter_append]
  congr 1
  simp only [List.filter_cons, List.filter_nil]

theorem i64_and_one (i : Nat) (hi : i < 9223372036854775808) : bits BinOp.and IntKind.i64 (i : Int) 1 = ((i &&& 1 : Nat) : Int) := by
  have h1 : (BitVec.ofInt 64 (i : Int)).toNat = i := by
    rw [BitVec.ofInt_natCast, BitVec.toNat_ofNat]; exact Nat.mod_eq_of_lt (by omega)
  show IntKind.i64.wrap ((BitVec.ofInt 64 (i : Int) &&& BitVec.ofInt 64 1).toNat : Int) = _
  rw [BitVec.toNat_and, h1, show (BitVec.ofInt 64 1).toNat = 1 from rfl, IntKind.wrap_i64]
  have := Nat.and_le_right (n := i) (m := 1)
  omega

theorem and_one_bit (n j : Nat) : n / 2 ^ j &&& 1 = if n.testBit j then 1 else 0 := by
  rw [Nat.and_one_is_mod, Nat.testBit_eq_decide_div_mod_eq]
  have := Nat.mod_lt (n / 2 ^ j) (show 0 < 2 by decide)
  by_cases h : n / 2 ^ j % 2 = 1
  · simp [h]
  · have h0 : n / 2 ^ j % 2 = 0 := by omega
    simp [h0]

set_option maxRecDepth 100000 in
set_option maxHeartbeats 2000000 in
theorem number_any (w : World) (l r : Int) (n : Nat) (hl : 1 ≤ l) (hr : 1 ≤ r) (hp : l * r ≤ 16) (hn : n < 65536) :
    Calls Tryd.prog 118 #[.int .i64 l, .int .i64 r, .int .i64 n] w fun e w' =>
      ∃ A m c, e = .returned (RV l r A m c) ∧ Fr No w w' ∧ OR w' w.heap.size A m c ((elems (l * r).toNat n.testBit).map Int.ofNat) := by
  obtain ⟨hl16, hr16⟩ := prod_le hl hr hp
  obtain ⟨hp1, _⟩ := prod_bounds hl (by omega) hr (by omega)
  obtain ⟨N, hN⟩ : ∃ N : Nat, l * r = N := ⟨(l * r).toNat, by omega⟩
  have hN16 : N ≤ 16 := by omega
  obtain ⟨i0, hi0, hz0, hz1, hz2⟩ := info_parts info_int
  have HNN : Hid ((l * r).toNat = N) := by show _ = _; omega
  rw [HNN.out]
  go_enter Tryd.func118, Tryd.ntmps118
  go_wp2_with fail
  obtain ⟨W0, hW0, hf0, hr0, hb0, ho0⟩ := start_rel w l r
  rw [← hW0]
  have HF0 := Lib.hid hf0
  have HR0 := Lib.hid hr0
  have HB0 := Lib.hid hb0
  have HO0 := Lib.hid ho0
  have hbnd : N ≤ 100000 := by omega
  clear hW0 hf0 hr0 hb0 ho0
  go_loopw [8] (fun u wr => ∃ (j m c : Nat) (A : Option Addr), j ≤ N ∧ u = .int .i64 j ∧ Fr No w wr ∧ Blk wr w.heap.size 30 #[.int .i64 0, .int .i64 0, .slice none 0 0] ∧ Blk wr (w.heap.size + 1 + 1) 30 #[.int .i64 l, .int .i64 r, .slice A m c] ∧ OR wr (w.heap.size + 1) A m c ((elems j n.testBit).map Int.ofNat)) (fun u _ => N - (intOf u).toNat)
  case atStart => exact ⟨0, 0, 0, _, Nat.zero_le _, rfl, HF0.out, HR0.out, HB0.out, HO0.out⟩
  case round =>
    obtain ⟨j, m, c, A, hj, rfl, hfr, hres, hbx, hor⟩ := hrel
    have HF := Lib.hid hfr
    have HRS := Lib.hid hres
    have HBX := Lib.hid hbx
    have HOR := Lib.hid hor
    have c2 : wr.cell? ⟨w.heap.size + 1 + 1, 2, none⟩ = some (.slice A m c) := (hbx.cell 2).trans rfl
    by_cases hlt : j < N
    · have hjI : (j : Int) < l * r := by omega
      have hdiv : (n : Int) / 2 ^ j = ((n / 2 ^ j : Nat) : Int) := by rw [Int.natCast_ediv, Int.natCast_pow]; rfl
      have hdl : n / 2 ^ j ≤ n := Nat.div_le_self _ _
      have hand : bits BinOp.and IntKind.i64 ((n : Int) / 2 ^ j) 1 = if n.testBit j then 1 else 0 := by
        rw [hdiv, i64_and_one _ (by omega), and_one_bit]
        split <;> rfl
      have hj64 : j ≤ 64 := by omega
      have hml : m ≤ N := by
        rw [hor.1, List.length_map]
        exact Nat.le_trans (elems_len j _) hj
      have hown := hor.2
      clear hfr hres hbx hor HF0 HR0 HB0 HO0 hdiv hdl
      cases hbit : n.testBit j with
      | false =>
        rw [hbit] at hand
        have hand' : bits BinOp.and IntKind.i64 ((n : Int) / 2 ^ j) 1 = 0 := hand
        have HFIN : Hid (OR wr (w.heap.size + 1) A m c ((elems (j + 1) n.testBit).map Int.ofNat)) := by
          have h := HOR.out
          show OR _ _ _ _ _ _
          rw [elems_more, hbit]
          simpa using h
        clear hand hbit
        go_wp2_with fail
        go_roundw
        case rel => exact ⟨j + 1, m, c, A, by omega, by go_num, HF.out, HRS.out, HBX.out, HFIN.out⟩
        case measure => simp [intOf]; omega
      | true =>
        rw [hbit] at hand
        have hand' : bits BinOp.and IntKind.i64 ((n : Int) / 2 ^ j) 1 = 1 := hand
        have hfz : wr.frozen? ⟨w.heap.size + 1 + 1, 2, none⟩ = false := HBX.out.frozen 2
        have hlb := HBX.out.lt
        have HBIT := Lib.hid hbit
        have ARM : Hid (∀ (v' : Value) (w1 : World), w1.ownsRow (w.heap.size + 1) 3 1 v' (m + 1) ((((elems j n.testBit).map Int.ofNat).map (Value.int .i64)) ++ [.int .i64 (j : Int)]) → (wr.alloc (.cells #[.int .i64 (j : Int)] 3)).grownBy w1 (Value.slice A m c).ownBlock →
            ∃ g' cap', v' = .slice (some ⟨g', 0, none⟩) (m + 1) cap' ∧ w1.cell? ⟨w.heap.size + 1 + 1, 2, none⟩ = some (.slice A m c) ∧ w1.frozen? ⟨w.heap.size + 1 + 1, 2, none⟩ = false ∧ w.heap.size + 1 + 1 < w1.heap.size ∧
            Hid (Fr No w (w1.setCell ⟨w.heap.size + 1 + 1, 2, none⟩ (.slice (some ⟨g', 0, none⟩) (m + 1) cap')) ∧ Blk (w1.setCell ⟨w.heap.size + 1 + 1, 2, none⟩ (.slice (some ⟨g', 0, none⟩) (m + 1) cap')) w.heap.size 30 #[.int .i64 0, .int .i64 0, .slice none 0 0] ∧ Blk (w1.setCell ⟨w.heap.size + 1 + 1, 2, none⟩ (.slice (some ⟨g', 0, none⟩) (m + 1) cap')) (w.heap.size + 1 + 1) 30 #[.int .i64 l, .int .i64 r, .slice (some ⟨g', 0, none⟩) (m + 1) cap'] ∧ OR (w1.setCell ⟨w.heap.size + 1 + 1, 2, none⟩ (.slice (some ⟨g', 0, none⟩) (m + 1) cap')) (w.heap.size + 1) (some ⟨g', 0, none⟩) (m + 1) cap' ((elems (j + 1) n.testBit).map Int.ofNat))) := by
          intro v' w1 ho hg
          obtain ⟨g', cap', rfl⟩ := ownsRow_succ ho
          obtain ⟨h1, h2, h3, h4⟩ := app_fin HBX.out HOR.out ((Fr.refl No wr).alloc _) ho hg
          have hB : ∀ b, Own A b ∨ b = w.heap.size + 1 + 1 → w.heap.size + 1 ≤ b := fun b hb => by
            rcases hb with hb | hb
            · exact (HOR.out.bounds hb).1
            · omega
          refine ⟨g', cap', rfl, (h1.cell 2).trans rfl, h1.frozen 2, h1.lt, HF.out.then_ h2 (fun b hb h => by have := hB b h; omega), HRS.out.fr h2 (fun h => by have := hB _ h; omega), h3, ?_⟩
          rw [elems_more, HBIT.out]
          simpa using h4
        clear hand hbit
        go_wp2_with (at_builtin; refine wpList_append_own _ rfl _ _ 28 rfl (w.heap.size + 1) 3 i0 (.int .i64 0) 1 8 Tryd.underlying28 hi0 hz0 hz1 hz2 rfl (by decide) _ _ _ rfl (hown.alloc _) ⟨wr.heap.size, 0, none⟩ 1 1 [.int .i64 (j : Int)] rfl rfl (cell_one_new _ _ _) (by simp [Value.oneCell']) (by unfold maxLen; omega) (by omega) (by simp; omega) ?_; intro v' w1 hown' hgrow _; obtain ⟨g', cap', rfl, n1, n2, n3, n4⟩ := ARM.out v' w1 hown' hgrow; clear hown' hgrow)
        clear hown ARM
        go_wp2_with fail
        go_roundw
        case rel => exact ⟨j + 1, m + 1, cap', some ⟨g', 0, none⟩, by omega, by go_num, n4.out⟩
        case measure => simp [intOf]; omega
    · have hjN : j = N := by omega
      have hnlt : ¬ (j : Int) < l * r := by omega
      have c0 : wr.cell? ⟨w.heap.size + 1 + 1, 0, none⟩ = some (.int .i64 l) := (hbx.cell 0).trans rfl
      have c1 : wr.cell? ⟨w.heap.size + 1 + 1, 1, none⟩ = some (.int .i64 r) := (hbx.cell 1).trans rfl
      have a0 : wr.cell? ⟨w.heap.size, 0, none⟩ = some (.int .i64 0) := (hres.cell 0).trans rfl
      have a1 : wr.cell? ⟨w.heap.size, 1, none⟩ = some (.int .i64 0) := (hres.cell 1).trans rfl
      have a2 : wr.cell? ⟨w.heap.size, 2, none⟩ = some (.slice none 0 0) := (hres.cell 2).trans rfl
      have f0 := hres.frozen 0
      have f1 := hres.frozen 1
      have f2 := hres.frozen 2
      have FIN := Lib.hid (fun v0 v1 v2 => ans_store (Nat.le_refl w.heap.size) hfr hres hor (Nat.le_succ _) v0 v1 v2)
      have HJN := Lib.hid hjN
      clear hfr hres hbx hor HF0 HR0 HB0 HO0 hjN
      go_wp2_with fail
      refine bodyPost_ret (v := RV l r A m c) (by simp [results, Tryd.results118, go_sem, a0, a1, a2]) rfl ?_
      rw [← HJN.out]
      exact ⟨A, m, c, rfl, (FIN.out _ _ _).1, (FIN.out _ _ _).2⟩
end Go.Proofs.YtloecimlimoanaaDoor

/- Functions that range over a function inside a loop: their marks; rows beside other blocks. · A relation of bit sets is written as a list of pairs. -/
/- Functions that range over a function inside a loop: their marks; rows beside other blocks. -/
namespace Go.Proofs.YtloecimlimoanaaDoor
open Go.RowKit Go.ChangeMaps Go.Shelf

/-- the marks among the deferred calls -/
def marksD (Ds : List Nat) : List Deferred := Ds.map fun D => { target := .collected D, args := #[] }

theorem leaves_marks {F : Fence} {n : Nat} {P : Program} {fn : Func} {tmps : Array Value} {R : Ending → World → Prop} : ∀ (Ds : List Nat) (w : World), Ds.Nodup → (∀ D, D ∈ Ds → w.heap[D]? = some (.deferred (some []))) →
    (∀ w', Fr (fun b => b ∈ Ds) w w' → ∃ v, (results fn tmps).run P w' = .ok v w' ∧ R (.returned v) w') → LeavesInM F n P fn tmps R (marksD Ds) .returning w := by
  intro Ds
  induction Ds with
  | nil => intro w _ _ h; exact h w (Fr.refl _ _)
  | cons D Ds ih =>
    intro w hnd hd h
    rw [List.nodup_cons] at hnd
    refine ⟨by simp, .inl ⟨D, _, rfl, run_takeDeferred (hd D List.mem_cons_self), ?_⟩⟩
    refine ih _ hnd.2 (fun D' hD' => ?_) fun w' hf => ?_
    · exact (World.putObj_heap_other (by rintro rfl; exact hnd.1 hD')).trans (hd D' (List.mem_cons_of_mem _ hD'))
    · exact h w' (((Fr.putObj D _).mono (fun b _ h => by have h : b = D := h; rw [h]; exact List.mem_cons_self)).trans (hf.mono (fun b _ h => List.mem_cons_of_mem _ h)))

/-- a block that holds no integers is not a row's -/
theorem OR.notAt {w : World} {B : Nat} {A : Option Addr} {n c : Nat} {xs : List Int} (h : OR w B A n c xs) {b : Nat} {o : Obj} (hb : w.heap[b]? = some o) (ho : ∀ cs, o ≠ .cells cs 3 (0, 0)) : ¬ Own A b := by
  rintro ⟨a, rfl, rfl⟩
  rcases h.2.2 with ⟨hv, _⟩ | ⟨g, cap, cur, hv, h2, h3, _⟩
  · cases hv
  · injection hv with e1 e2 e3
    injection e1 with e1
    subst e1
    rw [hb] at h3
    injection h3 with h3
    exact ho _ h3

theorem pairsOf_len (l r : Nat) (R : Nat → Nat → Bool) : (pairsOf l r R).length ≤ l * r := by
  induction l with
  | zero => simp [pairsOf]
  | succ l ih =>
    rw [pairsOf_succ, List.length_append, List.length_map, Nat.add_one_mul]
    have := elems_len r (R l)
    omega
end Go.Proofs.YtloecimlimoanaaDoor

/- A relation of bit sets is written as a list of pairs. -/
namespace Go.Proofs.YtloecimlimoanaaDoor
open Go.RowKit Go.ChangeMaps Go.Shelf

attribute [local go_sem] Oper.semAt_some

def WriP (l r : Nat) (R : Nat → Nat → Bool) (w : World) (e : Ending) (w' : World) : Prop := ∃ A n c, e = .returned (RV l r A n c) ∧ Fr No w w' ∧ OR w' w.heap.size A n c ((pairsOf l r R).map Int.ofNat)

/-- what is there ahead of row i -/
structure WI (w : World) (b l r : Nat) (R : Nat → Nat → Bool) (b3 i : Nat) (Ds : List Nat) (W : World) : Prop where
  fr : Fr No w W
  pt : Blk W w.heap.size 93 #[Ptr b]
  rs : Blk W (w.heap.size + 1) 30 #[.int .i64 0, .int .i64 0, .slice none 0 0]
  bx : ∃ A n c, Blk W b3 30 #[.int .i64 l, .int .i64 r, .slice A n c] ∧ OR W w.heap.size A n c ((pairsOf i r R).map Int.ofNat)
  b3n : w.heap.size + 1 < b3
  nd : Ds.Nodup
  ds : ∀ D, D ∈ Ds → w.heap.size ≤ D ∧ W.heap[D]? = some (.deferred (some []))

/-- what came in so far in row i -/
structure WJ (w : World) (b l r : Nat) (R : Nat → Nat → Bool) (b3 b4 i : Nat) (Ds : List Nat) (D : Nat) (rec : LoopState → Option Code → Loop) (pre : List Nat) (W : World) : Prop where
  fr : Fr No w W
  pt : Blk W w.heap.size 93 #[Ptr b]
  rs : Blk W (w.heap.size + 1) 30 #[.int .i64 0, .int .i64 0, .slice none 0 0]
  bx : ∃ A n c, Blk W b3 30 #[.int .i64 l, .int .i64 r, .slice A n c] ∧ OR W w.heap.size A n c ((pairsOf i r R ++ pre.map (i * r + ·)).map Int.ofNat) ∧ ¬ Own A b4
  b4 : Blk W b4 3 #[.int .i64 i]
  lp : W.heap[D + 1]? = some (.loop (rec .ready none))
  df : W.heap[D]? = some (.deferred (some []))
  ds : ∀ D', D' ∈ Ds → W.heap[D']? = some (.deferred (some []))
  sz : D + 2 ≤ W.heap.size

theorem Blk.ne_of {W : World} {g k : Nat} {t : TypeId} {cs : Array Value} {o : Obj} (h : Blk W g t cs) (hk : W.heap[k]? = some o) (ho : ∀ cs, o ≠ .cells cs t (0, 0)) : g ≠ k := by
  rintro rfl
  unfold Blk at h
  rw [h] at hk
  injection hk with hk
  exact ho _ hk.symm

theorem wi_start {w W : World} {b l r b3 : Nat} {R : Nat → Nat → Bool} {A : Option Addr} (hf : Fr No w W) (hp : Blk W w.heap.size 93 #[Ptr b]) (hr : Blk W (w.heap.size + 1) 30 #[.int .i64 0, .int .i64 0, .slice none 0 0])
    (hb : Blk W b3 30 #[.int .i64 l, .int .i64 r, .slice A 0 0]) (ho : OR W w.heap.size A 0 0 []) (h3 : w.heap.size + 1 < b3) : WI w b l r R b3 0 [] W :=
  ⟨hf, hp, hr, ⟨A, 0, 0, hb, ho⟩, h3, by simp, fun D h => by cases h⟩

/-- a relation of bit sets that is there to be read, whatever room its rows have -/
def WRel (w : World) (b l r : Nat) (R : Nat → Nat → Bool) : Prop := ∃ (Rb cap : Nat) (gs : Nat → Nat) (cs : Array Value), Blk w b 97 #[.int .i64 r, .slice (some ⟨Rb, 0, none⟩) l cap] ∧ Blk w Rb 78 cs ∧ ∀ i, i < l → cs[i]? = some (.slice (some ⟨gs i, 0, none⟩) (nw r) (nw r)) ∧ ∃ ws, Blk w (gs i) 127 (WV ws) ∧ BitsIs ws r (R i)

theorem RelAt.wrel {w : World} {b l r B : Nat} {R : Nat → Nat → Bool} (h : RelAt w b l r B R) : WRel w b l r R := by
  obtain ⟨_, Rb, gs, hb, hr⟩ := h
  exact ⟨Rb, l, gs, _, hb, hr.rows, fun i hi => ⟨by rw [RA_at hi, if_pos hi], (hr.each i hi).2⟩⟩

set_option maxRecDepth 100000 in
set_option maxHeartbeats 8000000 in
theorem written_w (w : World) (b l r : Nat) (R : Nat → Nat → Bool) (hl : l ≤ 128) (hr1 : 1 ≤ r) (hr : r ≤ 128) (hrel : WRel w b l r R) (hT : TZt w) :
    Calls Tryd.prog 66 #[Ptr b] w fun e w' => WriP l r R w e w' := by
  have HT := Lib.hid hT
  obtain ⟨i0, hi0, hz0, hz1, hz2⟩ := info_parts info_int
  obtain ⟨Rb, cap, gs, cs0, hbb, hrb, hrows⟩ := hrel
  have HRB := Lib.hid hrb
  have HBB := Lib.hid hbb
  have HROWS := Lib.hid hrows
  have hbl := hbb.lt
  clear hT hbb hrb hrows
  refine (callsIn_wide (n := 7)).1 ?_
  refine callsIn_of_wp_marks Tryd.func66 rfl trivial ?_ rfl
  simp only [Tryd.ntmps66, List.size_toArray, List.length_cons, List.length_nil, Nat.reduceAdd, Nat.reduceSub, Array.replicate_succ, Array.replicate_zero, List.push_toArray, List.append_toArray, List.nil_append, List.cons_append]
  gi_wp2_with fail
  rename_i K hK
  have REST : Hid (∀ (b3 : Nat) (u7 u8 u9 u10 u11 u12 u13 u14 u15 u16 u17 : Value) (W : World), WI w b l r R b3 0 [] W → K { tmps := #[Ptr b, Ptr w.heap.size, Ptr (w.heap.size + 1), Ptr b3, undef, undef, undef, u7, u8, u9, u10, u11, u12, u13, u14, u15, u16, u17, undef, undef, undef, undef, undef, undef, undef, undef, undef, undef, undef, undef, undef, undef, undef, undef, undef, undef, undef, undef, undef, undef, undef, undef, undef, undef, undef, undef], defers := [] } W) := by
    intro b3 u7 u8 u9 u10 u11 u12 u13 u14 u15 u16 u17 W hwi
    refine hK _ _ ?_
    have c0 : W.cell? ⟨w.heap.size, 0, none⟩ = some (Ptr b) := (hwi.pt.cell 0).trans rfl
    have c2 : W.cell? ⟨b, 1, none⟩ = some (.slice (some ⟨Rb, 0, none⟩) l cap) := ((HBB.out.fr hwi.fr (fun h => h)).cell 1).trans rfl
    have HWI := Lib.hid hwi
    clear hwi hK
    gi_wp2_with fail
    refine wpIn_loop_ghost_k (fun gk a' w' => ∃ (i : Nat) (Ds : List Nat) (u4 u5 u6 u7 u8 u9 u10 u11 u12 u13 u14 u15 u16 u17 u18 u19 u20 u24 u25 u26 u27 u28 u29 u30 u31 u32 u33 u34 u35 u36 u37 u38 u39 u40 u41 u42 u43 u44 u45 : Value), i + gk = l ∧ WI w b l r R b3 i Ds w' ∧ a' = { tmps := #[Ptr b, Ptr w.heap.size, Ptr (w.heap.size + 1), Ptr b3, u4, u5, u6, u7, u8, u9, u10, u11, u12, u13, u14, u15, u16, u17, u18, u19, u20, .slice (some ⟨Rb, 0, none⟩) l cap, .int .i64 l, .int .i64 i, u24, u25, u26, u27, u28, u29, u30, u31, u32, u33, u34, u35, u36, u37, u38, u39, u40, u41, u42, u43, u44, u45], defers := marksD Ds }) l ?start ?round
    case start => exact ⟨0, [], _, _, _, _, _, _, _, _, _, _, _, _, _, _, _, _, _, _, _, _, _, _, _, _, _, _, _, _, _, _, _, _, _, _, _, _, _, _, _, by omega, HWI.out, rfl⟩
    case round =>
      intro gk a W hinv J K hJ hK
      obtain ⟨i, Ds, u4, u5, u6, u7, u8, u9, u10, u11, u12, u13, u14, u15, u16, u17, u18, u19, u20, u24, u25, u26, u27, u28, u29, u30, u31, u32, u33, u34, u35, u36, u37, u38, u39, u40, u41, u42, u43, u44, u45, hgk, hwi, rfl⟩ := hinv
      have HW := Lib.hid hwi
      have p0 : W.cell? ⟨w.heap.size, 0, none⟩ = some (Ptr b) := (hwi.pt.cell 0).trans rfl
      clear hwi c0 c2
      by_cases hlt : i < l
      · obtain ⟨hrow, ws, hws0, hbits⟩ := HROWS.out i hlt
        have hws := hws0.fr HW.out.fr (fun h => h)
        have e2 : W.cell? ⟨Rb, i, none⟩ = some (.slice (some ⟨gs i, 0, none⟩) (nw r) (nw r)) := ((HRB.out.fr HW.out.fr (fun h => h)).cell i).trans hrow
        have HWS : Hid (Blk W (gs i) 127 (WV ws)) := hws
        have HBITS := Lib.hid hbits
        have hiI : (i : Int) < (l : Int) := by omega
        have hgl : gs i < w.heap.size := by
          obtain ⟨_, ws0, h0, _⟩ := HROWS.out i hlt
          exact h0.lt
        clear hrow hws hws0 hbits p0
        gi_wp2_with fail
        have hfA : Fr No W (W.alloc (.cells #[.int .i64 (i : Int)] 3)) := (Fr.refl No W).alloc _
        have hb4 : Blk (W.alloc (.cells #[.int .i64 (i : Int)] 3)) W.heap.size 3 #[.int .i64 (i : Int)] := Blk.new _ _ _
        have hsA : (W.alloc (.cells #[.int .i64 (i : Int)] 3)).heap.size = W.heap.size + 1 := by simp
        generalize (W.alloc (.cells #[.int .i64 (i : Int)] 3)) = Wa at hfA hb4 hsA ⊢
        refine rf_stmt1 rfl (by decide) (gf := 64) (fa := #[.slice (some ⟨gs i, 0, none⟩) (nw r) (nw r)]) rfl trivial (enters_of Tryd.func64 (by kernel_rfl) rfl) ?_
        intro fn D rec hf hD hrec W1 hW1
        have HREC := Lib.hid hrec
        have hD1 : W1.heap.size = D + 2 := by rw [hW1, hD]; simp
        have hf1 : Fr No Wa W1 := by rw [hW1]; exact ((Fr.refl _ _).alloc _).alloc _
        have hl1 : W1.heap[D + 1]? = some (.loop (rec .ready none)) := by
          rw [hW1]
          have := World.alloc_heap_new (Wa.alloc (.deferred (some []))) (.loop (rec .ready none))
          rwa [World.size_alloc, ← hD] at this
        have hd1 : W1.heap[D]? = some (.deferred (some [])) := by
          rw [hW1, hD]
          exact (Below.heap_alloc _ _ _ (by simp)).trans (World.alloc_heap_new Wa _)
        clear hrec
        have HDW : Hid (D = W.heap.size + 1 ∧ w.heap.size ≤ W.heap.size) := ⟨by omega, HW.out.fr.size⟩
        have hfW1 := hfA.trans hf1
        have hfw := HW.out.fr.trans hfW1
        have J0 : WJ w b l r R b3 W.heap.size i Ds D rec [] W1 := by
          obtain ⟨A, m, c, hbx, hor⟩ := HW.out.bx
          refine ⟨hfw, HW.out.pt.fr hfW1 (fun h => h), HW.out.rs.fr hfW1 (fun h => h), ⟨A, m, c, hbx.fr hfW1 (fun h => h), by simpa using hor.no hfW1, fun h => by have := (hor.bounds h).2; omega⟩, hb4.fr hf1 (fun h => h), hl1, hd1, fun D' hD' => ?_, by omega⟩
          have h := (HW.out.ds D' hD').2
          exact (hfW1.block D' (Array.getElem?_eq_some_iff.1 h).1 (fun h => h)).trans h
        have hT1 := HT.out.fr hfw (fun h => h)
        have hTl := HT.out.1
        refine (numbers_in Fence.wide 6 (fun _ => trivial) rfl (fun _ _ _ _ _ h => callsIn_wide.2 h) (by decide) (D + 1) (gs i) (fun k => w.heap.size ≤ k) ws r (WJ w b l r R b3 W.heap.size i Ds D rec) ?round W1 HBITS.out.len (by omega) HBITS.out.lt J0 (HWS.out.fr hfW1 (fun h => h)) hT1 (by omega) (by omega)).mono ?_
        case round =>
          intro pre x V hex hj
          have hxr : x < r ∧ pre.length + 1 ≤ r := by
            obtain ⟨post, e⟩ := hex
            rw [HBITS.out.list] at e
            refine ⟨(elems_mem.1 (by rw [← e]; simp)).1, ?_⟩
            have h1 := congrArg List.length e
            have := elems_len r (R i)
            simp at h1
            omega
          obtain ⟨A, m, c, hbx, hor, hap⟩ := hj.bx
          have hml : m + 1 ≤ 100000 := by
            have h1 := hor.1
            have h2 := pairsOf_len i r R
            have h3 : i * r ≤ 128 * 128 := Nat.mul_le_mul (by omega) hr
            simp at h1
            omega
          have HJ := Lib.hid hj
          have HBX := Lib.hid hbx
          have HOR := Lib.hid hor
          have HAP := Lib.hid hap
          clear hj hex hbx hor hap hf1 hl1 hd1 hfw J0 hfA hb4 hsA hD hD1 hfW1 hT1 hW1 e2 hK hJ
          refine rf_round HREC.out hf HJ.out.lp rfl ?_
          gi_wp2_with fail
          refine ⟨_, rf_begin HREC.out HJ.out.lp, ?_⟩
          have hfp : Fr (fun k => k = D + 1) V (V.putObj (D + 1) (.loop (rec .busy none))) := Fr.putObj _ _
          have n1 : w.heap.size ≠ D + 1 := HJ.out.pt.ne_of HJ.out.lp (fun _ h => by cases h)
          have n2 : w.heap.size + 1 ≠ D + 1 := HJ.out.rs.ne_of HJ.out.lp (fun _ h => by cases h)
          have n3 : b3 ≠ D + 1 := HBX.out.ne_of HJ.out.lp (fun _ h => by cases h)
          have n4 : W.heap.size ≠ D + 1 := HJ.out.b4.ne_of HJ.out.lp (fun _ h => by cases h)
          have n5 : ¬ Own A (D + 1) := HOR.out.notAt HJ.out.lp (fun _ h => by cases h)
          have hpt := HJ.out.pt.fr hfp n1
          have hrs := HJ.out.rs.fr hfp n2
          have hb4 := HJ.out.b4.fr hfp n4
          have hbx := HBX.out.fr hfp n3
          have hor := HOR.out.fr hfp (fun k hk h => by have h : k = D + 1 := h; subst h; exact n5 hk)
          have hlp : (V.putObj (D + 1) (.loop (rec .busy none))).heap[D + 1]? = some (.loop (rec .busy none)) := World.putObj_heap_same (by have := HJ.out.sz; omega)
          have hdp : (V.putObj (D + 1) (.loop (rec .busy none))).heap[D]? = some (.deferred (some [])) := (World.putObj_heap_other (by omega)).trans HJ.out.df
          have hdsn : ∀ D', D' ∈ Ds → D' ≠ D + 1 := fun D' hD' e => by have h := HJ.out.ds D' hD'; rw [e, HJ.out.lp] at h; cases h
          have hds : ∀ D', D' ∈ Ds → (V.putObj (D + 1) (.loop (rec .busy none))).heap[D']? = some (.deferred (some [])) := fun D' hD' => (World.putObj_heap_other (hdsn D' hD')).trans (HJ.out.ds D' hD')
          have hsp : (V.putObj (D + 1) (.loop (rec .busy none))).heap.size = V.heap.size := by simp
          have hbr := (HBB.out.fr HJ.out.fr (fun h => h)).fr hfp (by have := HDW.out; intro h; have h : b = D + 1 := h; omega)
          generalize (V.putObj (D + 1) (.loop (rec .busy none))) = V2 at hfp hpt hrs hb4 hbx hor hlp hdp hds hsp hbr ⊢
          have c4 : V2.cell? ⟨W.heap.size, 0, none⟩ = some (.int .i64 i) := (hb4.cell 0).trans rfl
          have cp : V2.cell? ⟨w.heap.size, 0, none⟩ = some (Ptr b) := (hpt.cell 0).trans rfl
          have cr : V2.cell? ⟨b, 0, none⟩ = some (.int .i64 r) := (hbr.cell 0).trans rfl
          have c3 : V2.cell? ⟨b3, 2, none⟩ = some (.slice A m c) := (hbx.cell 2).trans rfl
          have l3 := hbx.lt
          have hszV : D + 2 ≤ V2.heap.size := by rw [hsp]; exact HJ.out.sz
          have OWN : Hid (∀ V3, Fr No V2 V3 → World.ownsRow V3 w.heap.size 3 1 (.slice A m c) m (((pairsOf i r R ++ pre.map (i * r + ·)).map Int.ofNat).map (Value.int .i64)) ∧ w.heap.size ≤ V3.heap.size) := fun V3 hf => ⟨(hor.no hf).2, by have := hf.size; have := HDW.out; omega⟩
          have ARM : Hid (∀ (g' cap' : Nat) (V3 w4 : World), Fr No V2 V3 → w4.ownsRow w.heap.size 3 1 (.slice (some ⟨g', 0, none⟩) (m + 1) cap') (m + 1) ((((pairsOf i r R ++ pre.map (i * r + ·)).map Int.ofNat).map (Value.int .i64)) ++ [.int .i64 ((i : Int) * (r : Int) + (x : Int))]) → V3.grownBy w4 (Value.slice A m c).ownBlock → ((Value.slice A m c).ownBlock = some g' ∨ g' = V3.heap.size) →
              (w4.cell? ⟨W.heap.size, 0, none⟩ = some (.int .i64 i) ∧ w4.cell? ⟨w.heap.size, 0, none⟩ = some (Ptr b) ∧ w4.cell? ⟨b, 0, none⟩ = some (.int .i64 r)) ∧ (w4.cell? ⟨b3, 2, none⟩ = some (.slice A m c) ∧ w4.frozen? ⟨b3, 2, none⟩ = false ∧ b3 < w4.heap.size) ∧ ((w4.setCell ⟨b3, 2, none⟩ (.slice (some ⟨g', 0, none⟩) (m + 1) cap')).cell? ⟨W.heap.size, 0, none⟩ = some (.int .i64 i) ∧ (w4.setCell ⟨b3, 2, none⟩ (.slice (some ⟨g', 0, none⟩) (m + 1) cap')).cell? ⟨w.heap.size, 0, none⟩ = some (Ptr b) ∧ (w4.setCell ⟨b3, 2, none⟩ (.slice (some ⟨g', 0, none⟩) (m + 1) cap')).cell? ⟨b, 0, none⟩ = some (.int .i64 r)) ∧ Hid (∀ act : Act, roundPost Tryd.prog (D + 1) (fun e W' => e = .returned (.bool true) ∧ WJ w b l r R b3 W.heap.size i Ds D rec (pre ++ [x]) W' ∧ Fr (fun k => w.heap.size ≤ k) V W') Exit.normal act (w4.setCell ⟨b3, 2, none⟩ (.slice (some ⟨g', 0, none⟩) (m + 1) cap')))) := by
            intro g' cap' V3 w4 hf3 ho hg hat
            have hDW := HDW.out
            have hf4 : Fr (Own A) V2 w4 := (hf3.mono (fun _ _ h => h.elim)).grown hg (fun k hk => .inl (by
              unfold Value.ownBlock at hk
              cases A with
              | none => cases hk
              | some a => exact ⟨a, rfl, by injection hk⟩))
            have hpt4 := hpt.fr hf4 (hor.other hpt (by decide))
            have hrs4 := hrs.fr hf4 (hor.other hrs (by decide))
            have hbx4 := hbx.fr hf4 (hor.other hbx (by decide))
            have hbr4 := hbr.fr hf4 (hor.other hbr (by decide))
            have hb44 := hb4.fr hf4 HAP.out
            have hlp4 := (hf4.block (D + 1) (by omega) n5).trans hlp
            have hdp4 := (hf4.block D (by omega) (hor.notAt hdp (fun _ h => by cases h))).trans hdp
            have hds4 : ∀ D', D' ∈ Ds → w4.heap[D']? = some (.deferred (some [])) := fun D' hD' => (hf4.block D' (Array.getElem?_eq_some_iff.1 (hds D' hD')).1 (hor.notAt (hds D' hD') (fun _ h => by cases h))).trans (hds D' hD')
            have m1 : W.heap.size ≠ b3 := by have h1 := hb4.lt; intro e; have e1 := hbx; rw [← e] at e1; exact absurd (hb4.eq e1).1 (by decide)
            have m2 : w.heap.size ≠ b3 := by intro e; have e1 := hbx; rw [← e] at e1; exact absurd (hpt.eq e1).1 (by decide)
            have m3 : b ≠ b3 := by intro e; have e1 := hbx; rw [← e] at e1; exact absurd (hbr.eq e1).1 (by decide)
            have m4 : w.heap.size + 1 ≠ b3 := by have := HWI.out.b3n; omega
            have hb4s := hb44.far (p := ⟨b3, 2, none⟩) m1 (.slice (some ⟨g', 0, none⟩) (m + 1) cap')
            have hpts := hpt4.far (p := ⟨b3, 2, none⟩) m2 (.slice (some ⟨g', 0, none⟩) (m + 1) cap')
            have hbrs := hbr4.far (p := ⟨b3, 2, none⟩) m3 (.slice (some ⟨g', 0, none⟩) (m + 1) cap')
            have hrss := hrs4.far (p := ⟨b3, 2, none⟩) m4 (.slice (some ⟨g', 0, none⟩) (m + 1) cap')
            refine ⟨⟨(hb44.cell 0).trans rfl, (hpt4.cell 0).trans rfl, (hbr4.cell 0).trans rfl⟩, ⟨(hbx4.cell 2).trans rfl, hbx4.frozen 2, hbx4.lt⟩, ⟨(hb4s.cell 0).trans rfl, (hpts.cell 0).trans rfl, (hbrs.cell 0).trans rfl⟩, fun act => ?_⟩
            have hor4 : OR w4 w.heap.size (some ⟨g', 0, none⟩) (m + 1) cap' ((pairsOf i r R ++ (pre ++ [x]).map (i * r + ·)).map Int.ofNat) := by
              have e1 := hor.1
              refine ⟨by rw [e1]; simp; omega, ?_⟩
              have e2 : (((pairsOf i r R ++ (pre ++ [x]).map (i * r + ·)).map Int.ofNat).map (Value.int .i64)) = (((pairsOf i r R ++ pre.map (i * r + ·)).map Int.ofNat).map (Value.int .i64)) ++ [.int .i64 ((i : Int) * (r : Int) + (x : Int))] := by simp
              rw [e2]; exact ho
            have hap4 : ¬ Own (some ⟨g', 0, none⟩) W.heap.size := by
              rintro ⟨a, ha, hb⟩
              injection ha with ha
              subst ha
              have hb : g' = W.heap.size := hb
              rcases hat with hat | hat
              · refine HAP.out ?_
                unfold Value.ownBlock at hat
                cases A with
                | none => cases hat
                | some a => exact ⟨a, rfl, by injection hat with hat; rw [hat, hb]⟩
              · have h1 := hf3.size; have h2 := hb4.lt; omega
            have hl3 := (Below.heap_setCell w4 ⟨b3, 2, none⟩ (.slice (some ⟨g', 0, none⟩) (m + 1) cap') (D + 1) (fun h => n3 h.symm)).trans hlp4
            have hd3n : D ≠ b3 := fun e => by have e1 := hbx; rw [← e] at e1; unfold Blk at e1; rw [hdp] at e1; cases e1
            have hd3 := (Below.heap_setCell w4 ⟨b3, 2, none⟩ (.slice (some ⟨g', 0, none⟩) (m + 1) cap') D hd3n).trans hdp4
            have hs3 : (w4.setCell ⟨b3, 2, none⟩ (.slice (some ⟨g', 0, none⟩) (m + 1) cap')).heap.size = w4.heap.size := by simp [World.setCell]
            have hz4 := hf4.size
            refine ⟨_, _, rf_end HREC.out none hl3, ⟨rfl, ?_⟩⟩
            have hB : ∀ k, Own A k → w.heap.size ≤ k := fun k hk => (hor.bounds hk).1
            have hfS1 : Fr (fun k => w.heap.size ≤ k) V w4 := (hfp.mono (fun k _ h => by have h : k = D + 1 := h; omega)).trans (hf4.mono (fun k _ h => hB k h))
            have hfS2 : Fr (fun k => w.heap.size ≤ k) V (w4.setCell ⟨b3, 2, none⟩ (.slice (some ⟨g', 0, none⟩) (m + 1) cap')) := hfS1.setCell (p := ⟨b3, 2, none⟩) (.inl (by have := HWI.out.b3n; show w.heap.size ≤ b3; omega)) _
            have hfS : Fr (fun k => w.heap.size ≤ k) V ((w4.setCell ⟨b3, 2, none⟩ (.slice (some ⟨g', 0, none⟩) (m + 1) cap')).putObj (D + 1) (.loop (rec .ready none))) := hfS2.trans ((Fr.putObj _ _).mono (fun k _ h => by have h : k = D + 1 := h; omega))
            have hq : Fr (fun k => k = D + 1) (w4.setCell ⟨b3, 2, none⟩ (.slice (some ⟨g', 0, none⟩) (m + 1) cap')) ((w4.setCell ⟨b3, 2, none⟩ (.slice (some ⟨g', 0, none⟩) (m + 1) cap')).putObj (D + 1) (.loop (rec .ready none))) := Fr.putObj _ _
            refine ⟨⟨HJ.out.fr.then_ hfS (fun k hk h => by omega), hpts.fr hq n1, hrss.fr hq n2, ⟨some ⟨g', 0, none⟩, m + 1, cap', (hbx4.set_ 2 _).fr hq n3, ?_, hap4⟩, hb4s.fr hq n4, World.putObj_heap_same (by rw [hs3]; omega), (World.putObj_heap_other (by omega)).trans hd3, fun D' hD' => ?_, ?_⟩, hfS⟩
            · refine (hor4.fr ((Fr.refl (fun k => k = b3) w4).setCell (p := ⟨b3, 2, none⟩) (.inl rfl) _) (fun k hk h => ?_)).fr hq (fun k hk h => ?_)
              · have h : k = b3 := h
                subst h
                exact hor4.other hbx4 (by decide) hk
              · have h : k = D + 1 := h
                subst h
                exact hor4.notAt hlp4 (fun _ h => by cases h) hk
            · have hne : D' ≠ b3 := fun e => by have e1 := hbx; rw [← e] at e1; unfold Blk at e1; rw [hds D' hD'] at e1; cases e1
              exact (World.putObj_heap_other (hdsn D' hD')).trans ((Below.heap_setCell w4 ⟨b3, 2, none⟩ _ D' hne).trans (hds4 D' hD'))
            · simp [World.setCell]; omega
          have hmix : Tryd.prog.follows .mixedOrders = true := by kernel_rfl
          have hix : (i : Int) * (r : Int) ≤ 16384 := by have h := Nat.mul_le_mul (show i ≤ 128 by omega) hr; rw [← Int.natCast_mul]; omega
          have hix0 : 0 ≤ (i : Int) * (r : Int) := by rw [← Int.natCast_mul]; omega
          have hxI : (x : Int) ≤ 128 := by omega
          have hw1 : IntKind.i64.wrap ((i : Int) * (r : Int)) = (i : Int) * (r : Int) := IntWalk.i64_in _ (by omega)
          have hw2 : IntKind.i64.wrap ((i : Int) * (r : Int) + (x : Int)) = (i : Int) * (r : Int) + (x : Int) := IntWalk.i64_in _ (by omega)
          have NEWC : Hid (∀ j u, [Value.int .i64 ((i : Int) * (r : Int) + (x : Int))][j]? = some u → ((V2.alloc (.cells #[.int .i64 ((i : Int) * (r : Int) + (x : Int))] 3)).drew).cell? ((⟨V2.heap.size, 0, none⟩ : Addr).add j) = some u) := fun j u h => cell_one_new V2 _ _ j u h
          have hbase : w.heap.size ≤ V2.heap.size := by have := HDW.out; omega
          clear hfp hpt hrs hb4 hbx hor hlp hdp hds hdsn hsp hbr n1 n2 n3 n4 n5 HREC HJ HBX HOR HAP
          gi_wp2_with fail
          refine wpIn_region_heldR (S := fun w' => w'.cell? ⟨W.heap.size, 0, none⟩ = some (.int .i64 i) ∧ w'.cell? ⟨w.heap.size, 0, none⟩ = some (Ptr b) ∧ w'.cell? ⟨b, 0, none⟩ = some (.int .i64 r)) hmix (by kernel_rfl) ?hLO ⟨c4, cp, cr⟩ (fun hHeld => ?_)
          case hLO =>
            rintro ⟨a0, w0, h⟩
            exact (h : False)
          refine wpAnyH_take (i := 0) (v := ?v0) (by simp only [List.getElem?_toArray, List.getElem?_cons_zero]; rfl) (by kernel_rfl) (by kernel_rfl) (by kernel_rfl) (by exact fun _ _ _ h => h) (Or.inl ⟨by rfl, ?hy0⟩) (by assumption) ?rest0
          case hy0 => (intro w hSw; (try dsimp only at hSw); go_simp; try with_reducible rfl)
          ((try simp only [Act.put]); (try simp only [List.setIfInBounds_toArray]); (try simp only [List.set_cons_succ]); (try simp only [List.set_cons_zero]))
          refine wpAnyH_take (i := 2) (v := ?v2) (by simp only [List.getElem?_toArray, List.getElem?_cons_succ, List.getElem?_cons_zero]; rfl) (by kernel_rfl) (by kernel_rfl) (by kernel_rfl) (by exact fun _ _ _ h => h) (Or.inl ⟨by rfl, ?hy2⟩) (by assumption) ?rest2
          case hy2 => (intro w hSw; (try dsimp only at hSw); go_simp; try with_reducible rfl)
          ((try simp only [Act.put]); (try simp only [List.setIfInBounds_toArray]); (try simp only [List.set_cons_succ]); (try simp only [List.set_cons_zero]))
          refine wpAnyH_take (i := 3) (v := ?v3) (by simp only [List.getElem?_toArray, List.getElem?_cons_succ, List.getElem?_cons_zero]; rfl) (by kernel_rfl) (by kernel_rfl) (by kernel_rfl) (by exact fun _ _ _ h => h) (Or.inl ⟨by rfl, ?hy3⟩) (by assumption) ?rest3
          case hy3 => (intro w hSw; (try dsimp only at hSw); go_simp; try with_reducible rfl)
          ((try simp only [Act.put]); (try simp only [List.setIfInBounds_toArray]); (try simp only [List.set_cons_succ]); (try simp only [List.set_cons_zero]))
          refine wpAnyH_take (i := 4) (v := ?v4) (by simp only [List.getElem?_toArray, List.getElem?_cons_succ, List.getElem?_cons_zero]; rfl) (by kernel_rfl) (by kernel_rfl) (by kernel_rfl) (by exact fun _ _ _ h => h) (Or.inl ⟨by rfl, ?hy4⟩) (by assumption) ?rest4
          case hy4 => (intro w hSw; (try dsimp only at hSw); go_simp; try with_reducible rfl)
          ((try simp only [Act.put]); (try simp only [List.setIfInBounds_toArray]); (try simp only [List.set_cons_succ]); (try simp only [List.set_cons_zero]))
          refine wpAnyH_take (i := 5) (v := ?v5) (by simp only [List.getElem?_toArray, List.getElem?_cons_succ, List.getElem?_cons_zero]; rfl) (by kernel_rfl) (by kernel_rfl) (by kernel_rfl) (by exact fun _ _ _ h => h) (Or.inl ⟨by rfl, ?hy5⟩) (by assumption) ?rest5
          case hy5 => (intro w hSw; (try dsimp only at hSw); go_simp; try with_reducible rfl)
          ((try simp only [Act.put]); (try simp only [List.setIfInBounds_toArray]); (try simp only [List.set_cons_succ]); (try simp only [List.set_cons_zero]))
          refine wpAnyH_take (i := 6) (v := ?v6) (by simp only [List.getElem?_toArray, List.getElem?_cons_succ, List.getElem?_cons_zero]; rfl) (by kernel_rfl) (by kernel_rfl) (by kernel_rfl) (by exact fun _ _ _ h => h) (Or.inl ⟨by rfl, ?hy6⟩) (by assumption) ?rest6
          case hy6 => (intro w hSw; (try dsimp only at hSw); go_simp; try with_reducible rfl)
          ((try simp only [Act.put]); (try simp only [List.setIfInBounds_toArray]); (try simp only [List.set_cons_succ]); (try simp only [List.set_cons_zero]))
          refine wpAnyH_take (i := 7) (v := ?v7) (by simp only [List.getElem?_toArray, List.getElem?_cons_succ, List.getElem?_cons_zero]; rfl) (by kernel_rfl) (by kernel_rfl) (by kernel_rfl) (by exact fun _ _ _ h => h) (Or.inl ⟨by rfl, ?hy7⟩) (by assumption) ?rest7
          case hy7 => (intro w hSw; (try dsimp only at hSw); go_simp; try with_reducible rfl)
          ((try simp only [Act.put]); (try simp only [List.setIfInBounds_toArray]); (try simp only [List.set_cons_succ]); (try simp only [List.set_cons_zero]))
          refine wpAnyH_take (i := 8) (v := ?v8) (by simp only [List.getElem?_toArray, List.getElem?_cons_succ, List.getElem?_cons_zero]; rfl) (by kernel_rfl) (by kernel_rfl) (by kernel_rfl) (by exact fun _ _ _ h => h) (Or.inl ⟨by rfl, ?hy8⟩) (by assumption) ?rest8
          case hy8 => (intro w hSw; (try dsimp only at hSw); go_simp; try with_reducible rfl)
          ((try simp only [Act.put]); (try simp only [List.setIfInBounds_toArray]); (try simp only [List.set_cons_succ]); (try simp only [List.set_cons_zero]))
          refine wpAnyH_take (i := 9) (v := ?v9) (by simp only [List.getElem?_toArray, List.getElem?_cons_succ, List.getElem?_cons_zero]; rfl) (by kernel_rfl) (by kernel_rfl) (by kernel_rfl) (by exact fun _ _ _ h => h) (Or.inl ⟨by rfl, ?hy9⟩) (by assumption) ?rest9
          case hy9 => (intro w hSw; (try dsimp only at hSw); go_simp; try with_reducible rfl)
          ((try simp only [Act.put]); (try simp only [List.setIfInBounds_toArray]); (try simp only [List.set_cons_succ]); (try simp only [List.set_cons_zero]))
          refine wpAnyH_ready (rs := [1, 10]) (by kernel_rfl) (by simp) ?_
          refine AllReadyH.cons rfl (fun K hK => ?_) (AllReadyH.cons rfl (fun K hK => ?_) AllReadyH.nil)
          · go_simp
            refine hK.out _ _ (by assumption) (fun hH1 => ?_)
            clear hK K
            ((try simp only [Act.put]); (try simp only [List.setIfInBounds_toArray]); (try simp only [List.set_cons_succ]); (try simp only [List.set_cons_zero]))
            refine wpAnyH_ready (rs := [10]) (by kernel_rfl) (by simp) ?_
            refine AllReadyH.cons rfl (fun K hK => ?_) AllReadyH.nil
            go_simp
            refine hK.out _ _ (by refine ⟨?_, ?_, ?_⟩ <;> go_keep) (fun hH2 => ?_)
            clear hK K
            ((try simp only [Act.put]); (try simp only [List.setIfInBounds_toArray]); (try simp only [List.set_cons_succ]); (try simp only [List.set_cons_zero]))
            refine wpAnyH_ready (rs := [11]) (by kernel_rfl) (by simp) ?_
            refine AllReadyH.cons rfl (fun K hK => ?_) AllReadyH.nil
            refine step_append_lies _ (by rfl) _ _ _ (by rfl) w.heap.size 3 i0 (.int .i64 0) 1 8 Tryd.underlying28 hi0 hz0 hz1 hz2 (by rfl) (by decide) (.slice A m c) m (((pairsOf i r R ++ pre.map (i * r + ·)).map Int.ofNat).map (Value.int .i64)) (by rfl) (OWN.out _ ((Fr.refl No V2).alloc _).drew).1 ⟨_, 0, none⟩ 1 1 [.int .i64 ((i : Int) * (r : Int) + (x : Int))] (by rfl) (by rfl) (NEWC.out) (by simp [Value.oneCell']) (by decide) (by unfold maxLen; omega) (by omega) (OWN.out _ ((Fr.refl No V2).alloc _).drew).2 _ rfl ?_
            intro g4 cap4 w4 hown4 hgrow4 hat4 hlt4
            obtain ⟨k1, ⟨k2, k3, k4⟩, k5, k6⟩ := ARM.out g4 cap4 _ w4 ((Fr.refl No V2).alloc _).drew hown4 hgrow4 hat4
            clear hown4 hgrow4 hat4
            refine hK.out _ _ k1 (fun hH3 => ?_)
            clear hK K
            ((try simp only [Act.put]); (try simp only [List.setIfInBounds_toArray]); (try simp only [List.set_cons_succ]); (try simp only [List.set_cons_zero]))
            refine wpAnyH_take (i := 12) (v := ?v12a) (by simp only [List.getElem?_toArray, List.getElem?_cons_succ, List.getElem?_cons_zero]; rfl) (by kernel_rfl) (by kernel_rfl) (by kernel_rfl) (by exact fun _ _ _ h => h) (Or.inl ⟨by rfl, ?hy12a⟩) (by assumption) ?rest12a
            case hy12a => (intro w hSw; (try dsimp only at hSw); go_simp; try with_reducible rfl)
            ((try simp only [Act.put]); (try simp only [List.setIfInBounds_toArray]); (try simp only [List.set_cons_succ]); (try simp only [List.set_cons_zero]))
            refine wpAnyH_ready (rs := [13]) (by kernel_rfl) (by simp) ?_
            refine AllReadyH.cons rfl (fun K hK => ?_) AllReadyH.nil
            go_simp
            refine hK.out _ _ k5 (fun hH4 => ?_)
            clear hK K
            ((try simp only [Act.put]); (try simp only [List.setIfInBounds_toArray]); (try simp only [List.set_cons_succ]); (try simp only [List.set_cons_zero]))
            refine wpAnyH_done (by kernel_rfl) ?_ _
            exact k6.out { tmps := #[], defers := [] }
          · go_simp
            refine hK.out _ _ (by refine ⟨?_, ?_, ?_⟩ <;> go_keep) (fun hH2 => ?_)
            clear hK K
            ((try simp only [Act.put]); (try simp only [List.setIfInBounds_toArray]); (try simp only [List.set_cons_succ]); (try simp only [List.set_cons_zero]))
            refine wpAnyH_ready (rs := [1]) (by kernel_rfl) (by simp) ?_
            refine AllReadyH.cons rfl (fun K hK => ?_) AllReadyH.nil
            go_simp
            refine hK.out _ _ (by assumption) (fun hH1 => ?_)
            clear hK K
            ((try simp only [Act.put]); (try simp only [List.setIfInBounds_toArray]); (try simp only [List.set_cons_succ]); (try simp only [List.set_cons_zero]))
            refine wpAnyH_ready (rs := [11]) (by kernel_rfl) (by simp) ?_
            refine AllReadyH.cons rfl (fun K hK => ?_) AllReadyH.nil
            refine step_append_lies _ (by rfl) _ _ _ (by rfl) w.heap.size 3 i0 (.int .i64 0) 1 8 Tryd.underlying28 hi0 hz0 hz1 hz2 (by rfl) (by decide) (.slice A m c) m (((pairsOf i r R ++ pre.map (i * r + ·)).map Int.ofNat).map (Value.int .i64)) (by rfl) (OWN.out _ ((Fr.refl No V2).alloc _).drew).1 ⟨_, 0, none⟩ 1 1 [.int .i64 ((i : Int) * (r : Int) + (x : Int))] (by rfl) (by rfl) (NEWC.out) (by simp [Value.oneCell']) (by decide) (by unfold maxLen; omega) (by omega) (OWN.out _ ((Fr.refl No V2).alloc _).drew).2 _ rfl ?_
            intro g4 cap4 w4 hown4 hgrow4 hat4 hlt4
            obtain ⟨k1, ⟨k2, k3, k4⟩, k5, k6⟩ := ARM.out g4 cap4 _ w4 ((Fr.refl No V2).alloc _).drew hown4 hgrow4 hat4
            clear hown4 hgrow4 hat4
            refine hK.out _ _ k1 (fun hH3 => ?_)
            clear hK K
            ((try simp only [Act.put]); (try simp only [List.setIfInBounds_toArray]); (try simp only [List.set_cons_succ]); (try simp only [List.set_cons_zero]))
            refine wpAnyH_take (i := 12) (v := ?v12b) (by simp only [List.getElem?_toArray, List.getElem?_cons_succ, List.getElem?_cons_zero]; rfl) (by kernel_rfl) (by kernel_rfl) (by kernel_rfl) (by exact fun _ _ _ h => h) (Or.inl ⟨by rfl, ?hy12b⟩) (by assumption) ?rest12b
            case hy12b => (intro w hSw; (try dsimp only at hSw); go_simp; try with_reducible rfl)
            ((try simp only [Act.put]); (try simp only [List.setIfInBounds_toArray]); (try simp only [List.set_cons_succ]); (try simp only [List.set_cons_zero]))
            refine wpAnyH_ready (rs := [13]) (by kernel_rfl) (by simp) ?_
            refine AllReadyH.cons rfl (fun K hK => ?_) AllReadyH.nil
            go_simp
            refine hK.out _ _ k5 (fun hH4 => ?_)
            clear hK K
            ((try simp only [Act.put]); (try simp only [List.setIfInBounds_toArray]); (try simp only [List.set_cons_succ]); (try simp only [List.set_cons_zero]))
            refine wpAnyH_done (by kernel_rfl) ?_ _
            exact k6.out { tmps := #[], defers := [] }
        rintro e V ⟨hv, hj⟩
        refine ⟨hv, .ready, none, (fun h => by cases h), hj.lp, ?_⟩
        have hfp : Fr (fun k => k = D + 1) V (V.putObj (D + 1) (.loop (rec .exhausted none))) := Fr.putObj _ _
        have n1 : w.heap.size ≠ D + 1 := hj.pt.ne_of hj.lp (fun _ h => by cases h)
        have n2 : w.heap.size + 1 ≠ D + 1 := hj.rs.ne_of hj.lp (fun _ h => by cases h)
        obtain ⟨A, m, c, hbx, hor, hap⟩ := hj.bx
        have n3 : b3 ≠ D + 1 := hbx.ne_of hj.lp (fun _ h => by cases h)
        have n5 : ¬ Own A (D + 1) := hor.notAt hj.lp (fun _ h => by cases h)
        have NEXT : Hid (WI w b l r R b3 (i + 1) (D :: Ds) (V.putObj (D + 1) (.loop (rec .exhausted none)))) := by
          have hDW := HDW.out
          refine ⟨hj.fr.then_ hfp (fun k hk h => by have h : k = D + 1 := h; omega), hj.pt.fr hfp n1, hj.rs.fr hfp n2, ⟨A, m, c, hbx.fr hfp n3, ?_⟩, HWI.out.b3n, ?_, fun D' hD' => ?_⟩
          · have h := hor.fr hfp (fun k hk h => by have h : k = D + 1 := h; subst h; exact n5 hk)
            rw [HBITS.out.list] at h
            rw [pairsOf_succ]
            exact h
          · rw [List.nodup_cons]
            refine ⟨fun hD' => ?_, HW.out.nd⟩
            have h := (Array.getElem?_eq_some_iff.1 (HW.out.ds D hD').2).1
            omega
          · rcases List.mem_cons.1 hD' with e | hD'
            · subst e
              exact ⟨by omega, (World.putObj_heap_other (by omega)).trans hj.df⟩
            · refine ⟨(HW.out.ds D' hD').1, (World.putObj_heap_other ?_).trans (hj.ds D' hD')⟩
              have h := (Array.getElem?_eq_some_iff.1 (HW.out.ds D' hD').2).1
              omega
        show Exit.inBlock 2 _ .normal _ (V.putObj (D + 1) (.loop (rec .exhausted none)))
        generalize (V.putObj (D + 1) (.loop (rec .exhausted none))) = V3 at hfp NEXT ⊢
        clear hv hj hfp n1 n2 hbx hor hap n3 n5 hf1 hl1 hd1 hfW1 hfw J0 hfA hb4 hsA hD hD1 hT1 hW1 e2
        gi_wp2_with fail
        exact ⟨gk - 1, by omega, hJ _ _ _ ⟨i + 1, D :: Ds, _, _, _, _, _, _, _, _, _, _, _, _, _, _, _, _, _, _, _, _, _, _, _, _, _, _, _, _, _, _, _, _, _, _, _, _, _, _, _, by omega, NEXT.out, rfl⟩⟩
      · have hil : i = l := by omega
        have hnlt : ¬ (i : Int) < (l : Int) := by omega
        obtain ⟨A, m, c, hbx, hor⟩ := HW.out.bx
        have b0 : W.cell? ⟨b3, 0, none⟩ = some (.int .i64 l) := (hbx.cell 0).trans rfl
        have b1 : W.cell? ⟨b3, 1, none⟩ = some (.int .i64 r) := (hbx.cell 1).trans rfl
        have b2 : W.cell? ⟨b3, 2, none⟩ = some (.slice A m c) := (hbx.cell 2).trans rfl
        have a0 : W.cell? ⟨w.heap.size + 1, 0, none⟩ = some (.int .i64 0) := (HW.out.rs.cell 0).trans rfl
        have a1 : W.cell? ⟨w.heap.size + 1, 1, none⟩ = some (.int .i64 0) := (HW.out.rs.cell 1).trans rfl
        have a2 : W.cell? ⟨w.heap.size + 1, 2, none⟩ = some (.slice none 0 0) := (HW.out.rs.cell 2).trans rfl
        have f0 := HW.out.rs.frozen 0
        have f1 := HW.out.rs.frozen 1
        have f2 := HW.out.rs.frozen 2
        have HOR := Lib.hid hor
        have HIL := Lib.hid hil
        clear hbx hor hil hK hJ p0
        gi_wp2_with fail
        rw [HIL.out] at HOR
        obtain ⟨hfin, horF⟩ := ans_store (w := w) (k := w.heap.size + 1) (Nat.le_succ _) HW.out.fr HW.out.rs HOR.out (Nat.le_refl _) (.int .i64 l) (.int .i64 r) (.slice A m c)
        have hrsF : Blk (((W.setCell ⟨w.heap.size + 1, 0, none⟩ (.int .i64 l)).setCell ⟨w.heap.size + 1, 1, none⟩ (.int .i64 r)).setCell ⟨w.heap.size + 1, 2, none⟩ (.slice A m c)) (w.heap.size + 1) 30 #[.int .i64 l, .int .i64 r, .slice A m c] := ((HW.out.rs.set_ 0 (.int .i64 l)).set_ 1 (.int .i64 r)).set_ 2 (.slice A m c)
        have hdsF : ∀ D, D ∈ Ds → (((W.setCell ⟨w.heap.size + 1, 0, none⟩ (.int .i64 l)).setCell ⟨w.heap.size + 1, 1, none⟩ (.int .i64 r)).setCell ⟨w.heap.size + 1, 2, none⟩ (.slice A m c)).heap[D]? = some (.deferred (some [])) := fun D hD => by
          have h := (HW.out.ds D hD).2
          have hne : D ≠ w.heap.size + 1 := fun e => by have e1 := HW.out.rs; rw [← e] at e1; unfold Blk at e1; rw [h] at e1; cases e1
          exact (Below.heap_setCell _ ⟨w.heap.size + 1, 2, none⟩ _ D hne).trans ((Below.heap_setCell _ ⟨w.heap.size + 1, 1, none⟩ _ D hne).trans ((Below.heap_setCell _ ⟨w.heap.size + 1, 0, none⟩ _ D hne).trans h))
        generalize (((W.setCell ⟨w.heap.size + 1, 0, none⟩ (.int .i64 l)).setCell ⟨w.heap.size + 1, 1, none⟩ (.int .i64 r)).setCell ⟨w.heap.size + 1, 2, none⟩ (.slice A m c)) = WF at hfin horF hrsF hdsF ⊢
        refine leaves_marks Ds WF HW.out.nd hdsF fun w' hf => ?_
        have hrs' := hrsF.fr hf (fun hD => by have h := hdsF _ hD; unfold Blk at hrsF; rw [h] at hrsF; cases hrsF)
        have g0 : w'.cell? ⟨w.heap.size + 1, 0, none⟩ = some (.int .i64 l) := (hrs'.cell 0).trans rfl
        have g1 : w'.cell? ⟨w.heap.size + 1, 1, none⟩ = some (.int .i64 r) := (hrs'.cell 1).trans rfl
        have g2 : w'.cell? ⟨w.heap.size + 1, 2, none⟩ = some (.slice A m c) := (hrs'.cell 2).trans rfl
        refine ⟨RV l r A m c, by simp [results, Tryd.results66, go_sem, g0, g1, g2], A, m, c, rfl, hfin.then_ hf (fun k hk hD => by have := (HW.out.ds k hD).1; omega), horF.fr hf (fun k hk hD => horF.notAt (hdsF k hD) (fun _ h => by cases h) hk)⟩
  have hf0 : Fr No w ((w.alloc (.cells #[Ptr b] 93)).alloc (.cells #[.int .i64 0, .int .i64 0, .slice none 0 0] 30)) := ((Fr.refl No w).alloc _).alloc _
  have hb1 : Blk ((w.alloc (.cells #[Ptr b] 93)).alloc (.cells #[.int .i64 0, .int .i64 0, .slice none 0 0] 30)) w.heap.size 93 #[Ptr b] := (Blk.new _ _ _).alloc _
  have hb2 : Blk ((w.alloc (.cells #[Ptr b] 93)).alloc (.cells #[.int .i64 0, .int .i64 0, .slice none 0 0] 30)) (w.heap.size + 1) 30 #[.int .i64 0, .int .i64 0, .slice none 0 0] := Blk.new_at _ _ _ (by simp)
  have hs2 : ((w.alloc (.cells #[Ptr b] 93)).alloc (.cells #[.int .i64 0, .int .i64 0, .slice none 0 0] 30)).heap.size = w.heap.size + 2 := by simp
  generalize ((w.alloc (.cells #[Ptr b] 93)).alloc (.cells #[.int .i64 0, .int .i64 0, .slice none 0 0] 30)) = w2 at hf0 hb1 hb2 hs2 ⊢
  have c0 : w2.cell? ⟨w.heap.size, 0, none⟩ = some (Ptr b) := (hb1.cell 0).trans rfl
  have c1 : w2.cell? ⟨b, 0, none⟩ = some (.int .i64 r) := ((HBB.out.fr hf0 (fun h => h)).cell 0).trans rfl
  have c2 : w2.cell? ⟨b, 1, none⟩ = some (.slice (some ⟨Rb, 0, none⟩) l cap) := ((HBB.out.fr hf0 (fun h => h)).cell 1).trans rfl
  have HF0 := Lib.hid hf0
  have HB1 := Lib.hid hb1
  have HB2 := Lib.hid hb2
  have HS2 := Lib.hid hs2
  clear hf0 hb1 hb2 hs2 hK
  refine wpIn_wide.2 ?_
  go_region_held3 (fun w' => w'.cell? ⟨w.heap.size, 0, none⟩ = some (Ptr b) ∧ w'.cell? ⟨b, 0, none⟩ = some (.int .i64 r) ∧ w'.cell? ⟨b, 1, none⟩ = some (.slice (some ⟨Rb, 0, none⟩) l cap)) (go_keep) (fail)
  all_goals (show K _ _; refine REST.out _ _ _ _ _ _ _ _ _ _ _ _ _ ?_)
  · exact wi_start ((HF0.out.alloc _).alloc _).drew ((HB1.out.alloc _).alloc _) ((HB2.out.alloc _).alloc _) (Blk.new_at (w2.alloc (.cells #[] 3)) _ _ (by simp)) (((or_new w2).low HF0.out.size).no ((Fr.refl No _).alloc _).drew) (by have := HS2.out; omega)
  · exact wi_start ((HF0.out.alloc _).alloc _).drew ((HB1.out.alloc _).alloc _) ((HB2.out.alloc _).alloc _) ((Blk.new_at w2 _ _ rfl).alloc _) (by
      have h := (or_new (w2.alloc (.cells #[.int .i64 (l : Int), .int .i64 (r : Int), .slice (some ⟨w2.heap.size + 1, 0, none⟩) 0 0] 30))).low (B' := w.heap.size) (by have := HS2.out; simp; omega)
      refine OR.no (w := ((w2.alloc (.cells #[.int .i64 (l : Int), .int .i64 (r : Int), .slice (some ⟨w2.heap.size + 1, 0, none⟩) 0 0] 30)).alloc (.cells #[] 3))) ?_ (Fr.refl No _).drew
      simpa using h) (by have := HS2.out; omega)

theorem written_any (w : World) (b l r B : Nat) (R : Nat → Nat → Bool) (hl : l ≤ 128) (hr1 : 1 ≤ r) (hr : r ≤ 128) (hrel : RelAt w b l r B R) (hT : TZt w) :
    Calls Tryd.prog 66 #[Ptr b] w fun e w' => WriP l r R w e w' := written_w w b l r R hl hr1 hr hrel.wrel hT
end Go.Proofs.YtloecimlimoanaaDoor
