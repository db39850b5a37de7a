/- The law FnNumber: relations have one number each. -/
import Derived.Test.YticoeooeeejboaaDoorDrs
import Derived.Test.YticoeooeeejboaaDoorSam
import Derived.Test.YticoeooeeejboaaDoorGbk
import Derived.Test.YticoeooeeejboaaDoorRnum3
import Derived.Test.YticoeooeeejboaaDoorLrel
namespace Go.Proofs.YticoeooeeejboaaDoor
open Go.RowKit Go.ChangeMaps Go.Shelf

/-- the sum of the powers of the bits of a number -/
theorem pow_elems (x : Nat) : ∀ K, ((elems K x.testBit).map (2 ^ ·)).sum = x % 2 ^ K := by
  intro K
  induction K with
  | zero => simp [elems, Nat.mod_one]
  | succ K ih =>
    rw [elems_more, List.map_append, List.sum_append, ih, Nat.mod_pow_succ, Nat.testBit_eq_decide_div_mod_eq]
    rcases Nat.mod_two_eq_zero_or_one (x / 2 ^ K) with h | h <;> simp [h]

/-- so far -/
def sumP (es : List Nat) (i : Nat) : Nat := ((es.take i).map (2 ^ ·)).sum

theorem sumP_more {es : List Nat} {i p : Nat} (h : es[i]? = some p) : sumP es (i + 1) = sumP es i + 2 ^ p := by
  unfold sumP
  rw [List.take_add_one, h, List.map_append, List.sum_append]
  simp

theorem sumP_le (es : List Nat) (i : Nat) : sumP es i ≤ sumP es es.length := by
  unfold sumP
  rw [List.take_length]
  conv => rhs; rw [← List.take_append_drop i es, List.map_append, List.sum_append]
  omega

/-- three numbers that were drawn -/
def DrT (w : World) (e : Ending) (w' : World) : Prop := ∃ l r z : Int, e = .returned (.tuple #[.int .i64 l, .int .i64 r, .int .i64 z]) ∧ Fr No w w'

set_option maxRecDepth 100000 in
set_option maxHeartbeats 2000000 in
theorem drawRelNumber (w : World) (A : Option Addr) (n c : Nat) (hn : n ≤ maxLen) (hnc : n ≤ c) (hb : Byt w A n) :
    Calls Tryd.prog 22 #[.slice A n c] w fun e w' => DrT w e w' := by
  have OP := Lib.hid (open_any w A n c hn hnc hb)
  clear hb hn hnc
  go_enter Tryd.func22, Tryd.ntmps22
  go_wp2_with fail
  refine OP.out.mono ?_
  rintro e w1 ⟨r, A1, n1, c1, rfl, hf1, hr1, hd1⟩
  have PK := Lib.hid (pick_any w1 r A1 n1 c1 0 4 hd1 (by decide) (by decide) (by omega))
  have HF1 := Lib.hid hf1
  clear hf1 hd1 OP
  go_wp2_with fail
  refine PK.out.mono ?_
  rintro e w2 ⟨y, rfl, hy, hf2, hr2⟩
  have HF2 := Lib.hid (HF1.out.then_ hf2 (fun b hb e => by have e : b = r := e; omega))
  have PK2 := Lib.hid (pick_any w2 r A1 n1 c1 _ 5 hr2 (by decide) (by decide) (by omega))
  clear PK
  have PK := PK2
  clear PK2 hf2 hr2
  go_wp2_with fail
  refine PK.out.mono ?_
  rintro e w3 ⟨x, rfl, hx, hf3, hr3⟩
  have HF3 := Lib.hid (HF2.out.then_ hf3 (fun b hb e => by have e : b = r := e; omega))
  have PK2 := Lib.hid (pick_any w3 r A1 n1 c1 _ 250 hr3 (by decide) (by decide) (by omega))
  clear PK
  have PK := PK2
  clear PK2 hf3 hr3
  go_wp2_with fail
  refine PK.out.mono ?_
  rintro e w4 ⟨u, rfl, hu, hf4, hr4⟩
  have HF4 := Lib.hid (HF3.out.then_ hf4 (fun b hb e => by have e : b = r := e; omega))
  have PK2 := Lib.hid (pick_any w4 r A1 n1 c1 _ 3 hr4 (by decide) (by decide) (by omega))
  clear PK
  have PK := PK2
  clear PK2 hf4 hr4
  go_wp2_with fail
  refine PK.out.mono ?_
  rintro e w5 ⟨v, rfl, hv, hf5, hr5⟩
  have HF5 := Lib.hid (HF4.out.then_ hf5 (fun b hb e => by have e : b = r := e; omega))
  have PK2 := Lib.hid (pick_any w5 r A1 n1 c1 _ 20 hr5 (by decide) (by decide) (by omega))
  clear PK
  have PK := PK2
  clear PK2 hf5 hr5
  go_wp2_with fail
  refine PK.out.mono ?_
  rintro e w6 ⟨t, rfl, ht, hf6, hr6⟩
  have HF6 := Lib.hid (HF5.out.then_ hf6 (fun b hb e => by have e : b = r := e; omega))
  have hq1 : ((t : Int)).tdiv 19 = (t : Int) / 19 := Int.tdiv_eq_ediv_of_nonneg (by omega)
  have hq2 : (u : Int) * (1 + (v : Int)) = ((u * (1 + v) : Nat) : Int) := by simp
  have hq3 : u * (1 + v) ≤ 750 := Nat.le_trans (Nat.mul_le_mul (show u ≤ 250 by omega) (show 1 + v ≤ 3 by omega)) (by decide)
  have hq4 : (t : Int) / 19 * 1000 ≤ 1000 := by omega
  have hq5 : 0 ≤ (t : Int) / 19 * 1000 := by omega
  generalize u * (1 + v) = X at hq2 hq3
  have HE : Hid (∀ l r z : Int, DrT w (.returned (.tuple #[.int .i64 l, .int .i64 r, .int .i64 z])) w6) := fun l r z => ⟨l, r, z, rfl, HF6.out⟩
  clear hf6 hr6 PK
  go_wp2_with fail
  refine bodyPost_ret (results_tmp3 rfl _ _ _) rfl ?_
  exact HE.out _ _ _

set_option maxRecDepth 100000 in
set_option maxHeartbeats 8000000 in
theorem lawNumberP (w : World) (hT : TZt w) (A : Option Addr) (n c : Nat) (hn : n ≤ maxLen) (hnc : n ≤ c) (hb : Byt w A n) :
    Calls Tryd.prog 7 #[.slice A n c] w fun e w' => Yes w e w' := by
  have hn' := hn
  unfold maxLen at hn'
  by_cases hbig : 1048576 < n
  · have hd : decide ((1048576 : Int) < (n : Int)) = true := by simp; omega
    go_enter Tryd.func7, Tryd.ntmps7
    go_wp2_with fail
    go_ret
    exact ⟨rfl, Fr.refl _ _⟩
  have hd : decide ((1048576 : Int) < (n : Int)) = false := by simp; omega
  have DR := Lib.hid (drawRelNumber w A n c hn hnc hb)
  have HT := Lib.hid hT
  clear hb hbig hT
  go_enter Tryd.func7, Tryd.ntmps7
  go_wp2_with fail
  refine DR.out.mono ?_
  rintro e w1 ⟨l, r, z, rfl, hf1⟩
  have HF1 := Lib.hid hf1
  have FI := Lib.hid (implRelNumber w1 l r z (HT.out.fr HF1.out (fun h => h)))
  have FS : Hid (∀ V, Fr No w1 V → Calls Tryd.prog 24 #[.int .i64 l, .int .i64 r, .int .i64 z] V fun e w' => AnsR (relNumO l r z) V e w') := fun V hf => specRelNumber V l r z
  clear hf1 DR
  by_cases hok : NumOk l r z
  · rw [relNumO_yes hok] at FI FS
    obtain ⟨o1, o2, o3, o4, o5⟩ := id hok
    obtain ⟨lN, rfl⟩ : ∃ k : Nat, l = k := ⟨l.toNat, by omega⟩
    obtain ⟨rN, rfl⟩ : ∃ k : Nat, r = k := ⟨r.toNat, by omega⟩
    obtain ⟨zN, rfl⟩ : ∃ k : Nat, z = k := ⟨z.toNat, by omega⟩
    have eK : ((lN : Int) * (rN : Int)).toNat = lN * rN := by rw [← Int.natCast_mul]; rfl
    rw [eK, Int.toNat_natCast] at FI FS
    rw [eK] at o5
    have o3' : lN * rN ≤ 16 := by rw [← Int.natCast_mul] at o3; omega
    have o5' : zN < 2 ^ (lN * rN) := by exact_mod_cast o5
    have ho6 : lN ≤ 16 ∧ rN ≤ 16 := ⟨Nat.le_trans (Nat.le_mul_of_pos_right lN (by omega)) o3', Nat.le_trans (Nat.le_mul_of_pos_left rN (by omega)) o3'⟩
    have hE := pow_elems zN (lN * rN)
    rw [Nat.mod_eq_of_lt o5'] at hE
    have hz16 : zN < 65536 := Nat.lt_of_lt_of_le o5' (Nat.le_trans (Nat.pow_le_pow_right (by decide) o3') (by decide))
    have HRO : Hid (RelOk (lN : Int) (rN : Int) ((elems (lN * rN) zN.testBit).map Int.ofNat)) := by
      refine ⟨by omega, by omega, ?_, ?_⟩
      · rw [List.pairwise_map]
        exact ((sorted_range (lN * rN)).filter _).imp fun {a b} h => by simpa using h
      · intro p hp
        obtain ⟨q, hq, rfl⟩ := List.mem_map.1 hp
        have := List.mem_range.1 (List.mem_filter.1 hq).1
        rw [← Int.natCast_mul]
        exact ⟨Int.natCast_nonneg q, Int.ofNat_lt.2 this⟩
    have HEB : Hid (∀ p ∈ elems (lN * rN) zN.testBit, p < 16) := fun p hp => by
      have := List.mem_range.1 (List.mem_filter.1 hp).1
      omega
    have hel : (elems (lN * rN) zN.testBit).length ≤ 16 := Nat.le_trans (elems_len _ _) o3'
    have HS : Hid (sumP (elems (lN * rN) zN.testBit) (elems (lN * rN) zN.testBit).length = zN) := by
      show _ = _
      unfold sumP
      rw [List.take_length]
      exact hE
    have HLN : Hid (((elems (lN * rN) zN.testBit).map Int.ofNat).length = (elems (lN * rN) zN.testBit).length) := List.length_map _
    clear hok o1 o2 o3 o4 o5 o3' o5' eK hE ho6
    generalize elems (lN * rN) zN.testBit = es at *
    have hml : (es.map Int.ofNat).length = es.length := List.length_map _
    go_wp2_with fail
    refine FI.out.mono ?_
    rintro e w3 ⟨Ag, ng, cg, rfl, hf3, ho3⟩
    simp only [Option.getD_some, Option.isSome_some] at ho3 ⊢
    obtain ⟨W4, hW4, hfg, hbg⟩ : ∃ V, V = w3.alloc (.cells #[.int .i64 (lN : Int), .int .i64 (rN : Int), .slice Ag ng cg] 25) ∧ Fr No w3 V ∧ Blk V w3.heap.size 25 #[.int .i64 (lN : Int), .int .i64 (rN : Int), .slice Ag ng cg] := ⟨_, rfl, (Fr.refl _ _).alloc _, Blk.new _ _ _⟩
    have HBg : Hid (∀ V, Fr No W4 V → V.cell? ⟨w3.heap.size, 0, none⟩ = some (.int .i64 (lN : Int)) ∧ V.cell? ⟨w3.heap.size, 1, none⟩ = some (.int .i64 (rN : Int)) ∧ V.cell? ⟨w3.heap.size, 2, none⟩ = some (.slice Ag ng cg) ∧ w3.heap.size < V.heap.size) := fun V hf => by
      have hb := hbg.fr hf (fun h => h)
      exact ⟨(hb.cell 0).trans rfl, (hb.cell 1).trans rfl, (hb.cell 2).trans rfl, hb.lt⟩
    have HF4 := Lib.hid (hf3.trans hfg)
    have HO4 := Lib.hid (ho3.no hfg)
    clear hf3 ho3 hfg hbg FI
    subst hW4
    go_wp2_with fail
    refine (FS.out _ HF4.out).mono ?_
    rintro e w5 ⟨As, ns, cs, rfl, hf5, ho5⟩
    simp only [Option.getD_some, Option.isSome_some] at ho5 ⊢
    obtain ⟨W6, hW6, hfs, hbs⟩ : ∃ V, V = w5.alloc (.cells #[.int .i64 (lN : Int), .int .i64 (rN : Int), .slice As ns cs] 25) ∧ Fr No w5 V ∧ Blk V w5.heap.size 25 #[.int .i64 (lN : Int), .int .i64 (rN : Int), .slice As ns cs] := ⟨_, rfl, (Fr.refl _ _).alloc _, Blk.new _ _ _⟩
    have HBs : Hid (∀ V, Fr No W6 V → V.cell? ⟨w5.heap.size, 0, none⟩ = some (.int .i64 (lN : Int)) ∧ V.cell? ⟨w5.heap.size, 1, none⟩ = some (.int .i64 (rN : Int)) ∧ V.cell? ⟨w5.heap.size, 2, none⟩ = some (.slice As ns cs) ∧ w5.heap.size < V.heap.size) := fun V hf => by
      have hb := hbs.fr hf (fun h => h)
      exact ⟨(hb.cell 0).trans rfl, (hb.cell 1).trans rfl, (hb.cell 2).trans rfl, hb.lt⟩
    have HF6 := Lib.hid (hf5.trans hfs)
    have HG6 := Lib.hid (HO4.out.no HF6.out)
    have HO6 := Lib.hid (ho5.no hfs)
    clear hf5 ho5 hfs hbs FS HO4
    have hng : ng = es.length := HG6.out.1.trans hml
    have hns : ns = es.length := HO6.out.1.trans hml
    subst hng hns
    have SR1 : Hid (∀ V, Fr No W6 V → Calls Tryd.prog 15 #[RV (lN : Int) (rN : Int) Ag es.length cg, RV (lN : Int) (rN : Int) As es.length cs] V fun e w' => e = .returned (.bool true) ∧ Fr No V w') := fun V hf => by
      rw [← hml]
      refine (samer_any V (lN : Int) (rN : Int) Ag cg (es.map Int.ofNat) (lN : Int) (rN : Int) As cs (es.map Int.ofNat) (OR.isl (HG6.out.no hf)) (OR.isl (HO6.out.no hf)) (by first | omega | simp) (by first | omega | simp)).mono ?_
      rintro e w' ⟨b, rfl, hb, hf'⟩
      obtain rfl : b = true := hb.2 ⟨rfl, rfl, rfl⟩
      exact ⟨rfl, hf'⟩
    obtain ⟨a0, a1, a2, a3⟩ := HBg.out W6 HF6.out
    obtain ⟨b0, b1, b2, b3⟩ := HBs.out W6 (Fr.refl _ _)
    subst hW6
    go_wp2_with fail
    refine (SR1.out _ (Fr.refl _ _)).mono ?_
    rintro e w7 ⟨rfl, hf7⟩
    have HF7 := Lib.hid hf7
    clear a0 a1 a2 a3 b0 b1 b2 b3 hf7
    have HW7 : Hid (Fr No w w7) := HF1.out.trans (HF4.out.trans (HF6.out.trans HF7.out))
    have HG7 := Lib.hid (HG6.out.no HF7.out)
    have HFg7 := Lib.hid (HF6.out.trans HF7.out)
    obtain ⟨a0, a1, a2, a3⟩ := HBg.out w7 HFg7.out
    go_wp2_with fail
    go_loopw [10, 11] (fun s u wr => ∃ i : Nat, i ≤ es.length ∧ u = .int .i64 i ∧ s = .int .i64 (sumP es i : Nat) ∧ wr = w7) (fun _ u _ => es.length - (intOf u).toNat)
    case atStart => exact ⟨0, Nat.zero_le _, rfl, rfl, rfl⟩
    case round =>
      obtain ⟨i, hi, rfl, rfl, rfl⟩ := hrel
      by_cases hlt : i < es.length
      · have hiI : (i : Int) < (es.length : Int) := by omega
        obtain ⟨p, hp⟩ : ∃ p, es[i]? = some p := ⟨_, List.getElem?_eq_getElem hlt⟩
        have hp16 := HEB.out p (List.mem_of_getElem? hp)
        obtain ⟨g1, q1, e1, k1⟩ := (OR.isl HG7.out) i (p : Int) (by rw [List.getElem?_map, hp]; rfl)
        subst e1
        have HM := Lib.hid (sumP_more hp)
        have hsl := sumP_le es (i + 1)
        have hsm := HM.out
        rw [HS.out] at hsl
        have HSL : Hid (sumP es i + 2 ^ p ≤ zN) := by show _ ≤ _; omega
        clear hp hsl hsm
        generalize hSi : sumP es i = Si at *
        go_wp2_with fail
        go_loopw [12, 13] (fun v u wv => ∃ k : Nat, k ≤ p ∧ u = .int .i64 k ∧ v = .int .i64 ((2 ^ k : Nat) : Int) ∧ wv = wr) (fun _ u _ => p - (intOf u).toNat)
        case atStart => exact ⟨0, Nat.zero_le _, rfl, rfl, rfl⟩
        case round =>
          obtain ⟨k, hk, rfl, rfl, rfl⟩ := hrel
          by_cases hkp : k < p
          · have hkI : (k : Int) < (p : Int) := by omega
            have h2 : 2 ^ (k + 1) ≤ 2 ^ 16 := Nat.pow_le_pow_right (by decide) (by omega)
            have h3 : 2 ^ (k + 1) = 2 * 2 ^ k := by rw [Nat.pow_succ]; omega
            have HP3 := Lib.hid h3
            rw [h3] at h2
            clear h3
            generalize hX : 2 ^ k = X at *
            go_wp2_with fail
            go_roundw
            case rel => exact ⟨k + 1, by omega, by go_num, by rw [HP3.out]; congr 1, trivial⟩
            case measure => simp [intOf]; omega
          · have hkq : p = k := by omega
            subst hkq
            have hnl : ¬ (p : Int) < (p : Int) := by omega
            have hz := HSL.out
            have HM2 := HM
            generalize hX : 2 ^ p = X at *
            have HX := Lib.hid hX
            clear hX
            go_wp2_with fail
            go_roundw
            case rel => exact ⟨i + 1, by omega, by go_num, by rw [HM2.out]; congr 1, trivial⟩
            case measure => simp [intOf]; omega
      · have hie : es.length = i := by omega
        have hnl : ¬ (i : Int) < (es.length : Int) := by omega
        have hsz : (sumP es i : Int) = (zN : Int) := by rw [← hie, HS.out]
        have VI : Hid (Calls Tryd.prog 25 #[RV (lN : Int) (rN : Int) Ag es.length cg] wr fun e w' => e = .returned (.bool true) ∧ Fr No wr w') := by
          have h := implRelValid wr (lN : Int) (rN : Int) Ag cg (es.map Int.ofNat) (OR.isl HG7.out) (by omega)
          rw [hml] at h
          refine h.mono ?_
          rintro e w' ⟨b, rfl, hb, hf⟩
          obtain rfl : b = true := hb.2 HRO.out
          exact ⟨rfl, hf⟩
        rw [hsz]
        clear hie hsz
        go_wp2_with fail
        refine VI.out.mono ?_
        rintro e w9 ⟨rfl, hf9⟩
        have HEND := Lib.hid (HW7.out.trans hf9)
        clear hf9
        go_wp2_with fail
        go_ret
        exact ⟨rfl, HEND.out⟩
  · rw [relNumO_no hok] at FI FS
    clear hok
    go_wp2_with fail
    refine FI.out.mono ?_
    rintro e w3 ⟨Ag, ng, cg, rfl, hf3, ho3⟩
    simp only [Option.getD_none, Option.isSome_none] at ho3 ⊢
    obtain ⟨W4, hW4, hfg, hbg⟩ : ∃ V, V = w3.alloc (.cells #[.int .i64 0, .int .i64 0, .slice Ag ng cg] 25) ∧ Fr No w3 V ∧ Blk V w3.heap.size 25 #[.int .i64 0, .int .i64 0, .slice Ag ng cg] := ⟨_, rfl, (Fr.refl _ _).alloc _, Blk.new _ _ _⟩
    have HBg : Hid (∀ V, Fr No W4 V → V.cell? ⟨w3.heap.size, 0, none⟩ = some (.int .i64 0) ∧ V.cell? ⟨w3.heap.size, 1, none⟩ = some (.int .i64 0) ∧ V.cell? ⟨w3.heap.size, 2, none⟩ = some (.slice Ag ng cg) ∧ w3.heap.size < V.heap.size) := fun V hf => by
      have hb := hbg.fr hf (fun h => h)
      exact ⟨(hb.cell 0).trans rfl, (hb.cell 1).trans rfl, (hb.cell 2).trans rfl, hb.lt⟩
    have HF4 := Lib.hid (hf3.trans hfg)
    have HO4 := Lib.hid (ho3.no hfg)
    clear hf3 ho3 hfg hbg FI
    subst hW4
    go_wp2_with fail
    refine (FS.out _ HF4.out).mono ?_
    rintro e w5 ⟨As, ns, cs, rfl, hf5, ho5⟩
    simp only [Option.getD_none, Option.isSome_none] at ho5 ⊢
    obtain ⟨W6, hW6, hfs, hbs⟩ : ∃ V, V = w5.alloc (.cells #[.int .i64 0, .int .i64 0, .slice As ns cs] 25) ∧ Fr No w5 V ∧ Blk V w5.heap.size 25 #[.int .i64 0, .int .i64 0, .slice As ns cs] := ⟨_, rfl, (Fr.refl _ _).alloc _, Blk.new _ _ _⟩
    have HBs : Hid (∀ V, Fr No W6 V → V.cell? ⟨w5.heap.size, 0, none⟩ = some (.int .i64 0) ∧ V.cell? ⟨w5.heap.size, 1, none⟩ = some (.int .i64 0) ∧ V.cell? ⟨w5.heap.size, 2, none⟩ = some (.slice As ns cs) ∧ w5.heap.size < V.heap.size) := fun V hf => by
      have hb := hbs.fr hf (fun h => h)
      exact ⟨(hb.cell 0).trans rfl, (hb.cell 1).trans rfl, (hb.cell 2).trans rfl, hb.lt⟩
    have HF6 := Lib.hid (hf5.trans hfs)
    have HG6 := Lib.hid (HO4.out.no HF6.out)
    have HO6 := Lib.hid (ho5.no hfs)
    clear hf5 ho5 hfs hbs FS HO4
    have hng : ng = 0 := HG6.out.1
    have hns : ns = 0 := HO6.out.1
    subst hng hns
    have SR1 : Hid (∀ V, Fr No W6 V → Calls Tryd.prog 15 #[RV 0 0 Ag 0 cg, RV 0 0 As 0 cs] V fun e w' => e = .returned (.bool true) ∧ Fr No V w') := fun V hf => by
      refine (samer_any V 0 0 Ag cg ([] : List Int) 0 0 As cs ([] : List Int) (OR.isl (HG6.out.no hf)) (OR.isl (HO6.out.no hf)) (by first | omega | simp) (by first | omega | simp)).mono ?_
      rintro e w' ⟨b, rfl, hb, hf'⟩
      obtain rfl : b = true := hb.2 ⟨rfl, rfl, rfl⟩
      exact ⟨rfl, hf'⟩
    obtain ⟨a0, a1, a2, a3⟩ := HBg.out W6 HF6.out
    obtain ⟨b0, b1, b2, b3⟩ := HBs.out W6 (Fr.refl _ _)
    subst hW6
    go_wp2_with fail
    refine (SR1.out _ (Fr.refl _ _)).mono ?_
    rintro e w7 ⟨rfl, hf7⟩
    have HF7 := Lib.hid hf7
    clear a0 a1 a2 a3 b0 b1 b2 b3 hf7
    obtain ⟨a0, a1, a2, a3⟩ := HBg.out w7 (HF6.out.trans HF7.out)
    obtain ⟨b0, b1, b2, b3⟩ := HBs.out w7 HF7.out
    go_wp2_with fail
    refine (SR1.out w7 HF7.out).mono ?_
    rintro e w8 ⟨rfl, hf8⟩
    have HEND := Lib.hid (HF1.out.trans (HF4.out.trans (HF6.out.trans (HF7.out.trans hf8))))
    clear hf8
    go_wp2_with fail
    go_ret
    exact ⟨rfl, HEND.out⟩
end Go.Proofs.YticoeooeeejboaaDoor
