/- The law FnGraph: a graph is a function. -/
import Derived.Test.YtbdmlogkedpbdaaDoorDrr
import Derived.Test.YtbdmlogkedpbdaaDoorSam
import Derived.Test.YtbdmlogkedpbdaaDoorGjn
import Derived.Test.YtbdmlogkedpbdaaDoorJn2
namespace Go.Proofs.YtbdmlogkedpbdaaDoor
open Go.RowKit Go.ChangeMaps Go.Shelf

/-- the second list -/
def secL (m N : Nat) : List Int := (List.range N).map fun j => (((j * 2 + m) % 3 : Nat) : Int)

theorem secL_more (m N : Nat) : secL m (N + 1) = secL m N ++ [(((N * 2 + m) % 3 : Nat) : Int)] := by
  unfold secL
  rw [List.range_succ, List.map_append]
  rfl

theorem secL_len (m N : Nat) : (secL m N).length = N := by simp [secL]

theorem secL_ok {m N : Nat} (h1 : 1 ≤ N) (h2 : N ≤ 4) : GraphOk (secL m N) 3 := by
  refine ⟨by rw [secL_len]; omega, by omega, fun z hz => ?_⟩
  unfold secL at hz
  obtain ⟨j, _, rfl⟩ := List.mem_map.1 hz
  omega

/-- one list behind the other -/
def bothL (lst sec : List Int) (k : Nat) : List Int := (List.range k).map fun i => sec.getD (lst.getD i 0).toNat 0

theorem bothL_more (lst sec : List Int) (k : Nat) : bothL lst sec (k + 1) = bothL lst sec k ++ [sec.getD (lst.getD k 0).toNat 0] := by
  unfold bothL
  rw [List.range_succ, List.map_append]
  rfl

theorem bothL_len (lst sec : List Int) (k : Nat) : (bothL lst sec k).length = k := by simp [bothL]

theorem bothL_at (lst sec : List Int) {k i : Nat} (h : i < k) : (bothL lst sec k).getD i 0 = sec.getD (lst.getD i 0).toNat 0 := by
  unfold bothL
  rw [List.getD_eq_getElem?_getD, List.getElem?_map, List.getElem?_range h]
  rfl

set_option maxRecDepth 100000 in
set_option maxHeartbeats 8000000 in
theorem lawGraphP (w : World) (hT : TZt w) (A : Option Addr) (n c : Nat) (hn : n ≤ maxLen) (hnc : n ≤ c) (hb : Byt w A n) (A2 : Option Addr) (n2 c2 : Nat) (hn2 : n2 ≤ maxLen) (_ : n2 ≤ c2) (_ : Byt w A2 n2) :
    Calls Tryd.prog 3 #[.slice A n c, .slice A2 n2 c2] w fun e w' => Yes w e w' := by
  obtain ⟨i0, hi0, hz0, hz1, hz2⟩ := info_parts info_int
  have hn' := hn
  have hn2' := hn2
  unfold maxLen at hn' hn2'
  by_cases hbig : 1048576 < n
  · have hd : decide ((1048576 : Int) < (n : Int)) = true := by simp; omega
    go_enter Tryd.func3, Tryd.ntmps3
    go_wp2_with fail
    go_ret
    exact ⟨rfl, Fr.refl _ _⟩
  have hd : decide ((1048576 : Int) < (n : Int)) = false := by simp; omega
  by_cases hbig2 : 1048576 < n2
  · have hd2 : decide ((1048576 : Int) < (n2 : Int)) = true := by simp; omega
    go_enter Tryd.func3, Tryd.ntmps3
    go_wp2_with fail
    go_ret
    exact ⟨rfl, Fr.refl _ _⟩
  have hd2 : decide ((1048576 : Int) < (n2 : Int)) = false := by simp; omega
  have DR := Lib.hid (drawRelGraph w A n c hn hnc hb)
  have HT := Lib.hid hT
  have hm2 : n2 ≤ 1048576 := by omega
  clear hb hbig hbig2 hT
  go_enter Tryd.func3, Tryd.ntmps3
  go_wp2_with fail
  refine DR.out.mono ?_
  rintro e w1 ⟨xs, B, cp, N, rfl, ho1, hl1, ⟨hN1, hN2⟩, hf1⟩
  have HF1 := Lib.hid hf1
  have HO1 := Lib.hid ho1
  have GI := Lib.hid (implRelGraph w1 B xs cp N (OR.isl ho1) (by omega) (HT.out.fr hf1 (fun h => h)))
  have GS : Hid (∀ V, Fr No w1 V → Calls Tryd.prog 13 #[.slice B xs.length cp, .int .i64 N] V fun e w' => AnsR (graphO xs N) V e w') := fun V hf => specRelGraph V B xs cp N (OR.isl (ho1.no hf)) (by omega)
  clear hf1 ho1 DR
  by_cases hok : GraphOk xs (N : Int)
  · rw [graphO_yes hok] at GI GS
    have HOK := Lib.hid hok
    clear hok
    go_wp2_with fail
    refine GI.out.mono ?_
    rintro e w2 ⟨Ag, ng, cg, rfl, hf2, ho2⟩
    simp only [Option.getD_some, Option.isSome_some] at ho2 ⊢
    obtain ⟨W3, hW3, hf7, hb7⟩ : ∃ V, V = w2.alloc (.cells #[.int .i64 (xs.length : Int), .int .i64 (N : Int), .slice Ag ng cg] 27) ∧ Fr No w2 V ∧ Blk V w2.heap.size 27 #[.int .i64 (xs.length : Int), .int .i64 (N : Int), .slice Ag ng cg] := ⟨_, rfl, (Fr.refl _ _).alloc _, Blk.new _ _ _⟩
    have HB7 : Hid (∀ V, Fr No W3 V → V.cell? ⟨w2.heap.size, 0, none⟩ = some (.int .i64 (xs.length : Int)) ∧ V.cell? ⟨w2.heap.size, 1, none⟩ = some (.int .i64 (N : Int)) ∧ V.cell? ⟨w2.heap.size, 2, none⟩ = some (.slice Ag ng cg) ∧ w2.heap.size < V.heap.size) := fun V hf => by
      have hb := hb7.fr hf (fun h => h)
      exact ⟨(hb.cell 0).trans rfl, (hb.cell 1).trans rfl, (hb.cell 2).trans rfl, hb.lt⟩
    have HF3 := Lib.hid (hf2.trans hf7)
    have HO3 := Lib.hid (ho2.no hf7)
    clear hf2 ho2 hf7 hb7 GI
    go_wp2_with fail
    rw [← hW3]
    clear hW3
    refine (GS.out _ HF3.out).mono ?_
    rintro e w4 ⟨As, ns, cs, rfl, hf4, ho4⟩
    simp only [Option.getD_some, Option.isSome_some] at ho4 ⊢
    obtain ⟨W5, hW5, hf9, hb9⟩ : ∃ V, V = w4.alloc (.cells #[.int .i64 (xs.length : Int), .int .i64 (N : Int), .slice As ns cs] 27) ∧ Fr No w4 V ∧ Blk V w4.heap.size 27 #[.int .i64 (xs.length : Int), .int .i64 (N : Int), .slice As ns cs] := ⟨_, rfl, (Fr.refl _ _).alloc _, Blk.new _ _ _⟩
    have HB9 : Hid (∀ V, Fr No W5 V → V.cell? ⟨w4.heap.size, 0, none⟩ = some (.int .i64 (xs.length : Int)) ∧ V.cell? ⟨w4.heap.size, 1, none⟩ = some (.int .i64 (N : Int)) ∧ V.cell? ⟨w4.heap.size, 2, none⟩ = some (.slice As ns cs) ∧ w4.heap.size < V.heap.size) := fun V hf => by
      have hb := hb9.fr hf (fun h => h)
      exact ⟨(hb.cell 0).trans rfl, (hb.cell 1).trans rfl, (hb.cell 2).trans rfl, hb.lt⟩
    have HF5 := Lib.hid (hf4.trans hf9)
    have HG5 := Lib.hid (HO3.out.no HF5.out)
    have HO5 := Lib.hid (ho4.no hf9)
    clear hf4 ho4 hf9 hb9 HO3 GS
    have hng : ng = (graphL xs N xs.length).length := HG5.out.1
    have hns : ns = (graphL xs N xs.length).length := HO5.out.1
    subst hng hns
    have hgl : (graphL xs N xs.length).length ≤ 4 := by rw [graphL_len]; exact hl1
    have SR := Lib.hid (samer_any W5 (xs.length : Int) N Ag cg (graphL xs N xs.length) (xs.length : Int) N As cs (graphL xs N xs.length) (OR.isl HG5.out) (OR.isl HO5.out) (by omega) (by omega))
    obtain ⟨a0, a1, a2, a3⟩ := HB7.out W5 HF5.out
    obtain ⟨b0, b1, b2, b3⟩ := HB9.out W5 (Fr.refl _ _)
    subst hW5
    go_wp2_with fail
    refine SR.out.mono ?_
    rintro e w6 ⟨b, rfl, hb, hf6⟩
    obtain rfl : b = true := hb.2 ⟨rfl, rfl, rfl⟩
    have HF6 := Lib.hid (HF5.out.trans hf6)
    have HG6 := Lib.hid (HG5.out.no hf6)
    clear hf6 hb SR a0 a1 a2 a3 b0 b1 b2 b3 HG5 HO5 HB9
    obtain ⟨a0, a1, a2, a3⟩ := HB7.out w6 HF6.out
    have HFW6 : Hid (Fr No w w6) := HF1.out.trans (HF3.out.trans HF6.out)
    have FI := Lib.hid (implRelFun w6 (xs.length : Int) N Ag cg (graphL xs N xs.length) (OR.isl HG6.out) (by omega) (HT.out.fr HFW6.out (fun h => h)))
    rw [fun_graph HOK.out] at FI
    go_wp2_with fail
    refine FI.out.mono ?_
    rintro e w7 ⟨A8, n8, c8, rfl, hf8, ho8⟩
    simp only [Option.getD_some, Option.isSome_some] at ho8 ⊢
    have hn8 : n8 = xs.length := ho8.1
    subst hn8
    have HF7 := Lib.hid (HF6.out.trans hf8)
    have HFW7 := Lib.hid (HFW6.out.trans hf8)
    have HG7 := Lib.hid (HG6.out.no hf8)
    have HO8 := Lib.hid ho8
    have HO1' : Hid (OR w7 w.heap.size B xs.length cp xs) := HO1.out.no (HF3.out.trans HF7.out)
    clear hf8 ho8 FI a0 a1 a2 a3 HG6 HFW6 HF6
    obtain ⟨W9, hW9, hf9, ho9, hp9, hs9⟩ : ∃ V, V = (w7.alloc (.cells #[] 3)).alloc (.cells #[] 3) ∧ Fr No w7 V ∧ OR V w7.heap.size (some ⟨w7.heap.size, 0, none⟩) 0 0 [] ∧ OR V (w7.heap.size + 1) (some ⟨w7.heap.size + 1, 0, none⟩) 0 0 [] ∧ V.heap.size = w7.heap.size + 2 := by
      have h2 := or_new (w7.alloc (.cells #[] 3))
      have e : (w7.alloc (.cells #[] 3)).heap.size = w7.heap.size + 1 := by simp
      rw [e] at h2
      exact ⟨_, rfl, ((Fr.refl _ _).alloc _).alloc _, (or_new w7).no ((Fr.refl _ _).alloc _), h2, by simp⟩
    have HF9 := Lib.hid hf9
    have HO9 := Lib.hid ho9
    have HP9 := Lib.hid hp9
    have HS9 := Lib.hid hs9
    clear hf9 ho9 hp9 hs9
    have hm2I : (n2 : Int) ≤ 1048576 := by omega
    have hNI : (N : Int) ≤ 4 := by omega
    go_wp2_with fail
    rw [← hW9]
    clear hW9
    go_loopw [13, 15] (fun v u wr => ∃ (j q cp : Nat) (B' : Option Addr), j ≤ N ∧ u = .int .i64 j ∧ v = .slice B' q cp ∧ Fr (One w7.heap.size) W9 wr ∧ OR wr w7.heap.size B' q cp (secL n2 j) ∧ q = j ∧ ∀ b, Own B' b → b = w7.heap.size ∨ W9.heap.size ≤ b) (fun _ u _ => N - (intOf u).toNat)
    case atStart => exact ⟨0, 0, 0, _, Nat.zero_le _, rfl, rfl, Fr.refl _ _, HO9.out, rfl, fun b ⟨a, ha, hb⟩ => by injection ha with ha; subst ha; exact .inl hb.symm⟩
    case round =>
      obtain ⟨j, q, cpq, B', hj, rfl, rfl, hfr, hor, rfl, how⟩ := hrel
      have HFR := Lib.hid hfr
      have HOR := Lib.hid hor
      have HOW := Lib.hid how
      clear hfr hor how
      by_cases hlt : q < N
      · have hqI : (q : Int) < (N : Int) := by omega
        have hown := HOR.out.2
        have hw1 : IntKind.i64.wrap ((q : Int) * 2) = (q : Int) * 2 := IntWalk.i64_in _ (by omega)
        have hw2 : IntKind.i64.wrap ((q : Int) * 2 + (n2 : Int)) = (q : Int) * 2 + (n2 : Int) := IntWalk.i64_in _ (by omega)
        have hw3 : ((q : Int) * 2 + (n2 : Int)).tmod 3 = (((q * 2 + n2) % 3 : Nat) : Int) := by rw [Int.tmod_eq_emod_of_nonneg (by omega)]; omega
        have hwl : w7.heap.size ≤ wr.heap.size := by have := HFR.out.size; have := HS9.out; omega
        have hws : W9.heap.size ≤ wr.heap.size := HFR.out.size
        generalize hZ : (((q * 2 + n2) % 3 : Nat) : Int) = Z at hw3
        have HZ := Lib.hid hZ
        clear hZ
        have ARM : Hid (∀ (v' : Value) (w6 : World), w6.ownsRow w7.heap.size 3 1 v' (q + 1) ((secL n2 q).map (Value.int .i64) ++ [.int .i64 Z]) → (wr.alloc (.cells #[.int .i64 Z] 3)).grownBy w6 (Value.slice B' q cpq).ownBlock → (v'.ownBlock = (Value.slice B' q cpq).ownBlock ∨ v'.ownBlock = some (wr.alloc (.cells #[.int .i64 Z] 3)).heap.size) → ∃ g' cap', v' = .slice (some ⟨g', 0, none⟩) (q + 1) cap' ∧ Hid (Fr (One w7.heap.size) W9 w6 ∧ OR w6 w7.heap.size (some ⟨g', 0, none⟩) (q + 1) cap' (secL n2 (q + 1)) ∧ ∀ b, Own (some (⟨g', 0, none⟩ : Addr)) b → b = w7.heap.size ∨ W9.heap.size ≤ b)) := by
          intro v' w6 ho hg hv
          obtain ⟨g', cap', rfl⟩ := ownsRow_succ ho
          have hown : ∀ k, (Value.slice B' q cpq).ownBlock = some k → k = w7.heap.size ∨ W9.heap.size ≤ k := fun k hk => by
            cases B' with
            | none => cases hk
            | some a => exact HOW.out k ⟨a, rfl, by injection hk⟩
          refine ⟨g', cap', rfl, (HFR.out.alloc _).grown hg (fun k hk => (hown k hk).elim .inl .inr), ?_, ?_⟩
          · rw [secL_more, HZ.out]
            exact ⟨by rw [List.length_append, secL_len]; rfl, by simpa using ho⟩
          · rintro b ⟨a, ha, rfl⟩
            injection ha with ha
            subst ha
            rcases hv with hv | hk
            · exact hown _ hv.symm
            · injection hk with hk
              have hk : g' = (wr.alloc (.cells #[.int .i64 Z] 3)).heap.size := hk
              right
              have : (wr.alloc (.cells #[.int .i64 Z] 3)).heap.size = wr.heap.size + 1 := by simp
              show W9.heap.size ≤ g'
              omega
        clear hws
        go_wp2_with (at_builtin; refine wpList_append_own_at _ rfl _ _ 23 rfl w7.heap.size 3 i0 (.int .i64 0) 1 8 Tryd.underlying23 hi0 hz0 hz1 hz2 rfl (by decide) _ _ _ rfl (hown.alloc _) ⟨wr.heap.size, 0, none⟩ 1 1 [.int .i64 Z] rfl rfl (cell_one_new _ _ _) (by simp [Value.oneCell']) (by unfold maxLen; omega) (by omega) (by simp; omega) ?_; intro v' w6 hown' hgrow _ hvv; obtain ⟨g', cap', rfl, HN⟩ := ARM.out v' w6 hown' hgrow hvv; clear hown' hgrow hvv)
        go_roundw
        case rel => exact ⟨q + 1, q + 1, cap', _, by omega, by go_num, rfl, HN.out.1, HN.out.2.1, rfl, HN.out.2.2⟩
        case measure => simp [intOf]; omega
      · have hqN : N = q := by omega
        subst hqN
        have HFa : Hid (Fr No w7 wr) := HF9.out.then_ HFR.out (fun b hb h => by have h : b = w7.heap.size := h; omega)
        have HPa : Hid (OR wr (w7.heap.size + 1) (some ⟨w7.heap.size + 1, 0, none⟩) 0 0 []) := HP9.out.fr HFR.out (fun b ⟨a, ha, hb⟩ h => by
          injection ha with ha
          subst ha
          have h : b = w7.heap.size := h
          have hb : w7.heap.size + 1 = b := hb
          omega)
        have HOa := HOR
        have HO1a : Hid (OR wr w.heap.size B xs.length cp xs) := HO1'.out.no HFa.out
        have hsa : w7.heap.size + 2 ≤ wr.heap.size := by have := HFR.out.size; have := HS9.out; omega
        have hS9 : W9.heap.size = w7.heap.size + 2 := HS9.out
        clear HFR
        go_wp2_with fail
        generalize wr = wa at *
        go_loopw [14, 16] (fun v u wv => ∃ (i q cp2 : Nat) (B2 : Option Addr), i ≤ xs.length ∧ u = .int .i64 i ∧ v = .slice B2 q cp2 ∧ Fr (One (w7.heap.size + 1)) wa wv ∧ OR wv (w7.heap.size + 1) B2 q cp2 (bothL xs (secL n2 N) i) ∧ q = i ∧ ∀ b, Own B2 b → b = w7.heap.size + 1 ∨ wa.heap.size ≤ b) (fun _ u _ => xs.length - (intOf u).toNat)
        case atStart => exact ⟨0, 0, 0, _, Nat.zero_le _, rfl, rfl, Fr.refl _ _, HPa.out, rfl, fun b ⟨a, ha, hb⟩ => by injection ha with ha; subst ha; exact .inl hb.symm⟩
        case round =>
          obtain ⟨i, q, cq, B2, hi, rfl, rfl, hfr, hor, rfl, how⟩ := hrel
          have HFv := Lib.hid hfr
          have HFw : Hid (Fr No w7 wr) := HFa.out.then_ hfr (fun b hb h => by have h : b = w7.heap.size + 1 := h; omega)
          have HOb := Lib.hid hor
          have HOX := Lib.hid how
          have HSb : Hid (OR wr w7.heap.size B' N cpq (secL n2 N)) := HOa.out.fr hfr (fun b hb h => by
            have h : b = w7.heap.size + 1 := h
            rcases HOW.out b hb with h1 | h1 <;> omega)
          have HXb : Hid (OR wr w.heap.size B xs.length cp xs) := HO1a.out.fr hfr (fun b hb h => by
            have h : b = w7.heap.size + 1 := h
            have := (HO1'.out.bounds hb).2
            omega)
          clear hfr hor how
          by_cases hlt : q < xs.length
          · have hqI : (q : Int) < (xs.length : Int) := by omega
            obtain ⟨zI, hzI⟩ : ∃ z, xs[q]? = some z := ⟨_, List.getElem?_eq_getElem hlt⟩
            have hzb := HOK.out.2.2 zI (List.mem_of_getElem? hzI)
            obtain ⟨z, rfl⟩ : ∃ z : Nat, zI = z := ⟨zI.toNat, by omega⟩
            have hzN : z < N := by omega
            have hzNI : (z : Int) < (N : Int) := by omega
            obtain ⟨V, hV⟩ : ∃ V, (secL n2 N)[z]? = some V := ⟨_, List.getElem?_eq_getElem (by rw [secL_len]; exact hzN)⟩
            obtain ⟨g1, o1, e1, k1⟩ := (OR.isl HXb.out) q _ hzI
            obtain ⟨g2, o2, e2, k2⟩ := (OR.isl HSb.out) z _ hV
            subst e1
            subst e2
            have HV : Hid (bothL xs (secL n2 N) (q + 1) = bothL xs (secL n2 N) q ++ [V]) := by
              show _ = _
              rw [bothL_more]
              congr 2
              rw [List.getD_eq_getElem?_getD, List.getD_eq_getElem?_getD, hzI, Option.getD_some, Int.toNat_natCast, hV, Option.getD_some]
            have hown := HOb.out.2
            have hwl : w7.heap.size + 1 ≤ wr.heap.size := by have := HFv.out.size; omega
            have hws : wa.heap.size ≤ wr.heap.size := HFv.out.size
            have ARM : Hid (∀ (v' : Value) (w6 : World), w6.ownsRow (w7.heap.size + 1) 3 1 v' (q + 1) ((bothL xs (secL n2 N) q).map (Value.int .i64) ++ [.int .i64 V]) → (wr.alloc (.cells #[.int .i64 V] 3)).grownBy w6 (Value.slice B2 q cq).ownBlock → (v'.ownBlock = (Value.slice B2 q cq).ownBlock ∨ v'.ownBlock = some (wr.alloc (.cells #[.int .i64 V] 3)).heap.size) → ∃ g' cap', v' = .slice (some ⟨g', 0, none⟩) (q + 1) cap' ∧ Hid (Fr (One (w7.heap.size + 1)) wa w6 ∧ OR w6 (w7.heap.size + 1) (some ⟨g', 0, none⟩) (q + 1) cap' (bothL xs (secL n2 N) (q + 1)) ∧ ∀ b, Own (some (⟨g', 0, none⟩ : Addr)) b → b = w7.heap.size + 1 ∨ wa.heap.size ≤ b)) := by
              intro v' w6 ho hg hv
              obtain ⟨g', cap', rfl⟩ := ownsRow_succ ho
              have hown : ∀ k, (Value.slice B2 q cq).ownBlock = some k → k = w7.heap.size + 1 ∨ wa.heap.size ≤ k := fun k hk => by
                cases B2 with
                | none => cases hk
                | some a => exact HOX.out k ⟨a, rfl, by injection hk⟩
              refine ⟨g', cap', rfl, (HFv.out.alloc _).grown hg (fun k hk => (hown k hk).elim .inl .inr), ?_, ?_⟩
              · rw [HV.out]
                exact ⟨by rw [List.length_append, bothL_len]; rfl, by simpa using ho⟩
              · rintro b ⟨a, ha, rfl⟩
                injection ha with ha
                subst ha
                rcases hv with hv | hk
                · exact hown _ hv.symm
                · injection hk with hk
                  have hk : g' = (wr.alloc (.cells #[.int .i64 V] 3)).heap.size := hk
                  right
                  have : (wr.alloc (.cells #[.int .i64 V] 3)).heap.size = wr.heap.size + 1 := by simp
                  show wa.heap.size ≤ g'
                  omega
            clear hws hzI hV hzb HO1a HOa
            go_wp2_with (at_builtin; refine wpList_append_own_at _ rfl _ _ 23 rfl (w7.heap.size + 1) 3 i0 (.int .i64 0) 1 8 Tryd.underlying23 hi0 hz0 hz1 hz2 rfl (by decide) _ _ _ rfl (hown.alloc _) ⟨wr.heap.size, 0, none⟩ 1 1 [.int .i64 V] rfl rfl (cell_one_new _ _ _) (by simp [Value.oneCell']) (by unfold maxLen; omega) (by omega) (by simp; omega) ?_; intro v' w6 hown' hgrow _ hvv; obtain ⟨g', cap', rfl, HN⟩ := ARM.out v' w6 hown' hgrow hvv; clear hown' hgrow hvv)
            go_roundw
            case rel => exact ⟨q + 1, q + 1, cap', _, by omega, by go_num, rfl, HN.out.1, HN.out.2.1, rfl, HN.out.2.2⟩
            case measure => simp [intOf]; omega
          · have hqx : xs.length = q := by omega
            subst hqx
            have hnl : ¬ (xs.length : Int) < (xs.length : Int) := by omega
            have HBl := Lib.hid (bothL_len xs (secL n2 N) xs.length)
            obtain ⟨hjn, hbo⟩ := join_graph (both := bothL xs (secL n2 N) xs.length) HOK.out (secL_ok hN1 hN2) (secL_len n2 N) (bothL_len xs (secL n2 N) xs.length) (fun i hi => bothL_at xs (secL n2 N) hi)
            rw [secL_len, bothL_len] at hjn
            have HJN := Lib.hid hjn
            have HBO := Lib.hid hbo
            have HFW : Hid (Fr No w wr) := HFW7.out.trans HFw.out
            have hsl : (secL n2 N).length = N := secL_len n2 N
            have G1 := Lib.hid (implRelGraph wr B' (secL n2 N) cpq 3 (OR.isl HSb.out) (by omega) (HT.out.fr HFW.out (fun h => h)))
            rw [graphO_yes (secL_ok hN1 hN2), hsl] at G1
            clear hjn hbo
            have HFx : Hid (Fr No W3 wr) := HF7.out.trans HFw.out
            have hg3 : (graphL (secL n2 N) 3 N).length ≤ 4 := by rw [graphL_len]; exact hN2
            have hb3 : (graphL (bothL xs (secL n2 N) xs.length) 3 xs.length).length ≤ 4 := by rw [graphL_len]; exact hl1
            go_wp2_with fail
            refine G1.out.mono ?_
            rintro e w10 ⟨Ax, nx, cx, rfl, hf10, ho10⟩
            simp only [Option.getD_some, Option.isSome_some] at ho10 ⊢
            obtain ⟨W11, hW11, hf17, hb17⟩ : ∃ V, V = w10.alloc (.cells #[.int .i64 (N : Int), .int .i64 3, .slice Ax nx cx] 27) ∧ Fr No w10 V ∧ Blk V w10.heap.size 27 #[.int .i64 (N : Int), .int .i64 3, .slice Ax nx cx] := ⟨_, rfl, (Fr.refl _ _).alloc _, Blk.new _ _ _⟩
            have HB17 : Hid (∀ V, Fr No W11 V → V.cell? ⟨w10.heap.size, 0, none⟩ = some (.int .i64 (N : Int)) ∧ V.cell? ⟨w10.heap.size, 1, none⟩ = some (.int .i64 3) ∧ V.cell? ⟨w10.heap.size, 2, none⟩ = some (.slice Ax nx cx) ∧ w10.heap.size < V.heap.size) := fun V hf => by
              have hb := hb17.fr hf (fun h => h)
              exact ⟨(hb.cell 0).trans rfl, (hb.cell 1).trans rfl, (hb.cell 2).trans rfl, hb.lt⟩
            have HF11 := Lib.hid (hf10.trans hf17)
            have HX11 := Lib.hid (ho10.no hf17)
            have hnx : nx = (graphL (secL n2 N) 3 N).length := ho10.1
            subst hnx
            have HG11 := Lib.hid (HG7.out.no (HFw.out.trans HF11.out))
            have JN := Lib.hid (implRelJoin W11 xs.length N Ag cg (graphL xs N xs.length) N 3 Ax cx (graphL (secL n2 N) 3 N) (OR.isl HG11.out) (by omega) (OR.isl HX11.out) (by omega) (HT.out.fr (HFW.out.trans HF11.out) (fun h => h)))
            rw [HJN.out] at JN
            obtain ⟨a0, a1, a2, a3⟩ := HB7.out W11 (HFx.out.trans HF11.out)
            obtain ⟨b0, b1, b2, b3⟩ := HB17.out W11 (Fr.refl _ _)
            clear hf10 ho10 hf17 hb17
            subst hW11
            go_wp2_with fail
            refine JN.out.mono ?_
            rintro e w12 ⟨Ay, ny, cy, rfl, hf12, ho12⟩
            simp only [Option.getD_some, Option.isSome_some] at ho12 ⊢
            obtain ⟨W13, hW13, hf19, hb19⟩ : ∃ V, V = w12.alloc (.cells #[.int .i64 (xs.length : Int), .int .i64 3, .slice Ay ny cy] 27) ∧ Fr No w12 V ∧ Blk V w12.heap.size 27 #[.int .i64 (xs.length : Int), .int .i64 3, .slice Ay ny cy] := ⟨_, rfl, (Fr.refl _ _).alloc _, Blk.new _ _ _⟩
            have HB19 : Hid (∀ V, Fr No W13 V → V.cell? ⟨w12.heap.size, 0, none⟩ = some (.int .i64 (xs.length : Int)) ∧ V.cell? ⟨w12.heap.size, 1, none⟩ = some (.int .i64 3) ∧ V.cell? ⟨w12.heap.size, 2, none⟩ = some (.slice Ay ny cy) ∧ w12.heap.size < V.heap.size) := fun V hf => by
              have hb := hb19.fr hf (fun h => h)
              exact ⟨(hb.cell 0).trans rfl, (hb.cell 1).trans rfl, (hb.cell 2).trans rfl, hb.lt⟩
            have HF13 := Lib.hid (HF11.out.trans (hf12.trans hf19))
            have HY13 := Lib.hid (ho12.no hf19)
            have hny : ny = (graphL (bothL xs (secL n2 N) xs.length) 3 xs.length).length := ho12.1
            subst hny
            have G3 := Lib.hid (implRelGraph W13 B2 (bothL xs (secL n2 N) xs.length) cq 3 (OR.isl (HOb.out.no HF13.out)) (by have := HBl.out; omega) (HT.out.fr (HFW.out.trans HF13.out) (fun h => h)))
            rw [graphO_yes HBO.out, HBl.out] at G3
            clear hf12 ho12 hf19 hb19 a0 a1 a2 a3 b0 b1 b2 b3 JN
            go_wp2_with fail
            rw [← hW13]
            clear hW13
            refine G3.out.mono ?_
            rintro e w14 ⟨Az, nz, cz, rfl, hf14, ho14⟩
            simp only [Option.getD_some, Option.isSome_some] at ho14 ⊢
            obtain ⟨W15, hW15, hf21, hb21⟩ : ∃ V, V = w14.alloc (.cells #[.int .i64 (xs.length : Int), .int .i64 3, .slice Az nz cz] 27) ∧ Fr No w14 V ∧ Blk V w14.heap.size 27 #[.int .i64 (xs.length : Int), .int .i64 3, .slice Az nz cz] := ⟨_, rfl, (Fr.refl _ _).alloc _, Blk.new _ _ _⟩
            have HB21 : Hid (∀ V, Fr No W15 V → V.cell? ⟨w14.heap.size, 0, none⟩ = some (.int .i64 (xs.length : Int)) ∧ V.cell? ⟨w14.heap.size, 1, none⟩ = some (.int .i64 3) ∧ V.cell? ⟨w14.heap.size, 2, none⟩ = some (.slice Az nz cz) ∧ w14.heap.size < V.heap.size) := fun V hf => by
              have hb := hb21.fr hf (fun h => h)
              exact ⟨(hb.cell 0).trans rfl, (hb.cell 1).trans rfl, (hb.cell 2).trans rfl, hb.lt⟩
            have HF15 := Lib.hid (hf14.trans hf21)
            have HZ15 := Lib.hid (ho14.no hf21)
            have hnz : nz = (graphL (bothL xs (secL n2 N) xs.length) 3 xs.length).length := ho14.1
            subst hnz
            have HFE : Hid (Fr No wr W15) := HF13.out.trans HF15.out
            have HY15 := Lib.hid (HY13.out.no HF15.out)
            have SI : Hid (Calls Tryd.prog 17 #[.slice A8 xs.length c8, .slice B xs.length cp] W15 fun e w' => e = .returned (.bool true) ∧ Fr No W15 w') := by
              refine (samei_any W15 A8 B xs xs c8 cp (OR.isl (HO8.out.no (HFw.out.trans HFE.out))) (OR.isl (HXb.out.no HFE.out)) (by omega) (by omega)).mono ?_
              rintro e w' ⟨b, rfl, hb, m, rfl⟩
              obtain rfl : b = true := hb.2 rfl
              exact ⟨rfl, (Fr.refl No _).drewN m⟩
            have SR : Hid (∀ V, Fr No W15 V → Calls Tryd.prog 14 #[RV xs.length 3 Ay (graphL (bothL xs (secL n2 N) xs.length) 3 xs.length).length cy, RV xs.length 3 Az (graphL (bothL xs (secL n2 N) xs.length) 3 xs.length).length cz] V fun e w' => e = .returned (.bool true) ∧ Fr No V w') := fun V hf => by
              refine (samer_any V xs.length 3 Ay cy _ xs.length 3 Az cz _ (OR.isl (HY15.out.no hf)) (OR.isl (HZ15.out.no hf)) (by omega) (by omega)).mono ?_
              rintro e w' ⟨b, rfl, hb, hf'⟩
              obtain rfl : b = true := hb.2 ⟨rfl, rfl, rfl⟩
              exact ⟨rfl, hf'⟩
            clear hf14 ho14 hf21 hb21 G3
            go_wp2_with fail
            rw [← hW15]
            clear hW15
            refine SI.out.mono ?_
            rintro e w16 ⟨rfl, hf16⟩
            have HF16 := Lib.hid hf16
            obtain ⟨a0, a1, a2, a3⟩ := HB19.out w16 (HF15.out.trans hf16)
            obtain ⟨b0, b1, b2, b3⟩ := HB21.out w16 hf16
            clear hf16 SI
            go_wp2_with fail
            refine (SR.out w16 HF16.out).mono ?_
            rintro e w17 ⟨rfl, hf17⟩
            have HEND := Lib.hid (HFW.out.trans (HFE.out.trans (HF16.out.trans hf17)))
            clear hf17 SR
            go_wp2_with fail
            go_ret
            exact ⟨rfl, HEND.out⟩
  · rw [graphO_no hok] at GI GS
    clear hok
    go_wp2_with fail
    refine GI.out.mono ?_
    rintro e w2 ⟨Ag, ng, cg, rfl, hf2, ho2⟩
    simp only [Option.getD_none, Option.isSome_none] at ho2 ⊢
    obtain ⟨W3, hW3, hf7, hb7⟩ : ∃ V, V = w2.alloc (.cells #[.int .i64 0, .int .i64 0, .slice Ag ng cg] 27) ∧ Fr No w2 V ∧ Blk V w2.heap.size 27 #[.int .i64 0, .int .i64 0, .slice Ag ng cg] := ⟨_, rfl, (Fr.refl _ _).alloc _, Blk.new _ _ _⟩
    have HB7 : Hid (∀ V, Fr No W3 V → V.cell? ⟨w2.heap.size, 0, none⟩ = some (.int .i64 0) ∧ V.cell? ⟨w2.heap.size, 1, none⟩ = some (.int .i64 0) ∧ V.cell? ⟨w2.heap.size, 2, none⟩ = some (.slice Ag ng cg) ∧ w2.heap.size < V.heap.size) := fun V hf => by
      have hb := hb7.fr hf (fun h => h)
      exact ⟨(hb.cell 0).trans rfl, (hb.cell 1).trans rfl, (hb.cell 2).trans rfl, hb.lt⟩
    have HF3 := Lib.hid (hf2.trans hf7)
    have HO3 := Lib.hid (ho2.no hf7)
    clear hf2 ho2 hf7 hb7 GI
    go_wp2_with fail
    rw [← hW3]
    clear hW3
    refine (GS.out _ HF3.out).mono ?_
    rintro e w4 ⟨As, ns, cs, rfl, hf4, ho4⟩
    simp only [Option.getD_none, Option.isSome_none] at ho4 ⊢
    obtain ⟨W5, hW5, hf9, hb9⟩ : ∃ V, V = w4.alloc (.cells #[.int .i64 0, .int .i64 0, .slice As ns cs] 27) ∧ Fr No w4 V ∧ Blk V w4.heap.size 27 #[.int .i64 0, .int .i64 0, .slice As ns cs] := ⟨_, rfl, (Fr.refl _ _).alloc _, Blk.new _ _ _⟩
    have HB9 : Hid (∀ V, Fr No W5 V → V.cell? ⟨w4.heap.size, 0, none⟩ = some (.int .i64 0) ∧ V.cell? ⟨w4.heap.size, 1, none⟩ = some (.int .i64 0) ∧ V.cell? ⟨w4.heap.size, 2, none⟩ = some (.slice As ns cs) ∧ w4.heap.size < V.heap.size) := fun V hf => by
      have hb := hb9.fr hf (fun h => h)
      exact ⟨(hb.cell 0).trans rfl, (hb.cell 1).trans rfl, (hb.cell 2).trans rfl, hb.lt⟩
    have HF5 := Lib.hid (hf4.trans hf9)
    have HG5 := Lib.hid (HO3.out.no HF5.out)
    have HO5 := Lib.hid (ho4.no hf9)
    have hng : ng = 0 := HG5.out.1
    have hns : ns = 0 := HO5.out.1
    subst hng hns
    have SR : Hid (∀ V, Fr No W5 V → Calls Tryd.prog 14 #[RV 0 0 Ag 0 cg, RV 0 0 As 0 cs] V fun e w' => e = .returned (.bool true) ∧ Fr No V w') := fun V hf => by
      refine (samer_any V 0 0 Ag cg [] 0 0 As cs [] (OR.isl (HG5.out.no hf)) (OR.isl (HO5.out.no hf)) (by simp) (by simp)).mono ?_
      rintro e w' ⟨b, rfl, hb, hf'⟩
      obtain rfl : b = true := hb.2 ⟨rfl, rfl, rfl⟩
      exact ⟨rfl, hf'⟩
    clear hf4 ho4 hf9 hb9 HO3 GS
    obtain ⟨a0, a1, a2, a3⟩ := HB7.out W5 HF5.out
    obtain ⟨b0, b1, b2, b3⟩ := HB9.out W5 (Fr.refl _ _)
    subst hW5
    go_wp2_with fail
    refine (SR.out _ (Fr.refl _ _)).mono ?_
    rintro e w6 ⟨rfl, hf6⟩
    have HF6 := Lib.hid hf6
    clear a0 a1 a2 a3 b0 b1 b2 b3
    obtain ⟨a0, a1, a2, a3⟩ := HB7.out w6 (HF5.out.trans hf6)
    obtain ⟨b0, b1, b2, b3⟩ := HB9.out w6 hf6
    clear hf6
    go_wp2_with fail
    refine (SR.out _ HF6.out).mono ?_
    rintro e w7 ⟨rfl, hf7⟩
    have HEND := Lib.hid (HF1.out.trans (HF3.out.trans (HF5.out.trans (HF6.out.trans hf7))))
    clear hf7
    go_wp2_with fail
    go_ret
    exact ⟨rfl, HEND.out⟩
end Go.Proofs.YtbdmlogkedpbdaaDoor
