/- The plain law FnParamIs. -/
import Derived.Test.YtloecimlimoanaaDoorRpm
import Derived.Test.YtloecimlimoanaaDoorDrl
namespace Go.Proofs.YtloecimlimoanaaDoor
open Go.RowKit Go.ChangeMaps Go.Shelf

/-- a kind, a size, an element -/
def DrPi (w : World) (e : Ending) (w' : World) : Prop := ∃ (s : List UInt8) (z x : Int), e = .returned (.tuple #[S s, .int .i64 z, .int .i64 x]) ∧ s.length ≤ 40 ∧ 0 ≤ z ∧ z ≤ 4 ∧ Fr No w w'

set_option maxRecDepth 100000 in
set_option maxHeartbeats 2000000 in
theorem drawParamIs (w : World) (A : Option Addr) (n c : Nat) (hn : n ≤ maxLen) (hnc : n ≤ c) (hb : Byt w A n) :
    Calls Tryd.prog 30 #[.slice A n c] w fun e w' => DrPi w e w' := by
  have OP := Lib.hid (open_any w A n c hn hnc hb)
  clear hn hnc hb
  go_enter Tryd.func30, Tryd.ntmps30
  go_wp2_with fail
  refine OP.out.mono ?_
  rintro e w1 ⟨r, A1, n1, c1, rfl, hf1, hr1, hd1⟩
  have HF1 := Lib.hid hf1
  have KD := Lib.hid (kind_draw w1 r A1 n1 c1 0 hd1 (by omega))
  clear hf1 hd1 OP
  go_wp2_with fail
  refine KD.out.mono ?_
  rintro e w2 ⟨s, p2, rfl, hs, hf2, hp2, hd2⟩
  have HF2 : Hid (Fr No w w2) := HF1.out.then_ hf2 (fun b hb e => by have e : b = r := e; omega)
  have SD := Lib.hid (size_draw w2 r A1 n1 c1 p2 hd2 (by omega))
  clear hf2 hd2 KD
  go_wp2_with fail
  refine SD.out.mono ?_
  rintro e w3 ⟨z, p3, rfl, hz0, hz4, hf3, hp3, hd3⟩
  have HF3 : Hid (Fr No w w3) := HF2.out.then_ hf3 (fun b hb e => by have e : b = r := e; omega)
  have OF := Lib.hid (of_draw w3 r A1 n1 c1 p3 hd3 (by omega) s (by unfold maxLen; omega) z)
  clear hf3 hd3 SD
  go_wp2_with fail
  refine OF.out.mono ?_
  rintro e w4 ⟨x, p4, rfl, _, _, hf4, _, _⟩
  have FIN : Hid (DrPi w (.returned (.tuple #[S s, .int .i64 z, .int .i64 x])) w4) := ⟨s, z, x, rfl, hs, hz0, hz4, HF3.out.then_ hf4 (fun b hb e => by have e : b = r := e; omega)⟩
  clear hf4 OF
  go_wp2_with fail
  refine bodyPost_ret (v := .tuple #[S s, .int .i64 z, .int .i64 x]) (by simp [results, Tryd.results30, go_sem]) rfl ?_
  exact FIN.out

/-- each number's next one -/
def turnL (n j : Nat) : List Int := (List.range j).map fun i => (((i + 1) % n : Nat) : Int)

theorem turnL_more (n j : Nat) : turnL n (j + 1) = turnL n j ++ [(((j + 1) % n : Nat) : Int)] := by
  unfold turnL
  rw [List.range_succ, List.map_append]
  rfl

theorem turnL_len (n j : Nat) : (turnL n j).length = j := by simp [turnL]

theorem turnL_ok {n : Nat} (h1 : 1 ≤ n) (h3 : n ≤ 3) : GraphOk (turnL n n) n := by
  refine ⟨by rw [turnL_len]; omega, by omega, fun z hz => ?_⟩
  obtain ⟨i, hi, rfl⟩ := List.mem_map.1 hz
  have := Nat.mod_lt (i + 1) (show 0 < n by omega)
  omega

theorem graph_relOk {lst : List Int} {n : Nat} (h : GraphOk lst n) : RelOk (lst.length : Int) (n : Int) (graphL lst n lst.length) := by
  rw [← graph_pairs h.2.2]
  have h1 := h.1
  have h2 := h.2.1
  exact pairs_ok (by omega) (by omega) (by omega) (by omega)

set_option maxRecDepth 100000 in
set_option maxHeartbeats 4000000 in
theorem lawParamIsP (w : World) (HTAB : TZt w) (A : Option Addr) (n c : Nat) (hn : n ≤ maxLen) (hnc : n ≤ c) (hb : Byt w A n) :
    Calls Tryd.prog 8 #[.slice A n c] w fun e w' => Yes w e w' := by
  obtain ⟨i0, hi0, hz0, hz1, hz2⟩ := info_parts info_int
  have DR := Lib.hid (drawParamIs w A n c hn hnc hb)
  have HT := Lib.hid HTAB
  clear HTAB hb
  have hn' := hn
  unfold maxLen at hn'
  by_cases hbig : 1048576 < n
  · have hd : decide ((1048576 : Int) < (n : Int)) = true := by simp; omega
    go_enter Tryd.func8, Tryd.ntmps8
    go_wp2_with fail
    go_ret
    exact ⟨rfl, Fr.refl _ _⟩
  have hd : decide ((1048576 : Int) < (n : Int)) = false := by simp; omega
  go_enter Tryd.func8, Tryd.ntmps8
  go_wp2_with fail
  refine DR.out.mono ?_
  rintro e w1 ⟨s, z, x, rfl, hs, hz0', hz4, hf1⟩
  have HF1 := Lib.hid hf1
  have hsm : s.length ≤ maxLen := by unfold maxLen; omega
  have IM : Hid (∀ V, Fr No w V → Calls Tryd.prog 31 #[S s, .int .i64 z, .int .i64 x] V fun e w' => AnsB (PairIs s z z x x) V e w') := fun V hf => implParamIs V s z x hsm (HT.out.fr hf (fun h => h))
  have SP : Hid (∀ V, Calls Tryd.prog 32 #[S s, .int .i64 z, .int .i64 x] V fun e w' => AnsB (PairIs s z z x x) V e w') := fun V => specParamIs V s z x hsm
  have PP : Hid (∀ V, Fr No w V → Calls Tryd.prog 27 #[S s, .int .i64 z, .int .i64 z, .int .i64 x, .int .i64 x] V fun e w' => AnsB (PairIs s z z x x) V e w') := fun V hf => implParamPair V s z z x x hsm (HT.out.fr hf (fun h => h))
  have HSM := Lib.hid hsm
  clear hf1 DR hsm
  go_wp2_with fail
  refine (IM.out _ HF1.out).mono ?_
  rintro e w2 ⟨b1, rfl, hb1, hf2⟩
  have HF2 := Lib.hid (HF1.out.trans hf2)
  clear hf2 IM
  go_wp2_with fail
  refine (SP.out _).mono ?_
  rintro e w3 ⟨b2, rfl, hb2, hf3⟩
  have HF3 := Lib.hid (HF2.out.trans hf3)
  obtain rfl : b1 = b2 := Bool.eq_iff_iff.2 (hb1.trans hb2.symm)
  clear hf3 SP hb2
  cases b1 with
  | false =>
    clear hb1
    go_wp2_with fail
    go_ret
    exact ⟨rfl, HF3.out⟩
  | true =>
    have hp := hb1.1 rfl
    have HP := Lib.hid hp
    obtain ⟨i1, i3, _, _⟩ := hp.in3
    obtain ⟨nN, rfl⟩ : ∃ nN : Nat, z = nN := ⟨z.toNat, by omega⟩
    have n1 : 1 ≤ nN := by omega
    have n3 : nN ≤ 3 := by omega
    obtain ⟨W4, hW4, hf4, ho4⟩ : ∃ W, W = w3.alloc (.cells #[] 3) ∧ Fr No w3 W ∧ OR W w3.heap.size (some ⟨w3.heap.size, 0, none⟩) 0 0 [] := ⟨_, rfl, (Fr.refl _ _).alloc _, or_new w3⟩
    have HF4 := Lib.hid (HF3.out.trans hf4)
    have HO4 := Lib.hid ho4
    have HB4 : Hid (w3.heap.size ≤ W4.heap.size) := hf4.size
    have HFW : Hid (w.heap.size ≤ w3.heap.size) := HF3.out.size
    clear hb1 hp hf4 ho4
    go_wp2_with fail
    rw [← hW4]
    clear hW4
    go_loopw [8, 9] (fun a u wr => ∃ (j q cp : Nat) (A8 : Option Addr), j ≤ nN ∧ u = .int .i64 j ∧ a = .slice A8 q cp ∧ OR wr w3.heap.size A8 q cp (turnL nN j) ∧ Fr No w wr ∧ w3.heap.size ≤ wr.heap.size) (fun _ u _ => nN - (intOf u).toNat)
    case atStart => exact ⟨0, 0, 0, _, Nat.zero_le _, rfl, rfl, HO4.out, HF4.out, HB4.out⟩
    case round =>
      obtain ⟨j, q, cp, A8, hj, rfl, rfl, hor, hfr, hbs⟩ := hrel
      have HFR := Lib.hid hfr
      have HOR := Lib.hid hor
      by_cases hlt : j < nN
      · have hjI : (j : Int) < (nN : Int) := by omega
        have hq : q ≤ 3 := by have := hor.1; rw [turnL_len] at this; omega
        have hown := hor.2
        have m0 : ((nN : Int) == 0) = false := beq_eq_false_iff_ne.2 (by omega)
        have m1 : ¬ (nN : Int) = 0 := by omega
        obtain ⟨v, hv⟩ : ∃ v : Int, v = (((j + 1) % nN : Nat) : Int) := ⟨_, rfl⟩
        have e1 : ((j : Int) + 1).tmod (nN : Int) = v := by rw [hv]; rfl
        have hv0 : 0 ≤ v := by rw [hv]; omega
        have hv3 : v ≤ 3 := by have := Nat.mod_lt (j + 1) (show 0 < nN by omega); rw [hv]; omega
        have hjn : (j : Int) ≤ 3 := by omega
        have ARM : Hid (∀ (v' : Value) (w1 : World), w1.ownsRow w3.heap.size 3 1 v' (q + 1) ((turnL nN j).map (Value.int .i64) ++ [.int .i64 v]) → (wr.alloc (.cells #[.int .i64 v] 3)).grownBy w1 (Value.slice A8 q cp).ownBlock → ∃ g' cap', v' = .slice (some ⟨g', 0, none⟩) (q + 1) cap' ∧ Hid (OR w1 w3.heap.size (some ⟨g', 0, none⟩) (q + 1) cap' (turnL nN (j + 1)) ∧ Fr No w w1 ∧ w3.heap.size ≤ w1.heap.size)) := by
          intro v' w1 ho hg
          obtain ⟨g', cap', rfl, hf, ho'⟩ := or_more HOR.out ((Fr.refl No wr).alloc _) ho hg
          rw [turnL_more, ← hv]
          exact ⟨g', cap', rfl, ho', HFR.out.then_ hf (fun b hb h => by
            have h1 := (HOR.out.bounds h).1
            have h2 := HFW.out
            omega), by have := hf.size; omega⟩
        clear hor hfr hv
        go_wp2_with (at_builtin; refine wpList_append_own _ rfl _ _ 28 rfl w3.heap.size 3 i0 (.int .i64 0) 1 8 Tryd.underlying28 hi0 hz0 hz1 hz2 rfl (by decide) _ _ _ rfl (hown.alloc _) ⟨wr.heap.size, 0, none⟩ 1 1 [.int .i64 v] rfl rfl (cell_one_new _ _ _) (by simp [Value.oneCell']) (by unfold maxLen; omega) (by omega) (by simp; omega) ?_; intro v' w1 hown' hgrow _; obtain ⟨g', cap', rfl, n4⟩ := ARM.out v' w1 hown' hgrow; clear hown' hgrow)
        clear hown ARM
        go_wp2_with fail
        go_roundw
        case rel => exact ⟨j + 1, q + 1, _, _, by omega, by go_num, rfl, n4.out.1, n4.out.2.1, n4.out.2.2⟩
        case measure => simp [intOf]; omega
      · have hjl : j = nN := by omega
        have hnlt : ¬ (j : Int) < (nN : Int) := by omega
        subst hjl
        have hgo := turnL_ok n1 n3
        have hq : q = j := by have := hor.1; rwa [turnL_len] at this
        have RG : Hid (Calls Tryd.prog 33 #[.slice A8 q cp, .int .i64 j] wr fun e w' => AnsR (some ((j : Int), (j : Int), graphL (turnL j j) j j)) wr e w') := by
          have h := implRelGraph wr A8 (turnL j j) cp (j : Int) (OR.isl hor) (by rw [turnL_len]; omega) (HT.out.fr hfr (fun h => h))
          rw [graphO_yes hgo, turnL_len, ← hq] at h
          rw [← hq]
          rw [hq] at h ⊢
          exact h
        have HOK : Hid (RelOk (j : Int) (j : Int) (graphL (turnL j j) j j)) := by
          have h := graph_relOk hgo
          rw [turnL_len] at h
          exact h
        have HLEN : Hid ((graphL (turnL j j) j j).length ≤ 3) := by show _ ≤ _; simp [graphL]; omega
        obtain ⟨ps, hps⟩ : ∃ ps, ps = graphL (turnL j j) j j := ⟨_, rfl⟩
        rw [← hps] at RG HOK HLEN
        clear hor hfr hq hps hgo
        go_wp2_with fail
        refine RG.out.mono ?_
        rintro e w5 ⟨A5, q5, c5, rfl, hf5, ho5⟩
        simp only [Option.getD_some, Option.isSome_some] at ho5 ⊢
        obtain ⟨W6, hW6, hf6, hb6⟩ : ∃ W, W = w5.alloc (.cells #[.int .i64 j, .int .i64 j, .slice A5 q5 c5] 30) ∧ Fr No w5 W ∧ Blk W w5.heap.size 30 #[.int .i64 j, .int .i64 j, .slice A5 q5 c5] := ⟨_, rfl, (Fr.refl _ _).alloc _, Blk.new _ _ _⟩
        obtain ⟨W7, hW7, hf7, hb7, hb8⟩ : ∃ W, W = (W6.alloc (.cells #[S [97]] 9)).alloc (.cells #[.int .i64 j, .int .i64 j, .slice A5 q5 c5] 30) ∧ Fr No W6 W ∧ Blk W W6.heap.size 9 #[S [97]] ∧ Blk W (W6.heap.size + 1) 30 #[.int .i64 j, .int .i64 j, .slice A5 q5 c5] := ⟨_, rfl, ((Fr.refl _ _).alloc _).alloc _, (Blk.new _ _ _).alloc _, Blk.new_at _ _ _ (by simp)⟩
        have HF7 := Lib.hid (((HFR.out.trans hf5).trans hf6).trans hf7)
        have hor7 := ho5.no (hf6.trans hf7)
        have hq5 := hor7.1
        have hrels : Rels W7 (some ⟨W6.heap.size + 1, 0, none⟩) [((j : Int), (j : Int), ps)] := rels_one (by rw [hq5] at hb8; exact hb8) (OR.isl hor7) (by have := HLEN.out; omega)
        have hz6 : W6.heap.size = w5.heap.size + 1 := by rw [hW6]; simp
        have RL0 := (related_any W7 s (some ⟨W6.heap.size, 0, none⟩) (some ⟨W6.heap.size + 1, 0, none⟩) 1 1 [[97]] [((j : Int), (j : Int), ps)] x x HSM.out (ssl_blk hb7 rfl) hrels (by decide) (by simp) (by simp [maxLen]) (HT.out.fr HF7.out (fun h => h)))
        rw [hz6] at RL0
        have RL := Lib.hid RL0
        have a0 : W6.cell? ⟨w5.heap.size, 0, none⟩ = some (.int .i64 j) := (hb6.cell 0).trans rfl
        have a1 : W6.cell? ⟨w5.heap.size, 1, none⟩ = some (.int .i64 j) := (hb6.cell 1).trans rfl
        have a2 : W6.cell? ⟨w5.heap.size, 2, none⟩ = some (.slice A5 q5 c5) := (hb6.cell 2).trans rfl
        have l6 := hb6.lt
        have HW6 := Lib.hid hW6
        have HW7 := Lib.hid hW7
        clear hf5 ho5 hf6 hb6 hf7 hb7 hb8 hor7 hq5 hrels RG hW7 RL0 hz6
        subst hW6
        go_wp2_with fail
        rw [← HW7.out]
        refine RL.out.mono ?_
        rintro e w8 ⟨hf8, b8, rfl, hb8⟩
        obtain rfl : b8 = true := hb8.2 (HP.out.rel HOK.out)
        have HF8 := Lib.hid (HF7.out.trans hf8)
        have PQ := Lib.hid (PP.out w8 HF8.out)
        clear hf8 hb8 RL
        go_wp2_with fail
        refine PQ.out.mono ?_
        rintro e w9 ⟨b9, rfl, hb9, hf9⟩
        obtain rfl : b9 = true := hb9.2 HP.out
        have HF9 := Lib.hid (HF8.out.trans hf9)
        clear hf9 hb9 PQ
        go_wp2_with fail
        go_ret
        exact ⟨rfl, HF9.out⟩
end Go.Proofs.YtloecimlimoanaaDoor
