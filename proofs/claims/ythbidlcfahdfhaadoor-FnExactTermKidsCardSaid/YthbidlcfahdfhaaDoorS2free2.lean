/- Free names of the model's terms: terms that have parts. -/
import Derived.Test.YthbidlcfahdfhaaDoorS2free
namespace Go.Proofs.YthbidlcfahdfhaaDoor
open Go.RowKit Go.ChangeMaps

theorem fs_step {f : Fo} {j i : Nat} {a h b : List UInt8} {k : Fo} {bd l : List (List UInt8)} (e : f.nth j = some (a, k)) : fsU (f.from_ j) (.kids bd h b i) l = fsU (f.from_ (j + 1)) (.kids bd h b (i + 1)) (if innB h i = true then fsT a k (inB bd h b i) l else l) := by
  rw [Fo.from_nth f j a k e]
  rfl

theorem fst_len (a : List UInt8) (k : Fo) (bd l : List (List UInt8)) : (fsT a k bd l).length ≤ l.length + treeSize a k := by
  unfold fsT treeSize
  by_cases ha : a = []
  · rw [if_pos ha, if_pos ha]
    exact fs_len k _ l
  · rw [if_neg ha, if_neg ha]
    split <;> simp

set_option maxRecDepth 100000 in
set_option maxHeartbeats 2000000 in
theorem fs_node (h : List UInt8) (k0 r : Fo) (hN : ∀ a' k' j, (Fo.cons h k0 r).nth j = some (a', k') → FsSaid k') (A : Option Addr) (c : Nat) (w : World) (T : Nat → Prop) (B : Nat) (V : Option Addr) (vc : Nat) (l : List (List UInt8)) (VB : Option Addr) (vb : Nat) (bd : List (List UInt8))
    (htm : isTms none (.cons h k0 r) = true) (hs : (Fo.cons h k0 r).size ≤ 5000) (hls : l.length + (Fo.cons h k0 r).size ≤ 100000) (hbs : bd.length + (Fo.cons h k0 r).size ≤ 100000) (hB : B ≤ w.heap.size) (hT : ∀ b, T b → b < w.heap.size ∧ (Value.slice V l.length vc).ownBlock ≠ some b) (hA : Sl w T A (.cons h k0 r))
    (hbd : BSl w VB bd) (hbv : ∀ g o, VB = some ⟨g, o, none⟩ → (Value.slice V l.length vc).ownBlock ≠ some g) (ho : w.ownsRow B 9 1 (.slice V l.length vc) l.length (l.map S)) :
    Calls Tryd.prog 38 #[.agg #[S [], .slice A (Fo.cons h k0 r).len c], .slice VB bd.length vb, .slice V l.length vc] w fun e w' => AddL B (fsU (.cons h k0 r) (.top bd) l) w (.slice V l.length vc) e w' := by
  have HN := Lib.hid hN
  clear hN
  simp only [isTms, Bool.and_eq_true] at htm
  obtain ⟨hsn, htm⟩ := htm
  have hrl := isTms_len _ _ htm
  have hsl := shape_short h
  have hs1 : 1 ≤ (shapeOf h).length := by
    cases hq : shapeOf h with
    | nil => rw [hq] at hsn; cases hsn
    | cons => simp
  have HTM := Lib.hid htm
  clear htm hsn
  have hrz : 1 + r.size ≤ (Fo.cons h k0 r).size := by
    have hh : h ≠ [] := by
      rintro rfl
      have : shapeOf [] = [] := rfl
      rw [this] at hs1; simp at hs1
    simp only [Fo.size, if_neg hh]
    omega
  obtain ⟨res, HRES⟩ : ∃ t, Hid (fsU r (.kids bd h (hd1 r) 1) l = t) := ⟨_, rfl⟩
  rw [show fsU (.cons h k0 r) (.top bd) l = res from HRES.out]
  obtain ⟨n, nk, r', HR⟩ : ∃ n nk r', Hid (r = .cons n nk r') := by
    cases r with
    | nil => simp [Fo.len] at hrl; omega
    | cons n nk r' => exact ⟨n, nk, r', rfl⟩
  have hn1 : Hid (hd1 r = n) := by rw [HR.out]; exact rfl
  obtain ⟨m, HM⟩ : ∃ m, Hid (m = (shapeOf h).length) := ⟨_, rfl⟩
  obtain ⟨L, HL⟩ : ∃ L, Hid ((Fo.cons h k0 r).len = L) := ⟨_, rfl⟩
  have HLM : Hid (L = m + 1) := by
    have h1 := HL.out
    have h2 := HM.out
    show L = m + 1
    simp only [Fo.len] at h1
    omega
  have HRL : Hid (r.len = m) := by
    have h2 := HM.out
    show r.len = m
    omega
  rw [← HM.out] at hsl hs1
  rw [HL.out]
  clear hrl
  have b0 := Blk.new w 36 #[S [], .slice A L c]
  have HB := Lib.hid hB
  have HT := Lib.hid hT
  have HA := Lib.hid hA
  have HO := Lib.hid ho
  have HBD := Lib.hid hbd
  have HBV := Lib.hid hbv
  have HVL : Hid (∀ b, (Value.slice V l.length vc).ownBlock = some b → b < w.heap.size) := fun b hb => (ho.lt b hb).2
  obtain ⟨bl, HBL⟩ : ∃ bl, Hid (bd.length = bl) := ⟨_, rfl⟩
  rw [HBL.out]
  have hbl : bl + (Fo.cons h k0 r).size ≤ 100000 := by have := HBL.out; omega
  clear hB hT hA ho hbd hbv hbs
  go_enter Tryd.func38, Tryd.ntmps38
  go_wp2_with fail
  go_loopw [2, 7] (fun v i wr => ∃ (j : Nat) (l' : List (List UInt8)) (A' : Option Addr) (c' : Nat), j ≤ m ∧ i = .int .i64 ((j + 1 : Nat) : Int) ∧ v = .slice A' l'.length c' ∧ fsU (r.from_ j) (.kids bd h (hd1 r) (j + 1)) l' = res ∧ l'.length ≤ l.length + r.sizeTo j ∧
      Fr (fun b => (Value.slice V l.length vc).ownBlock = some b) w wr ∧ Blk wr w.heap.size 36 #[S [], .slice A L c] ∧ wr.ownsRow B 9 1 (.slice A' l'.length c') l'.length (l'.map S) ∧
      ((Value.slice A' l'.length c').ownBlock = (Value.slice V l.length vc).ownBlock ∨ ∀ b, (Value.slice A' l'.length c').ownBlock = some b → w.heap.size + 1 ≤ b)) (fun _ i _ => m + 1 - (intOf i).toNat)
  case atStart => exact ⟨0, l, V, vc, Nat.zero_le _, rfl, rfl, by rw [Fo.from_zero]; exact HRES.out, by omega, (Fr.refl _ _).alloc _, b0, HO.out.alloc _, .inl rfl⟩
  case round =>
    obtain ⟨j, l', A', c', hj, rfl, rfl, hsum, hll, hfr, hb, hown, hloc⟩ := hrel
    have HS := Lib.hid hsum
    have HW := Lib.hid hown
    have HLO := Lib.hid hloc
    have HLL := Lib.hid hll
    have HFR := Lib.hid hfr
    have HBK := Lib.hid hb
    have HNB : Hid (∀ b, b < w.heap.size + 1 → (Value.slice V l.length vc).ownBlock ≠ some b → (Value.slice A' l'.length c').ownBlock ≠ some b) := by
      intro b hb hv e
      rcases hloc with h1 | h1
      · exact hv (h1 ▸ e)
      · have := h1 b e; omega
    have HBX : Hid ((Value.slice A' l'.length c').ownBlock ≠ some w.heap.size) := HNB.out _ (by omega) (fun e => by have := HVL.out _ e; omega)
    have c1 : wr.cell? ⟨w.heap.size, 1, none⟩ = some (.slice A L c) := (hb.cell 1).trans rfl
    have c0 : wr.cell? ⟨w.heap.size, 0, none⟩ = some (S []) := (hb.cell 0).trans rfl
    have hlw := hb.lt
    clear hsum hown hloc hll hfr hb
    by_cases hlt : j < m
    · have HTw : Hid (∀ b, T b → b < wr.heap.size ∧ (Value.slice A' l'.length c').ownBlock ≠ some b) := fun b hb => ⟨Nat.lt_of_lt_of_le (HT.out b hb).1 HFR.out.size, HNB.out b (by have := (HT.out b hb).1; omega) (HT.out b hb).2⟩
      have hAr : Sl wr T A (.cons h k0 r) := HA.out.mono (fun _ h => h) (fun b hb => HFR.out.block b (HT.out b hb).1 (HT.out b hb).2)
      obtain ⟨g, o, a', k', A2, c2, rfl, hg, hn, q0, q1, hsl'⟩ := hAr.nth (j := j + 1) (by rw [HL.out, HLM.out]; omega)
      have hnr : r.nth j = some (a', k') := hn
      have hlg := block_lt q0
      obtain ⟨b, hbj⟩ : ∃ b, (shapeOf h)[j]? = some b := ⟨_, List.getElem?_eq_getElem (by rw [← HM.out]; exact hlt)⟩
      have hok := isTms_at r _ j a' k' b HTM.out hnr hbj
      have hst := fs_step (h := h) (b := hd1 r) (i := j + 1) (bd := bd) (l := l') hnr
      have hin : innB h (j + 1) = b := by
        unfold innB
        rw [show j + 1 - 1 = j by omega, hbj]
        cases b <;> rfl
      rw [hin] at hst
      have hz := Fo.nth_size hnr
      have hzs := Fo.sizeTo_succ r j a' k' hnr
      have hzl := Fo.sizeTo_le r (j + 1)
      have IN : Hid (Calls Tryd.prog 33 #[.agg #[S [], .slice (some ⟨g, o, none⟩) L c], .int .i64 ((j + 1 : Nat) : Int)] wr fun e w' => e = .returned (.bool b) ∧ Fr No wr w') :=
        HL.out ▸ inner_any wr T [] h k0 r _ c (j + 1) b (by omega) hbj hAr
      have hjc : (j : Int) + 1 < (L : Int) := by have := HLM.out; omega
      have hjn : j + 1 < L := by have := HLM.out; omega
      cases b
      · have HTT : Hid (fsU (r.from_ (j + 1)) (.kids bd h (hd1 r) (j + 1 + 1)) l' = res) := by
          have := HS.out
          rw [hst] at this
          exact this
        have HZ : Hid (l'.length ≤ l.length + r.sizeTo (j + 1)) := by
          have := HLL.out
          show _ ≤ _
          omega
        clear hst hin hz hzs hzl hn hnr hbj hok
        go_wp2_with fail
        refine IN.out.mono ?_
        rintro e w1 ⟨rfl, hf1⟩
        have REL : Hid (Fr (fun b => (Value.slice V l.length vc).ownBlock = some b) w w1 ∧ Blk w1 w.heap.size 36 #[S [], .slice (some ⟨g, o, none⟩) L c] ∧ w1.ownsRow B 9 1 (.slice A' l'.length c') l'.length (l'.map S)) :=
          ⟨HFR.out.then_ hf1 (fun _ _ h => h.elim), HBK.out.fr hf1 (fun h => h), own_fr HW.out hf1 (fun _ _ h => h)⟩
        clear hf1
        go_wp2_with fail
        go_roundw
        case rel => exact ⟨j + 1, l', A', c', by omega, by go_num, rfl, HTT.out, HZ.out, REL.out.1, REL.out.2.1, REL.out.2.2, HLO.out⟩
        case measure => simp [intOf]; omega
      · have HTT : Hid (fsU (r.from_ (j + 1)) (.kids bd h (hd1 r) (j + 1 + 1)) (fsT a' k' (inB bd h (hd1 r) (j + 1)) l') = res) := by
          have := HS.out
          rw [hst] at this
          exact this
        have hfl := fst_len a' k' (inB bd h (hd1 r) (j + 1)) l'
        have HZ : Hid ((fsT a' k' (inB bd h (hd1 r) (j + 1)) l').length ≤ l.length + r.sizeTo (j + 1)) := by
          have := HLL.out
          show _ ≤ _
          omega
        have HOK : Hid (isTm a' k' = true) := hok
        have HNN := Lib.hid hn
        have HZS : Hid (treeSize a' k' ≤ 5000 ∧ l'.length + treeSize a' k' ≤ 100000 ∧ bd.length + 1 + treeSize a' k' ≤ 100000) := by
          have := HLL.out
          have := HBL.out
          refine Lib.hid ⟨?_, ?_, ?_⟩ <;> omega
        have HAR := Lib.hid hAr
        have HSL' := Lib.hid hsl'
        have BD : Hid (∀ w', Fr No wr w' → Calls Tryd.prog 58 #[.agg #[S [], .slice (some ⟨g, o, none⟩) L c], .int .i64 ((j + 1 : Nat) : Int)] w' fun e w2 => e = .returned (S (bndB h (hd1 r) (j + 1))) ∧ Fr No w' w2) := fun w' hf => by
          have h1 := HAR.out.fr (fun b hb => (HTw.out b hb).1) hf
          rw [hn1.out]
          have hr := HR.out
          clear hst
          have h2 := HL.out
          revert h2 h1
          rw [hr]
          intro h1
          intro h2; rw [← h2]; exact bound_any w' T [] h n k0 nk r' _ c (j + 1) h1
        -- what is called behind, with these bound names
        have CALL : Hid (∀ (w' : World) (Z : Option Addr) (zc : Nat), Fr No wr w' → BSl w' Z (inB bd h (hd1 r) (j + 1)) → (∀ g o, Z = some ⟨g, o, none⟩ → (Value.slice A' l'.length c').ownBlock ≠ some g) →
            Calls Tryd.prog 38 #[.agg #[S a', .slice A2 k'.len c2], .slice Z (inB bd h (hd1 r) (j + 1)).length zc, .slice A' l'.length c'] w' fun e w3 => ∃ A3 c3, e = .returned (.slice A3 (fsT a' k' (inB bd h (hd1 r) (j + 1)) l').length c3) ∧
              Fr (fun b => (Value.slice V l.length vc).ownBlock = some b) w w3 ∧ Blk w3 w.heap.size 36 #[S [], .slice (some ⟨g, o, none⟩) L c] ∧ w3.ownsRow B 9 1 (.slice A3 (fsT a' k' (inB bd h (hd1 r) (j + 1)) l').length c3) (fsT a' k' (inB bd h (hd1 r) (j + 1)) l').length ((fsT a' k' (inB bd h (hd1 r) (j + 1)) l').map S) ∧
              ((Value.slice A3 (fsT a' k' (inB bd h (hd1 r) (j + 1)) l').length c3).ownBlock = (Value.slice V l.length vc).ownBlock ∨ ∀ b, (Value.slice A3 (fsT a' k' (inB bd h (hd1 r) (j + 1)) l').length c3).ownBlock = some b → w.heap.size + 1 ≤ b)) := by
          intro w' Z zc hf hz1 hz2
          have hbl2 : (inB bd h (hd1 r) (j + 1)).length ≤ bd.length + 1 := by
            unfold inB
            split <;> simp
          refine (HN.out a' k' (j + 1) HNN.out a' A2 c2 w' T B A' c' l' Z zc _ HOK.out HZS.out.1 HZS.out.2.1 (by have := HZS.out.2.2; omega) (Nat.le_trans HB.out (Nat.le_trans HFR.out.size hf.size)) (fun b hb => ⟨Nat.lt_of_lt_of_le (HTw.out b hb).1 hf.size, (HTw.out b hb).2⟩) (HSL'.out.fr (fun b hb => (HTw.out b hb).1) hf) hz1 hz2 (own_fr HW.out hf (fun _ _ h => h))).mono ?_
          rintro e w3 ⟨A3, c3, rfl, g1, g2, g3⟩
          have hfw : Fr (fun b => (Value.slice V l.length vc).ownBlock = some b) w w' := HFR.out.then_ hf (fun _ _ h => h.elim)
          have hszw : w.heap.size + 1 ≤ w'.heap.size := Nat.le_trans hlw hf.size
          refine ⟨A3, c3, rfl, hfw.then_ g1 (fun i hi e => ?_), (HBK.out.fr hf (fun h => h)).fr g1 HBX.out, g2, ?_⟩
          · rcases HLO.out with h1 | h1
            · exact h1 ▸ e
            · have := h1 i e; omega
          · rcases g3 with g3 | g3
            · rcases HLO.out with h1 | h1
              · exact .inl (g3.trans h1)
              · exact .inr (fun b hb => h1 b (g3 ▸ hb))
            · exact .inr (fun b hb => Nat.le_trans hszw (g3 b hb))
        have q0' : ∀ w', Fr No wr w' → w'.cell? ⟨g, o + (j + 1) * 2, none⟩ = some (S a') := fun w' hf => (hf.cell (p := ⟨g, o + (j + 1) * 2, none⟩) hlg (fun h => h)).trans q0
        have q1' : ∀ w', Fr No wr w' → w'.cell? ⟨g, o + (j + 1) * 2 + 1, none⟩ = some (.slice A2 k'.len c2) := fun w' hf => (hf.cell (p := ⟨g, o + (j + 1) * 2 + 1, none⟩) hlg (fun h => h)).trans q1
        have Q0 := Lib.hid q0'
        have Q1 := Lib.hid q1'
        have CC : Hid (∀ w', Fr No wr w' → w'.cell? ⟨w.heap.size, 1, none⟩ = some (.slice (some ⟨g, o, none⟩) L c) ∧ w'.cell? ⟨w.heap.size, 0, none⟩ = some (S [])) := fun w' hf => ⟨((HBK.out.fr hf (fun h => h)).cell 1).trans rfl, ((HBK.out.fr hf (fun h => h)).cell 0).trans rfl⟩
        clear hst hin hz hzs hzl hfl hn hnr hbj hok hAr hsl' q0' q1'
        by_cases hbx : bndB h (hd1 r) (j + 1) = []
        · have HI : Hid (inB bd h (hd1 r) (j + 1) = bd) := by
            refine Lib.hid ?_
            unfold inB
            rw [if_pos hbx]
          rw [HI.out] at CALL HTT HZ
          rw [hbx] at BD
          clear hbx
          have CALL2 : Hid (∀ w', Fr No wr w' → Calls Tryd.prog 38 #[.agg #[S a', .slice A2 k'.len c2], .slice VB bl vb, .slice A' l'.length c'] w' fun e w3 => ∃ A3 c3, e = .returned (.slice A3 (fsT a' k' bd l').length c3) ∧
              Fr (fun b => (Value.slice V l.length vc).ownBlock = some b) w w3 ∧ Blk w3 w.heap.size 36 #[S [], .slice (some ⟨g, o, none⟩) L c] ∧ w3.ownsRow B 9 1 (.slice A3 (fsT a' k' bd l').length c3) (fsT a' k' bd l').length ((fsT a' k' bd l').map S) ∧
              ((Value.slice A3 (fsT a' k' bd l').length c3).ownBlock = (Value.slice V l.length vc).ownBlock ∨ ∀ b, (Value.slice A3 (fsT a' k' bd l').length c3).ownBlock = some b → w.heap.size + 1 ≤ b)) := by
            intro w' hf
            have hbw : BSl wr VB bd := HBD.out.fr HFR.out (fun g o e h => HBV.out g o e h)
            have := CALL.out w' VB vb hf (hbw.fr hf (fun _ _ _ h => h)) (fun g2 o2 e => ?_)
            · rw [HBL.out] at this
              exact this
            · obtain ⟨_, g3, o3, e3, h3⟩ := HBD.out
              rw [e3] at e
              simp only [Option.some.injEq, Addr.mk.injEq, and_true] at e
              obtain ⟨rfl, rfl⟩ := e
              exact HNB.out g3 (by omega) (HBV.out g3 o3 e3)
          clear CALL
          go_wp2_with fail
          refine IN.out.mono ?_
          rintro e w1 ⟨rfl, hf1⟩
          obtain ⟨d1, d0⟩ := CC.out w1 hf1
          go_wp2_with fail
          refine (BD.out w1 hf1).mono ?_
          rintro e w2 ⟨rfl, hf2⟩
          have hf12 := hf1.trans hf2
          obtain ⟨e1, e0⟩ := CC.out w2 hf12
          have t0 := Q0.out w2 hf12
          have t1 := Q1.out w2 hf12
          have hlg2 : g < w2.heap.size := Nat.lt_of_lt_of_le hlg hf12.size
          go_wp2_with fail
          refine (CALL2.out w2 hf12).mono ?_
          rintro e w3 ⟨A3, c3, rfl, k1, k2, k3, k4⟩
          have REL := Lib.hid (And.intro k1 (And.intro k2 (And.intro k3 k4)))
          clear k1 k2 k3 k4
          go_wp2_with fail
          go_roundw
          case rel => exact ⟨j + 1, _, A3, c3, by omega, by go_num, rfl, HTT.out, HZ.out, REL.out.1, REL.out.2.1, REL.out.2.2.1, REL.out.2.2.2⟩
          case measure => simp [intOf]; omega
        · obtain ⟨bd2, HI⟩ : ∃ z, Hid (inB bd h (hd1 r) (j + 1) = z) := ⟨_, rfl⟩
          rw [HI.out] at CALL HTT HZ
          have HI2 : Hid (bd2 = bd ++ [bndB h (hd1 r) (j + 1)]) := by
            have := HI.out
            unfold inB at this
            rw [if_neg hbx] at this
            exact this.symm
          clear HI
          generalize bndB h (hd1 r) (j + 1) = x at *
          have hxe : x.isEmpty = false := by cases x; exact absurd rfl hbx; rfl
          clear hbx
          have hbl3 : bd.length ≤ 100000 := by have := HBL.out; omega
          have WI : Hid (∀ (w' : World), Fr No wr w' → Calls Tryd.prog 59 #[.slice VB bl vb, .slice (some ⟨w'.heap.size, 0, none⟩) 1 1] (w'.alloc (.cells #[S x] 9)) fun e w4 => ∃ Z zc, e = .returned (.slice Z bd2.length zc) ∧ BSl w4 Z bd2 ∧ (∀ g o, Z = some ⟨g, o, none⟩ → (Value.slice A' l'.length c').ownBlock ≠ some g) ∧ Fr No wr w4) := by
            intro w' hf
            have hfa : Fr No wr (w'.alloc (.cells #[S x] 9)) := hf.alloc _
            have hbw : BSl wr VB bd := HBD.out.fr HFR.out (fun g o e h => HBV.out g o e h)
            have := with_any (w'.alloc (.cells #[S x] 9)) VB bd vb x w'.heap.size (hbw.fr hfa (fun _ _ _ h => h)) (by simp) hbl3
            rw [HBL.out] at this
            refine this.mono ?_
            rintro e w4 ⟨Z, zc, rfl, z1, z2, z3⟩
            rw [← HI2.out] at z1 ⊢
            refine ⟨Z, zc, rfl, z1, fun g2 o2 e2 e3 => ?_, hfa.trans z3⟩
            have h1 := z2 g2 o2 e2
            have h2 := (HW.out.lt g2 e3).2
            have h3 := hfa.size
            omega
          go_wp2_with fail
          refine IN.out.mono ?_
          rintro e w1 ⟨rfl, hf1⟩
          obtain ⟨d1, d0⟩ := CC.out w1 hf1
          go_wp2_with fail
          refine (BD.out w1 hf1).mono ?_
          rintro e w2 ⟨rfl, hf2⟩
          have hf12 := hf1.trans hf2
          obtain ⟨e1, e0⟩ := CC.out w2 hf12
          go_wp2_with fail
          refine (BD.out w2 hf12).mono ?_
          rintro e w3 ⟨rfl, hf3⟩
          have hf13 := hf12.trans hf3
          obtain ⟨f1, f0⟩ := CC.out w3 hf13
          go_wp2_with fail
          refine (WI.out w3 hf13).mono ?_
          rintro e w4 ⟨Z, zc, rfl, z1, z2, hf4⟩
          obtain ⟨y1, y0⟩ := CC.out w4 hf4
          have t0 := Q0.out w4 hf4
          have t1 := Q1.out w4 hf4
          have hlg2 : g < w4.heap.size := Nat.lt_of_lt_of_le hlg hf4.size
          have CALL4 := Lib.hid (CALL.out w4 Z zc hf4 z1 z2)
          clear z1 z2 CALL WI
          go_wp2_with fail
          refine CALL4.out.mono ?_
          rintro e w5 ⟨A3, c3, rfl, k1, k2, k3, k4⟩
          have REL := Lib.hid (And.intro k1 (And.intro k2 (And.intro k3 k4)))
          clear k1 k2 k3 k4
          go_wp2_with fail
          go_roundw
          case rel => exact ⟨j + 1, _, A3, c3, by omega, by go_num, rfl, HTT.out, HZ.out, REL.out.1, REL.out.2.1, REL.out.2.2.1, REL.out.2.2.2⟩
          case measure => simp [intOf]; omega
    · have hjl : j = m := by omega
      have HF : Hid (AddL B res w (.slice V l.length vc) (.returned (.slice A' l'.length c')) wr) := by
        have e1 := HS.out
        rw [hjl, ← HRL.out, Fo.from_len] at e1
        have e2 : res = l' := e1.symm
        rw [e2]
        refine ⟨A', c', rfl, HFR.out, HW.out, ?_⟩
        rcases HLO.out with h1 | h1
        · exact .inl h1
        · exact .inr (fun b hb => by have := h1 b hb; omega)
      have hjl2 : (L : Int) ≤ (j : Int) + 1 := by have := HLM.out; omega
      clear hjl
      go_wp2_with fail
      go_ret
      exact HF.out
end Go.Proofs.YthbidlcfahdfhaaDoor
