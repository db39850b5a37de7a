/- The plain law FnParamPair. -/
import Derived.Test.YtloecimlimoanaaDoorRpm
import Derived.Test.YtloecimlimoanaaDoorDro
import Derived.Test.YtloecimlimoanaaDoorPls
import Derived.Test.YtloecimlimoanaaDoorRdl
namespace Go.Proofs.YtloecimlimoanaaDoor
open Go.RowKit Go.ChangeMaps Go.Shelf

/-- a kind, two sizes, two elements -/
def DrPp (w : World) (e : Ending) (w' : World) : Prop := ∃ (s : List UInt8) (m n x y : Int), e = .returned (.tuple #[S s, .int .i64 m, .int .i64 n, .int .i64 x, .int .i64 y]) ∧ s.length ≤ 40 ∧ (0 ≤ m ∧ m ≤ 4) ∧ (0 ≤ n ∧ n ≤ 4) ∧ Fr No w w'

/-- a row of integers, one at least, that stays -/
theorem row_one {w : World} {B : Nat} {A : Option Addr} {n c r : Nat} {xs : List Int} (h : OR w B A n c xs) (hn : n ≠ 0) (hr : r < B) : ∃ g o, A = some ⟨g, o, none⟩ ∧ n = xs.length ∧ ∀ V, Fr (One r) w V → ∀ (j : Nat) (z : Int), xs[j]? = some z → V.cell? ⟨g, o + j, none⟩ = some (.int .i64 z) := by
  have e := h.1
  obtain ⟨z, hz⟩ : ∃ z, xs[0]? = some z := ⟨_, List.getElem?_eq_getElem (by omega)⟩
  obtain ⟨g, o, rfl, _⟩ := h.isl 0 z hz
  refine ⟨g, o, rfl, e, fun V hf j z hj => ?_⟩
  obtain ⟨g', o', e', hc⟩ := (OR.isl (h.fr hf (fun b hb e => by have e : b = r := e; have := (h.bounds hb).1; omega))) j z hj
  injection e' with e'
  injection e' with e1 e2
  subst e1 e2
  exact hc

set_option maxRecDepth 100000 in
set_option maxHeartbeats 2000000 in
theorem drawParamPair (w : World) (A : Option Addr) (n c : Nat) (hn : n ≤ maxLen) (hnc : n ≤ c) (hb : Byt w A n) :
    Calls Tryd.prog 26 #[.slice A n c] w fun e w' => DrPp w e w' := by
  have OP := Lib.hid (open_any w A n c hn hnc hb)
  clear hn hnc hb
  go_enter Tryd.func26, Tryd.ntmps26
  go_wp2_with fail
  refine OP.out.mono ?_
  rintro e w1 ⟨r, A1, n1, c1, rfl, hf1, hr1, hd1⟩
  have HF1 := Lib.hid hf1
  have KD := Lib.hid (kind_draw w1 r A1 n1 c1 0 hd1 (by omega))
  clear hf1 hd1 OP
  go_wp2_with fail
  refine KD.out.mono ?_
  rintro e w2 ⟨s, p2, rfl, hs, hf2, hp2, hd2⟩
  have HF2 : Hid (Fr No w w2) := HF1.out.then_ hf2 (fun b hb e => by have e : b = r := e; omega)
  have SD := Lib.hid (size_draw w2 r A1 n1 c1 p2 hd2 (by omega))
  clear hf2 hd2 KD
  go_wp2_with fail
  refine SD.out.mono ?_
  rintro e w3 ⟨m, p3, rfl, hm0, hm4, hf3, hp3, hd3⟩
  have HF3 : Hid (Fr No w w3) := HF2.out.then_ hf3 (fun b hb e => by have e : b = r := e; omega)
  have SD2 := Lib.hid (size_draw w3 r A1 n1 c1 p3 hd3 (by omega))
  clear hf3 hd3 SD
  go_wp2_with fail
  refine SD2.out.mono ?_
  rintro e w4 ⟨k, p4, rfl, hk0, hk4, hf4, hp4, hd4⟩
  have HF4 : Hid (Fr No w w4) := HF3.out.then_ hf4 (fun b hb e => by have e : b = r := e; omega)
  have HD4 := Lib.hid hd4
  have PL := Lib.hid (specParamList w4 s m (by unfold maxLen; omega))
  have HS : Hid (s.length ≤ 40 ∧ (0 ≤ m ∧ m ≤ 4) ∧ (0 ≤ k ∧ k ≤ 4)) := ⟨hs, ⟨hm0, hm4⟩, ⟨hk0, hk4⟩⟩
  clear hf4 hd4 SD2
  go_wp2_with fail
  refine PL.out.mono ?_
  rintro e w5 ⟨Px, bx, Ax, qx, cx, hpx, rfl, hf5, hox⟩
  have hlx := hpx.len
  have HF5 := Lib.hid hf5
  have HOX := Lib.hid hox
  have PM := Lib.hid (specParamList w5 s k (by unfold maxLen; omega))
  clear hpx hf5 hox PL
  go_wp2_with fail
  refine PM.out.mono ?_
  rintro e w6 ⟨Py, bb, Ay, qy, cy, hpy, rfl, hf6, hoy⟩
  have hly := hpy.len
  have HF6 := Lib.hid ((HF4.out.trans HF5.out).trans hf6)
  have hd6 := (HD4.out.no HF5.out).no hf6
  have HD6 := Lib.hid hd6
  have HOX6 := Lib.hid (HOX.out.no hf6)
  have HOY := Lib.hid hoy
  have h4r := HD4.out.blk.lt
  have h5r : r < w5.heap.size := Nat.lt_of_lt_of_le h4r HF5.out.size
  have HF7 : Hid (Fr (One r) w6 w6) := Fr.refl _ _
  have PK := Lib.hid (pick_any w6 r A1 n1 c1 p4 2 hd6 (by decide) (by decide) (by omega))
  clear hpy hf6 hoy hd6 PM
  cases bx with
  | false =>
    clear PK
    have OF := Lib.hid (of_draw w6 r A1 n1 c1 p4 HD6.out (by omega) s (by unfold maxLen; omega) m)
    go_wp2_with fail
    refine OF.out.mono ?_
    rintro e wa ⟨xx, pa, rfl, _, _, hfa, hpa, hda⟩
    have HFa := Lib.hid (HF7.out.trans hfa)
    have OG := Lib.hid (of_draw wa r A1 n1 c1 pa hda (by omega) s (by unfold maxLen; omega) k)
    clear hfa hda OF
    go_wp2_with fail
    refine OG.out.mono ?_
    rintro e wb ⟨yy, pb, rfl, _, _, hfb, _, _⟩
    have FIN : Hid (DrPp w (.returned (.tuple #[S s, .int .i64 m, .int .i64 k, .int .i64 xx, .int .i64 yy])) wb) := ⟨s, m, k, xx, yy, rfl, HS.out.1, HS.out.2.1, HS.out.2.2, HF6.out.then_ (HFa.out.trans hfb) (fun b hb e => by have e : b = r := e; omega)⟩
    clear hfb OG
    go_wp2_with fail
    refine bodyPost_ret (v := .tuple #[S s, .int .i64 m, .int .i64 k, .int .i64 xx, .int .i64 yy]) (by simp [results, Tryd.results26, go_sem]) rfl ?_
    exact FIN.out
  | true =>
  cases bb with
  | false =>
    clear PK
    have OF := Lib.hid (of_draw w6 r A1 n1 c1 p4 HD6.out (by omega) s (by unfold maxLen; omega) m)
    go_wp2_with fail
    refine OF.out.mono ?_
    rintro e wa ⟨xx, pa, rfl, _, _, hfa, hpa, hda⟩
    have HFa := Lib.hid (HF7.out.trans hfa)
    have OG := Lib.hid (of_draw wa r A1 n1 c1 pa hda (by omega) s (by unfold maxLen; omega) k)
    clear hfa hda OF
    go_wp2_with fail
    refine OG.out.mono ?_
    rintro e wb ⟨yy, pb, rfl, _, _, hfb, _, _⟩
    have FIN : Hid (DrPp w (.returned (.tuple #[S s, .int .i64 m, .int .i64 k, .int .i64 xx, .int .i64 yy])) wb) := ⟨s, m, k, xx, yy, rfl, HS.out.1, HS.out.2.1, HS.out.2.2, HF6.out.then_ (HFa.out.trans hfb) (fun b hb e => by have e : b = r := e; omega)⟩
    clear hfb OG
    go_wp2_with fail
    refine bodyPost_ret (v := .tuple #[S s, .int .i64 m, .int .i64 k, .int .i64 xx, .int .i64 yy]) (by simp [results, Tryd.results26, go_sem]) rfl ?_
    exact FIN.out
  | true =>
  by_cases h0 : qx = 0
  · subst h0
    clear PK
    have OF := Lib.hid (of_draw w6 r A1 n1 c1 p4 HD6.out (by omega) s (by unfold maxLen; omega) m)
    go_wp2_with fail
    refine OF.out.mono ?_
    rintro e wa ⟨xx, pa, rfl, _, _, hfa, hpa, hda⟩
    have HFa := Lib.hid (HF7.out.trans hfa)
    have OG := Lib.hid (of_draw wa r A1 n1 c1 pa hda (by omega) s (by unfold maxLen; omega) k)
    clear hfa hda OF
    go_wp2_with fail
    refine OG.out.mono ?_
    rintro e wb ⟨yy, pb, rfl, _, _, hfb, _, _⟩
    have FIN : Hid (DrPp w (.returned (.tuple #[S s, .int .i64 m, .int .i64 k, .int .i64 xx, .int .i64 yy])) wb) := ⟨s, m, k, xx, yy, rfl, HS.out.1, HS.out.2.1, HS.out.2.2, HF6.out.then_ (HFa.out.trans hfb) (fun b hb e => by have e : b = r := e; omega)⟩
    clear hfb OG
    go_wp2_with fail
    refine bodyPost_ret (v := .tuple #[S s, .int .i64 m, .int .i64 k, .int .i64 xx, .int .i64 yy]) (by simp [results, Tryd.results26, go_sem]) rfl ?_
    exact FIN.out
  by_cases g0 : qy = 0
  · subst g0
    have hxq : decide ((0 : Int) < (qx : Int)) = true := by simp; omega
    clear PK
    have OF := Lib.hid (of_draw w6 r A1 n1 c1 p4 HD6.out (by omega) s (by unfold maxLen; omega) m)
    go_wp2_with fail
    refine OF.out.mono ?_
    rintro e wa ⟨xx, pa, rfl, _, _, hfa, hpa, hda⟩
    have HFa := Lib.hid (HF7.out.trans hfa)
    have OG := Lib.hid (of_draw wa r A1 n1 c1 pa hda (by omega) s (by unfold maxLen; omega) k)
    clear hfa hda OF
    go_wp2_with fail
    refine OG.out.mono ?_
    rintro e wb ⟨yy, pb, rfl, _, _, hfb, _, _⟩
    have FIN : Hid (DrPp w (.returned (.tuple #[S s, .int .i64 m, .int .i64 k, .int .i64 xx, .int .i64 yy])) wb) := ⟨s, m, k, xx, yy, rfl, HS.out.1, HS.out.2.1, HS.out.2.2, HF6.out.then_ (HFa.out.trans hfb) (fun b hb e => by have e : b = r := e; omega)⟩
    clear hfb OG
    go_wp2_with fail
    refine bodyPost_ret (v := .tuple #[S s, .int .i64 m, .int .i64 k, .int .i64 xx, .int .i64 yy]) (by simp [results, Tryd.results26, go_sem]) rfl ?_
    exact FIN.out
  obtain ⟨gx, ox, rfl, ex, CX⟩ := row_one HOX6.out h0 h4r
  obtain ⟨gy, oy, rfl, ey, CY⟩ := row_one HOY.out g0 h5r
  have hqx : qx ≤ 300 := by omega
  have hqy : qy ≤ 300 := by omega
  have hxq : decide ((0 : Int) < (qx : Int)) = true := by simp; omega
  have hyq : decide ((0 : Int) < (qy : Int)) = true := by simp; omega
  have CX := Lib.hid CX
  have CY := Lib.hid CY
  have EX := Lib.hid ex
  have EY := Lib.hid ey
  clear ex ey hlx hly HOX HOX6 HOY
  go_wp2_with fail
  refine PK.out.mono ?_
  rintro e w7 ⟨z, rfl, hz, hf7, hd7⟩
  have HF7 := Lib.hid hf7
  have HD7 := Lib.hid hd7
  clear hf7 hd7 PK
  by_cases hz0 : z = 0
  · subst hz0
    have hD : Fr (One r) w7 w7.drew := (Fr.refl _ _).drew
    have P1 : Hid (Calls Tryd.prog 78 #[Ptr r, .int .i64 (qx : Int)] w7.drew fun e w' => PickP r A1 n1 c1 (p4 + 1) qx w7.drew e w') := pick_any w7.drew r A1 n1 c1 (p4 + 1) qx (HD7.out.no ((Fr.refl No _).drew)) (by omega) (by omega) (by omega)
    have P2 : Hid (∀ V, Rdc V r A1 n1 c1 (p4 + 1 + 1) → Calls Tryd.prog 78 #[Ptr r, .int .i64 (qy : Int)] V fun e w' => PickP r A1 n1 c1 (p4 + 1 + 1) qy V e w') := fun V hd => pick_any V r A1 n1 c1 (p4 + 1 + 1) qy hd (by omega) (by omega) (by omega)
    go_wp2_with fail
    go_region_with (first | (go_at_call 78; ((with_reducible refine P1.out.mono ?_); rintro e w8 ⟨x1, rfl, hx1, hf8, hd8⟩; have HD8 := Lib.hid hd8; have HF8 := Lib.hid (hD.trans hf8); obtain ⟨v1, hv1⟩ : ∃ v, Px[x1]? = some v := ⟨_, List.getElem?_eq_getElem (by have := EX.out; omega)⟩; have HV1 := Lib.hid hv1; have k1 := CX.out w8 (HF7.out.trans HF8.out) x1 v1 hv1; have hx1I : (x1 : Int) < (qx : Int) := (by omega); clear hd8 hf8 hv1)) | (go_at_call 78; ((with_reducible refine (P2.out _ HD8.out).mono ?_); rintro e w9 ⟨x2, rfl, hx2, hf9, hd9⟩; have HF9 := Lib.hid (HF8.out.trans hf9); obtain ⟨v2, hv2⟩ : ∃ v, Py[x2]? = some v := ⟨_, List.getElem?_eq_getElem (by have := EY.out; omega)⟩; have k2 := CX.out w9 (HF7.out.trans HF9.out) x1 v1 HV1.out; have k3 := CY.out w9 (HF7.out.trans HF9.out) x2 v2 hv2; have hx2I : (x2 : Int) < (qy : Int) := (by omega); clear hd9 hf9 hv2)))
    all_goals
      have FIN : Hid (DrPp w (.returned (.tuple #[S s, .int .i64 m, .int .i64 k, .int .i64 v1, .int .i64 v2])) w9) := ⟨s, m, k, v1, v2, rfl, HS.out.1, HS.out.2.1, HS.out.2.2, HF6.out.then_ (HF7.out.trans HF9.out) (fun b hb e => by have e : b = r := e; omega)⟩
      clear k1 k2 k3
      go_wp2_with fail
      refine bodyPost_ret (v := .tuple #[S s, .int .i64 m, .int .i64 k, .int .i64 v1, .int .i64 v2]) (by simp [results, Tryd.results26, go_sem]) rfl ?_
      exact FIN.out
  · have z0 : ((z : Int) == 0) = false := beq_eq_false_iff_ne.2 (by omega)
    have OF := Lib.hid (of_draw w7 r A1 n1 c1 (p4 + 1) HD7.out (by omega) s (by unfold maxLen; omega) m)
    go_wp2_with fail
    refine OF.out.mono ?_
    rintro e wa ⟨xx, pa, rfl, _, _, hfa, hpa, hda⟩
    have HFa := Lib.hid (HF7.out.trans hfa)
    have OG := Lib.hid (of_draw wa r A1 n1 c1 pa hda (by omega) s (by unfold maxLen; omega) k)
    clear hfa hda OF
    go_wp2_with fail
    refine OG.out.mono ?_
    rintro e wb ⟨yy, pb, rfl, _, _, hfb, _, _⟩
    have FIN : Hid (DrPp w (.returned (.tuple #[S s, .int .i64 m, .int .i64 k, .int .i64 xx, .int .i64 yy])) wb) := ⟨s, m, k, xx, yy, rfl, HS.out.1, HS.out.2.1, HS.out.2.2, HF6.out.then_ (HFa.out.trans hfb) (fun b hb e => by have e : b = r := e; omega)⟩
    clear hfb OG
    go_wp2_with fail
    refine bodyPost_ret (v := .tuple #[S s, .int .i64 m, .int .i64 k, .int .i64 xx, .int .i64 yy]) (by simp [results, Tryd.results26, go_sem]) rfl ?_
    exact FIN.out

theorem rel_row {w : World} {g : Nat} {L R : Int} {ps : List Int} {B : Option Addr} {cp : Nat} {t : TypeId} (hb : Blk w g t #[.int .i64 L, .int .i64 R, .slice B ps.length cp]) (hi : ISl w B ps) (hl : ps.length ≤ 2000000) : Rels w (some ⟨g, 0, none⟩) [(L, R, ps)] := fun j L' R' ps' hj => by
  cases j with
  | zero =>
    simp at hj
    obtain ⟨rfl, rfl, rfl⟩ := hj
    exact ⟨g, 0, B, cp, rfl, (hb.cell _).trans rfl, (hb.cell _).trans rfl, (hb.cell _).trans rfl, hi, hl⟩
  | succ j => simp at hj

set_option maxRecDepth 100000 in
set_option maxHeartbeats 4000000 in
theorem lawParamPairP (w : World) (HTAB : TZt w) (A : Option Addr) (n c : Nat) (hn : n ≤ maxLen) (hnc : n ≤ c) (hb : Byt w A n) (A2 : Option Addr) (n2 c2 : Nat) (hn2 : n2 ≤ maxLen) (_ : n2 ≤ c2) (_ : Byt w A2 n2) :
    Calls Tryd.prog 7 #[.slice A n c, .slice A2 n2 c2] w fun e w' => Yes w e w' := by
  have DR := Lib.hid (drawParamPair w A n c hn hnc hb)
  have HT := Lib.hid HTAB
  clear HTAB hb
  have hn' := hn
  unfold maxLen at hn' hn2
  have hn2' : (n2 : Int) ≤ 9223372036854775807 := by omega
  by_cases hbig : 1048576 < n
  · have hd : decide ((1048576 : Int) < (n : Int)) = true := by simp; omega
    go_enter Tryd.func7, Tryd.ntmps7
    go_wp2_with fail
    go_ret
    exact ⟨rfl, Fr.refl _ _⟩
  have hd : decide ((1048576 : Int) < (n : Int)) = false := by simp; omega
  by_cases hbig2 : 1048576 < n2
  · have hd2 : decide ((1048576 : Int) < (n2 : Int)) = true := by simp; omega
    go_enter Tryd.func7, Tryd.ntmps7
    go_wp2_with fail
    go_ret
    exact ⟨rfl, Fr.refl _ _⟩
  have hd2 : decide ((1048576 : Int) < (n2 : Int)) = false := by simp; omega
  go_enter Tryd.func7, Tryd.ntmps7
  go_wp2_with fail
  refine DR.out.mono ?_
  rintro e w1 ⟨s, m, k, x, y, rfl, hs, hm, hk, hf1⟩
  have HF1 := Lib.hid hf1
  have hsm : s.length ≤ maxLen := by unfold maxLen; omega
  have PP : Hid (∀ V (m k x y : Int), Fr No w V → Calls Tryd.prog 27 #[S s, .int .i64 m, .int .i64 k, .int .i64 x, .int .i64 y] V fun e w' => AnsB (PairIs s m k x y) V e w') := fun V m k x y hf => implParamPair V s m k x y hsm (HT.out.fr hf (fun h => h))
  have SP : Hid (∀ V, Calls Tryd.prog 28 #[S s, .int .i64 m, .int .i64 k, .int .i64 x, .int .i64 y] V fun e w' => AnsB (PairIs s m k x y) V e w') := fun V => specParamPair V s m k x y hsm
  have HSM := Lib.hid hsm
  have hn2b : n2 ≤ 1048576 := by omega
  clear hf1 DR hsm hd hd2 hbig hbig2 hn hn' hn2 hnc hs
  go_wp2_with fail
  refine (PP.out _ m k x y HF1.out).mono ?_
  rintro e w2 ⟨b1, rfl, hb1, hf2⟩
  have HF2 := Lib.hid (HF1.out.trans hf2)
  clear hf2
  go_wp2_with fail
  refine (SP.out _).mono ?_
  rintro e w3 ⟨b2, rfl, hb2, hf3⟩
  have HF3 := Lib.hid (HF2.out.trans hf3)
  obtain rfl : b1 = b2 := Bool.eq_iff_iff.2 (hb1.trans hb2.symm)
  clear hf3 SP hb2
  cases b1 with
  | false =>
    clear hb1
    go_wp2_with fail
    go_ret
    exact ⟨rfl, HF3.out⟩
  | true =>
    have hp := hb1.1 rfl
    have HP := Lib.hid hp
    obtain ⟨i1, i3, i4, i5⟩ := hp.in3
    obtain ⟨mN, rfl⟩ : ∃ mN : Nat, m = mN := ⟨m.toNat, by omega⟩
    obtain ⟨kN, rfl⟩ : ∃ kN : Nat, k = kN := ⟨k.toNat, by omega⟩
    have m1 : 1 ≤ mN := by omega
    have m3 : mN ≤ 3 := by omega
    have k1 : 1 ≤ kN := by omega
    have k3 : kN ≤ 3 := by omega
    obtain ⟨P, hP⟩ : ∃ P, P = mN * kN := ⟨_, rfl⟩
    have eP : (mN : Int) * (kN : Int) = (P : Int) := by rw [hP]; exact (Int.natCast_mul _ _).symm
    have hP9 : P ≤ 9 := by have := Nat.mul_le_mul m3 k3; omega
    obtain ⟨T, hT⟩ : ∃ T, T = 2 ^ (mN * kN) := ⟨_, rfl⟩
    have hT9 : T ≤ 512 := by
      have h : 2 ^ (mN * kN) ≤ 2 ^ 9 := Nat.pow_le_pow_right (by omega) (by omega)
      omega
    have hT1 : 1 ≤ T := by rw [hT]; exact Nat.one_le_two_pow
    obtain ⟨v, hv⟩ : ∃ v : Nat, v = n2 * 5 % T := ⟨_, rfl⟩
    have hvT : v < T := by rw [hv]; exact Nat.mod_lt _ (by omega)
    have hmnI : (mN : Int) * (kN : Int) ≤ 9 := by omega
    have hmn0 : 0 ≤ (mN : Int) * (kN : Int) := by omega
    have hm3I : (mN : Int) ≤ 3 := by omega
    have hk3I : (kN : Int) ≤ 3 := by omega
    have hnz : ¬ (2 : Int) ^ (mN * kN) = 0 := by
      have e : (2 : Int) ^ (mN * kN) = (T : Int) := by rw [hT]; simp
      rw [e]
      omega
    have hval : (n2 : Int) * 5 % (2 : Int) ^ (mN * kN) = (v : Int) := by
      rw [hv, hT, Int.natCast_emod, Int.natCast_mul, Int.natCast_pow]
      rfl
    have HNK : Hid (v < 2 ^ (mN * kN)) := by show _ < _; omega
    have HNUM : relNumO (mN : Int) (kN : Int) (v : Int) = some ((mN : Int), (kN : Int), numP mN kN v) := numO_eq (numOk m1 m3 k1 k3 HNK.out)
    have RN : Hid (∀ V, Fr No w V → Calls Tryd.prog 29 #[.int .i64 (mN : Int), .int .i64 (kN : Int), .int .i64 (v : Int)] V fun e w' => AnsR (some ((mN : Int), (kN : Int), numP mN kN v)) V e w') := fun V hf => by
      have h := implRelNumber V mN kN v (HT.out.fr hf (fun h => h))
      rw [HNUM] at h
      exact h
    have HOK : Hid (RelOk (mN : Int) (kN : Int) (numP mN kN v)) := numP_ok m1 m3 k1 k3
    have HLEN : Hid ((numP mN kN v).length ≤ 9) := by
      have := numP_len mN kN v
      show _ ≤ _
      omega
    obtain ⟨ps, hps⟩ : ∃ ps, ps = numP mN kN v := ⟨_, rfl⟩
    rw [← hps] at RN HOK HLEN
    have hp9 : (2 : Int) ^ (mN * kN) ≤ 512 := by
      have e : (2 : Int) ^ (mN * kN) = (T : Int) := by rw [hT]; simp
      rw [e]
      omega
    have hp0 : 0 ≤ (2 : Int) ^ (mN * kN) := by
      have e : (2 : Int) ^ (mN * kN) = (T : Int) := by rw [hT]; simp
      rw [e]
      omega
    clear hb1 hp hm hk i1 i3 i4 i5 hP eP HNUM hps hv hvT
    go_wp2_with fail
    all_goals (try (exfalso; exact hnz (by assumption)))
    rw [hval]
    refine (RN.out _ HF3.out).mono ?_
    rintro e w5 ⟨A5, q5, c5, rfl, hf5, ho5⟩
    simp only [Option.getD_some, Option.isSome_some] at ho5 ⊢
    obtain ⟨W6, hW6, hf6, hb6⟩ : ∃ W, W = w5.alloc (.cells #[.int .i64 mN, .int .i64 kN, .slice A5 q5 c5] 30) ∧ Fr No w5 W ∧ Blk W w5.heap.size 30 #[.int .i64 mN, .int .i64 kN, .slice A5 q5 c5] := ⟨_, rfl, (Fr.refl _ _).alloc _, Blk.new _ _ _⟩
    have HF6 := Lib.hid ((HF3.out.trans hf5).trans hf6)
    have HO6 := Lib.hid (ho5.no hf6)
    have HB6 := Lib.hid hb6
    have HW6 := Lib.hid hW6
    clear hf5 ho5 hf6 hb6 hW6 RN hval
    go_wp2_with fail
    rw [← HW6.out]
    refine (PP.out _ kN mN y x HF6.out).mono ?_
    rintro e w7 ⟨b7, rfl, hb7, hf7⟩
    obtain rfl : b7 = true := hb7.2 HP.out.swap
    have HF7 := Lib.hid (HF6.out.trans hf7)
    have hbr := HB6.out.fr hf7 (fun h => h)
    obtain ⟨W8, hW8, hf8, hs8, hr8⟩ : ∃ W, W = (w7.alloc (.cells #[S [97]] 9)).alloc (.cells #[.int .i64 mN, .int .i64 kN, .slice A5 q5 c5] 30) ∧ Fr No w7 W ∧ Blk W w7.heap.size 9 #[S [97]] ∧ Blk W (w7.heap.size + 1) 30 #[.int .i64 mN, .int .i64 kN, .slice A5 q5 c5] := ⟨_, rfl, ((Fr.refl _ _).alloc _).alloc _, (Blk.new _ _ _).alloc _, Blk.new_at _ _ _ (by simp)⟩
    have HF8 := Lib.hid (HF7.out.trans hf8)
    have hor8 := (HO6.out.no hf7).no hf8
    have hq5 := hor8.1
    have hrels : Rels W8 (some ⟨w7.heap.size + 1, 0, none⟩) [((mN : Int), (kN : Int), ps)] := rel_row (by rw [hq5] at hr8; exact hr8) (OR.isl hor8) (by have := HLEN.out; omega)
    have RL := Lib.hid (related_any W8 s (some ⟨w7.heap.size, 0, none⟩) (some ⟨w7.heap.size + 1, 0, none⟩) 1 1 [[97]] [((mN : Int), (kN : Int), ps)] x y HSM.out (ssl_blk hs8 rfl) hrels (by decide) (by simp) (by simp [maxLen]) (HT.out.fr HF8.out (fun h => h)))
    have a0 : w7.cell? ⟨w5.heap.size, 0, none⟩ = some (.int .i64 mN) := (hbr.cell 0).trans rfl
    have a1 : w7.cell? ⟨w5.heap.size, 1, none⟩ = some (.int .i64 kN) := (hbr.cell 1).trans rfl
    have a2 : w7.cell? ⟨w5.heap.size, 2, none⟩ = some (.slice A5 q5 c5) := (hbr.cell 2).trans rfl
    have l7 := hbr.lt
    have HW8 := Lib.hid hW8
    clear hb7 hf7 hbr hf8 hs8 hr8 hor8 hq5 hrels hW8 PP
    go_wp2_with fail
    rw [← HW8.out]
    refine RL.out.mono ?_
    rintro e w9 ⟨hf9, b9, rfl, hb9⟩
    obtain rfl : b9 = true := hb9.2 (HP.out.rel HOK.out)
    have HF9 := Lib.hid (HF8.out.trans hf9)
    clear hf9 hb9 RL
    go_wp2_with fail
    go_ret
    exact ⟨rfl, HF9.out⟩
end Go.Proofs.YtloecimlimoanaaDoor
