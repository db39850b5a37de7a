/- The plain law FnIdentity. -/
import Derived.Test.YtloecimlimoanaaDoorRpl
import Derived.Test.YtloecimlimoanaaDoorDrl
import Derived.Test.YtloecimlimoanaaDoorRla
namespace Go.Proofs.YtloecimlimoanaaDoor
open Go.RowKit Go.ChangeMaps Go.Shelf

/-- a relation, and whether there is one, is returned: part by part -/
def AnsCIi (Lo Ro : Int) (Po : List Int) (bo : Bool) (w : World) (e : Ending) (w' : World) : Prop := ∃ A n c, e = .returned (.tuple #[RV Lo Ro A n c, .bool bo]) ∧ Fr No w w' ∧ OR w' w.heap.size A n c Po

set_option maxRecDepth 100000 in
set_option maxHeartbeats 4000000 in
theorem lawIdentityP (w : World) (HTAB : TZt w) (A : Option Addr) (n c : Nat) (hn : n ≤ maxLen) (hnc : n ≤ c) (hb : Byt w A n) :
    Calls Tryd.prog 5 #[.slice A n c] w fun e w' => Yes w e w' := by
  obtain ⟨i0, hi0, hz0, hz1, hz2⟩ := info_parts info_rel
  have DR := Lib.hid (drawRelLift w A n c hn hnc hb)
  have HT := Lib.hid HTAB
  clear HTAB hb
  have hn' := hn
  unfold maxLen at hn'
  by_cases hbig : 1048576 < n
  · have hd : decide ((1048576 : Int) < (n : Int)) = true := by simp; omega
    go_enter Tryd.func5, Tryd.ntmps5
    go_wp2_with fail
    go_ret
    exact ⟨rfl, Fr.refl _ _⟩
  have hd : decide ((1048576 : Int) < (n : Int)) = false := by simp; omega
  go_enter Tryd.func5, Tryd.ntmps5
  go_wp2_with fail
  refine DR.out.mono ?_
  rintro e w1 ⟨s, gn, gr, ns, L, R, ps, rfl, hs, h1, h2, h3, hN, hR, hf1⟩
  have HF1 := Lib.hid hf1
  have HN := Lib.hid hN
  have HR := Lib.hid hR
  have HT1 : Hid (TZt w1) := HT.out.fr hf1 (fun h => h)
  have HS : Hid (s.length ≤ maxLen ∧ ns.length ≤ 1048576 ∧ (∀ x ∈ ns, x.length ≤ maxLen) ∧ ps.length ≤ 100) := ⟨by unfold maxLen; omega, by omega, fun x hx => by have := h2 x hx; unfold maxLen; omega, h3⟩
  obtain ⟨o, ho⟩ := LiftR.ex s ns [(L, R, ps)]
  have HO := Lib.hid ho
  obtain ⟨Lo, Ro, Po, bo, HLEN, HSO, IM, SP⟩ : ∃ (Lo Ro : Int) (Po : List Int) (bo : Bool), Hid (Po.length ≤ 100000) ∧ Hid (bo = true → o = some (Lo, Ro, Po)) ∧ Hid (∀ W, Fr No w1 W → Calls Tryd.prog 18 #[S s, .slice (some ⟨gn, 0, none⟩) ns.length ns.length, .slice (some ⟨gr, 0, none⟩) 1 1] W fun e w' => AnsCIi Lo Ro Po bo W e w') ∧ Hid (∀ W, Fr No w1 W → Calls Tryd.prog 19 #[S s, .slice (some ⟨gn, 0, none⟩) ns.length ns.length, .slice (some ⟨gr, 0, none⟩) 1 1] W fun e w' => AnsCIi Lo Ro Po bo W e w') :=
    ⟨(o.getD (0, 0, [])).1, (o.getD (0, 0, [])).2.1, (o.getD (0, 0, [])).2.2, o.isSome, ho.len, fun h => (by cases o with | none => cases h | some q => rfl), fun W hf => implRelLift W s _ _ _ _ ns [(L, R, ps)] o HO.out HS.out.1 (HN.out.keep hf (fun _ h => h.elim)) (HR.out.no hf) HS.out.2.1 (by simp) HS.out.2.2.1 (HT1.out.fr hf (fun h => h)), fun W hf => specRelLift W s _ _ _ _ ns [(L, R, ps)] o HO.out HS.out.1 (Nat.le_refl _) (HN.out.keep hf (fun _ h => h.elim)) (HR.out.no hf) HS.out.2.1 (by simp) HS.out.2.2.1⟩
  have F0 : Hid (Fr No w1 w1) := Fr.refl _ _
  clear hf1 hN hR ho DR hd hbig hn hn' hnc h1 h2 h3 hs
  go_wp2_with fail
  refine (IM.out _ F0.out).mono ?_
  rintro e w2 ⟨Ag, ng, cg, rfl, hf, hor⟩
  have m1 := Lib.hid hf.size
  have F2 := Lib.hid (F0.out.trans hf)
  have R3 := Lib.hid hor
  have bd4 : Hid (∀ b, Own Ag b → w1.heap.size ≤ b ∧ b < (w2).heap.size) := fun b hb => OR.bounds hor hb
  clear hf hor
  have ha5 : Fr No w2 (w2.alloc (.cells #[.int .i64 Lo, .int .i64 Ro, .slice Ag ng cg] 30)) := (Fr.refl No w2).alloc _
  have m6 := Lib.hid ha5.size
  have R7 := Lib.hid (R3.out.fr ha5 (fun _ _ h => h))
  have F8 := Lib.hid (F2.out.trans ha5)
  have B9 : Hid (Blk (w2.alloc (.cells #[.int .i64 Lo, .int .i64 Ro, .slice Ag ng cg] 30)) (w2.heap.size) 30 #[.int .i64 Lo, .int .i64 Ro, .slice Ag ng cg]) := Blk.new _ _ _
  clear ha5 R3 F2
  go_wp2_with fail
  generalize (w2.alloc (.cells #[.int .i64 Lo, .int .i64 Ro, .slice Ag ng cg] 30)) = w3 at *
  refine (SP.out _ F8.out).mono ?_
  rintro e w4 ⟨Ap, np, cp, rfl, hf, hor⟩
  have m10 := Lib.hid hf.size
  have B11 := Lib.hid (B9.out.fr hf (fun h => h))
  have R12 := Lib.hid (R7.out.fr hf (fun _ _ h => h))
  have F13 := Lib.hid (F8.out.trans hf)
  have R14 := Lib.hid hor
  have bd15 : Hid (∀ b, Own Ap b → w3.heap.size ≤ b ∧ b < (w4).heap.size) := fun b hb => OR.bounds hor hb
  clear hf hor B9 R7 F8
  have ha16 : Fr No w4 (w4.alloc (.cells #[.int .i64 Lo, .int .i64 Ro, .slice Ap np cp] 30)) := (Fr.refl No w4).alloc _
  have m17 := Lib.hid ha16.size
  have B18 := Lib.hid (B11.out.fr ha16 (fun h => h))
  have R19 := Lib.hid (R12.out.fr ha16 (fun _ _ h => h))
  have R20 := Lib.hid (R14.out.fr ha16 (fun _ _ h => h))
  have F21 := Lib.hid (F13.out.trans ha16)
  have B22 : Hid (Blk (w4.alloc (.cells #[.int .i64 Lo, .int .i64 Ro, .slice Ap np cp] 30)) (w4.heap.size) 30 #[.int .i64 Lo, .int .i64 Ro, .slice Ap np cp]) := Blk.new _ _ _
  clear ha16 B11 R12 R14 F13
  have c23 : World.cell? (w4.alloc (.cells #[.int .i64 Lo, .int .i64 Ro, .slice Ap np cp] 30)) ⟨w2.heap.size, 0, none⟩ = some (.int .i64 Lo) := (B18.out.cell 0).trans rfl
  have c24 : World.cell? (w4.alloc (.cells #[.int .i64 Lo, .int .i64 Ro, .slice Ap np cp] 30)) ⟨w2.heap.size, 1, none⟩ = some (.int .i64 Ro) := (B18.out.cell 1).trans rfl
  have c25 : World.cell? (w4.alloc (.cells #[.int .i64 Lo, .int .i64 Ro, .slice Ap np cp] 30)) ⟨w2.heap.size, 2, none⟩ = some (.slice Ag ng cg) := (B18.out.cell 2).trans rfl
  go_wp2_with fail
  generalize (w4.alloc (.cells #[.int .i64 Lo, .int .i64 Ro, .slice Ap np cp] 30)) = w5 at *
  have hEQ : Calls Tryd.prog 20 #[RV Lo Ro Ag ng cg, RV Lo Ro Ap np cp] w5 fun e w' => e = .returned (.bool true) ∧ Fr No w5 w' := by
    rw [R19.out.1, R20.out.1]
    refine (samer_any w5 Lo Ro Ag cg Po Lo Ro Ap cp Po (OR.isl R19.out) (OR.isl R20.out) (by have := HLEN.out; omega) (by have := HLEN.out; omega)).mono ?_
    rintro e w' ⟨b, rfl, hb, hf⟩
    obtain rfl : b = true := hb.2 ⟨rfl, rfl, rfl⟩
    exact ⟨rfl, hf⟩
  have HEQ := Lib.hid hEQ
  clear hEQ
  refine (HEQ.out).mono ?_
  rintro e w6 ⟨rfl, hf⟩
  have m26 := Lib.hid hf.size
  have B27 := Lib.hid (B18.out.fr hf (fun h => h))
  have B28 := Lib.hid (B22.out.fr hf (fun h => h))
  have R29 := Lib.hid (R19.out.fr hf (fun _ _ h => h))
  have R30 := Lib.hid (R20.out.fr hf (fun _ _ h => h))
  have F31 := Lib.hid (F21.out.trans hf)
  clear hf HEQ B18 B22 R19 R20 F21 c23 c24 c25
  by_cases hbo : bo = false
  · subst hbo
    have c32 : World.cell? w6 ⟨w2.heap.size, 0, none⟩ = some (.int .i64 Lo) := (B27.out.cell 0).trans rfl
    have c33 : World.cell? w6 ⟨w2.heap.size, 1, none⟩ = some (.int .i64 Ro) := (B27.out.cell 1).trans rfl
    have c34 : World.cell? w6 ⟨w2.heap.size, 2, none⟩ = some (.slice Ag ng cg) := (B27.out.cell 2).trans rfl
    have c35 : World.cell? w6 ⟨w4.heap.size, 0, none⟩ = some (.int .i64 Lo) := (B28.out.cell 0).trans rfl
    have c36 : World.cell? w6 ⟨w4.heap.size, 1, none⟩ = some (.int .i64 Ro) := (B28.out.cell 1).trans rfl
    have c37 : World.cell? w6 ⟨w4.heap.size, 2, none⟩ = some (.slice Ap np cp) := (B28.out.cell 2).trans rfl
    go_wp2_with fail
    have hEQ : Calls Tryd.prog 20 #[RV Lo Ro Ag ng cg, RV Lo Ro Ap np cp] w6 fun e w' => e = .returned (.bool true) ∧ Fr No w6 w' := by
      rw [R29.out.1, R30.out.1]
      refine (samer_any w6 Lo Ro Ag cg Po Lo Ro Ap cp Po (OR.isl R29.out) (OR.isl R30.out) (by have := HLEN.out; omega) (by have := HLEN.out; omega)).mono ?_
      rintro e w' ⟨b, rfl, hb, hf⟩
      obtain rfl : b = true := hb.2 ⟨rfl, rfl, rfl⟩
      exact ⟨rfl, hf⟩
    have HEQ := Lib.hid hEQ
    clear hEQ
    refine (HEQ.out).mono ?_
    rintro e w7 ⟨rfl, hf⟩
    have m38 := Lib.hid hf.size
    have B39 := Lib.hid (B27.out.fr hf (fun h => h))
    have B40 := Lib.hid (B28.out.fr hf (fun h => h))
    have R41 := Lib.hid (R29.out.fr hf (fun _ _ h => h))
    have R42 := Lib.hid (R30.out.fr hf (fun _ _ h => h))
    have F43 := Lib.hid (F31.out.trans hf)
    clear hf HEQ B27 B28 R29 R30 F31 c32 c33 c34 c35 c36 c37
    go_wp2_with fail
    go_ret
    exact ⟨rfl, HF1.out.trans F43.out⟩
  obtain rfl : bo = true := by cases bo with | false => exact (hbo rfl).elim | true => rfl
  have ho' : LiftR s ns [(L, R, ps)] (some (Lo, Ro, Po)) := by rw [← HSO.out rfl]; exact HO.out
  obtain ⟨t, i, l, r, ca, cb, hD⟩ := ho'.data
  obtain rfl := hD.el
  obtain rfl := hD.er
  obtain rfl := hD.lo
  obtain rfl := hD.ro
  obtain ⟨hok', hlift'⟩ := hD.same
  have hll := relOk_side hD.ok
  have HD := Lib.hid hD
  have c1 := hD.c1
  have c2 := hD.c2
  have HLB : Hid ((smL ca).length ≤ 100000) := by have := bk_le (sm_ok c1.1 c1.2); show _ ≤ _; omega
  have HBL : Hid ((smL l).length ≤ 2000000) := by have := bk_le (sm_ok hll.1 hll.2); show _ ≤ _; omega
  have IM2 : Hid (∀ W gb cap, Fr No w1 W → Rels W (some ⟨gb, 0, none⟩) [((l : Int), (l : Int), smL l)] → Calls Tryd.prog 18 #[S s, .slice (some ⟨gn, 0, none⟩) ns.length ns.length, .slice (some ⟨gb, 0, none⟩) 1 cap] W fun e w' => AnsCIi ca ca (smL ca) true W e w') := fun W gb cap hf hr => implRelLift W s _ _ _ _ ns [((l : Int), (l : Int), smL l)] _ hlift' HS.out.1 (HN.out.keep hf (fun _ h => h.elim)) hr HS.out.2.1 (by simp) HS.out.2.2.1 (HT1.out.fr hf (fun h => h))
  have SM : Hid (∀ W (q : Nat), Fr No w1 W → 1 ≤ q → q ≤ 128 → Calls Tryd.prog 22 #[.int .i64 (q : Int)] W fun e w' => AnsCIi q q (smL q) true W e w') := fun W q hf h1 h2 => by
    have h := implRelSame W (q : Int) (HT1.out.fr hf (fun h => h))
    rw [sameO_sm h1 h2] at h
    exact h
  clear hok' hlift' hD ho' hbo
  obtain ⟨Wb, hWb, hf5, hrow5⟩ : ∃ W, W = w6.alloc (.cells #[] 30) ∧ Fr No w6 W ∧ W.ownsRow w6.heap.size 30 3 (.slice (some ⟨w6.heap.size, 0, none⟩) 0 0) 0 [] := ⟨_, rfl, (Fr.refl _ _).alloc _, rowR_new _⟩
  have HWb := Lib.hid hWb
  have HF5 := Lib.hid hf5
  have HRW := Lib.hid hrow5
  have HB5 : Hid (w6.heap.size ≤ Wb.heap.size) := hf5.size
  clear hWb hf5 hrow5
  go_wp2_with fail
  rw [← HWb.out]
  go_loopw [10, 11] (fun a u wr => (u = .int .i64 0 ∧ a = .slice (some ⟨w6.heap.size, 0, none⟩) 0 0 ∧ wr = Wb) ∨ (u = .int .i64 1 ∧ ∃ gb cap, a = .slice (some ⟨gb, 0, none⟩) 1 cap ∧ Fr No w6 wr ∧ Rels wr (some ⟨gb, 0, none⟩) [((l : Int), (l : Int), smL l)])) (fun _ u _ => 1 - (intOf u).toNat)
  case atStart => exact .inl ⟨rfl, rfl, rfl⟩
  case round =>
    rcases hrel with ⟨rfl, rfl, hwr⟩ | ⟨rfl, gb, cap, rfl, hfr, hrels⟩
    · rw [hwr]
      clear hwr
      obtain ⟨g1, o1, D, cp, e1, k0, k1, k2, hi, _⟩ := (HR.out.no (F31.out.trans HF5.out)) 0 l r ps rfl
      injection e1 with e1
      injection e1 with e1 e2
      subst e1 e2
      rw [Nat.zero_mul, Nat.zero_add] at k0 k1 k2
      have BK := Lib.hid (SM.out Wb l (F31.out.trans HF5.out) hll.1 hll.2)
      clear hi
      go_wp2_with fail
      refine BK.out.mono ?_
      rintro e wq ⟨A6, n6, c6, rfl, hf6, ho6⟩
      obtain ⟨Wq, hWq, hf7, hb7⟩ : ∃ W, W = wq.alloc (.cells #[.int .i64 (l : Int), .int .i64 (l : Int), .slice A6 n6 c6] 30) ∧ Fr No wq W ∧ Blk W wq.heap.size 30 #[.int .i64 (l : Int), .int .i64 (l : Int), .slice A6 n6 c6] := ⟨_, rfl, (Fr.refl _ _).alloc _, Blk.new _ _ _⟩
      have q0 : Wq.cell? ⟨wq.heap.size, 0, none⟩ = some (.int .i64 (l : Int)) := (hb7.cell 0).trans rfl
      have q1 : Wq.cell? ⟨wq.heap.size, 1, none⟩ = some (.int .i64 (l : Int)) := (hb7.cell 1).trans rfl
      have q2 : Wq.cell? ⟨wq.heap.size, 2, none⟩ = some (.slice A6 n6 c6) := (hb7.cell 2).trans rfl
      have HF7 := Lib.hid (hf6.trans hf7)
      have HO7 := Lib.hid (ho6.no hf7)
      have hown := rowR_fr HRW.out (HF7.out.alloc (.cells #[.int .i64 (l : Int), .int .i64 (l : Int), .slice A6 n6 c6] 30)) (fun _ _ h => h)
      have hbs : w6.heap.size ≤ Wq.heap.size := Nat.le_trans HB5.out HF7.out.size
      have hn6 : n6 = (smL l).length := HO7.out.1
      have ARM : Hid (∀ (v' : Value) (wz : World), wz.ownsRow w6.heap.size 30 3 v' 1 [.int .i64 (l : Int), .int .i64 (l : Int), .slice A6 n6 c6] → (Wq.alloc (.cells #[.int .i64 (l : Int), .int .i64 (l : Int), .slice A6 n6 c6] 30)).grownBy wz (Value.slice (some ⟨w6.heap.size, 0, none⟩) 0 0).ownBlock → ∃ gb cap, v' = .slice (some ⟨gb, 0, none⟩) 1 cap ∧ Hid (Fr No w6 wz ∧ Rels wz (some ⟨gb, 0, none⟩) [((l : Int), (l : Int), smL l)])) := by
        intro v' wz ho hg
        have hfo := grown_own hg
        have hfa := HF7.out.alloc (.cells #[.int .i64 (l : Int), .int .i64 (l : Int), .slice A6 n6 c6] 30)
        have hnot : ∀ b, Own (some ⟨w6.heap.size, 0, none⟩) b → w6.heap.size ≤ b ∧ ∃ cs, Blk (Wq.alloc (.cells #[.int .i64 (l : Int), .int .i64 (l : Int), .slice A6 n6 c6] 30)) b 30 cs := fun b hb => rowR_blk hown hb
        have hor9 := (HO7.out.no ((Fr.refl No Wq).alloc (.cells #[.int .i64 (l : Int), .int .i64 (l : Int), .slice A6 n6 c6] 30))).fr hfo (fun b hb h => by
          obtain ⟨_, cs, hbk⟩ := hnot b h
          exact (HO7.out.no ((Fr.refl No Wq).alloc (.cells #[.int .i64 (l : Int), .int .i64 (l : Int), .slice A6 n6 c6] 30))).other hbk (by decide) hb)
        rw [hn6] at ho
        obtain ⟨gb, cap, e, _, hrels⟩ := rowR_one ho (OR.isl hor9) HBL.out
        exact ⟨gb, cap, e, (HF5.out.trans hfa).then_ hfo (fun b hb h => by have := (hnot b h).1; omega), hrels⟩
      have hzq : Wq.heap.size = wq.heap.size + 1 := by rw [hWq]; simp
      have hnews : ∀ (j : Nat) (u : Value), [Value.int .i64 (l : Int), .int .i64 (l : Int), .slice A6 n6 c6][j]? = some u → (Wq.alloc (.cells #[.int .i64 (l : Int), .int .i64 (l : Int), .slice A6 n6 c6] 30)).cell? ((⟨wq.heap.size + 1, 0, none⟩ : Addr).add j) = some u := by rw [← hzq]; exact rel_new
      clear hf6 ho6 hf7 hb7 hn6 BK HF7 HO7 hzq
      subst hWq
      go_wp2_with (at_builtin; refine wpList_append_own _ rfl _ _ 24 rfl w6.heap.size 30 i0 (.agg #[.int .i64 0, .int .i64 0, .slice none 0 0]) 3 40 Tryd.underlying24 hi0 hz0 hz1 hz2 rfl (by decide) _ _ _ rfl hown ⟨wq.heap.size + 1, 0, none⟩ 1 1 [.int .i64 (l : Int), .int .i64 (l : Int), .slice A6 n6 c6] rfl rfl hnews (by simp [Value.oneCell']) (by unfold maxLen; omega) (by omega) (by simp at hbs ⊢; omega) ?_; intro v' wz hown' hgrow _; obtain ⟨gb, cap, rfl, n4⟩ := ARM.out v' wz hown' hgrow; clear hown' hgrow)
      clear hown ARM hnews
      go_wp2_with fail
      go_roundw
      case rel => exact .inr ⟨rfl, gb, cap, rfl, n4.out.1, n4.out.2⟩
      case measure => simp [intOf]
    · have HRB := Lib.hid hrels
      clear hrels
      go_wp2_with fail
      have m72 := Lib.hid hfr.size
      have B73 := Lib.hid (B27.out.fr hfr (fun h => h))
      have B74 := Lib.hid (B28.out.fr hfr (fun h => h))
      have R75 := Lib.hid (R29.out.fr hfr (fun _ _ h => h))
      have R76 := Lib.hid (R30.out.fr hfr (fun _ _ h => h))
      have F77 := Lib.hid (F31.out.trans hfr)
      clear hfr B27 B28 R29 R30 F31
      refine (IM2.out _ _ _ F77.out HRB.out).mono ?_
      rintro e w8 ⟨Ax, nx, cx, rfl, hf, hor⟩
      have m78 := Lib.hid hf.size
      have B79 := Lib.hid (B73.out.fr hf (fun h => h))
      have B80 := Lib.hid (B74.out.fr hf (fun h => h))
      have R81 := Lib.hid (R75.out.fr hf (fun _ _ h => h))
      have R82 := Lib.hid (R76.out.fr hf (fun _ _ h => h))
      have F83 := Lib.hid (F77.out.trans hf)
      have R84 := Lib.hid hor
      have bd85 : Hid (∀ b, Own Ax b → wr.heap.size ≤ b ∧ b < (w8).heap.size) := fun b hb => OR.bounds hor hb
      clear hf hor B73 B74 R75 R76 F77
      have ha86 : Fr No w8 (w8.alloc (.cells #[.int .i64 (ca : Int), .int .i64 (ca : Int), .slice Ax nx cx] 30)) := (Fr.refl No w8).alloc _
      have m87 := Lib.hid ha86.size
      have B88 := Lib.hid (B79.out.fr ha86 (fun h => h))
      have B89 := Lib.hid (B80.out.fr ha86 (fun h => h))
      have R90 := Lib.hid (R81.out.fr ha86 (fun _ _ h => h))
      have R91 := Lib.hid (R82.out.fr ha86 (fun _ _ h => h))
      have R92 := Lib.hid (R84.out.fr ha86 (fun _ _ h => h))
      have F93 := Lib.hid (F83.out.trans ha86)
      have B94 : Hid (Blk (w8.alloc (.cells #[.int .i64 (ca : Int), .int .i64 (ca : Int), .slice Ax nx cx] 30)) (w8.heap.size) 30 #[.int .i64 (ca : Int), .int .i64 (ca : Int), .slice Ax nx cx]) := Blk.new _ _ _
      clear ha86 B79 B80 R81 R82 R84 F83
      have c95 : World.cell? (w8.alloc (.cells #[.int .i64 (ca : Int), .int .i64 (ca : Int), .slice Ax nx cx] 30)) ⟨w2.heap.size, 0, none⟩ = some (.int .i64 (ca : Int)) := (B88.out.cell 0).trans rfl
      have c96 : World.cell? (w8.alloc (.cells #[.int .i64 (ca : Int), .int .i64 (ca : Int), .slice Ax nx cx] 30)) ⟨w2.heap.size, 1, none⟩ = some (.int .i64 (cb : Int)) := (B88.out.cell 1).trans rfl
      have c97 : World.cell? (w8.alloc (.cells #[.int .i64 (ca : Int), .int .i64 (ca : Int), .slice Ax nx cx] 30)) ⟨w2.heap.size, 2, none⟩ = some (.slice Ag ng cg) := (B88.out.cell 2).trans rfl
      go_wp2_with fail
      generalize (w8.alloc (.cells #[.int .i64 (ca : Int), .int .i64 (ca : Int), .slice Ax nx cx] 30)) = w9 at *
      refine (SM.out _ ca F93.out c1.1 c1.2).mono ?_
      rintro e w10 ⟨Ay, ny, cy, rfl, hf, hor⟩
      have m98 := Lib.hid hf.size
      have B99 := Lib.hid (B88.out.fr hf (fun h => h))
      have B100 := Lib.hid (B89.out.fr hf (fun h => h))
      have B101 := Lib.hid (B94.out.fr hf (fun h => h))
      have R102 := Lib.hid (R90.out.fr hf (fun _ _ h => h))
      have R103 := Lib.hid (R91.out.fr hf (fun _ _ h => h))
      have R104 := Lib.hid (R92.out.fr hf (fun _ _ h => h))
      have F105 := Lib.hid (F93.out.trans hf)
      have R106 := Lib.hid hor
      have bd107 : Hid (∀ b, Own Ay b → w9.heap.size ≤ b ∧ b < (w10).heap.size) := fun b hb => OR.bounds hor hb
      clear hf hor B88 B89 B94 R90 R91 R92 F93 c95 c96 c97
      have ha108 : Fr No w10 (w10.alloc (.cells #[.int .i64 (ca : Int), .int .i64 (ca : Int), .slice Ay ny cy] 30)) := (Fr.refl No w10).alloc _
      have m109 := Lib.hid ha108.size
      have B110 := Lib.hid (B99.out.fr ha108 (fun h => h))
      have B111 := Lib.hid (B100.out.fr ha108 (fun h => h))
      have B112 := Lib.hid (B101.out.fr ha108 (fun h => h))
      have R113 := Lib.hid (R102.out.fr ha108 (fun _ _ h => h))
      have R114 := Lib.hid (R103.out.fr ha108 (fun _ _ h => h))
      have R115 := Lib.hid (R104.out.fr ha108 (fun _ _ h => h))
      have R116 := Lib.hid (R106.out.fr ha108 (fun _ _ h => h))
      have F117 := Lib.hid (F105.out.trans ha108)
      have B118 : Hid (Blk (w10.alloc (.cells #[.int .i64 (ca : Int), .int .i64 (ca : Int), .slice Ay ny cy] 30)) (w10.heap.size) 30 #[.int .i64 (ca : Int), .int .i64 (ca : Int), .slice Ay ny cy]) := Blk.new _ _ _
      clear ha108 B99 B100 B101 R102 R103 R104 R106 F105
      have c119 : World.cell? (w10.alloc (.cells #[.int .i64 (ca : Int), .int .i64 (ca : Int), .slice Ay ny cy] 30)) ⟨w8.heap.size, 0, none⟩ = some (.int .i64 (ca : Int)) := (B112.out.cell 0).trans rfl
      have c120 : World.cell? (w10.alloc (.cells #[.int .i64 (ca : Int), .int .i64 (ca : Int), .slice Ay ny cy] 30)) ⟨w8.heap.size, 1, none⟩ = some (.int .i64 (ca : Int)) := (B112.out.cell 1).trans rfl
      have c121 : World.cell? (w10.alloc (.cells #[.int .i64 (ca : Int), .int .i64 (ca : Int), .slice Ay ny cy] 30)) ⟨w8.heap.size, 2, none⟩ = some (.slice Ax nx cx) := (B112.out.cell 2).trans rfl
      have c122 : World.cell? (w10.alloc (.cells #[.int .i64 (ca : Int), .int .i64 (ca : Int), .slice Ay ny cy] 30)) ⟨w10.heap.size, 0, none⟩ = some (.int .i64 (ca : Int)) := (B118.out.cell 0).trans rfl
      have c123 : World.cell? (w10.alloc (.cells #[.int .i64 (ca : Int), .int .i64 (ca : Int), .slice Ay ny cy] 30)) ⟨w10.heap.size, 1, none⟩ = some (.int .i64 (ca : Int)) := (B118.out.cell 1).trans rfl
      have c124 : World.cell? (w10.alloc (.cells #[.int .i64 (ca : Int), .int .i64 (ca : Int), .slice Ay ny cy] 30)) ⟨w10.heap.size, 2, none⟩ = some (.slice Ay ny cy) := (B118.out.cell 2).trans rfl
      go_wp2_with fail
      generalize (w10.alloc (.cells #[.int .i64 (ca : Int), .int .i64 (ca : Int), .slice Ay ny cy] 30)) = w11 at *
      have c125 : World.cell? w11 ⟨w8.heap.size, 0, none⟩ = some (.int .i64 (ca : Int)) := (B112.out.cell 0).trans rfl
      have c126 : World.cell? w11 ⟨w8.heap.size, 1, none⟩ = some (.int .i64 (ca : Int)) := (B112.out.cell 1).trans rfl
      have c127 : World.cell? w11 ⟨w8.heap.size, 2, none⟩ = some (.slice Ax nx cx) := (B112.out.cell 2).trans rfl
      have c128 : World.cell? w11 ⟨w10.heap.size, 0, none⟩ = some (.int .i64 (ca : Int)) := (B118.out.cell 0).trans rfl
      have c129 : World.cell? w11 ⟨w10.heap.size, 1, none⟩ = some (.int .i64 (ca : Int)) := (B118.out.cell 1).trans rfl
      have c130 : World.cell? w11 ⟨w10.heap.size, 2, none⟩ = some (.slice Ay ny cy) := (B118.out.cell 2).trans rfl
      have hEQ : Calls Tryd.prog 20 #[RV (ca : Int) (ca : Int) Ax nx cx, RV (ca : Int) (ca : Int) Ay ny cy] w11 fun e w' => e = .returned (.bool true) ∧ Fr No w11 w' := by
        rw [R115.out.1, R116.out.1]
        refine (samer_any w11 (ca : Int) (ca : Int) Ax cx (smL ca) (ca : Int) (ca : Int) Ay cy (smL ca) (OR.isl R115.out) (OR.isl R116.out) (by have := HLB.out; omega) (by have := HLB.out; omega)).mono ?_
        rintro e w' ⟨b, rfl, hb, hf⟩
        obtain rfl : b = true := hb.2 ⟨rfl, rfl, rfl⟩
        exact ⟨rfl, hf⟩
      have HEQ := Lib.hid hEQ
      clear hEQ
      refine (HEQ.out).mono ?_
      rintro e w12 ⟨rfl, hf⟩
      have m131 := Lib.hid hf.size
      have B132 := Lib.hid (B110.out.fr hf (fun h => h))
      have B133 := Lib.hid (B111.out.fr hf (fun h => h))
      have B134 := Lib.hid (B112.out.fr hf (fun h => h))
      have B135 := Lib.hid (B118.out.fr hf (fun h => h))
      have R136 := Lib.hid (R113.out.fr hf (fun _ _ h => h))
      have R137 := Lib.hid (R114.out.fr hf (fun _ _ h => h))
      have R138 := Lib.hid (R115.out.fr hf (fun _ _ h => h))
      have R139 := Lib.hid (R116.out.fr hf (fun _ _ h => h))
      have F140 := Lib.hid (F117.out.trans hf)
      clear hf HEQ B110 B111 B112 B118 R113 R114 R115 R116 F117 c119 c120 c121 c122 c123 c124 c125 c126 c127 c128 c129 c130
      go_wp2_with fail
      go_ret
      exact ⟨rfl, HF1.out.trans F140.out⟩
end Go.Proofs.YtloecimlimoanaaDoor
