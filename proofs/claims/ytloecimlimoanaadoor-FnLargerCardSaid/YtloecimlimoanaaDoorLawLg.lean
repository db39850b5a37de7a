/- The plain law FnLarger. -/
import Derived.Test.YtloecimlimoanaaDoorRpl
import Derived.Test.YtloecimlimoanaaDoorDrl
import Derived.Test.YtloecimlimoanaaDoorWit
namespace Go.Proofs.YtloecimlimoanaaDoor
open Go.RowKit Go.ChangeMaps Go.Shelf

/-- a relation, and whether there is one, is returned: part by part -/
def AnsCLg (Lo Ro : Int) (Po : List Int) (bo : Bool) (w : World) (e : Ending) (w' : World) : Prop := ∃ A n c, e = .returned (.tuple #[RV Lo Ro A n c, .bool bo]) ∧ Fr No w w' ∧ OR w' w.heap.size A n c Po

/-- all pairs -/
def allL (N : Nat) : List Int := (List.range N).map Int.ofNat

theorem allL_len (N : Nat) : (allL N).length = N := by simp [allL]
theorem allL_more (N : Nat) : allL (N + 1) = allL N ++ [(N : Int)] := by
  unfold allL
  rw [List.range_succ, List.map_append]
  rfl
theorem allL_mem {N : Nat} {z : Int} : z ∈ allL N ↔ 0 ≤ z ∧ z < N := by
  unfold allL
  rw [List.mem_map]
  constructor
  · rintro ⟨k, hk, rfl⟩
    have := List.mem_range.1 hk
    show 0 ≤ (k : Int) ∧ (k : Int) < N
    omega
  · rintro ⟨h1, h2⟩
    exact ⟨z.toNat, List.mem_range.2 (by omega), by show ((z.toNat : Nat) : Int) = z; omega⟩

theorem allL_ok {l r : Nat} {ps : List Int} (h : RelOk (l : Int) (r : Int) ps) : RelOk (l : Int) (r : Int) (allL (l * r)) := by
  refine ⟨h.left, h.right, ?_, fun z hz => ?_⟩
  · unfold allL
    rw [List.pairwise_map]
    exact (sorted_range (l * r)).imp fun {a b} h => by simpa using h
  · rw [← Int.natCast_mul]
    exact allL_mem.1 hz

/-- what has a count has a size for each variable -/
theorem cnt_has {μ : Nat → Option Nat} : ∀ (t : Ty) (c : Nat), t.cnt μ = some c → ∀ j, t.has j → ∃ m, μ j = some m := by
  intro t
  induction t with
  | v k => intro c h j hj; have e : k = j := hj; subst e; exact ⟨c, by simpa [Ty.cnt] using h⟩
  | o => intro c h j hj; exact hj.elim
  | n f l r ihl ihr =>
    intro c h j hj
    obtain ⟨a, b, h1, h2, _⟩ := Ty.cnt_n h
    rcases hj with hj | hj
    · exact ihl a h1 j hj
    · exact ihr b h2 j hj

/-- a larger relation lifts to a larger one -/
theorem LiftD.larger {s : List UInt8} {ns : List (List UInt8)} {ps : List Int} {Po : List Int} {t : Ty} {i l r c c' : Nat} (h : LiftD s ns l r ps c c' Po t i l r c c') (hns : ns = [[97]] ∨ ns = [[97], [98]]) (hp : OnlyP true s [97]) :
    RelOk (l : Int) (r : Int) (allL (l * r)) ∧ ∃ P2, LiftR s ns [((l : Int), (r : Int), allL (l * r))] (some ((c : Int), (c' : Int), P2)) ∧ RelOk (c : Int) (c' : Int) P2 ∧ (∀ z ∈ Po, z ∈ P2) := by
  have hall := allL_ok h.ok
  have hn : ns = [[Ty.letter i]] := h.sp.ol.names
  obtain ⟨t', i', q1, q2, q3, q4⟩ := hp
  have e := q1.unique h.ty
  subst e
  have e : i = i' := by
    have e1 : Ty.letter i = 97 := by
      rcases hns with e | e
      · rw [hn] at e
        simpa using e
      · rw [hn] at e
        simp at e
    have e2 : (97 : UInt8) = Ty.letter i' := by simpa using q3
    exact Ty.letter_inj (h.sp.ol.ok (i, l) (by simp)).1 q2 (e1.trans e2)
  subst e
  have hsp : SpIs ns [((l : Int), (r : Int), allL (l * r))] [(i, l)] [(i, r)] := ⟨h.sp.ol, h.sp.or, fun q hq => by
    simp at hq
    subst hq
    exact hall⟩
  refine ⟨hall, _, ?_, pairs_ok (R := relT (szs [(i, l)]) (szs [(i, r)]) (rhoL [(i, r)] [allL (l * r)]) t') h.c1.1 h.c1.2 h.c2.1 h.c2.2, ?_⟩
  · obtain ⟨o, ho⟩ := LiftR.ex s ns [((l : Int), (r : Int), allL (l * r))]
    have e := ho.yes h.ty hsp h.kl h.kr h.c1.2 h.c2.2
    rw [e] at ho
    exact ho
  · intro z hz
    rw [h.po] at hz
    obtain ⟨p, hp, rfl⟩ := List.mem_map.1 hz
    refine List.mem_map.2 ⟨p, ?_, rfl⟩
    rw [pairsOf_eq _ _ (by have := h.c2.1; omega), List.mem_filter] at hp ⊢
    refine ⟨hp.1, (relT_more (i := i) (fun j x y hr => ?_) t' (fun j hj => ?_)).1 q4 _ _ hp.2⟩
    · by_cases e : i = j
      · subst e
        rw [rho_one] at hr ⊢
        unfold memR at hr ⊢
        rw [decide_eq_true_iff] at hr ⊢
        refine allL_mem.2 ?_
        have := h.ok.bnd _ hr
        rw [← Int.natCast_mul] at this
        exact this
      · unfold rhoL at hr
        rw [if_neg e] at hr
        unfold rhoL at hr
        cases hr
    · obtain ⟨m, hm⟩ := cnt_has t' c (kn_cnt h.kl) j hj
      exact (szs_one hm).1

set_option maxRecDepth 100000 in
set_option maxHeartbeats 4000000 in
theorem lawLargerP (w : World) (HTAB : TZt w) (A : Option Addr) (n c : Nat) (hn : n ≤ maxLen) (hnc : n ≤ c) (hb : Byt w A n) :
    Calls Tryd.prog 6 #[.slice A n c] w fun e w' => Yes w e w' := by
  obtain ⟨i0, hi0, hz0, hz1, hz2⟩ := info_parts info_int
  have DR := Lib.hid (drawRelLift w A n c hn hnc hb)
  have HT := Lib.hid HTAB
  clear HTAB hb
  have hn' := hn
  unfold maxLen at hn'
  by_cases hbig : 1048576 < n
  · have hd : decide ((1048576 : Int) < (n : Int)) = true := by simp; omega
    go_enter Tryd.func6, Tryd.ntmps6
    go_wp2_with fail
    go_ret
    exact ⟨rfl, Fr.refl _ _⟩
  have hd : decide ((1048576 : Int) < (n : Int)) = false := by simp; omega
  go_enter Tryd.func6, Tryd.ntmps6
  go_wp2_with fail
  refine DR.out.mono ?_
  rintro e w1 ⟨s, gn, gr, ns, L, R, ps, rfl, hs, h1, h2, h3, hN, hR, hf1⟩
  have HF1 := Lib.hid hf1
  have HN := Lib.hid hN
  have HR := Lib.hid hR
  have HT1 : Hid (TZt w1) := HT.out.fr hf1 (fun h => h)
  have HNS : Hid (ns = [[97]] ∨ ns = [[97], [98]]) := h1.2
  have HS : Hid (s.length ≤ maxLen ∧ ns.length ≤ 1048576 ∧ (∀ x ∈ ns, x.length ≤ maxLen) ∧ ps.length ≤ 100) := ⟨by unfold maxLen; omega, by omega, fun x hx => by have := h2 x hx; unfold maxLen; omega, h3⟩
  obtain ⟨o, ho⟩ := LiftR.ex s ns [(L, R, ps)]
  have HO := Lib.hid ho
  obtain ⟨Lo, Ro, Po, bo, HLEN, HSO, IM, SP⟩ : ∃ (Lo Ro : Int) (Po : List Int) (bo : Bool), Hid (Po.length ≤ 100000) ∧ Hid (bo = true → o = some (Lo, Ro, Po)) ∧ Hid (∀ W, Fr No w1 W → Calls Tryd.prog 18 #[S s, .slice (some ⟨gn, 0, none⟩) ns.length ns.length, .slice (some ⟨gr, 0, none⟩) 1 1] W fun e w' => AnsCLg Lo Ro Po bo W e w') ∧ Hid (∀ W, Fr No w1 W → Calls Tryd.prog 19 #[S s, .slice (some ⟨gn, 0, none⟩) ns.length ns.length, .slice (some ⟨gr, 0, none⟩) 1 1] W fun e w' => AnsCLg Lo Ro Po bo W e w') :=
    ⟨(o.getD (0, 0, [])).1, (o.getD (0, 0, [])).2.1, (o.getD (0, 0, [])).2.2, o.isSome, ho.len, fun h => (by cases o with | none => cases h | some q => rfl), fun W hf => implRelLift W s _ _ _ _ ns [(L, R, ps)] o HO.out HS.out.1 (HN.out.keep hf (fun _ h => h.elim)) (HR.out.no hf) HS.out.2.1 (by simp) HS.out.2.2.1 (HT1.out.fr hf (fun h => h)), fun W hf => specRelLift W s _ _ _ _ ns [(L, R, ps)] o HO.out HS.out.1 (Nat.le_refl _) (HN.out.keep hf (fun _ h => h.elim)) (HR.out.no hf) HS.out.2.1 (by simp) HS.out.2.2.1⟩
  have F0 : Hid (Fr No w1 w1) := Fr.refl _ _
  clear hf1 hN hR ho DR hd hbig hn hn' hnc h1 h2 h3 hs
  go_wp2_with fail
  refine (IM.out _ F0.out).mono ?_
  rintro e w2 ⟨Ag, ng, cg, rfl, hf, hor⟩
  have m1 := Lib.hid hf.size
  have F2 := Lib.hid (F0.out.trans hf)
  have R3 := Lib.hid hor
  have bd4 : Hid (∀ b, Own Ag b → w1.heap.size ≤ b ∧ b < (w2).heap.size) := fun b hb => OR.bounds hor hb
  clear hf hor
  have ha5 : Fr No w2 (w2.alloc (.cells #[.int .i64 Lo, .int .i64 Ro, .slice Ag ng cg] 30)) := (Fr.refl No w2).alloc _
  have m6 := Lib.hid ha5.size
  have R7 := Lib.hid (R3.out.fr ha5 (fun _ _ h => h))
  have F8 := Lib.hid (F2.out.trans ha5)
  have B9 : Hid (Blk (w2.alloc (.cells #[.int .i64 Lo, .int .i64 Ro, .slice Ag ng cg] 30)) (w2.heap.size) 30 #[.int .i64 Lo, .int .i64 Ro, .slice Ag ng cg]) := Blk.new _ _ _
  clear ha5 R3 F2
  go_wp2_with fail
  generalize (w2.alloc (.cells #[.int .i64 Lo, .int .i64 Ro, .slice Ag ng cg] 30)) = w3 at *
  refine (SP.out _ F8.out).mono ?_
  rintro e w4 ⟨Ap, np, cp, rfl, hf, hor⟩
  have m10 := Lib.hid hf.size
  have B11 := Lib.hid (B9.out.fr hf (fun h => h))
  have R12 := Lib.hid (R7.out.fr hf (fun _ _ h => h))
  have F13 := Lib.hid (F8.out.trans hf)
  have R14 := Lib.hid hor
  have bd15 : Hid (∀ b, Own Ap b → w3.heap.size ≤ b ∧ b < (w4).heap.size) := fun b hb => OR.bounds hor hb
  clear hf hor B9 R7 F8
  have ha16 : Fr No w4 (w4.alloc (.cells #[.int .i64 Lo, .int .i64 Ro, .slice Ap np cp] 30)) := (Fr.refl No w4).alloc _
  have m17 := Lib.hid ha16.size
  have B18 := Lib.hid (B11.out.fr ha16 (fun h => h))
  have R19 := Lib.hid (R12.out.fr ha16 (fun _ _ h => h))
  have R20 := Lib.hid (R14.out.fr ha16 (fun _ _ h => h))
  have F21 := Lib.hid (F13.out.trans ha16)
  have B22 : Hid (Blk (w4.alloc (.cells #[.int .i64 Lo, .int .i64 Ro, .slice Ap np cp] 30)) (w4.heap.size) 30 #[.int .i64 Lo, .int .i64 Ro, .slice Ap np cp]) := Blk.new _ _ _
  clear ha16 B11 R12 R14 F13
  have c23 : World.cell? (w4.alloc (.cells #[.int .i64 Lo, .int .i64 Ro, .slice Ap np cp] 30)) ⟨w2.heap.size, 0, none⟩ = some (.int .i64 Lo) := (B18.out.cell 0).trans rfl
  have c24 : World.cell? (w4.alloc (.cells #[.int .i64 Lo, .int .i64 Ro, .slice Ap np cp] 30)) ⟨w2.heap.size, 1, none⟩ = some (.int .i64 Ro) := (B18.out.cell 1).trans rfl
  have c25 : World.cell? (w4.alloc (.cells #[.int .i64 Lo, .int .i64 Ro, .slice Ap np cp] 30)) ⟨w2.heap.size, 2, none⟩ = some (.slice Ag ng cg) := (B18.out.cell 2).trans rfl
  go_wp2_with fail
  generalize (w4.alloc (.cells #[.int .i64 Lo, .int .i64 Ro, .slice Ap np cp] 30)) = w5 at *
  have hEQ : Calls Tryd.prog 20 #[RV Lo Ro Ag ng cg, RV Lo Ro Ap np cp] w5 fun e w' => e = .returned (.bool true) ∧ Fr No w5 w' := by
    rw [R19.out.1, R20.out.1]
    refine (samer_any w5 Lo Ro Ag cg Po Lo Ro Ap cp Po (OR.isl R19.out) (OR.isl R20.out) (by have := HLEN.out; omega) (by have := HLEN.out; omega)).mono ?_
    rintro e w' ⟨b, rfl, hb, hf⟩
    obtain rfl : b = true := hb.2 ⟨rfl, rfl, rfl⟩
    exact ⟨rfl, hf⟩
  have HEQ := Lib.hid hEQ
  clear hEQ
  refine (HEQ.out).mono ?_
  rintro e w6 ⟨rfl, hf⟩
  have m26 := Lib.hid hf.size
  have B27 := Lib.hid (B18.out.fr hf (fun h => h))
  have B28 := Lib.hid (B22.out.fr hf (fun h => h))
  have R29 := Lib.hid (R19.out.fr hf (fun _ _ h => h))
  have R30 := Lib.hid (R20.out.fr hf (fun _ _ h => h))
  have F31 := Lib.hid (F21.out.trans hf)
  clear hf HEQ B18 B22 R19 R20 F21 c23 c24 c25
  by_cases hbo : bo = false
  · subst hbo
    have c32 : World.cell? w6 ⟨w2.heap.size, 0, none⟩ = some (.int .i64 Lo) := (B27.out.cell 0).trans rfl
    have c33 : World.cell? w6 ⟨w2.heap.size, 1, none⟩ = some (.int .i64 Ro) := (B27.out.cell 1).trans rfl
    have c34 : World.cell? w6 ⟨w2.heap.size, 2, none⟩ = some (.slice Ag ng cg) := (B27.out.cell 2).trans rfl
    have c35 : World.cell? w6 ⟨w4.heap.size, 0, none⟩ = some (.int .i64 Lo) := (B28.out.cell 0).trans rfl
    have c36 : World.cell? w6 ⟨w4.heap.size, 1, none⟩ = some (.int .i64 Ro) := (B28.out.cell 1).trans rfl
    have c37 : World.cell? w6 ⟨w4.heap.size, 2, none⟩ = some (.slice Ap np cp) := (B28.out.cell 2).trans rfl
    go_wp2_with fail
    have hEQ : Calls Tryd.prog 20 #[RV Lo Ro Ag ng cg, RV Lo Ro Ap np cp] w6 fun e w' => e = .returned (.bool true) ∧ Fr No w6 w' := by
      rw [R29.out.1, R30.out.1]
      refine (samer_any w6 Lo Ro Ag cg Po Lo Ro Ap cp Po (OR.isl R29.out) (OR.isl R30.out) (by have := HLEN.out; omega) (by have := HLEN.out; omega)).mono ?_
      rintro e w' ⟨b, rfl, hb, hf⟩
      obtain rfl : b = true := hb.2 ⟨rfl, rfl, rfl⟩
      exact ⟨rfl, hf⟩
    have HEQ := Lib.hid hEQ
    clear hEQ
    refine (HEQ.out).mono ?_
    rintro e w7 ⟨rfl, hf⟩
    have m38 := Lib.hid hf.size
    have B39 := Lib.hid (B27.out.fr hf (fun h => h))
    have B40 := Lib.hid (B28.out.fr hf (fun h => h))
    have R41 := Lib.hid (R29.out.fr hf (fun _ _ h => h))
    have R42 := Lib.hid (R30.out.fr hf (fun _ _ h => h))
    have F43 := Lib.hid (F31.out.trans hf)
    clear hf HEQ B27 B28 R29 R30 F31 c32 c33 c34 c35 c36 c37
    go_wp2_with fail
    go_ret
    exact ⟨rfl, HF1.out.trans F43.out⟩
  obtain rfl : bo = true := by cases bo with | false => exact (hbo rfl).elim | true => rfl
  have ho' : LiftR s ns [(L, R, ps)] (some (Lo, Ro, Po)) := by rw [← HSO.out rfl]; exact HO.out
  obtain ⟨t, i, l, r, ca, cb, hD⟩ := ho'.data
  obtain rfl := hD.el
  obtain rfl := hD.er
  obtain rfl := hD.lo
  obtain rfl := hD.ro
  have HD := Lib.hid hD
  have c1 := hD.c1
  have c2 := hD.c2
  have HPO : Hid (RelOk (ca : Int) (cb : Int) Po) := by
    rw [hD.po]
    exact pairs_ok c1.1 c1.2 c2.1 c2.2
  have TP : Hid (∀ W, Calls Tryd.prog 23 #[S s, S [97]] W fun e w' => AnsB (OnlyP true s [97]) W e w') := fun W => implPositive W s [97] HS.out.1 (by decide)
  clear hD ho' hbo c1 c2
  have c72 : World.cell? w6 ⟨w2.heap.size, 0, none⟩ = some (.int .i64 (ca : Int)) := (B27.out.cell 0).trans rfl
  have c73 : World.cell? w6 ⟨w2.heap.size, 1, none⟩ = some (.int .i64 (cb : Int)) := (B27.out.cell 1).trans rfl
  have c74 : World.cell? w6 ⟨w2.heap.size, 2, none⟩ = some (.slice Ag ng cg) := (B27.out.cell 2).trans rfl
  have c75 : World.cell? w6 ⟨w4.heap.size, 0, none⟩ = some (.int .i64 (ca : Int)) := (B28.out.cell 0).trans rfl
  have c76 : World.cell? w6 ⟨w4.heap.size, 1, none⟩ = some (.int .i64 (cb : Int)) := (B28.out.cell 1).trans rfl
  have c77 : World.cell? w6 ⟨w4.heap.size, 2, none⟩ = some (.slice Ap np cp) := (B28.out.cell 2).trans rfl
  go_wp2_with fail
  refine (TP.out _).mono ?_
  rintro e w8 ⟨bp, rfl, hbp, hf⟩
  have m78 := Lib.hid hf.size
  have B79 := Lib.hid (B27.out.fr hf (fun h => h))
  have B80 := Lib.hid (B28.out.fr hf (fun h => h))
  have R81 := Lib.hid (R29.out.fr hf (fun _ _ h => h))
  have R82 := Lib.hid (R30.out.fr hf (fun _ _ h => h))
  have F83 := Lib.hid (F31.out.trans hf)
  clear hf TP B27 B28 R29 R30 F31 c72 c73 c74 c75 c76 c77
  cases bp with
  | false =>
    clear hbp
    have c84 : World.cell? w8 ⟨w2.heap.size, 0, none⟩ = some (.int .i64 (ca : Int)) := (B79.out.cell 0).trans rfl
    have c85 : World.cell? w8 ⟨w2.heap.size, 1, none⟩ = some (.int .i64 (cb : Int)) := (B79.out.cell 1).trans rfl
    have c86 : World.cell? w8 ⟨w2.heap.size, 2, none⟩ = some (.slice Ag ng cg) := (B79.out.cell 2).trans rfl
    have RV0 : Hid (Calls Tryd.prog 24 #[RV (ca : Int) (cb : Int) Ag ng cg] w8 fun e w' => e = .returned (.bool true) ∧ Fr No w8 w') := by
      rw [R81.out.1]
      refine (implRelValid w8 (ca : Int) (cb : Int) Ag cg Po (OR.isl R81.out) (by have := HLEN.out; omega)).mono ?_
      rintro e w' ⟨b, rfl, hb, hf⟩
      obtain rfl : b = true := hb.2 HPO.out
      exact ⟨rfl, hf⟩
    go_wp2_with fail
    refine (RV0.out).mono ?_
    rintro e w9 ⟨rfl, hf⟩
    have m87 := Lib.hid hf.size
    have B88 := Lib.hid (B79.out.fr hf (fun h => h))
    have B89 := Lib.hid (B80.out.fr hf (fun h => h))
    have R90 := Lib.hid (R81.out.fr hf (fun _ _ h => h))
    have R91 := Lib.hid (R82.out.fr hf (fun _ _ h => h))
    have F92 := Lib.hid (F83.out.trans hf)
    clear hf RV0 B79 B80 R81 R82 F83 c84 c85 c86
    go_wp2_with fail
    go_ret
    exact ⟨rfl, HF1.out.trans F92.out⟩
  | true =>
    obtain ⟨hall, P2, hl2, hp2, hsub⟩ := HD.out.larger HNS.out (hbp.1 rfl)
    have HALL := Lib.hid hall
    have HL2 := Lib.hid hl2
    have HP2 := Lib.hid hp2
    have HSUB := Lib.hid hsub
    have HL2L : Hid (P2.length ≤ 100000) := hl2.len
    have lk : l ≤ 4 := (HD.out.sp.ol.ok (i, l) (by simp)).2.2
    have rk : r ≤ 4 := (HD.out.sp.or.ok (i, r) (by simp)).2.2
    obtain ⟨N, hN⟩ : ∃ N, N = l * r := ⟨_, rfl⟩
    have hN16 : N ≤ 16 := by have := Nat.mul_le_mul lk rk; omega
    have eN : (l : Int) * (r : Int) = (N : Int) := by rw [hN]; exact (Int.natCast_mul _ _).symm
    have hmn0 : 0 ≤ (l : Int) * (r : Int) := by omega
    have hmn1 : (l : Int) * (r : Int) ≤ 16 := by omega
    rw [← hN] at hall hl2
    have IM2 : Hid (∀ W gb cap, Fr No w1 W → Rels W (some ⟨gb, 0, none⟩) [((l : Int), (r : Int), allL N)] → Calls Tryd.prog 18 #[S s, .slice (some ⟨gn, 0, none⟩) ns.length ns.length, .slice (some ⟨gb, 0, none⟩) 1 cap] W fun e w' => AnsCLg ca cb P2 true W e w') := fun W gb cap hf hr => implRelLift W s _ _ _ _ ns [((l : Int), (r : Int), allL N)] _ hl2 HS.out.1 (HN.out.keep hf (fun _ h => h.elim)) hr HS.out.2.1 (by simp) HS.out.2.2.1 (HT1.out.fr hf (fun h => h))
    have eNH := Lib.hid eN
    clear hall hl2 hp2 hsub hbp hN lk rk
    obtain ⟨g1, o1, D, cp, e1, k0, k1, k2, hi, _⟩ := (HR.out.no F83.out) 0 l r ps rfl
    injection e1 with e1
    injection e1 with e1 e2
    subst e1 e2
    rw [Nat.zero_mul, Nat.zero_add] at k0 k1 k2
    have gl := block_lt k0
    clear hi
    go_wp2_with fail
    go_region
    · obtain ⟨W9, hW9, hf9, hbx9, hor9⟩ : ∃ W, W = ((w8.alloc (.cells #[] 3)).alloc (.cells #[.int .i64 (l : Int), .int .i64 (r : Int), .slice (some ⟨w8.heap.size, 0, none⟩) 0 0] 30)).drew ∧ Fr No w8 W ∧ Blk W (w8.heap.size + 1) 30 #[.int .i64 (l : Int), .int .i64 (r : Int), .slice (some ⟨w8.heap.size, 0, none⟩) 0 0] ∧ OR W w8.heap.size (some ⟨w8.heap.size, 0, none⟩) 0 0 [] := ⟨_, rfl, (((Fr.refl No w8).alloc _).alloc _).drew, (Blk.new_at _ _ _ (by simp)).fr (Fr.refl No _).drew (fun h => h), ((or_new _).no ((Fr.refl No _).alloc _)).no (Fr.refl No _).drew⟩
      have HF9 := Lib.hid hf9
      have HBX9 := Lib.hid hbx9
      have HOR9 := Lib.hid hor9
      clear hf9 hbx9 hor9 k0 k1 k2 gl
      rw [← hW9]
      clear hW9
      go_wp2_with fail
      go_loopw [11] (fun u wr => ∃ (j cq : Nat) (A8 : Option Addr), j ≤ N ∧ u = .int .i64 j ∧ Fr No w8 wr ∧ Blk wr (w8.heap.size + 1) 30 #[.int .i64 (l : Int), .int .i64 (r : Int), .slice A8 j cq] ∧ OR wr w8.heap.size A8 j cq (allL j)) (fun u _ => N - (intOf u).toNat)
      case atStart => exact ⟨0, 0, _, Nat.zero_le _, rfl, HF9.out, HBX9.out, HOR9.out⟩
      case round =>
        obtain ⟨j, cq, A8, hj, rfl, hfr, hbx, hor⟩ := hrel
        have HFR := Lib.hid hfr
        have HBX := Lib.hid hbx
        have HOR := Lib.hid hor
        have m0 : wr.cell? ⟨(w8.heap.size + 1), 0, none⟩ = some (.int .i64 (l : Int)) := (hbx.cell 0).trans rfl
        have m1 : wr.cell? ⟨(w8.heap.size + 1), 1, none⟩ = some (.int .i64 (r : Int)) := (hbx.cell 1).trans rfl
        have m2 : wr.cell? ⟨(w8.heap.size + 1), 2, none⟩ = some (.slice A8 j cq) := (hbx.cell 2).trans rfl
        have ml := hbx.lt
        have hw8 : w8.heap.size ≤ wr.heap.size := hfr.size
        by_cases hlt : j < N
        · have hjI : (j : Int) < (l : Int) * (r : Int) := by omega
          have hown := hor.2
          have hq16 : j ≤ 16 := by omega
          have hj16 : (j : Int) ≤ 16 := by omega
          have hbl : w8.heap.size ≤ wr.heap.size := by omega
          have ARM : Hid (∀ (v' : Value) (w1 : World), w1.ownsRow w8.heap.size 3 1 v' (j + 1) ((allL j).map (Value.int .i64) ++ [.int .i64 (j : Int)]) → (wr.alloc (.cells #[.int .i64 (j : Int)] 3)).grownBy w1 (Value.slice A8 j cq).ownBlock → ∃ g' cap', v' = .slice (some ⟨g', 0, none⟩) (j + 1) cap' ∧ w1.cell? ⟨(w8.heap.size + 1), 2, none⟩ = some (.slice A8 j cq) ∧ w1.frozen? ⟨(w8.heap.size + 1), 2, none⟩ = false ∧ (w8.heap.size + 1) < w1.heap.size ∧ Hid (Fr No w8 (w1.setCell ⟨(w8.heap.size + 1), 2, none⟩ (.slice (some ⟨g', 0, none⟩) (j + 1) cap')) ∧ Blk (w1.setCell ⟨(w8.heap.size + 1), 2, none⟩ (.slice (some ⟨g', 0, none⟩) (j + 1) cap')) (w8.heap.size + 1) 30 #[.int .i64 (l : Int), .int .i64 (r : Int), .slice (some ⟨g', 0, none⟩) (j + 1) cap'] ∧ OR (w1.setCell ⟨(w8.heap.size + 1), 2, none⟩ (.slice (some ⟨g', 0, none⟩) (j + 1) cap')) w8.heap.size (some ⟨g', 0, none⟩) (j + 1) cap' (allL (j + 1)))) := by
            intro v' w1 ho hg
            obtain ⟨g', cap', rfl, h1, h2⟩ := or_more HOR.out ((Fr.refl No wr).alloc _) ho hg
            have hb1 := HBX.out.fr h1 (HOR.out.other HBX.out (by decide))
            have hst : Fr (One (w8.heap.size + 1)) w1 (w1.setCell ⟨(w8.heap.size + 1), 2, none⟩ (.slice (some ⟨g', 0, none⟩) (j + 1) cap')) := (Fr.refl (One (w8.heap.size + 1)) w1).setCell (p := ⟨(w8.heap.size + 1), 2, none⟩) (.inl rfl) _
            refine ⟨g', cap', rfl, (hb1.cell 2).trans rfl, hb1.frozen 2, hb1.lt, (HFR.out.then_ h1 (fun b hb h => by have := (HOR.out.bounds h).1; omega)).then_ hst (fun b hb h => by have h : b = (w8.heap.size + 1) := h; omega), hb1.set_ 2 _, ?_⟩
            rw [allL_more]
            exact h2.fr hst (fun b hb h => by have h : b = (w8.heap.size + 1) := h; subst h; exact h2.other hb1 (by decide) hb)
          clear hfr hbx hor
          go_wp2_with (at_builtin; refine wpList_append_own _ rfl _ _ 28 rfl w8.heap.size 3 i0 (.int .i64 0) 1 8 Tryd.underlying28 hi0 hz0 hz1 hz2 rfl (by decide) _ _ _ rfl (hown.alloc _) ⟨wr.heap.size, 0, none⟩ 1 1 [.int .i64 (j : Int)] rfl rfl (cell_one_new _ _ _) (by simp [Value.oneCell']) (by unfold maxLen; omega) (by omega) (by simp; omega) ?_; intro v' w1 hown' hgrow _; obtain ⟨g', cap', rfl, n1, n2, n3, n4⟩ := ARM.out v' w1 hown' hgrow; clear hown' hgrow)
          clear hown ARM
          go_wp2_with fail
          go_roundw
          case rel => exact ⟨j + 1, cap', some ⟨g', 0, none⟩, by omega, by go_num, n4.out.1, n4.out.2.1, n4.out.2.2⟩
          case measure => simp [intOf]; omega
        · have hjN : j = N := by omega
          have hjI : ¬ (j : Int) < (l : Int) * (r : Int) := by omega
          subst hjN
          obtain ⟨Wv, hWv, hfv, hbv⟩ : ∃ W, W = wr.alloc (.cells #[.int .i64 (l : Int), .int .i64 (r : Int), .slice A8 j cq] 30) ∧ Fr No wr W ∧ Blk W wr.heap.size 30 #[.int .i64 (l : Int), .int .i64 (r : Int), .slice A8 j cq] := ⟨_, rfl, (Fr.refl _ _).alloc _, Blk.new _ _ _⟩
          have HFV := Lib.hid (HFR.out.trans hfv)
          have hrels : Rels Wv (some ⟨wr.heap.size, 0, none⟩) [((l : Int), (r : Int), allL j)] := rels_one (by have e : j = (allL j).length := hor.1; rw [← e]; exact hbv) (OR.isl (hor.no hfv)) (by rw [allL_len]; omega)
          have LX := Lib.hid (IM2.out Wv wr.heap.size 1 (F83.out.trans HFV.out) hrels)
          have HWV := Lib.hid hWv
          clear hfr hbx hor hfv hbv hWv hrels IM2
          go_wp2_with fail
          rw [← HWV.out]
          refine LX.out.mono ?_
          rintro e wz ⟨Ax, nx, cx, rfl, hfx, hox⟩
          obtain ⟨Wy, hWy, hfy, hby⟩ : ∃ W, W = wz.alloc (.cells #[.int .i64 (ca : Int), .int .i64 (cb : Int), .slice Ax nx cx] 30) ∧ Fr No wz W ∧ Blk W wz.heap.size 30 #[.int .i64 (ca : Int), .int .i64 (cb : Int), .slice Ax nx cx] := ⟨_, rfl, (Fr.refl _ _).alloc _, Blk.new _ _ _⟩
          have hf8y := (HFV.out.trans hfx).trans hfy
          have HFY := Lib.hid (F83.out.trans hf8y)
          have y0 : Wy.cell? ⟨wz.heap.size, 0, none⟩ = some (.int .i64 (ca : Int)) := (hby.cell 0).trans rfl
          have y1 : Wy.cell? ⟨wz.heap.size, 1, none⟩ = some (.int .i64 (cb : Int)) := (hby.cell 1).trans rfl
          have y2 : Wy.cell? ⟨wz.heap.size, 2, none⟩ = some (.slice Ax nx cx) := (hby.cell 2).trans rfl
          have y3 := hby.lt
          have hbo := B79.out.fr hf8y (fun h => h)
          have x0 : Wy.cell? ⟨w2.heap.size, 0, none⟩ = some (.int .i64 (ca : Int)) := (hbo.cell 0).trans rfl
          have x1 : Wy.cell? ⟨w2.heap.size, 1, none⟩ = some (.int .i64 (cb : Int)) := (hbo.cell 1).trans rfl
          have x2 : Wy.cell? ⟨w2.heap.size, 2, none⟩ = some (.slice Ag ng cg) := (hbo.cell 2).trans rfl
          have x3 := hbo.lt
          have WI : Hid (Calls Tryd.prog 25 #[RV (ca : Int) (cb : Int) Ag ng cg, RV (ca : Int) (cb : Int) Ax nx cx] Wy fun e w' => e = .returned (.bool true) ∧ Fr No Wy w') := by
            have hr1 := R81.out.no hf8y
            have hr2 := hox.no hfy
            rw [hr1.1, hr2.1]
            exact withinR_any Wy ca cb _ _ _ _ Po P2 hr1.isl hr2.isl (by have := HLEN.out; omega) (by have := HL2L.out; omega) HPO.out HP2.out HSUB.out
          clear hfx hox hfy hby hf8y hbo LX
          subst hWy
          go_wp2_with fail
          refine WI.out.mono ?_
          rintro e we ⟨rfl, hfe⟩
          have HFE := Lib.hid (HFY.out.trans hfe)
          clear hfe WI x0 x1 x2 x3 y0 y1 y2 y3
          go_wp2_with fail
          go_ret
          exact ⟨rfl, HF1.out.trans HFE.out⟩
    · obtain ⟨W9, hW9, hf9, hbx9, hor9⟩ : ∃ W, W = ((w8.alloc (.cells #[.int .i64 (l : Int), .int .i64 (r : Int), .slice (some ⟨w8.heap.size + 1, 0, none⟩) 0 0] 30)).alloc (.cells #[] 3)).drew ∧ Fr No w8 W ∧ Blk W w8.heap.size 30 #[.int .i64 (l : Int), .int .i64 (r : Int), .slice (some ⟨(w8.heap.size + 1), 0, none⟩) 0 0] ∧ OR W (w8.heap.size + 1) (some ⟨(w8.heap.size + 1), 0, none⟩) 0 0 [] := ⟨_, rfl, (((Fr.refl No w8).alloc _).alloc _).drew, ((Blk.new _ _ _).alloc _).fr (Fr.refl No _).drew (fun h => h), (by have h := or_new (w8.alloc (.cells #[.int .i64 (l : Int), .int .i64 (r : Int), .slice (some ⟨w8.heap.size + 1, 0, none⟩) 0 0] 30)); exact OR.no (by simpa using h) (Fr.refl No _).drew)⟩
      have HF9 := Lib.hid hf9
      have HBX9 := Lib.hid hbx9
      have HOR9 := Lib.hid hor9
      clear hf9 hbx9 hor9 k0 k1 k2 gl
      rw [← hW9]
      clear hW9
      go_wp2_with fail
      go_loopw [11] (fun u wr => ∃ (j cq : Nat) (A8 : Option Addr), j ≤ N ∧ u = .int .i64 j ∧ Fr No w8 wr ∧ Blk wr w8.heap.size 30 #[.int .i64 (l : Int), .int .i64 (r : Int), .slice A8 j cq] ∧ OR wr (w8.heap.size + 1) A8 j cq (allL j)) (fun u _ => N - (intOf u).toNat)
      case atStart => exact ⟨0, 0, _, Nat.zero_le _, rfl, HF9.out, HBX9.out, HOR9.out⟩
      case round =>
        obtain ⟨j, cq, A8, hj, rfl, hfr, hbx, hor⟩ := hrel
        have HFR := Lib.hid hfr
        have HBX := Lib.hid hbx
        have HOR := Lib.hid hor
        have m0 : wr.cell? ⟨w8.heap.size, 0, none⟩ = some (.int .i64 (l : Int)) := (hbx.cell 0).trans rfl
        have m1 : wr.cell? ⟨w8.heap.size, 1, none⟩ = some (.int .i64 (r : Int)) := (hbx.cell 1).trans rfl
        have m2 : wr.cell? ⟨w8.heap.size, 2, none⟩ = some (.slice A8 j cq) := (hbx.cell 2).trans rfl
        have ml := hbx.lt
        have hw8 : w8.heap.size ≤ wr.heap.size := hfr.size
        by_cases hlt : j < N
        · have hjI : (j : Int) < (l : Int) * (r : Int) := by omega
          have hown := hor.2
          have hq16 : j ≤ 16 := by omega
          have hj16 : (j : Int) ≤ 16 := by omega
          have hbl : (w8.heap.size + 1) ≤ wr.heap.size := by omega
          have ARM : Hid (∀ (v' : Value) (w1 : World), w1.ownsRow (w8.heap.size + 1) 3 1 v' (j + 1) ((allL j).map (Value.int .i64) ++ [.int .i64 (j : Int)]) → (wr.alloc (.cells #[.int .i64 (j : Int)] 3)).grownBy w1 (Value.slice A8 j cq).ownBlock → ∃ g' cap', v' = .slice (some ⟨g', 0, none⟩) (j + 1) cap' ∧ w1.cell? ⟨w8.heap.size, 2, none⟩ = some (.slice A8 j cq) ∧ w1.frozen? ⟨w8.heap.size, 2, none⟩ = false ∧ w8.heap.size < w1.heap.size ∧ Hid (Fr No w8 (w1.setCell ⟨w8.heap.size, 2, none⟩ (.slice (some ⟨g', 0, none⟩) (j + 1) cap')) ∧ Blk (w1.setCell ⟨w8.heap.size, 2, none⟩ (.slice (some ⟨g', 0, none⟩) (j + 1) cap')) w8.heap.size 30 #[.int .i64 (l : Int), .int .i64 (r : Int), .slice (some ⟨g', 0, none⟩) (j + 1) cap'] ∧ OR (w1.setCell ⟨w8.heap.size, 2, none⟩ (.slice (some ⟨g', 0, none⟩) (j + 1) cap')) (w8.heap.size + 1) (some ⟨g', 0, none⟩) (j + 1) cap' (allL (j + 1)))) := by
            intro v' w1 ho hg
            obtain ⟨g', cap', rfl, h1, h2⟩ := or_more HOR.out ((Fr.refl No wr).alloc _) ho hg
            have hb1 := HBX.out.fr h1 (HOR.out.other HBX.out (by decide))
            have hst : Fr (One w8.heap.size) w1 (w1.setCell ⟨w8.heap.size, 2, none⟩ (.slice (some ⟨g', 0, none⟩) (j + 1) cap')) := (Fr.refl (One w8.heap.size) w1).setCell (p := ⟨w8.heap.size, 2, none⟩) (.inl rfl) _
            refine ⟨g', cap', rfl, (hb1.cell 2).trans rfl, hb1.frozen 2, hb1.lt, (HFR.out.then_ h1 (fun b hb h => by have := (HOR.out.bounds h).1; omega)).then_ hst (fun b hb h => by have h : b = w8.heap.size := h; omega), hb1.set_ 2 _, ?_⟩
            rw [allL_more]
            exact h2.fr hst (fun b hb h => by have h : b = w8.heap.size := h; subst h; exact h2.other hb1 (by decide) hb)
          clear hfr hbx hor
          go_wp2_with (at_builtin; refine wpList_append_own _ rfl _ _ 28 rfl (w8.heap.size + 1) 3 i0 (.int .i64 0) 1 8 Tryd.underlying28 hi0 hz0 hz1 hz2 rfl (by decide) _ _ _ rfl (hown.alloc _) ⟨wr.heap.size, 0, none⟩ 1 1 [.int .i64 (j : Int)] rfl rfl (cell_one_new _ _ _) (by simp [Value.oneCell']) (by unfold maxLen; omega) (by omega) (by simp; omega) ?_; intro v' w1 hown' hgrow _; obtain ⟨g', cap', rfl, n1, n2, n3, n4⟩ := ARM.out v' w1 hown' hgrow; clear hown' hgrow)
          clear hown ARM
          go_wp2_with fail
          go_roundw
          case rel => exact ⟨j + 1, cap', some ⟨g', 0, none⟩, by omega, by go_num, n4.out.1, n4.out.2.1, n4.out.2.2⟩
          case measure => simp [intOf]; omega
        · have hjN : j = N := by omega
          have hjI : ¬ (j : Int) < (l : Int) * (r : Int) := by omega
          subst hjN
          obtain ⟨Wv, hWv, hfv, hbv⟩ : ∃ W, W = wr.alloc (.cells #[.int .i64 (l : Int), .int .i64 (r : Int), .slice A8 j cq] 30) ∧ Fr No wr W ∧ Blk W wr.heap.size 30 #[.int .i64 (l : Int), .int .i64 (r : Int), .slice A8 j cq] := ⟨_, rfl, (Fr.refl _ _).alloc _, Blk.new _ _ _⟩
          have HFV := Lib.hid (HFR.out.trans hfv)
          have hrels : Rels Wv (some ⟨wr.heap.size, 0, none⟩) [((l : Int), (r : Int), allL j)] := rels_one (by have e : j = (allL j).length := hor.1; rw [← e]; exact hbv) (OR.isl (hor.no hfv)) (by rw [allL_len]; omega)
          have LX := Lib.hid (IM2.out Wv wr.heap.size 1 (F83.out.trans HFV.out) hrels)
          have HWV := Lib.hid hWv
          clear hfr hbx hor hfv hbv hWv hrels IM2
          go_wp2_with fail
          rw [← HWV.out]
          refine LX.out.mono ?_
          rintro e wz ⟨Ax, nx, cx, rfl, hfx, hox⟩
          obtain ⟨Wy, hWy, hfy, hby⟩ : ∃ W, W = wz.alloc (.cells #[.int .i64 (ca : Int), .int .i64 (cb : Int), .slice Ax nx cx] 30) ∧ Fr No wz W ∧ Blk W wz.heap.size 30 #[.int .i64 (ca : Int), .int .i64 (cb : Int), .slice Ax nx cx] := ⟨_, rfl, (Fr.refl _ _).alloc _, Blk.new _ _ _⟩
          have hf8y := (HFV.out.trans hfx).trans hfy
          have HFY := Lib.hid (F83.out.trans hf8y)
          have y0 : Wy.cell? ⟨wz.heap.size, 0, none⟩ = some (.int .i64 (ca : Int)) := (hby.cell 0).trans rfl
          have y1 : Wy.cell? ⟨wz.heap.size, 1, none⟩ = some (.int .i64 (cb : Int)) := (hby.cell 1).trans rfl
          have y2 : Wy.cell? ⟨wz.heap.size, 2, none⟩ = some (.slice Ax nx cx) := (hby.cell 2).trans rfl
          have y3 := hby.lt
          have hbo := B79.out.fr hf8y (fun h => h)
          have x0 : Wy.cell? ⟨w2.heap.size, 0, none⟩ = some (.int .i64 (ca : Int)) := (hbo.cell 0).trans rfl
          have x1 : Wy.cell? ⟨w2.heap.size, 1, none⟩ = some (.int .i64 (cb : Int)) := (hbo.cell 1).trans rfl
          have x2 : Wy.cell? ⟨w2.heap.size, 2, none⟩ = some (.slice Ag ng cg) := (hbo.cell 2).trans rfl
          have x3 := hbo.lt
          have WI : Hid (Calls Tryd.prog 25 #[RV (ca : Int) (cb : Int) Ag ng cg, RV (ca : Int) (cb : Int) Ax nx cx] Wy fun e w' => e = .returned (.bool true) ∧ Fr No Wy w') := by
            have hr1 := R81.out.no hf8y
            have hr2 := hox.no hfy
            rw [hr1.1, hr2.1]
            exact withinR_any Wy ca cb _ _ _ _ Po P2 hr1.isl hr2.isl (by have := HLEN.out; omega) (by have := HL2L.out; omega) HPO.out HP2.out HSUB.out
          clear hfx hox hfy hby hf8y hbo LX
          subst hWy
          go_wp2_with fail
          refine WI.out.mono ?_
          rintro e we ⟨rfl, hfe⟩
          have HFE := Lib.hid (HFY.out.trans hfe)
          clear hfe WI x0 x1 x2 x3 y0 y1 y2 y3
          go_wp2_with fail
          go_ret
          exact ⟨rfl, HF1.out.trans HFE.out⟩
end Go.Proofs.YtloecimlimoanaaDoor
