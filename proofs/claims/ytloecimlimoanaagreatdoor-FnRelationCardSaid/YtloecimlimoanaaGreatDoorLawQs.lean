/- The plain law FnRelation. -/
import Derived.Test.YtloecimlimoanaaGreatDoorRpm
import Derived.Test.YtloecimlimoanaaGreatDoorDrf
import Derived.Test.YtloecimlimoanaaGreatDoorLawMd
import Derived.Test.YtloecimlimoanaaGreatDoorWit
import Derived.Test.YtloecimlimoanaaGreatDoorRdl
namespace Go.Proofs.YtloecimlimoanaaGreatDoor
open Go.RowKit Go.ChangeMaps Go.Shelf

theorem relT_num {m n k : Nat} {ρ : Nat → Nat → Nat → Bool} (hm : Sizes (sz1 m)) (hn : Sizes (sz1 n)) (hk : ∀ x y, x < m → y < n → ρ 0 x y = k.testBit (x * n + y)) (t : Ty) (a b : Nat) (ha : t.cnt (sz1 m) = some a) (hb : t.cnt (sz1 n) = some b) (x y : Nat) (hx : x < a) (hy : y < b) :
    relT (sz1 m) (sz1 n) ρ t x y = rbit t m n x y k := by
  unfold rbit
  refine relT_ext hm hn (fun i p q h1 h2 x y hx hy => ?_) t a b ha hb x y hx hy
  obtain ⟨rfl, rfl⟩ := sz1_some h1
  obtain ⟨_, rfl⟩ := sz1_some h2
  rw [numR_at hx hy]
  exact hk x y hx hy

/-- the module relation with a number relates them -/
theorem Mod.related {s : List UInt8} {m n x y : Int} {t : Ty} {mN nN a b xN yN k : Nat} (h : Mod s m n x y t mN nN a b xN yN) (hk : rbit t mN nN xN yN k = true) : RelatedIs s [[97]] [((mN : Int), (nN : Int), numP mN nN k)] x y := by
  obtain ⟨m1, m3, n1, n3⟩ := h.sizes
  refine ⟨t, [(0, mN)], [(0, nN)], a, b, xN, yN, h.is, spIs_one m1 m3 n1 n3 (numP_ok m1 m3 n1 n3), (kn_small h.is).trans h.ca, (kn_small h.is).trans h.cb, h.ex, h.ey, h.lx, h.ly, ?_⟩
  have e := relT_num (k := k) (ρ := rhoL [(0, nN)] (pss [((mN : Int), (nN : Int), numP mN nN k)])) (sz1_sizes m1 m3) (sz1_sizes n1 n3) (fun x y hx hy => by
    have := numR_at (k := k) (i := 0) hx hy
    show rhoL [(0, nN)] [numP mN nN k] 0 x y = _
    unfold rhoL
    rw [if_pos rfl]
    exact this) t a b h.ca h.cb xN yN h.lx h.ly
  exact e.trans hk

theorem Mod.swap {s : List UInt8} {m n x y : Int} {t : Ty} {mN nN a b xN yN : Nat} (h : Mod s m n x y t mN nN a b xN yN) : Mod s n m y x t nN mN b a yN xN :=
  ⟨h.is, h.only, h.en, h.em, ⟨h.in3.2.2.1, h.in3.2.2.2, h.in3.1, h.in3.2.1⟩, h.cb, h.ca, h.ey, h.ex, h.ly, h.lx⟩

theorem bit_back {s : List UInt8} {m n x y : Int} {t : Ty} {mN nN a b xN yN k : Nat} (h : Mod s m n x y t mN nN a b xN yN) (hk : rbit t mN nN xN yN k = true) : (mrO t nN mN yN xN).isSome = true := by
  obtain ⟨m1, m3, n1, n3⟩ := h.sizes
  obtain ⟨k', hk', hb⟩ := num_ex (nN * mN) (fun p => k.testBit ((p % mN) * nN + p / mN))
  unfold mrO
  rw [Option.isSome_map, List.find?_isSome]
  refine ⟨k', List.mem_range.2 hk', ?_⟩
  have hat : ∀ i y x, y < nN → x < mN → numR nN mN k' i y x = k.testBit (x * nN + y) := fun i y x hy hx => by
    rw [numR_at hy hx]
    have hlt : y * mN + x < nN * mN := by
      have h := Nat.mul_le_mul (show y + 1 ≤ nN by omega) (Nat.le_refl mN)
      rw [Nat.add_one_mul] at h
      omega
    rw [hb _ hlt]
    have d1 : (y * mN + x) / mN = y := by rw [Nat.mul_comm, Nat.mul_add_div (by omega), Nat.div_eq_of_lt hx]; rfl
    have d2 : (y * mN + x) % mN = x := by rw [Nat.mul_comm, Nat.mul_add_mod, Nat.mod_eq_of_lt hx]
    rw [d1, d2]
  show relT (sz1 nN) (sz1 mN) (numR nN mN k') t yN xN = true
  rw [relT_swap (sz1_sizes m1 m3) (sz1_sizes n1 n3) (ρ := fun i x y => numR nN mN k' i y x) (fun i a b _ _ x y _ _ => rfl) t a b h.ca h.cb xN yN h.lx h.ly]
  exact (relT_num (k := k) (sz1_sizes m1 m3) (sz1_sizes n1 n3) (fun x y hx hy => hat 0 y x hy hx) t a b h.ca h.cb xN yN h.lx h.ly).trans hk

theorem bst_bits {p : Nat → Bool} {k i : Nat} (hp : p k = true) (hi : k.testBit i = true) : ∀ K, k < K → (bst p K).testBit i = true := by
  intro K
  induction K with
  | zero => intro h; omega
  | succ K ih =>
    intro h
    rw [bst_next]
    by_cases e : k = K
    · subst e
      rw [if_pos hp, Nat.testBit_or, hi, Bool.or_true]
    · have := ih (by omega)
      by_cases hq : p K = true
      · rw [if_pos hq, Nat.testBit_or, this, Bool.true_or]
      · rw [if_neg hq]
        exact this

theorem numP_sub {m n k k' : Nat} (h : ∀ i, k.testBit i = true → k'.testBit i = true) : ∀ z ∈ numP m n k, z ∈ numP m n k' := by
  intro z hz
  unfold numP at hz ⊢
  obtain ⟨p, hp, rfl⟩ := List.mem_map.1 hz
  have := elems_mem.1 hp
  exact List.mem_map.2 ⟨p, elems_mem.2 ⟨this.1, h p this.2⟩, rfl⟩

/-- the first relation, and the best one -/
theorem first_best {t : Ty} {mN nN xN yN : Nat} {Lo Ro : Int} {Po : List Int} (he : some (Lo, Ro, Po) = mrO t mN nN xN yN) :
    ∃ k, k < 2 ^ (mN * nN) ∧ rbit t mN nN xN yN k = true ∧ Lo = mN ∧ Ro = nN ∧ Po = numP mN nN k ∧ mbO t mN nN xN yN = some ((mN : Int), (nN : Int), numP mN nN (bst (rbit t mN nN xN yN) (2 ^ (mN * nN)))) := by
  unfold mrO at he
  obtain ⟨k, h1, h2⟩ := Option.map_eq_some_iff.1 he.symm
  have h3 := List.find?_some h1
  have h4 := List.mem_range.1 (List.mem_of_find?_eq_some h1)
  injection h2 with e1 e2
  injection e2 with e2 e3
  refine ⟨k, h4, h3, e1.symm, e2.symm, e3.symm, ?_⟩
  unfold mbO
  rw [if_pos]
  unfold fnd
  rw [List.any_eq_true]
  exact ⟨k, List.mem_range.2 h4, h3⟩

theorem modr_len {s : List UInt8} {m n x y : Int} {o : Option (Int × Int × List Int)} (h : ModR mrO none s m n x y o) : (o.getD (0, 0, [])).2.2.length ≤ 100000 := by
  rcases h with ⟨t, mN, nN, a, b, xN, yN, hm, rfl⟩ | ⟨_, rfl⟩
  · obtain ⟨m1, m3, n1, n3⟩ := hm.sizes
    unfold mrO
    cases (List.range (2 ^ (mN * nN))).find? (rbit t mN nN xN yN) with
    | none => simp
    | some k =>
      have h1 := numP_len mN nN k
      have h2 := Nat.mul_le_mul m3 n3
      simp only [Option.map_some, Option.getD_some]
      omega
  · simp

theorem rel_rowQ {w : World} {g : Nat} {L R : Int} {ps : List Int} {B : Option Addr} {cp : Nat} {t : TypeId} (hb : Blk w g t #[.int .i64 L, .int .i64 R, .slice B ps.length cp]) (hi : ISl w B ps) (hl : ps.length ≤ 2000000) : Rels w (some ⟨g, 0, none⟩) [(L, R, ps)] := fun j L' R' ps' hj => by
  cases j with
  | zero =>
    simp at hj
    obtain ⟨rfl, rfl, rfl⟩ := hj
    exact ⟨g, 0, B, cp, rfl, (hb.cell _).trans rfl, (hb.cell _).trans rfl, (hb.cell _).trans rfl, hi, hl⟩
  | succ j => simp at hj

/-- a relation, and whether there is one, is returned: part by part -/
def AnsCQs (Lo Ro : Int) (Po : List Int) (bo : Bool) (w : World) (e : Ending) (w' : World) : Prop := ∃ A n c, e = .returned (.tuple #[RV Lo Ro A n c, .bool bo]) ∧ Fr No w w' ∧ OR w' w.heap.size A n c Po

set_option maxRecDepth 100000 in
set_option maxHeartbeats 2000000 in
theorem drawModuleRelation (w : World) (A : Option Addr) (n c : Nat) (hn : n ≤ maxLen) (hnc : n ≤ c) (hb : Byt w A n) :
    Calls Tryz.prog 5 #[.slice A n c] w fun e w' => DrMd w e w' := by
  have OP := Lib.hid (open_any w A n c hn hnc hb)
  clear hn hnc hb
  go_enter Tryz.func5, Tryz.ntmps5
  go_wp2_with fail
  refine OP.out.mono ?_
  rintro e w1 ⟨r, A1, n1, c1, rfl, hf1, hr1, hd1⟩
  have HF1 := Lib.hid hf1
  have MD := Lib.hid (mods_draw w1 r A1 n1 c1 0 hd1 (by omega))
  clear hf1 hd1 OP
  go_wp2_with fail
  refine MD.out.mono ?_
  rintro e w2 ⟨s, m, k, x, y, rfl, hs, hm, hk, hf2⟩
  have FIN : Hid (DrMd w (.returned (.tuple #[S s, .int .i64 m, .int .i64 k, .int .i64 x, .int .i64 y])) w2) := ⟨s, m, k, x, y, rfl, hs, hm, hk, HF1.out.then_ hf2 (fun b hb e => by have e : b = r := e; omega)⟩
  clear hf2 MD
  go_wp2_with fail
  refine bodyPost_ret (v := .tuple #[S s, .int .i64 m, .int .i64 k, .int .i64 x, .int .i64 y]) (by simp [results, Tryz.results5, go_sem]) rfl ?_
  exact FIN.out

set_option maxRecDepth 100000 in
set_option maxHeartbeats 4000000 in
theorem lawRelationP (w : World) (HTAB : TZt w) (A : Option Addr) (n c : Nat) (hn : n ≤ maxLen) (hnc : n ≤ c) (hb : Byt w A n) :
    Calls Tryz.prog 3 #[.slice A n c] w fun e w' => Yes w e w' := by
  have DR := Lib.hid (drawModuleRelation w A n c hn hnc hb)
  have HT := Lib.hid HTAB
  clear HTAB hb
  have hn' := hn
  unfold maxLen at hn'
  by_cases hbig : 1048576 < n
  · have hd : decide ((1048576 : Int) < (n : Int)) = true := by simp; omega
    go_enter Tryz.func3, Tryz.ntmps3
    go_wp2_with fail
    go_ret
    exact ⟨rfl, Fr.refl _ _⟩
  have hd : decide ((1048576 : Int) < (n : Int)) = false := by simp; omega
  go_enter Tryz.func3, Tryz.ntmps3
  go_wp2_with fail
  refine DR.out.mono ?_
  rintro e w1 ⟨s, m, k, x, y, rfl, hs, _, _, hf1⟩
  have HF1 := Lib.hid hf1
  have HT1 : Hid (TZt w1) := HT.out.fr hf1 (fun h => h)
  have HSM : Hid (s.length ≤ maxLen) := by show _ ≤ _; unfold maxLen; omega
  obtain ⟨o, ho⟩ := ModR.ex mrO none s m k x y
  have HO := Lib.hid ho
  obtain ⟨Lo, Ro, Po, bo, HLEN, HSO, IM, SP⟩ : ∃ (Lo Ro : Int) (Po : List Int) (bo : Bool), Hid (Po.length ≤ 100000) ∧ Hid (bo = true → o = some (Lo, Ro, Po)) ∧ Hid (∀ W, Fr No w1 W → Calls Tryz.prog 6 #[S s, .int .i64 m, .int .i64 k, .int .i64 x, .int .i64 y] W fun e w' => AnsCQs Lo Ro Po bo W e w') ∧ Hid (∀ W, Fr No w1 W → Calls Tryz.prog 7 #[S s, .int .i64 m, .int .i64 k, .int .i64 x, .int .i64 y] W fun e w' => AnsCQs Lo Ro Po bo W e w') :=
    ⟨(o.getD (0, 0, [])).1, (o.getD (0, 0, [])).2.1, (o.getD (0, 0, [])).2.2, o.isSome, modr_len ho, fun h => (by cases o with | none => cases h | some q => rfl), fun W hf => implModRel W s m k x y HSM.out (HT1.out.fr hf (fun h => h)) o HO.out, fun W _ => specModRel W s m k x y HSM.out o HO.out⟩
  have F0 : Hid (Fr No w1 w1) := Fr.refl _ _
  clear hf1 ho DR hd hbig hn hn' hnc hs
  go_wp2_with fail
  refine (IM.out _ F0.out).mono ?_
  rintro e w2 ⟨Ag, ng, cg, rfl, hf, hor⟩
  have m1 := Lib.hid hf.size
  have F2 := Lib.hid (F0.out.trans hf)
  have R3 := Lib.hid hor
  have bd4 : Hid (∀ b, Own Ag b → w1.heap.size ≤ b ∧ b < (w2).heap.size) := fun b hb => OR.bounds hor hb
  clear hf hor
  have ha5 : Fr No w2 (w2.alloc (.cells #[.int .i64 Lo, .int .i64 Ro, .slice Ag ng cg] 27)) := (Fr.refl No w2).alloc _
  have m6 := Lib.hid ha5.size
  have R7 := Lib.hid (R3.out.fr ha5 (fun _ _ h => h))
  have F8 := Lib.hid (F2.out.trans ha5)
  have B9 : Hid (Blk (w2.alloc (.cells #[.int .i64 Lo, .int .i64 Ro, .slice Ag ng cg] 27)) (w2.heap.size) 27 #[.int .i64 Lo, .int .i64 Ro, .slice Ag ng cg]) := Blk.new _ _ _
  clear ha5 R3 F2
  go_wp2_with fail
  generalize (w2.alloc (.cells #[.int .i64 Lo, .int .i64 Ro, .slice Ag ng cg] 27)) = w3 at *
  refine (SP.out _ F8.out).mono ?_
  rintro e w4 ⟨Ap, np, cp, rfl, hf, hor⟩
  have m10 := Lib.hid hf.size
  have B11 := Lib.hid (B9.out.fr hf (fun h => h))
  have R12 := Lib.hid (R7.out.fr hf (fun _ _ h => h))
  have F13 := Lib.hid (F8.out.trans hf)
  have R14 := Lib.hid hor
  have bd15 : Hid (∀ b, Own Ap b → w3.heap.size ≤ b ∧ b < (w4).heap.size) := fun b hb => OR.bounds hor hb
  clear hf hor B9 R7 F8
  have ha16 : Fr No w4 (w4.alloc (.cells #[.int .i64 Lo, .int .i64 Ro, .slice Ap np cp] 27)) := (Fr.refl No w4).alloc _
  have m17 := Lib.hid ha16.size
  have B18 := Lib.hid (B11.out.fr ha16 (fun h => h))
  have R19 := Lib.hid (R12.out.fr ha16 (fun _ _ h => h))
  have R20 := Lib.hid (R14.out.fr ha16 (fun _ _ h => h))
  have F21 := Lib.hid (F13.out.trans ha16)
  have B22 : Hid (Blk (w4.alloc (.cells #[.int .i64 Lo, .int .i64 Ro, .slice Ap np cp] 27)) (w4.heap.size) 27 #[.int .i64 Lo, .int .i64 Ro, .slice Ap np cp]) := Blk.new _ _ _
  clear ha16 B11 R12 R14 F13
  have c23 : World.cell? (w4.alloc (.cells #[.int .i64 Lo, .int .i64 Ro, .slice Ap np cp] 27)) ⟨w2.heap.size, 0, none⟩ = some (.int .i64 Lo) := (B18.out.cell 0).trans rfl
  have c24 : World.cell? (w4.alloc (.cells #[.int .i64 Lo, .int .i64 Ro, .slice Ap np cp] 27)) ⟨w2.heap.size, 1, none⟩ = some (.int .i64 Ro) := (B18.out.cell 1).trans rfl
  have c25 : World.cell? (w4.alloc (.cells #[.int .i64 Lo, .int .i64 Ro, .slice Ap np cp] 27)) ⟨w2.heap.size, 2, none⟩ = some (.slice Ag ng cg) := (B18.out.cell 2).trans rfl
  go_wp2_with fail
  generalize (w4.alloc (.cells #[.int .i64 Lo, .int .i64 Ro, .slice Ap np cp] 27)) = w5 at *
  have hEQ : Calls Tryz.prog 8 #[RV Lo Ro Ag ng cg, RV Lo Ro Ap np cp] w5 fun e w' => e = .returned (.bool true) ∧ Fr No w5 w' := by
    rw [R19.out.1, R20.out.1]
    refine (samer_any w5 Lo Ro Ag cg Po Lo Ro Ap cp Po (OR.isl R19.out) (OR.isl R20.out) (by have := HLEN.out; omega) (by have := HLEN.out; omega)).mono ?_
    rintro e w' ⟨b, rfl, hb, hf⟩
    obtain rfl : b = true := hb.2 ⟨rfl, rfl, rfl⟩
    exact ⟨rfl, hf⟩
  have HEQ := Lib.hid hEQ
  clear hEQ
  refine (HEQ.out).mono ?_
  rintro e w6 ⟨rfl, hf⟩
  have m26 := Lib.hid hf.size
  have B27 := Lib.hid (B18.out.fr hf (fun h => h))
  have B28 := Lib.hid (B22.out.fr hf (fun h => h))
  have R29 := Lib.hid (R19.out.fr hf (fun _ _ h => h))
  have R30 := Lib.hid (R20.out.fr hf (fun _ _ h => h))
  have F31 := Lib.hid (F21.out.trans hf)
  clear hf HEQ B18 B22 R19 R20 F21 c23 c24 c25
  by_cases hbo : bo = false
  · subst hbo
    have c32 : World.cell? w6 ⟨w2.heap.size, 0, none⟩ = some (.int .i64 Lo) := (B27.out.cell 0).trans rfl
    have c33 : World.cell? w6 ⟨w2.heap.size, 1, none⟩ = some (.int .i64 Ro) := (B27.out.cell 1).trans rfl
    have c34 : World.cell? w6 ⟨w2.heap.size, 2, none⟩ = some (.slice Ag ng cg) := (B27.out.cell 2).trans rfl
    have c35 : World.cell? w6 ⟨w4.heap.size, 0, none⟩ = some (.int .i64 Lo) := (B28.out.cell 0).trans rfl
    have c36 : World.cell? w6 ⟨w4.heap.size, 1, none⟩ = some (.int .i64 Ro) := (B28.out.cell 1).trans rfl
    have c37 : World.cell? w6 ⟨w4.heap.size, 2, none⟩ = some (.slice Ap np cp) := (B28.out.cell 2).trans rfl
    go_wp2_with fail
    have hEQ : Calls Tryz.prog 8 #[RV Lo Ro Ag ng cg, RV Lo Ro Ap np cp] w6 fun e w' => e = .returned (.bool true) ∧ Fr No w6 w' := by
      rw [R29.out.1, R30.out.1]
      refine (samer_any w6 Lo Ro Ag cg Po Lo Ro Ap cp Po (OR.isl R29.out) (OR.isl R30.out) (by have := HLEN.out; omega) (by have := HLEN.out; omega)).mono ?_
      rintro e w' ⟨b, rfl, hb, hf⟩
      obtain rfl : b = true := hb.2 ⟨rfl, rfl, rfl⟩
      exact ⟨rfl, hf⟩
    have HEQ := Lib.hid hEQ
    clear hEQ
    refine (HEQ.out).mono ?_
    rintro e w7 ⟨rfl, hf⟩
    have m38 := Lib.hid hf.size
    have B39 := Lib.hid (B27.out.fr hf (fun h => h))
    have B40 := Lib.hid (B28.out.fr hf (fun h => h))
    have R41 := Lib.hid (R29.out.fr hf (fun _ _ h => h))
    have R42 := Lib.hid (R30.out.fr hf (fun _ _ h => h))
    have F43 := Lib.hid (F31.out.trans hf)
    clear hf HEQ B27 B28 R29 R30 F31 c32 c33 c34 c35 c36 c37
    go_wp2_with fail
    go_ret
    exact ⟨rfl, HF1.out.trans F43.out⟩
  obtain rfl : bo = true := by cases bo with | false => exact (hbo rfl).elim | true => rfl
  obtain ⟨t, mN, nN, a, b, xN, yN, hm, he⟩ : ∃ (t : Ty) (mN nN a b xN yN : Nat), Mod s m k x y t mN nN a b xN yN ∧ some (Lo, Ro, Po) = mrO t mN nN xN yN := by
    have h := HO.out
    rw [HSO.out rfl] at h
    rcases h with h | ⟨_, h⟩
    · exact h
    · cases h
  obtain ⟨kk, hk1, hk2, rfl, rfl, hpo, hbest⟩ := first_best he
  obtain ⟨P2, hP2⟩ : ∃ P2, P2 = numP mN nN (bst (rbit t mN nN xN yN) (2 ^ (mN * nN))) := ⟨_, rfl⟩
  rw [← hP2] at hbest
  obtain rfl := hm.em
  obtain rfl := hm.en
  obtain ⟨s1, s2, s3, s4⟩ := hm.sizes
  have HPO : Hid (RelOk (mN : Int) (nN : Int) Po) := by rw [hpo]; exact numP_ok s1 s2 s3 s4
  have HP2 : Hid (RelOk (mN : Int) (nN : Int) P2) := by rw [hP2]; exact numP_ok s1 s2 s3 s4
  have HP2L : Hid (P2.length ≤ 100000) := by
    have h1 := numP_len mN nN (bst (rbit t mN nN xN yN) (2 ^ (mN * nN)))
    have h2 := Nat.mul_le_mul s2 s4
    rw [← hP2] at h1
    show _ ≤ _
    omega
  have HSUB : Hid (∀ z ∈ Po, z ∈ P2) := by rw [hpo, hP2]; exact numP_sub (fun i hi => bst_bits hk2 hi _ hk1)
  have HRL : Hid (RelatedIs s [[97]] [((mN : Int), (nN : Int), Po)] x y) := by rw [hpo]; exact hm.related hk2
  have MB : Hid (∀ W, Fr No w1 W → Calls Tryz.prog 9 #[S s, .int .i64 (mN : Int), .int .i64 (nN : Int), .int .i64 x, .int .i64 y] W fun e w' => AnsCQs mN nN P2 true W e w') := fun W hf => implModBest W s mN nN x y HSM.out (HT1.out.fr hf (fun h => h)) (some ((mN : Int), (nN : Int), P2)) (.inl ⟨t, mN, nN, a, b, xN, yN, hm, hbest.symm⟩)
  have AL : Hid (∀ W, Fr No w1 W → Calls Tryz.prog 12 #[S s, .int .i64 (nN : Int), .int .i64 (mN : Int), .int .i64 y, .int .i64 x] W fun e w' => e = .returned (.bool true) ∧ Fr No W w') := fun W hf => by
    have h := implModAlike W s nN mN y x HSM.out (HT1.out.fr hf (fun h => h)) _ (.inl ⟨t, nN, mN, b, a, yN, xN, hm.swap, rfl⟩)
    rw [bit_back hm hk2] at h
    exact h
  clear he hk1 hk2 hpo hbest hP2 hm s1 s2 s3 s4 hbo IM SP
  go_wp2_with fail
  refine (MB.out _ F31.out).mono ?_
  rintro e wb ⟨Ab, nb, cb, rfl, hfb, hob⟩
  obtain ⟨W6, hW6, hf6, hb6⟩ : ∃ W, W = wb.alloc (.cells #[.int .i64 (mN : Int), .int .i64 (nN : Int), .slice Ab nb cb] 27) ∧ Fr No wb W ∧ Blk W wb.heap.size 27 #[.int .i64 (mN : Int), .int .i64 (nN : Int), .slice Ab nb cb] := ⟨_, rfl, (Fr.refl _ _).alloc _, Blk.new _ _ _⟩
  obtain ⟨W7, hW7, hf7, hb7, hb8⟩ : ∃ W, W = (W6.alloc (.cells #[S [97]] 9)).alloc (.cells #[.int .i64 (mN : Int), .int .i64 (nN : Int), .slice Ag ng cg] 27) ∧ Fr No W6 W ∧ Blk W W6.heap.size 9 #[S [97]] ∧ Blk W (W6.heap.size + 1) 27 #[.int .i64 (mN : Int), .int .i64 (nN : Int), .slice Ag ng cg] := ⟨_, rfl, ((Fr.refl _ _).alloc _).alloc _, (Blk.new _ _ _).alloc _, Blk.new_at _ _ _ (by simp)⟩
  have hfx := hfb.trans hf6
  have HF7 := Lib.hid ((F31.out.trans hfx).trans hf7)
  have hbo6 := B27.out.fr hfx (fun h => h)
  have HBO7 := Lib.hid (hbo6.fr hf7 (fun h => h))
  have HBB7 := Lib.hid (hb6.fr hf7 (fun h => h))
  have HOG7 := Lib.hid ((R29.out.no hfx).no hf7)
  have HOB7 := Lib.hid ((hob.no hf6).no hf7)
  have hq5 := HOG7.out.1
  have hrels : Rels W7 (some ⟨W6.heap.size + 1, 0, none⟩) [((mN : Int), (nN : Int), Po)] := rel_rowQ (by rw [hq5] at hb8; exact hb8) (OR.isl HOG7.out) (by have := HLEN.out; omega)
  have hz6 : W6.heap.size = wb.heap.size + 1 := by rw [hW6]; simp
  have RL0 := (related_any W7 s (some ⟨W6.heap.size, 0, none⟩) (some ⟨W6.heap.size + 1, 0, none⟩) 1 1 [[97]] [((mN : Int), (nN : Int), Po)] x y HSM.out (ssl_blk hb7 rfl) hrels (by decide) (by simp) (by simp [maxLen]) (HT1.out.fr HF7.out (fun h => h)))
  rw [hz6] at RL0
  have RL := Lib.hid RL0
  have hbo5 := B27.out.fr hfb (fun h => h)
  have a0 : wb.cell? ⟨w2.heap.size, 0, none⟩ = some (.int .i64 (mN : Int)) := (hbo5.cell 0).trans rfl
  have a1 : wb.cell? ⟨w2.heap.size, 1, none⟩ = some (.int .i64 (nN : Int)) := (hbo5.cell 1).trans rfl
  have a2 : wb.cell? ⟨w2.heap.size, 2, none⟩ = some (.slice Ag ng cg) := (hbo5.cell 2).trans rfl
  have a3 := hbo5.lt
  have HW7 := Lib.hid hW7
  clear hfb hob hf6 hb6 hf7 hb7 hb8 hfx hbo5 hbo6 hq5 hrels hW7 RL0 hz6 MB
  subst hW6
  go_wp2_with fail
  rw [← HW7.out]
  refine RL.out.mono ?_
  rintro e w20 ⟨hf20, b20, rfl, hb20⟩
  obtain rfl : b20 = true := hb20.2 HRL.out
  have HF20 := Lib.hid (HF7.out.trans hf20)
  have hbo20 := HBO7.out.fr hf20 (fun h => h)
  have hbb20 := HBB7.out.fr hf20 (fun h => h)
  have x0 : w20.cell? ⟨w2.heap.size, 0, none⟩ = some (.int .i64 (mN : Int)) := (hbo20.cell 0).trans rfl
  have x1 : w20.cell? ⟨w2.heap.size, 1, none⟩ = some (.int .i64 (nN : Int)) := (hbo20.cell 1).trans rfl
  have x2 : w20.cell? ⟨w2.heap.size, 2, none⟩ = some (.slice Ag ng cg) := (hbo20.cell 2).trans rfl
  have y0 : w20.cell? ⟨wb.heap.size, 0, none⟩ = some (.int .i64 (mN : Int)) := (hbb20.cell 0).trans rfl
  have y1 : w20.cell? ⟨wb.heap.size, 1, none⟩ = some (.int .i64 (nN : Int)) := (hbb20.cell 1).trans rfl
  have y2 : w20.cell? ⟨wb.heap.size, 2, none⟩ = some (.slice Ab nb cb) := (hbb20.cell 2).trans rfl
  have WI : Hid (Calls Tryz.prog 11 #[RV (mN : Int) (nN : Int) Ag ng cg, RV (mN : Int) (nN : Int) Ab nb cb] w20 fun e w' => e = .returned (.bool true) ∧ Fr No w20 w') := by
    have hr1 := HOG7.out.no hf20
    have hr2 := HOB7.out.no hf20
    rw [hr1.1, hr2.1]
    exact withinR_any w20 mN nN _ _ _ _ Po P2 hr1.isl hr2.isl (by have := HLEN.out; omega) (by have := HP2L.out; omega) HPO.out HP2.out HSUB.out
  clear hf20 hb20 hbo20 hbb20 RL a0 a1 a2 a3
  go_wp2_with fail
  refine WI.out.mono ?_
  rintro e w21 ⟨rfl, hf21⟩
  have HF21 := Lib.hid (HF20.out.trans hf21)
  clear hf21 WI x0 x1 x2 y0 y1 y2
  go_wp2_with fail
  refine (AL.out _ HF21.out).mono ?_
  rintro e w22 ⟨rfl, hf22⟩
  have HF22 := Lib.hid (HF21.out.trans hf22)
  clear hf22 AL
  go_wp2_with fail
  go_ret
  exact ⟨rfl, HF1.out.trans HF22.out⟩
end Go.Proofs.YtloecimlimoanaaGreatDoor
