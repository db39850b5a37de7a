/- The plain law FnModuleAlike. -/
import Derived.Test.YtloecimlimoanaaDoorRpm
import Derived.Test.YtloecimlimoanaaDoorDro
import Derived.Test.YtloecimlimoanaaDoorLawMd
namespace Go.Proofs.YtloecimlimoanaaDoor
open Go.RowKit Go.ChangeMaps Go.Shelf

set_option maxRecDepth 100000 in
set_option maxHeartbeats 1000000 in
theorem face_draw (w : World) (r : Nat) (A : Option Addr) (n c p : Nat) (h : Rdc w r A n c p) (hp : p ≤ 80000) :
    Calls Tryd.prog 120 #[Ptr r] w fun e w' => DrwP r A n c p 3 40 w e w' := by
  have KD := Lib.hid (kind_draw w r A n c p h hp)
  clear h
  go_enter Tryd.func120, Tryd.ntmps120
  go_wp2_with fail
  refine KD.out.mono ?_
  rintro e w1 ⟨x, p1, rfl, hx, hf1, hp1, hr1⟩
  have HF1 := Lib.hid hf1
  have OF := Lib.hid (of_lit w1 r A n c p1 40 8 [[97], [40, 42, 32, 97, 32, 40, 62, 32, 97, 32, 111, 41, 41], [40, 42, 32, 97, 32, 40, 42, 32, 40, 62, 32, 97, 32, 97, 41, 32, 40, 62, 32, 97, 32, 111, 41, 41, 41], [40, 42, 32, 97, 32, 40, 62, 32, 97, 32, 97, 41, 41], [40, 62, 32, 97, 32, 111, 41], [40, 42, 32, 40, 62, 32, 111, 32, 97, 41, 32, 40, 62, 32, 97, 32, 111, 41, 41], [111], x] #[.string ⟨#[97]⟩, .string ⟨#[40, 42, 32, 97, 32, 40, 62, 32, 97, 32, 111, 41, 41]⟩, .string ⟨#[40, 42, 32, 97, 32, 40, 42, 32, 40, 62, 32, 97, 32, 97, 41, 32, 40, 62, 32, 97, 32, 111, 41, 41, 41]⟩, .string ⟨#[40, 42, 32, 97, 32, 40, 62, 32, 97, 32, 97, 41, 41]⟩, .string ⟨#[40, 62, 32, 97, 32, 111, 41]⟩, .string ⟨#[40, 42, 32, 40, 62, 32, 111, 32, 97, 41, 32, 40, 62, 32, 97, 32, 111, 41, 41]⟩, .string ⟨#[111]⟩, S x] rfl rfl hr1 (by omega) (by omega) (by omega) (by
    intro y hy
    simp at hy
    rcases hy with rfl | rfl | rfl | rfl | rfl | rfl | rfl | rfl <;> first | exact hx | decide))
  clear hf1 hr1 KD
  go_wp2_with fail
  refine OF.out.mono ?_
  rintro e w2 ⟨y, rfl, _, hy, hf, hr⟩
  have FIN : Hid (DrwP r A n c p 3 40 w (.returned (S y)) w2) := ⟨y, p1 + 1, rfl, hy, HF1.out.trans hf, by omega, hr⟩
  clear hf hr
  go_wp2_with fail
  go_ret
  exact FIN.out

/-- an interface, two sizes, two modules -/
def DrMd (w : World) (e : Ending) (w' : World) : Prop := ∃ (s : List UInt8) (m n x y : Int), e = .returned (.tuple #[S s, .int .i64 m, .int .i64 n, .int .i64 x, .int .i64 y]) ∧ s.length ≤ 40 ∧ (0 ≤ m ∧ m ≤ 4) ∧ (0 ≤ n ∧ n ≤ 4) ∧ Fr No w w'

set_option maxRecDepth 100000 in
set_option maxHeartbeats 2000000 in
theorem mods_draw (w : World) (r : Nat) (A : Option Addr) (n c p : Nat) (h : Rdc w r A n c p) (hp : p ≤ 70000) :
    Calls Tryd.prog 84 #[Ptr r] w fun e w' => ∃ (s : List UInt8) (m n' x y : Int), e = .returned (.tuple #[S s, .int .i64 m, .int .i64 n', .int .i64 x, .int .i64 y]) ∧ s.length ≤ 40 ∧ (0 ≤ m ∧ m ≤ 4) ∧ (0 ≤ n' ∧ n' ≤ 4) ∧ Fr (One r) w w' := by
  have KD := Lib.hid (face_draw w r A n c p h (by omega))
  clear h
  go_enter Tryd.func84, Tryd.ntmps84
  go_wp2_with fail
  refine KD.out.mono ?_
  rintro e w2 ⟨s, p2, rfl, hs, hf2, hp2, hd2⟩
  have HF2 := Lib.hid hf2
  have SD := Lib.hid (size_draw w2 r A n c p2 hd2 (by omega))
  clear hf2 hd2 KD
  go_wp2_with fail
  refine SD.out.mono ?_
  rintro e w3 ⟨m, p3, rfl, hm0, hm4, hf3, hp3, hd3⟩
  have HF3 := Lib.hid (HF2.out.trans hf3)
  have SD2 := Lib.hid (size_draw w3 r A n c p3 hd3 (by omega))
  clear hf3 hd3 SD
  go_wp2_with fail
  refine SD2.out.mono ?_
  rintro e w4 ⟨k, p4, rfl, hk0, hk4, hf4, hp4, hd4⟩
  have HF4 := Lib.hid (HF3.out.trans hf4)
  have OF := Lib.hid (of_draw w4 r A n c p4 hd4 (by omega) s (by unfold maxLen; omega) m)
  clear hf4 hd4 SD2
  go_wp2_with fail
  refine OF.out.mono ?_
  rintro e w5 ⟨x, p5, rfl, _, _, hf5, hp5, hd5⟩
  have HF5 := Lib.hid (HF4.out.trans hf5)
  have OF2 := Lib.hid (of_draw w5 r A n c p5 hd5 (by omega) s (by unfold maxLen; omega) k)
  clear hf5 hd5 OF
  go_wp2_with fail
  refine OF2.out.mono ?_
  rintro e w6 ⟨y, p6, rfl, _, _, hf6, _, _⟩
  have HF6 := Lib.hid (HF5.out.trans hf6)
  clear hf6 OF2
  go_wp2_with fail
  refine bodyPost_ret (v := .tuple #[S s, .int .i64 m, .int .i64 k, .int .i64 x, .int .i64 y]) (by simp [results, Tryd.results84, go_sem]) rfl ?_
  exact ⟨s, m, k, x, y, rfl, hs, ⟨hm0, hm4⟩, ⟨hk0, hk4⟩, HF6.out⟩

set_option maxRecDepth 100000 in
set_option maxHeartbeats 2000000 in
theorem drawModuleAlike (w : World) (A : Option Addr) (n c : Nat) (hn : n ≤ maxLen) (hnc : n ≤ c) (hb : Byt w A n) :
    Calls Tryd.prog 34 #[.slice A n c] w fun e w' => DrMd w e w' := by
  have OP := Lib.hid (open_any w A n c hn hnc hb)
  clear hn hnc hb
  go_enter Tryd.func34, Tryd.ntmps34
  go_wp2_with fail
  refine OP.out.mono ?_
  rintro e w1 ⟨r, A1, n1, c1, rfl, hf1, hr1, hd1⟩
  have HF1 := Lib.hid hf1
  have MD := Lib.hid (mods_draw w1 r A1 n1 c1 0 hd1 (by omega))
  clear hf1 hd1 OP
  go_wp2_with fail
  refine MD.out.mono ?_
  rintro e w2 ⟨s, m, k, x, y, rfl, hs, hm, hk, hf2⟩
  have FIN : Hid (DrMd w (.returned (.tuple #[S s, .int .i64 m, .int .i64 k, .int .i64 x, .int .i64 y])) w2) := ⟨s, m, k, x, y, rfl, hs, hm, hk, HF1.out.then_ hf2 (fun b hb e => by have e : b = r := e; omega)⟩
  clear hf2 MD
  go_wp2_with fail
  refine bodyPost_ret (v := .tuple #[S s, .int .i64 m, .int .i64 k, .int .i64 x, .int .i64 y]) (by simp [results, Tryd.results34, go_sem]) rfl ?_
  exact FIN.out

theorem bit_self {s : List UInt8} {m n x y : Int} {t : Ty} {mN nN a b xN yN : Nat} (h : Mod s m n x y t mN nN a b xN yN) : (mrO t mN mN xN xN).isSome = true := by
  obtain ⟨m1, m3, _, _⟩ := h.sizes
  obtain ⟨k, hk, hb⟩ := num_ex (mN * mN) (fun p => decide (p / mN = p % mN))
  unfold mrO
  rw [Option.isSome_map, List.find?_isSome]
  refine ⟨k, List.mem_range.2 hk, ?_⟩
  show relT (sz1 mN) (sz1 mN) (numR mN mN k) t xN xN = true
  refine (relT_same (sz1_sizes m1 m3) (fun i q hq x y hx hy => ?_) t a h.ca xN xN h.lx h.lx).2 rfl
  obtain ⟨rfl, rfl⟩ := sz1_some hq
  rw [numR_at hx hy]
  have hlt : x * q + y < q * q := by
    have h := Nat.mul_le_mul (show x + 1 ≤ q by omega) (Nat.le_refl q)
    rw [Nat.add_one_mul] at h
    omega
  rw [hb _ hlt]
  have d1 : (x * q + y) / q = x := by rw [Nat.mul_comm, Nat.mul_add_div (by omega), Nat.div_eq_of_lt hy]; rfl
  have d2 : (x * q + y) % q = y := by rw [Nat.mul_comm, Nat.mul_add_mod, Nat.mod_eq_of_lt hy]
  rw [d1, d2, decide_eq_true_iff]

theorem Mod.left {s : List UInt8} {m n x y : Int} {t : Ty} {mN nN a b xN yN : Nat} (h : Mod s m n x y t mN nN a b xN yN) : Mod s m m x x t mN mN a a xN xN :=
  ⟨h.is, h.only, h.em, h.em, ⟨h.in3.1, h.in3.2.1, h.in3.1, h.in3.2.1⟩, h.ca, h.ca, h.ex, h.ex, h.lx, h.lx⟩
theorem Mod.right {s : List UInt8} {m n x y : Int} {t : Ty} {mN nN a b xN yN : Nat} (h : Mod s m n x y t mN nN a b xN yN) : Mod s n n y y t nN nN b b yN yN :=
  ⟨h.is, h.only, h.en, h.en, ⟨h.in3.2.2.1, h.in3.2.2.2, h.in3.2.2.1, h.in3.2.2.2⟩, h.cb, h.cb, h.ey, h.ey, h.ly, h.ly⟩

theorem numP_zero (m n : Nat) : numP m n 0 = [] := by
  unfold numP
  rw [List.map_eq_nil_iff]
  apply List.eq_nil_iff_forall_not_mem.2
  intro p hp
  have := (elems_mem.1 hp).2
  simp at this

theorem par_first {s : List UInt8} {m n x y : Int} {t : Ty} {mN nN a b xN yN : Nat} (h : Mod s m n x y t mN nN a b xN yN) (hp : PairIs s m n x y) : mrO t mN nN xN yN = some ((mN : Int), (nN : Int), []) := by
  have h1 := h.em
  have h2 := h.en
  have h3 := h.ex
  have h4 := h.ey
  subst h1 h2
  obtain ⟨t', c, c', xN', yN', g1, g2, g3, g4, g5, g6, g7, g8, g9⟩ := hp.all
  have e := g1.unique h.is
  subst e
  have e1 : xN' = xN := by omega
  have e2 : yN' = yN := by omega
  subst e1 e2
  unfold mrO
  have e : (List.range (2 ^ (mN * nN))).find? (rbit t' mN nN xN' yN') = some 0 := by
    obtain ⟨q, hq⟩ : ∃ q, 2 ^ (mN * nN) = q + 1 := ⟨2 ^ (mN * nN) - 1, by have := Nat.two_pow_pos (mN * nN); omega⟩
    rw [hq, List.range_succ_eq_map, List.find?_cons_of_pos]
    exact g9 _
  rw [e, Option.map_some, numP_zero]

set_option maxRecDepth 100000 in
set_option maxHeartbeats 4000000 in
theorem lawModuleAlikeP (w : World) (HTAB : TZt w) (A : Option Addr) (n c : Nat) (hn : n ≤ maxLen) (hnc : n ≤ c) (hb : Byt w A n) :
    Calls Tryd.prog 9 #[.slice A n c] w fun e w' => Yes w e w' := by
  have DR := Lib.hid (drawModuleAlike w A n c hn hnc hb)
  have HT := Lib.hid HTAB
  clear HTAB hb
  have hn' := hn
  unfold maxLen at hn'
  by_cases hbig : 1048576 < n
  · have hd : decide ((1048576 : Int) < (n : Int)) = true := by simp; omega
    go_enter Tryd.func9, Tryd.ntmps9
    go_wp2_with fail
    go_ret
    exact ⟨rfl, Fr.refl _ _⟩
  have hd : decide ((1048576 : Int) < (n : Int)) = false := by simp; omega
  go_enter Tryd.func9, Tryd.ntmps9
  go_wp2_with fail
  refine DR.out.mono ?_
  rintro e w1 ⟨s, m, k, x, y, rfl, hs, _, _, hf1⟩
  have HF1 := Lib.hid hf1
  have hsm : s.length ≤ maxLen := by unfold maxLen; omega
  have HSM := Lib.hid hsm
  obtain ⟨o, ho⟩ := ModR.ex mrO none s m k x y
  have HO := Lib.hid ho
  have AL : Hid (∀ V (m n x y : Int) (o : Option (Int × Int × List Int)), Fr No w V → ModR mrO none s m n x y o → Calls Tryd.prog 35 #[S s, .int .i64 m, .int .i64 n, .int .i64 x, .int .i64 y] V fun e w' => e = .returned (.bool o.isSome) ∧ Fr No V w') := fun V m n x y o hf ho => implModAlike V s m n x y HSM.out (HT.out.fr hf (fun h => h)) o ho
  have SP : Hid (∀ V, Calls Tryd.prog 36 #[S s, .int .i64 m, .int .i64 k, .int .i64 x, .int .i64 y] V fun e w' => e = .returned (.bool o.isSome) ∧ Fr No V w') := fun V => specModAlike V s m k x y HSM.out o HO.out
  have MR : Hid (∀ V, Fr No w V → Calls Tryd.prog 37 #[S s, .int .i64 m, .int .i64 k, .int .i64 x, .int .i64 y] V fun e w' => AnsR o V e w') := fun V hf => implModRel V s m k x y HSM.out (HT.out.fr hf (fun h => h)) o HO.out
  have PP : Hid (∀ V, Fr No w V → Calls Tryd.prog 27 #[S s, .int .i64 m, .int .i64 k, .int .i64 x, .int .i64 y] V fun e w' => AnsB (PairIs s m k x y) V e w') := fun V hf => implParamPair V s m k x y HSM.out (HT.out.fr hf (fun h => h))
  clear hf1 DR hsm ho hd hbig hn hnc hn' hs
  go_wp2_with fail
  refine (AL.out _ m k x y o HF1.out HO.out).mono ?_
  rintro e w2 ⟨rfl, hf2⟩
  have HF2 := Lib.hid (HF1.out.trans hf2)
  clear hf2
  go_wp2_with fail
  refine (SP.out _).mono ?_
  rintro e w3 ⟨rfl, hf3⟩
  have HF3 := Lib.hid (HF2.out.trans hf3)
  clear hf3 SP
  rcases o with _ | ⟨Lo, Ro, Po⟩
  · simp only [Option.isSome_none]
    go_wp2_with fail
    go_ret
    exact ⟨rfl, HF3.out⟩
  simp only [Option.isSome_some]
  obtain ⟨t, mN, nN, a, b, xN, yN, hm, he⟩ : ∃ (t : Ty) (mN nN a b xN yN : Nat), Mod s m k x y t mN nN a b xN yN ∧ some (Lo, Ro, Po) = mrO t mN nN xN yN := by
    rcases HO.out with ⟨t, mN, nN, a, b, xN, yN, hm, h⟩ | ⟨_, h⟩
    · exact ⟨t, mN, nN, a, b, xN, yN, hm, h⟩
    · cases h
  have HM := Lib.hid hm
  have HE := Lib.hid he
  have AL1 : Hid (∀ V, Fr No w V → Calls Tryd.prog 35 #[S s, .int .i64 m, .int .i64 m, .int .i64 x, .int .i64 x] V fun e w' => e = .returned (.bool true) ∧ Fr No V w') := fun V hf => by
    have h := AL.out V m m x x _ hf (.inl ⟨t, mN, mN, a, a, xN, xN, HM.out.left, rfl⟩)
    rw [bit_self HM.out] at h
    exact h
  have AL2 : Hid (∀ V, Fr No w V → Calls Tryd.prog 35 #[S s, .int .i64 k, .int .i64 k, .int .i64 y, .int .i64 y] V fun e w' => e = .returned (.bool true) ∧ Fr No V w') := fun V hf => by
    have h := AL.out V k k y y _ hf (.inl ⟨t, nN, nN, b, b, yN, yN, HM.out.right, rfl⟩)
    rw [bit_self HM.out.right] at h
    exact h
  clear hm he AL
  go_wp2_with fail
  refine (MR.out _ HF3.out).mono ?_
  rintro e w4 ⟨A4, n4, c4, rfl, hf4, ho4⟩
  simp only [Option.getD_some, Option.isSome_some] at ho4 ⊢
  obtain ⟨W5, hW5, hf5, hb5⟩ : ∃ W, W = w4.alloc (.cells #[.int .i64 Lo, .int .i64 Ro, .slice A4 n4 c4] 30) ∧ Fr No w4 W ∧ Blk W w4.heap.size 30 #[.int .i64 Lo, .int .i64 Ro, .slice A4 n4 c4] := ⟨_, rfl, (Fr.refl _ _).alloc _, Blk.new _ _ _⟩
  have HF5 := Lib.hid ((HF3.out.trans hf4).trans hf5)
  have HB5 := Lib.hid hb5
  have HN4 : Hid (n4 = Po.length) := ho4.1
  have HW5 := Lib.hid hW5
  clear hf4 ho4 hf5 hb5 hW5 MR
  go_wp2_with fail
  rw [← HW5.out]
  refine (AL1.out _ HF5.out).mono ?_
  rintro e w6 ⟨rfl, hf6⟩
  have HF6 := Lib.hid (HF5.out.trans hf6)
  have HB6 := Lib.hid (HB5.out.fr hf6 (fun h => h))
  clear hf6 AL1
  go_wp2_with fail
  refine (AL2.out _ HF6.out).mono ?_
  rintro e w7 ⟨rfl, hf7⟩
  have HF7 := Lib.hid (HF6.out.trans hf7)
  have HB7 := Lib.hid (HB6.out.fr hf7 (fun h => h))
  clear hf7 AL2
  go_wp2_with fail
  refine (PP.out _ HF7.out).mono ?_
  rintro e w8 ⟨b8, rfl, hb8, hf8⟩
  have HF8 := Lib.hid (HF7.out.trans hf8)
  have HB8 := Lib.hid (HB7.out.fr hf8 (fun h => h))
  clear hf8 PP
  cases b8 with
  | false =>
    go_wp2_with fail
    go_ret
    exact ⟨rfl, HF8.out⟩
  | true =>
    have hz : n4 = 0 := by
      have h := HE.out
      rw [par_first HM.out (hb8.1 rfl)] at h
      injection h with h
      injection h with _ h
      injection h with _ h
      rw [HN4.out, h]
      rfl
    subst hz
    have c2 : w8.cell? ⟨w4.heap.size, 2, none⟩ = some (.slice A4 0 c4) := (HB8.out.cell 2).trans rfl
    clear hb8
    go_wp2_with fail
    go_ret
    exact ⟨rfl, HF8.out⟩
end Go.Proofs.YtloecimlimoanaaDoor
