import Derived.Test.YtmpadnnpmbgdcaaNext
namespace Go.Proofs.Ytmpadnnpmbgdcaa
open Go.RowKit Go.ChangeMaps

theorem rdr_cells {w : World} {R q : Nat} {u : List UInt8} {sh k : Nat} (h : Rdr w R q u sh k) :
    w.cell? ⟨R, 2, none⟩ = some (Ptr q) ∧ w.cell? ⟨R, 0, none⟩ = some (S u) ∧ w.cell? ⟨R, 3, none⟩ = some (.int .i64 sh) ∧ w.cell? ⟨R, 1, none⟩ = some (.int .i64 k) ∧
    (∀ i, w.frozen? ⟨R, i, none⟩ = false) :=
  ⟨(h.cell 2).trans rfl, (h.cell 0).trans rfl, (h.cell 3).trans rfl, (h.cell 1).trans rfl, h.frozen⟩

theorem Left.start {w : World} {R q m : Nat} {ps : List Nat} {D : List Ty} {u : List UInt8} {sh k : Nat} (hP : Pool w q m ps D) (hR : Rdr w R q u sh k) : Left w R q m ps D u sh w ps D u k :=
  ⟨hP, Grew.refl _ _ _, hR, Fr.refl _ _, Nat.le_refl _⟩

theorem Pool.drew {w : World} {q m : Nat} {ps : List Nat} {D : List Ty} (h : Pool w q m ps D) : Pool w.drew q m ps D := h.keep fun _ _ _ => rfl
theorem Left.drew {w w1 : World} {R q m : Nat} {ps ps1 : List Nat} {D D1 : List Ty} {u u1 : List UInt8} {sh k1 : Nat}
    (h : Left w R q m ps D u sh w1 ps1 D1 u1 k1) : Left w R q m ps D u sh w1.drew ps1 D1 u1 k1 := ⟨h.pool.drew, h.grew, h.rdr, h.fr.drew, h.len⟩

/-- one atom more is counted -/
theorem Left.count {w w1 : World} {R q m : Nat} {ps ps1 : List Nat} {D D1 : List Ty} {u u1 : List UInt8} {sh k1 k2 : Nat}
    (h : Left w R q m ps D u sh w1 ps1 D1 u1 k1) : Left w R q m ps D u sh (w1.setCell ⟨R, 1, none⟩ (.int .i64 k2)) ps1 D1 u1 k2 :=
  ⟨h.pool.setR h.rdr 1 _, h.grew, by have := Blk.set_ h.rdr 1 (.int .i64 k2); exact this, h.fr.setCell (.inl (.inr rfl)) _, h.len⟩

theorem hasPrefix_three (a b c : UInt8) (u : List UInt8) : Lib.hasPrefix (a :: b :: c :: u) [a, b, c] = true ∧ Lib.trimPrefix (a :: b :: c :: u) [a, b, c] = u := by
  simp [Lib.hasPrefix, Lib.trimPrefix]

theorem hasPrefix_three_not (a b c : UInt8) (u : List UInt8) (h : ∀ r, u ≠ a :: b :: c :: r) : Lib.hasPrefix u [a, b, c] = false ∧ Lib.trimPrefix u [a, b, c] = u := by
  have : Lib.hasPrefix u [a, b, c] = false := by
    rw [Bool.eq_false_iff]
    intro hp
    unfold Lib.hasPrefix at hp
    obtain ⟨r, hr⟩ := List.isPrefixOf_iff_prefix.1 hp
    exact h r (by rw [← hr]; rfl)
  exact ⟨this, by simp [Lib.trimPrefix, this]⟩

/-- What stands at the front of a type's text. -/
theorem Ty.Rd.front {u : List UInt8} {k : Nat} {t : Ty} {r : List UInt8} (h : Ty.Rd u k t r) : k + 1 ≤ 40 ∧ ((∃ i, i < 25 ∧ t = .v i ∧ u = Ty.letter i :: r) ∨ (t = .o ∧ u = 111 :: r) ∨
    ∃ f a b, t = .n f a b ∧ u = 40 :: Ty.sign f :: 32 :: (a.text ++ 32 :: (b.text ++ 41 :: r)) ∧ Rd2 (a.text ++ 32 :: (b.text ++ 41 :: r)) (k + 1) a b r) := by
  obtain ⟨h1, h2, h3⟩ := h
  have hp := Ty.size_pos t
  refine ⟨by omega, ?_⟩
  cases t with
  | v i => exact .inl ⟨i, h2, rfl, h1⟩
  | o => exact .inr (.inl ⟨rfl, h1⟩)
  | n f a b =>
    refine .inr (.inr ⟨f, a, b, rfl, by rw [h1]; simp [Ty.text], rfl, h2.1, h2.2, ?_⟩)
    simp [Ty.size] at h3; omega

theorem Ty.Rd.of2 {u : List UInt8} {k : Nat} {f : Bool} {a b : Ty} {r : List UInt8} (h : Rd2 u (k + 1) a b r) : Ty.Rd (40 :: Ty.sign f :: 32 :: u) k (.n f a b) r := by
  obtain ⟨rfl, h2, h3, h4⟩ := h
  exact ⟨by simp [Ty.text], ⟨h2, h3⟩, by simp [Ty.size]; omega⟩

theorem next_end (w : World) (R q m : Nat) (ps : List Nat) (D : List Ty) (u : List UInt8) (sh k : Nat) (hP : Pool w q m ps D) (hR : Rdr w R q u sh k) (hk : k ≤ 1000)
    (h : u = [] ∨ 40 < k + 1) :
    Calls Try.prog 63 #[Ptr R] w fun e w' => NextPost w R q m ps D u sh k e w' := by
  obtain ⟨c0, c1, c2, c3, fz⟩ := rdr_cells hR
  have f3 := fz 1
  have hlt := hR.lt
  have b1 : (0 : Int) ≤ k := by omega
  have b2 : (k : Int) ≤ 1000 := by omega
  have hend : NextPost w R q m ps D u sh k (.returned (.pointer none)) (w.setCell ⟨R, 1, none⟩ (.int .i64 ((k : Int) + 1))) := by
    refine ⟨ps, D, u, k + 1, (Left.start hP hR).count, .inr ⟨fun t r hr => ?_, rfl⟩⟩
    have hf := hr.front
    rcases h with rfl | h
    · rcases hf.2 with ⟨_, _, _, e⟩ | ⟨_, e⟩ | ⟨_, _, _, _, e, _⟩ <;> cases e
    · omega
  have HE := Lib.hid hend
  clear hend fz
  by_cases hu : u = []
  · subst hu
    clear h
    go_enter Try.func63, Try.ntmps63
    go_wp2_with fail
    go_ret
    exact HE.out
  · have h40 : 40 < (k : Int) + 1 := by rcases h with h | h; exact absurd h hu; omega
    have hb : decide (40 < (k : Int) + 1) = true := by simpa using h40
    have hs : u.isEmpty = false := by cases u; exact absurd rfl hu; rfl
    clear h
    go_enter Try.func63, Try.ntmps63
    go_wp2_with fail
    go_ret
    exact HE.out

theorem extract_cons (c : UInt8) (u : List UInt8) : (ByteArray.mk (c :: u).toArray).extract 1 (u.length + 1) = ⟨u.toArray⟩ := by
  apply ByteArray.ext
  simp [ByteArray.data_extract]

theorem ix_call (c : UInt8) (u : List UInt8) (h : 0 < (ByteArray.mk (c :: u).toArray).size) (w : World) (v : Int) (hv : Lib.indexByte letters c = v) :
    Calls Try.prog 78 #[.string ⟨#[97, 98, 99, 100, 101, 102, 103, 104, 105, 106, 107, 108, 109, 110, 112, 113, 114, 115, 116, 117, 118, 119, 120, 121, 122]⟩, .int .u8 ((ByteArray.mk (c :: u).toArray)[0]'h).toNat] w
      fun e w' => e = .returned (.int .i64 v) ∧ w = w' := by
  refine (Try.strings_IndexByte _ _ _).mono ?_
  rintro e w' ⟨rfl, rfl⟩
  refine ⟨?_, rfl⟩
  have e1 : ((((ByteArray.mk (c :: u).toArray)[0]'h).toNat : Int)).toNat.toUInt8 = c := by
    rw [Int.toNat_natCast]
    show UInt8.ofNat _ = c
    rw [UInt8.ofNat_toNat]
    rfl
  rw [e1]
  exact congrArg (fun z => Ending.returned (.int .i64 z)) hv

set_option maxRecDepth 100000 in
set_option maxHeartbeats 1000000 in
theorem next_letter (w : World) (R q m : Nat) (ps : List Nat) (D : List Ty) (c : UInt8) (u : List UInt8) (sh k : Nat) (hP : Pool w q m ps D) (hR : Rdr w R q (c :: u) sh k) (hk : k + 1 ≤ 40)
    (hu : u.length ≤ 6000) (hsh : sh ≤ 100) (i : Nat) (hi : i < 25) (hc : c = Ty.letter i) (hx : Lib.indexByte letters c = (i : Int)) :
    Calls Try.prog 63 #[Ptr R] w fun e w' => NextPost w R q m ps D (c :: u) sh k e w' := by
  obtain ⟨c0, c1, c2, c3, fz⟩ := rdr_cells hR
  have f3 := fz 1
  have f1 := fz 0
  have hlt := hR.lt
  have b1 : (0 : Int) ≤ k := by omega
  have b2 : (k : Int) + 1 ≤ 40 := by omega
  have b3 : (0 : Int) ≤ i := by omega
  have b4 : (i : Int) < 25 := by omega
  have b5 : (0 : Int) ≤ sh := by omega
  have b6 : (sh : Int) ≤ 100 := by omega
  have hb : decide (40 < (k : Int) + 1) = false := by simp; omega
  have HX := Lib.hid hx
  have HC := Lib.hid hc
  clear hx hc fz
  go_enter Try.func63, Try.ntmps63
  go_wp2_with fail
  refine (ix_call c u _ _ (i : Int) HX.out).mono ?_
  rintro e w' ⟨rfl, rfl⟩
  go_wp2_with fail
  have hL : Left w R q m ps D (c :: u) sh ((w.setCell ⟨R, 1, none⟩ (.int .i64 ((k : Int) + 1))).setCell ⟨R, 0, none⟩ (S u)) ps D u (k + 1) :=
    ((Left.start hP hR).count (k2 := k + 1)).cut (u2 := u) (by simp)
  rw [extract_cons]
  generalize ((w.setCell ⟨R, 1, none⟩ (.int .i64 ((k : Int) + 1))).setCell ⟨R, 0, none⟩ (S u)) = w2 at hL ⊢
  clear c0 c1 c2 c3 f3 f1 hlt
  obtain ⟨c0, c1, c2, c3, fz⟩ := rdr_cells hL.rdr
  clear fz
  have hw : IntKind.i64.wrap ((sh : Int) + (i : Int)) = ((sh + i : Nat) : Int) := by rw [IntWalk.i64_in _ (by omega)]; omega
  refine wp_region_still_tail 10 (by kernel_rfl) (by kernel_rfl) ?_
  change wpStill _ _ (World.drew _) (fun a' => wpList _ _ _ _ a' (World.drew _)) _ _
  simp only [List.take_succ_cons, List.take_zero, List.drop_succ_cons, List.drop_zero]
  repeat still_step
  refine wpStill_nil ?_
  clear hw
  go_wp2_with fail
  refine (variable_any w2.drew q m ps D (sh + i) ?_).mono ?_
  · exact hL.pool.drew
  rintro e w3 ⟨ps3, D3, p, hm⟩
  obtain rfl := hm.ret
  have hL2 : Left w R q m ps D (c :: u) sh w3 ps3 D3 u (k + 1) := hL.drew.made hm
  go_wp2
  go_ret
  exact ⟨ps3, D3, u, k + 1, hL2, .inl ⟨.v i, p, ⟨by rw [HC.out]; rfl, hi, by simp [Ty.size]; omega⟩, rfl, hm.has, rfl⟩⟩

set_option maxRecDepth 100000 in
set_option maxHeartbeats 1000000 in
theorem next_other (w : World) (R q m : Nat) (ps : List Nat) (D : List Ty) (c : UInt8) (u : List UInt8) (sh k : Nat) (hP : Pool w q m ps D) (hR : Rdr w R q (c :: u) sh k) (hk : k + 1 ≤ 40)
    (hu : u.length + 1 ≤ 6000) (hsh : sh ≤ 100) (hc : ∀ i, i < 25 → c ≠ Ty.letter i) (hx : Lib.indexByte letters c = -1) (hN : ∀ k', k + 1 ≤ k' → k' ≤ 1000 → NextSaid k') :
    Calls Try.prog 63 #[Ptr R] w fun e w' => NextPost w R q m ps D (c :: u) sh k e w' := by
  obtain ⟨c0, c1, c2, c3, fz⟩ := rdr_cells hR
  have f3 := fz 1
  have f1 := fz 0
  have hlt := hR.lt
  have b1 : (0 : Int) ≤ k := by omega
  have b2 : (k : Int) + 1 ≤ 40 := by omega
  have hb : decide (40 < (k : Int) + 1) = false := by simp; omega
  have HX := Lib.hid hx
  have HC := Lib.hid hc
  have HN := Lib.hid hN
  clear hx hc fz hN
  have hL0 : Left w R q m ps D (c :: u) sh (w.setCell ⟨R, 1, none⟩ (.int .i64 ((k : Int) + 1))) ps D (c :: u) (k + 1) := (Left.start hP hR).count (k2 := k + 1)
  go_enter Try.func63, Try.ntmps63
  go_wp2_with fail
  refine (ix_call c u _ _ (-1) HX.out).mono ?_
  rintro e w' ⟨rfl, rfl⟩
  generalize (w.setCell ⟨R, 1, none⟩ (.int .i64 ((k : Int) + 1))) = w1 at hL0 ⊢
  clear c0 c1 c2 c3 f3 f1 hlt b1 b2 hb
  by_cases h111 : c = 111
  · subst h111
    obtain ⟨a1, a2⟩ := hasPrefix_cons 111 u
    have HA := Lib.hid a1
    have HB := Lib.hid a2
    clear a1 a2
    go_wp2_with fail
    refine (skip_any w1 R q (111 :: u) [111] u sh (k + 1) true hL0.rdr HA.out HB.out).mono ?_
    rintro e w2 ⟨rfl, rfl⟩
    have hL1 := hL0.cut (u2 := u) (by simp)
    generalize w1.setCell ⟨R, 0, none⟩ (S u) = w2 at hL1 ⊢
    obtain ⟨c0, c1, c2, c3, fz⟩ := rdr_cells hL1.rdr
    clear fz
    go_wp2_with fail
    refine (truth_any w2 q m ps D hL1.pool).mono ?_
    rintro e w3 ⟨ps3, D3, p, hm⟩
    obtain rfl := hm.ret
    have hL2 := hL1.made hm
    clear c0 c1 c2 c3
    go_wp2
    go_ret
    exact ⟨ps3, D3, u, k + 1, hL2, .inl ⟨.o, p, ⟨rfl, trivial, by simp [Ty.size]; omega⟩, rfl, hm.has, rfl⟩⟩
  · have hn := hasPrefix_not 111 (c :: u) (fun r e => h111 (by injection e))
    have HA := Lib.hid hn.1
    have HB := Lib.hid hn.2
    clear hn
    go_wp2_with fail
    refine (skip_any w1 R q (c :: u) [111] (c :: u) sh (k + 1) false hL0.rdr HA.out HB.out).mono ?_
    rintro e w2 ⟨rfl, rfl⟩
    have hL1 := hL0.cut (u2 := c :: u) (Nat.le_refl _)
    generalize w1.setCell ⟨R, 0, none⟩ (S (c :: u)) = w2 at hL1 ⊢
    by_cases hfun : ∃ u2, c :: u = 40 :: 62 :: 32 :: u2
    · obtain ⟨u2, hu2⟩ := hfun
      obtain ⟨a1, a2⟩ := hasPrefix_three 40 62 32 u2
      rw [← hu2] at a1 a2
      have HA := Lib.hid a1
      have HB := Lib.hid a2
      have HU := Lib.hid hu2
      clear a1 a2 hu2
      go_wp2_with fail
      refine (skip_any w2 R q (c :: u) [40, 62, 32] u2 sh (k + 1) true hL1.rdr HA.out HB.out).mono ?_
      rintro e w3 ⟨rfl, rfl⟩
      have hlen : u2.length ≤ (c :: u).length := by rw [HU.out]; simp; omega
      have hL2 := hL1.cut (u2 := u2) hlen
      have hlen' : u2.length ≤ 6000 := Nat.le_trans hlen (by simpa using hu)
      generalize w2.setCell ⟨R, 0, none⟩ (S u2) = w3 at hL2 ⊢
      go_wp2_with fail
      refine (nextParts_any (k + 1) (by omega) HN.out w3 R q m ps D u2 true sh hL2.pool hL2.rdr hlen' hsh).mono ?_
      rintro e w4 ⟨ps4, D4, u4, k4, hL3, hor⟩
      have hL4 := hL2.trans hL3
      rcases hor with ⟨l, r, p, hrd, hk4, hhas, he⟩ | ⟨hno, he⟩
      · obtain rfl := he
        have HK := Lib.hid hk4
        clear hk4
        go_wp2
        go_ret
        exact ⟨ps4, D4, u4, k4, hL4, .inl ⟨.n true l r, p, by rw [HU.out]; exact Ty.Rd.of2 (f := true) hrd, by rw [HK.out]; simp [Ty.size]; omega, hhas, rfl⟩⟩
      · obtain rfl := he
        go_wp2
        go_ret
        refine ⟨ps4, D4, u4, k4, hL4, .inr ⟨fun t r hr => ?_, rfl⟩⟩
        rcases hr.front.2 with ⟨i, hi, _, e⟩ | ⟨_, e⟩ | ⟨f, a, b, _, e, h2⟩
        · injection e with e; exact HC.out i hi e
        · injection e with e; exact h111 e
        · rw [HU.out] at e
          simp at e
          exact hno a b r (by rw [e.2]; exact h2)
    · have hn := hasPrefix_three_not 40 62 32 (c :: u) (fun r e => hfun ⟨r, e⟩)
      have HA := Lib.hid hn.1
      have HB := Lib.hid hn.2
      clear hn
      go_wp2_with fail
      refine (skip_any w2 R q (c :: u) [40, 62, 32] (c :: u) sh (k + 1) false hL1.rdr HA.out HB.out).mono ?_
      rintro e w3 ⟨rfl, rfl⟩
      have hL2 := hL1.cut (u2 := c :: u) (Nat.le_refl _)
      generalize w2.setCell ⟨R, 0, none⟩ (S (c :: u)) = w3 at hL2 ⊢
      by_cases hpair : ∃ u2, c :: u = 40 :: 42 :: 32 :: u2
      · obtain ⟨u2, hu2⟩ := hpair
        obtain ⟨a1, a2⟩ := hasPrefix_three 40 42 32 u2
        rw [← hu2] at a1 a2
        have HA := Lib.hid a1
        have HB := Lib.hid a2
        have HU := Lib.hid hu2
        clear a1 a2 hu2
        go_wp2_with fail
        refine (skip_any w3 R q (c :: u) [40, 42, 32] u2 sh (k + 1) true hL2.rdr HA.out HB.out).mono ?_
        rintro e w4 ⟨rfl, rfl⟩
        have hlen : u2.length ≤ (c :: u).length := by rw [HU.out]; simp; omega
        have hL3 := hL2.cut (u2 := u2) hlen
        have hlen' : u2.length ≤ 6000 := Nat.le_trans hlen (by simpa using hu)
        generalize w3.setCell ⟨R, 0, none⟩ (S u2) = w4 at hL3 ⊢
        go_wp2_with fail
        refine (nextParts_any (k + 1) (by omega) HN.out w4 R q m ps D u2 false sh hL3.pool hL3.rdr hlen' hsh).mono ?_
        rintro e w5 ⟨ps5, D5, u5, k5, hL4, hor⟩
        have hL5 := hL3.trans hL4
        rcases hor with ⟨l, r, p, hrd, hk5, hhas, he⟩ | ⟨hno, he⟩
        · obtain rfl := he
          have HK := Lib.hid hk5
          clear hk5
          go_wp2
          go_ret
          exact ⟨ps5, D5, u5, k5, hL5, .inl ⟨.n false l r, p, by rw [HU.out]; exact Ty.Rd.of2 (f := false) hrd, by rw [HK.out]; simp [Ty.size]; omega, hhas, rfl⟩⟩
        · obtain rfl := he
          go_wp2
          go_ret
          refine ⟨ps5, D5, u5, k5, hL5, .inr ⟨fun t r hr => ?_, rfl⟩⟩
          rcases hr.front.2 with ⟨i, hi, _, e⟩ | ⟨_, e⟩ | ⟨f, a, b, _, e, h2⟩
          · injection e with e; exact HC.out i hi e
          · injection e with e; exact h111 e
          · rw [HU.out] at e
            simp at e
            exact hno a b r (by rw [e.2]; exact h2)
      · have hn := hasPrefix_three_not 40 42 32 (c :: u) (fun r e => hpair ⟨r, e⟩)
        have HA := Lib.hid hn.1
        have HB := Lib.hid hn.2
        clear hn
        go_wp2_with fail
        refine (skip_any w3 R q (c :: u) [40, 42, 32] (c :: u) sh (k + 1) false hL2.rdr HA.out HB.out).mono ?_
        rintro e w4 ⟨rfl, rfl⟩
        have hL3 := hL2.cut (u2 := c :: u) (Nat.le_refl _)
        generalize w3.setCell ⟨R, 0, none⟩ (S (c :: u)) = w4 at hL3 ⊢
        go_wp2
        go_ret
        refine ⟨ps, D, c :: u, k + 1, hL3, .inr ⟨fun t r hr => ?_, rfl⟩⟩
        rcases hr.front.2 with ⟨i, hi, _, e⟩ | ⟨_, e⟩ | ⟨f, a, b, _, e, h2⟩
        · injection e with e; exact HC.out i hi e
        · injection e with e; exact h111 e
        · cases f
          · exact hpair ⟨_, e⟩
          · exact hfun ⟨_, e⟩

theorem next_any (fuel : Nat) : ∀ k, 41 ≤ k + fuel → k ≤ 1000 → NextSaid k := by
  induction fuel with
  | zero =>
    intro k hk hk' w R q m ps D u sh hP hR _ _
    exact next_end w R q m ps D u sh k hP hR hk' (.inr (by omega))
  | succ n ih =>
    intro k hk hk' w R q m ps D u sh hP hR hu hsh
    by_cases h : u = [] ∨ 40 < k + 1
    · exact next_end w R q m ps D u sh k hP hR hk' h
    · cases u with
      | nil => exact absurd (.inl rfl) h
      | cons c u =>
        have hk1 : k + 1 ≤ 40 := by omega
        simp at hu
        rcases ix_cases c with ⟨i, hi, hc, hx⟩ | ⟨hc, hx⟩
        · exact next_letter w R q m ps D c u sh k hP hR hk1 (by omega) hsh i hi hc hx
        · refine next_other w R q m ps D c u sh k hP hR hk1 (by omega) hsh hc hx fun k' h' h2' => ih k' (by omega) h2'
end Go.Proofs.Ytmpadnnpmbgdcaa
