/- The law RelBack. -/
import Derived.Test.YtkofjodadcchhaaDoorBk1
import Derived.Test.YtkofjodadcchhaaDoorBk2
import Derived.Test.YtkofjodadcchhaaDoorLawRn
namespace Go.Proofs.YtkofjodadcchhaaDoor
open Go.RowKit Go.ChangeMaps Go.Shelf

theorem backO_len (L R : Int) (ps : List Int) : ((backO L R ps).getD (0, 0, [])).2.2.length ≤ 100000 := by
  unfold backO
  split
  · rename_i h
    simp only [Option.getD_some, List.length_map]
    have h1 := pairsOf_len R.toNat L.toNat (fun j i => memR R.toNat ps i j)
    have h2 := h.left
    have h3 := h.right
    have h4 := Nat.mul_le_mul (show R.toNat ≤ 128 by omega) (show L.toNat ≤ 128 by omega)
    omega
  · simp

set_option maxRecDepth 100000 in
set_option maxHeartbeats 8000000 in
theorem lawRelBack (w : World) (HTAB : TZt w) (L R : Int) (A : Option Addr) (n c : Nat) (ps : List Int) (hr : RelIn w L R A n c ps) :
    Calls Tryd.prog 7 #[RV L R A n c] w fun e w' => Yes w e w' := by
  obtain ⟨_, _, rfl, hc, hm, hS, hz⟩ := hr
  have HS := Lib.hid hS
  have HM := Lib.hid hm
  obtain ⟨Lo, Ro, Po, bo, HLEN, SP, IM⟩ : ∃ (Lo Ro : Int) (Po : List Int) (bo : Bool), Hid (Po.length ≤ 100000) ∧ Hid (∀ W g, ISl W (some g) ps → ps.length ≤ 2000000 → Calls Tryd.prog 31 #[RV L R (some g) ps.length ps.length] W fun e w' => AnsC Lo Ro Po bo W e w') ∧ Hid (∀ W g, Fr No w W → ISl W (some g) ps → ps.length ≤ 2000000 → Calls Tryd.prog 33 #[RV L R (some g) ps.length ps.length] W fun e w' => AnsC Lo Ro Po bo W e w') :=
    ⟨((backO L R ps).getD (0, 0, [])).1, ((backO L R ps).getD (0, 0, [])).2.1, ((backO L R ps).getD (0, 0, [])).2.2, (backO L R ps).isSome, backO_len L R ps, fun W g hg hn => specRelBack W L R _ _ ps hg hn, fun W g hf hg hn => implRelBack W L R _ _ ps hg hn (HTAB.fr hf (fun h => h))⟩
  clear HTAB hc hm hS hz
  have F0 : Hid (Fr No w w) := Fr.refl _ _
  have SZ : Hid (∀ W, Calls Tryd.prog 30 #[RV L R A ps.length c, .int .i64 1048576] W fun e w' => SzR ps.length 1048576 W e w') := fun W => szR_any W L R A _ c 1048576 (by omega) (by omega) HM.out
  have ha1 : Fr No w (w.alloc (.cells #[.int .i64 L, .int .i64 R, .slice A ps.length c] 44)) := (Fr.refl No w).alloc _
  have m2 := Lib.hid ha1.size
  have F3 := Lib.hid (F0.out.trans ha1)
  have B4 : Hid (Blk (w.alloc (.cells #[.int .i64 L, .int .i64 R, .slice A ps.length c] 44)) (w.heap.size) 44 #[.int .i64 L, .int .i64 R, .slice A ps.length c]) := Blk.new _ _ _
  clear ha1
  go_enter Tryd.func7, Tryd.ntmps7
  go_wp2_with fail
  generalize (w.alloc (.cells #[.int .i64 L, .int .i64 R, .slice A ps.length c] 44)) = w1 at *
  refine (SZ.out _).mono ?_
  rintro e w2 ⟨left, rfl, l1, l2, l3, hf⟩
  have m5 := Lib.hid hf.size
  have B6 := Lib.hid (B4.out.fr hf (fun h => h))
  have F7 := Lib.hid (F3.out.trans hf)
  clear hf SZ B4 F3
  by_cases hneg : left < 0
  · clear l3
    go_wp2_with fail
    go_ret
    exact ⟨rfl, F7.out⟩
  have hn : ps.length ≤ 1048576 := by have := l3 (by omega); omega
  have HN := Lib.hid hn
  clear l3 hn
  have CP : Hid (∀ W, Fr No w W → Calls Tryd.prog 32 #[RV L R A ps.length c] W fun e w2 => CopyR L R ps W e w2) := fun W hf => toRel_any W L R A ps c (HS.out.keep hf (fun _ h => h.elim)) (by have := HN.out; omega)
  have c8 : World.cell? w2 ⟨w.heap.size, 0, none⟩ = some (.int .i64 L) := (B6.out.cell 0).trans rfl
  have c9 : World.cell? w2 ⟨w.heap.size, 1, none⟩ = some (.int .i64 R) := (B6.out.cell 1).trans rfl
  have c10 : World.cell? w2 ⟨w.heap.size, 2, none⟩ = some (.slice A ps.length c) := (B6.out.cell 2).trans rfl
  go_wp2_with fail
  refine (CP.out _ F7.out).mono ?_
  rintro e w3 ⟨g0, rfl, hb, hf, hown⟩
  have hor : OR w3 (w2.heap.size) (some ⟨g0, 0, none⟩) ps.length ps.length ps := ⟨rfl, hown⟩
  have m11 := Lib.hid hf.size
  have B12 := Lib.hid (B6.out.fr hf (fun h => h))
  have F13 := Lib.hid (F7.out.trans hf)
  have R14 := Lib.hid hor
  have bd15 : Hid (∀ b, Own (some ⟨g0, 0, none⟩) b → w2.heap.size ≤ b ∧ b < (w3).heap.size) := fun b hb => OR.bounds hor hb
  clear hf hb hown hor B6 F7 c8 c9 c10
  go_wp2_with fail
  refine (SP.out _ _ (OR.isl R14.out) (by have := HN.out; omega)).mono ?_
  rintro e w4 ⟨As, ns, cs, rfl, hf, hor⟩
  have m16 := Lib.hid hf.size
  have B17 := Lib.hid (B12.out.fr hf (fun h => h))
  have R18 := Lib.hid (R14.out.fr hf (fun _ _ h => h))
  have F19 := Lib.hid (F13.out.trans hf)
  have R20 := Lib.hid hor
  have bd21 : Hid (∀ b, Own As b → w3.heap.size ≤ b ∧ b < (w4).heap.size) := fun b hb => OR.bounds hor hb
  clear hf hor B12 R14 F13
  have ha22 : Fr No w4 (w4.alloc (.cells #[.int .i64 Lo, .int .i64 Ro, .slice As ns cs] 27)) := (Fr.refl No w4).alloc _
  have m23 := Lib.hid ha22.size
  have B24 := Lib.hid (B17.out.fr ha22 (fun h => h))
  have R25 := Lib.hid (R18.out.fr ha22 (fun _ _ h => h))
  have R26 := Lib.hid (R20.out.fr ha22 (fun _ _ h => h))
  have F27 := Lib.hid (F19.out.trans ha22)
  have B28 : Hid (Blk (w4.alloc (.cells #[.int .i64 Lo, .int .i64 Ro, .slice As ns cs] 27)) (w4.heap.size) 27 #[.int .i64 Lo, .int .i64 Ro, .slice As ns cs]) := Blk.new _ _ _
  clear ha22 B17 R18 R20 F19
  have c29 : World.cell? (w4.alloc (.cells #[.int .i64 Lo, .int .i64 Ro, .slice As ns cs] 27)) ⟨w.heap.size, 0, none⟩ = some (.int .i64 L) := (B24.out.cell 0).trans rfl
  have c30 : World.cell? (w4.alloc (.cells #[.int .i64 Lo, .int .i64 Ro, .slice As ns cs] 27)) ⟨w.heap.size, 1, none⟩ = some (.int .i64 R) := (B24.out.cell 1).trans rfl
  have c31 : World.cell? (w4.alloc (.cells #[.int .i64 Lo, .int .i64 Ro, .slice As ns cs] 27)) ⟨w.heap.size, 2, none⟩ = some (.slice A ps.length c) := (B24.out.cell 2).trans rfl
  go_wp2_with fail
  generalize (w4.alloc (.cells #[.int .i64 Lo, .int .i64 Ro, .slice As ns cs] 27)) = w5 at *
  refine (CP.out _ F27.out).mono ?_
  rintro e w6 ⟨g1, rfl, hb, hf, hown⟩
  have hor : OR w6 (w5.heap.size) (some ⟨g1, 0, none⟩) ps.length ps.length ps := ⟨rfl, hown⟩
  have m32 := Lib.hid hf.size
  have B33 := Lib.hid (B24.out.fr hf (fun h => h))
  have B34 := Lib.hid (B28.out.fr hf (fun h => h))
  have R35 := Lib.hid (R25.out.fr hf (fun _ _ h => h))
  have R36 := Lib.hid (R26.out.fr hf (fun _ _ h => h))
  have F37 := Lib.hid (F27.out.trans hf)
  have R38 := Lib.hid hor
  have bd39 : Hid (∀ b, Own (some ⟨g1, 0, none⟩) b → w5.heap.size ≤ b ∧ b < (w6).heap.size) := fun b hb => OR.bounds hor hb
  clear hf hb hown hor B24 B28 R25 R26 F27 c29 c30 c31
  have ha40 : Fr No w6 (w6.alloc (.cells #[.int .i64 L, .int .i64 R, .slice (some ⟨g1, 0, none⟩) ps.length ps.length] 27)) := (Fr.refl No w6).alloc _
  have m41 := Lib.hid ha40.size
  have B42 := Lib.hid (B33.out.fr ha40 (fun h => h))
  have B43 := Lib.hid (B34.out.fr ha40 (fun h => h))
  have R44 := Lib.hid (R35.out.fr ha40 (fun _ _ h => h))
  have R45 := Lib.hid (R36.out.fr ha40 (fun _ _ h => h))
  have R46 := Lib.hid (R38.out.fr ha40 (fun _ _ h => h))
  have F47 := Lib.hid (F37.out.trans ha40)
  have B48 : Hid (Blk (w6.alloc (.cells #[.int .i64 L, .int .i64 R, .slice (some ⟨g1, 0, none⟩) ps.length ps.length] 27)) (w6.heap.size) 27 #[.int .i64 L, .int .i64 R, .slice (some ⟨g1, 0, none⟩) ps.length ps.length]) := Blk.new _ _ _
  clear ha40 B33 B34 R35 R36 R38 F37
  go_wp2_with fail
  generalize (w6.alloc (.cells #[.int .i64 L, .int .i64 R, .slice (some ⟨g1, 0, none⟩) ps.length ps.length] 27)) = w7 at *
  refine (IM.out _ _ F47.out (OR.isl R46.out) (by have := HN.out; omega)).mono ?_
  rintro e w8 ⟨Ag, ng, cg, rfl, hf, hor⟩
  have m49 := Lib.hid hf.size
  have B50 := Lib.hid (B42.out.fr hf (fun h => h))
  have B51 := Lib.hid (B43.out.fr hf (fun h => h))
  have B52 := Lib.hid (B48.out.fr hf (fun h => h))
  have R53 := Lib.hid (R44.out.fr hf (fun _ _ h => h))
  have R54 := Lib.hid (R45.out.fr hf (fun _ _ h => h))
  have R55 := Lib.hid (R46.out.fr hf (fun _ _ h => h))
  have F56 := Lib.hid (F47.out.trans hf)
  have R57 := Lib.hid hor
  have bd58 : Hid (∀ b, Own Ag b → w7.heap.size ≤ b ∧ b < (w8).heap.size) := fun b hb => OR.bounds hor hb
  clear hf hor B42 B43 B48 R44 R45 R46 F47
  have ha59 : Fr No w8 (w8.alloc (.cells #[.int .i64 Lo, .int .i64 Ro, .slice Ag ng cg] 27)) := (Fr.refl No w8).alloc _
  have m60 := Lib.hid ha59.size
  have B61 := Lib.hid (B50.out.fr ha59 (fun h => h))
  have B62 := Lib.hid (B51.out.fr ha59 (fun h => h))
  have B63 := Lib.hid (B52.out.fr ha59 (fun h => h))
  have R64 := Lib.hid (R53.out.fr ha59 (fun _ _ h => h))
  have R65 := Lib.hid (R54.out.fr ha59 (fun _ _ h => h))
  have R66 := Lib.hid (R55.out.fr ha59 (fun _ _ h => h))
  have R67 := Lib.hid (R57.out.fr ha59 (fun _ _ h => h))
  have F68 := Lib.hid (F56.out.trans ha59)
  have B69 : Hid (Blk (w8.alloc (.cells #[.int .i64 Lo, .int .i64 Ro, .slice Ag ng cg] 27)) (w8.heap.size) 27 #[.int .i64 Lo, .int .i64 Ro, .slice Ag ng cg]) := Blk.new _ _ _
  clear ha59 B50 B51 B52 R53 R54 R55 R57 F56
  have c70 : World.cell? (w8.alloc (.cells #[.int .i64 Lo, .int .i64 Ro, .slice Ag ng cg] 27)) ⟨w4.heap.size, 0, none⟩ = some (.int .i64 Lo) := (B62.out.cell 0).trans rfl
  have c71 : World.cell? (w8.alloc (.cells #[.int .i64 Lo, .int .i64 Ro, .slice Ag ng cg] 27)) ⟨w4.heap.size, 1, none⟩ = some (.int .i64 Ro) := (B62.out.cell 1).trans rfl
  have c72 : World.cell? (w8.alloc (.cells #[.int .i64 Lo, .int .i64 Ro, .slice Ag ng cg] 27)) ⟨w4.heap.size, 2, none⟩ = some (.slice As ns cs) := (B62.out.cell 2).trans rfl
  go_wp2_with fail
  generalize (w8.alloc (.cells #[.int .i64 Lo, .int .i64 Ro, .slice Ag ng cg] 27)) = w9 at *
  have hEQ : Calls Tryd.prog 24 #[RV Lo Ro Ag ng cg, RV Lo Ro As ns cs] w9 fun e w' => e = .returned (.bool true) ∧ Fr No w9 w' := by
    rw [R67.out.1, R65.out.1]
    refine (eqRel_any w9 Lo Ro Lo Ro Ag As Po Po cg cs (OR.isl R67.out) (OR.isl R65.out) (by have := HLEN.out; omega) (by have := HLEN.out; omega)).mono ?_
    rintro e w' ⟨b, rfl, hb, hf⟩
    obtain rfl : b = true := hb.2 ⟨rfl, rfl, rfl⟩
    exact ⟨rfl, hf⟩
  have HEQ := Lib.hid hEQ
  clear hEQ
  refine (HEQ.out).mono ?_
  rintro e w10 ⟨rfl, hf⟩
  have m73 := Lib.hid hf.size
  have B74 := Lib.hid (B61.out.fr hf (fun h => h))
  have B75 := Lib.hid (B62.out.fr hf (fun h => h))
  have B76 := Lib.hid (B63.out.fr hf (fun h => h))
  have B77 := Lib.hid (B69.out.fr hf (fun h => h))
  have R78 := Lib.hid (R64.out.fr hf (fun _ _ h => h))
  have R79 := Lib.hid (R65.out.fr hf (fun _ _ h => h))
  have R80 := Lib.hid (R66.out.fr hf (fun _ _ h => h))
  have R81 := Lib.hid (R67.out.fr hf (fun _ _ h => h))
  have F82 := Lib.hid (F68.out.trans hf)
  clear hf HEQ B61 B62 B63 B69 R64 R65 R66 R67 F68 c70 c71 c72
  have c83 : World.cell? w10 ⟨w6.heap.size, 0, none⟩ = some (.int .i64 L) := (B76.out.cell 0).trans rfl
  have c84 : World.cell? w10 ⟨w6.heap.size, 1, none⟩ = some (.int .i64 R) := (B76.out.cell 1).trans rfl
  have c85 : World.cell? w10 ⟨w6.heap.size, 2, none⟩ = some (.slice (some ⟨g1, 0, none⟩) ps.length ps.length) := (B76.out.cell 2).trans rfl
  have c86 : World.cell? w10 ⟨w.heap.size, 0, none⟩ = some (.int .i64 L) := (B74.out.cell 0).trans rfl
  have c87 : World.cell? w10 ⟨w.heap.size, 1, none⟩ = some (.int .i64 R) := (B74.out.cell 1).trans rfl
  have c88 : World.cell? w10 ⟨w.heap.size, 2, none⟩ = some (.slice A ps.length c) := (B74.out.cell 2).trans rfl
  have CC : Hid (∀ W, Fr No w10 W → W.cell? ⟨w6.heap.size, 0, none⟩ = some (.int .i64 L) ∧ W.cell? ⟨w6.heap.size, 1, none⟩ = some (.int .i64 R) ∧ W.cell? ⟨w6.heap.size, 2, none⟩ = some (.slice (some ⟨g1, 0, none⟩) ps.length ps.length) ∧ W.cell? ⟨w.heap.size, 0, none⟩ = some (.int .i64 L) ∧ W.cell? ⟨w.heap.size, 1, none⟩ = some (.int .i64 R) ∧ W.cell? ⟨w.heap.size, 2, none⟩ = some (.slice A ps.length c)) := fun W hf => ⟨((B76.out.fr hf (fun h => h)).cell 0).trans rfl, ((B76.out.fr hf (fun h => h)).cell 1).trans rfl, ((B76.out.fr hf (fun h => h)).cell 2).trans rfl, ((B74.out.fr hf (fun h => h)).cell 0).trans rfl, ((B74.out.fr hf (fun h => h)).cell 1).trans rfl, ((B74.out.fr hf (fun h => h)).cell 2).trans rfl⟩
  have hD : Fr No w10 w10.drew := (Fr.refl _ _).drew
  have CP5 : Hid (∀ W, Fr No w10 W → Calls Tryd.prog 32 #[RV L R A ps.length c] W fun e w2 => ∃ g, e = .returned (RV L R (some ⟨g, 0, none⟩) ps.length ps.length) ∧ Fr No w10 w2 ∧ ISl w2 (some ⟨g, 0, none⟩) ps) := fun W hf => (CP.out W (F82.out.trans hf)).mono (by
    rintro e w2 ⟨g, h1, _, h2, h3⟩
    exact ⟨g, h1, hf.trans h2, ISl.of_own h3⟩)
  have EQ5 : Hid (∀ W g', Fr No w10 W → ISl W (some ⟨g', 0, none⟩) ps → Calls Tryd.prog 24 #[RV L R (some ⟨g1, 0, none⟩) ps.length ps.length, RV L R (some ⟨g', 0, none⟩) ps.length ps.length] W fun e w2 => e = .returned (.bool true) ∧ Fr No w10 w2) := fun W g' hf hg => (eqRel_any W L R L R _ _ ps ps _ _ (OR.isl (R80.out.no hf)) hg (by have := HN.out; omega) (by have := HN.out; omega)).mono (by
    rintro e w2 ⟨b, rfl, hb, hf2⟩
    obtain rfl : b = true := hb.2 ⟨rfl, rfl, rfl⟩
    exact ⟨rfl, hf.trans hf2⟩)
  go_wp2_with fail
  go_region_held3 (fun w' => w'.cell? ⟨w6.heap.size, 0, none⟩ = some (.int .i64 L) ∧ w'.cell? ⟨w6.heap.size, 1, none⟩ = some (.int .i64 R) ∧ w'.cell? ⟨w6.heap.size, 2, none⟩ = some (.slice (some ⟨g1, 0, none⟩) ps.length ps.length) ∧ w'.cell? ⟨w.heap.size, 0, none⟩ = some (.int .i64 L) ∧ w'.cell? ⟨w.heap.size, 1, none⟩ = some (.int .i64 R) ∧ w'.cell? ⟨w.heap.size, 2, none⟩ = some (.slice A ps.length c)) (go_keep)
    (first | (go_at_call 32; ((with_reducible refine (CP5.out _ hD).mono ?_); rintro e wq6 ⟨g6, rfl, s6, i6⟩; obtain ⟨z0, z1, z2, z3, z4, z5⟩ := CC.out wq6 s6)) | (go_at_call 24; ((with_reducible refine (EQ5.out _ _ s6 i6).mono ?_); rintro e wq7 ⟨rfl, s7⟩; obtain ⟨p0, p1, p2, p3, p4, p5⟩ := CC.out wq7 s7)))
  have m89 := Lib.hid s7.size
  have B90 := Lib.hid (B74.out.fr s7 (fun h => h))
  have B91 := Lib.hid (B75.out.fr s7 (fun h => h))
  have B92 := Lib.hid (B76.out.fr s7 (fun h => h))
  have B93 := Lib.hid (B77.out.fr s7 (fun h => h))
  have R94 := Lib.hid (R78.out.fr s7 (fun _ _ h => h))
  have R95 := Lib.hid (R79.out.fr s7 (fun _ _ h => h))
  have R96 := Lib.hid (R80.out.fr s7 (fun _ _ h => h))
  have R97 := Lib.hid (R81.out.fr s7 (fun _ _ h => h))
  have F98 := Lib.hid (F82.out.trans s7)
  clear s7 B74 B75 B76 B77 R78 R79 R80 R81 F82 c83 c84 c85 c86 c87 c88 z0 z1 z2 z3 z4 z5 p0 p1 p2 p3 p4 p5 CC CP5 EQ5 hD s6 i6
  generalize wq7 = w11 at *
  have c99 : World.cell? w11 ⟨w6.heap.size, 0, none⟩ = some (.int .i64 L) := (B92.out.cell 0).trans rfl
  have c100 : World.cell? w11 ⟨w6.heap.size, 1, none⟩ = some (.int .i64 R) := (B92.out.cell 1).trans rfl
  have c101 : World.cell? w11 ⟨w6.heap.size, 2, none⟩ = some (.slice (some ⟨g1, 0, none⟩) ps.length ps.length) := (B92.out.cell 2).trans rfl
  go_wp2_with fail
  refine (markR_any _ _ L R (some ⟨g1, 0, none⟩) _ _ 1 _ (by decide) (by have := HN.out; omega) R96.out).mono ?_
  rintro e w12 ⟨rfl, hf, hor⟩
  have m102 := Lib.hid hf.size
  have B103 := Lib.hid (B90.out.fr hf (R96.out.other B90.out (by decide)))
  have B104 := Lib.hid (B91.out.fr hf (R96.out.other B91.out (by decide)))
  have B105 := Lib.hid (B92.out.fr hf (R96.out.other B92.out (by decide)))
  have B106 := Lib.hid (B93.out.fr hf (R96.out.other B93.out (by decide)))
  have R107 := Lib.hid (R94.out.fr hf (fun b h1 h2 => by have e1 := bd15.out b h1; have e2 := bd39.out b h2; have := m2.out; have := m5.out; have := m11.out; have := m16.out; have := m23.out; have := m32.out; have := m41.out; have := m49.out; have := m60.out; have := m73.out; have := m89.out; omega))
  have R108 := Lib.hid (R95.out.fr hf (fun b h1 h2 => by have e1 := bd21.out b h1; have e2 := bd39.out b h2; have := m2.out; have := m5.out; have := m11.out; have := m16.out; have := m23.out; have := m32.out; have := m41.out; have := m49.out; have := m60.out; have := m73.out; have := m89.out; omega))
  have R109 := Lib.hid (R97.out.fr hf (fun b h1 h2 => by have e1 := bd58.out b h1; have e2 := bd39.out b h2; have := m2.out; have := m5.out; have := m11.out; have := m16.out; have := m23.out; have := m32.out; have := m41.out; have := m49.out; have := m60.out; have := m73.out; have := m89.out; omega))
  have F110 := Lib.hid (F98.out.then_ hf (fun b hb h => by have e1 := bd39.out b h; have := m2.out; have := m5.out; have := m11.out; have := m16.out; have := m23.out; have := m32.out; have := m41.out; have := m49.out; have := m60.out; have := m73.out; have := m89.out; omega))
  clear hf hor B90 B91 B92 B93 R94 R95 R97 F98 c99 c100 c101
  have hk1 : ¬ (((1 + ps.length : Nat) : Int) < 0) := by omega
  have c111 : World.cell? w12 ⟨w8.heap.size, 0, none⟩ = some (.int .i64 Lo) := (B106.out.cell 0).trans rfl
  have c112 : World.cell? w12 ⟨w8.heap.size, 1, none⟩ = some (.int .i64 Ro) := (B106.out.cell 1).trans rfl
  have c113 : World.cell? w12 ⟨w8.heap.size, 2, none⟩ = some (.slice Ag ng cg) := (B106.out.cell 2).trans rfl
  have c114 : World.cell? w12 ⟨w4.heap.size, 0, none⟩ = some (.int .i64 Lo) := (B104.out.cell 0).trans rfl
  have c115 : World.cell? w12 ⟨w4.heap.size, 1, none⟩ = some (.int .i64 Ro) := (B104.out.cell 1).trans rfl
  have c116 : World.cell? w12 ⟨w4.heap.size, 2, none⟩ = some (.slice As ns cs) := (B104.out.cell 2).trans rfl
  go_wp2_with fail
  have hEQ : Calls Tryd.prog 24 #[RV Lo Ro Ag ng cg, RV Lo Ro As ns cs] w12 fun e w' => e = .returned (.bool true) ∧ Fr No w12 w' := by
    rw [R109.out.1, R108.out.1]
    refine (eqRel_any w12 Lo Ro Lo Ro Ag As Po Po cg cs (OR.isl R109.out) (OR.isl R108.out) (by have := HLEN.out; omega) (by have := HLEN.out; omega)).mono ?_
    rintro e w' ⟨b, rfl, hb, hf⟩
    obtain rfl : b = true := hb.2 ⟨rfl, rfl, rfl⟩
    exact ⟨rfl, hf⟩
  have HEQ := Lib.hid hEQ
  clear hEQ
  refine (HEQ.out).mono ?_
  rintro e w13 ⟨rfl, hf⟩
  have m117 := Lib.hid hf.size
  have B118 := Lib.hid (B103.out.fr hf (fun h => h))
  have B119 := Lib.hid (B104.out.fr hf (fun h => h))
  have B120 := Lib.hid (B105.out.fr hf (fun h => h))
  have B121 := Lib.hid (B106.out.fr hf (fun h => h))
  have R122 := Lib.hid (R107.out.fr hf (fun _ _ h => h))
  have R123 := Lib.hid (R108.out.fr hf (fun _ _ h => h))
  have R124 := Lib.hid (R109.out.fr hf (fun _ _ h => h))
  have F125 := Lib.hid (F110.out.trans hf)
  clear hf HEQ B103 B104 B105 B106 R107 R108 R109 F110 hk1 c111 c112 c113 c114 c115 c116
  have c126 : World.cell? w13 ⟨w8.heap.size, 0, none⟩ = some (.int .i64 Lo) := (B121.out.cell 0).trans rfl
  have c127 : World.cell? w13 ⟨w8.heap.size, 1, none⟩ = some (.int .i64 Ro) := (B121.out.cell 1).trans rfl
  have c128 : World.cell? w13 ⟨w8.heap.size, 2, none⟩ = some (.slice Ag ng cg) := (B121.out.cell 2).trans rfl
  go_wp2_with fail
  refine (markR_any _ _ Lo Ro Ag _ _ 1 _ (by decide) (by have := HLEN.out; have := R124.out.1; omega) R124.out).mono ?_
  rintro e w14 ⟨rfl, hf, hor⟩
  have HNR : Hid (ng ≤ 1048576) := by have := HLEN.out; have := R124.out.1; show _ ≤ _; omega
  have m129 := Lib.hid hf.size
  have B130 := Lib.hid (B118.out.fr hf (R124.out.other B118.out (by decide)))
  have B131 := Lib.hid (B119.out.fr hf (R124.out.other B119.out (by decide)))
  have B132 := Lib.hid (B120.out.fr hf (R124.out.other B120.out (by decide)))
  have B133 := Lib.hid (B121.out.fr hf (R124.out.other B121.out (by decide)))
  have R134 := Lib.hid (R122.out.fr hf (fun b h1 h2 => by have e1 := bd15.out b h1; have e2 := bd58.out b h2; have := m2.out; have := m5.out; have := m11.out; have := m16.out; have := m23.out; have := m32.out; have := m41.out; have := m49.out; have := m60.out; have := m73.out; have := m89.out; have := m102.out; have := m117.out; omega))
  have R135 := Lib.hid (R123.out.fr hf (fun b h1 h2 => by have e1 := bd21.out b h1; have e2 := bd58.out b h2; have := m2.out; have := m5.out; have := m11.out; have := m16.out; have := m23.out; have := m32.out; have := m41.out; have := m49.out; have := m60.out; have := m73.out; have := m89.out; have := m102.out; have := m117.out; omega))
  have F136 := Lib.hid (F125.out.then_ hf (fun b hb h => by have e1 := bd58.out b h; have := m2.out; have := m5.out; have := m11.out; have := m16.out; have := m23.out; have := m32.out; have := m41.out; have := m49.out; have := m60.out; have := m73.out; have := m89.out; have := m102.out; have := m117.out; omega))
  have R137 := Lib.hid hor
  clear hf hor B118 B119 B120 B121 R122 R123 F125 R124 c126 c127 c128
  have c138 : World.cell? w14 ⟨w8.heap.size, 0, none⟩ = some (.int .i64 Lo) := (B133.out.cell 0).trans rfl
  have c139 : World.cell? w14 ⟨w8.heap.size, 1, none⟩ = some (.int .i64 Ro) := (B133.out.cell 1).trans rfl
  have c140 : World.cell? w14 ⟨w8.heap.size, 2, none⟩ = some (.slice Ag ng cg) := (B133.out.cell 2).trans rfl
  go_wp2_with fail
  refine (heldR_any _ _ Lo Ro Ag _ _ 1 (by decide) (by have := HNR.out; omega) R137.out).mono ?_
  rintro e w15 ⟨rfl, hf⟩
  have m141 := Lib.hid hf.size
  have B142 := Lib.hid (B130.out.fr hf (fun h => h))
  have B143 := Lib.hid (B131.out.fr hf (fun h => h))
  have B144 := Lib.hid (B132.out.fr hf (fun h => h))
  have B145 := Lib.hid (B133.out.fr hf (fun h => h))
  have R146 := Lib.hid (R134.out.fr hf (fun _ _ h => h))
  have R147 := Lib.hid (R135.out.fr hf (fun _ _ h => h))
  have R148 := Lib.hid (R137.out.fr hf (fun _ _ h => h))
  have F149 := Lib.hid (F136.out.trans hf)
  clear hf B130 B131 B132 B133 R134 R135 R137 F136 c138 c139 c140
  have hq : ¬ (((1 + ng : Nat) : Int) < 0) := by omega
  have c150 : World.cell? w15 ⟨w.heap.size, 0, none⟩ = some (.int .i64 L) := (B142.out.cell 0).trans rfl
  have c151 : World.cell? w15 ⟨w.heap.size, 1, none⟩ = some (.int .i64 R) := (B142.out.cell 1).trans rfl
  have c152 : World.cell? w15 ⟨w.heap.size, 2, none⟩ = some (.slice A ps.length c) := (B142.out.cell 2).trans rfl
  go_wp2_with fail
  clear hq c150 c151 c152
  refine (CP.out _ F149.out).mono ?_
  rintro e w16 ⟨g2, rfl, hb, hf, hown⟩
  have hor : OR w16 (w15.heap.size) (some ⟨g2, 0, none⟩) ps.length ps.length ps := ⟨rfl, hown⟩
  have m153 := Lib.hid hf.size
  have B154 := Lib.hid (B142.out.fr hf (fun h => h))
  have B155 := Lib.hid (B143.out.fr hf (fun h => h))
  have B156 := Lib.hid (B144.out.fr hf (fun h => h))
  have B157 := Lib.hid (B145.out.fr hf (fun h => h))
  have R158 := Lib.hid (R146.out.fr hf (fun _ _ h => h))
  have R159 := Lib.hid (R147.out.fr hf (fun _ _ h => h))
  have R160 := Lib.hid (R148.out.fr hf (fun _ _ h => h))
  have F161 := Lib.hid (F149.out.trans hf)
  have R162 := Lib.hid hor
  have bd163 : Hid (∀ b, Own (some ⟨g2, 0, none⟩) b → w15.heap.size ≤ b ∧ b < (w16).heap.size) := fun b hb => OR.bounds hor hb
  clear hf hb hown hor B142 B143 B144 B145 R146 R147 R148 F149
  go_wp2_with fail
  refine (IM.out _ _ F161.out (OR.isl R162.out) (by have := HN.out; omega)).mono ?_
  rintro e w17 ⟨Ah, nh, ch, rfl, hf, hor⟩
  have m164 := Lib.hid hf.size
  have B165 := Lib.hid (B154.out.fr hf (fun h => h))
  have B166 := Lib.hid (B155.out.fr hf (fun h => h))
  have B167 := Lib.hid (B156.out.fr hf (fun h => h))
  have B168 := Lib.hid (B157.out.fr hf (fun h => h))
  have R169 := Lib.hid (R158.out.fr hf (fun _ _ h => h))
  have R170 := Lib.hid (R159.out.fr hf (fun _ _ h => h))
  have R171 := Lib.hid (R160.out.fr hf (fun _ _ h => h))
  have R172 := Lib.hid (R162.out.fr hf (fun _ _ h => h))
  have F173 := Lib.hid (F161.out.trans hf)
  have R174 := Lib.hid hor
  have bd175 : Hid (∀ b, Own Ah b → w16.heap.size ≤ b ∧ b < (w17).heap.size) := fun b hb => OR.bounds hor hb
  clear hf hor B154 B155 B156 B157 R158 R159 R160 R162 F161
  have ha176 : Fr No w17 (w17.alloc (.cells #[.int .i64 Lo, .int .i64 Ro, .slice Ah nh ch] 27)) := (Fr.refl No w17).alloc _
  have m177 := Lib.hid ha176.size
  have B178 := Lib.hid (B165.out.fr ha176 (fun h => h))
  have B179 := Lib.hid (B166.out.fr ha176 (fun h => h))
  have B180 := Lib.hid (B167.out.fr ha176 (fun h => h))
  have B181 := Lib.hid (B168.out.fr ha176 (fun h => h))
  have R182 := Lib.hid (R169.out.fr ha176 (fun _ _ h => h))
  have R183 := Lib.hid (R170.out.fr ha176 (fun _ _ h => h))
  have R184 := Lib.hid (R171.out.fr ha176 (fun _ _ h => h))
  have R185 := Lib.hid (R172.out.fr ha176 (fun _ _ h => h))
  have R186 := Lib.hid (R174.out.fr ha176 (fun _ _ h => h))
  have F187 := Lib.hid (F173.out.trans ha176)
  have B188 : Hid (Blk (w17.alloc (.cells #[.int .i64 Lo, .int .i64 Ro, .slice Ah nh ch] 27)) (w17.heap.size) 27 #[.int .i64 Lo, .int .i64 Ro, .slice Ah nh ch]) := Blk.new _ _ _
  clear ha176 B165 B166 B167 B168 R169 R170 R171 R172 R174 F173
  have c189 : World.cell? (w17.alloc (.cells #[.int .i64 Lo, .int .i64 Ro, .slice Ah nh ch] 27)) ⟨w4.heap.size, 0, none⟩ = some (.int .i64 Lo) := (B179.out.cell 0).trans rfl
  have c190 : World.cell? (w17.alloc (.cells #[.int .i64 Lo, .int .i64 Ro, .slice Ah nh ch] 27)) ⟨w4.heap.size, 1, none⟩ = some (.int .i64 Ro) := (B179.out.cell 1).trans rfl
  have c191 : World.cell? (w17.alloc (.cells #[.int .i64 Lo, .int .i64 Ro, .slice Ah nh ch] 27)) ⟨w4.heap.size, 2, none⟩ = some (.slice As ns cs) := (B179.out.cell 2).trans rfl
  go_wp2_with fail
  generalize (w17.alloc (.cells #[.int .i64 Lo, .int .i64 Ro, .slice Ah nh ch] 27)) = w18 at *
  have hEQ : Calls Tryd.prog 24 #[RV Lo Ro Ah nh ch, RV Lo Ro As ns cs] w18 fun e w' => e = .returned (.bool true) ∧ Fr No w18 w' := by
    rw [R186.out.1, R183.out.1]
    refine (eqRel_any w18 Lo Ro Lo Ro Ah As Po Po ch cs (OR.isl R186.out) (OR.isl R183.out) (by have := HLEN.out; omega) (by have := HLEN.out; omega)).mono ?_
    rintro e w' ⟨b, rfl, hb, hf⟩
    obtain rfl : b = true := hb.2 ⟨rfl, rfl, rfl⟩
    exact ⟨rfl, hf⟩
  have HEQ := Lib.hid hEQ
  clear hEQ
  refine (HEQ.out).mono ?_
  rintro e w19 ⟨rfl, hf⟩
  have m192 := Lib.hid hf.size
  have B193 := Lib.hid (B178.out.fr hf (fun h => h))
  have B194 := Lib.hid (B179.out.fr hf (fun h => h))
  have B195 := Lib.hid (B180.out.fr hf (fun h => h))
  have B196 := Lib.hid (B181.out.fr hf (fun h => h))
  have B197 := Lib.hid (B188.out.fr hf (fun h => h))
  have R198 := Lib.hid (R182.out.fr hf (fun _ _ h => h))
  have R199 := Lib.hid (R183.out.fr hf (fun _ _ h => h))
  have R200 := Lib.hid (R184.out.fr hf (fun _ _ h => h))
  have R201 := Lib.hid (R185.out.fr hf (fun _ _ h => h))
  have R202 := Lib.hid (R186.out.fr hf (fun _ _ h => h))
  have F203 := Lib.hid (F187.out.trans hf)
  clear hf HEQ B178 B179 B180 B181 B188 R182 R183 R184 R185 R186 F187 c189 c190 c191
  have c204 : World.cell? w19 ⟨w8.heap.size, 0, none⟩ = some (.int .i64 Lo) := (B196.out.cell 0).trans rfl
  have c205 : World.cell? w19 ⟨w8.heap.size, 1, none⟩ = some (.int .i64 Ro) := (B196.out.cell 1).trans rfl
  have c206 : World.cell? w19 ⟨w8.heap.size, 2, none⟩ = some (.slice Ag ng cg) := (B196.out.cell 2).trans rfl
  go_wp2_with fail
  refine (heldR_any _ _ Lo Ro Ag _ _ 1 (by decide) (by have := HNR.out; omega) R200.out).mono ?_
  rintro e w20 ⟨rfl, hf⟩
  have m207 := Lib.hid hf.size
  have B208 := Lib.hid (B193.out.fr hf (fun h => h))
  have B209 := Lib.hid (B194.out.fr hf (fun h => h))
  have B210 := Lib.hid (B195.out.fr hf (fun h => h))
  have B211 := Lib.hid (B196.out.fr hf (fun h => h))
  have B212 := Lib.hid (B197.out.fr hf (fun h => h))
  have R213 := Lib.hid (R198.out.fr hf (fun _ _ h => h))
  have R214 := Lib.hid (R199.out.fr hf (fun _ _ h => h))
  have R215 := Lib.hid (R200.out.fr hf (fun _ _ h => h))
  have R216 := Lib.hid (R201.out.fr hf (fun _ _ h => h))
  have R217 := Lib.hid (R202.out.fr hf (fun _ _ h => h))
  have F218 := Lib.hid (F203.out.trans hf)
  clear hf B193 B194 B195 B196 B197 R198 R199 R200 R201 R202 F203 c204 c205 c206
  have hq : ¬ (((1 + ng : Nat) : Int) < 0) := by omega
  go_wp2_with fail
  go_ret
  exact ⟨rfl, F218.out⟩
end Go.Proofs.YtkofjodadcchhaaDoor
