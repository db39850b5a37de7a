/- The law RelFun. -/
import Derived.Test.YtkofjodadcchhaaDoorRfun2
namespace Go.Proofs.YtkofjodadcchhaaDoor
open Go.RowKit Go.ChangeMaps Go.Shelf

def AnsIC (Po : List Int) (bo : Bool) (w : World) (e : Ending) (w' : World) : Prop := ∃ A n c, e = .returned (.tuple #[.slice A n c, .bool bo]) ∧ Fr No w w' ∧ OR w' w.heap.size A n c Po

theorem funO_len (L R : Int) (ps : List Int) : ((funO L R ps).getD []).length ≤ 100000 := by
  unfold funO
  split
  · rename_i h
    simp only [Option.getD_some, List.length_map]
    have h1 := h.2.1
    have h2 := h.1.left
    omega
  · simp

set_option maxRecDepth 100000 in
set_option maxHeartbeats 8000000 in
theorem lawRelFun (w : World) (HTAB : TZt w) (L R : Int) (A : Option Addr) (n c : Nat) (ps : List Int) (hr : RelIn w L R A n c ps) :
    Calls Tryd.prog 9 #[RV L R A n c] w fun e w' => Yes w e w' := by
  obtain ⟨_, _, rfl, hc, hm, hS, hz⟩ := hr
  have HS := Lib.hid hS
  have HM := Lib.hid hm
  obtain ⟨Po, bo, HLEN, SP, IM⟩ : ∃ (Po : List Int) (bo : Bool), Hid (Po.length ≤ 100000) ∧ Hid (∀ W g, ISl W (some g) ps → ps.length ≤ 2000000 → Calls Tryd.prog 21 #[RV L R (some g) ps.length ps.length] W fun e w' => AnsIC Po bo W e w') ∧ Hid (∀ W g, Fr No w W → ISl W (some g) ps → ps.length ≤ 2000000 → Calls Tryd.prog 17 #[RV L R (some g) ps.length ps.length] W fun e w' => AnsIC Po bo W e w') :=
    ⟨(funO L R ps).getD [], (funO L R ps).isSome, funO_len L R ps, fun W g hg hn => specRelFun W L R _ _ ps hg hn, fun W g hf hg hn => implRelFun W L R _ _ ps hg hn (HTAB.fr hf (fun h => h))⟩
  clear HTAB hc hm hS hz
  have F0 : Hid (Fr No w w) := Fr.refl _ _
  have SZ : Hid (∀ W, Calls Tryd.prog 30 #[RV L R A ps.length c, .int .i64 1048576] W fun e w' => SzR ps.length 1048576 W e w') := fun W => szR_any W L R A _ c 1048576 (by omega) (by omega) HM.out
  have ha1 : Fr No w (w.alloc (.cells #[.int .i64 L, .int .i64 R, .slice A ps.length c] 44)) := (Fr.refl No w).alloc _
  have m2 := Lib.hid ha1.size
  have F3 := Lib.hid (F0.out.trans ha1)
  have B4 : Hid (Blk (w.alloc (.cells #[.int .i64 L, .int .i64 R, .slice A ps.length c] 44)) (w.heap.size) 44 #[.int .i64 L, .int .i64 R, .slice A ps.length c]) := Blk.new _ _ _
  clear ha1
  go_enter Tryd.func9, Tryd.ntmps9
  go_wp2_with fail
  generalize (w.alloc (.cells #[.int .i64 L, .int .i64 R, .slice A ps.length c] 44)) = w1 at *
  refine (SZ.out _).mono ?_
  rintro e w2 ⟨left, rfl, l1, l2, l3, hf⟩
  have m5 := Lib.hid hf.size
  have B6 := Lib.hid (B4.out.fr hf (fun h => h))
  have F7 := Lib.hid (F3.out.trans hf)
  clear hf SZ B4 F3
  by_cases hneg : left < 0
  · clear l3
    go_wp2_with fail
    go_ret
    exact ⟨rfl, F7.out⟩
  have hn : ps.length ≤ 1048576 := by have := l3 (by omega); omega
  have HN := Lib.hid hn
  clear l3 hn
  have CP : Hid (∀ W, Fr No w W → Calls Tryd.prog 32 #[RV L R A ps.length c] W fun e w2 => CopyR L R ps W e w2) := fun W hf => toRel_any W L R A ps c (HS.out.keep hf (fun _ h => h.elim)) (by have := HN.out; omega)
  have c8 : World.cell? w2 ⟨w.heap.size, 0, none⟩ = some (.int .i64 L) := (B6.out.cell 0).trans rfl
  have c9 : World.cell? w2 ⟨w.heap.size, 1, none⟩ = some (.int .i64 R) := (B6.out.cell 1).trans rfl
  have c10 : World.cell? w2 ⟨w.heap.size, 2, none⟩ = some (.slice A ps.length c) := (B6.out.cell 2).trans rfl
  go_wp2_with fail
  refine (CP.out _ F7.out).mono ?_
  rintro e w3 ⟨g0, rfl, hb, hf, hown⟩
  have hor : OR w3 (w2.heap.size) (some ⟨g0, 0, none⟩) ps.length ps.length ps := ⟨rfl, hown⟩
  have m11 := Lib.hid hf.size
  have B12 := Lib.hid (B6.out.fr hf (fun h => h))
  have F13 := Lib.hid (F7.out.trans hf)
  have R14 := Lib.hid hor
  have bd15 : Hid (∀ b, Own (some ⟨g0, 0, none⟩) b → w2.heap.size ≤ b ∧ b < (w3).heap.size) := fun b hb => OR.bounds hor hb
  clear hf hb hown hor B6 F7 c8 c9 c10
  go_wp2_with fail
  refine (SP.out _ _ (OR.isl R14.out) (by have := HN.out; omega)).mono ?_
  rintro e w4 ⟨As, ns, cs, rfl, hf, hor⟩
  have m16 := Lib.hid hf.size
  have B17 := Lib.hid (B12.out.fr hf (fun h => h))
  have R18 := Lib.hid (R14.out.fr hf (fun _ _ h => h))
  have F19 := Lib.hid (F13.out.trans hf)
  have R20 := Lib.hid hor
  have bd21 : Hid (∀ b, Own As b → w3.heap.size ≤ b ∧ b < (w4).heap.size) := fun b hb => OR.bounds hor hb
  clear hf hor B12 R14 F13
  have c22 : World.cell? w4 ⟨w.heap.size, 0, none⟩ = some (.int .i64 L) := (B17.out.cell 0).trans rfl
  have c23 : World.cell? w4 ⟨w.heap.size, 1, none⟩ = some (.int .i64 R) := (B17.out.cell 1).trans rfl
  have c24 : World.cell? w4 ⟨w.heap.size, 2, none⟩ = some (.slice A ps.length c) := (B17.out.cell 2).trans rfl
  go_wp2_with fail
  refine (CP.out _ F19.out).mono ?_
  rintro e w5 ⟨g1, rfl, hb, hf, hown⟩
  have hor : OR w5 (w4.heap.size) (some ⟨g1, 0, none⟩) ps.length ps.length ps := ⟨rfl, hown⟩
  have m25 := Lib.hid hf.size
  have B26 := Lib.hid (B17.out.fr hf (fun h => h))
  have R27 := Lib.hid (R18.out.fr hf (fun _ _ h => h))
  have R28 := Lib.hid (R20.out.fr hf (fun _ _ h => h))
  have F29 := Lib.hid (F19.out.trans hf)
  have R30 := Lib.hid hor
  have bd31 : Hid (∀ b, Own (some ⟨g1, 0, none⟩) b → w4.heap.size ≤ b ∧ b < (w5).heap.size) := fun b hb => OR.bounds hor hb
  clear hf hb hown hor B17 R18 R20 F19 c22 c23 c24
  have ha32 : Fr No w5 (w5.alloc (.cells #[.int .i64 L, .int .i64 R, .slice (some ⟨g1, 0, none⟩) ps.length ps.length] 27)) := (Fr.refl No w5).alloc _
  have m33 := Lib.hid ha32.size
  have B34 := Lib.hid (B26.out.fr ha32 (fun h => h))
  have R35 := Lib.hid (R27.out.fr ha32 (fun _ _ h => h))
  have R36 := Lib.hid (R28.out.fr ha32 (fun _ _ h => h))
  have R37 := Lib.hid (R30.out.fr ha32 (fun _ _ h => h))
  have F38 := Lib.hid (F29.out.trans ha32)
  have B39 : Hid (Blk (w5.alloc (.cells #[.int .i64 L, .int .i64 R, .slice (some ⟨g1, 0, none⟩) ps.length ps.length] 27)) (w5.heap.size) 27 #[.int .i64 L, .int .i64 R, .slice (some ⟨g1, 0, none⟩) ps.length ps.length]) := Blk.new _ _ _
  clear ha32 B26 R27 R28 R30 F29
  go_wp2_with fail
  generalize (w5.alloc (.cells #[.int .i64 L, .int .i64 R, .slice (some ⟨g1, 0, none⟩) ps.length ps.length] 27)) = w6 at *
  refine (IM.out _ _ F38.out (OR.isl R37.out) (by have := HN.out; omega)).mono ?_
  rintro e w7 ⟨Ag, ng, cg, rfl, hf, hor⟩
  have m40 := Lib.hid hf.size
  have B41 := Lib.hid (B34.out.fr hf (fun h => h))
  have B42 := Lib.hid (B39.out.fr hf (fun h => h))
  have R43 := Lib.hid (R35.out.fr hf (fun _ _ h => h))
  have R44 := Lib.hid (R36.out.fr hf (fun _ _ h => h))
  have R45 := Lib.hid (R37.out.fr hf (fun _ _ h => h))
  have F46 := Lib.hid (F38.out.trans hf)
  have R47 := Lib.hid hor
  have bd48 : Hid (∀ b, Own Ag b → w6.heap.size ≤ b ∧ b < (w7).heap.size) := fun b hb => OR.bounds hor hb
  clear hf hor B34 B39 R35 R36 R37 F38
  go_wp2_with fail
  have hEQ : Calls Tryd.prog 28 #[.slice Ag ng cg, .slice As ns cs] w7 fun e w' => e = .returned (.bool true) ∧ Fr No w7 w' := by
    rw [R47.out.1, R44.out.1]
    refine (eqi_big w7 Ag As Po Po cg cs (OR.isl R47.out) (OR.isl R44.out) (by have := HLEN.out; omega) (by have := HLEN.out; omega)).mono ?_
    rintro e w' ⟨b, rfl, hb, m, rfl⟩
    obtain rfl : b = true := hb.2 rfl
    exact ⟨rfl, (Fr.refl No _).drewN m⟩
  have HEQ := Lib.hid hEQ
  clear hEQ
  refine (HEQ.out).mono ?_
  rintro e w8 ⟨rfl, hf⟩
  have m49 := Lib.hid hf.size
  have B50 := Lib.hid (B41.out.fr hf (fun h => h))
  have B51 := Lib.hid (B42.out.fr hf (fun h => h))
  have R52 := Lib.hid (R43.out.fr hf (fun _ _ h => h))
  have R53 := Lib.hid (R44.out.fr hf (fun _ _ h => h))
  have R54 := Lib.hid (R45.out.fr hf (fun _ _ h => h))
  have R55 := Lib.hid (R47.out.fr hf (fun _ _ h => h))
  have F56 := Lib.hid (F46.out.trans hf)
  clear hf HEQ B41 B42 R43 R44 R45 R47 F46
  have c57 : World.cell? w8 ⟨w5.heap.size, 0, none⟩ = some (.int .i64 L) := (B51.out.cell 0).trans rfl
  have c58 : World.cell? w8 ⟨w5.heap.size, 1, none⟩ = some (.int .i64 R) := (B51.out.cell 1).trans rfl
  have c59 : World.cell? w8 ⟨w5.heap.size, 2, none⟩ = some (.slice (some ⟨g1, 0, none⟩) ps.length ps.length) := (B51.out.cell 2).trans rfl
  have c60 : World.cell? w8 ⟨w.heap.size, 0, none⟩ = some (.int .i64 L) := (B50.out.cell 0).trans rfl
  have c61 : World.cell? w8 ⟨w.heap.size, 1, none⟩ = some (.int .i64 R) := (B50.out.cell 1).trans rfl
  have c62 : World.cell? w8 ⟨w.heap.size, 2, none⟩ = some (.slice A ps.length c) := (B50.out.cell 2).trans rfl
  have CC : Hid (∀ W, Fr No w8 W → W.cell? ⟨w5.heap.size, 0, none⟩ = some (.int .i64 L) ∧ W.cell? ⟨w5.heap.size, 1, none⟩ = some (.int .i64 R) ∧ W.cell? ⟨w5.heap.size, 2, none⟩ = some (.slice (some ⟨g1, 0, none⟩) ps.length ps.length) ∧ W.cell? ⟨w.heap.size, 0, none⟩ = some (.int .i64 L) ∧ W.cell? ⟨w.heap.size, 1, none⟩ = some (.int .i64 R) ∧ W.cell? ⟨w.heap.size, 2, none⟩ = some (.slice A ps.length c)) := fun W hf => ⟨((B51.out.fr hf (fun h => h)).cell 0).trans rfl, ((B51.out.fr hf (fun h => h)).cell 1).trans rfl, ((B51.out.fr hf (fun h => h)).cell 2).trans rfl, ((B50.out.fr hf (fun h => h)).cell 0).trans rfl, ((B50.out.fr hf (fun h => h)).cell 1).trans rfl, ((B50.out.fr hf (fun h => h)).cell 2).trans rfl⟩
  have hD : Fr No w8 w8.drew := (Fr.refl _ _).drew
  have CP5 : Hid (∀ W, Fr No w8 W → Calls Tryd.prog 32 #[RV L R A ps.length c] W fun e w2 => ∃ g, e = .returned (RV L R (some ⟨g, 0, none⟩) ps.length ps.length) ∧ Fr No w8 w2 ∧ ISl w2 (some ⟨g, 0, none⟩) ps) := fun W hf => (CP.out W (F56.out.trans hf)).mono (by
    rintro e w2 ⟨g, h1, _, h2, h3⟩
    exact ⟨g, h1, hf.trans h2, ISl.of_own h3⟩)
  have EQ5 : Hid (∀ W g', Fr No w8 W → ISl W (some ⟨g', 0, none⟩) ps → Calls Tryd.prog 24 #[RV L R (some ⟨g1, 0, none⟩) ps.length ps.length, RV L R (some ⟨g', 0, none⟩) ps.length ps.length] W fun e w2 => e = .returned (.bool true) ∧ Fr No w8 w2) := fun W g' hf hg => (eqRel_any W L R L R _ _ ps ps _ _ (OR.isl (R54.out.no hf)) hg (by have := HN.out; omega) (by have := HN.out; omega)).mono (by
    rintro e w2 ⟨b, rfl, hb, hf2⟩
    obtain rfl : b = true := hb.2 ⟨rfl, rfl, rfl⟩
    exact ⟨rfl, hf.trans hf2⟩)
  go_wp2_with fail
  go_region_held3 (fun w' => w'.cell? ⟨w5.heap.size, 0, none⟩ = some (.int .i64 L) ∧ w'.cell? ⟨w5.heap.size, 1, none⟩ = some (.int .i64 R) ∧ w'.cell? ⟨w5.heap.size, 2, none⟩ = some (.slice (some ⟨g1, 0, none⟩) ps.length ps.length) ∧ w'.cell? ⟨w.heap.size, 0, none⟩ = some (.int .i64 L) ∧ w'.cell? ⟨w.heap.size, 1, none⟩ = some (.int .i64 R) ∧ w'.cell? ⟨w.heap.size, 2, none⟩ = some (.slice A ps.length c)) (go_keep)
    (first | (go_at_call 32; ((with_reducible refine (CP5.out _ hD).mono ?_); rintro e w6 ⟨g6, rfl, s6, i6⟩; obtain ⟨z0, z1, z2, z3, z4, z5⟩ := CC.out w6 s6)) | (go_at_call 24; ((with_reducible refine (EQ5.out _ _ s6 i6).mono ?_); rintro e w7 ⟨rfl, s7⟩; obtain ⟨p0, p1, p2, p3, p4, p5⟩ := CC.out w7 s7)))
  have m63 := Lib.hid s7.size
  have B64 := Lib.hid (B50.out.fr s7 (fun h => h))
  have B65 := Lib.hid (B51.out.fr s7 (fun h => h))
  have R66 := Lib.hid (R52.out.fr s7 (fun _ _ h => h))
  have R67 := Lib.hid (R53.out.fr s7 (fun _ _ h => h))
  have R68 := Lib.hid (R54.out.fr s7 (fun _ _ h => h))
  have R69 := Lib.hid (R55.out.fr s7 (fun _ _ h => h))
  have F70 := Lib.hid (F56.out.trans s7)
  clear s7 B50 B51 R52 R53 R54 R55 F56 c57 c58 c59 c60 c61 c62 z0 z1 z2 z3 z4 z5 p0 p1 p2 p3 p4 p5 CC CP5 EQ5 hD s6 i6
  generalize w7 = w9 at *
  have c71 : World.cell? w9 ⟨w5.heap.size, 0, none⟩ = some (.int .i64 L) := (B65.out.cell 0).trans rfl
  have c72 : World.cell? w9 ⟨w5.heap.size, 1, none⟩ = some (.int .i64 R) := (B65.out.cell 1).trans rfl
  have c73 : World.cell? w9 ⟨w5.heap.size, 2, none⟩ = some (.slice (some ⟨g1, 0, none⟩) ps.length ps.length) := (B65.out.cell 2).trans rfl
  go_wp2_with fail
  refine (markR_any _ _ L R (some ⟨g1, 0, none⟩) _ _ 1 _ (by decide) (by have := HN.out; omega) R68.out).mono ?_
  rintro e w10 ⟨rfl, hf, hor⟩
  have m74 := Lib.hid hf.size
  have B75 := Lib.hid (B64.out.fr hf (R68.out.other B64.out (by decide)))
  have B76 := Lib.hid (B65.out.fr hf (R68.out.other B65.out (by decide)))
  have R77 := Lib.hid (R66.out.fr hf (fun b h1 h2 => by have e1 := bd15.out b h1; have e2 := bd31.out b h2; have := m2.out; have := m5.out; have := m11.out; have := m16.out; have := m25.out; have := m33.out; have := m40.out; have := m49.out; have := m63.out; omega))
  have R78 := Lib.hid (R67.out.fr hf (fun b h1 h2 => by have e1 := bd21.out b h1; have e2 := bd31.out b h2; have := m2.out; have := m5.out; have := m11.out; have := m16.out; have := m25.out; have := m33.out; have := m40.out; have := m49.out; have := m63.out; omega))
  have R79 := Lib.hid (R69.out.fr hf (fun b h1 h2 => by have e1 := bd48.out b h1; have e2 := bd31.out b h2; have := m2.out; have := m5.out; have := m11.out; have := m16.out; have := m25.out; have := m33.out; have := m40.out; have := m49.out; have := m63.out; omega))
  have F80 := Lib.hid (F70.out.then_ hf (fun b hb h => by have e1 := bd31.out b h; have := m2.out; have := m5.out; have := m11.out; have := m16.out; have := m25.out; have := m33.out; have := m40.out; have := m49.out; have := m63.out; omega))
  clear hf hor B64 B65 R66 R67 R69 F70 c71 c72 c73
  have hk1 : ¬ (((1 + ps.length : Nat) : Int) < 0) := by omega
  go_wp2_with fail
  have hEQ : Calls Tryd.prog 28 #[.slice Ag ng cg, .slice As ns cs] w10 fun e w' => e = .returned (.bool true) ∧ Fr No w10 w' := by
    rw [R79.out.1, R78.out.1]
    refine (eqi_big w10 Ag As Po Po cg cs (OR.isl R79.out) (OR.isl R78.out) (by have := HLEN.out; omega) (by have := HLEN.out; omega)).mono ?_
    rintro e w' ⟨b, rfl, hb, m, rfl⟩
    obtain rfl : b = true := hb.2 rfl
    exact ⟨rfl, (Fr.refl No _).drewN m⟩
  have HEQ := Lib.hid hEQ
  clear hEQ
  refine (HEQ.out).mono ?_
  rintro e w11 ⟨rfl, hf⟩
  have m81 := Lib.hid hf.size
  have B82 := Lib.hid (B75.out.fr hf (fun h => h))
  have B83 := Lib.hid (B76.out.fr hf (fun h => h))
  have R84 := Lib.hid (R77.out.fr hf (fun _ _ h => h))
  have R85 := Lib.hid (R78.out.fr hf (fun _ _ h => h))
  have R86 := Lib.hid (R79.out.fr hf (fun _ _ h => h))
  have F87 := Lib.hid (F80.out.trans hf)
  clear hf HEQ B75 B76 R77 R78 R79 F80 hk1
  go_wp2_with fail
  refine (markI_any _ _ Ag _ _ 1 _ (by decide) (by have := HLEN.out; have := R86.out.1; omega) R86.out).mono ?_
  rintro e w12 ⟨rfl, hf, _, hor⟩
  have HNR : Hid (ng ≤ 1048576) := by have := HLEN.out; have := R86.out.1; show _ ≤ _; omega
  have m88 := Lib.hid hf.size
  have B89 := Lib.hid (B82.out.fr hf (R86.out.other B82.out (by decide)))
  have B90 := Lib.hid (B83.out.fr hf (R86.out.other B83.out (by decide)))
  have R91 := Lib.hid (R84.out.fr hf (fun b h1 h2 => by have e1 := bd15.out b h1; have e2 := bd48.out b h2; have := m2.out; have := m5.out; have := m11.out; have := m16.out; have := m25.out; have := m33.out; have := m40.out; have := m49.out; have := m63.out; have := m74.out; have := m81.out; omega))
  have R92 := Lib.hid (R85.out.fr hf (fun b h1 h2 => by have e1 := bd21.out b h1; have e2 := bd48.out b h2; have := m2.out; have := m5.out; have := m11.out; have := m16.out; have := m25.out; have := m33.out; have := m40.out; have := m49.out; have := m63.out; have := m74.out; have := m81.out; omega))
  have F93 := Lib.hid (F87.out.then_ hf (fun b hb h => by have e1 := bd48.out b h; have := m2.out; have := m5.out; have := m11.out; have := m16.out; have := m25.out; have := m33.out; have := m40.out; have := m49.out; have := m63.out; have := m74.out; have := m81.out; omega))
  have R94 := Lib.hid hor
  clear hf hor B82 B83 R84 R85 F87 R86
  go_wp2_with fail
  refine (heldI_any _ _ Ag _ _ 1 (by decide) (by have := HNR.out; omega) R94.out).mono ?_
  rintro e w13 ⟨rfl, hf⟩
  have m95 := Lib.hid hf.size
  have B96 := Lib.hid (B89.out.fr hf (fun h => h))
  have B97 := Lib.hid (B90.out.fr hf (fun h => h))
  have R98 := Lib.hid (R91.out.fr hf (fun _ _ h => h))
  have R99 := Lib.hid (R92.out.fr hf (fun _ _ h => h))
  have R100 := Lib.hid (R94.out.fr hf (fun _ _ h => h))
  have F101 := Lib.hid (F93.out.trans hf)
  clear hf B89 B90 R91 R92 R94 F93
  have hq : ¬ (((1 + ng : Nat) : Int) < 0) := by omega
  have c102 : World.cell? w13 ⟨w.heap.size, 0, none⟩ = some (.int .i64 L) := (B96.out.cell 0).trans rfl
  have c103 : World.cell? w13 ⟨w.heap.size, 1, none⟩ = some (.int .i64 R) := (B96.out.cell 1).trans rfl
  have c104 : World.cell? w13 ⟨w.heap.size, 2, none⟩ = some (.slice A ps.length c) := (B96.out.cell 2).trans rfl
  go_wp2_with fail
  clear hq c102 c103 c104
  refine (CP.out _ F101.out).mono ?_
  rintro e w14 ⟨g2, rfl, hb, hf, hown⟩
  have hor : OR w14 (w13.heap.size) (some ⟨g2, 0, none⟩) ps.length ps.length ps := ⟨rfl, hown⟩
  have m105 := Lib.hid hf.size
  have B106 := Lib.hid (B96.out.fr hf (fun h => h))
  have B107 := Lib.hid (B97.out.fr hf (fun h => h))
  have R108 := Lib.hid (R98.out.fr hf (fun _ _ h => h))
  have R109 := Lib.hid (R99.out.fr hf (fun _ _ h => h))
  have R110 := Lib.hid (R100.out.fr hf (fun _ _ h => h))
  have F111 := Lib.hid (F101.out.trans hf)
  have R112 := Lib.hid hor
  have bd113 : Hid (∀ b, Own (some ⟨g2, 0, none⟩) b → w13.heap.size ≤ b ∧ b < (w14).heap.size) := fun b hb => OR.bounds hor hb
  clear hf hb hown hor B96 B97 R98 R99 R100 F101
  go_wp2_with fail
  refine (IM.out _ _ F111.out (OR.isl R112.out) (by have := HN.out; omega)).mono ?_
  rintro e w15 ⟨Ah, nh, ch, rfl, hf, hor⟩
  have m114 := Lib.hid hf.size
  have B115 := Lib.hid (B106.out.fr hf (fun h => h))
  have B116 := Lib.hid (B107.out.fr hf (fun h => h))
  have R117 := Lib.hid (R108.out.fr hf (fun _ _ h => h))
  have R118 := Lib.hid (R109.out.fr hf (fun _ _ h => h))
  have R119 := Lib.hid (R110.out.fr hf (fun _ _ h => h))
  have R120 := Lib.hid (R112.out.fr hf (fun _ _ h => h))
  have F121 := Lib.hid (F111.out.trans hf)
  have R122 := Lib.hid hor
  have bd123 : Hid (∀ b, Own Ah b → w14.heap.size ≤ b ∧ b < (w15).heap.size) := fun b hb => OR.bounds hor hb
  clear hf hor B106 B107 R108 R109 R110 R112 F111
  go_wp2_with fail
  have hEQ : Calls Tryd.prog 28 #[.slice Ah nh ch, .slice As ns cs] w15 fun e w' => e = .returned (.bool true) ∧ Fr No w15 w' := by
    rw [R122.out.1, R118.out.1]
    refine (eqi_big w15 Ah As Po Po ch cs (OR.isl R122.out) (OR.isl R118.out) (by have := HLEN.out; omega) (by have := HLEN.out; omega)).mono ?_
    rintro e w' ⟨b, rfl, hb, m, rfl⟩
    obtain rfl : b = true := hb.2 rfl
    exact ⟨rfl, (Fr.refl No _).drewN m⟩
  have HEQ := Lib.hid hEQ
  clear hEQ
  refine (HEQ.out).mono ?_
  rintro e w16 ⟨rfl, hf⟩
  have m124 := Lib.hid hf.size
  have B125 := Lib.hid (B115.out.fr hf (fun h => h))
  have B126 := Lib.hid (B116.out.fr hf (fun h => h))
  have R127 := Lib.hid (R117.out.fr hf (fun _ _ h => h))
  have R128 := Lib.hid (R118.out.fr hf (fun _ _ h => h))
  have R129 := Lib.hid (R119.out.fr hf (fun _ _ h => h))
  have R130 := Lib.hid (R120.out.fr hf (fun _ _ h => h))
  have R131 := Lib.hid (R122.out.fr hf (fun _ _ h => h))
  have F132 := Lib.hid (F121.out.trans hf)
  clear hf HEQ B115 B116 R117 R118 R119 R120 R122 F121
  go_wp2_with fail
  refine (heldI_any _ _ Ag _ _ 1 (by decide) (by have := HNR.out; omega) R129.out).mono ?_
  rintro e w17 ⟨rfl, hf⟩
  have m133 := Lib.hid hf.size
  have B134 := Lib.hid (B125.out.fr hf (fun h => h))
  have B135 := Lib.hid (B126.out.fr hf (fun h => h))
  have R136 := Lib.hid (R127.out.fr hf (fun _ _ h => h))
  have R137 := Lib.hid (R128.out.fr hf (fun _ _ h => h))
  have R138 := Lib.hid (R129.out.fr hf (fun _ _ h => h))
  have R139 := Lib.hid (R130.out.fr hf (fun _ _ h => h))
  have R140 := Lib.hid (R131.out.fr hf (fun _ _ h => h))
  have F141 := Lib.hid (F132.out.trans hf)
  clear hf B125 B126 R127 R128 R129 R130 R131 F132
  have hq : ¬ (((1 + ng : Nat) : Int) < 0) := by omega
  go_wp2_with fail
  go_ret
  exact ⟨rfl, F141.out⟩
end Go.Proofs.YtkofjodadcchhaaDoor
