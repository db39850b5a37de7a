/- The law RelGraph. -/
import Derived.Test.YtkofjodadcchhaaDoorGra4
import Derived.Test.YtkofjodadcchhaaDoorLawRn
namespace Go.Proofs.YtkofjodadcchhaaDoor
open Go.RowKit Go.ChangeMaps Go.Shelf

theorem graphO_len (lst : List Int) (n : Int) : ((graphO lst n).getD (0, 0, [])).2.2.length ≤ 100000 := by
  unfold graphO
  split
  · rename_i h
    simp only [Option.getD_some, graphL_len]
    have := h.1
    omega
  · simp

set_option maxRecDepth 100000 in
set_option maxHeartbeats 8000000 in
theorem lawRelGraph (w : World) (HTAB : TZt w) (A : Option Addr) (n c : Nat) (ps : List Int) (hr : IntsIn w A n c ps) (k : Int) (_ : -9223372036854775808 ≤ k ∧ k ≤ 9223372036854775807) :
    Calls Tryd.prog 6 #[.slice A n c, .int .i64 k] w fun e w' => Yes w e w' := by
  obtain ⟨rfl, hc, hm, hS, hz⟩ := hr
  have HS := Lib.hid hS
  have HM := Lib.hid hm
  obtain ⟨Lo, Ro, Po, bo, HLEN, SP, IM⟩ : ∃ (Lo Ro : Int) (Po : List Int) (bo : Bool), Hid (Po.length ≤ 100000) ∧ Hid (∀ W g, ISl W (some g) ps → ps.length ≤ 2000000 → Calls Tryd.prog 15 #[.slice (some g) ps.length ps.length, .int .i64 k] W fun e w' => AnsC Lo Ro Po bo W e w') ∧ Hid (∀ W g, Fr No w W → ISl W (some g) ps → ps.length ≤ 2000000 → Calls Tryd.prog 14 #[.slice (some g) ps.length ps.length, .int .i64 k] W fun e w' => AnsC Lo Ro Po bo W e w') :=
    ⟨((graphO ps k).getD (0, 0, [])).1, ((graphO ps k).getD (0, 0, [])).2.1, ((graphO ps k).getD (0, 0, [])).2.2, (graphO ps k).isSome, graphO_len ps k, fun W g hg hn => specRelGraph W _ ps _ k hg hn, fun W g hf hg hn => implRelGraph W _ ps _ k hg hn (HTAB.fr hf (fun h => h))⟩
  clear HTAB hc hm hS hz
  have F0 : Hid (Fr No w w) := Fr.refl _ _
  have hmI : (ps.length : Int) ≤ 9223372036854775807 := by have := HM.out; unfold maxLen at this; omega
  by_cases hbig : 1048576 < ps.length
  · have hb : decide ((1048576 : Int) < (ps.length : Int)) = true := by simp; omega
    go_enter Tryd.func6, Tryd.ntmps6
    go_wp2_with fail
    go_ret
    exact ⟨rfl, F0.out⟩
  have hb : decide ((1048576 : Int) < (ps.length : Int)) = false := by simp; omega
  have hn : ps.length ≤ 1048576 := by omega
  have HN := Lib.hid hn
  clear hbig hn
  have CP : Hid (∀ W, Fr No w W → Calls Tryd.prog 27 #[.slice A ps.length c] W fun e w2 => CopyI ps W e w2) := fun W hf => copyI_any W A ps c (HS.out.keep hf (fun _ h => h.elim)) (by have := HN.out; omega)
  go_enter Tryd.func6, Tryd.ntmps6
  go_wp2_with fail
  refine (CP.out _ F0.out).mono ?_
  rintro e w1 ⟨g0, rfl, hb, hf, hown⟩
  have hor : OR w1 (w.heap.size) (some ⟨g0, 0, none⟩) ps.length ps.length ps := ⟨rfl, hown⟩
  have m1 := Lib.hid hf.size
  have F2 := Lib.hid (F0.out.trans hf)
  have R3 := Lib.hid hor
  have bd4 : Hid (∀ b, Own (some ⟨g0, 0, none⟩) b → w.heap.size ≤ b ∧ b < (w1).heap.size) := fun b hb => OR.bounds hor hb
  clear hf hb hown hor
  go_wp2_with fail
  refine (SP.out _ _ (OR.isl R3.out) (by have := HN.out; omega)).mono ?_
  rintro e w2 ⟨As, ns, cs, rfl, hf, hor⟩
  have m5 := Lib.hid hf.size
  have R6 := Lib.hid (R3.out.fr hf (fun _ _ h => h))
  have F7 := Lib.hid (F2.out.trans hf)
  have R8 := Lib.hid hor
  have bd9 : Hid (∀ b, Own As b → w1.heap.size ≤ b ∧ b < (w2).heap.size) := fun b hb => OR.bounds hor hb
  clear hf hor R3 F2
  have ha10 : Fr No w2 (w2.alloc (.cells #[.int .i64 Lo, .int .i64 Ro, .slice As ns cs] 27)) := (Fr.refl No w2).alloc _
  have m11 := Lib.hid ha10.size
  have R12 := Lib.hid (R6.out.fr ha10 (fun _ _ h => h))
  have R13 := Lib.hid (R8.out.fr ha10 (fun _ _ h => h))
  have F14 := Lib.hid (F7.out.trans ha10)
  have B15 : Hid (Blk (w2.alloc (.cells #[.int .i64 Lo, .int .i64 Ro, .slice As ns cs] 27)) (w2.heap.size) 27 #[.int .i64 Lo, .int .i64 Ro, .slice As ns cs]) := Blk.new _ _ _
  clear ha10 R6 R8 F7
  go_wp2_with fail
  generalize (w2.alloc (.cells #[.int .i64 Lo, .int .i64 Ro, .slice As ns cs] 27)) = w3 at *
  refine (CP.out _ F14.out).mono ?_
  rintro e w4 ⟨g1, rfl, hb, hf, hown⟩
  have hor : OR w4 (w3.heap.size) (some ⟨g1, 0, none⟩) ps.length ps.length ps := ⟨rfl, hown⟩
  have m16 := Lib.hid hf.size
  have B17 := Lib.hid (B15.out.fr hf (fun h => h))
  have R18 := Lib.hid (R12.out.fr hf (fun _ _ h => h))
  have R19 := Lib.hid (R13.out.fr hf (fun _ _ h => h))
  have F20 := Lib.hid (F14.out.trans hf)
  have R21 := Lib.hid hor
  have bd22 : Hid (∀ b, Own (some ⟨g1, 0, none⟩) b → w3.heap.size ≤ b ∧ b < (w4).heap.size) := fun b hb => OR.bounds hor hb
  clear hf hb hown hor B15 R12 R13 F14
  go_wp2_with fail
  refine (IM.out _ _ F20.out (OR.isl R21.out) (by have := HN.out; omega)).mono ?_
  rintro e w5 ⟨Ag, ng, cg, rfl, hf, hor⟩
  have m23 := Lib.hid hf.size
  have B24 := Lib.hid (B17.out.fr hf (fun h => h))
  have R25 := Lib.hid (R18.out.fr hf (fun _ _ h => h))
  have R26 := Lib.hid (R19.out.fr hf (fun _ _ h => h))
  have R27 := Lib.hid (R21.out.fr hf (fun _ _ h => h))
  have F28 := Lib.hid (F20.out.trans hf)
  have R29 := Lib.hid hor
  have bd30 : Hid (∀ b, Own Ag b → w4.heap.size ≤ b ∧ b < (w5).heap.size) := fun b hb => OR.bounds hor hb
  clear hf hor B17 R18 R19 R21 F20
  have ha31 : Fr No w5 (w5.alloc (.cells #[.int .i64 Lo, .int .i64 Ro, .slice Ag ng cg] 27)) := (Fr.refl No w5).alloc _
  have m32 := Lib.hid ha31.size
  have B33 := Lib.hid (B24.out.fr ha31 (fun h => h))
  have R34 := Lib.hid (R25.out.fr ha31 (fun _ _ h => h))
  have R35 := Lib.hid (R26.out.fr ha31 (fun _ _ h => h))
  have R36 := Lib.hid (R27.out.fr ha31 (fun _ _ h => h))
  have R37 := Lib.hid (R29.out.fr ha31 (fun _ _ h => h))
  have F38 := Lib.hid (F28.out.trans ha31)
  have B39 : Hid (Blk (w5.alloc (.cells #[.int .i64 Lo, .int .i64 Ro, .slice Ag ng cg] 27)) (w5.heap.size) 27 #[.int .i64 Lo, .int .i64 Ro, .slice Ag ng cg]) := Blk.new _ _ _
  clear ha31 B24 R25 R26 R27 R29 F28
  have c40 : World.cell? (w5.alloc (.cells #[.int .i64 Lo, .int .i64 Ro, .slice Ag ng cg] 27)) ⟨w2.heap.size, 0, none⟩ = some (.int .i64 Lo) := (B33.out.cell 0).trans rfl
  have c41 : World.cell? (w5.alloc (.cells #[.int .i64 Lo, .int .i64 Ro, .slice Ag ng cg] 27)) ⟨w2.heap.size, 1, none⟩ = some (.int .i64 Ro) := (B33.out.cell 1).trans rfl
  have c42 : World.cell? (w5.alloc (.cells #[.int .i64 Lo, .int .i64 Ro, .slice Ag ng cg] 27)) ⟨w2.heap.size, 2, none⟩ = some (.slice As ns cs) := (B33.out.cell 2).trans rfl
  go_wp2_with fail
  generalize (w5.alloc (.cells #[.int .i64 Lo, .int .i64 Ro, .slice Ag ng cg] 27)) = w6 at *
  have hEQ : Calls Tryd.prog 24 #[RV Lo Ro Ag ng cg, RV Lo Ro As ns cs] w6 fun e w' => e = .returned (.bool true) ∧ Fr No w6 w' := by
    rw [R37.out.1, R35.out.1]
    refine (eqRel_any w6 Lo Ro Lo Ro Ag As Po Po cg cs (OR.isl R37.out) (OR.isl R35.out) (by have := HLEN.out; omega) (by have := HLEN.out; omega)).mono ?_
    rintro e w' ⟨b, rfl, hb, hf⟩
    obtain rfl : b = true := hb.2 ⟨rfl, rfl, rfl⟩
    exact ⟨rfl, hf⟩
  have HEQ := Lib.hid hEQ
  clear hEQ
  refine (HEQ.out).mono ?_
  rintro e w7 ⟨rfl, hf⟩
  have m43 := Lib.hid hf.size
  have B44 := Lib.hid (B33.out.fr hf (fun h => h))
  have B45 := Lib.hid (B39.out.fr hf (fun h => h))
  have R46 := Lib.hid (R34.out.fr hf (fun _ _ h => h))
  have R47 := Lib.hid (R35.out.fr hf (fun _ _ h => h))
  have R48 := Lib.hid (R36.out.fr hf (fun _ _ h => h))
  have R49 := Lib.hid (R37.out.fr hf (fun _ _ h => h))
  have F50 := Lib.hid (F38.out.trans hf)
  clear hf HEQ B33 B39 R34 R35 R36 R37 F38 c40 c41 c42
  go_wp2_with fail
  refine (CP.out _ F50.out).mono ?_
  rintro e w8 ⟨g3, rfl, hb, hf, hown⟩
  have hor : OR w8 (w7.heap.size) (some ⟨g3, 0, none⟩) ps.length ps.length ps := ⟨rfl, hown⟩
  have m51 := Lib.hid hf.size
  have B52 := Lib.hid (B44.out.fr hf (fun h => h))
  have B53 := Lib.hid (B45.out.fr hf (fun h => h))
  have R54 := Lib.hid (R46.out.fr hf (fun _ _ h => h))
  have R55 := Lib.hid (R47.out.fr hf (fun _ _ h => h))
  have R56 := Lib.hid (R48.out.fr hf (fun _ _ h => h))
  have R57 := Lib.hid (R49.out.fr hf (fun _ _ h => h))
  have F58 := Lib.hid (F50.out.trans hf)
  have R59 := Lib.hid hor
  have bd60 : Hid (∀ b, Own (some ⟨g3, 0, none⟩) b → w7.heap.size ≤ b ∧ b < (w8).heap.size) := fun b hb => OR.bounds hor hb
  clear hf hb hown hor B44 B45 R46 R47 R48 R49 F50
  have hEQ : Calls Tryd.prog 28 #[.slice (some ⟨g1, 0, none⟩) ps.length ps.length, .slice (some ⟨g3, 0, none⟩) ps.length ps.length] w8 fun e w' => e = .returned (.bool true) ∧ Fr No w8 w' := by
    refine (eqi_big w8 (some ⟨g1, 0, none⟩) (some ⟨g3, 0, none⟩) ps ps ps.length ps.length (OR.isl R56.out) (OR.isl R59.out) (by have := HN.out; omega) (by have := HN.out; omega)).mono ?_
    rintro e w' ⟨b, rfl, hb, m, rfl⟩
    obtain rfl : b = true := hb.2 rfl
    exact ⟨rfl, (Fr.refl No _).drewN m⟩
  have HEQ := Lib.hid hEQ
  clear hEQ
  go_wp2_with fail
  refine (HEQ.out).mono ?_
  rintro e w9 ⟨rfl, hf⟩
  have m61 := Lib.hid hf.size
  have B62 := Lib.hid (B52.out.fr hf (fun h => h))
  have B63 := Lib.hid (B53.out.fr hf (fun h => h))
  have R64 := Lib.hid (R54.out.fr hf (fun _ _ h => h))
  have R65 := Lib.hid (R55.out.fr hf (fun _ _ h => h))
  have R66 := Lib.hid (R56.out.fr hf (fun _ _ h => h))
  have R67 := Lib.hid (R57.out.fr hf (fun _ _ h => h))
  have R68 := Lib.hid (R59.out.fr hf (fun _ _ h => h))
  have F69 := Lib.hid (F58.out.trans hf)
  clear hf HEQ B52 B53 R54 R55 R56 R57 R59 F58
  go_wp2_with fail
  refine (markI_any _ _ (some ⟨g1, 0, none⟩) _ _ 1 _ (by decide) (by have := HN.out; omega) R66.out).mono ?_
  rintro e w10 ⟨rfl, hf, _, hor⟩
  have m70 := Lib.hid hf.size
  have B71 := Lib.hid (B62.out.fr hf (R66.out.other B62.out (by decide)))
  have B72 := Lib.hid (B63.out.fr hf (R66.out.other B63.out (by decide)))
  have R73 := Lib.hid (R64.out.fr hf (fun b h1 h2 => by have e1 := bd4.out b h1; have e2 := bd22.out b h2; have := m1.out; have := m5.out; have := m11.out; have := m16.out; have := m23.out; have := m32.out; have := m43.out; have := m51.out; have := m61.out; omega))
  have R74 := Lib.hid (R65.out.fr hf (fun b h1 h2 => by have e1 := bd9.out b h1; have e2 := bd22.out b h2; have := m1.out; have := m5.out; have := m11.out; have := m16.out; have := m23.out; have := m32.out; have := m43.out; have := m51.out; have := m61.out; omega))
  have R75 := Lib.hid (R67.out.fr hf (fun b h1 h2 => by have e1 := bd30.out b h1; have e2 := bd22.out b h2; have := m1.out; have := m5.out; have := m11.out; have := m16.out; have := m23.out; have := m32.out; have := m43.out; have := m51.out; have := m61.out; omega))
  have R76 := Lib.hid (R68.out.fr hf (fun b h1 h2 => by have e1 := bd60.out b h1; have e2 := bd22.out b h2; have := m1.out; have := m5.out; have := m11.out; have := m16.out; have := m23.out; have := m32.out; have := m43.out; have := m51.out; have := m61.out; omega))
  have F77 := Lib.hid (F69.out.then_ hf (fun b hb h => by have e1 := bd22.out b h; have := m1.out; have := m5.out; have := m11.out; have := m16.out; have := m23.out; have := m32.out; have := m43.out; have := m51.out; have := m61.out; omega))
  clear hf hor B62 B63 R64 R65 R67 R68 F69
  have hk1 : ¬ (((1 + ps.length : Nat) : Int) < 0) := by omega
  have c78 : World.cell? w10 ⟨w5.heap.size, 0, none⟩ = some (.int .i64 Lo) := (B72.out.cell 0).trans rfl
  have c79 : World.cell? w10 ⟨w5.heap.size, 1, none⟩ = some (.int .i64 Ro) := (B72.out.cell 1).trans rfl
  have c80 : World.cell? w10 ⟨w5.heap.size, 2, none⟩ = some (.slice Ag ng cg) := (B72.out.cell 2).trans rfl
  have c81 : World.cell? w10 ⟨w2.heap.size, 0, none⟩ = some (.int .i64 Lo) := (B71.out.cell 0).trans rfl
  have c82 : World.cell? w10 ⟨w2.heap.size, 1, none⟩ = some (.int .i64 Ro) := (B71.out.cell 1).trans rfl
  have c83 : World.cell? w10 ⟨w2.heap.size, 2, none⟩ = some (.slice As ns cs) := (B71.out.cell 2).trans rfl
  go_wp2_with fail
  have hEQ : Calls Tryd.prog 24 #[RV Lo Ro Ag ng cg, RV Lo Ro As ns cs] w10 fun e w' => e = .returned (.bool true) ∧ Fr No w10 w' := by
    rw [R75.out.1, R74.out.1]
    refine (eqRel_any w10 Lo Ro Lo Ro Ag As Po Po cg cs (OR.isl R75.out) (OR.isl R74.out) (by have := HLEN.out; omega) (by have := HLEN.out; omega)).mono ?_
    rintro e w' ⟨b, rfl, hb, hf⟩
    obtain rfl : b = true := hb.2 ⟨rfl, rfl, rfl⟩
    exact ⟨rfl, hf⟩
  have HEQ := Lib.hid hEQ
  clear hEQ
  refine (HEQ.out).mono ?_
  rintro e w11 ⟨rfl, hf⟩
  have m84 := Lib.hid hf.size
  have B85 := Lib.hid (B71.out.fr hf (fun h => h))
  have B86 := Lib.hid (B72.out.fr hf (fun h => h))
  have R87 := Lib.hid (R73.out.fr hf (fun _ _ h => h))
  have R88 := Lib.hid (R74.out.fr hf (fun _ _ h => h))
  have R89 := Lib.hid (R75.out.fr hf (fun _ _ h => h))
  have R90 := Lib.hid (R76.out.fr hf (fun _ _ h => h))
  have F91 := Lib.hid (F77.out.trans hf)
  clear hf HEQ B71 B72 R73 R74 R75 R76 F77 hk1 c78 c79 c80 c81 c82 c83
  have c92 : World.cell? w11 ⟨w5.heap.size, 0, none⟩ = some (.int .i64 Lo) := (B86.out.cell 0).trans rfl
  have c93 : World.cell? w11 ⟨w5.heap.size, 1, none⟩ = some (.int .i64 Ro) := (B86.out.cell 1).trans rfl
  have c94 : World.cell? w11 ⟨w5.heap.size, 2, none⟩ = some (.slice Ag ng cg) := (B86.out.cell 2).trans rfl
  go_wp2_with fail
  refine (markR_any _ _ Lo Ro Ag _ _ 1 _ (by decide) (by have := HLEN.out; have := R89.out.1; omega) R89.out).mono ?_
  rintro e w12 ⟨rfl, hf, hor⟩
  have HNR : Hid (ng ≤ 1048576) := by have := HLEN.out; have := R89.out.1; show _ ≤ _; omega
  have m95 := Lib.hid hf.size
  have B96 := Lib.hid (B85.out.fr hf (R89.out.other B85.out (by decide)))
  have B97 := Lib.hid (B86.out.fr hf (R89.out.other B86.out (by decide)))
  have R98 := Lib.hid (R87.out.fr hf (fun b h1 h2 => by have e1 := bd4.out b h1; have e2 := bd30.out b h2; have := m1.out; have := m5.out; have := m11.out; have := m16.out; have := m23.out; have := m32.out; have := m43.out; have := m51.out; have := m61.out; have := m70.out; have := m84.out; omega))
  have R99 := Lib.hid (R88.out.fr hf (fun b h1 h2 => by have e1 := bd9.out b h1; have e2 := bd30.out b h2; have := m1.out; have := m5.out; have := m11.out; have := m16.out; have := m23.out; have := m32.out; have := m43.out; have := m51.out; have := m61.out; have := m70.out; have := m84.out; omega))
  have R100 := Lib.hid (R90.out.fr hf (fun b h1 h2 => by have e1 := bd60.out b h1; have e2 := bd30.out b h2; have := m1.out; have := m5.out; have := m11.out; have := m16.out; have := m23.out; have := m32.out; have := m43.out; have := m51.out; have := m61.out; have := m70.out; have := m84.out; omega))
  have F101 := Lib.hid (F91.out.then_ hf (fun b hb h => by have e1 := bd30.out b h; have := m1.out; have := m5.out; have := m11.out; have := m16.out; have := m23.out; have := m32.out; have := m43.out; have := m51.out; have := m61.out; have := m70.out; have := m84.out; omega))
  have R102 := Lib.hid hor
  clear hf hor B85 B86 R87 R88 R90 F91 R89 c92 c93 c94
  have c103 : World.cell? w12 ⟨w5.heap.size, 0, none⟩ = some (.int .i64 Lo) := (B97.out.cell 0).trans rfl
  have c104 : World.cell? w12 ⟨w5.heap.size, 1, none⟩ = some (.int .i64 Ro) := (B97.out.cell 1).trans rfl
  have c105 : World.cell? w12 ⟨w5.heap.size, 2, none⟩ = some (.slice Ag ng cg) := (B97.out.cell 2).trans rfl
  go_wp2_with fail
  refine (heldR_any _ _ Lo Ro Ag _ _ 1 (by decide) (by have := HNR.out; omega) R102.out).mono ?_
  rintro e w13 ⟨rfl, hf⟩
  have m106 := Lib.hid hf.size
  have B107 := Lib.hid (B96.out.fr hf (fun h => h))
  have B108 := Lib.hid (B97.out.fr hf (fun h => h))
  have R109 := Lib.hid (R98.out.fr hf (fun _ _ h => h))
  have R110 := Lib.hid (R99.out.fr hf (fun _ _ h => h))
  have R111 := Lib.hid (R102.out.fr hf (fun _ _ h => h))
  have R112 := Lib.hid (R100.out.fr hf (fun _ _ h => h))
  have F113 := Lib.hid (F101.out.trans hf)
  clear hf B96 B97 R98 R99 R102 R100 F101 c103 c104 c105
  have hq : ¬ (((1 + ng : Nat) : Int) < 0) := by omega
  go_wp2_with fail
  clear hq
  refine (CP.out _ F113.out).mono ?_
  rintro e w14 ⟨g2, rfl, hb, hf, hown⟩
  have hor : OR w14 (w13.heap.size) (some ⟨g2, 0, none⟩) ps.length ps.length ps := ⟨rfl, hown⟩
  have m114 := Lib.hid hf.size
  have B115 := Lib.hid (B107.out.fr hf (fun h => h))
  have B116 := Lib.hid (B108.out.fr hf (fun h => h))
  have R117 := Lib.hid (R109.out.fr hf (fun _ _ h => h))
  have R118 := Lib.hid (R110.out.fr hf (fun _ _ h => h))
  have R119 := Lib.hid (R111.out.fr hf (fun _ _ h => h))
  have R120 := Lib.hid (R112.out.fr hf (fun _ _ h => h))
  have F121 := Lib.hid (F113.out.trans hf)
  have R122 := Lib.hid hor
  have bd123 : Hid (∀ b, Own (some ⟨g2, 0, none⟩) b → w13.heap.size ≤ b ∧ b < (w14).heap.size) := fun b hb => OR.bounds hor hb
  clear hf hb hown hor B107 B108 R109 R110 R111 R112 F113
  go_wp2_with fail
  refine (IM.out _ _ F121.out (OR.isl R122.out) (by have := HN.out; omega)).mono ?_
  rintro e w15 ⟨Ah, nh, ch, rfl, hf, hor⟩
  have m124 := Lib.hid hf.size
  have B125 := Lib.hid (B115.out.fr hf (fun h => h))
  have B126 := Lib.hid (B116.out.fr hf (fun h => h))
  have R127 := Lib.hid (R117.out.fr hf (fun _ _ h => h))
  have R128 := Lib.hid (R118.out.fr hf (fun _ _ h => h))
  have R129 := Lib.hid (R119.out.fr hf (fun _ _ h => h))
  have R130 := Lib.hid (R120.out.fr hf (fun _ _ h => h))
  have R131 := Lib.hid (R122.out.fr hf (fun _ _ h => h))
  have F132 := Lib.hid (F121.out.trans hf)
  have R133 := Lib.hid hor
  have bd134 : Hid (∀ b, Own Ah b → w14.heap.size ≤ b ∧ b < (w15).heap.size) := fun b hb => OR.bounds hor hb
  clear hf hor B115 B116 R117 R118 R119 R120 R122 F121
  have ha135 : Fr No w15 (w15.alloc (.cells #[.int .i64 Lo, .int .i64 Ro, .slice Ah nh ch] 27)) := (Fr.refl No w15).alloc _
  have m136 := Lib.hid ha135.size
  have B137 := Lib.hid (B125.out.fr ha135 (fun h => h))
  have B138 := Lib.hid (B126.out.fr ha135 (fun h => h))
  have R139 := Lib.hid (R127.out.fr ha135 (fun _ _ h => h))
  have R140 := Lib.hid (R128.out.fr ha135 (fun _ _ h => h))
  have R141 := Lib.hid (R129.out.fr ha135 (fun _ _ h => h))
  have R142 := Lib.hid (R130.out.fr ha135 (fun _ _ h => h))
  have R143 := Lib.hid (R131.out.fr ha135 (fun _ _ h => h))
  have R144 := Lib.hid (R133.out.fr ha135 (fun _ _ h => h))
  have F145 := Lib.hid (F132.out.trans ha135)
  have B146 : Hid (Blk (w15.alloc (.cells #[.int .i64 Lo, .int .i64 Ro, .slice Ah nh ch] 27)) (w15.heap.size) 27 #[.int .i64 Lo, .int .i64 Ro, .slice Ah nh ch]) := Blk.new _ _ _
  clear ha135 B125 B126 R127 R128 R129 R130 R131 R133 F132
  have c147 : World.cell? (w15.alloc (.cells #[.int .i64 Lo, .int .i64 Ro, .slice Ah nh ch] 27)) ⟨w2.heap.size, 0, none⟩ = some (.int .i64 Lo) := (B137.out.cell 0).trans rfl
  have c148 : World.cell? (w15.alloc (.cells #[.int .i64 Lo, .int .i64 Ro, .slice Ah nh ch] 27)) ⟨w2.heap.size, 1, none⟩ = some (.int .i64 Ro) := (B137.out.cell 1).trans rfl
  have c149 : World.cell? (w15.alloc (.cells #[.int .i64 Lo, .int .i64 Ro, .slice Ah nh ch] 27)) ⟨w2.heap.size, 2, none⟩ = some (.slice As ns cs) := (B137.out.cell 2).trans rfl
  go_wp2_with fail
  generalize (w15.alloc (.cells #[.int .i64 Lo, .int .i64 Ro, .slice Ah nh ch] 27)) = w16 at *
  have hEQ : Calls Tryd.prog 24 #[RV Lo Ro Ah nh ch, RV Lo Ro As ns cs] w16 fun e w' => e = .returned (.bool true) ∧ Fr No w16 w' := by
    rw [R144.out.1, R140.out.1]
    refine (eqRel_any w16 Lo Ro Lo Ro Ah As Po Po ch cs (OR.isl R144.out) (OR.isl R140.out) (by have := HLEN.out; omega) (by have := HLEN.out; omega)).mono ?_
    rintro e w' ⟨b, rfl, hb, hf⟩
    obtain rfl : b = true := hb.2 ⟨rfl, rfl, rfl⟩
    exact ⟨rfl, hf⟩
  have HEQ := Lib.hid hEQ
  clear hEQ
  refine (HEQ.out).mono ?_
  rintro e w17 ⟨rfl, hf⟩
  have m150 := Lib.hid hf.size
  have B151 := Lib.hid (B137.out.fr hf (fun h => h))
  have B152 := Lib.hid (B138.out.fr hf (fun h => h))
  have B153 := Lib.hid (B146.out.fr hf (fun h => h))
  have R154 := Lib.hid (R139.out.fr hf (fun _ _ h => h))
  have R155 := Lib.hid (R140.out.fr hf (fun _ _ h => h))
  have R156 := Lib.hid (R141.out.fr hf (fun _ _ h => h))
  have R157 := Lib.hid (R142.out.fr hf (fun _ _ h => h))
  have R158 := Lib.hid (R143.out.fr hf (fun _ _ h => h))
  have R159 := Lib.hid (R144.out.fr hf (fun _ _ h => h))
  have F160 := Lib.hid (F145.out.trans hf)
  clear hf HEQ B137 B138 B146 R139 R140 R141 R142 R143 R144 F145 c147 c148 c149
  have c161 : World.cell? w17 ⟨w5.heap.size, 0, none⟩ = some (.int .i64 Lo) := (B152.out.cell 0).trans rfl
  have c162 : World.cell? w17 ⟨w5.heap.size, 1, none⟩ = some (.int .i64 Ro) := (B152.out.cell 1).trans rfl
  have c163 : World.cell? w17 ⟨w5.heap.size, 2, none⟩ = some (.slice Ag ng cg) := (B152.out.cell 2).trans rfl
  go_wp2_with fail
  refine (heldR_any _ _ Lo Ro Ag _ _ 1 (by decide) (by have := HNR.out; omega) R156.out).mono ?_
  rintro e w18 ⟨rfl, hf⟩
  have m164 := Lib.hid hf.size
  have B165 := Lib.hid (B151.out.fr hf (fun h => h))
  have B166 := Lib.hid (B152.out.fr hf (fun h => h))
  have B167 := Lib.hid (B153.out.fr hf (fun h => h))
  have R168 := Lib.hid (R154.out.fr hf (fun _ _ h => h))
  have R169 := Lib.hid (R155.out.fr hf (fun _ _ h => h))
  have R170 := Lib.hid (R156.out.fr hf (fun _ _ h => h))
  have R171 := Lib.hid (R157.out.fr hf (fun _ _ h => h))
  have R172 := Lib.hid (R158.out.fr hf (fun _ _ h => h))
  have R173 := Lib.hid (R159.out.fr hf (fun _ _ h => h))
  have F174 := Lib.hid (F160.out.trans hf)
  clear hf B151 B152 B153 R154 R155 R156 R157 R158 R159 F160 c161 c162 c163
  have hq : ¬ (((1 + ng : Nat) : Int) < 0) := by omega
  go_wp2_with fail
  go_ret
  exact ⟨rfl, F174.out⟩
end Go.Proofs.YtkofjodadcchhaaDoor
