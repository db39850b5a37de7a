/- The law RelJoin. -/
import Derived.Test.YtkofjodadcchhaaDoorJn1
import Derived.Test.YtkofjodadcchhaaDoorJn2
import Derived.Test.YtkofjodadcchhaaDoorLawRn
namespace Go.Proofs.YtkofjodadcchhaaDoor
open Go.RowKit Go.ChangeMaps Go.Shelf

theorem box_store {W v8 : World} {kb B n c : Nat} {A : Option Addr} {ps : List Int} {Lo Ro : Int} (s8 : Fr No W v8) (hk : Blk v8 kb 27 #[.int .i64 0, .int .i64 0, .slice none 0 0]) (hlo : W.heap.size ≤ kb) (hor : OR v8 B A n c ps) :
    Fr No W (((v8.setCell ⟨kb, 0, none⟩ (.int .i64 Lo)).setCell ⟨kb, 1, none⟩ (.int .i64 Ro)).setCell ⟨kb, 2, none⟩ (.slice A n c)) ∧ Blk (((v8.setCell ⟨kb, 0, none⟩ (.int .i64 Lo)).setCell ⟨kb, 1, none⟩ (.int .i64 Ro)).setCell ⟨kb, 2, none⟩ (.slice A n c)) kb 27 #[.int .i64 Lo, .int .i64 Ro, .slice A n c] ∧
    OR (((v8.setCell ⟨kb, 0, none⟩ (.int .i64 Lo)).setCell ⟨kb, 1, none⟩ (.int .i64 Ro)).setCell ⟨kb, 2, none⟩ (.slice A n c)) B A n c ps := by
  have fs : Fr (One kb) v8 (((v8.setCell ⟨kb, 0, none⟩ (.int .i64 Lo)).setCell ⟨kb, 1, none⟩ (.int .i64 Ro)).setCell ⟨kb, 2, none⟩ (.slice A n c)) := (((Fr.refl (One kb) v8).setCell (p := ⟨kb, 0, none⟩) (.inl rfl) _).setCell (p := ⟨kb, 1, none⟩) (.inl rfl) _).setCell (p := ⟨kb, 2, none⟩) (.inl rfl) _
  exact ⟨s8.then_ fs (fun k hk h => by have h : k = kb := h; omega), ((hk.set_ 0 _).set_ 1 _).set_ 2 _, hor.fr fs (fun b hb h => by have h : b = kb := h; subst h; exact hor.other hk (by decide) hb)⟩

theorem joinO_len (L R : Int) (ps : List Int) (L2 R2 : Int) (qs : List Int) : ((joinO L R ps L2 R2 qs).getD (0, 0, [])).2.2.length ≤ 100000 := by
  unfold joinO
  split
  · rename_i h
    simp only [Option.getD_some, List.length_map]
    have h1 := pairsOf_len L.toNat R2.toNat (midB R.toNat ps R2.toNat qs R.toNat)
    have h2 := h.1.left
    have h3 := h.2.1.right
    have h4 := Nat.mul_le_mul (show L.toNat ≤ 128 by omega) (show R2.toNat ≤ 128 by omega)
    omega
  · simp

set_option maxRecDepth 100000 in
set_option maxHeartbeats 16000000 in
theorem lawRelJoin (w : World) (HTAB : TZt w) (L R : Int) (A : Option Addr) (n c : Nat) (ps : List Int) (hr : RelIn w L R A n c ps) (L2 R2 : Int) (A2 : Option Addr) (n2 c2 : Nat) (qs : List Int) (hr2 : RelIn w L2 R2 A2 n2 c2 qs) :
    Calls Tryd.prog 8 #[RV L R A n c, RV L2 R2 A2 n2 c2] w fun e w' => Yes w e w' := by
  obtain ⟨_, _, rfl, hc, hm, hS, hz⟩ := hr
  obtain ⟨_, _, rfl, hc2, hm2, hS2, hz2⟩ := hr2
  have HS := Lib.hid hS
  have HM := Lib.hid hm
  have HS2 := Lib.hid hS2
  have HM2 := Lib.hid hm2
  obtain ⟨Lo, Ro, Po, bo, HLEN, SP, IM⟩ : ∃ (Lo Ro : Int) (Po : List Int) (bo : Bool), Hid (Po.length ≤ 100000) ∧ Hid (∀ W ga gb, ISl W (some ga) ps → ps.length ≤ 2000000 → ISl W (some gb) qs → qs.length ≤ 2000000 → Calls Tryd.prog 34 #[RV L R (some ga) ps.length ps.length, RV L2 R2 (some gb) qs.length qs.length] W fun e w' => AnsC Lo Ro Po bo W e w') ∧ Hid (∀ W ga gb, Fr No w W → ISl W (some ga) ps → ps.length ≤ 2000000 → ISl W (some gb) qs → qs.length ≤ 2000000 → Calls Tryd.prog 18 #[RV L R (some ga) ps.length ps.length, RV L2 R2 (some gb) qs.length qs.length] W fun e w' => AnsC Lo Ro Po bo W e w') :=
    ⟨((joinO L R ps L2 R2 qs).getD (0, 0, [])).1, ((joinO L R ps L2 R2 qs).getD (0, 0, [])).2.1, ((joinO L R ps L2 R2 qs).getD (0, 0, [])).2.2, (joinO L R ps L2 R2 qs).isSome, joinO_len L R ps L2 R2 qs, fun W ga gb hg hn hg2 hn2 => specRelJoin W L R _ _ ps L2 R2 _ _ qs hg hn hg2 hn2, fun W ga gb hf hg hn hg2 hn2 => implRelJoin W L R _ _ ps L2 R2 _ _ qs hg hn hg2 hn2 (HTAB.fr hf (fun h => h))⟩
  clear HTAB hc hm hS hz hc2 hm2 hS2 hz2
  have F0 : Hid (Fr No w w) := Fr.refl _ _
  have SZ : Hid (∀ W left, 0 ≤ left → left ≤ 1048576 → Calls Tryd.prog 30 #[RV L R A ps.length c, .int .i64 left] W fun e w' => SzR ps.length left W e w') := fun W left h0 h1 => szR_any W L R A _ c left h0 h1 HM.out
  have SZ2 : Hid (∀ W left, 0 ≤ left → left ≤ 1048576 → Calls Tryd.prog 30 #[RV L2 R2 A2 qs.length c2, .int .i64 left] W fun e w' => SzR qs.length left W e w') := fun W left h0 h1 => szR_any W L2 R2 A2 _ c2 left h0 h1 HM2.out
  obtain ⟨w1, hw1, hfa, hba, hbb⟩ : ∃ W, W = (w.alloc (.cells #[.int .i64 L, .int .i64 R, .slice A ps.length c] 44)).alloc (.cells #[.int .i64 L2, .int .i64 R2, .slice A2 qs.length c2] 44) ∧ Fr No w W ∧ Blk W w.heap.size 44 #[.int .i64 L, .int .i64 R, .slice A ps.length c] ∧ Blk W (w.heap.size + 1) 44 #[.int .i64 L2, .int .i64 R2, .slice A2 qs.length c2] := ⟨_, rfl, ((Fr.refl No w).alloc _).alloc _, (Blk.new _ _ _).alloc _, Blk.new_at _ _ _ (by simp)⟩
  have m0 := Lib.hid hfa.size
  have F1 := Lib.hid hfa
  have Ba := Lib.hid hba
  have Bb := Lib.hid hbb
  clear hfa hba hbb
  go_enter Tryd.func8, Tryd.ntmps8
  go_wp2_with fail
  rw [← hw1]
  clear hw1
  refine (SZ.out _ 1048576 (by omega) (by omega)).mono ?_
  rintro e w2 ⟨left, rfl, l1, l2, l3, hf⟩
  have m1 := Lib.hid hf.size
  have B2 := Lib.hid (Ba.out.fr hf (fun h => h))
  have B3 := Lib.hid (Bb.out.fr hf (fun h => h))
  have F4 := Lib.hid (F1.out.trans hf)
  clear hf SZ Ba Bb F1
  by_cases hneg : left < 0
  · clear l3
    go_wp2_with fail
    go_ret
    exact ⟨rfl, F4.out⟩
  have hn : ps.length ≤ 1048576 := by have := l3 (by omega); omega
  have HN := Lib.hid hn
  clear l3 hn
  have c5 : World.cell? w2 ⟨w.heap.size + 1, 0, none⟩ = some (.int .i64 L2) := (B3.out.cell 0).trans rfl
  have c6 : World.cell? w2 ⟨w.heap.size + 1, 1, none⟩ = some (.int .i64 R2) := (B3.out.cell 1).trans rfl
  have c7 : World.cell? w2 ⟨w.heap.size + 1, 2, none⟩ = some (.slice A2 qs.length c2) := (B3.out.cell 2).trans rfl
  go_wp2_with fail
  refine (SZ2.out _ left (by omega) (by omega)).mono ?_
  rintro e w3 ⟨left2, rfl, k1, k2, k3, hf⟩
  have m8 := Lib.hid hf.size
  have B9 := Lib.hid (B2.out.fr hf (fun h => h))
  have B10 := Lib.hid (B3.out.fr hf (fun h => h))
  have F11 := Lib.hid (F4.out.trans hf)
  clear hf SZ2 B2 B3 F4 c5 c6 c7
  by_cases hneg2 : left2 < 0
  · clear k3
    go_wp2_with fail
    go_ret
    exact ⟨rfl, F11.out⟩
  have hn2 : qs.length ≤ 1048576 := by have := k3 (by omega); omega
  have HN2 := Lib.hid hn2
  clear k3 hn2
  have CP : Hid (∀ W, Fr No w W → Calls Tryd.prog 32 #[RV L R A ps.length c] W fun e w2 => CopyR L R ps W e w2) := fun W hf => toRel_any W L R A ps c (HS.out.keep hf (fun _ h => h.elim)) (by have := HN.out; omega)
  have CP2 : Hid (∀ W, Fr No w W → Calls Tryd.prog 32 #[RV L2 R2 A2 qs.length c2] W fun e w2 => CopyR L2 R2 qs W e w2) := fun W hf => toRel_any W L2 R2 A2 qs c2 (HS2.out.keep hf (fun _ h => h.elim)) (by have := HN2.out; omega)
  have c12 : World.cell? w3 ⟨w.heap.size, 0, none⟩ = some (.int .i64 L) := (B9.out.cell 0).trans rfl
  have c13 : World.cell? w3 ⟨w.heap.size, 1, none⟩ = some (.int .i64 R) := (B9.out.cell 1).trans rfl
  have c14 : World.cell? w3 ⟨w.heap.size, 2, none⟩ = some (.slice A ps.length c) := (B9.out.cell 2).trans rfl
  have c15 : World.cell? w3 ⟨w.heap.size + 1, 0, none⟩ = some (.int .i64 L2) := (B10.out.cell 0).trans rfl
  have c16 : World.cell? w3 ⟨w.heap.size + 1, 1, none⟩ = some (.int .i64 R2) := (B10.out.cell 1).trans rfl
  have c17 : World.cell? w3 ⟨w.heap.size + 1, 2, none⟩ = some (.slice A2 qs.length c2) := (B10.out.cell 2).trans rfl
  have CC : Hid (∀ W, Fr No w3 W → W.cell? ⟨w.heap.size, 0, none⟩ = some (.int .i64 L) ∧ W.cell? ⟨w.heap.size, 1, none⟩ = some (.int .i64 R) ∧ W.cell? ⟨w.heap.size, 2, none⟩ = some (.slice A ps.length c) ∧ W.cell? ⟨w.heap.size + 1, 0, none⟩ = some (.int .i64 L2) ∧ W.cell? ⟨w.heap.size + 1, 1, none⟩ = some (.int .i64 R2) ∧ W.cell? ⟨w.heap.size + 1, 2, none⟩ = some (.slice A2 qs.length c2)) := fun W hf => ⟨((B9.out.fr hf (fun h => h)).cell 0).trans rfl, ((B9.out.fr hf (fun h => h)).cell 1).trans rfl, ((B9.out.fr hf (fun h => h)).cell 2).trans rfl, ((B10.out.fr hf (fun h => h)).cell 0).trans rfl, ((B10.out.fr hf (fun h => h)).cell 1).trans rfl, ((B10.out.fr hf (fun h => h)).cell 2).trans rfl⟩
  have hD : Fr No w3 w3.drew := (Fr.refl _ _).drew
  have CA : Hid (∀ V, Fr No w3 V → Calls Tryd.prog 32 #[RV L R A ps.length c] V fun e w2 => ∃ g, e = .returned (RV L R (some ⟨g, 0, none⟩) ps.length ps.length) ∧ Fr No V w2 ∧ Hid (ISl w2 (some ⟨g, 0, none⟩) ps)) := fun V hf => (CP.out V (F11.out.trans hf)).mono (by rintro e w2 ⟨g, h1, _, h2, h3⟩; exact ⟨g, h1, h2, ISl.of_own h3⟩)
  have CB : Hid (∀ V0 V ga, Hid (ISl V0 (some ⟨ga, 0, none⟩) ps) → Fr No V0 V → Fr No w3 V → Calls Tryd.prog 32 #[RV L2 R2 A2 qs.length c2] V fun e w2 => ∃ g, e = .returned (RV L2 R2 (some ⟨g, 0, none⟩) qs.length qs.length) ∧ Fr No V w2 ∧ Hid (ISl w2 (some ⟨ga, 0, none⟩) ps ∧ ISl w2 (some ⟨g, 0, none⟩) qs)) := fun V0 V ga hi h0 hf => (CP2.out V (F11.out.trans hf)).mono (by rintro e w2 ⟨g, h1, _, h2, h3⟩; exact ⟨g, h1, h2, (hi.out.keep h0 (fun _ h => h.elim)).keep h2 (fun _ h => h.elim), ISl.of_own h3⟩)
  have CJ : Hid (∀ V0 V ga gb, Hid (ISl V0 (some ⟨ga, 0, none⟩) ps ∧ ISl V0 (some ⟨gb, 0, none⟩) qs) → Fr No V0 V → Fr No w3 V → Calls Tryd.prog 34 #[RV L R (some ⟨ga, 0, none⟩) ps.length ps.length, RV L2 R2 (some ⟨gb, 0, none⟩) qs.length qs.length] V fun e w2 => ∃ A n c, e = .returned (.tuple #[RV Lo Ro A n c, .bool bo]) ∧ Fr No V w2 ∧ Hid (OR w2 w3.heap.size A n c Po)) := fun V0 V ga gb hi h0 hf => (SP.out V _ _ (hi.out.1.keep h0 (fun _ h => h.elim)) (by have := HN.out; omega) (hi.out.2.keep h0 (fun _ h => h.elim)) (by have := HN2.out; omega)).mono (by rintro e w2 ⟨A, n, c, rfl, h2, h3⟩; exact ⟨A, n, c, rfl, h2, h3.low hf.size⟩)
  have hD2 : Fr No w3 (w3.alloc (.cells #[.int .i64 0, .int .i64 0, .slice none 0 0] 27)).drew := ((Fr.refl _ _).alloc _).drew
  have hbz : w.heap.size + 1 < w3.heap.size := B10.out.lt
  have qw30 : w.heap.size ≠ w3.heap.size := (by omega)
  have qw31 : w.heap.size + 1 ≠ w3.heap.size := (by omega)
  have qw32 : w3.heap.size ≠ w.heap.size := (by omega)
  have qw33 : w3.heap.size ≠ w.heap.size + 1 := (by omega)
  go_wp2_with fail
  rename_i Ks hKs
  suffices REST : Hid (∀ (kb : Nat) (Ar : Option Addr) (nr cr g6 g7 : Nat) (V : World), Fr No w3 V → Blk V kb 27 #[.int .i64 Lo, .int .i64 Ro, .slice Ar nr cr] → OR V w3.heap.size Ar nr cr Po → Ks { tmps := #[RV L R A ps.length c, RV L2 R2 A2 qs.length c2, Value.pointer (some { block := w.heap.size, off := 0 }), Value.pointer (some { block := w.heap.size + 1, off := 0 }), Value.bool false, Value.int IntKind.i64 left2, Ptr kb, Value.bool bo, undef, undef, undef, undef, undef, undef, undef, undef, undef, Value.agg #[Value.int IntKind.i64 L, Value.int IntKind.i64 R, Value.slice A ps.length c], Value.int IntKind.i64 1048576, Value.int IntKind.i64 left, Value.int IntKind.i64 left, Value.bool (decide (left < 0)), Value.agg #[Value.int IntKind.i64 L2, Value.int IntKind.i64 R2, Value.slice A2 qs.length c2], Value.int IntKind.i64 left, Value.int IntKind.i64 left2, Value.int IntKind.i64 left2, Value.bool (decide (left2 < 0)), Value.tuple #[RV Lo Ro Ar nr cr, Value.bool bo], Value.agg #[Value.int IntKind.i64 L, Value.int IntKind.i64 R, Value.slice A ps.length c], RV L R (some { block := g6, off := 0 }) ps.length ps.length, Value.agg #[Value.int IntKind.i64 L2, Value.int IntKind.i64 R2, Value.slice A2 qs.length c2], RV L2 R2 (some { block := g7, off := 0 }) qs.length qs.length, Value.tuple #[RV Lo Ro Ar nr cr, Value.bool bo], RV Lo Ro Ar nr cr, Value.bool bo, undef, undef, undef, undef, undef, undef, undef, undef, undef, undef, undef, undef, undef, undef, undef, undef, undef, undef, undef, undef, undef, undef, undef, undef, undef, undef, undef, undef, undef, undef, undef, undef, undef, undef, undef, undef, undef, undef, undef, undef, undef, undef, undef, undef, undef, undef, undef, undef, undef, undef, undef, undef, undef, undef, undef, undef, undef, undef, undef, undef, undef, undef, undef, undef, undef, undef, undef, undef, undef, undef, undef, undef, undef, undef, undef, undef, undef, undef, undef, undef, undef, undef, undef, undef], defers := [] } V) by
    go_region_held3 (fun w' => w'.cell? ⟨w.heap.size, 0, none⟩ = some (.int .i64 L) ∧ w'.cell? ⟨w.heap.size, 1, none⟩ = some (.int .i64 R) ∧ w'.cell? ⟨w.heap.size, 2, none⟩ = some (.slice A ps.length c) ∧ w'.cell? ⟨w.heap.size + 1, 0, none⟩ = some (.int .i64 L2) ∧ w'.cell? ⟨w.heap.size + 1, 1, none⟩ = some (.int .i64 R2) ∧ w'.cell? ⟨w.heap.size + 1, 2, none⟩ = some (.slice A2 qs.length c2)) (go_keep)
      (first | (go_at_call 32; ((first | (with_reducible refine (CA.out _ hD).mono ?_) | (with_reducible refine (CA.out _ hD2).mono ?_)); rintro e v6 ⟨g6, rfl, t6, i6⟩; have s6 : Fr No w3 v6 := (by first | exact hD.trans t6 | exact hD2.trans t6); obtain ⟨z0, z1, z2, z3, z4, z5⟩ := CC.out v6 s6; have qv60 : w.heap.size ≠ v6.heap.size := (by have := Fr.size s6; omega); have qv61 : w.heap.size + 1 ≠ v6.heap.size := (by have := Fr.size s6; omega); have qv62 : v6.heap.size ≠ w.heap.size := (by have := Fr.size s6; omega); have qv63 : v6.heap.size ≠ w.heap.size + 1 := (by have := Fr.size s6; omega); first | (have hk6 := (Blk.drew (Blk.new w3 27 #[.int .i64 0, .int .i64 0, .slice none 0 0])).fr t6 (fun h => h); have x0 : v6.cell? ⟨_, 0, none⟩ = some (.int .i64 0) := (hk6.cell 0).trans rfl; have x1 : v6.cell? ⟨_, 1, none⟩ = some (.int .i64 0) := (hk6.cell 1).trans rfl; have x2 : v6.cell? ⟨_, 2, none⟩ = some (.slice none 0 0) := (hk6.cell 2).trans rfl; have x3 := hk6.frozen 0; have x4 := hk6.frozen 1; have x5 := hk6.frozen 2; have x6 := hk6.lt) | skip)) | (go_at_call 32; ((first | (with_reducible refine (CB.out _ _ _ i6 (Fr.refl _ _) s6).mono ?_) | (with_reducible refine (CB.out _ _ _ i6 ((Fr.refl _ _).alloc _) (s6.alloc _)).mono ?_)); rintro e v7 ⟨g7, rfl, t7, i7⟩; have s7 : Fr No w3 v7 := (by first | exact s6.trans t7 | exact (s6.alloc _).trans t7); obtain ⟨p0, p1, p2, p3, p4, p5⟩ := CC.out v7 s7; have qv70 : w.heap.size ≠ v7.heap.size := (by have := Fr.size s7; omega); have qv71 : w.heap.size + 1 ≠ v7.heap.size := (by have := Fr.size s7; omega); have qv72 : v7.heap.size ≠ w.heap.size := (by have := Fr.size s7; omega); have qv73 : v7.heap.size ≠ w.heap.size + 1 := (by have := Fr.size s7; omega); first | (have hk7 := hk6.fr t7 (fun h => h); have x0 : v7.cell? ⟨_, 0, none⟩ = some (.int .i64 0) := (hk7.cell 0).trans rfl; have x1 : v7.cell? ⟨_, 1, none⟩ = some (.int .i64 0) := (hk7.cell 1).trans rfl; have x2 : v7.cell? ⟨_, 2, none⟩ = some (.slice none 0 0) := (hk7.cell 2).trans rfl; have x3 := hk7.frozen 0; have x4 := hk7.frozen 1; have x5 := hk7.frozen 2; have x6 := hk7.lt) | (have hk7 := (Blk.new v6 27 #[.int .i64 0, .int .i64 0, .slice none 0 0]).fr t7 (fun h => h); have x0 : v7.cell? ⟨_, 0, none⟩ = some (.int .i64 0) := (hk7.cell 0).trans rfl; have x1 : v7.cell? ⟨_, 1, none⟩ = some (.int .i64 0) := (hk7.cell 1).trans rfl; have x2 : v7.cell? ⟨_, 2, none⟩ = some (.slice none 0 0) := (hk7.cell 2).trans rfl; have x3 := hk7.frozen 0; have x4 := hk7.frozen 1; have x5 := hk7.frozen 2; have x6 := hk7.lt) | skip)) | (go_at_call 34; ((first | (with_reducible refine (CJ.out _ _ _ _ i7 (Fr.refl _ _) s7).mono ?_) | (with_reducible refine (CJ.out _ _ _ _ i7 ((Fr.refl _ _).alloc _) (s7.alloc _)).mono ?_)); rintro e v8 ⟨As, ns, cs, rfl, t8, i8⟩; have s8 : Fr No w3 v8 := (by first | exact s7.trans t8 | exact (s7.alloc _).trans t8); obtain ⟨y0, y1, y2, y3, y4, y5⟩ := CC.out v8 s8; have qv80 : w.heap.size ≠ v8.heap.size := (by have := Fr.size s8; omega); have qv81 : w.heap.size + 1 ≠ v8.heap.size := (by have := Fr.size s8; omega); have qv82 : v8.heap.size ≠ w.heap.size := (by have := Fr.size s8; omega); have qv83 : v8.heap.size ≠ w.heap.size + 1 := (by have := Fr.size s8; omega); first | (have hk8 := hk7.fr t8 (fun h => h); have x0 : v8.cell? ⟨_, 0, none⟩ = some (.int .i64 0) := (hk8.cell 0).trans rfl; have x1 : v8.cell? ⟨_, 1, none⟩ = some (.int .i64 0) := (hk8.cell 1).trans rfl; have x2 : v8.cell? ⟨_, 2, none⟩ = some (.slice none 0 0) := (hk8.cell 2).trans rfl; have x3 := hk8.frozen 0; have x4 := hk8.frozen 1; have x5 := hk8.frozen 2; have x6 := hk8.lt) | (have hk8 := (Blk.new v7 27 #[.int .i64 0, .int .i64 0, .slice none 0 0]).fr t8 (fun h => h); have x0 : v8.cell? ⟨_, 0, none⟩ = some (.int .i64 0) := (hk8.cell 0).trans rfl; have x1 : v8.cell? ⟨_, 1, none⟩ = some (.int .i64 0) := (hk8.cell 1).trans rfl; have x2 : v8.cell? ⟨_, 2, none⟩ = some (.slice none 0 0) := (hk8.cell 2).trans rfl; have x3 := hk8.frozen 0; have x4 := hk8.frozen 1; have x5 := hk8.frozen 2; have x6 := hk8.lt) | skip)))
    all_goals first | exact REST.out _ As ns cs g6 g7 _ (s8.alloc _) (Blk.new _ _ _) (OR.no i8.out ((Fr.refl _ _).alloc _)) | (obtain ⟨j1, j2, j3⟩ := box_store (Lo := Lo) (Ro := Ro) s8 hk8 (by have := Fr.size s6; have := Fr.size s7; omega) i8.out; exact REST.out _ As ns cs g6 g7 _ j1 j2 j3)
  intro kbs As ns cs gas gbs Vs hfV hbk hor
  refine hKs _ _ ?_
  have m18 := Lib.hid hfV.size
  have B19 := Lib.hid (B9.out.fr hfV (fun h => h))
  have B20 := Lib.hid (B10.out.fr hfV (fun h => h))
  have F21 := Lib.hid (F11.out.trans hfV)
  have R22 := Lib.hid hor
  have bd23 : Hid (∀ b, Own As b → w3.heap.size ≤ b ∧ b < (Vs).heap.size) := fun b hb => OR.bounds hor hb
  have B24 := Lib.hid hbk
  clear hfV B9 B10 F11 c12 c13 c14 c15 c16 c17 CC CA CB CJ hD hD2 hbz hor hbk hKs qw30 qw31 qw32 qw33
  have c25 : World.cell? Vs ⟨w.heap.size, 0, none⟩ = some (.int .i64 L) := (B19.out.cell 0).trans rfl
  have c26 : World.cell? Vs ⟨w.heap.size, 1, none⟩ = some (.int .i64 R) := (B19.out.cell 1).trans rfl
  have c27 : World.cell? Vs ⟨w.heap.size, 2, none⟩ = some (.slice A ps.length c) := (B19.out.cell 2).trans rfl
  go_wp2_with fail
  refine (CP.out _ F21.out).mono ?_
  rintro e w4 ⟨gx0, rfl, hb, hf, hown⟩
  have hor : OR w4 (Vs.heap.size) (some ⟨gx0, 0, none⟩) ps.length ps.length ps := ⟨rfl, hown⟩
  have m28 := Lib.hid hf.size
  have B29 := Lib.hid (B19.out.fr hf (fun h => h))
  have B30 := Lib.hid (B20.out.fr hf (fun h => h))
  have B31 := Lib.hid (B24.out.fr hf (fun h => h))
  have R32 := Lib.hid (R22.out.fr hf (fun _ _ h => h))
  have F33 := Lib.hid (F21.out.trans hf)
  have R34 := Lib.hid hor
  have bd35 : Hid (∀ b, Own (some ⟨gx0, 0, none⟩) b → Vs.heap.size ≤ b ∧ b < (w4).heap.size) := fun b hb => OR.bounds hor hb
  clear hf hb hown hor B19 B20 B24 R22 F21 c25 c26 c27
  have ha36 : Fr No w4 (w4.alloc (.cells #[.int .i64 L, .int .i64 R, .slice (some ⟨gx0, 0, none⟩) ps.length ps.length] 27)) := (Fr.refl No w4).alloc _
  have m37 := Lib.hid ha36.size
  have B38 := Lib.hid (B29.out.fr ha36 (fun h => h))
  have B39 := Lib.hid (B30.out.fr ha36 (fun h => h))
  have B40 := Lib.hid (B31.out.fr ha36 (fun h => h))
  have R41 := Lib.hid (R32.out.fr ha36 (fun _ _ h => h))
  have R42 := Lib.hid (R34.out.fr ha36 (fun _ _ h => h))
  have F43 := Lib.hid (F33.out.trans ha36)
  have B44 : Hid (Blk (w4.alloc (.cells #[.int .i64 L, .int .i64 R, .slice (some ⟨gx0, 0, none⟩) ps.length ps.length] 27)) (w4.heap.size) 27 #[.int .i64 L, .int .i64 R, .slice (some ⟨gx0, 0, none⟩) ps.length ps.length]) := Blk.new _ _ _
  clear ha36 B29 B30 B31 R32 R34 F33
  have c45 : World.cell? (w4.alloc (.cells #[.int .i64 L, .int .i64 R, .slice (some ⟨gx0, 0, none⟩) ps.length ps.length] 27)) ⟨w.heap.size + 1, 0, none⟩ = some (.int .i64 L2) := (B39.out.cell 0).trans rfl
  have c46 : World.cell? (w4.alloc (.cells #[.int .i64 L, .int .i64 R, .slice (some ⟨gx0, 0, none⟩) ps.length ps.length] 27)) ⟨w.heap.size + 1, 1, none⟩ = some (.int .i64 R2) := (B39.out.cell 1).trans rfl
  have c47 : World.cell? (w4.alloc (.cells #[.int .i64 L, .int .i64 R, .slice (some ⟨gx0, 0, none⟩) ps.length ps.length] 27)) ⟨w.heap.size + 1, 2, none⟩ = some (.slice A2 qs.length c2) := (B39.out.cell 2).trans rfl
  go_wp2_with fail
  generalize (w4.alloc (.cells #[.int .i64 L, .int .i64 R, .slice (some ⟨gx0, 0, none⟩) ps.length ps.length] 27)) = w5 at *
  refine (CP2.out _ F43.out).mono ?_
  rintro e w6 ⟨gx1, rfl, hb, hf, hown⟩
  have hor : OR w6 (w5.heap.size) (some ⟨gx1, 0, none⟩) qs.length qs.length qs := ⟨rfl, hown⟩
  have m48 := Lib.hid hf.size
  have B49 := Lib.hid (B38.out.fr hf (fun h => h))
  have B50 := Lib.hid (B39.out.fr hf (fun h => h))
  have B51 := Lib.hid (B40.out.fr hf (fun h => h))
  have B52 := Lib.hid (B44.out.fr hf (fun h => h))
  have R53 := Lib.hid (R41.out.fr hf (fun _ _ h => h))
  have R54 := Lib.hid (R42.out.fr hf (fun _ _ h => h))
  have F55 := Lib.hid (F43.out.trans hf)
  have R56 := Lib.hid hor
  have bd57 : Hid (∀ b, Own (some ⟨gx1, 0, none⟩) b → w5.heap.size ≤ b ∧ b < (w6).heap.size) := fun b hb => OR.bounds hor hb
  clear hf hb hown hor B38 B39 B40 B44 R41 R42 F43 c45 c46 c47
  have ha58 : Fr No w6 (w6.alloc (.cells #[.int .i64 L2, .int .i64 R2, .slice (some ⟨gx1, 0, none⟩) qs.length qs.length] 27)) := (Fr.refl No w6).alloc _
  have m59 := Lib.hid ha58.size
  have B60 := Lib.hid (B49.out.fr ha58 (fun h => h))
  have B61 := Lib.hid (B50.out.fr ha58 (fun h => h))
  have B62 := Lib.hid (B51.out.fr ha58 (fun h => h))
  have B63 := Lib.hid (B52.out.fr ha58 (fun h => h))
  have R64 := Lib.hid (R53.out.fr ha58 (fun _ _ h => h))
  have R65 := Lib.hid (R54.out.fr ha58 (fun _ _ h => h))
  have R66 := Lib.hid (R56.out.fr ha58 (fun _ _ h => h))
  have F67 := Lib.hid (F55.out.trans ha58)
  have B68 : Hid (Blk (w6.alloc (.cells #[.int .i64 L2, .int .i64 R2, .slice (some ⟨gx1, 0, none⟩) qs.length qs.length] 27)) (w6.heap.size) 27 #[.int .i64 L2, .int .i64 R2, .slice (some ⟨gx1, 0, none⟩) qs.length qs.length]) := Blk.new _ _ _
  clear ha58 B49 B50 B51 B52 R53 R54 R56 F55
  have c69 : World.cell? (w6.alloc (.cells #[.int .i64 L2, .int .i64 R2, .slice (some ⟨gx1, 0, none⟩) qs.length qs.length] 27)) ⟨w4.heap.size, 0, none⟩ = some (.int .i64 L) := (B63.out.cell 0).trans rfl
  have c70 : World.cell? (w6.alloc (.cells #[.int .i64 L2, .int .i64 R2, .slice (some ⟨gx1, 0, none⟩) qs.length qs.length] 27)) ⟨w4.heap.size, 1, none⟩ = some (.int .i64 R) := (B63.out.cell 1).trans rfl
  have c71 : World.cell? (w6.alloc (.cells #[.int .i64 L2, .int .i64 R2, .slice (some ⟨gx1, 0, none⟩) qs.length qs.length] 27)) ⟨w4.heap.size, 2, none⟩ = some (.slice (some ⟨gx0, 0, none⟩) ps.length ps.length) := (B63.out.cell 2).trans rfl
  go_wp2_with fail
  generalize (w6.alloc (.cells #[.int .i64 L2, .int .i64 R2, .slice (some ⟨gx1, 0, none⟩) qs.length qs.length] 27)) = w7 at *
  refine (IM.out _ _ _ F67.out (OR.isl R65.out) (by have := HN.out; omega) (OR.isl R66.out) (by have := HN2.out; omega)).mono ?_
  rintro e w8 ⟨Ag, ng, cg, rfl, hf, hor⟩
  have m72 := Lib.hid hf.size
  have B73 := Lib.hid (B60.out.fr hf (fun h => h))
  have B74 := Lib.hid (B61.out.fr hf (fun h => h))
  have B75 := Lib.hid (B62.out.fr hf (fun h => h))
  have B76 := Lib.hid (B63.out.fr hf (fun h => h))
  have B77 := Lib.hid (B68.out.fr hf (fun h => h))
  have R78 := Lib.hid (R64.out.fr hf (fun _ _ h => h))
  have R79 := Lib.hid (R65.out.fr hf (fun _ _ h => h))
  have R80 := Lib.hid (R66.out.fr hf (fun _ _ h => h))
  have F81 := Lib.hid (F67.out.trans hf)
  have R82 := Lib.hid hor
  have bd83 : Hid (∀ b, Own Ag b → w7.heap.size ≤ b ∧ b < (w8).heap.size) := fun b hb => OR.bounds hor hb
  clear hf hor B60 B61 B62 B63 B68 R64 R65 R66 F67 c69 c70 c71
  have ha84 : Fr No w8 (w8.alloc (.cells #[.int .i64 Lo, .int .i64 Ro, .slice Ag ng cg] 27)) := (Fr.refl No w8).alloc _
  have m85 := Lib.hid ha84.size
  have B86 := Lib.hid (B73.out.fr ha84 (fun h => h))
  have B87 := Lib.hid (B74.out.fr ha84 (fun h => h))
  have B88 := Lib.hid (B75.out.fr ha84 (fun h => h))
  have B89 := Lib.hid (B76.out.fr ha84 (fun h => h))
  have B90 := Lib.hid (B77.out.fr ha84 (fun h => h))
  have R91 := Lib.hid (R78.out.fr ha84 (fun _ _ h => h))
  have R92 := Lib.hid (R79.out.fr ha84 (fun _ _ h => h))
  have R93 := Lib.hid (R80.out.fr ha84 (fun _ _ h => h))
  have R94 := Lib.hid (R82.out.fr ha84 (fun _ _ h => h))
  have F95 := Lib.hid (F81.out.trans ha84)
  have B96 : Hid (Blk (w8.alloc (.cells #[.int .i64 Lo, .int .i64 Ro, .slice Ag ng cg] 27)) (w8.heap.size) 27 #[.int .i64 Lo, .int .i64 Ro, .slice Ag ng cg]) := Blk.new _ _ _
  clear ha84 B73 B74 B75 B76 B77 R78 R79 R80 R82 F81
  have c97 : World.cell? (w8.alloc (.cells #[.int .i64 Lo, .int .i64 Ro, .slice Ag ng cg] 27)) ⟨kbs, 0, none⟩ = some (.int .i64 Lo) := (B88.out.cell 0).trans rfl
  have c98 : World.cell? (w8.alloc (.cells #[.int .i64 Lo, .int .i64 Ro, .slice Ag ng cg] 27)) ⟨kbs, 1, none⟩ = some (.int .i64 Ro) := (B88.out.cell 1).trans rfl
  have c99 : World.cell? (w8.alloc (.cells #[.int .i64 Lo, .int .i64 Ro, .slice Ag ng cg] 27)) ⟨kbs, 2, none⟩ = some (.slice As ns cs) := (B88.out.cell 2).trans rfl
  go_wp2_with fail
  generalize (w8.alloc (.cells #[.int .i64 Lo, .int .i64 Ro, .slice Ag ng cg] 27)) = w9 at *
  have hEQ : Calls Tryd.prog 24 #[RV Lo Ro Ag ng cg, RV Lo Ro As ns cs] w9 fun e w' => e = .returned (.bool true) ∧ Fr No w9 w' := by
    rw [R94.out.1, R91.out.1]
    refine (eqRel_any w9 Lo Ro Lo Ro Ag As Po Po cg cs (OR.isl R94.out) (OR.isl R91.out) (by have := HLEN.out; omega) (by have := HLEN.out; omega)).mono ?_
    rintro e w' ⟨b, rfl, hb, hf⟩
    obtain rfl : b = true := hb.2 ⟨rfl, rfl, rfl⟩
    exact ⟨rfl, hf⟩
  have HEQ := Lib.hid hEQ
  clear hEQ
  refine (HEQ.out).mono ?_
  rintro e w10 ⟨rfl, hf⟩
  have m100 := Lib.hid hf.size
  have B101 := Lib.hid (B86.out.fr hf (fun h => h))
  have B102 := Lib.hid (B87.out.fr hf (fun h => h))
  have B103 := Lib.hid (B88.out.fr hf (fun h => h))
  have B104 := Lib.hid (B89.out.fr hf (fun h => h))
  have B105 := Lib.hid (B90.out.fr hf (fun h => h))
  have B106 := Lib.hid (B96.out.fr hf (fun h => h))
  have R107 := Lib.hid (R91.out.fr hf (fun _ _ h => h))
  have R108 := Lib.hid (R92.out.fr hf (fun _ _ h => h))
  have R109 := Lib.hid (R93.out.fr hf (fun _ _ h => h))
  have R110 := Lib.hid (R94.out.fr hf (fun _ _ h => h))
  have F111 := Lib.hid (F95.out.trans hf)
  clear hf HEQ B86 B87 B88 B89 B90 B96 R91 R92 R93 R94 F95 c97 c98 c99
  have c112 : World.cell? w10 ⟨w4.heap.size, 0, none⟩ = some (.int .i64 L) := (B104.out.cell 0).trans rfl
  have c113 : World.cell? w10 ⟨w4.heap.size, 1, none⟩ = some (.int .i64 R) := (B104.out.cell 1).trans rfl
  have c114 : World.cell? w10 ⟨w4.heap.size, 2, none⟩ = some (.slice (some ⟨gx0, 0, none⟩) ps.length ps.length) := (B104.out.cell 2).trans rfl
  have c115 : World.cell? w10 ⟨w.heap.size, 0, none⟩ = some (.int .i64 L) := (B101.out.cell 0).trans rfl
  have c116 : World.cell? w10 ⟨w.heap.size, 1, none⟩ = some (.int .i64 R) := (B101.out.cell 1).trans rfl
  have c117 : World.cell? w10 ⟨w.heap.size, 2, none⟩ = some (.slice A ps.length c) := (B101.out.cell 2).trans rfl
  have CC : Hid (∀ W, Fr No w10 W → W.cell? ⟨w4.heap.size, 0, none⟩ = some (.int .i64 L) ∧ W.cell? ⟨w4.heap.size, 1, none⟩ = some (.int .i64 R) ∧ W.cell? ⟨w4.heap.size, 2, none⟩ = some (.slice (some ⟨gx0, 0, none⟩) ps.length ps.length) ∧ W.cell? ⟨w.heap.size, 0, none⟩ = some (.int .i64 L) ∧ W.cell? ⟨w.heap.size, 1, none⟩ = some (.int .i64 R) ∧ W.cell? ⟨w.heap.size, 2, none⟩ = some (.slice A ps.length c)) := fun W hf => ⟨((B104.out.fr hf (fun h => h)).cell 0).trans rfl, ((B104.out.fr hf (fun h => h)).cell 1).trans rfl, ((B104.out.fr hf (fun h => h)).cell 2).trans rfl, ((B101.out.fr hf (fun h => h)).cell 0).trans rfl, ((B101.out.fr hf (fun h => h)).cell 1).trans rfl, ((B101.out.fr hf (fun h => h)).cell 2).trans rfl⟩
  have hD : Fr No w10 w10.drew := (Fr.refl _ _).drew
  have CP5 : Hid (∀ W, Fr No w10 W → Calls Tryd.prog 32 #[RV L R A ps.length c] W fun e w2 => ∃ g, e = .returned (RV L R (some ⟨g, 0, none⟩) ps.length ps.length) ∧ Fr No w10 w2 ∧ ISl w2 (some ⟨g, 0, none⟩) ps) := fun W hf => (CP.out W (F111.out.trans hf)).mono (by rintro e w2 ⟨g, h1, _, h2, h3⟩; exact ⟨g, h1, hf.trans h2, ISl.of_own h3⟩)
  have EQ5 : Hid (∀ W g', Fr No w10 W → ISl W (some ⟨g', 0, none⟩) ps → Calls Tryd.prog 24 #[RV L R (some ⟨gx0, 0, none⟩) ps.length ps.length, RV L R (some ⟨g', 0, none⟩) ps.length ps.length] W fun e w2 => e = .returned (.bool true) ∧ Fr No w10 w2) := fun W g' hf hg => (eqRel_any W L R L R (some ⟨gx0, 0, none⟩) _ ps ps _ _ ((OR.isl R108.out).keep hf (fun _ h => h.elim)) hg (by have := HN.out; omega) (by have := HN.out; omega)).mono (by rintro e w2 ⟨b, rfl, hb, hf2⟩; obtain rfl : b = true := hb.2 ⟨rfl, rfl, rfl⟩; exact ⟨rfl, hf.trans hf2⟩)
  go_wp2_with fail
  go_region_held3 (fun w' => w'.cell? ⟨w4.heap.size, 0, none⟩ = some (.int .i64 L) ∧ w'.cell? ⟨w4.heap.size, 1, none⟩ = some (.int .i64 R) ∧ w'.cell? ⟨w4.heap.size, 2, none⟩ = some (.slice (some ⟨gx0, 0, none⟩) ps.length ps.length) ∧ w'.cell? ⟨w.heap.size, 0, none⟩ = some (.int .i64 L) ∧ w'.cell? ⟨w.heap.size, 1, none⟩ = some (.int .i64 R) ∧ w'.cell? ⟨w.heap.size, 2, none⟩ = some (.slice A ps.length c)) (go_keep)
    (first | (go_at_call 32; ((with_reducible refine (CP5.out _ hD).mono ?_); rintro e wq6 ⟨ge0, rfl, s6, i6⟩; obtain ⟨z0, z1, z2, z3, z4, z5⟩ := CC.out wq6 s6)) | (go_at_call 24; ((with_reducible refine (EQ5.out _ _ s6 i6).mono ?_); rintro e wq7 ⟨rfl, s7⟩; obtain ⟨p0, p1, p2, p3, p4, p5⟩ := CC.out wq7 s7)))
  have m118 := Lib.hid s7.size
  have B119 := Lib.hid (B101.out.fr s7 (fun h => h))
  have B120 := Lib.hid (B102.out.fr s7 (fun h => h))
  have B121 := Lib.hid (B103.out.fr s7 (fun h => h))
  have B122 := Lib.hid (B104.out.fr s7 (fun h => h))
  have B123 := Lib.hid (B105.out.fr s7 (fun h => h))
  have B124 := Lib.hid (B106.out.fr s7 (fun h => h))
  have R125 := Lib.hid (R107.out.fr s7 (fun _ _ h => h))
  have R126 := Lib.hid (R108.out.fr s7 (fun _ _ h => h))
  have R127 := Lib.hid (R109.out.fr s7 (fun _ _ h => h))
  have R128 := Lib.hid (R110.out.fr s7 (fun _ _ h => h))
  have F129 := Lib.hid (F111.out.trans s7)
  clear s7 B101 B102 B103 B104 B105 B106 R107 R108 R109 R110 F111 c112 c113 c114 c115 c116 c117 z0 z1 z2 z3 z4 z5 p0 p1 p2 p3 p4 p5 CC CP5 EQ5 hD s6 i6
  generalize wq7 = w11 at *
  have c130 : World.cell? w11 ⟨w6.heap.size, 0, none⟩ = some (.int .i64 L2) := (B123.out.cell 0).trans rfl
  have c131 : World.cell? w11 ⟨w6.heap.size, 1, none⟩ = some (.int .i64 R2) := (B123.out.cell 1).trans rfl
  have c132 : World.cell? w11 ⟨w6.heap.size, 2, none⟩ = some (.slice (some ⟨gx1, 0, none⟩) qs.length qs.length) := (B123.out.cell 2).trans rfl
  have c133 : World.cell? w11 ⟨w.heap.size + 1, 0, none⟩ = some (.int .i64 L2) := (B120.out.cell 0).trans rfl
  have c134 : World.cell? w11 ⟨w.heap.size + 1, 1, none⟩ = some (.int .i64 R2) := (B120.out.cell 1).trans rfl
  have c135 : World.cell? w11 ⟨w.heap.size + 1, 2, none⟩ = some (.slice A2 qs.length c2) := (B120.out.cell 2).trans rfl
  have CC : Hid (∀ W, Fr No w11 W → W.cell? ⟨w6.heap.size, 0, none⟩ = some (.int .i64 L2) ∧ W.cell? ⟨w6.heap.size, 1, none⟩ = some (.int .i64 R2) ∧ W.cell? ⟨w6.heap.size, 2, none⟩ = some (.slice (some ⟨gx1, 0, none⟩) qs.length qs.length) ∧ W.cell? ⟨w.heap.size + 1, 0, none⟩ = some (.int .i64 L2) ∧ W.cell? ⟨w.heap.size + 1, 1, none⟩ = some (.int .i64 R2) ∧ W.cell? ⟨w.heap.size + 1, 2, none⟩ = some (.slice A2 qs.length c2)) := fun W hf => ⟨((B123.out.fr hf (fun h => h)).cell 0).trans rfl, ((B123.out.fr hf (fun h => h)).cell 1).trans rfl, ((B123.out.fr hf (fun h => h)).cell 2).trans rfl, ((B120.out.fr hf (fun h => h)).cell 0).trans rfl, ((B120.out.fr hf (fun h => h)).cell 1).trans rfl, ((B120.out.fr hf (fun h => h)).cell 2).trans rfl⟩
  have hD : Fr No w11 w11.drew := (Fr.refl _ _).drew
  have CP5 : Hid (∀ W, Fr No w11 W → Calls Tryd.prog 32 #[RV L2 R2 A2 qs.length c2] W fun e w2 => ∃ g, e = .returned (RV L2 R2 (some ⟨g, 0, none⟩) qs.length qs.length) ∧ Fr No w11 w2 ∧ ISl w2 (some ⟨g, 0, none⟩) qs) := fun W hf => (CP2.out W (F129.out.trans hf)).mono (by rintro e w2 ⟨g, h1, _, h2, h3⟩; exact ⟨g, h1, hf.trans h2, ISl.of_own h3⟩)
  have EQ5 : Hid (∀ W g', Fr No w11 W → ISl W (some ⟨g', 0, none⟩) qs → Calls Tryd.prog 24 #[RV L2 R2 (some ⟨gx1, 0, none⟩) qs.length qs.length, RV L2 R2 (some ⟨g', 0, none⟩) qs.length qs.length] W fun e w2 => e = .returned (.bool true) ∧ Fr No w11 w2) := fun W g' hf hg => (eqRel_any W L2 R2 L2 R2 (some ⟨gx1, 0, none⟩) _ qs qs _ _ ((OR.isl R127.out).keep hf (fun _ h => h.elim)) hg (by have := HN2.out; omega) (by have := HN2.out; omega)).mono (by rintro e w2 ⟨b, rfl, hb, hf2⟩; obtain rfl : b = true := hb.2 ⟨rfl, rfl, rfl⟩; exact ⟨rfl, hf.trans hf2⟩)
  go_wp2_with fail
  go_region_held3 (fun w' => w'.cell? ⟨w6.heap.size, 0, none⟩ = some (.int .i64 L2) ∧ w'.cell? ⟨w6.heap.size, 1, none⟩ = some (.int .i64 R2) ∧ w'.cell? ⟨w6.heap.size, 2, none⟩ = some (.slice (some ⟨gx1, 0, none⟩) qs.length qs.length) ∧ w'.cell? ⟨w.heap.size + 1, 0, none⟩ = some (.int .i64 L2) ∧ w'.cell? ⟨w.heap.size + 1, 1, none⟩ = some (.int .i64 R2) ∧ w'.cell? ⟨w.heap.size + 1, 2, none⟩ = some (.slice A2 qs.length c2)) (go_keep)
    (first | (go_at_call 32; ((with_reducible refine (CP5.out _ hD).mono ?_); rintro e wq6 ⟨ge1, rfl, s6, i6⟩; obtain ⟨z0, z1, z2, z3, z4, z5⟩ := CC.out wq6 s6)) | (go_at_call 24; ((with_reducible refine (EQ5.out _ _ s6 i6).mono ?_); rintro e wq7 ⟨rfl, s7⟩; obtain ⟨p0, p1, p2, p3, p4, p5⟩ := CC.out wq7 s7)))
  have m136 := Lib.hid s7.size
  have B137 := Lib.hid (B119.out.fr s7 (fun h => h))
  have B138 := Lib.hid (B120.out.fr s7 (fun h => h))
  have B139 := Lib.hid (B121.out.fr s7 (fun h => h))
  have B140 := Lib.hid (B122.out.fr s7 (fun h => h))
  have B141 := Lib.hid (B123.out.fr s7 (fun h => h))
  have B142 := Lib.hid (B124.out.fr s7 (fun h => h))
  have R143 := Lib.hid (R125.out.fr s7 (fun _ _ h => h))
  have R144 := Lib.hid (R126.out.fr s7 (fun _ _ h => h))
  have R145 := Lib.hid (R127.out.fr s7 (fun _ _ h => h))
  have R146 := Lib.hid (R128.out.fr s7 (fun _ _ h => h))
  have F147 := Lib.hid (F129.out.trans s7)
  clear s7 B119 B120 B121 B122 B123 B124 R125 R126 R127 R128 F129 c130 c131 c132 c133 c134 c135 z0 z1 z2 z3 z4 z5 p0 p1 p2 p3 p4 p5 CC CP5 EQ5 hD s6 i6
  generalize wq7 = w12 at *
  have c148 : World.cell? w12 ⟨w4.heap.size, 0, none⟩ = some (.int .i64 L) := (B140.out.cell 0).trans rfl
  have c149 : World.cell? w12 ⟨w4.heap.size, 1, none⟩ = some (.int .i64 R) := (B140.out.cell 1).trans rfl
  have c150 : World.cell? w12 ⟨w4.heap.size, 2, none⟩ = some (.slice (some ⟨gx0, 0, none⟩) ps.length ps.length) := (B140.out.cell 2).trans rfl
  go_wp2_with fail
  refine (markR_any _ _ L R (some ⟨gx0, 0, none⟩) _ _ 1 _ (by decide) (by have := HN.out; omega) R144.out).mono ?_
  rintro e w13 ⟨rfl, hf, hor⟩
  have m151 := Lib.hid hf.size
  have B152 := Lib.hid (B137.out.fr hf (R144.out.other B137.out (by decide)))
  have B153 := Lib.hid (B138.out.fr hf (R144.out.other B138.out (by decide)))
  have B154 := Lib.hid (B139.out.fr hf (R144.out.other B139.out (by decide)))
  have B155 := Lib.hid (B140.out.fr hf (R144.out.other B140.out (by decide)))
  have B156 := Lib.hid (B141.out.fr hf (R144.out.other B141.out (by decide)))
  have B157 := Lib.hid (B142.out.fr hf (R144.out.other B142.out (by decide)))
  have R158 := Lib.hid (R143.out.fr hf (fun b h1 h2 => by have e1 := bd23.out b h1; have e2 := bd35.out b h2; have := m0.out; have := m1.out; have := m8.out; have := m18.out; have := m28.out; have := m37.out; have := m48.out; have := m59.out; have := m72.out; have := m85.out; have := m100.out; have := m118.out; have := m136.out; omega))
  have R159 := Lib.hid (R145.out.fr hf (fun b h1 h2 => by have e1 := bd57.out b h1; have e2 := bd35.out b h2; have := m0.out; have := m1.out; have := m8.out; have := m18.out; have := m28.out; have := m37.out; have := m48.out; have := m59.out; have := m72.out; have := m85.out; have := m100.out; have := m118.out; have := m136.out; omega))
  have R160 := Lib.hid (R146.out.fr hf (fun b h1 h2 => by have e1 := bd83.out b h1; have e2 := bd35.out b h2; have := m0.out; have := m1.out; have := m8.out; have := m18.out; have := m28.out; have := m37.out; have := m48.out; have := m59.out; have := m72.out; have := m85.out; have := m100.out; have := m118.out; have := m136.out; omega))
  have F161 := Lib.hid (F147.out.then_ hf (fun b hb h => by have e1 := bd35.out b h; have := m0.out; have := m1.out; have := m8.out; have := m18.out; have := m28.out; have := m37.out; have := m48.out; have := m59.out; have := m72.out; have := m85.out; have := m100.out; have := m118.out; have := m136.out; omega))
  clear hf hor B137 B138 B139 B140 B141 B142 R143 R145 R146 F147 c148 c149 c150
  have c162 : World.cell? w13 ⟨w6.heap.size, 0, none⟩ = some (.int .i64 L2) := (B156.out.cell 0).trans rfl
  have c163 : World.cell? w13 ⟨w6.heap.size, 1, none⟩ = some (.int .i64 R2) := (B156.out.cell 1).trans rfl
  have c164 : World.cell? w13 ⟨w6.heap.size, 2, none⟩ = some (.slice (some ⟨gx1, 0, none⟩) qs.length qs.length) := (B156.out.cell 2).trans rfl
  go_wp2_with fail
  refine (markR_any _ _ L2 R2 (some ⟨gx1, 0, none⟩) _ _ (1 + ps.length) _ (by have := HN.out; omega) (by have := HN2.out; omega) R159.out).mono ?_
  rintro e w14 ⟨rfl, hf, hor⟩
  have m165 := Lib.hid hf.size
  have B166 := Lib.hid (B152.out.fr hf (R159.out.other B152.out (by decide)))
  have B167 := Lib.hid (B153.out.fr hf (R159.out.other B153.out (by decide)))
  have B168 := Lib.hid (B154.out.fr hf (R159.out.other B154.out (by decide)))
  have B169 := Lib.hid (B155.out.fr hf (R159.out.other B155.out (by decide)))
  have B170 := Lib.hid (B156.out.fr hf (R159.out.other B156.out (by decide)))
  have B171 := Lib.hid (B157.out.fr hf (R159.out.other B157.out (by decide)))
  have R172 := Lib.hid (R158.out.fr hf (fun b h1 h2 => by have e1 := bd23.out b h1; have e2 := bd57.out b h2; have := m0.out; have := m1.out; have := m8.out; have := m18.out; have := m28.out; have := m37.out; have := m48.out; have := m59.out; have := m72.out; have := m85.out; have := m100.out; have := m118.out; have := m136.out; have := m151.out; omega))
  have R173 := Lib.hid (R160.out.fr hf (fun b h1 h2 => by have e1 := bd83.out b h1; have e2 := bd57.out b h2; have := m0.out; have := m1.out; have := m8.out; have := m18.out; have := m28.out; have := m37.out; have := m48.out; have := m59.out; have := m72.out; have := m85.out; have := m100.out; have := m118.out; have := m136.out; have := m151.out; omega))
  have F174 := Lib.hid (F161.out.then_ hf (fun b hb h => by have e1 := bd57.out b h; have := m0.out; have := m1.out; have := m8.out; have := m18.out; have := m28.out; have := m37.out; have := m48.out; have := m59.out; have := m72.out; have := m85.out; have := m100.out; have := m118.out; have := m136.out; have := m151.out; omega))
  clear hf hor B152 B153 B154 B155 B156 B157 R158 R160 F161 c162 c163 c164
  have hk1 : ¬ (((1 + ps.length + qs.length : Nat) : Int) < 0) := by omega
  have c175 : World.cell? w14 ⟨w8.heap.size, 0, none⟩ = some (.int .i64 Lo) := (B171.out.cell 0).trans rfl
  have c176 : World.cell? w14 ⟨w8.heap.size, 1, none⟩ = some (.int .i64 Ro) := (B171.out.cell 1).trans rfl
  have c177 : World.cell? w14 ⟨w8.heap.size, 2, none⟩ = some (.slice Ag ng cg) := (B171.out.cell 2).trans rfl
  have c178 : World.cell? w14 ⟨kbs, 0, none⟩ = some (.int .i64 Lo) := (B168.out.cell 0).trans rfl
  have c179 : World.cell? w14 ⟨kbs, 1, none⟩ = some (.int .i64 Ro) := (B168.out.cell 1).trans rfl
  have c180 : World.cell? w14 ⟨kbs, 2, none⟩ = some (.slice As ns cs) := (B168.out.cell 2).trans rfl
  go_wp2_with fail
  have hEQ : Calls Tryd.prog 24 #[RV Lo Ro Ag ng cg, RV Lo Ro As ns cs] w14 fun e w' => e = .returned (.bool true) ∧ Fr No w14 w' := by
    rw [R173.out.1, R172.out.1]
    refine (eqRel_any w14 Lo Ro Lo Ro Ag As Po Po cg cs (OR.isl R173.out) (OR.isl R172.out) (by have := HLEN.out; omega) (by have := HLEN.out; omega)).mono ?_
    rintro e w' ⟨b, rfl, hb, hf⟩
    obtain rfl : b = true := hb.2 ⟨rfl, rfl, rfl⟩
    exact ⟨rfl, hf⟩
  have HEQ := Lib.hid hEQ
  clear hEQ
  refine (HEQ.out).mono ?_
  rintro e w15 ⟨rfl, hf⟩
  have m181 := Lib.hid hf.size
  have B182 := Lib.hid (B166.out.fr hf (fun h => h))
  have B183 := Lib.hid (B167.out.fr hf (fun h => h))
  have B184 := Lib.hid (B168.out.fr hf (fun h => h))
  have B185 := Lib.hid (B169.out.fr hf (fun h => h))
  have B186 := Lib.hid (B170.out.fr hf (fun h => h))
  have B187 := Lib.hid (B171.out.fr hf (fun h => h))
  have R188 := Lib.hid (R172.out.fr hf (fun _ _ h => h))
  have R189 := Lib.hid (R173.out.fr hf (fun _ _ h => h))
  have F190 := Lib.hid (F174.out.trans hf)
  clear hf HEQ B166 B167 B168 B169 B170 B171 R172 R173 F174 hk1 c175 c176 c177 c178 c179 c180
  have c191 : World.cell? w15 ⟨w8.heap.size, 0, none⟩ = some (.int .i64 Lo) := (B187.out.cell 0).trans rfl
  have c192 : World.cell? w15 ⟨w8.heap.size, 1, none⟩ = some (.int .i64 Ro) := (B187.out.cell 1).trans rfl
  have c193 : World.cell? w15 ⟨w8.heap.size, 2, none⟩ = some (.slice Ag ng cg) := (B187.out.cell 2).trans rfl
  go_wp2_with fail
  refine (markR_any _ _ Lo Ro Ag _ _ 1 _ (by decide) (by have := HLEN.out; have := R189.out.1; omega) R189.out).mono ?_
  rintro e w16 ⟨rfl, hf, hor⟩
  have HNR : Hid (ng ≤ 1048576) := by have := HLEN.out; have := R189.out.1; show _ ≤ _; omega
  have m194 := Lib.hid hf.size
  have B195 := Lib.hid (B182.out.fr hf (R189.out.other B182.out (by decide)))
  have B196 := Lib.hid (B183.out.fr hf (R189.out.other B183.out (by decide)))
  have B197 := Lib.hid (B184.out.fr hf (R189.out.other B184.out (by decide)))
  have B198 := Lib.hid (B185.out.fr hf (R189.out.other B185.out (by decide)))
  have B199 := Lib.hid (B186.out.fr hf (R189.out.other B186.out (by decide)))
  have B200 := Lib.hid (B187.out.fr hf (R189.out.other B187.out (by decide)))
  have R201 := Lib.hid (R188.out.fr hf (fun b h1 h2 => by have e1 := bd23.out b h1; have e2 := bd83.out b h2; have := m0.out; have := m1.out; have := m8.out; have := m18.out; have := m28.out; have := m37.out; have := m48.out; have := m59.out; have := m72.out; have := m85.out; have := m100.out; have := m118.out; have := m136.out; have := m151.out; have := m165.out; have := m181.out; omega))
  have F202 := Lib.hid (F190.out.then_ hf (fun b hb h => by have e1 := bd83.out b h; have := m0.out; have := m1.out; have := m8.out; have := m18.out; have := m28.out; have := m37.out; have := m48.out; have := m59.out; have := m72.out; have := m85.out; have := m100.out; have := m118.out; have := m136.out; have := m151.out; have := m165.out; have := m181.out; omega))
  have R203 := Lib.hid hor
  clear hf hor B182 B183 B184 B185 B186 B187 R188 F190 R189 c191 c192 c193
  have c204 : World.cell? w16 ⟨w8.heap.size, 0, none⟩ = some (.int .i64 Lo) := (B200.out.cell 0).trans rfl
  have c205 : World.cell? w16 ⟨w8.heap.size, 1, none⟩ = some (.int .i64 Ro) := (B200.out.cell 1).trans rfl
  have c206 : World.cell? w16 ⟨w8.heap.size, 2, none⟩ = some (.slice Ag ng cg) := (B200.out.cell 2).trans rfl
  go_wp2_with fail
  refine (heldR_any _ _ Lo Ro Ag _ _ 1 (by decide) (by have := HNR.out; omega) R203.out).mono ?_
  rintro e w17 ⟨rfl, hf⟩
  have m207 := Lib.hid hf.size
  have B208 := Lib.hid (B195.out.fr hf (fun h => h))
  have B209 := Lib.hid (B196.out.fr hf (fun h => h))
  have B210 := Lib.hid (B197.out.fr hf (fun h => h))
  have B211 := Lib.hid (B198.out.fr hf (fun h => h))
  have B212 := Lib.hid (B199.out.fr hf (fun h => h))
  have B213 := Lib.hid (B200.out.fr hf (fun h => h))
  have R214 := Lib.hid (R201.out.fr hf (fun _ _ h => h))
  have R215 := Lib.hid (R203.out.fr hf (fun _ _ h => h))
  have F216 := Lib.hid (F202.out.trans hf)
  clear hf B195 B196 B197 B198 B199 B200 R201 R203 F202 c204 c205 c206
  have hq : ¬ (((1 + ng : Nat) : Int) < 0) := by omega
  have c217 : World.cell? w17 ⟨w.heap.size, 0, none⟩ = some (.int .i64 L) := (B208.out.cell 0).trans rfl
  have c218 : World.cell? w17 ⟨w.heap.size, 1, none⟩ = some (.int .i64 R) := (B208.out.cell 1).trans rfl
  have c219 : World.cell? w17 ⟨w.heap.size, 2, none⟩ = some (.slice A ps.length c) := (B208.out.cell 2).trans rfl
  have c220 : World.cell? w17 ⟨w.heap.size + 1, 0, none⟩ = some (.int .i64 L2) := (B209.out.cell 0).trans rfl
  have c221 : World.cell? w17 ⟨w.heap.size + 1, 1, none⟩ = some (.int .i64 R2) := (B209.out.cell 1).trans rfl
  have c222 : World.cell? w17 ⟨w.heap.size + 1, 2, none⟩ = some (.slice A2 qs.length c2) := (B209.out.cell 2).trans rfl
  have CC : Hid (∀ W, Fr No w17 W → W.cell? ⟨w.heap.size, 0, none⟩ = some (.int .i64 L) ∧ W.cell? ⟨w.heap.size, 1, none⟩ = some (.int .i64 R) ∧ W.cell? ⟨w.heap.size, 2, none⟩ = some (.slice A ps.length c) ∧ W.cell? ⟨w.heap.size + 1, 0, none⟩ = some (.int .i64 L2) ∧ W.cell? ⟨w.heap.size + 1, 1, none⟩ = some (.int .i64 R2) ∧ W.cell? ⟨w.heap.size + 1, 2, none⟩ = some (.slice A2 qs.length c2)) := fun W hf => ⟨((B208.out.fr hf (fun h => h)).cell 0).trans rfl, ((B208.out.fr hf (fun h => h)).cell 1).trans rfl, ((B208.out.fr hf (fun h => h)).cell 2).trans rfl, ((B209.out.fr hf (fun h => h)).cell 0).trans rfl, ((B209.out.fr hf (fun h => h)).cell 1).trans rfl, ((B209.out.fr hf (fun h => h)).cell 2).trans rfl⟩
  have hD : Fr No w17 w17.drew := (Fr.refl _ _).drew
  have CA : Hid (∀ V, Fr No w17 V → Calls Tryd.prog 32 #[RV L R A ps.length c] V fun e w2 => ∃ g, e = .returned (RV L R (some ⟨g, 0, none⟩) ps.length ps.length) ∧ Fr No V w2 ∧ Hid (ISl w2 (some ⟨g, 0, none⟩) ps)) := fun V hf => (CP.out V (F216.out.trans hf)).mono (by rintro e w2 ⟨g, h1, _, h2, h3⟩; exact ⟨g, h1, h2, ISl.of_own h3⟩)
  have CB : Hid (∀ V0 V ga, Hid (ISl V0 (some ⟨ga, 0, none⟩) ps) → Fr No V0 V → Fr No w17 V → Calls Tryd.prog 32 #[RV L2 R2 A2 qs.length c2] V fun e w2 => ∃ g, e = .returned (RV L2 R2 (some ⟨g, 0, none⟩) qs.length qs.length) ∧ Fr No V w2 ∧ Hid (ISl w2 (some ⟨ga, 0, none⟩) ps ∧ ISl w2 (some ⟨g, 0, none⟩) qs)) := fun V0 V ga hi h0 hf => (CP2.out V (F216.out.trans hf)).mono (by rintro e w2 ⟨g, h1, _, h2, h3⟩; exact ⟨g, h1, h2, (hi.out.keep h0 (fun _ h => h.elim)).keep h2 (fun _ h => h.elim), ISl.of_own h3⟩)
  have CJ : Hid (∀ V0 V ga gb, Hid (ISl V0 (some ⟨ga, 0, none⟩) ps ∧ ISl V0 (some ⟨gb, 0, none⟩) qs) → Fr No V0 V → Fr No w17 V → Calls Tryd.prog 18 #[RV L R (some ⟨ga, 0, none⟩) ps.length ps.length, RV L2 R2 (some ⟨gb, 0, none⟩) qs.length qs.length] V fun e w2 => ∃ A n c, e = .returned (.tuple #[RV Lo Ro A n c, .bool bo]) ∧ Fr No V w2 ∧ Hid (OR w2 w17.heap.size A n c Po)) := fun V0 V ga gb hi h0 hf => (IM.out V _ _ (F216.out.trans hf) (hi.out.1.keep h0 (fun _ h => h.elim)) (by have := HN.out; omega) (hi.out.2.keep h0 (fun _ h => h.elim)) (by have := HN2.out; omega)).mono (by rintro e w2 ⟨A, n, c, rfl, h2, h3⟩; exact ⟨A, n, c, rfl, h2, h3.low hf.size⟩)
  have hD2 : Fr No w17 (w17.alloc (.cells #[.int .i64 0, .int .i64 0, .slice none 0 0] 27)).drew := ((Fr.refl _ _).alloc _).drew
  have hbz : w.heap.size + 1 < w17.heap.size := B209.out.lt
  have qw170 : w.heap.size ≠ w17.heap.size := (by omega)
  have qw171 : w.heap.size + 1 ≠ w17.heap.size := (by omega)
  have qw172 : w17.heap.size ≠ w.heap.size := (by omega)
  have qw173 : w17.heap.size ≠ w.heap.size + 1 := (by omega)
  go_wp2_with fail
  rename_i Kh hKh
  suffices REST : Hid (∀ (kb : Nat) (Ar : Option Addr) (nr cr g6 g7 : Nat) (V : World), Fr No w17 V → Blk V kb 27 #[.int .i64 Lo, .int .i64 Ro, .slice Ar nr cr] → OR V w17.heap.size Ar nr cr Po → Kh { tmps := #[RV L R A ps.length c, RV L2 R2 A2 qs.length c2, Value.pointer (some { block := w.heap.size, off := 0 }), Value.pointer (some { block := w.heap.size + 1, off := 0 }), Value.bool false, Value.int IntKind.i64 left2, Ptr kbs, Value.bool bo, Value.pointer (some { block := w4.heap.size, off := 0 }), Value.pointer (some { block := w6.heap.size, off := 0 }), Value.pointer (some { block := w8.heap.size, off := 0 }), Value.bool bo, Value.int IntKind.i64 (1 + ↑ps.length + ↑qs.length), Value.int IntKind.i64 (1 + ↑ng), Value.int IntKind.i64 (1 + ↑ng), Ptr kb, Value.bool bo, Value.agg #[Value.int IntKind.i64 L, Value.int IntKind.i64 R, Value.slice A ps.length c], Value.int IntKind.i64 1048576, Value.int IntKind.i64 left, Value.int IntKind.i64 left, Value.bool (decide (left < 0)), Value.agg #[Value.int IntKind.i64 L2, Value.int IntKind.i64 R2, Value.slice A2 qs.length c2], Value.int IntKind.i64 left, Value.int IntKind.i64 left2, Value.int IntKind.i64 left2, Value.bool (decide (left2 < 0)), Value.tuple #[RV Lo Ro As ns cs, Value.bool bo], Value.agg #[Value.int IntKind.i64 L, Value.int IntKind.i64 R, Value.slice A ps.length c], RV L R (some { block := gas, off := 0 }) ps.length ps.length, Value.agg #[Value.int IntKind.i64 L2, Value.int IntKind.i64 R2, Value.slice A2 qs.length c2], RV L2 R2 (some { block := gbs, off := 0 }) qs.length qs.length, Value.tuple #[RV Lo Ro As ns cs, Value.bool bo], RV Lo Ro As ns cs, Value.bool bo, Value.agg #[Value.int IntKind.i64 L, Value.int IntKind.i64 R, Value.slice A ps.length c], RV L R (some { block := gx0, off := 0 }) ps.length ps.length, Value.agg #[Value.int IntKind.i64 L2, Value.int IntKind.i64 R2, Value.slice A2 qs.length c2], RV L2 R2 (some { block := gx1, off := 0 }) qs.length qs.length, Value.tuple #[RV Lo Ro Ag ng cg, Value.bool bo], Value.agg #[Value.int IntKind.i64 L, Value.int IntKind.i64 R, Value.slice (some { block := gx0, off := 0 }) ps.length ps.length], Value.agg #[Value.int IntKind.i64 L2, Value.int IntKind.i64 R2, Value.slice (some { block := gx1, off := 0 }) qs.length qs.length], Value.tuple #[RV Lo Ro Ag ng cg, Value.bool bo], RV Lo Ro Ag ng cg, Value.bool bo, Value.agg #[Value.int IntKind.i64 Lo, Value.int IntKind.i64 Ro, Value.slice Ag ng cg], Value.agg #[Value.int IntKind.i64 Lo, Value.int IntKind.i64 Ro, Value.slice As ns cs], Value.bool true, Value.bool false, Value.bool false, Value.bool bo, Value.bool bo, Value.bool false, Value.bool false, Value.agg #[Value.int IntKind.i64 L, Value.int IntKind.i64 R, Value.slice (some { block := gx0, off := 0 }) ps.length ps.length], Value.agg #[Value.int IntKind.i64 L, Value.int IntKind.i64 R, Value.slice A ps.length c], RV L R (some { block := ge0, off := 0 }) ps.length ps.length, Value.bool true, Value.bool false, Value.agg #[Value.int IntKind.i64 L2, Value.int IntKind.i64 R2, Value.slice (some { block := gx1, off := 0 }) qs.length qs.length], Value.agg #[Value.int IntKind.i64 L2, Value.int IntKind.i64 R2, Value.slice A2 qs.length c2], RV L2 R2 (some { block := ge1, off := 0 }) qs.length qs.length, Value.bool true, Value.bool false, Value.agg #[Value.int IntKind.i64 L, Value.int IntKind.i64 R, Value.slice (some { block := gx0, off := 0 }) ps.length ps.length], Value.int IntKind.i64 1, Value.int IntKind.i64 (1 + ↑ps.length), Value.agg #[Value.int IntKind.i64 L2, Value.int IntKind.i64 R2, Value.slice (some { block := gx1, off := 0 }) qs.length qs.length], Value.int IntKind.i64 (1 + ↑ps.length), Value.int IntKind.i64 (1 + ↑ps.length + ↑qs.length), Value.int IntKind.i64 (1 + ↑ps.length + ↑qs.length), Value.bool (decide (1 + ↑ps.length + ↑qs.length < 0)), Value.bool (decide (1 + ↑ps.length + ↑qs.length < 0)), Value.agg #[Value.int IntKind.i64 Lo, Value.int IntKind.i64 Ro, Value.slice Ag ng cg], Value.agg #[Value.int IntKind.i64 Lo, Value.int IntKind.i64 Ro, Value.slice As ns cs], Value.bool true, Value.bool false, Value.bool (decide (1 + ↑ps.length + ↑qs.length < 0)), Value.bool (decide (1 + ↑ps.length + ↑qs.length < 0)), Value.bool bo, Value.bool bo, Value.bool false, Value.bool (decide (1 + ↑ps.length + ↑qs.length < 0)), Value.agg #[Value.int IntKind.i64 Lo, Value.int IntKind.i64 Ro, Value.slice Ag ng cg], Value.int IntKind.i64 1, Value.int IntKind.i64 (1 + ↑ng), Value.agg #[Value.int IntKind.i64 Lo, Value.int IntKind.i64 Ro, Value.slice Ag ng cg], Value.int IntKind.i64 1, Value.int IntKind.i64 (1 + ↑ng), Value.int IntKind.i64 (1 + ↑ng), Value.bool (decide (1 + ↑ng < 0)), Value.int IntKind.i64 (1 + ↑ng), Value.int IntKind.i64 (1 + ↑ng), Value.bool false, Value.tuple #[RV Lo Ro Ar nr cr, Value.bool bo], Value.agg #[Value.int IntKind.i64 L, Value.int IntKind.i64 R, Value.slice A ps.length c], RV L R (some { block := g6, off := 0 }) ps.length ps.length, Value.agg #[Value.int IntKind.i64 L2, Value.int IntKind.i64 R2, Value.slice A2 qs.length c2], RV L2 R2 (some { block := g7, off := 0 }) qs.length qs.length, Value.tuple #[RV Lo Ro Ar nr cr, Value.bool bo], RV Lo Ro Ar nr cr, Value.bool bo, undef, undef, undef, undef, undef, undef, undef, undef, undef, undef, undef, undef, undef, undef, undef, undef, undef], defers := [] } V) by
    go_region_held3 (fun w' => w'.cell? ⟨w.heap.size, 0, none⟩ = some (.int .i64 L) ∧ w'.cell? ⟨w.heap.size, 1, none⟩ = some (.int .i64 R) ∧ w'.cell? ⟨w.heap.size, 2, none⟩ = some (.slice A ps.length c) ∧ w'.cell? ⟨w.heap.size + 1, 0, none⟩ = some (.int .i64 L2) ∧ w'.cell? ⟨w.heap.size + 1, 1, none⟩ = some (.int .i64 R2) ∧ w'.cell? ⟨w.heap.size + 1, 2, none⟩ = some (.slice A2 qs.length c2)) (go_keep)
      (first | (go_at_call 32; ((first | (with_reducible refine (CA.out _ hD).mono ?_) | (with_reducible refine (CA.out _ hD2).mono ?_)); rintro e v6 ⟨g6, rfl, t6, i6⟩; have s6 : Fr No w17 v6 := (by first | exact hD.trans t6 | exact hD2.trans t6); obtain ⟨z0, z1, z2, z3, z4, z5⟩ := CC.out v6 s6; have qv60 : w.heap.size ≠ v6.heap.size := (by have := Fr.size s6; omega); have qv61 : w.heap.size + 1 ≠ v6.heap.size := (by have := Fr.size s6; omega); have qv62 : v6.heap.size ≠ w.heap.size := (by have := Fr.size s6; omega); have qv63 : v6.heap.size ≠ w.heap.size + 1 := (by have := Fr.size s6; omega); first | (have hk6 := (Blk.drew (Blk.new w17 27 #[.int .i64 0, .int .i64 0, .slice none 0 0])).fr t6 (fun h => h); have x0 : v6.cell? ⟨_, 0, none⟩ = some (.int .i64 0) := (hk6.cell 0).trans rfl; have x1 : v6.cell? ⟨_, 1, none⟩ = some (.int .i64 0) := (hk6.cell 1).trans rfl; have x2 : v6.cell? ⟨_, 2, none⟩ = some (.slice none 0 0) := (hk6.cell 2).trans rfl; have x3 := hk6.frozen 0; have x4 := hk6.frozen 1; have x5 := hk6.frozen 2; have x6 := hk6.lt) | skip)) | (go_at_call 32; ((first | (with_reducible refine (CB.out _ _ _ i6 (Fr.refl _ _) s6).mono ?_) | (with_reducible refine (CB.out _ _ _ i6 ((Fr.refl _ _).alloc _) (s6.alloc _)).mono ?_)); rintro e v7 ⟨g7, rfl, t7, i7⟩; have s7 : Fr No w17 v7 := (by first | exact s6.trans t7 | exact (s6.alloc _).trans t7); obtain ⟨p0, p1, p2, p3, p4, p5⟩ := CC.out v7 s7; have qv70 : w.heap.size ≠ v7.heap.size := (by have := Fr.size s7; omega); have qv71 : w.heap.size + 1 ≠ v7.heap.size := (by have := Fr.size s7; omega); have qv72 : v7.heap.size ≠ w.heap.size := (by have := Fr.size s7; omega); have qv73 : v7.heap.size ≠ w.heap.size + 1 := (by have := Fr.size s7; omega); first | (have hk7 := hk6.fr t7 (fun h => h); have x0 : v7.cell? ⟨_, 0, none⟩ = some (.int .i64 0) := (hk7.cell 0).trans rfl; have x1 : v7.cell? ⟨_, 1, none⟩ = some (.int .i64 0) := (hk7.cell 1).trans rfl; have x2 : v7.cell? ⟨_, 2, none⟩ = some (.slice none 0 0) := (hk7.cell 2).trans rfl; have x3 := hk7.frozen 0; have x4 := hk7.frozen 1; have x5 := hk7.frozen 2; have x6 := hk7.lt) | (have hk7 := (Blk.new v6 27 #[.int .i64 0, .int .i64 0, .slice none 0 0]).fr t7 (fun h => h); have x0 : v7.cell? ⟨_, 0, none⟩ = some (.int .i64 0) := (hk7.cell 0).trans rfl; have x1 : v7.cell? ⟨_, 1, none⟩ = some (.int .i64 0) := (hk7.cell 1).trans rfl; have x2 : v7.cell? ⟨_, 2, none⟩ = some (.slice none 0 0) := (hk7.cell 2).trans rfl; have x3 := hk7.frozen 0; have x4 := hk7.frozen 1; have x5 := hk7.frozen 2; have x6 := hk7.lt) | skip)) | (go_at_call 18; ((first | (with_reducible refine (CJ.out _ _ _ _ i7 (Fr.refl _ _) s7).mono ?_) | (with_reducible refine (CJ.out _ _ _ _ i7 ((Fr.refl _ _).alloc _) (s7.alloc _)).mono ?_)); rintro e v8 ⟨Ah, nh, ch, rfl, t8, i8⟩; have s8 : Fr No w17 v8 := (by first | exact s7.trans t8 | exact (s7.alloc _).trans t8); obtain ⟨y0, y1, y2, y3, y4, y5⟩ := CC.out v8 s8; have qv80 : w.heap.size ≠ v8.heap.size := (by have := Fr.size s8; omega); have qv81 : w.heap.size + 1 ≠ v8.heap.size := (by have := Fr.size s8; omega); have qv82 : v8.heap.size ≠ w.heap.size := (by have := Fr.size s8; omega); have qv83 : v8.heap.size ≠ w.heap.size + 1 := (by have := Fr.size s8; omega); first | (have hk8 := hk7.fr t8 (fun h => h); have x0 : v8.cell? ⟨_, 0, none⟩ = some (.int .i64 0) := (hk8.cell 0).trans rfl; have x1 : v8.cell? ⟨_, 1, none⟩ = some (.int .i64 0) := (hk8.cell 1).trans rfl; have x2 : v8.cell? ⟨_, 2, none⟩ = some (.slice none 0 0) := (hk8.cell 2).trans rfl; have x3 := hk8.frozen 0; have x4 := hk8.frozen 1; have x5 := hk8.frozen 2; have x6 := hk8.lt) | (have hk8 := (Blk.new v7 27 #[.int .i64 0, .int .i64 0, .slice none 0 0]).fr t8 (fun h => h); have x0 : v8.cell? ⟨_, 0, none⟩ = some (.int .i64 0) := (hk8.cell 0).trans rfl; have x1 : v8.cell? ⟨_, 1, none⟩ = some (.int .i64 0) := (hk8.cell 1).trans rfl; have x2 : v8.cell? ⟨_, 2, none⟩ = some (.slice none 0 0) := (hk8.cell 2).trans rfl; have x3 := hk8.frozen 0; have x4 := hk8.frozen 1; have x5 := hk8.frozen 2; have x6 := hk8.lt) | skip)))
    all_goals first | exact REST.out _ Ah nh ch g6 g7 _ (s8.alloc _) (Blk.new _ _ _) (OR.no i8.out ((Fr.refl _ _).alloc _)) | (obtain ⟨j1, j2, j3⟩ := box_store (Lo := Lo) (Ro := Ro) s8 hk8 (by have := Fr.size s6; have := Fr.size s7; omega) i8.out; exact REST.out _ Ah nh ch g6 g7 _ j1 j2 j3)
  intro kbh Ah nh ch gah gbh Vh hfV hbk hor
  refine hKh _ _ ?_
  have m223 := Lib.hid hfV.size
  have B224 := Lib.hid (B208.out.fr hfV (fun h => h))
  have B225 := Lib.hid (B209.out.fr hfV (fun h => h))
  have B226 := Lib.hid (B210.out.fr hfV (fun h => h))
  have B227 := Lib.hid (B211.out.fr hfV (fun h => h))
  have B228 := Lib.hid (B212.out.fr hfV (fun h => h))
  have B229 := Lib.hid (B213.out.fr hfV (fun h => h))
  have R230 := Lib.hid (R214.out.fr hfV (fun _ _ h => h))
  have R231 := Lib.hid (R215.out.fr hfV (fun _ _ h => h))
  have F232 := Lib.hid (F216.out.trans hfV)
  have R233 := Lib.hid hor
  have bd234 : Hid (∀ b, Own Ah b → w17.heap.size ≤ b ∧ b < (Vh).heap.size) := fun b hb => OR.bounds hor hb
  have B235 := Lib.hid hbk
  clear hfV B208 B209 B210 B211 B212 B213 R214 R215 F216 hq c217 c218 c219 c220 c221 c222 CC CA CB CJ hD hD2 hbz hor hbk hKh qw170 qw171 qw172 qw173
  have c236 : World.cell? Vh ⟨kbs, 0, none⟩ = some (.int .i64 Lo) := (B226.out.cell 0).trans rfl
  have c237 : World.cell? Vh ⟨kbs, 1, none⟩ = some (.int .i64 Ro) := (B226.out.cell 1).trans rfl
  have c238 : World.cell? Vh ⟨kbs, 2, none⟩ = some (.slice As ns cs) := (B226.out.cell 2).trans rfl
  have c239 : World.cell? Vh ⟨kbh, 0, none⟩ = some (.int .i64 Lo) := (B235.out.cell 0).trans rfl
  have c240 : World.cell? Vh ⟨kbh, 1, none⟩ = some (.int .i64 Ro) := (B235.out.cell 1).trans rfl
  have c241 : World.cell? Vh ⟨kbh, 2, none⟩ = some (.slice Ah nh ch) := (B235.out.cell 2).trans rfl
  go_wp2_with fail
  have hEQ : Calls Tryd.prog 24 #[RV Lo Ro Ah nh ch, RV Lo Ro As ns cs] Vh fun e w' => e = .returned (.bool true) ∧ Fr No Vh w' := by
    rw [R233.out.1, R230.out.1]
    refine (eqRel_any Vh Lo Ro Lo Ro Ah As Po Po ch cs (OR.isl R233.out) (OR.isl R230.out) (by have := HLEN.out; omega) (by have := HLEN.out; omega)).mono ?_
    rintro e w' ⟨b, rfl, hb, hf⟩
    obtain rfl : b = true := hb.2 ⟨rfl, rfl, rfl⟩
    exact ⟨rfl, hf⟩
  have HEQ := Lib.hid hEQ
  clear hEQ
  refine (HEQ.out).mono ?_
  rintro e w18 ⟨rfl, hf⟩
  have m242 := Lib.hid hf.size
  have B243 := Lib.hid (B224.out.fr hf (fun h => h))
  have B244 := Lib.hid (B225.out.fr hf (fun h => h))
  have B245 := Lib.hid (B226.out.fr hf (fun h => h))
  have B246 := Lib.hid (B227.out.fr hf (fun h => h))
  have B247 := Lib.hid (B228.out.fr hf (fun h => h))
  have B248 := Lib.hid (B229.out.fr hf (fun h => h))
  have B249 := Lib.hid (B235.out.fr hf (fun h => h))
  have R250 := Lib.hid (R230.out.fr hf (fun _ _ h => h))
  have R251 := Lib.hid (R231.out.fr hf (fun _ _ h => h))
  have R252 := Lib.hid (R233.out.fr hf (fun _ _ h => h))
  have F253 := Lib.hid (F232.out.trans hf)
  clear hf HEQ B224 B225 B226 B227 B228 B229 B235 R230 R231 R233 F232 c236 c237 c238 c239 c240 c241
  have c254 : World.cell? w18 ⟨w8.heap.size, 0, none⟩ = some (.int .i64 Lo) := (B248.out.cell 0).trans rfl
  have c255 : World.cell? w18 ⟨w8.heap.size, 1, none⟩ = some (.int .i64 Ro) := (B248.out.cell 1).trans rfl
  have c256 : World.cell? w18 ⟨w8.heap.size, 2, none⟩ = some (.slice Ag ng cg) := (B248.out.cell 2).trans rfl
  go_wp2_with fail
  refine (heldR_any _ _ Lo Ro Ag _ _ 1 (by decide) (by have := HNR.out; omega) R251.out).mono ?_
  rintro e w19 ⟨rfl, hf⟩
  have m257 := Lib.hid hf.size
  have B258 := Lib.hid (B243.out.fr hf (fun h => h))
  have B259 := Lib.hid (B244.out.fr hf (fun h => h))
  have B260 := Lib.hid (B245.out.fr hf (fun h => h))
  have B261 := Lib.hid (B246.out.fr hf (fun h => h))
  have B262 := Lib.hid (B247.out.fr hf (fun h => h))
  have B263 := Lib.hid (B248.out.fr hf (fun h => h))
  have B264 := Lib.hid (B249.out.fr hf (fun h => h))
  have R265 := Lib.hid (R250.out.fr hf (fun _ _ h => h))
  have R266 := Lib.hid (R251.out.fr hf (fun _ _ h => h))
  have R267 := Lib.hid (R252.out.fr hf (fun _ _ h => h))
  have F268 := Lib.hid (F253.out.trans hf)
  clear hf B243 B244 B245 B246 B247 B248 B249 R250 R251 R252 F253 c254 c255 c256
  have hq : ¬ (((1 + ng : Nat) : Int) < 0) := by omega
  go_wp2_with fail
  go_ret
  exact ⟨rfl, F268.out⟩
end Go.Proofs.YtkofjodadcchhaaDoor
