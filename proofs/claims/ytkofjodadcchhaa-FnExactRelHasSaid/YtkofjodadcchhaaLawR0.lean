/- The laws RelValid and RelHas. -/
import Derived.Test.YtkofjodadcchhaaLrel
import Derived.Test.YtkofjodadcchhaaLrz
namespace Go.Proofs.Ytkofjodadcchhaa
open Go.RowKit Go.ChangeMaps

set_option maxRecDepth 100000 in
set_option maxHeartbeats 2000000 in
theorem lawRelValid (w : World) (L R : Int) (A : Option Addr) (n c : Nat) (ps : List Int) (hr : RelIn w L R A n c ps) :
    Calls Try.prog 5 #[RV L R A n c] w fun e w' => Yes w e w' := by
  obtain ⟨_, _, rfl, hc, hm, hS, hz⟩ := hr
  have HS := Lib.hid hS
  have SZ : Hid (∀ W, Calls Try.prog 11 #[RV L R A ps.length c, .int .i64 1048576] W fun e w' => SzR ps.length 1048576 W e w') := fun W => szR_any W L R A _ c 1048576 (by omega) (by omega) hm
  have HFB : Hid (Fr No w (w.alloc (.cells #[.int .i64 L, .int .i64 R, .slice A ps.length c] 27))) := (Fr.refl No w).alloc _
  have HBX : Hid (Blk (w.alloc (.cells #[.int .i64 L, .int .i64 R, .slice A ps.length c] 27)) w.heap.size 27 #[.int .i64 L, .int .i64 R, .slice A ps.length c]) := Blk.new _ _ _
  clear hc hm hS hz
  go_enter Try.func5, Try.ntmps5
  go_wp2_with fail
  refine (SZ.out _).mono ?_
  rintro e w0 ⟨left, rfl, l1, l2, l3, hf0⟩
  have F0 := Lib.hid (HFB.out.trans hf0)
  have BX : Hid (∀ W, Fr No w0 W → W.cell? ⟨w.heap.size, 0, none⟩ = some (.int .i64 L) ∧ W.cell? ⟨w.heap.size, 1, none⟩ = some (.int .i64 R) ∧ W.cell? ⟨w.heap.size, 2, none⟩ = some (.slice A ps.length c)) := fun W hf => by
    have h := HBX.out.fr (hf0.trans hf) (fun h => h)
    exact ⟨(h.cell 0).trans rfl, (h.cell 1).trans rfl, (h.cell 2).trans rfl⟩
  have HW0 : Hid (w.heap.size < w0.heap.size) := (HBX.out.fr hf0 (fun h => h)).lt
  clear hf0 HBX SZ HFB
  by_cases hneg : left < 0
  · clear l3
    go_wp2_with fail
    go_ret
    exact ⟨rfl, F0.out⟩
  have hn : ps.length ≤ 1048576 := by have := l3 (by omega); omega
  have HN := Lib.hid hn
  clear l3 hn
  have CP : Hid (∀ w', Fr No w w' → Calls Try.prog 13 #[RV L R A ps.length c] w' fun e w2 => ∃ g, e = .returned (RV L R (some ⟨g, 0, none⟩) ps.length ps.length) ∧ Fr No w' w2 ∧ Fr No w w2 ∧ (∀ w3, Fr No w2 w3 → ISl w3 (some ⟨g, 0, none⟩) ps)) := fun w' hf => copyR_in HS.out rfl (by have := HN.out; omega) w' hf
  obtain ⟨a0, a1, a2⟩ := BX.out w0 (Fr.refl _ _)
  go_wp2_with fail
  refine (CP.out _ F0.out).mono ?_
  rintro e w1 ⟨g1, rfl, s1, f1, q1⟩
  have Q1 := Lib.hid q1
  have S1 := Lib.hid s1
  obtain ⟨b0, b1, b2⟩ := BX.out w1 s1
  clear q1 a0 a1 a2
  go_wp2_with fail
  refine (specRelValid _ L R _ ps.length ps (Q1.out _ (Fr.refl _ _)) (by have := HN.out; omega)).mono ?_
  rintro e w2 ⟨bs, rfl, hbs, s2⟩
  have HBS := Lib.hid hbs
  have f2 := f1.trans s2
  obtain ⟨c0, c1, c2⟩ := BX.out w2 (s1.trans s2)
  clear hbs b0 b1 b2
  go_wp2_with fail
  refine (CP.out _ f2).mono ?_
  rintro e w3 ⟨g3, rfl, s3, f3, q3⟩
  have Q3 := Lib.hid q3
  have S3 := Lib.hid s3
  have F3 := Lib.hid f3
  have F2 := Lib.hid f2
  have T3 := Lib.hid ((s1.trans s2).trans s3)
  clear c0 c1 c2 q3 s3 f3 s1 s2 f1 f2 S1
  have h3 : w3.heap.size = w3.heap.size := rfl
  have HB3 : Hid (Fr No w3 (w3.alloc (.cells #[.int .i64 L, .int .i64 R, .slice (some ⟨g3, 0, none⟩) ps.length ps.length] 30))) := (Fr.refl No w3).alloc _
  have HX3 : Hid (Blk (w3.alloc (.cells #[.int .i64 L, .int .i64 R, .slice (some ⟨g3, 0, none⟩) ps.length ps.length] 30)) w3.heap.size 30 #[.int .i64 L, .int .i64 R, .slice (some ⟨g3, 0, none⟩) ps.length ps.length]) := Blk.new _ _ _
  clear h3
  go_wp2_with fail
  generalize w3.alloc (.cells #[.int .i64 L, .int .i64 R, .slice (some ⟨g3, 0, none⟩) ps.length ps.length] 30) = w4 at *
  refine (implRelValid _ L R _ ps.length ps (Q3.out _ HB3.out) (by have := HN.out; omega)).mono ?_
  rintro e w5 ⟨bi, rfl, hbi, s5⟩
  obtain rfl : bi = bs := by
    have e1 := HBS.out
    rw [← hbi] at e1
    cases bi <;> cases bs <;> simp_all
  have F5 := Lib.hid ((F3.out.trans HB3.out).trans s5)
  have T5 := Lib.hid ((T3.out.trans HB3.out).trans s5)
  have X5 : Hid (∀ W, Fr No w5 W → W.cell? ⟨w3.heap.size, 0, none⟩ = some (.int .i64 L) ∧ W.cell? ⟨w3.heap.size, 1, none⟩ = some (.int .i64 R) ∧ W.cell? ⟨w3.heap.size, 2, none⟩ = some (.slice (some ⟨g3, 0, none⟩) ps.length ps.length)) := fun W hf => by
    have h := HX3.out.fr (s5.trans hf) (fun h => h)
    exact ⟨(h.cell 0).trans rfl, (h.cell 1).trans rfl, (h.cell 2).trans rfl⟩
  have Y5 : Hid (∀ W, Fr No w5 W → ISl W (some ⟨g3, 0, none⟩) ps) := fun W hf => Q3.out W ((HB3.out.trans s5).trans hf)
  clear hbi s5
  obtain ⟨x0, x1, x2⟩ := X5.out w5 (Fr.refl _ _)
  obtain ⟨y0, y1, y2⟩ := BX.out w5 T5.out
  have hD : Fr No w5 w5.drew := (Fr.refl _ _).drew
  have CP5 : Hid (∀ W, Fr No w5 W → Calls Try.prog 13 #[RV L R A ps.length c] W fun e w2 => ∃ g, e = .returned (RV L R (some ⟨g, 0, none⟩) ps.length ps.length) ∧ Fr No w5 w2 ∧ (∀ w3, Fr No w2 w3 → ISl w3 (some ⟨g, 0, none⟩) ps)) := fun W hf => (CP.out W (F5.out.trans hf)).mono (by
    rintro e w2 ⟨g, h1, h2, _, h4⟩
    exact ⟨g, h1, hf.trans h2, h4⟩)
  have EQ5 : Hid (∀ W g', Fr No w5 W → ISl W (some ⟨g', 0, none⟩) ps → Calls Try.prog 15 #[RV L R (some ⟨g3, 0, none⟩) ps.length ps.length, RV L R (some ⟨g', 0, none⟩) ps.length ps.length] W fun e w2 => e = .returned (.bool true) ∧ Fr No w5 w2) := fun W g' hf hg => (eqRel_any W L R L R _ _ ps ps _ _ (Y5.out W hf) hg (by have := HN.out; omega) (by have := HN.out; omega)).mono (by
    rintro e w2 ⟨b, rfl, hb, hf2⟩
    obtain rfl : b = true := hb.2 ⟨rfl, rfl, rfl⟩
    exact ⟨rfl, hf.trans hf2⟩)
  go_wp2_with fail
  go_region_held3 (fun w' => w'.cell? ⟨w3.heap.size, 0, none⟩ = some (.int .i64 L) ∧ w'.cell? ⟨w3.heap.size, 1, none⟩ = some (.int .i64 R) ∧ w'.cell? ⟨w3.heap.size, 2, none⟩ = some (.slice (some ⟨g3, 0, none⟩) ps.length ps.length) ∧ w'.cell? ⟨w.heap.size, 0, none⟩ = some (.int .i64 L) ∧ w'.cell? ⟨w.heap.size, 1, none⟩ = some (.int .i64 R) ∧ w'.cell? ⟨w.heap.size, 2, none⟩ = some (.slice A ps.length c)) (go_keep)
    (first
    | (go_at_call 13; ((with_reducible refine (CP5.out _ hD).mono ?_); rintro e w6 ⟨g6, rfl, s6, q6⟩; have i6 := q6 w6 (Fr.refl _ _); obtain ⟨z0, z1, z2⟩ := X5.out w6 s6; obtain ⟨z3, z4, z5⟩ := BX.out w6 (T5.out.trans s6)))
    | (go_at_call 15; ((with_reducible refine (EQ5.out _ _ s6 i6).mono ?_); rintro e w7 ⟨rfl, s7⟩; obtain ⟨p0, p1, p2⟩ := X5.out w7 s7; obtain ⟨p3, p4, p5⟩ := BX.out w7 (T5.out.trans s7))))
  have F7 := Lib.hid (F5.out.trans s7)
  go_wp2_with fail
  go_ret
  exact ⟨rfl, F7.out⟩
set_option maxRecDepth 100000 in
set_option maxHeartbeats 2000000 in
theorem lawRelHas (w : World) (L R : Int) (A : Option Addr) (n c : Nat) (ps : List Int) (hr : RelIn w L R A n c ps) (i : Int) (_ : -9223372036854775808 ≤ i ∧ i ≤ 9223372036854775807) (j : Int) (_ : -9223372036854775808 ≤ j ∧ j ≤ 9223372036854775807) :
    Calls Try.prog 6 #[RV L R A n c, .int .i64 i, .int .i64 j] w fun e w' => Yes w e w' := by
  obtain ⟨_, _, rfl, hc, hm, hS, hz⟩ := hr
  have HS := Lib.hid hS
  have SZ : Hid (∀ W, Calls Try.prog 11 #[RV L R A ps.length c, .int .i64 1048576] W fun e w' => SzR ps.length 1048576 W e w') := fun W => szR_any W L R A _ c 1048576 (by omega) (by omega) hm
  have HFB : Hid (Fr No w (w.alloc (.cells #[.int .i64 L, .int .i64 R, .slice A ps.length c] 27))) := (Fr.refl No w).alloc _
  have HBX : Hid (Blk (w.alloc (.cells #[.int .i64 L, .int .i64 R, .slice A ps.length c] 27)) w.heap.size 27 #[.int .i64 L, .int .i64 R, .slice A ps.length c]) := Blk.new _ _ _
  clear hc hm hS hz
  go_enter Try.func6, Try.ntmps6
  go_wp2_with fail
  refine (SZ.out _).mono ?_
  rintro e w0 ⟨left, rfl, l1, l2, l3, hf0⟩
  have F0 := Lib.hid (HFB.out.trans hf0)
  have BX : Hid (∀ W, Fr No w0 W → W.cell? ⟨w.heap.size, 0, none⟩ = some (.int .i64 L) ∧ W.cell? ⟨w.heap.size, 1, none⟩ = some (.int .i64 R) ∧ W.cell? ⟨w.heap.size, 2, none⟩ = some (.slice A ps.length c)) := fun W hf => by
    have h := HBX.out.fr (hf0.trans hf) (fun h => h)
    exact ⟨(h.cell 0).trans rfl, (h.cell 1).trans rfl, (h.cell 2).trans rfl⟩
  have HW0 : Hid (w.heap.size < w0.heap.size) := (HBX.out.fr hf0 (fun h => h)).lt
  clear hf0 HBX SZ HFB
  by_cases hneg : left < 0
  · clear l3
    go_wp2_with fail
    go_ret
    exact ⟨rfl, F0.out⟩
  have hn : ps.length ≤ 1048576 := by have := l3 (by omega); omega
  have HN := Lib.hid hn
  clear l3 hn
  have CP : Hid (∀ w', Fr No w w' → Calls Try.prog 13 #[RV L R A ps.length c] w' fun e w2 => ∃ g, e = .returned (RV L R (some ⟨g, 0, none⟩) ps.length ps.length) ∧ Fr No w' w2 ∧ Fr No w w2 ∧ (∀ w3, Fr No w2 w3 → ISl w3 (some ⟨g, 0, none⟩) ps)) := fun w' hf => copyR_in HS.out rfl (by have := HN.out; omega) w' hf
  obtain ⟨a0, a1, a2⟩ := BX.out w0 (Fr.refl _ _)
  go_wp2_with fail
  refine (CP.out _ F0.out).mono ?_
  rintro e w1 ⟨g1, rfl, s1, f1, q1⟩
  have Q1 := Lib.hid q1
  have S1 := Lib.hid s1
  obtain ⟨b0, b1, b2⟩ := BX.out w1 s1
  clear q1 a0 a1 a2
  go_wp2_with fail
  refine (specRelHas _ L R _ ps.length ps i j (Q1.out _ (Fr.refl _ _)) (by have := HN.out; omega)).mono ?_
  rintro e w2 ⟨bs, rfl, hbs, s2⟩
  have HBS := Lib.hid hbs
  have f2 := f1.trans s2
  obtain ⟨c0, c1, c2⟩ := BX.out w2 (s1.trans s2)
  clear hbs b0 b1 b2
  go_wp2_with fail
  refine (CP.out _ f2).mono ?_
  rintro e w3 ⟨g3, rfl, s3, f3, q3⟩
  have Q3 := Lib.hid q3
  have S3 := Lib.hid s3
  have F3 := Lib.hid f3
  have F2 := Lib.hid f2
  have T3 := Lib.hid ((s1.trans s2).trans s3)
  clear c0 c1 c2 q3 s3 f3 s1 s2 f1 f2 S1
  have h3 : w3.heap.size = w3.heap.size := rfl
  have HB3 : Hid (Fr No w3 (w3.alloc (.cells #[.int .i64 L, .int .i64 R, .slice (some ⟨g3, 0, none⟩) ps.length ps.length] 30))) := (Fr.refl No w3).alloc _
  have HX3 : Hid (Blk (w3.alloc (.cells #[.int .i64 L, .int .i64 R, .slice (some ⟨g3, 0, none⟩) ps.length ps.length] 30)) w3.heap.size 30 #[.int .i64 L, .int .i64 R, .slice (some ⟨g3, 0, none⟩) ps.length ps.length]) := Blk.new _ _ _
  clear h3
  go_wp2_with fail
  generalize w3.alloc (.cells #[.int .i64 L, .int .i64 R, .slice (some ⟨g3, 0, none⟩) ps.length ps.length] 30) = w4 at *
  refine (implRelHas _ L R _ ps.length ps i j (Q3.out _ HB3.out) (by have := HN.out; omega)).mono ?_
  rintro e w5 ⟨bi, rfl, hbi, s5⟩
  obtain rfl : bi = bs := by
    have e1 := HBS.out
    rw [← hbi] at e1
    cases bi <;> cases bs <;> simp_all
  have F5 := Lib.hid ((F3.out.trans HB3.out).trans s5)
  have T5 := Lib.hid ((T3.out.trans HB3.out).trans s5)
  have X5 : Hid (∀ W, Fr No w5 W → W.cell? ⟨w3.heap.size, 0, none⟩ = some (.int .i64 L) ∧ W.cell? ⟨w3.heap.size, 1, none⟩ = some (.int .i64 R) ∧ W.cell? ⟨w3.heap.size, 2, none⟩ = some (.slice (some ⟨g3, 0, none⟩) ps.length ps.length)) := fun W hf => by
    have h := HX3.out.fr (s5.trans hf) (fun h => h)
    exact ⟨(h.cell 0).trans rfl, (h.cell 1).trans rfl, (h.cell 2).trans rfl⟩
  have Y5 : Hid (∀ W, Fr No w5 W → ISl W (some ⟨g3, 0, none⟩) ps) := fun W hf => Q3.out W ((HB3.out.trans s5).trans hf)
  clear hbi s5
  obtain ⟨x0, x1, x2⟩ := X5.out w5 (Fr.refl _ _)
  obtain ⟨y0, y1, y2⟩ := BX.out w5 T5.out
  have hD : Fr No w5 w5.drew := (Fr.refl _ _).drew
  have CP5 : Hid (∀ W, Fr No w5 W → Calls Try.prog 13 #[RV L R A ps.length c] W fun e w2 => ∃ g, e = .returned (RV L R (some ⟨g, 0, none⟩) ps.length ps.length) ∧ Fr No w5 w2 ∧ (∀ w3, Fr No w2 w3 → ISl w3 (some ⟨g, 0, none⟩) ps)) := fun W hf => (CP.out W (F5.out.trans hf)).mono (by
    rintro e w2 ⟨g, h1, h2, _, h4⟩
    exact ⟨g, h1, hf.trans h2, h4⟩)
  have EQ5 : Hid (∀ W g', Fr No w5 W → ISl W (some ⟨g', 0, none⟩) ps → Calls Try.prog 15 #[RV L R (some ⟨g3, 0, none⟩) ps.length ps.length, RV L R (some ⟨g', 0, none⟩) ps.length ps.length] W fun e w2 => e = .returned (.bool true) ∧ Fr No w5 w2) := fun W g' hf hg => (eqRel_any W L R L R _ _ ps ps _ _ (Y5.out W hf) hg (by have := HN.out; omega) (by have := HN.out; omega)).mono (by
    rintro e w2 ⟨b, rfl, hb, hf2⟩
    obtain rfl : b = true := hb.2 ⟨rfl, rfl, rfl⟩
    exact ⟨rfl, hf.trans hf2⟩)
  go_wp2_with fail
  go_region_held3 (fun w' => w'.cell? ⟨w3.heap.size, 0, none⟩ = some (.int .i64 L) ∧ w'.cell? ⟨w3.heap.size, 1, none⟩ = some (.int .i64 R) ∧ w'.cell? ⟨w3.heap.size, 2, none⟩ = some (.slice (some ⟨g3, 0, none⟩) ps.length ps.length) ∧ w'.cell? ⟨w.heap.size, 0, none⟩ = some (.int .i64 L) ∧ w'.cell? ⟨w.heap.size, 1, none⟩ = some (.int .i64 R) ∧ w'.cell? ⟨w.heap.size, 2, none⟩ = some (.slice A ps.length c)) (go_keep)
    (first
    | (go_at_call 13; ((with_reducible refine (CP5.out _ hD).mono ?_); rintro e w6 ⟨g6, rfl, s6, q6⟩; have i6 := q6 w6 (Fr.refl _ _); obtain ⟨z0, z1, z2⟩ := X5.out w6 s6; obtain ⟨z3, z4, z5⟩ := BX.out w6 (T5.out.trans s6)))
    | (go_at_call 15; ((with_reducible refine (EQ5.out _ _ s6 i6).mono ?_); rintro e w7 ⟨rfl, s7⟩; obtain ⟨p0, p1, p2⟩ := X5.out w7 s7; obtain ⟨p3, p4, p5⟩ := BX.out w7 (T5.out.trans s7))))
  have F7 := Lib.hid (F5.out.trans s7)
  go_wp2_with fail
  go_ret
  exact ⟨rfl, F7.out⟩
end Go.Proofs.Ytkofjodadcchhaa
