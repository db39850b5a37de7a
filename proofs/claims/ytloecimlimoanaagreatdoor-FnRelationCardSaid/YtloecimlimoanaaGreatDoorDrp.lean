/- The draws of kinds and sizes; the plain laws' helpers over integers and relations. -/
import Derived.Test.YtloecimlimoanaaGreatDoorDrw
import Derived.Test.YtloecimlimoanaaGreatDoorLrm
/- The draws of parametric elements: kinds, sizes. -/
namespace Go.Proofs.YtloecimlimoanaaGreatDoor
open Go.RowKit Go.ChangeMaps

set_option maxRecDepth 100000 in
set_option maxHeartbeats 1000000 in
theorem kind_draw (w : World) (r : Nat) (A : Option Addr) (n c p : Nat) (h : Rdc w r A n c p) (hp : p ≤ 80000) :
    Calls Tryz.prog 56 #[Ptr r] w fun e w' => DrwP r A n c p 2 40 w e w' := by
  have PK := Lib.hid (pick_any w r A n c p 16 h (by omega) (by omega) (by omega))
  clear h
  go_enter Tryz.func56, Tryz.ntmps56
  go_wp2_with fail
  refine PK.out.mono ?_
  rintro e w1 ⟨z, rfl, hz, hf1, hr1⟩
  have HF1 := Lib.hid hf1
  by_cases hz0 : z = 0
  · subst hz0
    have OF := Lib.hid (of_lit w1 r A n c (p + 1) 40 5 [[], [98], [40, 62, 32, 97, 32, 98, 41], [40, 62, 32, 40, 62, 32, 97, 32, 97, 41, 32, 40, 62, 32, 40, 62, 32, 97, 32, 97, 41, 32, 40, 62, 32, 97, 32, 97, 41, 41, 41], [40, 42, 32, 122, 32, 97, 41]] #[.string ⟨#[]⟩, .string ⟨#[98]⟩, .string ⟨#[40, 62, 32, 97, 32, 98, 41]⟩, .string ⟨#[40, 62, 32, 40, 62, 32, 97, 32, 97, 41, 32, 40, 62, 32, 40, 62, 32, 97, 32, 97, 41, 32, 40, 62, 32, 97, 32, 97, 41, 41, 41]⟩, .string ⟨#[40, 42, 32, 122, 32, 97, 41]⟩] rfl rfl hr1 (by omega) (by omega) (by omega) (by decide))
    clear hf1 hr1
    go_wp2_with fail
    refine OF.out.mono ?_
    rintro e w2 ⟨x, rfl, _, hx, hf, hr⟩
    have FIN : Hid (DrwP r A n c p 2 40 w (.returned (S x)) w2) := ⟨x, p + 1 + 1, rfl, by omega, HF1.out.trans hf, by omega, hr⟩
    clear hf hr
    go_wp2_with fail
    go_ret
    exact FIN.out
  · have z0 : ((z : Int) == 0) = false := beq_eq_false_iff_ne.2 (by omega)
    clear hz0
    have OF := Lib.hid (of_lit w1 r A n c (p + 1) 40 14 [[97], [111], [40, 62, 32, 97, 32, 97, 41], [40, 42, 32, 97, 32, 111, 41], [40, 62, 32, 97, 32, 111, 41], [40, 62, 32, 111, 32, 97, 41], [40, 62, 32, 97, 32, 40, 62, 32, 97, 32, 97, 41, 41], [40, 62, 32, 40, 62, 32, 97, 32, 97, 41, 32, 97, 41], [40, 42, 32, 97, 32, 40, 62, 32, 97, 32, 97, 41, 41], [40, 62, 32, 40, 62, 32, 97, 32, 111, 41, 32, 111, 41], [40, 42, 32, 40, 62, 32, 97, 32, 97, 41, 32, 40, 42, 32, 97, 32, 40, 62, 32, 97, 32, 111, 41, 41, 41], [40, 62, 32, 40, 62, 32, 97, 32, 97, 41, 32, 40, 62, 32, 97, 32, 97, 41, 41], [40, 62, 32, 40, 42, 32, 97, 32, 97, 41, 32, 97, 41], [40, 62, 32, 111, 32, 40, 62, 32, 97, 32, 97, 41, 41]] #[.string ⟨#[97]⟩, .string ⟨#[111]⟩, .string ⟨#[40, 62, 32, 97, 32, 97, 41]⟩, .string ⟨#[40, 42, 32, 97, 32, 111, 41]⟩, .string ⟨#[40, 62, 32, 97, 32, 111, 41]⟩, .string ⟨#[40, 62, 32, 111, 32, 97, 41]⟩, .string ⟨#[40, 62, 32, 97, 32, 40, 62, 32, 97, 32, 97, 41, 41]⟩, .string ⟨#[40, 62, 32, 40, 62, 32, 97, 32, 97, 41, 32, 97, 41]⟩, .string ⟨#[40, 42, 32, 97, 32, 40, 62, 32, 97, 32, 97, 41, 41]⟩, .string ⟨#[40, 62, 32, 40, 62, 32, 97, 32, 111, 41, 32, 111, 41]⟩, .string ⟨#[40, 42, 32, 40, 62, 32, 97, 32, 97, 41, 32, 40, 42, 32, 97, 32, 40, 62, 32, 97, 32, 111, 41, 41, 41]⟩, .string ⟨#[40, 62, 32, 40, 62, 32, 97, 32, 97, 41, 32, 40, 62, 32, 97, 32, 97, 41, 41]⟩, .string ⟨#[40, 62, 32, 40, 42, 32, 97, 32, 97, 41, 32, 97, 41]⟩, .string ⟨#[40, 62, 32, 111, 32, 40, 62, 32, 97, 32, 97, 41, 41]⟩] rfl rfl hr1 (by omega) (by omega) (by omega) (by decide))
    clear hf1 hr1
    go_wp2_with fail
    refine OF.out.mono ?_
    rintro e w2 ⟨x, rfl, _, hx, hf, hr⟩
    have FIN : Hid (DrwP r A n c p 2 40 w (.returned (S x)) w2) := ⟨x, p + 1 + 1, rfl, by omega, HF1.out.trans hf, by omega, hr⟩
    clear hf hr
    go_wp2_with fail
    go_ret
    exact FIN.out

/-- a size that is drawn -/
def SizP (r : Nat) (A : Option Addr) (n c p : Nat) (w : World) (e : Ending) (w' : World) : Prop :=
  ∃ (z : Int) (p' : Nat), e = .returned (.int .i64 z) ∧ 0 ≤ z ∧ z ≤ 4 ∧ Fr (One r) w w' ∧ p' ≤ p + 2 ∧ Rdc w' r A n c p'

set_option maxRecDepth 100000 in
set_option maxHeartbeats 1000000 in
theorem size_draw (w : World) (r : Nat) (A : Option Addr) (n c p : Nat) (h : Rdc w r A n c p) (hp : p ≤ 80000) :
    Calls Tryz.prog 33 #[Ptr r] w fun e w' => SizP r A n c p w e w' := by
  have PK := Lib.hid (pick_any w r A n c p 30 h (by omega) (by omega) (by omega))
  have PN : Hid (∀ (V : World) (k : Nat), Rdc V r A n c (p + 1) → 1 ≤ k → k ≤ 1000 → Calls Tryz.prog 57 #[Ptr r, .int .i64 k] V fun e w' => PickP r A n c (p + 1) k V e w') := fun V k h1 h2 h3 => pick_any V r A n c (p + 1) k h1 h2 h3 (by omega)
  clear h
  go_enter Tryz.func33, Tryz.ntmps33
  go_wp2_with fail
  refine PK.out.mono ?_
  rintro e w1 ⟨z, rfl, hz, hf1, hr1⟩
  have HF1 := Lib.hid hf1
  by_cases hz0 : z = 0
  · subst hz0
    obtain ⟨W6, hW6, hf6, hb6⟩ : ∃ W, W = w1.alloc (.cells #[.int .i64 0, .int .i64 4, .int .i64 3] 3) ∧ Fr No w1 W ∧ Blk W w1.heap.size 3 #[.int .i64 0, .int .i64 4, .int .i64 3] := ⟨_, rfl, (Fr.refl _ _).alloc _, Blk.new _ _ _⟩
    have hrl := hr1.blk.lt
    have P3 : Hid (Calls Tryz.prog 57 #[Ptr r, .int .i64 3] W6 fun e w' => PickP r A n c (p + 1) 3 W6 e w') := PN.out W6 3 (hr1.fr hf6 (fun h => h) (fun _ _ _ h => h)) (by omega) (by omega)
    have HF6 : Hid (Fr (One r) w W6) := HF1.out.trans (hf6.mono (fun _ _ h => h.elim))
    have HB6 := Lib.hid hb6
    clear hf1 hr1 hf6 hb6 PN
    go_wp2_with fail
    rw [← hW6]
    clear hW6
    refine P3.out.mono ?_
    rintro e w7 ⟨q, rfl, hq, hf7, hd7⟩
    have hb7 := HB6.out.fr hf7 (fun e => by have e : w1.heap.size = r := e; omega)
    obtain ⟨v, hv, hv0, hv4⟩ : ∃ v : Int, w7.cell? ⟨w1.heap.size, q, none⟩ = some (.int .i64 v) ∧ 0 ≤ v ∧ v ≤ 4 := by
      rw [hb7.cell q]
      match q, hq with
      | 0, _ => exact ⟨_, rfl, by omega, by omega⟩
      | 1, _ => exact ⟨_, rfl, by omega, by omega⟩
      | 2, _ => exact ⟨_, rfl, by omega, by omega⟩
    have q0 : (0 : Int) ≤ (q : Int) := by omega
    have q3 : (q : Int) < 3 := by omega
    have FIN : Hid (SizP r A n c p w (.returned (.int .i64 v)) w7) := ⟨v, _, rfl, hv0, hv4, HF6.out.trans hf7, by omega, hd7⟩
    clear hf7 hd7 hb7 hv0 hv4
    go_wp2_with fail
    go_ret
    exact FIN.out
  · have z0 : ((z : Int) == 0) = false := beq_eq_false_iff_ne.2 (by omega)
    have P2 : Hid (Calls Tryz.prog 57 #[Ptr r, .int .i64 2] w1 fun e w' => PickP r A n c (p + 1) 2 w1 e w') := PN.out w1 2 hr1 (by omega) (by omega)
    clear hz0 hf1 hr1 PN
    go_wp2_with fail
    refine P2.out.mono ?_
    rintro e w7 ⟨q, rfl, hq, hf7, hd7⟩
    have FIN : Hid (SizP r A n c p w (.returned (.int .i64 (1 + (q : Int)))) w7) := ⟨1 + (q : Int), _, rfl, by omega, by omega, HF1.out.trans hf7, by omega, hd7⟩
    have q1 : (q : Int) ≤ 1 := by omega
    clear hf7 hd7
    go_wp2_with fail
    go_ret
    exact FIN.out

/-- a kind and a size -/
def KsP (w : World) (e : Ending) (w' : World) : Prop := ∃ (s : List UInt8) (z : Int), e = .returned (.tuple #[S s, .int .i64 z]) ∧ s.length ≤ 40 ∧ 0 ≤ z ∧ z ≤ 4 ∧ Fr No w w'

end Go.Proofs.YtloecimlimoanaaGreatDoor

/- The plain laws' own helpers: sameInts, sameRel. -/
namespace Go.Proofs.YtloecimlimoanaaGreatDoor
open Go.RowKit Go.ChangeMaps Go.ChangeShapes Go.WideShapes

set_option maxRecDepth 100000 in
set_option maxHeartbeats 1000000 in
theorem samei_any (w : World) (A A' : Option Addr) (xs ys : List Int) (c c' : Nat) (hx : ISl w A xs) (hy : ISl w A' ys) (hl : xs.length ≤ 2000000) (hl2 : ys.length ≤ 2000000) :
    Calls Tryz.prog 23 #[.slice A xs.length c, .slice A' ys.length c'] w fun e w' => EqI xs ys w e w' := by
  have HX := Lib.hid hx
  have HY := Lib.hid hy
  clear hx hy
  have hl' : (xs.length : Int) ≤ 2000000 := by omega
  have hl2' : (ys.length : Int) ≤ 2000000 := by omega
  by_cases hne : xs.length = ys.length
  · have HNE := Lib.hid hne
    rw [← hne]
    clear hne
    go_enter Tryz.func23, Tryz.ntmps23
    go_wp2_with fail
    go_loopw [5] (fun v wr => ∃ j : Nat, j ≤ xs.length ∧ v = .int .i64 j ∧ xs.take j = ys.take j ∧ ∃ n, wr = w.drewN n) (fun v _ => xs.length - (intOf v).toNat)
    case atStart => exact ⟨0, Nat.zero_le _, rfl, by simp, 0, rfl⟩
    case round =>
      obtain ⟨j, hj, rfl, hno, nn, rfl⟩ := hrel
      have HN := Lib.hid hno
      clear hno
      by_cases hlt : j < xs.length
      · obtain ⟨x, hxj⟩ : ∃ x, xs[j]? = some x := ⟨_, List.getElem?_eq_getElem hlt⟩
        obtain ⟨y, hyj⟩ : ∃ y, ys[j]? = some y := ⟨_, List.getElem?_eq_getElem (by rw [← HNE.out]; exact hlt)⟩
        obtain ⟨g, o, rfl, hc0⟩ := HX.out j x hxj
        obtain ⟨g', o', rfl, hc1⟩ := HY.out j y hyj
        have hc : (w.drewN nn).cell? ⟨g, o + j, none⟩ = some (.int .i64 x) := hc0
        have hc' : (w.drewN nn).cell? ⟨g', o' + j, none⟩ = some (.int .i64 y) := hc1
        have HFIN : Hid (∃ n, (w.drewN nn).drew = w.drewN n) := ⟨nn + 1, rfl⟩
        clear hc0 hc1
        generalize w.drewN nn = wr at hc hc' HFIN ⊢
        have HXJ := Lib.hid hxj
        have HYJ := Lib.hid hyj
        clear hxj hyj
        by_cases hpx : x = y
        · subst hpx
          go_wp2_with fail
          go_wp2_with fail
          refine wp_region_still_lit (by kernel_rfl) (by kernel_rfl) ?_
          change wpStill _ _ (World.drew _) (fun a' => _) _ _
          repeat still_step
          refine wpStill_nil ?_
          go_wp2
          go_round
          case rel => exact ⟨j + 1, by omega, by go_num, eq_take_moreI HN.out HXJ.out HYJ.out rfl, HFIN.out⟩
          case measure => simp [intOf]; omega
        · have hb : (x == y) = false := by simpa using hpx
          have HPX := Lib.hid hpx
          clear hpx
          go_wp2_with fail
          go_wp2_with fail
          refine wp_region_still_lit (by kernel_rfl) (by kernel_rfl) ?_
          change wpStill _ _ (World.drew _) (fun a' => _) _ _
          repeat still_step
          refine wpStill_nil ?_
          go_wp2
          go_ret
          refine ⟨false, rfl, ⟨fun h => (by cases h), fun h => ?_⟩, HFIN.out⟩
          have e1 := HXJ.out
          rw [h, HYJ.out] at e1
          injection e1 with e1
          exact (HPX.out e1.symm).elim
      · have hjl : j = xs.length := by omega
        have HF : Hid (xs = ys) := by
          have := HN.out
          rw [hjl, List.take_length, HNE.out, List.take_length] at this
          exact this
        clear hjl
        go_wp2
        go_ret
        exact ⟨true, rfl, ⟨fun _ => HF.out, fun _ => rfl⟩, _, rfl⟩
  · have HF : Hid (xs ≠ ys) := fun h => hne (by rw [h])
    go_enter Tryz.func23, Tryz.ntmps23
    go_wp2_with fail
    go_ret
    exact ⟨false, rfl, ⟨fun h => (by cases h), fun h => (HF.out h).elim⟩, 0, rfl⟩


/-- whether two relations are written alike -/
def SameR (L R : Int) (ps : List Int) (L' R' : Int) (qs : List Int) (w : World) (e : Ending) (w' : World) : Prop := ∃ b : Bool, e = .returned (.bool b) ∧ (b = true ↔ L = L' ∧ R = R' ∧ ps = qs) ∧ Fr No w w'

set_option maxRecDepth 100000 in
set_option maxHeartbeats 1000000 in
theorem samer_any (w : World) (L R : Int) (A : Option Addr) (c : Nat) (ps : List Int) (L' R' : Int) (A' : Option Addr) (c' : Nat) (qs : List Int) (hx : ISl w A ps) (hy : ISl w A' qs) (hl : ps.length ≤ 2000000) (hl2 : qs.length ≤ 2000000) :
    Calls Tryz.prog 8 #[RV L R A ps.length c, RV L' R' A' qs.length c'] w fun e w' => SameR L R ps L' R' qs w e w' := by
  obtain ⟨W0, hW0, hf0, hb0, hb1⟩ : ∃ W, W = (w.alloc (.cells #[.int .i64 L, .int .i64 R, .slice A ps.length c] 27)).alloc (.cells #[.int .i64 L', .int .i64 R', .slice A' qs.length c'] 27) ∧ Fr No w W ∧ Blk W w.heap.size 27 #[.int .i64 L, .int .i64 R, .slice A ps.length c] ∧ Blk W (w.heap.size + 1) 27 #[.int .i64 L', .int .i64 R', .slice A' qs.length c'] :=
    ⟨_, rfl, ((Fr.refl _ _).alloc _).alloc _, (Blk.new _ _ _).alloc _, Blk.new_at _ _ _ (by simp)⟩
  have SI := Lib.hid (samei_any W0 A A' ps qs c c' (hx.keep hf0 (fun _ h => h.elim)) (hy.keep hf0 (fun _ h => h.elim)) hl hl2)
  have a0 : W0.cell? ⟨w.heap.size, 0, none⟩ = some (.int .i64 L) := (hb0.cell 0).trans rfl
  have a1 : W0.cell? ⟨w.heap.size, 1, none⟩ = some (.int .i64 R) := (hb0.cell 1).trans rfl
  have a2 : W0.cell? ⟨w.heap.size, 2, none⟩ = some (.slice A ps.length c) := (hb0.cell 2).trans rfl
  have b0 : W0.cell? ⟨w.heap.size + 1, 0, none⟩ = some (.int .i64 L') := (hb1.cell 0).trans rfl
  have b1 : W0.cell? ⟨w.heap.size + 1, 1, none⟩ = some (.int .i64 R') := (hb1.cell 1).trans rfl
  have b2 : W0.cell? ⟨w.heap.size + 1, 2, none⟩ = some (.slice A' qs.length c') := (hb1.cell 2).trans rfl
  have l0 := hb0.lt
  have l1 := hb1.lt
  have HF0 := Lib.hid hf0
  clear hx hy hf0 hb0 hb1 hl hl2
  by_cases hL : L = L'
  · have eL : (L == L') = true := by simpa using hL
    by_cases hR : R = R'
    · have eR : (R == R') = true := by simpa using hR
      have HLR := Lib.hid (And.intro hL hR)
      clear hL hR
      go_enter Tryz.func8, Tryz.ntmps8
      go_wp2_with fail
      rw [← hW0]
      clear hW0
      go_wp2_with fail
      refine SI.out.mono ?_
      rintro e w2 ⟨b, rfl, hb, n, rfl⟩
      have HB := Lib.hid hb
      clear hb SI
      go_wp2_with fail
      go_ret
      exact ⟨b, rfl, ⟨fun h => ⟨HLR.out.1, HLR.out.2, HB.out.1 h⟩, fun h => HB.out.2 h.2.2⟩, HF0.out.drewN n⟩
    · have eR : (R == R') = false := by simpa using hR
      have HR := Lib.hid hR
      clear hR SI hL
      go_enter Tryz.func8, Tryz.ntmps8
      go_wp2_with fail
      rw [← hW0]
      clear hW0
      go_wp2_with fail
      go_ret
      exact ⟨false, rfl, ⟨fun h => (by cases h), fun h => (HR.out h.2.1).elim⟩, HF0.out⟩
  · have eL : (L == L') = false := by simpa using hL
    have HL := Lib.hid hL
    clear hL SI
    go_enter Tryz.func8, Tryz.ntmps8
    go_wp2_with fail
    rw [← hW0]
    clear hW0
    go_wp2_with fail
    go_ret
    exact ⟨false, rfl, ⟨fun h => (by cases h), fun h => (HL.out h.1).elim⟩, HF0.out⟩
end Go.Proofs.YtloecimlimoanaaGreatDoor
