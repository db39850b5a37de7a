/- The plain laws' own helpers: sameInts, sameRel. -/
import Derived.Test.YticoeooeeejboaaDoorIsl
import Derived.Test.YticoeooeeejboaaDoorRdr
namespace Go.Proofs.YticoeooeeejboaaDoor
open Go.RowKit Go.ChangeMaps Go.ChangeShapes Go.WideShapes

set_option maxRecDepth 100000 in
set_option maxHeartbeats 1000000 in
theorem samei_any (w : World) (A A' : Option Addr) (xs ys : List Int) (c c' : Nat) (hx : ISl w A xs) (hy : ISl w A' ys) (hl : xs.length ≤ 2000000) (hl2 : ys.length ≤ 2000000) :
    Calls Tryd.prog 41 #[.slice A xs.length c, .slice A' ys.length c'] w fun e w' => EqI xs ys w e w' := by
  have HX := Lib.hid hx
  have HY := Lib.hid hy
  clear hx hy
  have hl' : (xs.length : Int) ≤ 2000000 := by omega
  have hl2' : (ys.length : Int) ≤ 2000000 := by omega
  by_cases hne : xs.length = ys.length
  · have HNE := Lib.hid hne
    rw [← hne]
    clear hne
    go_enter Tryd.func41, Tryd.ntmps41
    go_wp2_with fail
    go_loopw [5] (fun v wr => ∃ j : Nat, j ≤ xs.length ∧ v = .int .i64 j ∧ xs.take j = ys.take j ∧ ∃ n, wr = w.drewN n) (fun v _ => xs.length - (intOf v).toNat)
    case atStart => exact ⟨0, Nat.zero_le _, rfl, by simp, 0, rfl⟩
    case round =>
      obtain ⟨j, hj, rfl, hno, nn, rfl⟩ := hrel
      have HN := Lib.hid hno
      clear hno
      by_cases hlt : j < xs.length
      · obtain ⟨x, hxj⟩ : ∃ x, xs[j]? = some x := ⟨_, List.getElem?_eq_getElem hlt⟩
        obtain ⟨y, hyj⟩ : ∃ y, ys[j]? = some y := ⟨_, List.getElem?_eq_getElem (by rw [← HNE.out]; exact hlt)⟩
        obtain ⟨g, o, rfl, hc0⟩ := HX.out j x hxj
        obtain ⟨g', o', rfl, hc1⟩ := HY.out j y hyj
        have hc : (w.drewN nn).cell? ⟨g, o + j, none⟩ = some (.int .i64 x) := hc0
        have hc' : (w.drewN nn).cell? ⟨g', o' + j, none⟩ = some (.int .i64 y) := hc1
        have HFIN : Hid (∃ n, (w.drewN nn).drew = w.drewN n) := ⟨nn + 1, rfl⟩
        clear hc0 hc1
        generalize w.drewN nn = wr at hc hc' HFIN ⊢
        have HXJ := Lib.hid hxj
        have HYJ := Lib.hid hyj
        clear hxj hyj
        by_cases hpx : x = y
        · subst hpx
          go_wp2_with fail
          go_wp2_with fail
          refine wp_region_still_lit (by kernel_rfl) (by kernel_rfl) ?_
          change wpStill _ _ (World.drew _) (fun a' => _) _ _
          repeat still_step
          refine wpStill_nil ?_
          go_wp2
          go_round
          case rel => exact ⟨j + 1, by omega, by go_num, eq_take_moreI HN.out HXJ.out HYJ.out rfl, HFIN.out⟩
          case measure => simp [intOf]; omega
        · have hb : (x == y) = false := by simpa using hpx
          have HPX := Lib.hid hpx
          clear hpx
          go_wp2_with fail
          go_wp2_with fail
          refine wp_region_still_lit (by kernel_rfl) (by kernel_rfl) ?_
          change wpStill _ _ (World.drew _) (fun a' => _) _ _
          repeat still_step
          refine wpStill_nil ?_
          go_wp2
          go_ret
          refine ⟨false, rfl, ⟨fun h => (by cases h), fun h => ?_⟩, HFIN.out⟩
          have e1 := HXJ.out
          rw [h, HYJ.out] at e1
          injection e1 with e1
          exact (HPX.out e1.symm).elim
      · have hjl : j = xs.length := by omega
        have HF : Hid (xs = ys) := by
          have := HN.out
          rw [hjl, List.take_length, HNE.out, List.take_length] at this
          exact this
        clear hjl
        go_wp2
        go_ret
        exact ⟨true, rfl, ⟨fun _ => HF.out, fun _ => rfl⟩, _, rfl⟩
  · have HF : Hid (xs ≠ ys) := fun h => hne (by rw [h])
    go_enter Tryd.func41, Tryd.ntmps41
    go_wp2_with fail
    go_ret
    exact ⟨false, rfl, ⟨fun h => (by cases h), fun h => (HF.out h).elim⟩, 0, rfl⟩


/-- whether two relations are written alike -/
def SameR (L R : Int) (ps : List Int) (L' R' : Int) (qs : List Int) (w : World) (e : Ending) (w' : World) : Prop := ∃ b : Bool, e = .returned (.bool b) ∧ (b = true ↔ L = L' ∧ R = R' ∧ ps = qs) ∧ Fr No w w'

set_option maxRecDepth 100000 in
set_option maxHeartbeats 1000000 in
theorem samer_any (w : World) (L R : Int) (A : Option Addr) (c : Nat) (ps : List Int) (L' R' : Int) (A' : Option Addr) (c' : Nat) (qs : List Int) (hx : ISl w A ps) (hy : ISl w A' qs) (hl : ps.length ≤ 2000000) (hl2 : qs.length ≤ 2000000) :
    Calls Tryd.prog 15 #[RV L R A ps.length c, RV L' R' A' qs.length c'] w fun e w' => SameR L R ps L' R' qs w e w' := by
  obtain ⟨W0, hW0, hf0, hb0, hb1⟩ : ∃ W, W = (w.alloc (.cells #[.int .i64 L, .int .i64 R, .slice A ps.length c] 25)).alloc (.cells #[.int .i64 L', .int .i64 R', .slice A' qs.length c'] 25) ∧ Fr No w W ∧ Blk W w.heap.size 25 #[.int .i64 L, .int .i64 R, .slice A ps.length c] ∧ Blk W (w.heap.size + 1) 25 #[.int .i64 L', .int .i64 R', .slice A' qs.length c'] :=
    ⟨_, rfl, ((Fr.refl _ _).alloc _).alloc _, (Blk.new _ _ _).alloc _, Blk.new_at _ _ _ (by simp)⟩
  have SI := Lib.hid (samei_any W0 A A' ps qs c c' (hx.keep hf0 (fun _ h => h.elim)) (hy.keep hf0 (fun _ h => h.elim)) hl hl2)
  have a0 : W0.cell? ⟨w.heap.size, 0, none⟩ = some (.int .i64 L) := (hb0.cell 0).trans rfl
  have a1 : W0.cell? ⟨w.heap.size, 1, none⟩ = some (.int .i64 R) := (hb0.cell 1).trans rfl
  have a2 : W0.cell? ⟨w.heap.size, 2, none⟩ = some (.slice A ps.length c) := (hb0.cell 2).trans rfl
  have b0 : W0.cell? ⟨w.heap.size + 1, 0, none⟩ = some (.int .i64 L') := (hb1.cell 0).trans rfl
  have b1 : W0.cell? ⟨w.heap.size + 1, 1, none⟩ = some (.int .i64 R') := (hb1.cell 1).trans rfl
  have b2 : W0.cell? ⟨w.heap.size + 1, 2, none⟩ = some (.slice A' qs.length c') := (hb1.cell 2).trans rfl
  have l0 := hb0.lt
  have l1 := hb1.lt
  have HF0 := Lib.hid hf0
  clear hx hy hf0 hb0 hb1 hl hl2
  by_cases hL : L = L'
  · have eL : (L == L') = true := by simpa using hL
    by_cases hR : R = R'
    · have eR : (R == R') = true := by simpa using hR
      have HLR := Lib.hid (And.intro hL hR)
      clear hL hR
      go_enter Tryd.func15, Tryd.ntmps15
      go_wp2_with fail
      rw [← hW0]
      clear hW0
      go_wp2_with fail
      refine SI.out.mono ?_
      rintro e w2 ⟨b, rfl, hb, n, rfl⟩
      have HB := Lib.hid hb
      clear hb SI
      go_wp2_with fail
      go_ret
      exact ⟨b, rfl, ⟨fun h => ⟨HLR.out.1, HLR.out.2, HB.out.1 h⟩, fun h => HB.out.2 h.2.2⟩, HF0.out.drewN n⟩
    · have eR : (R == R') = false := by simpa using hR
      have HR := Lib.hid hR
      clear hR SI hL
      go_enter Tryd.func15, Tryd.ntmps15
      go_wp2_with fail
      rw [← hW0]
      clear hW0
      go_wp2_with fail
      go_ret
      exact ⟨false, rfl, ⟨fun h => (by cases h), fun h => (HR.out h.2.1).elim⟩, HF0.out⟩
  · have eL : (L == L') = false := by simpa using hL
    have HL := Lib.hid hL
    clear hL SI
    go_enter Tryd.func15, Tryd.ntmps15
    go_wp2_with fail
    rw [← hW0]
    clear hW0
    go_wp2_with fail
    go_ret
    exact ⟨false, rfl, ⟨fun h => (by cases h), fun h => (HL.out h.1).elim⟩, HF0.out⟩
end Go.Proofs.YticoeooeeejboaaDoor
