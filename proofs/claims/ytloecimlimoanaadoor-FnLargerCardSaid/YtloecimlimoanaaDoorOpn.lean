/- Slices of texts and of integers that the laws copy, measure and compare. · Slices of texts and of integers that come in; calls of the laws' helpers. -/
import Derived.Test.YtloecimlimoanaaDoorMark
import Derived.Test.YtloecimlimoanaaDoorShead
import Derived.Test.YtloecimlimoanaaDoorRdr
import Derived.OwnWalk
import Derived.OpenShut
import Derived.Deep.Strs
/- Slices of texts and of integers that the laws copy, measure and compare. -/
namespace Go.Proofs.YtloecimlimoanaaDoor
open Go.RowKit Go.ChangeMaps

theorem SSl.keep {w w' : World} {A : Option Addr} {xs : List (List UInt8)} {T : Nat → Prop} (h : SSl w A xs) (hf : Fr T w w') (hT : ∀ b, T b → w.heap.size ≤ b) : SSl w' A xs := by
  intro j x hj
  obtain ⟨g, o, e, hc⟩ := h j x hj
  have hl := block_lt hc
  exact ⟨g, o, e, (hf.cell (p := ⟨g, o + j, none⟩) hl (fun h => by have := hT _ h; simp at this; omega)).trans hc⟩

/-- A copy in new memory. -/
def CopyS (xs : List (List UInt8)) (w : World) (e : Ending) (w' : World) : Prop :=
  ∃ g, e = .returned (.slice (some ⟨g, 0, none⟩) xs.length xs.length) ∧ w.heap.size ≤ g ∧ Fr No w w' ∧ w'.ownsRow w.heap.size 9 1 (.slice (some ⟨g, 0, none⟩) xs.length xs.length) xs.length (xs.map S)
set_option maxRecDepth 100000 in
set_option maxHeartbeats 1000000 in
theorem copyS_any (w : World) (A : Option Addr) (xs : List (List UInt8)) (c : Nat) (hx : SSl w A xs) (hl : xs.length ≤ 2000000) :
    Calls Tryd.prog 40 #[.slice A xs.length c] w fun e w' => CopyS xs w e w' := by
  have HX := Lib.hid hx
  clear hx
  have hl' : (xs.length : Int) ≤ 2000000 := by omega
  obtain ⟨i0, hi0, hz0, hz1, hz2⟩ := info_parts info_str
  generalize hn : xs.length = n at hl hl' ⊢
  have HN := Lib.hid hn
  clear hn
  have bnd : i0.bytes * n ≤ 281474976710656 := by rw [hz2]; omega
  have bnd2 : n ≤ maxLen := by unfold maxLen; omega
  have HB := Lib.hid bnd
  clear bnd
  go_enter Tryd.func40, Tryd.ntmps40
  go_wp2_with (at_make; refine wpList_make_full _ rfl _ _ 23 rfl w.heap.size 9 i0 (.string ⟨#[]⟩) 1 Tryd.underlying23 hi0 hz0 hz1 .i64 .i64 n n n rfl rfl rfl rfl HB.out bnd2 (Nat.le_refl _) ?_; intro w1 hown hgrow)
  have HG : Hid (Fr No w w1) := (Fr.refl No w).grown hgrow (fun k hk => by cases hk)
  have HO : Hid (w1.ownsRow w.heap.size 9 1 (.slice (some ⟨w.heap.size, 0, none⟩) n n) n (madeCells (Value.string ⟨#[]⟩).cells (n * 1)).toList) := hown
  have HLEN : Hid (n ≤ (madeCells (Value.string ⟨#[]⟩).cells (n * 1)).toList.length) := by
    show n ≤ _
    have := size_madeCells (Value.string ⟨#[]⟩).cells (n * 1)
    rw [Array.length_toList, this]; omega
  clear hown hgrow
  go_wp2_with fail
  go_loopw [4] (fun u wr => ∃ (j : Nat), j ≤ n ∧ u = .int .i64 j ∧ Fr No w wr ∧ ∃ ys : List Value, n ≤ ys.length ∧ ys.take j = (xs.map S).take j ∧ wr.ownsRow w.heap.size 9 1 (.slice (some ⟨w.heap.size, 0, none⟩) n n) n ys) (fun u _ => n - (intOf u).toNat)
  case atStart => exact ⟨0, Nat.zero_le _, rfl, HG.out, _, HLEN.out, by simp, HO.out⟩
  case round =>
    obtain ⟨j, hj, rfl, hfr, ys, hyl, hys, hown⟩ := hrel
    have HF := Lib.hid hfr
    have HY := Lib.hid hys
    have HW := Lib.hid hown
    clear hfr hys HG HO HLEN
    by_cases hlt : j < n
    · obtain ⟨x, hxj⟩ : ∃ x, xs[j]? = some x := ⟨_, List.getElem?_eq_getElem (by rw [HN.out]; exact hlt)⟩
      obtain ⟨g, o, rfl, hc0⟩ := HX.out j x hxj
      have hc : wr.cell? ⟨g, o + j, none⟩ = some (S x) := (HF.out.cell (p := ⟨g, o + j, none⟩) (block_lt hc0) (fun h => h)).trans hc0
      have hcw : wr.cell? ⟨w.heap.size, j, none⟩ = some ys[j] := by
        rw [hown.cellAt j (by omega)]
        exact List.getElem?_eq_getElem (by omega)
      have hfz := hown.frozenAt j
      have FIN : Hid (Fr No w (wr.setCell ⟨w.heap.size, j, none⟩ (S x)) ∧ ∃ ys' : List Value, n ≤ ys'.length ∧ ys'.take (j + 1) = (xs.map S).take (j + 1) ∧ (wr.setCell ⟨w.heap.size, j, none⟩ (S x)).ownsRow w.heap.size 9 1 (.slice (some ⟨w.heap.size, 0, none⟩) n n) n ys') :=
        ⟨HF.out.setCell (p := ⟨w.heap.size, j, none⟩) (.inr (Nat.le_refl _)) _, ys.set j (S x), by simpa using hyl, take_set_more HY.out (by omega) hxj, (hown.stored j _).1⟩
      clear hown hc0 hxj
      go_wp2_with fail
      go_roundw
      case rel => exact ⟨j + 1, by omega, by go_num, FIN.out⟩
      case measure => simp [intOf]; omega
    · have hjl : j = n := by omega
      subst hjl
      clear hown
      have HE : Hid (∃ g, Ending.returned (.slice (some ⟨w.heap.size, 0, none⟩) j j) = .returned (.slice (some ⟨g, 0, none⟩) xs.length xs.length) ∧ w.heap.size ≤ g ∧ Fr No w wr ∧ wr.ownsRow w.heap.size 9 1 (.slice (some ⟨g, 0, none⟩) xs.length xs.length) xs.length (xs.map S)) := by
        refine ⟨w.heap.size, by rw [HN.out], Nat.le_refl _, HF.out, ?_⟩
        rw [HN.out]
        have h := HW.out
        have hm : (xs.map S).take j = xs.map S := List.take_of_length_le (by simp [HN.out])
        have hy : ys.take j = ys := List.take_of_length_le (by have := h.1; omega)
        rw [← hm, ← HY.out, hy]
        exact h
      go_wp2
      go_ret
      exact HE.out

set_option maxRecDepth 100000 in
set_option maxHeartbeats 1000000 in
theorem eqs_big (w : World) (A A' : Option Addr) (xs ys : List (List UInt8)) (c c' : Nat) (hx : SSl w A xs) (hy : SSl w A' ys) (hl : xs.length ≤ 2000000) (hl2 : ys.length ≤ 2000000) :
    Calls Tryd.prog 42 #[.slice A xs.length c, .slice A' ys.length c'] w fun e w' => EqS xs ys w e w' := by
  have HX := Lib.hid hx
  have HY := Lib.hid hy
  clear hx hy
  have hl' : (xs.length : Int) ≤ 2000000 := by omega
  have hl2' : (ys.length : Int) ≤ 2000000 := by omega
  by_cases hne : xs.length = ys.length
  · have HNE := Lib.hid hne
    rw [← hne]
    clear hne
    go_enter Tryd.func42, Tryd.ntmps42
    go_wp2_with fail
    go_loopw [5] (fun v wr => ∃ j : Nat, j ≤ xs.length ∧ v = .int .i64 j ∧ xs.take j = ys.take j ∧ ∃ n, wr = w.drewN n) (fun v _ => xs.length - (intOf v).toNat)
    case atStart => exact ⟨0, Nat.zero_le _, rfl, by simp, 0, rfl⟩
    case round =>
      obtain ⟨j, hj, rfl, hno, nn, rfl⟩ := hrel
      have HN := Lib.hid hno
      clear hno
      by_cases hlt : j < xs.length
      · obtain ⟨x, hxj⟩ : ∃ x, xs[j]? = some x := ⟨_, List.getElem?_eq_getElem hlt⟩
        obtain ⟨y, hyj⟩ : ∃ y, ys[j]? = some y := ⟨_, List.getElem?_eq_getElem (by rw [← HNE.out]; exact hlt)⟩
        obtain ⟨g, o, rfl, hc0⟩ := HX.out j x hxj
        obtain ⟨g', o', rfl, hc1⟩ := HY.out j y hyj
        have hc : (w.drewN nn).cell? ⟨g, o + j, none⟩ = some (S x) := hc0
        have hc' : (w.drewN nn).cell? ⟨g', o' + j, none⟩ = some (S y) := hc1
        have HFIN : Hid (∃ n, (w.drewN nn).drew = w.drewN n) := ⟨nn + 1, rfl⟩
        clear hc0 hc1
        generalize w.drewN nn = wr at hc hc' HFIN ⊢
        have HXJ := Lib.hid hxj
        have HYJ := Lib.hid hyj
        clear hxj hyj
        by_cases hpx : x = y
        · subst hpx
          go_wp2_with fail
          go_wp2_with fail
          refine wp_region_still_lit (by kernel_rfl) (by kernel_rfl) ?_
          change wpStill _ _ (World.drew _) (fun a' => _) _ _
          repeat still_step
          refine wpStill_nil ?_
          go_wp2
          go_round
          case rel => exact ⟨j + 1, by omega, by go_num, eq_take_more HN.out HXJ.out HYJ.out rfl, HFIN.out⟩
          case measure => simp [intOf]; omega
        · have hb : (x == y) = false := by simpa using hpx
          have HPX := Lib.hid hpx
          clear hpx
          go_wp2_with fail
          go_wp2_with fail
          refine wp_region_still_lit (by kernel_rfl) (by kernel_rfl) ?_
          change wpStill _ _ (World.drew _) (fun a' => _) _ _
          repeat still_step
          refine wpStill_nil ?_
          go_wp2
          go_ret
          refine ⟨false, rfl, ⟨fun h => (by cases h), fun h => ?_⟩, HFIN.out⟩
          have e1 := HXJ.out
          rw [h, HYJ.out] at e1
          injection e1 with e1
          exact (HPX.out e1.symm).elim
      · have hjl : j = xs.length := by omega
        have HF : Hid (xs = ys) := by
          have := HN.out
          rw [hjl, List.take_length, HNE.out, List.take_length] at this
          exact this
        clear hjl
        go_wp2
        go_ret
        exact ⟨true, rfl, ⟨fun _ => HF.out, fun _ => rfl⟩, _, rfl⟩
  · have HF : Hid (xs ≠ ys) := fun h => hne (by rw [h])
    go_enter Tryd.func42, Tryd.ntmps42
    go_wp2_with fail
    go_ret
    exact ⟨false, rfl, ⟨fun h => (by cases h), fun h => (HF.out h).elim⟩, 0, rfl⟩

/-- what is left of the measure -/
def SzS (xs : List (List UInt8)) (left : Int) (w : World) (e : Ending) (w' : World) : Prop := ∃ n : Int, e = .returned (.int .i64 n) ∧ -1 ≤ n ∧ n ≤ left ∧ (0 ≤ n → (xs.length : Int) ≤ left) ∧ w = w'

set_option maxRecDepth 100000 in
set_option maxHeartbeats 1000000 in
theorem szS_any (w : World) (A : Option Addr) (xs : List (List UInt8)) (c : Nat) (left : Int) (h0 : 0 ≤ left) (h1 : left ≤ 1048576) (hx : SSl w A xs) (hl : xs.length ≤ maxLen) (hs : ∀ x ∈ xs, x.length ≤ maxLen) :
    Calls Tryd.prog 38 #[.slice A xs.length c, .int .i64 left] w fun e w' => SzS xs left w e w' := by
  have HX := Lib.hid hx
  have HS := Lib.hid hs
  clear hx hs
  unfold maxLen at hl
  by_cases hbig : left < xs.length
  · have hneg : left - (xs.length : Int) < 0 := by omega
    have hl' : (xs.length : Int) ≤ 9223372036854775807 := by omega
    go_enter Tryd.func38, Tryd.ntmps38
    go_wp2_with fail
    go_ret
    exact ⟨-1, rfl, by omega, by omega, fun h => by omega, rfl⟩
  · have hneg : ¬ left - (xs.length : Int) < 0 := by omega
    have hl' : (xs.length : Int) ≤ 1048576 := by omega
    go_enter Tryd.func38, Tryd.ntmps38
    go_wp2_with fail
    go_loop [1, 5] (fun r u => ∃ (j : Nat) (n : Int), j ≤ xs.length ∧ u = .int .i64 j ∧ r = .int .i64 n ∧ 0 ≤ n ∧ n ≤ left) (fun _ u => xs.length - (intOf u).toNat)
    case atStart => exact ⟨0, _, Nat.zero_le _, rfl, rfl, by omega, by omega⟩
    case round =>
      obtain ⟨j, n, hj, rfl, rfl, hn0, hn1⟩ := hrel
      by_cases hlt : j < xs.length
      · obtain ⟨x, hxj⟩ : ∃ x, xs[j]? = some x := ⟨_, List.getElem?_eq_getElem hlt⟩
        obtain ⟨g, o, rfl, hc⟩ := HX.out j x hxj
        have hxl := HS.out x (List.mem_of_getElem? hxj)
        unfold maxLen at hxl
        clear hxj
        have hxl' : (x.length : Int) ≤ 9223372036854775807 := by omega
        by_cases hm : n < (x.length : Int)
        · have hm' : n - (x.length : Int) < 0 := by omega
          go_wp2_with fail
          go_ret
          exact ⟨-1, rfl, by omega, by omega, fun h => by omega, rfl⟩
        · have hm' : ¬ n - (x.length : Int) < 0 := by omega
          go_wp2_with fail
          go_round
          case rel => exact ⟨j + 1, n - (x.length : Int), by omega, by go_num, by go_num, by omega, by omega⟩
          case measure => simp [intOf]; omega
      · have hjl : j = xs.length := by omega
        go_wp2_with fail
        go_ret
        exact ⟨n, rfl, by omega, hn1, fun _ => by omega, rfl⟩
end Go.Proofs.YtloecimlimoanaaDoor

/- Slices of texts and of integers that come in; calls of the laws' helpers. -/
namespace Go.Proofs.YtloecimlimoanaaDoor
open Go.RowKit Go.ChangeMaps Go.ChangeShapes Go.WideShapes

/-- what is told of a slice of texts that came in -/
def StrsIn (w : World) (a : Option Addr) (len cap : Nat) (xs : List (List UInt8)) : Prop :=
  len = xs.length ∧ len ≤ cap ∧ len ≤ maxLen ∧ SSl w a xs ∧ ∀ x ∈ xs, x.length ≤ maxLen

theorem strs_in {H : Type} {enc : TypeId × Value → H} {P : Program} {w : World} {base : Nat} {spare : Nat → Bool} {held : Bool} {t e : TypeId} {fuel : Nat} {a : Option Addr} {len cap : Nat} {x : DataW H × List MemPlace}
    (ht : P.underlying t = some (.slice e)) (he : P.underlying e = some .string) (hc : P.cellsOf e = 1) (h : DataW.trod enc P w base spare held fuel t (Value.cells (.slice a len cap)).toList = some x) : ∃ xs, StrsIn w a len cap xs := by
  rcases Go.Deep.open_strs ht he hc h with ⟨hcs, _⟩ | ⟨b, l, c, m, Sx, hcs, _, hlc, hcm, hm, _, hcell⟩
  · simp [Value.cells] at hcs
    obtain ⟨rfl, rfl, rfl⟩ := hcs
    exact ⟨[], rfl, Nat.le_refl _, Nat.zero_le _, fun j x hj => by simp at hj, by simp⟩
  · simp [Value.cells] at hcs
    obtain ⟨rfl, rfl, rfl⟩ := hcs
    have hlm : len ≤ m := by rw [hm]; split <;> omega
    refine ⟨(List.range len).map fun i => (Sx i).data.toList, by simp, hlc, Nat.le_trans hlc hcm, ?_, ?_⟩
    · intro j x hj
      rw [List.getElem?_map] at hj
      by_cases hjl : j < len
      · rw [List.getElem?_range hjl] at hj
        simp at hj
        subst hj
        have h0 := (hcell 0 (by omega)).1
        have hj := (hcell j (by omega)).1
        have hb := spot_of h0
        refine ⟨b.block, b.off, by rw [← hb], ?_⟩
        rw [hb, addr_add] at hj
        exact hj
      · rw [List.getElem?_eq_none (by simp; omega)] at hj
        cases hj
    · intro x hx
      obtain ⟨i, hi, rfl⟩ := List.mem_map.1 hx
      have := (hcell i (by have := List.mem_range.1 hi; omega)).2
      rw [Array.length_toList]
      exact this

/-! Calls of the helpers, in whatever world of the law. -/
theorem copyS_in {w : World} {A : Option Addr} {xs : List (List UInt8)} {n c : Nat} (h : SSl w A xs) (hn : n = xs.length) (hl : n ≤ 2000000) (w' : World) (hf : Fr No w w') :
    Calls Tryd.prog 40 #[.slice A n c] w' fun e w2 => ∃ g, e = .returned (.slice (some ⟨g, 0, none⟩) n n) ∧ Fr No w' w2 ∧ Fr No w w2 ∧ ∀ w3, Fr No w2 w3 → SSl w3 (some ⟨g, 0, none⟩) xs := by
  subst hn
  refine (copyS_any w' A xs c (h.keep hf (fun _ h => h.elim)) hl).mono ?_
  rintro e w2 ⟨g, rfl, _, hf2, ho⟩
  exact ⟨g, rfl, hf2, hf.trans hf2, fun w3 hf3 => (SSl.of_own ho).keep hf3 (fun _ h => h.elim)⟩

theorem sameS_in {w : World} {A A' : Option Addr} {xs : List (List UInt8)} {n c c' : Nat} {w0 : World} (hw : Fr No w0 w) (h : SSl w A xs) (h' : SSl w A' xs) (hn : n = xs.length) (hl : n ≤ 2000000) :
    Calls Tryd.prog 42 #[.slice A n c, .slice A' n c'] w fun e w2 => e = .returned (.bool true) ∧ Fr No w w2 ∧ Fr No w0 w2 := by
  subst hn
  refine (eqs_big w A A' xs xs c c' h h' hl hl).mono ?_
  rintro e w2 ⟨b, rfl, hb, m, rfl⟩
  obtain rfl : b = true := hb.2 rfl
  exact ⟨rfl, (Fr.refl No w).drewN m, hw.drewN m⟩

end Go.Proofs.YtloecimlimoanaaDoor
