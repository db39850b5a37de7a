/- Slices of integers: copied, compared; what comes in. -/
import Derived.Test.YtloecimlimoanaaDoorPre
import Derived.OwnWalk
import Derived.OpenShut
import Derived.Below
namespace Go.Proofs.YtloecimlimoanaaDoor
open Go.RowKit Go.ChangeMaps Go.ChangeShapes Go.WideShapes

/-- The slice at A holds these integers. -/
def ISl (w : World) (A : Option Addr) (zs : List Int) : Prop :=
  ∀ (j : Nat) (z : Int), zs[j]? = some z → ∃ g o, A = some ⟨g, o, none⟩ ∧ w.cell? ⟨g, o + j, none⟩ = some (.int .i64 z)

theorem ISl.keep {w w' : World} {A : Option Addr} {zs : List Int} {T : Nat → Prop} (h : ISl w A zs) (hf : Fr T w w') (hT : ∀ b, T b → w.heap.size ≤ b) : ISl w' A zs := by
  intro j x hj
  obtain ⟨g, o, e, hc⟩ := h j x hj
  have hl := block_lt hc
  exact ⟨g, o, e, (hf.cell (p := ⟨g, o + j, none⟩) hl (fun h => by have := hT _ h; simp at this; omega)).trans hc⟩

theorem ISl.of_own {w : World} {B : Nat} {zs : List Int} {A : Option Addr} {c : Nat} (ho : w.ownsRow B 3 1 (.slice A zs.length c) zs.length (zs.map (Value.int .i64))) : ISl w A zs := by
  intro j x hj
  have hl := (List.getElem?_eq_some_iff.1 hj).1
  rcases ho.2 with ⟨_, hn⟩ | ⟨g, cap, cur, hv, _⟩
  · omega
  · injection hv with e1 e2 e3
    refine ⟨g, 0, e1, ?_⟩
    have := ho.cells (g := g) (by rw [e1]; rfl) j (.int .i64 x) (by rw [List.getElem?_map, hj]; rfl)
    rw [addr_add] at this
    exact this

theorem info_int : (Tryd.prog.info? 3).map (fun i => (i.zero, i.size, i.bytes)) = some (some (.int .i64 0), 1, 8) := by kernel_rfl

def CopyI (zs : List Int) (w : World) (e : Ending) (w' : World) : Prop :=
  ∃ g, e = .returned (.slice (some ⟨g, 0, none⟩) zs.length zs.length) ∧ w.heap.size ≤ g ∧ Fr No w w' ∧ w'.ownsRow w.heap.size 3 1 (.slice (some ⟨g, 0, none⟩) zs.length zs.length) zs.length (zs.map (Value.int .i64))

theorem take_set_more {α β : Type} {f : α → β} {xs : List α} {ys : List β} {j : Nat} {x : α} (h : ys.take j = (xs.map f).take j) (hl : j < ys.length) (hx : xs[j]? = some x) : (ys.set j (f x)).take (j + 1) = (xs.map f).take (j + 1) := by
  rw [List.take_add_one, List.take_add_one, List.take_set_of_le (Nat.le_refl _), h, List.getElem?_set_self hl, List.getElem?_map, hx]
  rfl

set_option maxRecDepth 100000 in
set_option maxHeartbeats 1000000 in
theorem copyI_any (w : World) (A : Option Addr) (xs : List Int) (c : Nat) (hx : ISl w A xs) (hl : xs.length ≤ 2000000) :
    Calls Tryd.prog 125 #[.slice A xs.length c] w fun e w' => CopyI xs w e w' := by
  have HX := Lib.hid hx
  clear hx
  have hl' : (xs.length : Int) ≤ 2000000 := by omega
  obtain ⟨i0, hi0, hz0, hz1, hz2⟩ := info_parts info_int
  generalize hn : xs.length = n at hl hl' ⊢
  have HN := Lib.hid hn
  clear hn
  have bnd : i0.bytes * n ≤ 281474976710656 := by rw [hz2]; omega
  have bnd2 : n ≤ maxLen := by unfold maxLen; omega
  have HB := Lib.hid bnd
  clear bnd
  go_enter Tryd.func125, Tryd.ntmps125
  go_wp2_with (at_make; refine wpList_make_full _ rfl _ _ 28 rfl w.heap.size 3 i0 (.int .i64 0) 1 Tryd.underlying28 hi0 hz0 hz1 .i64 .i64 n n n rfl rfl rfl rfl HB.out bnd2 (Nat.le_refl _) ?_; intro w1 hown hgrow)
  have HG : Hid (Fr No w w1) := (Fr.refl No w).grown hgrow (fun k hk => by cases hk)
  have HO : Hid (w1.ownsRow w.heap.size 3 1 (.slice (some ⟨w.heap.size, 0, none⟩) n n) n (madeCells (Value.int .i64 0).cells (n * 1)).toList) := hown
  have HLEN : Hid (n ≤ (madeCells (Value.int .i64 0).cells (n * 1)).toList.length) := by
    show n ≤ _
    have := size_madeCells (Value.int .i64 0).cells (n * 1)
    rw [Array.length_toList, this]; omega
  clear hown hgrow
  go_wp2_with fail
  go_loopw [4] (fun u wr => ∃ (j : Nat), j ≤ n ∧ u = .int .i64 j ∧ Fr No w wr ∧ ∃ ys : List Value, n ≤ ys.length ∧ ys.take j = (xs.map (Value.int .i64)).take j ∧ wr.ownsRow w.heap.size 3 1 (.slice (some ⟨w.heap.size, 0, none⟩) n n) n ys) (fun u _ => n - (intOf u).toNat)
  case atStart => exact ⟨0, Nat.zero_le _, rfl, HG.out, _, HLEN.out, by simp, HO.out⟩
  case round =>
    obtain ⟨j, hj, rfl, hfr, ys, hyl, hys, hown⟩ := hrel
    have HF := Lib.hid hfr
    have HY := Lib.hid hys
    have HW := Lib.hid hown
    clear hfr hys HG HO HLEN
    by_cases hlt : j < n
    · obtain ⟨x, hxj⟩ : ∃ x, xs[j]? = some x := ⟨_, List.getElem?_eq_getElem (by rw [HN.out]; exact hlt)⟩
      obtain ⟨g, o, rfl, hc0⟩ := HX.out j x hxj
      have hc : wr.cell? ⟨g, o + j, none⟩ = some (.int .i64 x) := (HF.out.cell (p := ⟨g, o + j, none⟩) (block_lt hc0) (fun h => h)).trans hc0
      have hcw : wr.cell? ⟨w.heap.size, j, none⟩ = some ys[j] := by
        rw [hown.cellAt j (by omega)]
        exact List.getElem?_eq_getElem (by omega)
      have hfz := hown.frozenAt j
      have FIN : Hid (Fr No w (wr.setCell ⟨w.heap.size, j, none⟩ (.int .i64 x)) ∧ ∃ ys' : List Value, n ≤ ys'.length ∧ ys'.take (j + 1) = (xs.map (Value.int .i64)).take (j + 1) ∧ (wr.setCell ⟨w.heap.size, j, none⟩ (.int .i64 x)).ownsRow w.heap.size 3 1 (.slice (some ⟨w.heap.size, 0, none⟩) n n) n ys') :=
        ⟨HF.out.setCell (p := ⟨w.heap.size, j, none⟩) (.inr (Nat.le_refl _)) _, ys.set j (.int .i64 x), by simpa using hyl, take_set_more HY.out (by omega) hxj, (hown.stored j _).1⟩
      clear hown hc0 hxj
      go_wp2_with fail
      go_roundw
      case rel => exact ⟨j + 1, by omega, by go_num, FIN.out⟩
      case measure => simp [intOf]; omega
    · have hjl : j = n := by omega
      subst hjl
      clear hown
      have HE : Hid (∃ g, Ending.returned (.slice (some ⟨w.heap.size, 0, none⟩) j j) = .returned (.slice (some ⟨g, 0, none⟩) xs.length xs.length) ∧ w.heap.size ≤ g ∧ Fr No w wr ∧ wr.ownsRow w.heap.size 3 1 (.slice (some ⟨g, 0, none⟩) xs.length xs.length) xs.length (xs.map (Value.int .i64))) := by
        refine ⟨w.heap.size, by rw [HN.out], Nat.le_refl _, HF.out, ?_⟩
        rw [HN.out]
        have h := HW.out
        have hm : (xs.map (Value.int .i64)).take j = xs.map (Value.int .i64) := List.take_of_length_le (by simp [HN.out])
        have hy : ys.take j = ys := List.take_of_length_le (by have := h.1; omega)
        rw [← hm, ← HY.out, hy]
        exact h
      go_wp2
      go_ret
      exact HE.out

def EqI (xs ys : List Int) (w : World) (e : Ending) (w' : World) : Prop := ∃ b : Bool, e = .returned (.bool b) ∧ (b = true ↔ xs = ys) ∧ ∃ n, w' = w.drewN n

theorem eq_take_moreI {xs ys : List Int} {j : Nat} {x y : Int} (h : xs.take j = ys.take j) (hx : xs[j]? = some x) (hy : ys[j]? = some y) (hxy : x = y) : xs.take (j + 1) = ys.take (j + 1) := by
  rw [List.take_add_one, List.take_add_one, h, hx, hy, hxy]

set_option maxRecDepth 100000 in
set_option maxHeartbeats 1000000 in
theorem eqi_big (w : World) (A A' : Option Addr) (xs ys : List Int) (c c' : Nat) (hx : ISl w A xs) (hy : ISl w A' ys) (hl : xs.length ≤ 2000000) (hl2 : ys.length ≤ 2000000) :
    Calls Tryd.prog 89 #[.slice A xs.length c, .slice A' ys.length c'] w fun e w' => EqI xs ys w e w' := by
  have HX := Lib.hid hx
  have HY := Lib.hid hy
  clear hx hy
  have hl' : (xs.length : Int) ≤ 2000000 := by omega
  have hl2' : (ys.length : Int) ≤ 2000000 := by omega
  by_cases hne : xs.length = ys.length
  · have HNE := Lib.hid hne
    rw [← hne]
    clear hne
    go_enter Tryd.func89, Tryd.ntmps89
    go_wp2_with fail
    go_loopw [5] (fun v wr => ∃ j : Nat, j ≤ xs.length ∧ v = .int .i64 j ∧ xs.take j = ys.take j ∧ ∃ n, wr = w.drewN n) (fun v _ => xs.length - (intOf v).toNat)
    case atStart => exact ⟨0, Nat.zero_le _, rfl, by simp, 0, rfl⟩
    case round =>
      obtain ⟨j, hj, rfl, hno, nn, rfl⟩ := hrel
      have HN := Lib.hid hno
      clear hno
      by_cases hlt : j < xs.length
      · obtain ⟨x, hxj⟩ : ∃ x, xs[j]? = some x := ⟨_, List.getElem?_eq_getElem hlt⟩
        obtain ⟨y, hyj⟩ : ∃ y, ys[j]? = some y := ⟨_, List.getElem?_eq_getElem (by rw [← HNE.out]; exact hlt)⟩
        obtain ⟨g, o, rfl, hc0⟩ := HX.out j x hxj
        obtain ⟨g', o', rfl, hc1⟩ := HY.out j y hyj
        have hc : (w.drewN nn).cell? ⟨g, o + j, none⟩ = some (.int .i64 x) := hc0
        have hc' : (w.drewN nn).cell? ⟨g', o' + j, none⟩ = some (.int .i64 y) := hc1
        have HFIN : Hid (∃ n, (w.drewN nn).drew = w.drewN n) := ⟨nn + 1, rfl⟩
        clear hc0 hc1
        generalize w.drewN nn = wr at hc hc' HFIN ⊢
        have HXJ := Lib.hid hxj
        have HYJ := Lib.hid hyj
        clear hxj hyj
        by_cases hpx : x = y
        · subst hpx
          go_wp2_with fail
          go_wp2_with fail
          refine wp_region_still_lit (by kernel_rfl) (by kernel_rfl) ?_
          change wpStill _ _ (World.drew _) (fun a' => _) _ _
          repeat still_step
          refine wpStill_nil ?_
          go_wp2
          go_round
          case rel => exact ⟨j + 1, by omega, by go_num, eq_take_moreI HN.out HXJ.out HYJ.out rfl, HFIN.out⟩
          case measure => simp [intOf]; omega
        · have hb : (x == y) = false := by simpa using hpx
          have HPX := Lib.hid hpx
          clear hpx
          go_wp2_with fail
          go_wp2_with fail
          refine wp_region_still_lit (by kernel_rfl) (by kernel_rfl) ?_
          change wpStill _ _ (World.drew _) (fun a' => _) _ _
          repeat still_step
          refine wpStill_nil ?_
          go_wp2
          go_ret
          refine ⟨false, rfl, ⟨fun h => (by cases h), fun h => ?_⟩, HFIN.out⟩
          have e1 := HXJ.out
          rw [h, HYJ.out] at e1
          injection e1 with e1
          exact (HPX.out e1.symm).elim
      · have hjl : j = xs.length := by omega
        have HF : Hid (xs = ys) := by
          have := HN.out
          rw [hjl, List.take_length, HNE.out, List.take_length] at this
          exact this
        clear hjl
        go_wp2
        go_ret
        exact ⟨true, rfl, ⟨fun _ => HF.out, fun _ => rfl⟩, _, rfl⟩
  · have HF : Hid (xs ≠ ys) := fun h => hne (by rw [h])
    go_enter Tryd.func89, Tryd.ntmps89
    go_wp2_with fail
    go_ret
    exact ⟨false, rfl, ⟨fun h => (by cases h), fun h => (HF.out h).elim⟩, 0, rfl⟩

theorem spot_of {w : World} {a : Addr} {v : Value} (h : w.cell? (a.add 0) = some v) : a = ⟨a.block, a.off, none⟩ := by
  obtain ⟨b, o, s⟩ := a
  have hs : s = none := by simpa [Addr.add] using World.cell?_spot h
  subst hs
  rfl

/-- and of a slice of integers -/
def IntsIn (w : World) (a : Option Addr) (len cap : Nat) (zs : List Int) : Prop :=
  len = zs.length ∧ len ≤ cap ∧ len ≤ maxLen ∧ ISl w a zs ∧ ∀ z ∈ zs, -9223372036854775808 ≤ z ∧ z ≤ 9223372036854775807

theorem ints_in {w : World} {a : Option Addr} {len cap : Nat} {zs : List Int}
    (h : (a = none ∧ len = 0 ∧ cap = 0 ∧ zs = []) ∨ ∃ x, a = some x ∧ len ≤ cap ∧ cap ≤ maxLen ∧ zs.length = cap ∧ (∀ i, i < zs.length → w.cell? (x.add i) = some (.int .i64 (zs.getD i 0))) ∧ ∀ n ∈ zs, (Lit.int .i64 n).wf = true) : ∃ ys, IntsIn w a len cap ys := by
  rcases h with ⟨rfl, rfl, rfl, rfl⟩ | ⟨b, rfl, hlc, hcm, hz, hcell, hwf⟩
  · exact ⟨[], rfl, Nat.le_refl _, Nat.zero_le _, fun j x hj => by simp at hj, by simp⟩
  · refine ⟨zs.take len, by simp; omega, hlc, Nat.le_trans hlc hcm, ?_, ?_⟩
    · intro j x hj
      rw [List.getElem?_take] at hj
      split at hj
      · have hl := (List.getElem?_eq_some_iff.1 hj).1
        have h0 := hcell 0 (by omega)
        have h1 := hcell j hl
        have hb := spot_of h0
        refine ⟨b.block, b.off, by rw [← hb], ?_⟩
        rw [hb, addr_add] at h1
        rw [List.getD_eq_getElem?_getD, hj] at h1
        exact h1
      · cases hj
    · intro z hz'
      have := hwf z (List.mem_of_mem_take hz')
      simp [Lit.wf, IntKind.min, IntKind.max, IntKind.signed, IntKind.bits] at this
      omega

theorem copyI_in {w : World} {A : Option Addr} {xs : List Int} {n c : Nat} (h : ISl w A xs) (hn : n = xs.length) (hl : n ≤ 2000000) (w' : World) (hf : Fr No w w') :
    Calls Tryd.prog 125 #[.slice A n c] w' fun e w2 => ∃ g, e = .returned (.slice (some ⟨g, 0, none⟩) n n) ∧ Fr No w' w2 ∧ Fr No w w2 ∧ ∀ w3, Fr No w2 w3 → ISl w3 (some ⟨g, 0, none⟩) xs := by
  subst hn
  refine (copyI_any w' A xs c (h.keep hf (fun _ h => h.elim)) hl).mono ?_
  rintro e w2 ⟨g, rfl, _, hf2, ho⟩
  exact ⟨g, rfl, hf2, hf.trans hf2, fun w3 hf3 => (ISl.of_own ho).keep hf3 (fun _ h => h.elim)⟩

theorem sameI_in {w : World} {A A' : Option Addr} {xs : List Int} {n c c' : Nat} {w0 : World} (hw : Fr No w0 w) (h : ISl w A xs) (h' : ISl w A' xs) (hn : n = xs.length) (hl : n ≤ 2000000) :
    Calls Tryd.prog 89 #[.slice A n c, .slice A' n c'] w fun e w2 => e = .returned (.bool true) ∧ Fr No w w2 ∧ Fr No w0 w2 := by
  subst hn
  refine (eqi_big w A A' xs xs c c' h h' hl hl).mono ?_
  rintro e w2 ⟨b, rfl, hb, m, rfl⟩
  obtain rfl : b = true := hb.2 rfl
  exact ⟨rfl, (Fr.refl No w).drewN m, hw.drewN m⟩
end Go.Proofs.YtloecimlimoanaaDoor
