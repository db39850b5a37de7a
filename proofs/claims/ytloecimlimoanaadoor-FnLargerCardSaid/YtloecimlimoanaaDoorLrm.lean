/- Relations that the laws copy, measure, compare. · Own rows of integers: marked and held, alone and in relations. -/
import Derived.Test.YtloecimlimoanaaDoorRdr
import Derived.Deep.RegionHeld3
import Derived.Lib.SmallJoins
/- Relations that the laws copy, measure, compare. -/
namespace Go.Proofs.YtloecimlimoanaaDoor
open Go.RowKit Go.ChangeMaps

/-- what is left of the measure -/
def SzR (n : Nat) (left : Int) (w : World) (e : Ending) (w' : World) : Prop := ∃ m : Int, e = .returned (.int .i64 m) ∧ -1 ≤ m ∧ m ≤ left ∧ (0 ≤ m → m + (n : Int) ≤ left) ∧ Fr No w w'

set_option maxHeartbeats 1000000 in
theorem szI_any (w : World) (A : Option Addr) (n c : Nat) (left : Int) (h0 : 0 ≤ left) (h1 : left ≤ 1048576) (hn : n ≤ maxLen) :
    Calls Tryd.prog 124 #[.slice A n c, .int .i64 left] w fun e w' => SzR n left w e w' := by
  unfold maxLen at hn
  have hn' : (n : Int) ≤ 9223372036854775807 := by omega
  by_cases hbig : left < (n : Int)
  · have hneg : left - (n : Int) < 0 := by omega
    go_enter Tryd.func124, Tryd.ntmps124
    go_wp2_with fail
    go_ret
    exact ⟨-1, rfl, by omega, by omega, fun h => by omega, Fr.refl _ _⟩
  · have hneg : ¬ left - (n : Int) < 0 := by omega
    go_enter Tryd.func124, Tryd.ntmps124
    go_wp2_with fail
    go_ret
    exact ⟨_, rfl, by omega, by omega, fun h => by omega, Fr.refl _ _⟩

set_option maxHeartbeats 1000000 in
theorem szR_any (w : World) (L R : Int) (A : Option Addr) (n c : Nat) (left : Int) (h0 : 0 ≤ left) (h1 : left ≤ 1048576) (hn : n ≤ maxLen) :
    Calls Tryd.prog 87 #[RV L R A n c, .int .i64 left] w fun e w' => SzR n left w e w' := by
  have HS : Hid (∀ W, Calls Tryd.prog 124 #[.slice A n c, .int .i64 left] W fun e w' => SzR n left W e w') := fun W => szI_any W A n c left h0 h1 hn
  have HFB : Hid (Fr No w (w.alloc (.cells #[.int .i64 L, .int .i64 R, .slice A n c] 132))) := (Fr.refl No w).alloc _
  go_enter Tryd.func87, Tryd.ntmps87
  go_wp2_with fail
  refine (HS.out _).mono ?_
  rintro e w1 ⟨m, rfl, h2, h3, h4, hf⟩
  have HF := Lib.hid (HFB.out.trans hf)
  clear hf
  by_cases hneg : m < 0
  · go_wp2_with fail
    go_ret
    exact ⟨-1, rfl, by omega, by omega, fun h => by omega, HF.out⟩
  · go_wp2_with fail
    go_ret
    exact ⟨_, rfl, by omega, by omega, fun h => h4 h, HF.out⟩

theorem own_far {w : World} {B g n c : Nat} {e : TypeId} {xs : List Value} (h : w.ownsRow B e 1 (.slice (some ⟨g, 0, none⟩) n c) n xs) {p : Addr} (hp : g ≠ p.block) (u : Value) : (w.setCell p u).ownsRow B e 1 (.slice (some ⟨g, 0, none⟩) n c) n xs := by
  refine ⟨h.1, ?_⟩
  rcases h.2 with h | ⟨g', cap, cur, hv, h2, h3, h4⟩
  · exact .inl h
  · right
    injection hv with e1 e2 e3
    injection e1 with e1
    injection e1 with e1
    subst e1 e3
    exact ⟨g, c, cur, rfl, h2, (Below.heap_setCell w p u g hp).trans h3, h4⟩

theorem own_low {w : World} {B B' g n c : Nat} {e : TypeId} {xs : List Value} (h : w.ownsRow B e 1 (.slice (some ⟨g, 0, none⟩) n c) n xs) (hB : B' ≤ B) : w.ownsRow B' e 1 (.slice (some ⟨g, 0, none⟩) n c) n xs := by
  refine ⟨h.1, ?_⟩
  rcases h.2 with h | ⟨g', cap, cur, hv, h2, h3⟩
  · exact .inl h
  · exact .inr ⟨g', cap, cur, hv, Nat.le_trans hB h2, h3⟩

/-- a copy of a relation, in new memory -/
def CopyR (L R : Int) (ps : List Int) (w : World) (e : Ending) (w' : World) : Prop :=
  ∃ g, e = .returned (RV L R (some ⟨g, 0, none⟩) ps.length ps.length) ∧ w.heap.size ≤ g ∧ Fr No w w' ∧ w'.ownsRow w.heap.size 3 1 (.slice (some ⟨g, 0, none⟩) ps.length ps.length) ps.length (ps.map (Value.int .i64))

set_option maxHeartbeats 1000000 in
theorem toRel_any (w : World) (L R : Int) (A : Option Addr) (ps : List Int) (c : Nat) (hp : ISl w A ps) (hn : ps.length ≤ 2000000) :
    Calls Tryd.prog 88 #[RV L R A ps.length c] w fun e w' => CopyR L R ps w e w' := by
  have CP : Hid (∀ W, Fr No w W → Calls Tryd.prog 125 #[.slice A ps.length c] W fun e w' => CopyI ps W e w') := fun W hf => copyI_any W A ps c (hp.keep hf (fun _ h => h.elim)) hn
  clear hp
  go_enter Tryd.func88, Tryd.ntmps88
  go_wp2_with fail
  have HF0 : Hid (Fr No w (((w.alloc (.cells #[.int .i64 L, .int .i64 R, .slice A ps.length c] 132)).alloc (.cells #[.int .i64 0, .int .i64 0, .slice none 0 0] 30)).alloc (.cells #[.int .i64 L, .int .i64 R, .slice none 0 0] 30))) := (((Fr.refl No w).alloc _).alloc _).alloc _
  have HB1 : Hid (Blk (((w.alloc (.cells #[.int .i64 L, .int .i64 R, .slice A ps.length c] 132)).alloc (.cells #[.int .i64 0, .int .i64 0, .slice none 0 0] 30)).alloc (.cells #[.int .i64 L, .int .i64 R, .slice none 0 0] 30)) (w.heap.size + 1) 30 #[.int .i64 0, .int .i64 0, .slice none 0 0]) := (Blk.new_at _ _ _ (by simp)).alloc _
  have HB2 : Hid (Blk (((w.alloc (.cells #[.int .i64 L, .int .i64 R, .slice A ps.length c] 132)).alloc (.cells #[.int .i64 0, .int .i64 0, .slice none 0 0] 30)).alloc (.cells #[.int .i64 L, .int .i64 R, .slice none 0 0] 30)) (w.heap.size + 1 + 1) 30 #[.int .i64 L, .int .i64 R, .slice none 0 0]) := Blk.new_at _ _ _ (by simp)
  generalize ((w.alloc (.cells #[.int .i64 L, .int .i64 R, .slice A ps.length c] 132)).alloc (.cells #[.int .i64 0, .int .i64 0, .slice none 0 0] 30)).alloc (.cells #[.int .i64 L, .int .i64 R, .slice none 0 0] 30) = W at *
  refine (CP.out _ HF0.out).mono ?_
  rintro e w3 ⟨g, rfl, hg, hf3, hown⟩
  have h1 := HB1.out.fr hf3 (fun h => h)
  have h2 := HB2.out.fr hf3 (fun h => h)
  have a0 : w3.cell? ⟨w.heap.size + 1, 0, none⟩ = some (.int .i64 0) := (h1.cell 0).trans rfl
  have a1 : w3.cell? ⟨w.heap.size + 1, 1, none⟩ = some (.int .i64 0) := (h1.cell 1).trans rfl
  have a2 : w3.cell? ⟨w.heap.size + 1, 2, none⟩ = some (.slice none 0 0) := (h1.cell 2).trans rfl
  have b0 : w3.cell? ⟨w.heap.size + 1 + 1, 0, none⟩ = some (.int .i64 L) := (h2.cell 0).trans rfl
  have b1 : w3.cell? ⟨w.heap.size + 1 + 1, 1, none⟩ = some (.int .i64 R) := (h2.cell 1).trans rfl
  have b2 : w3.cell? ⟨w.heap.size + 1 + 1, 2, none⟩ = some (.slice none 0 0) := (h2.cell 2).trans rfl
  have f1 : ∀ i, w3.frozen? ⟨w.heap.size + 1, i, none⟩ = false := fun i => h1.frozen i
  have f2 : ∀ i, w3.frozen? ⟨w.heap.size + 1 + 1, i, none⟩ = false := fun i => h2.frozen i
  have HF3 := Lib.hid (HF0.out.trans hf3)
  have HOWN := Lib.hid hown
  have HG := Lib.hid hg
  have HW := Lib.hid HB2.out.lt
  have f10 := f1 0
  have f11 := f1 1
  have f12 := f1 2
  have f20 := f2 0
  have f21 := f2 1
  have f22 := f2 2
  clear h1 h2 hf3 hown hg HB1 HB2 HF0 CP f1 f2
  go_wp2_with fail
  have FIN : Hid (Fr No w ((((w3.setCell ⟨w.heap.size + 1 + 1, 2, none⟩ (.slice (some ⟨g, 0, none⟩) ps.length ps.length)).setCell ⟨w.heap.size + 1, 0, none⟩ (.int .i64 L)).setCell ⟨w.heap.size + 1, 1, none⟩ (.int .i64 R)).setCell ⟨w.heap.size + 1, 2, none⟩ (.slice (some ⟨g, 0, none⟩) ps.length ps.length)) ∧ World.ownsRow ((((w3.setCell ⟨w.heap.size + 1 + 1, 2, none⟩ (.slice (some ⟨g, 0, none⟩) ps.length ps.length)).setCell ⟨w.heap.size + 1, 0, none⟩ (.int .i64 L)).setCell ⟨w.heap.size + 1, 1, none⟩ (.int .i64 R)).setCell ⟨w.heap.size + 1, 2, none⟩ (.slice (some ⟨g, 0, none⟩) ps.length ps.length)) w.heap.size 3 1 (.slice (some ⟨g, 0, none⟩) ps.length ps.length) ps.length (ps.map (Value.int .i64))) := by
    have hg := HG.out
    have hw := HW.out
    refine ⟨(((HF3.out.setCell (p := ⟨w.heap.size + 1 + 1, 2, none⟩) (.inr (by show w.heap.size ≤ w.heap.size + 1 + 1; omega)) _).setCell (p := ⟨w.heap.size + 1, 0, none⟩) (.inr (Nat.le_succ _)) _).setCell (p := ⟨w.heap.size + 1, 1, none⟩) (.inr (Nat.le_succ _)) _).setCell (p := ⟨w.heap.size + 1, 2, none⟩) (.inr (Nat.le_succ _)) _, ?_⟩
    exact own_far (own_far (own_far (own_far (own_low HOWN.out (by omega)) (p := ⟨w.heap.size + 1 + 1, 2, none⟩) (by show g ≠ w.heap.size + 1 + 1; omega) _) (p := ⟨w.heap.size + 1, 0, none⟩) (by show g ≠ w.heap.size + 1; omega) _) (p := ⟨w.heap.size + 1, 1, none⟩) (by show g ≠ w.heap.size + 1; omega) _) (p := ⟨w.heap.size + 1, 2, none⟩) (by show g ≠ w.heap.size + 1; omega) _
  refine bodyPost_ret (v := RV L R (some ⟨g, 0, none⟩) ps.length ps.length) (by simp [results, Tryd.results88, go_sem, a0, a1, a2]) rfl ?_
  exact ⟨g, rfl, by have := HG.out; have := HW.out; omega, FIN.out.1, FIN.out.2⟩
/-- whether two relations are the same -/
def EqR (L R : Int) (xs : List Int) (L' R' : Int) (ys : List Int) (w : World) (e : Ending) (w' : World) : Prop := ∃ b : Bool, e = .returned (.bool b) ∧ (b = true ↔ (L = L' ∧ R = R' ∧ xs = ys)) ∧ Fr No w w'

set_option maxRecDepth 100000 in
set_option maxHeartbeats 1000000 in
theorem eqRel_any (w : World) (L R L' R' : Int) (A A' : Option Addr) (xs ys : List Int) (c c' : Nat) (hx : ISl w A xs) (hy : ISl w A' ys) (hl : xs.length ≤ 2000000) (hl2 : ys.length ≤ 2000000) :
    Calls Tryd.prog 44 #[RV L R A xs.length c, RV L' R' A' ys.length c'] w fun e w' => EqR L R xs L' R' ys w e w' := by
  have HFB : Hid (Fr No w ((w.alloc (.cells #[.int .i64 L, .int .i64 R, .slice A xs.length c] 30)).alloc (.cells #[.int .i64 L', .int .i64 R', .slice A' ys.length c'] 30))) := ((Fr.refl No w).alloc _).alloc _
  have CP : Hid (∀ W, Fr No w W → Calls Tryd.prog 89 #[.slice A xs.length c, .slice A' ys.length c'] W fun e w' => EqI xs ys W e w') := fun W hf => eqi_big W A A' xs ys c c' (hx.keep hf (fun _ h => h.elim)) (hy.keep hf (fun _ h => h.elim)) hl hl2
  clear hx hy
  by_cases h1 : L = L'
  · subst h1
    by_cases h2 : R = R'
    · subst h2
      go_enter Tryd.func44, Tryd.ntmps44
      go_wp2_with fail
      refine (CP.out _ HFB.out).mono ?_
      rintro e w1 ⟨b, rfl, hb, m, rfl⟩
      have HB := Lib.hid hb
      have HF := Lib.hid (HFB.out.drewN m)
      clear hb
      cases b with
      | true =>
        go_wp2_with fail
        go_ret
        exact ⟨true, rfl, ⟨fun _ => ⟨rfl, rfl, HB.out.1 (by trivial)⟩, fun _ => rfl⟩, HF.out⟩
      | false =>
        go_wp2_with fail
        go_ret
        exact ⟨false, rfl, ⟨fun h => (by cases h), fun h => HB.out.2 h.2.2⟩, HF.out⟩
    · have hb : (R == R') = false := by simpa using h2
      have H2 := Lib.hid h2
      clear h2
      go_enter Tryd.func44, Tryd.ntmps44
      go_wp2_with fail
      go_ret
      exact ⟨false, rfl, ⟨fun h => (by cases h), fun h => (H2.out h.2.1).elim⟩, HFB.out⟩
  · have hb : (L == L') = false := by simpa using h1
    have H1 := Lib.hid h1
    clear h1
    go_enter Tryd.func44, Tryd.ntmps44
    go_wp2_with fail
    go_ret
    exact ⟨false, rfl, ⟨fun h => (by cases h), fun h => (H1.out h.1).elim⟩, HFB.out⟩

/-- what is told of a relation that came in -/
def RelIn (w : World) (L R : Int) (A : Option Addr) (n c : Nat) (ps : List Int) : Prop :=
  (-9223372036854775808 ≤ L ∧ L ≤ 9223372036854775807) ∧ (-9223372036854775808 ≤ R ∧ R ≤ 9223372036854775807) ∧ IntsIn w A n c ps

theorem cells_lrel : Tryd.prog.cellsOf 132 = 3 := by kernel_rfl

theorem i64_wf {n : Int} (h : (Lit.int .i64 n).wf = true) : -9223372036854775808 ≤ n ∧ n ≤ 9223372036854775807 := by
  simp [Lit.wf, IntKind.min, IntKind.max, IntKind.signed, IntKind.bits] at h
  omega

set_option maxRecDepth 100000 in
theorem rel_in {H : Type} {enc : TypeId × Value → H} {w : World} {r : Reach} {b0 : Nat} {v : Value} {d : DataW H} {p : List MemPlace}
    (hv : Value.okWide Tryd.prog w r b0 132 v) (h : DataW.Trod enc Tryd.prog w 0 (fun _ => true) true 132 v d p) : ∃ L R A n c ps, v = RV L R A n c ∧ RelIn w L R A n c ps := by
  obtain ⟨c0, c1, c2, y0, y1, y2, m, rfl, _, _, h0, h1, h2⟩ := Go.Joins.open_agg3 Tryd.underlying132 (by kernel_rfl) cells_lrel hv h
  obtain ⟨L, e0, _, w0⟩ := DataW.trod_int Tryd.underlying3 h0
  obtain ⟨R, e1, _, w1⟩ := DataW.trod_int Tryd.underlying3 h1
  obtain ⟨A, n, c, e2⟩ := Go.Joins.slice_form Tryd.underlying28 h2
  simp at e0 e1 e2
  subst e0 e1 e2
  have hz : ∃ zs : List Int, (A = none ∧ n = 0 ∧ c = 0 ∧ zs = []) ∨ ∃ x, A = some x ∧ n ≤ c ∧ c ≤ maxLen ∧ zs.length = c ∧ (∀ i, i < zs.length → w.cell? (x.add i) = some (.int .i64 (zs.getD i 0))) ∧ ∀ n ∈ zs, (Lit.int .i64 n).wf = true := by
    rcases Go.ChangeShapes.open_ints Tryd.underlying28 Tryd.underlying3 (by kernel_rfl) h2 with ⟨hcs, _⟩ | ⟨x, l, c, zs, hcs, _, hl, hm, hz, _, hcell, hwz⟩
    · simp at hcs
      obtain ⟨rfl, rfl, rfl⟩ := hcs
      exact ⟨[], .inl ⟨rfl, rfl, rfl, rfl⟩⟩
    · simp at hcs
      obtain ⟨rfl, rfl, rfl⟩ := hcs
      exact ⟨zs, .inr ⟨_, rfl, hl, hm, by simpa using hz, hcell, hwz⟩⟩
  obtain ⟨zs, hz⟩ := hz
  obtain ⟨ys, hy⟩ := ints_in hz
  exact ⟨L, R, A, n, c, ys, rfl, i64_wf w0, i64_wf w1, hy⟩

/-- calls of the helpers, in whatever world of the law -/
theorem copyR_in {w : World} {L R : Int} {A : Option Addr} {ps : List Int} {n c : Nat} (h : ISl w A ps) (hn : n = ps.length) (hl : n ≤ 2000000) (w' : World) (hf : Fr No w w') :
    Calls Tryd.prog 88 #[RV L R A n c] w' fun e w2 => ∃ g, e = .returned (RV L R (some ⟨g, 0, none⟩) n n) ∧ Fr No w' w2 ∧ Fr No w w2 ∧ (∀ w3, Fr No w2 w3 → ISl w3 (some ⟨g, 0, none⟩) ps) := by
  subst hn
  refine (toRel_any w' L R A ps c (h.keep hf (fun _ h => h.elim)) hl).mono ?_
  rintro e w2 ⟨g, rfl, _, hf2, ho⟩
  exact ⟨g, rfl, hf2, hf.trans hf2, fun w3 hf3 => (ISl.of_own ho).keep hf3 (fun _ h => h.elim)⟩
end Go.Proofs.YtloecimlimoanaaDoor

/- Own rows of integers: marked and held, alone and in relations. -/
namespace Go.Proofs.YtloecimlimoanaaDoor
open Go.RowKit Go.ChangeMaps

/-- an own row of integers -/
def OR (w : World) (B : Nat) (A : Option Addr) (n c : Nat) (xs : List Int) : Prop := n = xs.length ∧ w.ownsRow B 3 1 (.slice A n c) n (xs.map (Value.int .i64))

/-- the block of a slice -/
def Own (A : Option Addr) : Nat → Prop := fun b => ∃ a, A = some a ∧ a.block = b

theorem OR.isl {w : World} {B : Nat} {A : Option Addr} {n c : Nat} {xs : List Int} (h : OR w B A n c xs) : ISl w A xs := by
  obtain ⟨rfl, h⟩ := h
  exact ISl.of_own h

theorem OR.bounds {w : World} {B : Nat} {A : Option Addr} {n c : Nat} {xs : List Int} (h : OR w B A n c xs) {b : Nat} (hb : Own A b) : B ≤ b ∧ b < w.heap.size := by
  obtain ⟨a, rfl, rfl⟩ := hb
  rcases h.2.2 with ⟨hv, _⟩ | ⟨g, cap, cur, hv, h2, h3, _⟩
  · cases hv
  · injection hv with e1 e2 e3
    injection e1 with e1
    subst e1
    exact ⟨h2, (Array.getElem?_eq_some_iff.1 h3).1⟩

theorem OR.fr {w w' : World} {B : Nat} {A : Option Addr} {n c : Nat} {xs : List Int} {T : Nat → Prop} (h : OR w B A n c xs) (hf : Fr T w w') (hT : ∀ b, Own A b → ¬ T b) : OR w' B A n c xs := by
  refine ⟨h.1, h.2.1, ?_⟩
  rcases h.2.2 with h | ⟨g, cap, cur, hv, h2, h3, h4⟩
  · exact .inl h
  · right
    injection hv with e1 e2 e3
    subst e1
    have hl := (Array.getElem?_eq_some_iff.1 h3).1
    exact ⟨g, cap, cur, by rw [e3], h2, (hf.block g hl (hT g ⟨_, rfl, rfl⟩)).trans h3, h4⟩

theorem OR.no {w w' : World} {B : Nat} {A : Option Addr} {n c : Nat} {xs : List Int} (h : OR w B A n c xs) (hf : Fr No w w') : OR w' B A n c xs := h.fr hf (fun _ _ h => h)

/-- rows of different times lie apart -/
theorem OR.apart {w w' : World} {B B' : Nat} {A A' : Option Addr} {n c n' c' : Nat} {xs ys : List Int} (h : OR w B A n c xs) (h' : OR w' B' A' n' c' ys) (hB : w.heap.size ≤ B') : ∀ b, Own A' b → ¬ Own A b := fun b h1 h2 => by
  have := (h.bounds h2).2
  have := (h'.bounds h1).1
  omega

theorem OR.low {w : World} {B B' : Nat} {A : Option Addr} {n c : Nat} {xs : List Int} (h : OR w B A n c xs) (hB : B' ≤ B) : OR w B' A n c xs := by
  refine ⟨h.1, h.2.1, ?_⟩
  rcases h.2.2 with h | ⟨g, cap, cur, hv, h2, h3⟩
  · exact .inl h
  · exact .inr ⟨g, cap, cur, hv, Nat.le_trans hB h2, h3⟩

/-- a block of another type is not a row's -/
theorem OR.other {w : World} {B : Nat} {A : Option Addr} {n c : Nat} {xs : List Int} (h : OR w B A n c xs) {b : Nat} {t : TypeId} {cs : Array Value} (hb : Blk w b t cs) (ht : t ≠ 3) : ¬ Own A b := by
  rintro ⟨a, rfl, rfl⟩
  rcases h.2.2 with ⟨hv, _⟩ | ⟨g, cap, cur, hv, h2, h3, _⟩
  · cases hv
  · injection hv with e1 e2 e3
    injection e1 with e1
    subst e1
    unfold Blk at hb
    rw [hb] at h3
    injection h3 with h3
    injection h3 with _ h3 _
    exact ht h3

/-- the marks from k on -/
def marksI (k : Nat) (n : Nat) : List Int := (List.range n).map fun i => ((k + i : Nat) : Int)

theorem marksI_len (k n : Nat) : (marksI k n).length = n := by simp [marksI]

/-- marking: so many marks, the rest as it was -/
def MarkR (A : Option Addr) (B c : Nat) (n k : Nat) (w : World) (e : Ending) (w' : World) : Prop := e = .returned (.int .i64 ((k + n : Nat) : Int)) ∧ Fr (Own A) w w' ∧ w'.heap.size = w.heap.size ∧ OR w' B A n c (marksI k n)

theorem mark_take {k n j : Nat} {ys : List Value} (h : ys.take j = ((marksI k n).map (Value.int .i64)).take j) (hl : j < ys.length) (hj : j < n) : (ys.set j (.int .i64 ((k : Int) + (j : Int)))).take (j + 1) = ((marksI k n).map (Value.int .i64)).take (j + 1) := by
  rw [List.take_add_one, List.take_add_one, List.take_set_of_le (Nat.le_refl _), h, List.getElem?_set_self hl]
  congr 1
  simp [marksI, hj]

set_option maxRecDepth 100000 in
set_option maxHeartbeats 1000000 in
theorem markI_any (w : World) (B : Nat) (A : Option Addr) (n c k : Nat) (xs : List Int) (hk : k ≤ 8000000) (hn : n ≤ 2000000) (ho : OR w B A n c xs) :
    Calls Tryd.prog 91 #[.slice A n c, .int .i64 k] w fun e w' => MarkR A B c n k w e w' := by
  have hnI : (n : Int) ≤ 2000000 := by omega
  have hkI : (k : Int) ≤ 8000000 := by omega
  have HO := Lib.hid ho
  rcases ho.2.2 with ⟨hv, h0⟩ | ⟨g, cap, cur, hv, hB, hb, hcap, _, hcs, htk⟩
  · injection hv with e1 e2 e3
    subst e1 e2 e3
    have HE : Hid (MarkR none B 0 0 k w (.returned (.int .i64 k)) w) := by
      refine ⟨by simp, Fr.refl _ _, rfl, by simp [marksI_len], by simp [marksI], .inl ⟨rfl, rfl⟩⟩
    clear ho
    go_enter Tryd.func91, Tryd.ntmps91
    go_wp2_with fail
    go_loopw [1, 5] (fun a u wr => u = .int .i64 0 ∧ a = .int .i64 k ∧ wr = w) (fun _ u _ => 0)
    case atStart => exact ⟨rfl, rfl, rfl⟩
    case round =>
      obtain ⟨rfl, rfl, rfl⟩ := hrel
      go_wp2_with fail
      go_ret
      exact HE.out
  · injection hv with e1 e2 e3
    subst e1 e3
    have hxl : xs.length = n := ho.1.symm
    have HB := Lib.hid hB
    have hcl : n ≤ cur.size := by omega
    have HCL := Lib.hid hcl
    have hbk : Blk w g 3 cur := hb
    have HBK := Lib.hid hbk
    have HCAP := Lib.hid hcap
    have HCS := Lib.hid hcs
    have HM : Hid (c ≤ maxLen) := by assumption
    clear ho hb hbk hcap hcs htk hcl
    go_enter Tryd.func91, Tryd.ntmps91
    go_wp2_with fail
    go_loopw [1, 5] (fun a u wr => ∃ (j : Nat), j ≤ n ∧ u = .int .i64 j ∧ a = .int .i64 ((k : Int) + (j : Int)) ∧ Fr (One g) w wr ∧ wr.heap.size = w.heap.size ∧ ∃ ys : Array Value, Blk wr g 3 ys ∧ ys.size = cur.size ∧ ys.toList.take j = ((marksI k n).map (Value.int .i64)).take j) (fun _ u _ => n - (intOf u).toNat)
    case atStart => exact ⟨0, Nat.zero_le _, rfl, by simp, Fr.refl _ _, rfl, cur, HBK.out, rfl, by simp⟩
    case round =>
      obtain ⟨j, hj, rfl, rfl, hfr, hsz, ys, hby, hys, htk⟩ := hrel
      by_cases hlt : j < n
      · obtain ⟨v0, hcw⟩ : ∃ v, wr.cell? ⟨g, j, none⟩ = some v := ⟨_, by rw [hby.cell, Array.getElem?_eq_getElem (by have := HCL.out; omega)]⟩
        have hfz := hby.frozen j
        have FIN : Hid (Fr (One g) w (wr.setCell ⟨g, j, none⟩ (.int .i64 ((k : Int) + (j : Int)))) ∧ (wr.setCell ⟨g, j, none⟩ (.int .i64 ((k : Int) + (j : Int)))).heap.size = w.heap.size ∧ ∃ ys : Array Value, Blk (wr.setCell ⟨g, j, none⟩ (.int .i64 ((k : Int) + (j : Int)))) g 3 ys ∧ ys.size = cur.size ∧ ys.toList.take (j + 1) = ((marksI k n).map (Value.int .i64)).take (j + 1)) := by
          refine ⟨hfr.setCell (p := ⟨g, j, none⟩) (.inl rfl) _, by simp [World.setCell, hsz], _, hby.set_ _ _, by simp [hys], ?_⟩
          rw [Array.toList_setIfInBounds]
          exact mark_take htk (by rw [Array.length_toList]; have := HCL.out; omega) hlt
        clear hfr hsz hby hys htk
        go_wp2_with fail
        go_roundw
        case rel => exact ⟨j + 1, by omega, by go_num, by go_num, FIN.out⟩
        case measure => simp [intOf]; omega
      · have hjn : j = n := by omega
        have HE : Hid (MarkR (some ⟨g, 0, none⟩) B c n k w (.returned (.int .i64 ((k : Int) + (n : Int)))) wr) := by
          refine ⟨by simp, hfr.mono (fun b _ h => ⟨_, rfl, h.symm⟩), hsz, by simp [marksI_len], by simp [marksI_len], ?_⟩
          refine .inr ⟨g, c, ys, rfl, HB.out, hby, HCAP.out, HM.out, by rw [hys]; exact HCS.out, ?_⟩
          rw [Nat.mul_one, ← hjn, htk, hjn, List.take_of_length_le (by simp [marksI_len])]
        have hnlt : ¬ (j : Int) < (n : Int) := by omega
        clear hfr hsz hby hys htk
        go_wp2_with fail
        go_ret
        exact HE.out

/-- holding: the marks are found -/
def HeldP (n k : Nat) (w : World) (e : Ending) (w' : World) : Prop := e = .returned (.int .i64 ((k + n : Nat) : Int)) ∧ Fr No w w'

theorem marksI_at {k n j : Nat} (h : j < n) : (marksI k n)[j]? = some ((k + j : Nat) : Int) := by simp [marksI, h]

set_option maxRecDepth 100000 in
set_option maxHeartbeats 1000000 in
theorem heldI_any (w : World) (B : Nat) (A : Option Addr) (n c k : Nat) (hk : k ≤ 8000000) (hn : n ≤ 2000000) (ho : OR w B A n c (marksI k n)) :
    Calls Tryd.prog 92 #[.slice A n c, .int .i64 k] w fun e w' => HeldP n k w e w' := by
  have hnI : (n : Int) ≤ 2000000 := by omega
  have hkI : (k : Int) ≤ 8000000 := by omega
  have HI := Lib.hid ho.isl
  clear ho
  go_enter Tryd.func92, Tryd.ntmps92
  go_wp2_with fail
  go_loop [1, 5] (fun a u => ∃ (j : Nat), j ≤ n ∧ u = .int .i64 j ∧ a = .int .i64 ((k : Int) + (j : Int))) (fun _ u => n - (intOf u).toNat)
  case atStart => exact ⟨0, Nat.zero_le _, rfl, by simp⟩
  case round =>
    obtain ⟨j, hj, rfl, rfl⟩ := hrel
    by_cases hlt : j < n
    · obtain ⟨g, o, rfl, hc⟩ := HI.out j _ (marksI_at hlt)
      have hc' : w.cell? ⟨g, o + j, none⟩ = some (.int .i64 ((k : Int) + (j : Int))) := by rw [hc]; simp
      clear hc
      go_wp2_with fail
      go_round
      case rel => exact ⟨j + 1, by omega, by go_num, by go_num⟩
      case measure => simp [intOf]; omega
    · have hjn : j = n := by omega
      have hnlt : ¬ (j : Int) < (n : Int) := by omega
      go_wp2_with fail
      go_ret
      exact ⟨by simp, Fr.refl _ _⟩

set_option maxHeartbeats 1000000 in
theorem markR_any (w : World) (B : Nat) (L R : Int) (A : Option Addr) (n c k : Nat) (xs : List Int) (hk : k ≤ 8000000) (hn : n ≤ 2000000) (ho : OR w B A n c xs) :
    Calls Tryd.prog 47 #[RV L R A n c, .int .i64 k] w fun e w' => e = .returned (.int .i64 ((k + n : Nat) : Int)) ∧ Fr (Own A) w w' ∧ OR w' B A n c (marksI k n) := by
  have HFB : Hid (Fr No w (w.alloc (.cells #[.int .i64 L, .int .i64 R, .slice A n c] 30))) := (Fr.refl No w).alloc _
  have MK : Hid (∀ W, Fr No w W → Calls Tryd.prog 91 #[.slice A n c, .int .i64 k] W fun e w' => MarkR A B c n k W e w') := fun W hf => markI_any W B A n c k xs hk hn (ho.no hf)
  have HO := Lib.hid ho
  clear ho
  go_enter Tryd.func47, Tryd.ntmps47
  go_wp2_with fail
  refine (MK.out _ HFB.out).mono ?_
  rintro e w1 ⟨rfl, hf, _, hor⟩
  have HF : Hid (Fr (Own A) w w1) := (HFB.out.mono (fun _ _ h => h.elim)).trans hf
  have HR := Lib.hid hor
  clear hf hor
  go_wp2_with fail
  go_ret
  exact ⟨rfl, HF.out, HR.out⟩

set_option maxHeartbeats 1000000 in
theorem heldR_any (w : World) (B : Nat) (L R : Int) (A : Option Addr) (n c k : Nat) (hk : k ≤ 8000000) (hn : n ≤ 2000000) (ho : OR w B A n c (marksI k n)) :
    Calls Tryd.prog 48 #[RV L R A n c, .int .i64 k] w fun e w' => HeldP n k w e w' := by
  have HFB : Hid (Fr No w (w.alloc (.cells #[.int .i64 L, .int .i64 R, .slice A n c] 30))) := (Fr.refl No w).alloc _
  have MK : Hid (∀ W, Fr No w W → Calls Tryd.prog 92 #[.slice A n c, .int .i64 k] W fun e w' => HeldP n k W e w') := fun W hf => heldI_any W B A n c k hk hn (ho.no hf)
  clear ho
  go_enter Tryd.func48, Tryd.ntmps48
  go_wp2_with fail
  refine (MK.out _ HFB.out).mono ?_
  rintro e w1 ⟨rfl, hf⟩
  have HF := Lib.hid (HFB.out.trans hf)
  clear hf
  go_wp2_with fail
  go_ret
  exact ⟨rfl, HF.out⟩
end Go.Proofs.YtloecimlimoanaaDoor
