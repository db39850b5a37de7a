/- Slices of relations: what comes in; the laws' helpers that measure, copy and compare them. · Slices of relations: copied. -/
import Derived.Test.YtloecimlimoanaaDoorRdl
import Derived.Deep.Slices
import Derived.Deep.Strs
/- Slices of relations: what comes in; the laws' helpers that measure, copy and compare them. -/
namespace Go.Proofs.YtloecimlimoanaaDoor
open Go.RowKit Go.ChangeMaps Go.ChangeShapes Go.WideShapes

/-- relations in memory, each of a length that there can be -/
def RelsM (w : World) (A : Option Addr) (rs : List (Int × Int × List Int)) : Prop := ∀ (j : Nat) (L R : Int) (ps : List Int), rs[j]? = some (L, R, ps) → ∃ (g o : Nat) (B : Option Addr) (c : Nat), A = some ⟨g, o, none⟩ ∧ w.cell? ⟨g, o + j * 3, none⟩ = some (.int .i64 L) ∧ w.cell? ⟨g, o + j * 3 + 1, none⟩ = some (.int .i64 R) ∧ w.cell? ⟨g, o + j * 3 + 2, none⟩ = some (.slice B ps.length c) ∧ ISl w B ps ∧ ps.length ≤ maxLen

/-- what is told of a slice of relations that came in -/
def RelsIn (w : World) (A : Option Addr) (n c : Nat) (rs : List (Int × Int × List Int)) : Prop :=
  n = rs.length ∧ n ≤ c ∧ n ≤ maxLen ∧ RelsM w A rs

theorem RelsM.no {w w' : World} {A : Option Addr} {rs : List (Int × Int × List Int)} (h : RelsM w A rs) (hf : Fr No w w') : RelsM w' A rs := fun j L R ps hj => by
  obtain ⟨g, o, B, c, e, c0, c1, c2, hi, hl⟩ := h j L R ps hj
  exact ⟨g, o, B, c, e, (hf.cell (p := ⟨g, o + j * 3, none⟩) (block_lt c0) (fun h => h)).trans c0, (hf.cell (p := ⟨g, o + j * 3 + 1, none⟩) (block_lt c1) (fun h => h)).trans c1, (hf.cell (p := ⟨g, o + j * 3 + 2, none⟩) (block_lt c2) (fun h => h)).trans c2, hi.keep hf (fun _ h => h.elim), hl⟩

theorem RelsM.rels {w : World} {A : Option Addr} {rs : List (Int × Int × List Int)} (h : RelsM w A rs) (hl : ∀ r ∈ rs, r.2.2.length ≤ 2000000) : Rels w A rs := fun j L R ps hj => by
  obtain ⟨g, o, B, c, e, c0, c1, c2, hi, _⟩ := h j L R ps hj
  exact ⟨g, o, B, c, e, c0, c1, c2, hi, hl _ (List.mem_of_getElem? hj)⟩

set_option maxRecDepth 100000 in
/-- one relation that was read -/
theorem rel_cells {H : Type} {enc : TypeId × Value → H} {w : World} {b0 : Nat} {spare : Nat → Bool} {held : Bool} {fuel : Nat} {cs : List Value} {x : DataW H × List MemPlace}
    (h : DataW.trod enc Tryd.prog w b0 spare held fuel 132 cs = some x) : ∃ (L R : Int) (B : Option Addr) (c : Nat) (ps : List Int), cs = [.int .i64 L, .int .i64 R, .slice B ps.length c] ∧ ISl w B ps ∧ ps.length ≤ maxLen := by
  obtain ⟨y0, y1, y2, m, rfl, hl, h0, h1, h2⟩ := Go.Deep.trod_struct3 Tryd.underlying132 h
  rw [cells_lrel] at hl
  match cs, hl with
  | [c0, c1, c2], _ =>
  have k1 : Tryd.prog.cellsOf 3 = 1 := by kernel_rfl
  have k2 : Tryd.prog.cellsOf 28 = 1 := by kernel_rfl
  simp [k1, k2] at h0 h1 h2
  obtain ⟨L, e0, _, w0⟩ := DataW.trod_int Tryd.underlying3 h0
  obtain ⟨R, e1, _, w1⟩ := DataW.trod_int Tryd.underlying3 h1
  simp at e0 e1
  subst e0 e1
  rcases Go.ChangeShapes.open_ints Tryd.underlying28 Tryd.underlying3 (by kernel_rfl) h2 with ⟨hcs, _⟩ | ⟨x, l, c, zs, hcs, _, hl, hm, hz, _, hcell, hwz⟩
  · simp at hcs
    subst hcs
    exact ⟨L, R, none, 0, [], rfl, fun j z hj => by simp at hj, Nat.zero_le _⟩
  · simp at hcs
    subst hcs
    have hlz : l ≤ zs.length := by rw [hz]; split <;> omega
    have hlen : (zs.take l).length = l := by simp [hlz]
    refine ⟨L, R, some x, c, zs.take l, by rw [hlen], fun j z hj => ?_, by rw [hlen]; exact Nat.le_trans hl hm⟩
    have hjl : j < l := by have := (List.getElem?_eq_some_iff.1 hj).1; omega
    rw [List.getElem?_take_of_lt hjl] at hj
    have hb := spot_of (hcell 0 (by omega))
    have hc := hcell j (by omega)
    rw [hb, addr_add, List.getD_eq_getElem?_getD, hj] at hc
    exact ⟨x.block, x.off, by rw [← hb], hc⟩

theorem rels_in {H : Type} {enc : TypeId × Value → H} {w : World} {base : Nat} {spare : Nat → Bool} {held : Bool} {fuel : Nat} {a : Option Addr} {len cap : Nat} {x : DataW H × List MemPlace} {t : TypeId}
    (ht : Tryd.prog.underlying t = some (.slice 132)) (h : DataW.trod enc Tryd.prog w base spare held fuel t (Value.cells (.slice a len cap)).toList = some x) : ∃ rs, RelsIn w a len cap rs := by
  rcases Go.Deep.open_slice ht h with ⟨hcs, _⟩ | ⟨b, l, c, m, n, D, Pl, hcs, _, hlc, hcm, hm, _, hx⟩
  · simp [Value.cells] at hcs
    obtain ⟨rfl, rfl, rfl⟩ := hcs
    exact ⟨[], rfl, Nat.le_refl _, Nat.zero_le _, fun j L R ps hj => by simp at hj⟩
  · simp [Value.cells] at hcs
    obtain ⟨rfl, rfl, rfl⟩ := hcs
    have hlm : len ≤ m := by rw [hm]; split <;> omega
    rw [cells_lrel] at hx
    obtain ⟨V, hV⟩ := Go.Deep.choose_lt (α := Int × Int × List Int) (n := len) (p := fun i r => ∃ (B : Option Addr) (c : Nat), w.cell? (b.add (i * 3)) = some (.int .i64 r.1) ∧ w.cell? ((b.add (i * 3)).add 1) = some (.int .i64 r.2.1) ∧ w.cell? ((b.add (i * 3)).add 2) = some (.slice B r.2.2.length c) ∧ ISl w B r.2.2 ∧ r.2.2.length ≤ maxLen) (fun i hi => by
      obtain ⟨cs', h1, h2⟩ := hx i (by omega)
      obtain ⟨L, R, B, c', ps, rfl, hi', hl⟩ := rel_cells h2
      obtain ⟨_, _, hcell⟩ := World.cells?_some h1
      have g0 := hcell 0 (by omega)
      have g1 := hcell 1 (by omega)
      have g2 := hcell 2 (by omega)
      exact ⟨(L, R, ps), B, c', by simpa [Addr.add] using g0, g1, g2, hi', hl⟩)
    refine ⟨(List.range len).map V, by simp, hlc, Nat.le_trans hlc hcm, ?_⟩
    intro j L R ps hj
    rw [List.getElem?_map] at hj
    by_cases hjl : j < len
    · rw [List.getElem?_range hjl] at hj
      simp at hj
      obtain ⟨B, c', g0, g1, g2, hi, hl⟩ := hV j hjl
      obtain ⟨B0, c0, z0, _⟩ := hV 0 (by omega)
      rw [Nat.zero_mul] at z0
      have hb := spot_of z0
      rw [hj] at g0 g1 g2 hi hl
      rw [hb, addr_add] at g0 g1 g2
      rw [addr_add] at g1 g2
      exact ⟨b.block, b.off, B, c', by rw [← hb], g0, g1, g2, hi, hl⟩
    · rw [List.getElem?_eq_none (by simp; omega)] at hj
      cases hj

/-- all numbers together -/
def tot (rs : List (Int × Int × List Int)) : Nat := (rs.map fun r => r.2.2.length).sum

theorem tot_more {rs : List (Int × Int × List Int)} {j : Nat} {L R : Int} {ps : List Int} (h : rs[j]? = some (L, R, ps)) : tot (rs.take (j + 1)) = tot (rs.take j) + ps.length := by
  rw [List.take_add_one, h]
  simp [tot]

theorem tot_le {rs : List (Int × Int × List Int)} {r : Int × Int × List Int} (h : r ∈ rs) : r.2.2.length ≤ tot rs := by
  induction rs with
  | nil => simp at h
  | cons a rs ih =>
    have e : tot (a :: rs) = a.2.2.length + tot rs := by simp [tot]
    rw [e]
    rcases List.mem_cons.1 h with rfl | h
    · omega
    · have := ih h; omega

/-- what is left of the measure -/
def SzRS (rs : List (Int × Int × List Int)) (left : Int) (w : World) (e : Ending) (w' : World) : Prop := ∃ m : Int, e = .returned (.int .i64 m) ∧ -1 ≤ m ∧ m ≤ left ∧ (0 ≤ m → (rs.length : Int) + tot rs ≤ left) ∧ Fr No w w'

set_option maxRecDepth 100000 in
set_option maxHeartbeats 1000000 in
theorem szRS_any (w : World) (A : Option Addr) (n c : Nat) (rs : List (Int × Int × List Int)) (left : Int) (h0 : 0 ≤ left) (h1 : left ≤ 1048576) (hA : RelsIn w A n c rs) :
    Calls Tryd.prog 39 #[.slice A n c, .int .i64 left] w fun e w' => SzRS rs left w e w' := by
  obtain ⟨rfl, _, hl, hA⟩ := hA
  have HA := Lib.hid hA
  clear hA
  unfold maxLen at hl
  by_cases hbig : left < rs.length
  · have hneg : left - (rs.length : Int) < 0 := by omega
    have hl' : (rs.length : Int) ≤ 9223372036854775807 := by omega
    go_enter Tryd.func39, Tryd.ntmps39
    go_wp2_with fail
    go_ret
    exact ⟨-1, rfl, by omega, by omega, fun h => by omega, Fr.refl _ _⟩
  · have hneg : ¬ left - (rs.length : Int) < 0 := by omega
    have hl' : (rs.length : Int) ≤ 1048576 := by omega
    go_enter Tryd.func39, Tryd.ntmps39
    go_wp2_with fail
    go_loopw [1, 5] (fun r u wr => ∃ (j : Nat) (n : Int), j ≤ rs.length ∧ u = .int .i64 j ∧ r = .int .i64 n ∧ 0 ≤ n ∧ Fr No w wr ∧ n + (rs.length : Int) + tot (rs.take j) ≤ left) (fun _ u _ => rs.length - (intOf u).toNat)
    case atStart => exact ⟨0, _, Nat.zero_le _, rfl, rfl, by omega, Fr.refl _ _, by simp [tot] <;> omega⟩
    case round =>
      obtain ⟨j, n, hj, rfl, rfl, hn0, hfr, hall⟩ := hrel
      have HALL := Lib.hid hall
      have HF := Lib.hid hfr
      by_cases hlt : j < rs.length
      · obtain ⟨⟨L, R, ps⟩, hxj⟩ : ∃ x, rs[j]? = some x := ⟨_, List.getElem?_eq_getElem hlt⟩
        obtain ⟨g, o, B, cc, rfl, c0, c1, c2, _, hpl⟩ := (HA.out.no hfr) j L R ps hxj
        have SZ : Hid (∀ W, Calls Tryd.prog 87 #[RV L R B ps.length cc, .int .i64 n] W fun e w' => SzR ps.length n W e w') := fun W => szR_any W L R B _ cc n hn0 (by omega) hpl
        have HX := Lib.hid hxj
        clear hall hfr hxj hpl
        go_wp2_with fail
        refine (SZ.out _).mono ?_
        rintro e w1 ⟨m, rfl, k1, k2, k3, hf1⟩
        have HF1 := Lib.hid (HF.out.trans hf1)
        have K3 := Lib.hid k3
        clear k3 hf1 SZ c0 c1 c2
        by_cases hm : m < 0
        · go_wp2_with fail
          go_ret
          exact ⟨-1, rfl, by omega, by omega, fun h => by omega, HF1.out⟩
        · have FIN : Hid (m + (rs.length : Int) + tot (rs.take (j + 1)) ≤ left) := by
            have h1 := HALL.out
            have h2 := K3.out (by omega)
            have h3 := tot_more HX.out
            show m + (rs.length : Int) + tot (rs.take (j + 1)) ≤ left
            omega
          go_wp2_with fail
          go_roundw
          case rel => exact ⟨j + 1, m, by omega, by go_num, rfl, by omega, HF1.out, FIN.out⟩
          case measure => simp [intOf]; omega
      · have hjl : j = rs.length := by omega
        have HE : Hid (n + (rs.length : Int) + tot rs ≤ left) := by have h := HALL.out; rw [hjl, List.take_length] at h; exact h
        clear hall hfr
        go_wp2_with fail
        go_ret
        exact ⟨n, rfl, by omega, by have := HE.out; omega, fun _ => by have := HE.out; omega, HF.out⟩

/-- whether two lists of relations are the same -/
def EqRS (xs ys : List (Int × Int × List Int)) (w : World) (e : Ending) (w' : World) : Prop := ∃ b : Bool, e = .returned (.bool b) ∧ (b = true ↔ xs = ys) ∧ Fr No w w'

set_option maxRecDepth 100000 in
set_option maxHeartbeats 1000000 in
/-- the same list twice -/
theorem eqRS_any (w : World) (A A' : Option Addr) (rs : List (Int × Int × List Int)) (c c' : Nat) (hx : Rels w A rs) (hy : Rels w A' rs) (hl : rs.length ≤ 2000000) :
    Calls Tryd.prog 43 #[.slice A rs.length c, .slice A' rs.length c'] w fun e w' => e = .returned (.bool true) ∧ Fr No w w' := by
  have HX := Lib.hid hx
  have HY := Lib.hid hy
  clear hx hy
  have hl' : (rs.length : Int) ≤ 2000000 := by omega
  go_enter Tryd.func43, Tryd.ntmps43
  go_wp2_with fail
  go_loopw [5] (fun v wr => ∃ j : Nat, j ≤ rs.length ∧ v = .int .i64 j ∧ Fr No w wr) (fun v _ => rs.length - (intOf v).toNat)
  case atStart => exact ⟨0, Nat.zero_le _, rfl, Fr.refl _ _⟩
  case round =>
    obtain ⟨j, hj, rfl, hfr⟩ := hrel
    have HF := Lib.hid hfr
    by_cases hlt : j < rs.length
    · obtain ⟨⟨L, R, ps⟩, hxj⟩ : ∃ x, rs[j]? = some x := ⟨_, List.getElem?_eq_getElem hlt⟩
      obtain ⟨g, o, B, cc, rfl, c0, c1, c2, hi, hpl⟩ := (HX.out.no hfr) j L R ps hxj
      obtain ⟨g', o', B', cc', rfl, c0', c1', c2', hi', _⟩ := (HY.out.no hfr) j L R ps hxj
      have EQ : Hid (∀ W, Fr No wr W → Calls Tryd.prog 44 #[RV L R B ps.length cc, RV L R B' ps.length cc'] W fun e w' => e = .returned (.bool true) ∧ Fr No W w') := fun W hf => (eqRel_any W L R L R B B' ps ps cc cc' (hi.keep hf (fun _ h => h.elim)) (hi'.keep hf (fun _ h => h.elim)) hpl hpl).mono (by
        rintro e w' ⟨b, rfl, hb, hf⟩
        obtain rfl : b = true := hb.2 ⟨rfl, rfl, rfl⟩
        exact ⟨rfl, hf⟩)
      have f1 : Fr No wr wr.drew := (Fr.refl _ _).drew
      have CC : Hid (∀ W, Fr No wr W → (W.cell? ⟨g, o + j * 3, none⟩ = some (.int .i64 L) ∧ W.cell? ⟨g, o + j * 3 + 1, none⟩ = some (.int .i64 R) ∧ W.cell? ⟨g, o + j * 3 + 2, none⟩ = some (.slice B ps.length cc)) ∧ W.cell? ⟨g', o' + j * 3, none⟩ = some (.int .i64 L) ∧ W.cell? ⟨g', o' + j * 3 + 1, none⟩ = some (.int .i64 R) ∧ W.cell? ⟨g', o' + j * 3 + 2, none⟩ = some (.slice B' ps.length cc')) := fun W hf => ⟨⟨(hf.cell (p := ⟨g, o + j * 3, none⟩) (block_lt c0) (fun h => h)).trans c0, (hf.cell (p := ⟨g, o + j * 3 + 1, none⟩) (block_lt c1) (fun h => h)).trans c1, (hf.cell (p := ⟨g, o + j * 3 + 2, none⟩) (block_lt c2) (fun h => h)).trans c2⟩, (hf.cell (p := ⟨g', o' + j * 3, none⟩) (block_lt c0') (fun h => h)).trans c0', (hf.cell (p := ⟨g', o' + j * 3 + 1, none⟩) (block_lt c1') (fun h => h)).trans c1', (hf.cell (p := ⟨g', o' + j * 3 + 2, none⟩) (block_lt c2') (fun h => h)).trans c2'⟩
      have hjI : (j : Int) < (rs.length : Int) := by omega
      clear hfr hxj hpl hi hi'
      go_wp2_with fail
      go_region_held3 (fun w' => w'.cell? ⟨g, o + j * 3, none⟩ = some (.int .i64 L) ∧ w'.cell? ⟨g, o + j * 3 + 1, none⟩ = some (.int .i64 R) ∧ w'.cell? ⟨g, o + j * 3 + 2, none⟩ = some (.slice B ps.length cc) ∧ w'.cell? ⟨g', o' + j * 3, none⟩ = some (.int .i64 L) ∧ w'.cell? ⟨g', o' + j * 3 + 1, none⟩ = some (.int .i64 R) ∧ w'.cell? ⟨g', o' + j * 3 + 2, none⟩ = some (.slice B' ps.length cc')) (go_keep)
        (first | (go_at_call 44; ((with_reducible refine (EQ.out _ f1).mono ?_); rintro e w1 ⟨rfl, hf1⟩; obtain ⟨⟨d0, d1, d2⟩, d3, d4, d5⟩ := CC.out w1 (f1.trans hf1))))
      have HF1 := Lib.hid (HF.out.trans (f1.trans hf1))
      clear hf1 f1 EQ c0 c1 c2 c0' c1' c2' d0 d1 d2 d3 d4 d5 CC
      go_wp2_with fail
      go_roundw
      case rel => exact ⟨j + 1, by omega, by go_num, HF1.out⟩
      case measure => simp [intOf]; omega
    · have hjl : j = rs.length := by omega
      clear hfr
      go_wp2_with fail
      go_ret
      exact ⟨rfl, HF.out⟩
end Go.Proofs.YtloecimlimoanaaDoor

/- Slices of relations: copied. -/
namespace Go.Proofs.YtloecimlimoanaaDoor
open Go.RowKit Go.ChangeMaps Go.ChangeShapes Go.WideShapes

/-- an own slice of relations, each with a row of its own, the first j of them written -/
structure OwnRels (w : World) (lo g n : Nat) (rs : List (Int × Int × List Int)) (bs : Nat → Nat) (j : Nat) : Prop where
  low : lo ≤ g
  blk : ∃ cs : Array Value, Blk w g 30 cs ∧ n * 3 ≤ cs.size ∧ ∀ (i : Nat) (L R : Int) (ps : List Int), i < j → rs[i]? = some (L, R, ps) → cs[i * 3]? = some (.int .i64 L) ∧ cs[i * 3 + 1]? = some (.int .i64 R) ∧ cs[i * 3 + 2]? = some (.slice (some ⟨bs i, 0, none⟩) ps.length ps.length)
  row : ∀ (i : Nat) (L R : Int) (ps : List Int), i < j → rs[i]? = some (L, R, ps) → OR w lo (some ⟨bs i, 0, none⟩) ps.length ps.length ps
  ap : ∀ i k, i < j → k < j → i < rs.length → k < rs.length → i ≠ k → bs i ≠ bs k

theorem OwnRels.no {w w' : World} {lo g n j : Nat} {rs : List (Int × Int × List Int)} {bs : Nat → Nat} (h : OwnRels w lo g n rs bs j) (hf : Fr No w w') : OwnRels w' lo g n rs bs j := by
  obtain ⟨h1, ⟨cs, h2, h3, h4⟩, h5, h6⟩ := h
  exact ⟨h1, ⟨cs, h2.fr hf (fun h => h), h3, h4⟩, fun i L R ps hi hr => (h5 i L R ps hi hr).no hf, h6⟩

theorem OwnRels.rels {w : World} {lo g n j : Nat} {rs : List (Int × Int × List Int)} {bs : Nat → Nat} (h : OwnRels w lo g n rs bs j) (hj : rs.length ≤ j) (hl : ∀ r ∈ rs, r.2.2.length ≤ 2000000) : Rels w (some ⟨g, 0, none⟩) rs := fun i L R ps hi => by
  have hij : i < j := by have := (List.getElem?_eq_some_iff.1 hi).1; omega
  obtain ⟨_, ⟨cs, h2, h3, h4⟩, h5, _⟩ := h
  obtain ⟨c0, c1, c2⟩ := h4 i L R ps hij hi
  refine ⟨g, 0, some ⟨bs i, 0, none⟩, ps.length, rfl, ?_, ?_, ?_, OR.isl (h5 i L R ps hij hi), hl _ (List.mem_of_getElem? hi)⟩
  · rw [Nat.zero_add]; exact (h2.cell _).trans c0
  · rw [Nat.zero_add]; exact (h2.cell _).trans c1
  · rw [Nat.zero_add]; exact (h2.cell _).trans c2

theorem OwnRels.more {w w1 : World} {lo g n j q : Nat} {rs : List (Int × Int × List Int)} {bs : Nat → Nat} (h : OwnRels w lo g n rs bs j) (hf : Fr No w w1) {L R : Int} {ps : List Int} (hr : rs[j]? = some (L, R, ps)) (hj : j < n) (ho : OR w1 lo (some ⟨q, 0, none⟩) ps.length ps.length ps) (hq : w.heap.size ≤ q) :
    Fr (One g) w1 (((w1.setCell ⟨g, j * 3, none⟩ (.int .i64 L)).setCell ⟨g, j * 3 + 1, none⟩ (.int .i64 R)).setCell ⟨g, j * 3 + 2, none⟩ (.slice (some ⟨q, 0, none⟩) ps.length ps.length)) ∧
    OwnRels (((w1.setCell ⟨g, j * 3, none⟩ (.int .i64 L)).setCell ⟨g, j * 3 + 1, none⟩ (.int .i64 R)).setCell ⟨g, j * 3 + 2, none⟩ (.slice (some ⟨q, 0, none⟩) ps.length ps.length)) lo g n rs (fun i => if i = j then q else bs i) (j + 1) := by
  have hfs : Fr (One g) w1 (((w1.setCell ⟨g, j * 3, none⟩ (.int .i64 L)).setCell ⟨g, j * 3 + 1, none⟩ (.int .i64 R)).setCell ⟨g, j * 3 + 2, none⟩ (.slice (some ⟨q, 0, none⟩) ps.length ps.length)) := (((Fr.refl (One g) w1).setCell (p := ⟨g, j * 3, none⟩) (.inl rfl) _).setCell (p := ⟨g, j * 3 + 1, none⟩) (.inl rfl) _).setCell (p := ⟨g, j * 3 + 2, none⟩) (.inl rfl) _
  have h1 := h.no hf
  obtain ⟨a1, ⟨cs, a2, a3, a4⟩, a5, a6⟩ := h1
  have old : ∀ i (L R : Int) (ps : List Int), i < j → rs[i]? = some (L, R, ps) → bs i < w.heap.size := fun i L R ps hi hr => (OR.bounds (h.row i L R ps hi hr) ⟨_, rfl, rfl⟩).2
  refine ⟨hfs, a1, ⟨_, ((a2.set_ _ _).set_ _ _).set_ _ _, by simpa using a3, ?_⟩, ?_, ?_⟩
  · intro i L' R' ps' hi hr'
    by_cases e : i = j
    · subst e
      rw [hr] at hr'
      injection hr' with hr'
      injection hr' with e1 hr'
      injection hr' with e2 e3
      subst e1 e2 e3
      simp only [if_true]
      have s0 : i * 3 < cs.size := by omega
      have s1 : i * 3 + 1 < cs.size := by omega
      have s2 : i * 3 + 2 < cs.size := by omega
      refine ⟨?_, ?_, ?_⟩
      · rw [Array.getElem?_setIfInBounds_ne (by omega), Array.getElem?_setIfInBounds_ne (by omega), Array.getElem?_setIfInBounds_self_of_lt s0]
      · rw [Array.getElem?_setIfInBounds_ne (by omega), Array.getElem?_setIfInBounds_self_of_lt (by simpa using s1)]
      · rw [Array.getElem?_setIfInBounds_self_of_lt (by simpa using s2)]
    · simp only [e, if_false]
      obtain ⟨c0, c1, c2⟩ := a4 i L' R' ps' (by omega) hr'
      refine ⟨?_, ?_, ?_⟩
      · rw [Array.getElem?_setIfInBounds_ne (by omega), Array.getElem?_setIfInBounds_ne (by omega), Array.getElem?_setIfInBounds_ne (by omega)]; exact c0
      · rw [Array.getElem?_setIfInBounds_ne (by omega), Array.getElem?_setIfInBounds_ne (by omega), Array.getElem?_setIfInBounds_ne (by omega)]; exact c1
      · rw [Array.getElem?_setIfInBounds_ne (by omega), Array.getElem?_setIfInBounds_ne (by omega), Array.getElem?_setIfInBounds_ne (by omega)]; exact c2
  · intro i L' R' ps' hi hr'
    by_cases e : i = j
    · subst e
      rw [hr] at hr'
      injection hr' with hr'
      injection hr' with e1 hr'
      injection hr' with e2 e3
      subst e1 e2 e3
      simp only [if_true]
      exact ho.fr hfs (fun b hb h => by have h : b = g := h; subst h; exact ho.other a2 (by decide) hb)
    · simp only [e, if_false]
      have h5 := a5 i L' R' ps' (by omega) hr'
      exact h5.fr hfs (fun b hb h => by have h : b = g := h; subst h; exact h5.other a2 (by decide) hb)
  · intro i k hi hk hil hkl hne
    have oi : ∀ i, i < j → i < rs.length → bs i < w.heap.size := fun i hi hl => by
      obtain ⟨⟨L, R, ps⟩, hr⟩ : ∃ r, rs[i]? = some r := ⟨_, List.getElem?_eq_getElem hl⟩
      exact old i L R ps hi hr
    by_cases e1 : i = j <;> by_cases e2 : k = j
    · omega
    · simp only [e1, e2, if_true, if_false]; have := oi k (by omega) hkl; omega
    · simp only [e1, e2, if_true, if_false]; have := oi i (by omega) hil; omega
    · simp only [e1, e2, if_false]; exact a6 i k (by omega) (by omega) hil hkl hne

theorem info_rel : (Tryd.prog.info? 30).map (fun i => (i.zero, i.size, i.bytes)) = some (some (.agg #[.int .i64 0, .int .i64 0, .slice none 0 0]), 3, 40) := by kernel_rfl

/-- a copy -/
def CopyRS (rs : List (Int × Int × List Int)) (w : World) (e : Ending) (w' : World) : Prop :=
  ∃ (g : Nat) (bs : Nat → Nat), e = .returned (.slice (some ⟨g, 0, none⟩) rs.length rs.length) ∧ Fr No w w' ∧ OwnRels w' w.heap.size g rs.length rs bs rs.length

set_option maxRecDepth 100000 in
set_option maxHeartbeats 4000000 in
theorem copyRS_any (w : World) (A : Option Addr) (rs : List (Int × Int × List Int)) (c : Nat) (hx : Rels w A rs) (hl : rs.length ≤ 2000000) :
    Calls Tryd.prog 41 #[.slice A rs.length c] w fun e w' => CopyRS rs w e w' := by
  have HX := Lib.hid hx
  clear hx
  have hl' : (rs.length : Int) ≤ 2000000 := by omega
  obtain ⟨i0, hi0, hz0, hz1, hz2⟩ := info_parts info_rel
  generalize hn : rs.length = n at hl hl' ⊢
  have HN := Lib.hid hn
  clear hn
  have bnd : i0.bytes * n ≤ 281474976710656 := by rw [hz2]; omega
  have bnd2 : n ≤ maxLen := by unfold maxLen; omega
  have HB := Lib.hid bnd
  clear bnd
  go_enter Tryd.func41, Tryd.ntmps41
  go_wp2_with (at_make; refine wpList_make_full _ rfl _ _ 24 rfl w.heap.size 30 i0 (.agg #[.int .i64 0, .int .i64 0, .slice none 0 0]) 3 Tryd.underlying24 hi0 hz0 hz1 .i64 .i64 n n n rfl rfl rfl rfl HB.out bnd2 (Nat.le_refl _) ?_; intro w1 hown hgrow)
  have HG : Hid (Fr No w w1) := (Fr.refl No w).grown hgrow (fun k hk => by cases hk)
  have HO : Hid (OwnRels w1 w.heap.size w.heap.size n rs (fun _ => 0) 0) := by
    refine ⟨Nat.le_refl _, ?_, fun i L R ps hi => by omega, fun i k hi => by omega⟩
    rcases hown.2 with ⟨hv, _⟩ | ⟨g', cap, cur, hv, h2, h3, h4, h5, h6, h7⟩
    · cases hv
    · injection hv with e1 e2 e3
      injection e1 with e1
      injection e1 with e1
      subst e1 e3
      refine ⟨cur, h3, ?_, fun i L R ps hi => by omega⟩
      omega
  clear hown hgrow
  go_wp2_with fail
  go_loopw [4] (fun u wr => ∃ (j : Nat) (bs : Nat → Nat), j ≤ n ∧ u = .int .i64 j ∧ Fr No w wr ∧ OwnRels wr w.heap.size w.heap.size n rs bs j) (fun u _ => n - (intOf u).toNat)
  case atStart => exact ⟨0, _, Nat.zero_le _, rfl, HG.out, HO.out⟩
  case round =>
    obtain ⟨j, bs, hj, rfl, hfr, hown⟩ := hrel
    have HF := Lib.hid hfr
    have HW := Lib.hid hown
    by_cases hlt : j < n
    · obtain ⟨⟨L, R, ps⟩, hxj⟩ : ∃ x, rs[j]? = some x := ⟨_, List.getElem?_eq_getElem (by rw [HN.out]; exact hlt)⟩
      obtain ⟨g, o, B, cc, rfl, c0, c1, c2, hi, hpl⟩ := (HX.out.no hfr) j L R ps hxj
      have CP : Hid (∀ W, Fr No wr W → Calls Tryd.prog 88 #[RV L R B ps.length cc] W fun e w2 => CopyR L R ps W e w2) := fun W hf => toRel_any W L R B ps cc (hi.keep hf (fun _ h => h.elim)) hpl
      have f0 : Fr No wr wr := Fr.refl _ _
      have HX2 := Lib.hid hxj
      have HLT := Lib.hid hlt
      clear hfr hown hi hpl hxj
      go_wp2_with fail
      refine (CP.out _ f0).mono ?_
      rintro e w2 ⟨q, rfl, hq, hf2, hrow⟩
      obtain ⟨q1, q2⟩ := HW.out.more hf2 HX2.out HLT.out (OR.low ⟨rfl, hrow⟩ HF.out.size) hq
      obtain ⟨cs, hbk, hcs, _⟩ := (HW.out.no hf2).blk
      have e0 : w2.cell? ⟨w.heap.size, j * 3, none⟩ = some cs[j * 3] := (hbk.cell _).trans (Array.getElem?_eq_getElem (by omega))
      have e1 : w2.cell? ⟨w.heap.size, j * 3 + 1, none⟩ = some cs[j * 3 + 1] := (hbk.cell _).trans (Array.getElem?_eq_getElem (by omega))
      have e2 : w2.cell? ⟨w.heap.size, j * 3 + 2, none⟩ = some cs[j * 3 + 2] := (hbk.cell _).trans (Array.getElem?_eq_getElem (by omega))
      have z0 := hbk.frozen (j * 3)
      have z1 := hbk.frozen (j * 3 + 1)
      have z2 := hbk.frozen (j * 3 + 2)
      have FIN : Hid (Fr No w (((w2.setCell ⟨w.heap.size, j * 3, none⟩ (.int .i64 L)).setCell ⟨w.heap.size, j * 3 + 1, none⟩ (.int .i64 R)).setCell ⟨w.heap.size, j * 3 + 2, none⟩ (.slice (some ⟨q, 0, none⟩) ps.length ps.length)) ∧ _) := ⟨(HF.out.trans hf2).then_ q1 (fun i hi h => by have h : i = w.heap.size := h; omega), q2⟩
      generalize cs[j * 3] = v0 at e0
      generalize cs[j * 3 + 1] = v1 at e1
      generalize cs[j * 3 + 2] = v2 at e2
      clear hbk hcs q1 q2 hf2 hrow hq f0 c0 c1 c2
      go_wp2_with fail
      go_roundw
      case rel => exact ⟨j + 1, _, by omega, by go_num, FIN.out.1, FIN.out.2⟩
      case measure => simp [intOf]; omega
    · have hjl : j = n := by omega
      subst hjl
      have HE : Hid (CopyRS rs w (.returned (.slice (some ⟨w.heap.size, 0, none⟩) j j)) wr) := ⟨w.heap.size, bs, by rw [HN.out], HF.out, by rw [HN.out]; exact HW.out⟩
      clear hown hfr
      go_wp2
      go_ret
      exact HE.out

theorem copyRS_in {w : World} {A : Option Addr} {rs : List (Int × Int × List Int)} {n c : Nat} (h : Rels w A rs) (hn : n = rs.length) (hl : n ≤ 2000000) (w' : World) (hf : Fr No w w') :
    Calls Tryd.prog 41 #[.slice A n c] w' fun e w2 => ∃ g, e = .returned (.slice (some ⟨g, 0, none⟩) n n) ∧ Fr No w' w2 ∧ Fr No w w2 ∧ ∀ w3, Fr No w2 w3 → Rels w3 (some ⟨g, 0, none⟩) rs := by
  subst hn
  refine (copyRS_any w' A rs c (h.no hf) hl).mono ?_
  rintro e w2 ⟨g, bs, rfl, hf2, ho⟩
  exact ⟨g, rfl, hf2, hf.trans hf2, fun w3 hf3 => (ho.no hf3).rels (Nat.le_refl _) (fun r hr => by
    obtain ⟨i, hi, e⟩ := List.getElem_of_mem hr
    obtain ⟨_, _, _, _, _, _, _, _, _, hl⟩ := h i r.1 r.2.1 r.2.2 (by rw [List.getElem?_eq_getElem hi, e])
    exact hl)⟩
end Go.Proofs.YtloecimlimoanaaDoor
