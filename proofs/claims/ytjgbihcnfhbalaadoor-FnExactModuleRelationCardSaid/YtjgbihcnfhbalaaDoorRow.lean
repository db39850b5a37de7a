/- The row of an element of a lifted type. · The row of an element of a lifted type, of every type. -/
import Derived.Test.YtjgbihcnfhbalaaDoorRdf
import Derived.Lib.SliceRun
/- The row of an element of a lifted type. -/
namespace Go.Proofs.YtjgbihcnfhbalaaDoor
open Go.RowKit Go.ChangeMaps Go.Shelf

section
variable {μ ν : Nat → Option Nat} {ρ : Nat → Nat → Nat → Bool}

set_option maxRecDepth 100000 in
set_option maxHeartbeats 4000000 in
/-- a row that is there already -/
theorem row_there (F : Cach) (Z : Nat → Prop) (t : Ty) (w : World) (p x c c' R : Nat) (x0 x1 x2 x3 : Value) (v : Value) (cs : Array Value) (hL : LC μ ν ρ F Z w) (hp : Blk w p 107 #[x0, x1, x2, x3, .slice (some ⟨R, 0, none⟩) c c]) (hR : Blk w R 83 cs) (hv : cs[x]? = some v) (hrow : RowZ Z w c' (relT μ ν ρ t x) v) (hx : x < c) (hc : c ≤ 4096) :
    Calls Tryd.prog 61 #[Ptr p, .int .i64 x] w fun e w' => RowP μ ν ρ F Z t c' x w e w' := by
  obtain ⟨g, ws, rfl, h1, h2, h3⟩ := hrow
  have c4 : w.cell? ⟨p, 4, none⟩ = some (.slice (some ⟨R, 0, none⟩) c c) := (hp.cell 4).trans rfl
  have cR : w.cell? ⟨R, x, none⟩ = some (.slice (some ⟨g, 0, none⟩) (nw c') (nw c')) := (hR.cell x).trans hv
  have HE : Hid (RowP μ ν ρ F Z t c' x w (.returned (.slice (some ⟨g, 0, none⟩) (nw c') (nw c'))) w) := ⟨_, rfl, ⟨g, ws, rfl, h1, h2, h3⟩, hL, Fr.refl _ _⟩
  have EQ : ∀ (w : World) (a : Option Addr) (n c : Nat), (binOp .eql 83 (.slice a n c) (.slice none 0 0)).run Tryd.prog w = .ok (.bool a.isNone) w := fun w a n c => Lib.run_eql_slice_nil w _ 128 a n c 0 0 Tryd.underlying83
  have hxI : (x : Int) < (c : Int) := by omega
  have hcI : (c : Int) ≤ 4096 := by omega
  clear h1 h2 h3 hp hR hv hL
  go_enter Tryd.func61, Tryd.ntmps61
  go_wp2_with fail
  go_ret
  exact HE.out

set_option maxRecDepth 100000 in
set_option maxHeartbeats 4000000 in
/-- a row that has not been asked yet -/
theorem row_new (F : Cach) (Z : Nat → Prop) (f : Bool) (l r : Ty) (w : World) (p gl gr p1 p2 x a' b' c c' R : Nat) (cs : Array Value) (Ds : List (Nat → Bool)) (m : Nat → Nat) (hL : LC μ ν ρ F Z w) (hZ : ∀ g, Z g → g < w.heap.size) (hp : Blk w p 107 #[Ptr gl, Ptr gr, Ptr p1, Ptr p2, .slice (some ⟨R, 0, none⟩) c c]) (hgr : FsAt w gr f a' b' c') (hF : F R = some (.n f l r)) (hR : Blk w R 83 cs) (hv : cs[x]? = some (.slice none 0 0)) (hx : x < c) (hc : c ≤ 4096) (hcn : (Ty.n f l r).cnt ν = some c')
    (hRD : ∀ W, LC μ ν ρ F Z W → Fr (InF F) w W → Calls Tryd.prog 101 #[Ptr p, .int .i64 x] W fun e w' => RdP μ ν ρ F Z Ds m W e w')
    (hEL : ∀ (W : World) (G : Nat), FsAt W gr f a' b' c' → DsAt W G Ds m → TZt W → Calls Tryd.prog 100 #[Ptr gr, .slice (some ⟨G, 0, none⟩) Ds.length Ds.length] W fun e w' => NewBits c' (inD b' Ds) W e w')
    (hq : ∀ y, y < c' → inD b' Ds y = relT μ ν ρ (.n f l r) x y) :
    Calls Tryd.prog 61 #[Ptr p, .int .i64 x] w fun e w' => RowP μ ν ρ F Z (.n f l r) c' x w e w' := by
  have EQ : ∀ (w : World) (a : Option Addr) (n c : Nat), (binOp .eql 83 (.slice a n c) (.slice none 0 0)).run Tryd.prog w = .ok (.bool a.isNone) w := fun w a n c => Lib.run_eql_slice_nil w _ 128 a n c 0 0 Tryd.underlying83
  have c4 : w.cell? ⟨p, 4, none⟩ = some (.slice (some ⟨R, 0, none⟩) c c) := (hp.cell 4).trans rfl
  have cR : w.cell? ⟨R, x, none⟩ = some (.slice none 0 0) := (hR.cell x).trans hv
  have hxI : (x : Int) < (c : Int) := by omega
  have hcI : (c : Int) ≤ 4096 := by omega
  have hRp : R ≠ p := fun e => by rw [e] at hR; exact absurd (hR.eq hp).1 (by decide)
  have hpR : p ≠ R := fun e => hRp e.symm
  have SS : Hid (∀ w', Fr (InF F) w w' → w'.cell? ⟨p, 4, none⟩ = some (.slice (some ⟨R, 0, none⟩) c c) ∧ w'.cell? ⟨p, 1, none⟩ = some (Ptr gr)) := fun w' hf => by
    have h := hp.fr hf (hL.far _ _ _ hp (.inl (by decide)) (fun h => absurd h (by decide)))
    exact ⟨(h.cell 4).trans rfl, (h.cell 1).trans rfl⟩
  have hd : Fr (InF F) w w.drew := (Fr.refl _ w).drew
  have RD : Hid (Calls Tryd.prog 101 #[Ptr p, .int .i64 x] w.drew fun e w' => ∃ G, e = .returned (.slice (some ⟨G, 0, none⟩) Ds.length Ds.length) ∧ Hid (DsAt w' G Ds m ∧ LC μ ν ρ F Z w' ∧ Fr (InF F) w w')) :=
    (hRD w.drew (hL.no ((Fr.refl No w).drew)) hd).mono (fun e w' ⟨G, h1, h2, h3, h4⟩ => ⟨G, h1, h2, h3, hd.trans h4⟩)
  have EL : Hid (∀ (W : World) (G : Nat), DsAt W G Ds m → LC μ ν ρ F Z W → Fr (InF F) w W → Calls Tryd.prog 100 #[Ptr gr, .slice (some ⟨G, 0, none⟩) Ds.length Ds.length] W fun e w' => ∃ g, e = .returned (.slice (some ⟨g, 0, none⟩) (nw c') (nw c')) ∧ Hid (RowZ Z w' c' (relT μ ν ρ (.n f l r) x) (.slice (some ⟨g, 0, none⟩) (nw c') (nw c')) ∧ LC μ ν ρ F Z w' ∧ Fr (InF F) w w' ∧ Fr No W w')) := fun W G h1 h2 h3 =>
    (hEL W G (hgr.far h3 hL.far) h1 h2.tz).mono (fun e w' ⟨g, ws, k1, k2, k3, k4, k5⟩ => ⟨g, k1, ⟨g, ws, rfl, k4, k5.congr hq, fun h => by have := hZ g h; have := h3.size; omega⟩, h2.no k3, h3.trans (k3.mono (fun _ _ h => h.elim)), k3⟩)
  have RC : Hid (∀ w', LC μ ν ρ F Z w' → w'.frozen? ⟨R, x, none⟩ = false ∧ R < w'.heap.size ∧ ∃ v, w'.cell? ⟨R, x, none⟩ = some v) := fun w' h => by
    obtain ⟨d, d', cs', e1, _, h3, h4, _⟩ := h.kept R _ hF
    obtain ⟨d0, d0', cs0, e2, _, h30, h40, _⟩ := hL.kept R _ hF
    rw [e1] at e2; injection e2 with e2
    have hcs : x < cs'.size := by
      rw [h4, e2, ← h40, (hR.eq h30).2.symm]
      exact (Array.getElem?_eq_some_iff.1 hv).1
    exact ⟨h3.frozen x, h3.lt, _, (h3.cell x).trans (Array.getElem?_eq_getElem hcs)⟩
  have FIN : Hid (∀ (w' : World) (v : Value), RowZ Z w' c' (relT μ ν ρ (.n f l r) x) v → LC μ ν ρ F Z w' → Fr (InF F) w w' → RowP μ ν ρ F Z (.n f l r) c' x w (.returned v) (w'.setCell ⟨R, x, none⟩ v)) := fun w' v h1 h2 h3 => by
    obtain ⟨k1, k2, k3⟩ := h2.keepIt hF hcn h1
    exact ⟨v, rfl, k3, k1, h3.trans k2⟩
  have hlenI : True := trivial
  obtain ⟨s4, s1⟩ := SS.out w (Fr.refl _ _)
  clear hp hgr hR hv hL hRD hEL hq hd hlenI s4
  go_enter Tryd.func61, Tryd.ntmps61
  go_wp2_with fail
  go_region_held3 (fun w' => w'.cell? ⟨p, 4, none⟩ = some (.slice (some ⟨R, 0, none⟩) c c) ∧ w'.cell? ⟨p, 1, none⟩ = some (Ptr gr)) (go_keep)
    (first | (go_at_call 101; ((with_reducible refine RD.out.mono ?_); rintro e w2 ⟨G, rfl, HR1⟩; obtain ⟨g0, g1⟩ := SS.out w2 HR1.out.2.2)) | (go_at_call 100; ((with_reducible refine (EL.out w2 G HR1.out.1 HR1.out.2.1 HR1.out.2.2).mono ?_); rintro e w3 ⟨g, rfl, HR2⟩; obtain ⟨j0, j1⟩ := SS.out w3 HR2.out.2.2.1; obtain ⟨y0, y1, vv, y2⟩ := RC.out w3 HR2.out.2.1; have HFIN := Lib.hid (FIN.out w3 _ HR2.out.1 HR2.out.2.1 HR2.out.2.2.1))))
  go_wp2_with fail
  go_ret
  exact HFIN.out
end
end Go.Proofs.YtjgbihcnfhbalaaDoor

/- The row of an element of a lifted type, of every type. -/
namespace Go.Proofs.YtjgbihcnfhbalaaDoor
open Go.RowKit Go.ChangeMaps Go.Shelf

section
variable {μ ν : Nat → Option Nat} {ρ : Nat → Nat → Nat → Bool}

theorem Ty.cn_of {μ : Nat → Option Nat} {t : Ty} {c : Nat} (h : t.cnt μ = some c) : t.cn μ = c := by unfold Ty.cn; rw [h]; rfl

/-- the elements of related digits, of pairs -/
theorem elems_pair (w : World) (gr a' b' c' b x G : Nat) (l r : Ty) (hF : FsAt w gr false a' b' c') (hD : DsAt w G (pairD μ ν ρ l r a' b' b x) (fun j => if j = 0 then b' else a')) (hT : TZt w) (ha : 1 ≤ a') (hb : 1 ≤ b') (hb2 : b' ≤ 4096) (hc : c' = a' * b') (hc2 : c' ≤ 4096) :
    Calls Tryd.prog 100 #[Ptr gr, .slice (some ⟨G, 0, none⟩) (pairD μ ν ρ l r a' b' b x).length (pairD μ ν ρ l r a' b' b x).length] w fun e w' => NewBits c' (inD b' (pairD μ ν ρ l r a' b' b x)) w e w' := by
  refine elemsD_any w gr false a' b' c' hF G _ _ hD (by simp [pairD]) hb hb2 (by rw [hc]; exact Nat.mul_pos ha hb) hc2 hT ?_ ?_ ?_
  · intro j D hj x hx
    match j, hj with
    | 0, hj => injection hj with hj; subst hj; simp at hx; simp; omega
    | 1, hj => injection hj with hj; subst hj; simp at hx; simp; omega
  · intro j hj
    match j, hj with
    | 0, _ => simp
    | j + 1, hj => simp [pairD] at hj
  · intro j e hj he h
    rw [hc]
    exact room_pair hb (D0 := fun y => decide (y < b') && relT μ ν ρ r (x % b) y) (D1 := fun y => decide (y < a') && relT μ ν ρ l (x / b) y) (fun d hd => by simp at hd; exact hd.1) (by simpa [pairD] using hj) h

/-- the elements of related digits, of functions -/
theorem elems_fun (w : World) (gr a a' b' c' x G : Nat) (l r : Ty) (hF : FsAt w gr true a' b' c') (hD : DsAt w G (funD μ ν ρ l r a a' b' x) (fun _ => b')) (hT : TZt w) (ha2 : a' ≤ 4096) (hb : 1 ≤ b') (hb2 : b' ≤ 4096) (hc : c' = b' ^ a') (hc2 : c' ≤ 4096) :
    Calls Tryd.prog 100 #[Ptr gr, .slice (some ⟨G, 0, none⟩) (funD μ ν ρ l r a a' b' x).length (funD μ ν ρ l r a a' b' x).length] w fun e w' => NewBits c' (inD b' (funD μ ν ρ l r a a' b' x)) w e w' := by
  have hbd : ∀ D ∈ funD μ ν ρ l r a a' b' x, ∀ d, D d = true → d < b' := by
    intro D hD d hd
    obtain ⟨j, _, rfl⟩ := List.mem_map.1 hD
    simp at hd
    exact hd.1
  have hlen : (funD μ ν ρ l r a a' b' x).length = a' := by simp [funD]
  refine elemsD_any w gr true a' b' c' hF G _ _ hD (by rw [hlen]; exact ha2) hb hb2 (by rw [hc]; exact Nat.pow_pos hb) hc2 hT ?_ (fun _ _ => Nat.le_refl _) ?_
  · exact fun j D hj x hx => hbd D (List.mem_of_getElem? hj) x hx
  · intro j e hj he h
    rw [hc]
    exact room_fun hb hlen hbd (by rw [← hlen]; exact hj) h

theorem row_any (hμ : Sizes μ) (hν : Sizes ν) (F : Cach) (t : Ty) : RowSaid μ ν ρ F t := by
  have leaf : ∀ (t : Ty) (Z : Nat → Prop) (w : World) (p x c c' : Nat), LC μ ν ρ F Z w → (∃ (gl gr R c c' : Nat) (cs : Array Value), t.cnt μ = some c ∧ t.cnt ν = some c' ∧ Blk w p 107 #[Ptr gl, Ptr gr, .pointer none, .pointer none, .slice (some ⟨R, 0, none⟩) c c] ∧ SetI w gl c ∧ SetI w gr c' ∧ F R = none ∧
      Blk w R 83 cs ∧ cs.size = c ∧ ∀ (i : Nat) (v : Value), cs[i]? = some v → RowZ Z w c' (relT μ ν ρ t i) v) → t.cnt μ = some c → t.cnt ν = some c' → x < c →
      Calls Tryd.prog 61 #[Ptr p, .int .i64 x] w fun e w' => RowP μ ν ρ F Z t c' x w e w' := by
    rintro t Z w p x c c' hL ⟨gl, gr, R, c0, c0', cs, h1, h2, h3, _, _, _, h7, h8, h9⟩ hc hc' hx
    rw [hc] at h1; injection h1 with h1; subst h1
    rw [hc'] at h2; injection h2 with h2; subst h2
    have hv := Array.getElem?_eq_getElem (xs := cs) (i := x) (by omega)
    exact row_there F Z t w p x c c' R _ _ _ _ _ cs hL h3 h7 hv (h9 x _ hv) hx (t.cnt_bounds hμ c hc).2
  induction t with
  | v i => exact fun Z w p x c c' _ hL hT hc hc' hx => leaf (.v i) Z w p x c c' hL hT hc hc' hx
  | o => exact fun Z w p x c c' _ hL hT hc hc' hx => leaf .o Z w p x c c' hL hT hc hc' hx
  | n f l r ihl ihr =>
    intro Z w p x c c' hZ hL hT hc hc' hx
    have hT0 := hT
    obtain ⟨gl, gr, p1, p2, R, a, b, c0, a', b', c0', h1, h2, h3, h4, h5, h6, h7, h8, h9, h10, h11, h12⟩ := hT
    rw [hc] at h3; injection h3 with h3; subst h3
    rw [hc'] at h6; injection h6 with h6; subst h6
    obtain ⟨d, d', cs, k1, k2, k3, k4, k5⟩ := hL.kept R _ h10
    rw [hc] at k1; injection k1 with k1; subst k1
    rw [hc'] at k2; injection k2 with k2; subst k2
    have hcb := (Ty.n f l r).cnt_bounds hμ c hc
    have hcb' := (Ty.n f l r).cnt_bounds hν c' hc'
    have hab' := l.cnt_bounds hν a' h4
    have hbb' := r.cnt_bounds hν b' h5
    have hv := Array.getElem?_eq_getElem (xs := cs) (i := x) (by omega)
    rcases k5 x _ hv with e | hrow
    · rw [e] at hv
      obtain ⟨a1, b1, e1, e2, e3, e4⟩ := Ty.cnt_n hc'
      rw [h4] at e1; injection e1 with e1; subst e1
      rw [h5] at e2; injection e2 with e2; subst e2
      cases f
      · refine row_new F Z false l r w p gl gr p1 p2 x a' b' c c' R cs (pairD μ ν ρ l r a' b' b x) (fun j => if j = 0 then b' else a') hL hZ h7 h9 h10 k3 hv hx hcb.2 hc' ?_ ?_ ?_
        · intro W hLW hf
          exact rd_pair hμ hν F l r ihl ihr Z W p x a b c a' b' (fun g hg => Nat.lt_of_lt_of_le (hZ g hg) hf.size) hLW (hT0.fr hf hL.far) h1 h2 hc h4 h5 hx
        · intro W G hF hD hT
          exact elems_pair W gr a' b' c' b x G l r hF hD hT hab'.1 hbb'.1 hbb'.2 e3 e4
        · intro y hy
          have hcn : r.cn μ = b := Ty.cn_of h2
          have hdiv : y / b' < a' := by rw [Nat.div_lt_iff_lt_mul hbb'.1, ← (show c' = a' * b' from e3)]; exact hy
          have hmod : y % b' < b' := Nat.mod_lt _ hbb'.1
          exact rel_pair (Ty.cn_of h5) (by rw [hcn]; simp [hmod]) (by rw [hcn]; simp [hdiv])
      · refine row_new F Z true l r w p gl gr p1 p2 x a' b' c c' R cs (funD μ ν ρ l r a a' b' x) (fun _ => b') hL hZ h7 h9 h10 k3 hv hx hcb.2 hc' ?_ ?_ ?_
        · intro W hLW hf
          exact rd_fun hμ hν F l r ihl ihr Z W p x a b c a' b' (fun g hg => Nat.lt_of_lt_of_le (hZ g hg) hf.size) hLW (hT0.fr hf hL.far) h1 h2 hc h4 h5 hx
        · intro W G hF hD hT
          exact elems_fun W gr a a' b' c' x G l r hF hD hT hab'.2 hbb'.1 hbb'.2 e3 e4
        · intro y hy
          have h := rel_fun (ρ := ρ) (x := x) (y := y) (l := l) (μ := μ) hbb'.1 (Ty.cn_of h5) (Ty.cn_of h4) hab'.1 (by rw [← (show c' = b' ^ a' from e3)]; exact hy)
          rw [Ty.cn_of h1] at h
          exact h
    · exact row_there F Z _ w p x c c' R _ _ _ _ _ cs hL h7 k3 hv hrow hx hcb.2
end
end Go.Proofs.YtjgbihcnfhbalaaDoor
