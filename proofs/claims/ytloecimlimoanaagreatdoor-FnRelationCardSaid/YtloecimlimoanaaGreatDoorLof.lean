/- The row of an element of a lifted type; relations lifted to types. -/
import Derived.Test.YtloecimlimoanaaGreatDoorRdf
import Derived.Lib.SliceRun
import Derived.Test.YtloecimlimoanaaGreatDoorReq
import Derived.OwnWalk
import Derived.Test.YtloecimlimoanaaGreatDoorRdpm
import Derived.Test.YtloecimlimoanaaGreatDoorWri
/- The row of an element of a lifted type. -/
namespace Go.Proofs.YtloecimlimoanaaGreatDoor
open Go.RowKit Go.ChangeMaps Go.Shelf

section
variable {μ ν : Nat → Option Nat} {ρ : Nat → Nat → Nat → Bool}

set_option maxRecDepth 100000 in
set_option maxHeartbeats 4000000 in
/-- a row that is there already -/
theorem row_there (F : Cach) (Z : Nat → Prop) (t : Ty) (w : World) (p x c c' R : Nat) (x0 x1 x2 x3 : Value) (v : Value) (cs : Array Value) (hL : LC μ ν ρ F Z w) (hp : Blk w p 57 #[x0, x1, x2, x3, .slice (some ⟨R, 0, none⟩) c c]) (hR : Blk w R 60 cs) (hv : cs[x]? = some v) (hrow : RowZ Z w c' (relT μ ν ρ t x) v) (hx : x < c) (hc : c ≤ 4096) :
    Calls Tryz.prog 26 #[Ptr p, .int .i64 x] w fun e w' => RowP μ ν ρ F Z t c' x w e w' := by
  obtain ⟨g, ws, rfl, h1, h2, h3⟩ := hrow
  have c4 : w.cell? ⟨p, 4, none⟩ = some (.slice (some ⟨R, 0, none⟩) c c) := (hp.cell 4).trans rfl
  have cR : w.cell? ⟨R, x, none⟩ = some (.slice (some ⟨g, 0, none⟩) (nw c') (nw c')) := (hR.cell x).trans hv
  have HE : Hid (RowP μ ν ρ F Z t c' x w (.returned (.slice (some ⟨g, 0, none⟩) (nw c') (nw c'))) w) := ⟨_, rfl, ⟨g, ws, rfl, h1, h2, h3⟩, hL, Fr.refl _ _⟩
  have EQ : ∀ (w : World) (a : Option Addr) (n c : Nat), (binOp .eql 60 (.slice a n c) (.slice none 0 0)).run Tryz.prog w = .ok (.bool a.isNone) w := fun w a n c => Lib.run_eql_slice_nil w _ 63 a n c 0 0 Tryz.underlying60
  have hxI : (x : Int) < (c : Int) := by omega
  have hcI : (c : Int) ≤ 4096 := by omega
  clear h1 h2 h3 hp hR hv hL
  go_enter Tryz.func26, Tryz.ntmps26
  go_wp2_with fail
  go_ret
  exact HE.out

set_option maxRecDepth 100000 in
set_option maxHeartbeats 4000000 in
/-- a row that has not been asked yet -/
theorem row_new (F : Cach) (Z : Nat → Prop) (f : Bool) (l r : Ty) (w : World) (p gl gr p1 p2 x a' b' c c' R : Nat) (cs : Array Value) (Ds : List (Nat → Bool)) (m : Nat → Nat) (hL : LC μ ν ρ F Z w) (hZ : ∀ g, Z g → g < w.heap.size) (hp : Blk w p 57 #[Ptr gl, Ptr gr, Ptr p1, Ptr p2, .slice (some ⟨R, 0, none⟩) c c]) (hgr : FsAt w gr f a' b' c') (hF : F R = some (.n f l r)) (hR : Blk w R 60 cs) (hv : cs[x]? = some (.slice none 0 0)) (hx : x < c) (hc : c ≤ 4096) (hcn : (Ty.n f l r).cnt ν = some c')
    (hRD : ∀ W, LC μ ν ρ F Z W → Fr (InF F) w W → Calls Tryz.prog 50 #[Ptr p, .int .i64 x] W fun e w' => RdP μ ν ρ F Z Ds m W e w')
    (hEL : ∀ (W : World) (G : Nat), FsAt W gr f a' b' c' → DsAt W G Ds m → TZt W → Calls Tryz.prog 49 #[Ptr gr, .slice (some ⟨G, 0, none⟩) Ds.length Ds.length] W fun e w' => NewBits c' (inD b' Ds) W e w')
    (hq : ∀ y, y < c' → inD b' Ds y = relT μ ν ρ (.n f l r) x y) :
    Calls Tryz.prog 26 #[Ptr p, .int .i64 x] w fun e w' => RowP μ ν ρ F Z (.n f l r) c' x w e w' := by
  have EQ : ∀ (w : World) (a : Option Addr) (n c : Nat), (binOp .eql 60 (.slice a n c) (.slice none 0 0)).run Tryz.prog w = .ok (.bool a.isNone) w := fun w a n c => Lib.run_eql_slice_nil w _ 63 a n c 0 0 Tryz.underlying60
  have c4 : w.cell? ⟨p, 4, none⟩ = some (.slice (some ⟨R, 0, none⟩) c c) := (hp.cell 4).trans rfl
  have cR : w.cell? ⟨R, x, none⟩ = some (.slice none 0 0) := (hR.cell x).trans hv
  have hxI : (x : Int) < (c : Int) := by omega
  have hcI : (c : Int) ≤ 4096 := by omega
  have hRp : R ≠ p := fun e => by rw [e] at hR; exact absurd (hR.eq hp).1 (by decide)
  have hpR : p ≠ R := fun e => hRp e.symm
  have SS : Hid (∀ w', Fr (InF F) w w' → w'.cell? ⟨p, 4, none⟩ = some (.slice (some ⟨R, 0, none⟩) c c) ∧ w'.cell? ⟨p, 1, none⟩ = some (Ptr gr)) := fun w' hf => by
    have h := hp.fr hf (hL.far _ _ _ hp (.inl (by decide)) (fun h => absurd h (by decide)))
    exact ⟨(h.cell 4).trans rfl, (h.cell 1).trans rfl⟩
  have hd : Fr (InF F) w w.drew := (Fr.refl _ w).drew
  have RD : Hid (Calls Tryz.prog 50 #[Ptr p, .int .i64 x] w.drew fun e w' => ∃ G, e = .returned (.slice (some ⟨G, 0, none⟩) Ds.length Ds.length) ∧ Hid (DsAt w' G Ds m ∧ LC μ ν ρ F Z w' ∧ Fr (InF F) w w')) :=
    (hRD w.drew (hL.no ((Fr.refl No w).drew)) hd).mono (fun e w' ⟨G, h1, h2, h3, h4⟩ => ⟨G, h1, h2, h3, hd.trans h4⟩)
  have EL : Hid (∀ (W : World) (G : Nat), DsAt W G Ds m → LC μ ν ρ F Z W → Fr (InF F) w W → Calls Tryz.prog 49 #[Ptr gr, .slice (some ⟨G, 0, none⟩) Ds.length Ds.length] W fun e w' => ∃ g, e = .returned (.slice (some ⟨g, 0, none⟩) (nw c') (nw c')) ∧ Hid (RowZ Z w' c' (relT μ ν ρ (.n f l r) x) (.slice (some ⟨g, 0, none⟩) (nw c') (nw c')) ∧ LC μ ν ρ F Z w' ∧ Fr (InF F) w w' ∧ Fr No W w')) := fun W G h1 h2 h3 =>
    (hEL W G (hgr.far h3 hL.far) h1 h2.tz).mono (fun e w' ⟨g, ws, k1, k2, k3, k4, k5⟩ => ⟨g, k1, ⟨g, ws, rfl, k4, k5.congr hq, fun h => by have := hZ g h; have := h3.size; omega⟩, h2.no k3, h3.trans (k3.mono (fun _ _ h => h.elim)), k3⟩)
  have RC : Hid (∀ w', LC μ ν ρ F Z w' → w'.frozen? ⟨R, x, none⟩ = false ∧ R < w'.heap.size ∧ ∃ v, w'.cell? ⟨R, x, none⟩ = some v) := fun w' h => by
    obtain ⟨d, d', cs', e1, _, h3, h4, _⟩ := h.kept R _ hF
    obtain ⟨d0, d0', cs0, e2, _, h30, h40, _⟩ := hL.kept R _ hF
    rw [e1] at e2; injection e2 with e2
    have hcs : x < cs'.size := by
      rw [h4, e2, ← h40, (hR.eq h30).2.symm]
      exact (Array.getElem?_eq_some_iff.1 hv).1
    exact ⟨h3.frozen x, h3.lt, _, (h3.cell x).trans (Array.getElem?_eq_getElem hcs)⟩
  have FIN : Hid (∀ (w' : World) (v : Value), RowZ Z w' c' (relT μ ν ρ (.n f l r) x) v → LC μ ν ρ F Z w' → Fr (InF F) w w' → RowP μ ν ρ F Z (.n f l r) c' x w (.returned v) (w'.setCell ⟨R, x, none⟩ v)) := fun w' v h1 h2 h3 => by
    obtain ⟨k1, k2, k3⟩ := h2.keepIt hF hcn h1
    exact ⟨v, rfl, k3, k1, h3.trans k2⟩
  have hlenI : True := trivial
  obtain ⟨s4, s1⟩ := SS.out w (Fr.refl _ _)
  clear hp hgr hR hv hL hRD hEL hq hd hlenI s4
  go_enter Tryz.func26, Tryz.ntmps26
  go_wp2_with fail
  go_region_held3 (fun w' => w'.cell? ⟨p, 4, none⟩ = some (.slice (some ⟨R, 0, none⟩) c c) ∧ w'.cell? ⟨p, 1, none⟩ = some (Ptr gr)) (go_keep)
    (first | (go_at_call 50; ((with_reducible refine RD.out.mono ?_); rintro e w2 ⟨G, rfl, HR1⟩; obtain ⟨g0, g1⟩ := SS.out w2 HR1.out.2.2)) | (go_at_call 49; ((with_reducible refine (EL.out w2 G HR1.out.1 HR1.out.2.1 HR1.out.2.2).mono ?_); rintro e w3 ⟨g, rfl, HR2⟩; obtain ⟨j0, j1⟩ := SS.out w3 HR2.out.2.2.1; obtain ⟨y0, y1, vv, y2⟩ := RC.out w3 HR2.out.2.1; have HFIN := Lib.hid (FIN.out w3 _ HR2.out.1 HR2.out.2.1 HR2.out.2.2.1))))
  go_wp2_with fail
  go_ret
  exact HFIN.out
end
end Go.Proofs.YtloecimlimoanaaGreatDoor

/- The row of an element of a lifted type, of every type. -/
namespace Go.Proofs.YtloecimlimoanaaGreatDoor
open Go.RowKit Go.ChangeMaps Go.Shelf

section
variable {μ ν : Nat → Option Nat} {ρ : Nat → Nat → Nat → Bool}

theorem Ty.cn_of {μ : Nat → Option Nat} {t : Ty} {c : Nat} (h : t.cnt μ = some c) : t.cn μ = c := by unfold Ty.cn; rw [h]; rfl

/-- the elements of related digits, of pairs -/
theorem elems_pair (w : World) (gr a' b' c' b x G : Nat) (l r : Ty) (hF : FsAt w gr false a' b' c') (hD : DsAt w G (pairD μ ν ρ l r a' b' b x) (fun j => if j = 0 then b' else a')) (hT : TZt w) (ha : 1 ≤ a') (hb : 1 ≤ b') (hb2 : b' ≤ 4096) (hc : c' = a' * b') (hc2 : c' ≤ 4096) :
    Calls Tryz.prog 49 #[Ptr gr, .slice (some ⟨G, 0, none⟩) (pairD μ ν ρ l r a' b' b x).length (pairD μ ν ρ l r a' b' b x).length] w fun e w' => NewBits c' (inD b' (pairD μ ν ρ l r a' b' b x)) w e w' := by
  refine elemsD_any w gr false a' b' c' hF G _ _ hD (by simp [pairD]) hb hb2 (by rw [hc]; exact Nat.mul_pos ha hb) hc2 hT ?_ ?_ ?_
  · intro j D hj x hx
    match j, hj with
    | 0, hj => injection hj with hj; subst hj; simp at hx; simp; omega
    | 1, hj => injection hj with hj; subst hj; simp at hx; simp; omega
  · intro j hj
    match j, hj with
    | 0, _ => simp
    | j + 1, hj => simp [pairD] at hj
  · intro j e hj he h
    rw [hc]
    exact room_pair hb (D0 := fun y => decide (y < b') && relT μ ν ρ r (x % b) y) (D1 := fun y => decide (y < a') && relT μ ν ρ l (x / b) y) (fun d hd => by simp at hd; exact hd.1) (by simpa [pairD] using hj) h

/-- the elements of related digits, of functions -/
theorem elems_fun (w : World) (gr a a' b' c' x G : Nat) (l r : Ty) (hF : FsAt w gr true a' b' c') (hD : DsAt w G (funD μ ν ρ l r a a' b' x) (fun _ => b')) (hT : TZt w) (ha2 : a' ≤ 4096) (hb : 1 ≤ b') (hb2 : b' ≤ 4096) (hc : c' = b' ^ a') (hc2 : c' ≤ 4096) :
    Calls Tryz.prog 49 #[Ptr gr, .slice (some ⟨G, 0, none⟩) (funD μ ν ρ l r a a' b' x).length (funD μ ν ρ l r a a' b' x).length] w fun e w' => NewBits c' (inD b' (funD μ ν ρ l r a a' b' x)) w e w' := by
  have hbd : ∀ D ∈ funD μ ν ρ l r a a' b' x, ∀ d, D d = true → d < b' := by
    intro D hD d hd
    obtain ⟨j, _, rfl⟩ := List.mem_map.1 hD
    simp at hd
    exact hd.1
  have hlen : (funD μ ν ρ l r a a' b' x).length = a' := by simp [funD]
  refine elemsD_any w gr true a' b' c' hF G _ _ hD (by rw [hlen]; exact ha2) hb hb2 (by rw [hc]; exact Nat.pow_pos hb) hc2 hT ?_ (fun _ _ => Nat.le_refl _) ?_
  · exact fun j D hj x hx => hbd D (List.mem_of_getElem? hj) x hx
  · intro j e hj he h
    rw [hc]
    exact room_fun hb hlen hbd (by rw [← hlen]; exact hj) h

theorem row_any (hμ : Sizes μ) (hν : Sizes ν) (F : Cach) (t : Ty) : RowSaid μ ν ρ F t := by
  have leaf : ∀ (t : Ty) (Z : Nat → Prop) (w : World) (p x c c' : Nat), LC μ ν ρ F Z w → (∃ (gl gr R c c' : Nat) (cs : Array Value), t.cnt μ = some c ∧ t.cnt ν = some c' ∧ Blk w p 57 #[Ptr gl, Ptr gr, .pointer none, .pointer none, .slice (some ⟨R, 0, none⟩) c c] ∧ SetI w gl c ∧ SetI w gr c' ∧ F R = none ∧
      Blk w R 60 cs ∧ cs.size = c ∧ ∀ (i : Nat) (v : Value), cs[i]? = some v → RowZ Z w c' (relT μ ν ρ t i) v) → t.cnt μ = some c → t.cnt ν = some c' → x < c →
      Calls Tryz.prog 26 #[Ptr p, .int .i64 x] w fun e w' => RowP μ ν ρ F Z t c' x w e w' := by
    rintro t Z w p x c c' hL ⟨gl, gr, R, c0, c0', cs, h1, h2, h3, _, _, _, h7, h8, h9⟩ hc hc' hx
    rw [hc] at h1; injection h1 with h1; subst h1
    rw [hc'] at h2; injection h2 with h2; subst h2
    have hv := Array.getElem?_eq_getElem (xs := cs) (i := x) (by omega)
    exact row_there F Z t w p x c c' R _ _ _ _ _ cs hL h3 h7 hv (h9 x _ hv) hx (t.cnt_bounds hμ c hc).2
  induction t with
  | v i => exact fun Z w p x c c' _ hL hT hc hc' hx => leaf (.v i) Z w p x c c' hL hT hc hc' hx
  | o => exact fun Z w p x c c' _ hL hT hc hc' hx => leaf .o Z w p x c c' hL hT hc hc' hx
  | n f l r ihl ihr =>
    intro Z w p x c c' hZ hL hT hc hc' hx
    have hT0 := hT
    obtain ⟨gl, gr, p1, p2, R, a, b, c0, a', b', c0', h1, h2, h3, h4, h5, h6, h7, h8, h9, h10, h11, h12⟩ := hT
    rw [hc] at h3; injection h3 with h3; subst h3
    rw [hc'] at h6; injection h6 with h6; subst h6
    obtain ⟨d, d', cs, k1, k2, k3, k4, k5⟩ := hL.kept R _ h10
    rw [hc] at k1; injection k1 with k1; subst k1
    rw [hc'] at k2; injection k2 with k2; subst k2
    have hcb := (Ty.n f l r).cnt_bounds hμ c hc
    have hcb' := (Ty.n f l r).cnt_bounds hν c' hc'
    have hab' := l.cnt_bounds hν a' h4
    have hbb' := r.cnt_bounds hν b' h5
    have hv := Array.getElem?_eq_getElem (xs := cs) (i := x) (by omega)
    rcases k5 x _ hv with e | hrow
    · rw [e] at hv
      obtain ⟨a1, b1, e1, e2, e3, e4⟩ := Ty.cnt_n hc'
      rw [h4] at e1; injection e1 with e1; subst e1
      rw [h5] at e2; injection e2 with e2; subst e2
      cases f
      · refine row_new F Z false l r w p gl gr p1 p2 x a' b' c c' R cs (pairD μ ν ρ l r a' b' b x) (fun j => if j = 0 then b' else a') hL hZ h7 h9 h10 k3 hv hx hcb.2 hc' ?_ ?_ ?_
        · intro W hLW hf
          exact rd_pair hμ hν F l r ihl ihr Z W p x a b c a' b' (fun g hg => Nat.lt_of_lt_of_le (hZ g hg) hf.size) hLW (hT0.fr hf hL.far) h1 h2 hc h4 h5 hx
        · intro W G hF hD hT
          exact elems_pair W gr a' b' c' b x G l r hF hD hT hab'.1 hbb'.1 hbb'.2 e3 e4
        · intro y hy
          have hcn : r.cn μ = b := Ty.cn_of h2
          have hdiv : y / b' < a' := by rw [Nat.div_lt_iff_lt_mul hbb'.1, ← (show c' = a' * b' from e3)]; exact hy
          have hmod : y % b' < b' := Nat.mod_lt _ hbb'.1
          exact rel_pair (Ty.cn_of h5) (by rw [hcn]; simp [hmod]) (by rw [hcn]; simp [hdiv])
      · refine row_new F Z true l r w p gl gr p1 p2 x a' b' c c' R cs (funD μ ν ρ l r a a' b' x) (fun _ => b') hL hZ h7 h9 h10 k3 hv hx hcb.2 hc' ?_ ?_ ?_
        · intro W hLW hf
          exact rd_fun hμ hν F l r ihl ihr Z W p x a b c a' b' (fun g hg => Nat.lt_of_lt_of_le (hZ g hg) hf.size) hLW (hT0.fr hf hL.far) h1 h2 hc h4 h5 hx
        · intro W G hF hD hT
          exact elems_fun W gr a a' b' c' x G l r hF hD hT hab'.2 hbb'.1 hbb'.2 e3 e4
        · intro y hy
          have h := rel_fun (ρ := ρ) (x := x) (y := y) (l := l) (μ := μ) hbb'.1 (Ty.cn_of h5) (Ty.cn_of h4) hab'.1 (by rw [← (show c' = b' ^ a' from e3)]; exact hy)
          rw [Ty.cn_of h1] at h
          exact h
    · exact row_there F Z _ w p x c c' R _ _ _ _ _ cs hL h7 k3 hv hrow hx hcb.2
end
end Go.Proofs.YtloecimlimoanaaGreatDoor

/- Relations lifted to a type. · Relations lifted to a type with parts; to every type. -/
/- Relations lifted to a type. -/
namespace Go.Proofs.YtloecimlimoanaaGreatDoor
open Go.RowKit Go.ChangeMaps Go.Shelf

theorem kn_cnt {μ : Nat → Option Nat} {t : Ty} {c : Nat} (h : t.kn μ = some c) : t.cnt μ = some c := by
  unfold Ty.kn at h
  split at h
  · exact h
  · cases h

def Three (a b c : Nat) : Nat → Prop := fun k => k = a ∨ k = b ∨ k = c

/-- relations of variables in a map -/
def RelsAt (w : World) (mr B0 : Nat) (μ ν : Nat → Option Nat) (ρ : Nat → Nat → Nat → Bool) : Prop := ∃ k f, MapAt w encI mr k f ∧ ∀ (n c c' : Nat), μ n = some c → ν n = some c' → ∃ (b Rb : Nat) (gs : Nat → Nat), f (n : Int) = some (Ptr b) ∧ Blk w b 67 #[.int .i64 c', .slice (some ⟨Rb, 0, none⟩) c c] ∧ RowsTo w Rb c c' c 0 gs (ρ n) ∧ Rb < B0

/-- what lifting needs -/
structure LfAt (u ml mz1 mk1 c1 mz2 mk2 c2 Lb mr B0 : Nat) (L : Nat → Ty → Prop) (Q : World → Prop) (μ ν : Nat → Option Nat) (ρ : Nat → Nat → Nat → Bool) (w : World) : Prop where
  a : CsAt u ml mz1 mk1 c1 L Q μ w
  b : CsAt u ml mz2 mk2 c2 L Q ν w
  lb : Blk w Lb 104 #[.map (some mr), Ptr c1, Ptr c2]
  rl : RelsAt w mr B0 μ ν ρ

structure LfOk (ml mz1 mk1 mz2 mk2 mr : Nat) (own : Nat → Prop) (μ ν : Nat → Option Nat) : Prop where
  ok1 : CsOk ml mz1 mk1 own μ
  ok2 : CsOk ml mz2 mk2 own ν
  kk : mk1 ≠ mk2
  z1 : mz1 ≠ mk2
  z2 : mz2 ≠ mk1
  r : mr ≠ ml ∧ mr ≠ mk1 ∧ mr ≠ mk2

theorem zero_rel (w : World) : (zeroValue 64).run Tryz.prog w = .ok (.pointer none) w := by kernel_rfl

theorem RelsAt.fr {w w' : World} {mr B0 : Nat} {μ ν : Nat → Option Nat} {ρ : Nat → Nat → Nat → Bool} {T : Nat → Prop} (h : RelsAt w mr B0 μ ν ρ) (hf : Fr T w w') (hm : ¬ T mr) (hT : ∀ g t cs, Blk w g t cs → ¬ T g) : RelsAt w' mr B0 μ ν ρ := by
  obtain ⟨k, f, h1, h2⟩ := h
  refine ⟨k, f, h1.keep (hf.block mr h1.lt hm), fun n c c' e1 e2 => ?_⟩
  obtain ⟨b, Rb, gs, e3, e4, e5, e6⟩ := h2 n c c' e1 e2
  exact ⟨b, Rb, gs, e3, e4.fr hf (hT _ _ _ e4), e5.frO hf (hT _ _ _ e5.rows) (fun i hi => by obtain ⟨_, ws, h, _⟩ := e5.each i hi; exact hT _ _ _ h), e6⟩

section
variable {u ml mz1 mk1 c1 mz2 mk2 c2 Lb mr B0 : Nat} {own : Nat → Prop} {L : Nat → Ty → Prop} {Q : World → Prop} {μ ν : Nat → Option Nat} {ρ : Nat → Nat → Nat → Bool}

theorem LfAt.maps {w : World} (h : LfAt u ml mz1 mk1 c1 mz2 mk2 c2 Lb mr B0 L Q μ ν ρ w) (hL : Lead u ml own L Q) : ∀ b, Three ml mk1 mk2 b → ∃ es clk, w.heap[b]? = some (.map es clk) := by
  rintro b (h1 | h1 | h1)
  · exact h.a.maps hL b (.inl h1)
  · exact h.a.maps hL b (.inr h1)
  · exact h.b.maps hL b (.inr h1)

theorem LfAt.no {w w' : World} (h : LfAt u ml mz1 mk1 c1 mz2 mk2 c2 Lb mr B0 L Q μ ν ρ w) (hL : Lead u ml own L Q) (hf : Fr No w w') : LfAt u ml mz1 mk1 c1 mz2 mk2 c2 Lb mr B0 L Q μ ν ρ w' :=
  ⟨h.a.no hL hf, h.b.no hL hf, h.lb.fr hf (fun h => h), h.rl.fr hf (fun h => h) (fun _ _ _ _ h => h)⟩

theorem CsAt.cell {u ml mz mk c : Nat} {own : Nat → Prop} {L : Nat → Ty → Prop} {Q : World → Prop} {μ : Nat → Option Nat} {w w' : World} (hL : Lead u ml own L Q) (h : CsAt u ml mz mk c L Q μ w) {P : Nat} {cs : Array Value} (hb : Blk w P 57 cs) (hown : ¬ own P) (hf : Fr (One P) w w') : CsAt u ml mz mk c L Q μ w' := by
  have nt : ∀ g ty cs', Blk w g ty cs' → ty ≠ 57 → ¬ One P g := fun g ty cs' hg ht e => by
    have e : g = P := e
    subst e
    exact ht (hg.eq hb).1
  obtain ⟨k, f, h1, h2⟩ := h.kn
  have hk : KeepS w w' := fun g cs' hg => hg.fr hf (nt _ _ _ hg (by decide))
  refine ⟨hL.keep w w' _ h.q hf (fun b e => by have e : b = P := e; rw [e]; exact hown), h.blk.fr hf (nt _ _ _ h.blk (by decide)), h.sz.fr hf ?_, k, f, h1.keep (hf.block mk h1.lt ?_), fun p v hp => ?_⟩
  · intro e
    have e : mz = P := e
    obtain ⟨_, _, ⟨es, clk, hm, _⟩, _⟩ := h.sz
    exact hb.ne_map hm e.symm
  · intro e
    have e : mk = P := e
    obtain ⟨es, clk, hm, _⟩ := h1
    exact hb.ne_map hm e.symm
  · obtain ⟨t, g1, g2⟩ := h2 p v hp
    exact ⟨t, g1, g2.keep hk⟩

theorem LfAt.cell {w w' : World} (h : LfAt u ml mz1 mk1 c1 mz2 mk2 c2 Lb mr B0 L Q μ ν ρ w) (hL : Lead u ml own L Q) {P : Nat} {cs : Array Value} (hb : Blk w P 57 cs) (hown : ¬ own P) (hf : Fr (One P) w w') : LfAt u ml mz1 mk1 c1 mz2 mk2 c2 Lb mr B0 L Q μ ν ρ w' := by
  have nt : ∀ g ty cs', Blk w g ty cs' → ty ≠ 57 → ¬ One P g := fun g ty cs' hg ht e => by
    have e : g = P := e
    subst e
    exact ht (hg.eq hb).1
  obtain ⟨k, f, h1, h2⟩ := h.rl
  refine ⟨h.a.cell hL hb hown hf, h.b.cell hL hb hown hf, h.lb.fr hf (nt _ _ _ h.lb (by decide)), k, f, h1.keep (hf.block mr h1.lt ?_), fun n c c' e1 e2 => ?_⟩
  · intro e
    have e : mr = P := e
    obtain ⟨es, clk, hm, _⟩ := h1
    exact hb.ne_map hm e.symm
  · obtain ⟨b, Rb, gs, e3, e4, e5, e6⟩ := h2 n c c' e1 e2
    exact ⟨b, Rb, gs, e3, e4.fr hf (nt _ _ _ e4 (by decide)), e5.frO hf (nt _ _ _ e5.rows (by decide)) (fun i hi => by obtain ⟨_, ws, h, _⟩ := e5.each i hi; exact nt _ _ _ h (by decide)), e6⟩

/-- rows of a relation as rows of a lifted type -/
theorem RowsTo.rowz {w : World} {Rb l r B : Nat} {gs : Nat → Nat} {R : Nat → Nat → Bool} (h : RowsTo w Rb l r l B gs R) (i : Nat) (v : Value) (hv : (RA gs l r l)[i]? = some v) : RowZ No w r (R i) v := by
  have hi : i < l := by
    have := (Array.getElem?_eq_some_iff.1 hv).1
    simpa [RA] using this
  rw [RA_at hi, if_pos hi] at hv
  injection hv with hv
  obtain ⟨_, ws, h1, h2⟩ := h.each i hi
  exact ⟨_, ws, hv.symm, h1, h2, fun h => h⟩

theorem LfAt.left {w w' : World} (h : LfAt u ml mz1 mk1 c1 mz2 mk2 c2 Lb mr B0 L Q μ ν ρ w) (hL : Lead u ml own L Q) (hO : LfOk ml mz1 mk1 mz2 mk2 mr own μ ν) (hc : CsAt u ml mz1 mk1 c1 L Q μ w') (hf : Fr (Two ml mk1) w w') : LfAt u ml mz1 mk1 c1 mz2 mk2 c2 Lb mr B0 L Q μ ν ρ w' := by
  have hm : ∀ b, Two ml mk1 b → ∃ es clk, w.heap[b]? = some (.map es clk) := h.a.maps hL
  have nb : ∀ g t cs, Blk w g t cs → ¬ Two ml mk1 g := fun g t cs hb ht => by obtain ⟨es, clk, e⟩ := hm g ht; exact hb.ne_map e rfl
  refine ⟨hc, h.b.fr hf hc.q (fun b hb => ⟨.inl (hm b hb), ?_, ?_⟩), h.lb.fr hf (nb _ _ _ h.lb), h.rl.fr hf ?_ nb⟩
  · rcases hb with e | e
    · rw [e]; exact fun e => hO.ok2.zl e.symm
    · rw [e]; exact fun e => hO.z2 e.symm
  · rcases hb with e | e
    · rw [e]; exact fun e => hO.ok2.kl e.symm
    · rw [e]; exact hO.kk
  · rintro (e | e)
    · exact hO.r.1 e
    · exact hO.r.2.1 e

theorem LfAt.right {w w' : World} (h : LfAt u ml mz1 mk1 c1 mz2 mk2 c2 Lb mr B0 L Q μ ν ρ w) (hL : Lead u ml own L Q) (hO : LfOk ml mz1 mk1 mz2 mk2 mr own μ ν) (hc : CsAt u ml mz2 mk2 c2 L Q ν w') (hf : Fr (Two ml mk2) w w') : LfAt u ml mz1 mk1 c1 mz2 mk2 c2 Lb mr B0 L Q μ ν ρ w' := by
  have hm : ∀ b, Two ml mk2 b → ∃ es clk, w.heap[b]? = some (.map es clk) := h.b.maps hL
  have nb : ∀ g t cs, Blk w g t cs → ¬ Two ml mk2 g := fun g t cs hb ht => by obtain ⟨es, clk, e⟩ := hm g ht; exact hb.ne_map e rfl
  refine ⟨h.a.fr hf hc.q (fun b hb => ⟨.inl (hm b hb), ?_, ?_⟩), hc, h.lb.fr hf (nb _ _ _ h.lb), h.rl.fr hf ?_ nb⟩
  · rcases hb with e | e
    · rw [e]; exact fun e => hO.ok1.zl e.symm
    · rw [e]; exact fun e => hO.z1 e.symm
  · rcases hb with e | e
    · rw [e]; exact fun e => hO.ok1.kl e.symm
    · rw [e]; exact fun e => hO.kk e.symm
  · rintro (e | e)
    · exact hO.r.1 e
    · exact hO.r.2.2 e

/-- what lifting.of answers, where both counts are known -/
def OfLP (u ml mz1 mk1 c1 mz2 mk2 c2 Lb mr B0 : Nat) (L : Nat → Ty → Prop) (Q : World → Prop) (μ ν : Nat → Option Nat) (ρ : Nat → Nat → Nat → Bool) (F : Cach) (t : Ty) (w : World) (e : Ending) (w' : World) : Prop :=
  ∃ (P : Nat) (F' : Cach), e = .returned (Ptr P) ∧ LtAt μ ν ρ F' No w' t P ∧ LC μ ν ρ F' No w' ∧ LfAt u ml mz1 mk1 c1 mz2 mk2 c2 Lb mr B0 L Q μ ν ρ w' ∧ (∀ g, g < w.heap.size → F' g = F g) ∧ (∀ g, InF F' g → B0 ≤ g) ∧ Fr (Three ml mk1 mk2) w w'

def OfLSaid (u ml mz1 mk1 c1 mz2 mk2 c2 Lb mr B0 : Nat) (L : Nat → Ty → Prop) (Q : World → Prop) (μ ν : Nat → Option Nat) (ρ : Nat → Nat → Nat → Bool) (t : Ty) : Prop := ∀ (w : World) (p : Nat) (F : Cach) (c c' : Nat), LfAt u ml mz1 mk1 c1 mz2 mk2 c2 Lb mr B0 L Q μ ν ρ w → L p t → LC μ ν ρ F No w → (∀ g, InF F g → B0 ≤ g) → B0 ≤ w.heap.size → t.kn μ = some c → t.kn ν = some c' →
  Calls Tryz.prog 48 #[Ptr Lb, Ptr p] w fun e w' => OfLP u ml mz1 mk1 c1 mz2 mk2 c2 Lb mr B0 L Q μ ν ρ F t w e w'

set_option maxRecDepth 100000 in
set_option maxHeartbeats 4000000 in
theorem ofl_v (hL : Lead u ml own L Q) (hN : ∀ w p t, Q w → L p t → Nd w L p t) (_ : ∀ w b, Q w → own b → b < w.heap.size) (hO : LfOk ml mz1 mk1 mz2 mk2 mr own μ ν) (i : Nat) : OfLSaid u ml mz1 mk1 c1 mz2 mk2 c2 Lb mr B0 L Q μ ν ρ (.v i) := by
  intro w p F c c' hS hp hL1 hF0 hB0 hc hc'
  have hkc := kn_cnt hc
  have hkc' := kn_cnt hc'
  obtain ⟨nu, x, y, sz, pl, hb, hnu, rfl, rfl⟩ := hN w p _ hS.a.q hp
  subst hnu
  have far3 : ∀ w', LfAt u ml mz1 mk1 c1 mz2 mk2 c2 Lb mr B0 L Q μ ν ρ w' → ∀ g ty cs, Blk w' g ty cs → ¬ Three ml mk1 mk2 g := fun w' h g ty cs hb ht => by
    obtain ⟨es, clk, hm⟩ := h.maps hL g ht
    exact hb.ne_map hm rfl
  have FAR3 := Lib.hid far3
  have TZN : Hid (∀ w', LfAt u ml mz1 mk1 c1 mz2 mk2 c2 Lb mr B0 L Q μ ν ρ w' → TZt w' → ¬ Three ml mk1 mk2 0) := fun w' h hz ht => by
    obtain ⟨es, clk, hm⟩ := h.maps hL _ ht
    have := hz.2 0 (by decide)
    unfold World.cell? at this
    rw [hm] at this
    cases this
  have A1 : Hid (Calls Tryz.prog 60 #[Ptr c1, Ptr p] w.drew fun e w' => ∃ gl : Nat, e = .returned (Ptr gl) ∧ Hid (SetV w' μ (.v i) (Ptr gl) ∧ LfAt u ml mz1 mk1 c1 mz2 mk2 c2 Lb mr B0 L Q μ ν ρ w' ∧ LC μ ν ρ F No w' ∧ Fr (Three ml mk1 mk2) w w')) := by
    have hS0 := hS.no hL ((Fr.refl No w).drew)
    refine (ofs_any hL hO.ok1 (.v i) w.drew p hS0.a hp).mono ?_
    rintro e w' ⟨v, rfl, hv, hca, hf⟩
    obtain ⟨g, x, y, rfl, _⟩ := hv.some_ hc
    have hf0 : Fr (Three ml mk1 mk2) w.drew w' := hf.mono (fun k _ h => h.elim .inl (fun h => .inr (.inl h)))
    have hL0 := hL1.no ((Fr.refl No w).drew)
    exact ⟨g, rfl, hv, hS0.left hL hO hca hf, hL0.fr hf0 (fun g ty cs hb _ _ => far3 _ hS0 g ty cs hb) (fun g hg h => by
      obtain ⟨t, ht⟩ := hg
      obtain ⟨_, _, _, _, _, hb, _⟩ := hL0.kept g t ht
      exact far3 _ hS0 g _ _ hb h) (TZN.out _ hS0 hL0.tz), ((Fr.refl _ w).drew).trans hf0⟩
  have B1 : Hid (∀ w2 gl, SetV w2 μ (.v i) (Ptr gl) → LfAt u ml mz1 mk1 c1 mz2 mk2 c2 Lb mr B0 L Q μ ν ρ w2 → LC μ ν ρ F No w2 → Fr (Three ml mk1 mk2) w w2 → Calls Tryz.prog 60 #[Ptr c2, Ptr p] w2 fun e w' => ∃ gr : Nat, e = .returned (Ptr gr) ∧ Hid (SetV w' μ (.v i) (Ptr gl) ∧ SetV w' ν (.v i) (Ptr gr) ∧ LfAt u ml mz1 mk1 c1 mz2 mk2 c2 Lb mr B0 L Q μ ν ρ w' ∧ LC μ ν ρ F No w' ∧ Fr (Three ml mk1 mk2) w w')) := by
    intro w2 gl hv1 hS2 hL2 hf2
    refine (ofs_any hL hO.ok2 (.v i) w2 p hS2.b hp).mono ?_
    rintro e w' ⟨v, rfl, hv, hcb, hf⟩
    obtain ⟨g, x, y, rfl, _⟩ := hv.some_ hc'
    have hf0 : Fr (Three ml mk1 mk2) w2 w' := hf.mono (fun k _ h => h.elim .inl (fun h => .inr (.inr h)))
    exact ⟨g, rfl, hv1.keep (KeepS.fr hf0 fun b hb => .inl (hS2.maps hL b hb)), hv, hS2.right hL hO hcb hf, hL2.fr hf0 (fun g ty cs hb _ _ => far3 _ hS2 g ty cs hb) (fun g hg h => by
      obtain ⟨t, ht⟩ := hg
      obtain ⟨_, _, _, _, _, hb, _⟩ := hL2.kept g t ht
      exact far3 _ hS2 g _ _ hb h) (TZN.out _ hS2 hL2.tz), hf2.trans hf0⟩
  have LBC : Hid (∀ w', LfAt u ml mz1 mk1 c1 mz2 mk2 c2 Lb mr B0 L Q μ ν ρ w' → w'.cell? ⟨Lb, 1, none⟩ = some (Ptr c1) ∧ w'.cell? ⟨Lb, 2, none⟩ = some (Ptr c2) ∧ Lb < w'.heap.size) := fun w' h => ⟨(h.lb.cell 1).trans rfl, (h.lb.cell 2).trans rfl, h.lb.lt⟩
  obtain ⟨s1, s2, s3⟩ := LBC.out w hS
  have NB : Hid (∀ w', Fr (Three ml mk1 mk2) w w' → Blk w' p 97 #[S [], .int .i64 i, .pointer none, .pointer none, .int .i64 sz, .int .i64 pl]) := fun w' hf => hb.fr hf (far3 w hS _ _ _ hb)
  clear hb far3
  go_enter Tryz.func48, Tryz.ntmps48
  go_wp2_with fail
  go_region_held3 (fun w' => w'.cell? ⟨Lb, 1, none⟩ = some (Ptr c1) ∧ w'.cell? ⟨Lb, 2, none⟩ = some (Ptr c2)) (go_keep)
    (first | (go_at_call 60; ((with_reducible refine A1.out.mono ?_); rintro e w2 ⟨gl, rfl, HA⟩; obtain ⟨t1, t2, t3⟩ := LBC.out w2 HA.out.2.1)) | (go_at_call 60; ((with_reducible refine (B1.out w2 gl HA.out.1 HA.out.2.1 HA.out.2.2.1 HA.out.2.2.2).mono ?_); rintro e w3 ⟨gr, rfl, HC⟩; obtain ⟨r1, r2, r3⟩ := LBC.out w3 HC.out.2.2.1)))
  obtain ⟨hv1, hv2, hS3, hL3, hf3⟩ := HC.out
  have hfa : Fr No w3 (w3.alloc (.cells #[Ptr gl, Ptr gr, .pointer none, .pointer none, .slice none 0 0] 57)) := (Fr.refl No w3).alloc _
  have hP : Blk (w3.alloc (.cells #[Ptr gl, Ptr gr, .pointer none, .pointer none, .slice none 0 0] 57)) w3.heap.size 57 #[Ptr gl, Ptr gr, .pointer none, .pointer none, .slice none 0 0] := Blk.new _ _ _
  have hn4 := (NB.out w3 hf3).fr hfa (fun h => h)
  have hS4 := hS3.no hL hfa
  obtain ⟨k, fm, hm1, hm2⟩ := hS3.rl
  obtain ⟨b, Rb, gs, hb1, hrb, hrows, hRB⟩ := hm2 i c c' (by simpa [Ty.cnt] using hkc) (by simpa [Ty.cnt] using hkc')
  have hlk := (hm1.keep (w' := (w3.alloc (.cells #[Ptr gl, Ptr gr, .pointer none, .pointer none, .slice none 0 0] 57)).drew) (hfa.block mr hm1.lt (fun h => h))).lookup (int_kind Tryz.underlying3) Tryz.underlying95 (zero_rel _) (i : Int)
  rw [hb1] at hlk
  simp only [Option.getD_some] at hlk
  obtain ⟨s, z, x, y, hgl⟩ : SetI w3 gl c := by
    obtain ⟨g, x, y, e, hb⟩ := hv1.some_ hc
    injection e with e; injection e with e; injection e with e; subst e
    exact ⟨_, _, _, _, hb⟩
  obtain ⟨s', z', x', y', hgr⟩ : SetI w3 gr c' := by
    obtain ⟨g, x, y, e, hb⟩ := hv2.some_ hc'
    injection e with e; injection e with e; injection e with e; subst e
    exact ⟨_, _, _, _, hb⟩
  have FIN : Hid (OfLP u ml mz1 mk1 c1 mz2 mk2 c2 Lb mr B0 L Q μ ν ρ F (.v i) w (.returned (Ptr w3.heap.size)) ((w3.alloc (.cells #[Ptr gl, Ptr gr, .pointer none, .pointer none, .slice none 0 0] 57)).drew.setCell ⟨w3.heap.size, 4, none⟩ (.slice (some ⟨Rb, 0, none⟩) c c))) := by
    have hfb : Fr No w3 ((w3.alloc (.cells #[Ptr gl, Ptr gr, .pointer none, .pointer none, .slice none 0 0] 57)).drew.setCell ⟨w3.heap.size, 4, none⟩ (.slice (some ⟨Rb, 0, none⟩) c c)) := hfa.drew.setCell (p := ⟨w3.heap.size, 4, none⟩) (.inr (Nat.le_refl _)) _
    have hP4 := (Blk.drew hP).set_ 4 (.slice (some ⟨Rb, 0, none⟩) c c)
    have hrw := hrows.frO hfb (fun h => h) (fun _ _ h => h)
    refine ⟨w3.heap.size, F, rfl, ⟨gl, gr, Rb, c, c', RA gs c c' c, hkc, hkc', hP4, ⟨s, z, x, y, hgl.fr hfb (fun h => h)⟩, ⟨s', z', x', y', hgr.fr hfb (fun h => h)⟩, ?_, hrw.rows, by simp [RA], fun i v hv => hrw.rowz i v hv⟩, hL3.no hfb, hS3.no hL hfb, fun _ _ => rfl, hF0, hf3.trans (hfb.mono (fun _ _ h => h.elim))⟩
    rcases hq : F Rb with _ | t
    · rfl
    · have := hF0 Rb ⟨t, hq⟩; omega
  have e0 : (w3.alloc (.cells #[Ptr gl, Ptr gr, .pointer none, .pointer none, .slice none 0 0] 57)).cell? ⟨p, 0, none⟩ = some (S []) := (hn4.cell 0).trans rfl
  have e1 : (w3.alloc (.cells #[Ptr gl, Ptr gr, .pointer none, .pointer none, .slice none 0 0] 57)).cell? ⟨p, 1, none⟩ = some (.int .i64 i) := (hn4.cell 1).trans rfl
  have e2 : (w3.alloc (.cells #[Ptr gl, Ptr gr, .pointer none, .pointer none, .slice none 0 0] 57)).cell? ⟨Lb, 0, none⟩ = some (.map (some mr)) := (hS4.lb.cell 0).trans rfl
  have e3 : (w3.alloc (.cells #[Ptr gl, Ptr gr, .pointer none, .pointer none, .slice none 0 0] 57)).cell? ⟨b, 1, none⟩ = some (.slice (some ⟨Rb, 0, none⟩) c c) := ((hrb.fr hfa (fun h => h)).cell 1).trans rfl
  have e4 : (w3.alloc (.cells #[Ptr gl, Ptr gr, .pointer none, .pointer none, .slice none 0 0] 57)).cell? ⟨w3.heap.size, 4, none⟩ = some (.slice none 0 0) := (hP.cell 4).trans rfl
  have e5 : (w3.alloc (.cells #[Ptr gl, Ptr gr, .pointer none, .pointer none, .slice none 0 0] 57)).frozen? ⟨w3.heap.size, 4, none⟩ = false := hP.frozen 4
  have e6 := hP.lt
  have HN4 := Lib.hid hn4
  clear hfa hP hv1 hv2 hS3 hL3 hf3 hn4 hS4 hm1 hm2 hb1 hrb hrows hgl hgr HC HA A1 B1 t1 t2 t3 r1 r2 r3 s1 s2 s3
  go_wp2_with fail
  refine (compound_no _ _ _ _ _ _ _ HN4.out).mono ?_
  rintro e w' ⟨rfl, rfl⟩
  generalize (w3.alloc (.cells #[Ptr gl, Ptr gr, .pointer none, .pointer none, .slice none 0 0] 57)) = W at *
  go_wp2_with fail
  refine wp_region_still_tail 15 (by kernel_rfl) (by kernel_rfl) ?_
  change wpStill _ _ (World.drew _) (fun a' => wpList _ _ _ _ a' (World.drew _)) _ _
  simp only [List.take_succ_cons, List.take_zero, List.drop_succ_cons, List.drop_zero]
  repeat still_step
  refine wpStill_nil ?_
  go_wp2_with fail
  go_ret
  exact FIN.out

set_option maxRecDepth 100000 in
set_option maxHeartbeats 4000000 in
theorem ofl_o (hL : Lead u ml own L Q) (hN : ∀ w p t, Q w → L p t → Nd w L p t) (_ : ∀ w b, Q w → own b → b < w.heap.size) (hO : LfOk ml mz1 mk1 mz2 mk2 mr own μ ν) : OfLSaid u ml mz1 mk1 c1 mz2 mk2 c2 Lb mr B0 L Q μ ν ρ .o := by
  intro w p F c c' hS hp hL1 hF0 hB0 hc hc'
  have hkc := kn_cnt hc
  have hkc' := kn_cnt hc'
  obtain ⟨nu, x, y, sz, pl, hb, rfl, rfl⟩ := hN w p _ hS.a.q hp
  have far3 : ∀ w', LfAt u ml mz1 mk1 c1 mz2 mk2 c2 Lb mr B0 L Q μ ν ρ w' → ∀ g ty cs, Blk w' g ty cs → ¬ Three ml mk1 mk2 g := fun w' h g ty cs hb ht => by
    obtain ⟨es, clk, hm⟩ := h.maps hL g ht
    exact hb.ne_map hm rfl
  have FAR3 := Lib.hid far3
  have TZN : Hid (∀ w', LfAt u ml mz1 mk1 c1 mz2 mk2 c2 Lb mr B0 L Q μ ν ρ w' → TZt w' → ¬ Three ml mk1 mk2 0) := fun w' h hz ht => by
    obtain ⟨es, clk, hm⟩ := h.maps hL _ ht
    have := hz.2 0 (by decide)
    unfold World.cell? at this
    rw [hm] at this
    cases this
  have A1 : Hid (Calls Tryz.prog 60 #[Ptr c1, Ptr p] w.drew fun e w' => ∃ gl : Nat, e = .returned (Ptr gl) ∧ Hid (SetV w' μ .o (Ptr gl) ∧ LfAt u ml mz1 mk1 c1 mz2 mk2 c2 Lb mr B0 L Q μ ν ρ w' ∧ LC μ ν ρ F No w' ∧ Fr (Three ml mk1 mk2) w w')) := by
    have hS0 := hS.no hL ((Fr.refl No w).drew)
    refine (ofs_any hL hO.ok1 .o w.drew p hS0.a hp).mono ?_
    rintro e w' ⟨v, rfl, hv, hca, hf⟩
    obtain ⟨g, x, y, rfl, _⟩ := hv.some_ hc
    have hf0 : Fr (Three ml mk1 mk2) w.drew w' := hf.mono (fun k _ h => h.elim .inl (fun h => .inr (.inl h)))
    have hL0 := hL1.no ((Fr.refl No w).drew)
    exact ⟨g, rfl, hv, hS0.left hL hO hca hf, hL0.fr hf0 (fun g ty cs hb _ _ => far3 _ hS0 g ty cs hb) (fun g hg h => by
      obtain ⟨t, ht⟩ := hg
      obtain ⟨_, _, _, _, _, hb, _⟩ := hL0.kept g t ht
      exact far3 _ hS0 g _ _ hb h) (TZN.out _ hS0 hL0.tz), ((Fr.refl _ w).drew).trans hf0⟩
  have B1 : Hid (∀ w2 gl, SetV w2 μ .o (Ptr gl) → LfAt u ml mz1 mk1 c1 mz2 mk2 c2 Lb mr B0 L Q μ ν ρ w2 → LC μ ν ρ F No w2 → Fr (Three ml mk1 mk2) w w2 → Calls Tryz.prog 60 #[Ptr c2, Ptr p] w2 fun e w' => ∃ gr : Nat, e = .returned (Ptr gr) ∧ Hid (SetV w' μ .o (Ptr gl) ∧ SetV w' ν .o (Ptr gr) ∧ LfAt u ml mz1 mk1 c1 mz2 mk2 c2 Lb mr B0 L Q μ ν ρ w' ∧ LC μ ν ρ F No w' ∧ Fr (Three ml mk1 mk2) w w')) := by
    intro w2 gl hv1 hS2 hL2 hf2
    refine (ofs_any hL hO.ok2 .o w2 p hS2.b hp).mono ?_
    rintro e w' ⟨v, rfl, hv, hcb, hf⟩
    obtain ⟨g, x, y, rfl, _⟩ := hv.some_ hc'
    have hf0 : Fr (Three ml mk1 mk2) w2 w' := hf.mono (fun k _ h => h.elim .inl (fun h => .inr (.inr h)))
    exact ⟨g, rfl, hv1.keep (KeepS.fr hf0 fun b hb => .inl (hS2.maps hL b hb)), hv, hS2.right hL hO hcb hf, hL2.fr hf0 (fun g ty cs hb _ _ => far3 _ hS2 g ty cs hb) (fun g hg h => by
      obtain ⟨t, ht⟩ := hg
      obtain ⟨_, _, _, _, _, hb, _⟩ := hL2.kept g t ht
      exact far3 _ hS2 g _ _ hb h) (TZN.out _ hS2 hL2.tz), hf2.trans hf0⟩
  have LBC : Hid (∀ w', LfAt u ml mz1 mk1 c1 mz2 mk2 c2 Lb mr B0 L Q μ ν ρ w' → w'.cell? ⟨Lb, 1, none⟩ = some (Ptr c1) ∧ w'.cell? ⟨Lb, 2, none⟩ = some (Ptr c2) ∧ Lb < w'.heap.size) := fun w' h => ⟨(h.lb.cell 1).trans rfl, (h.lb.cell 2).trans rfl, h.lb.lt⟩
  obtain ⟨s1, s2, s3⟩ := LBC.out w hS
  have NB : Hid (∀ w', Fr (Three ml mk1 mk2) w w' → Blk w' p 97 #[S [111], .int .i64 nu, .pointer none, .pointer none, .int .i64 sz, .int .i64 pl]) := fun w' hf => hb.fr hf (far3 w hS _ _ _ hb)
  clear hb far3
  go_enter Tryz.func48, Tryz.ntmps48
  go_wp2_with fail
  go_region_held3 (fun w' => w'.cell? ⟨Lb, 1, none⟩ = some (Ptr c1) ∧ w'.cell? ⟨Lb, 2, none⟩ = some (Ptr c2)) (go_keep)
    (first | (go_at_call 60; ((with_reducible refine A1.out.mono ?_); rintro e w2 ⟨gl, rfl, HA⟩; obtain ⟨t1, t2, t3⟩ := LBC.out w2 HA.out.2.1)) | (go_at_call 60; ((with_reducible refine (B1.out w2 gl HA.out.1 HA.out.2.1 HA.out.2.2.1 HA.out.2.2.2).mono ?_); rintro e w3 ⟨gr, rfl, HC⟩; obtain ⟨r1, r2, r3⟩ := LBC.out w3 HC.out.2.2.1)))
  obtain ⟨hv1, hv2, hS3, hL3, hf3⟩ := HC.out
  have hfa : Fr No w3 (w3.alloc (.cells #[Ptr gl, Ptr gr, .pointer none, .pointer none, .slice none 0 0] 57)) := (Fr.refl No w3).alloc _
  have hP : Blk (w3.alloc (.cells #[Ptr gl, Ptr gr, .pointer none, .pointer none, .slice none 0 0] 57)) w3.heap.size 57 #[Ptr gl, Ptr gr, .pointer none, .pointer none, .slice none 0 0] := Blk.new _ _ _
  have hn4 := (NB.out w3 hf3).fr hfa (fun h => h)
  have h2c : c = 2 := by simp [Ty.cnt] at hkc; exact hkc.symm
  have h2c' : c' = 2 := by simp [Ty.cnt] at hkc'; exact hkc'.symm
  subst h2c h2c'
  obtain ⟨s, z, x, y, hgl⟩ : SetI w3 gl 2 := by
    obtain ⟨g, x, y, e, hb⟩ := hv1.some_ hc
    injection e with e; injection e with e; injection e with e; subst e
    exact ⟨_, _, _, _, hb⟩
  obtain ⟨s', z', x', y', hgr⟩ : SetI w3 gr 2 := by
    obtain ⟨g, x, y, e, hb⟩ := hv2.some_ hc'
    injection e with e; injection e with e; injection e with e; subst e
    exact ⟨_, _, _, _, hb⟩
  have FIN : Hid (∀ (w5 : World) (b Rb : Nat) (gs : Nat → Nat), Fr No (w3.alloc (.cells #[Ptr gl, Ptr gr, .pointer none, .pointer none, .slice none 0 0] 57)) w5 → RowsTo w5 Rb 2 2 2 (w3.alloc (.cells #[Ptr gl, Ptr gr, .pointer none, .pointer none, .slice none 0 0] 57)).heap.size gs (fun i j => decide (j = i)) →
      OfLP u ml mz1 mk1 c1 mz2 mk2 c2 Lb mr B0 L Q μ ν ρ F .o w (.returned (Ptr w3.heap.size)) (w5.setCell ⟨w3.heap.size, 4, none⟩ (.slice (some ⟨Rb, 0, none⟩) 2 2))) := by
    intro w5 b Rb gs hf5 hrows
    have hz4 : (w3.alloc (.cells #[Ptr gl, Ptr gr, .pointer none, .pointer none, .slice none 0 0] 57)).heap.size = w3.heap.size + 1 := by simp
    have hfb : Fr No w3 (w5.setCell ⟨w3.heap.size, 4, none⟩ (.slice (some ⟨Rb, 0, none⟩) 2 2)) := (hfa.trans hf5).setCell (p := ⟨w3.heap.size, 4, none⟩) (.inr (Nat.le_refl _)) _
    have hP4 := (hP.fr hf5 (fun h => h)).set_ 4 (.slice (some ⟨Rb, 0, none⟩) 2 2)
    have hlow := hrows.low
    have hfc : Fr (One w3.heap.size) w5 (w5.setCell ⟨w3.heap.size, 4, none⟩ (.slice (some ⟨Rb, 0, none⟩) 2 2)) := (Fr.refl (One w3.heap.size) w5).setCell (p := ⟨w3.heap.size, 4, none⟩) (.inl rfl) _
    have hrw : RowsTo (w5.setCell ⟨w3.heap.size, 4, none⟩ (.slice (some ⟨Rb, 0, none⟩) 2 2)) Rb 2 2 2 _ gs (relT μ ν ρ .o) := (hrows.frO hfc (fun h => by have h : Rb = w3.heap.size := h; omega) (fun i hi h => by have h : gs i = w3.heap.size := h; have := (hrows.each i hi).1; omega)).congr (fun i _ j _ => by
      unfold relT
      apply Bool.eq_iff_iff.2
      simp
      exact eq_comm)
    refine ⟨w3.heap.size, F, rfl, ⟨gl, gr, Rb, 2, 2, RA gs 2 2 2, hkc, hkc', hP4, ⟨s, z, x, y, hgl.fr hfb (fun h => h)⟩, ⟨s', z', x', y', hgr.fr hfb (fun h => h)⟩, ?_, hrw.rows, by simp [RA], fun i v hv => hrw.rowz i v hv⟩, hL3.no hfb, hS3.no hL hfb, fun _ _ => rfl, hF0, hf3.trans (hfb.mono (fun _ _ h => h.elim))⟩
    rcases hq : F Rb with _ | t
    · rfl
    · have := hL3.old ⟨t, hq⟩; omega
  have e0 : (w3.alloc (.cells #[Ptr gl, Ptr gr, .pointer none, .pointer none, .slice none 0 0] 57)).cell? ⟨p, 0, none⟩ = some (S [111]) := (hn4.cell 0).trans rfl
  have HN4 := Lib.hid hn4
  have HP := Lib.hid hP
  clear hfa hP hv1 hv2 hS3 hL3 hf3 hn4 hgl hgr HC HA A1 B1 t1 t2 t3 r1 r2 r3 s1 s2 s3
  go_wp2_with fail
  refine (compound_no _ _ _ _ _ _ _ HN4.out).mono ?_
  rintro e w' ⟨rfl, rfl⟩
  generalize (w3.alloc (.cells #[Ptr gl, Ptr gr, .pointer none, .pointer none, .slice none 0 0] 57)) = W at *
  go_wp2_with fail
  refine (equalNumbers_any W 2 (by decide) (by decide)).mono ?_
  rintro e w5 ⟨b, rfl, hf5, _, Rb, gs, hrb, hrows⟩
  have HFIN := Lib.hid (FIN.out w5 b Rb gs hf5 hrows)
  have g1 : w5.cell? ⟨b, 1, none⟩ = some (.slice (some ⟨Rb, 0, none⟩) 2 2) := (hrb.cell 1).trans rfl
  have hP5 := HP.out.fr hf5 (fun h => h)
  have g2 : w5.cell? ⟨w3.heap.size, 4, none⟩ = some (.slice none 0 0) := (hP5.cell 4).trans rfl
  have g3 : w5.frozen? ⟨w3.heap.size, 4, none⟩ = false := hP5.frozen 4
  have g4 := hP5.lt
  clear hf5 hrb hrows hP5 FIN
  go_wp2_with fail
  go_ret
  exact HFIN.out

theorem LtAt.cell {F : Cach} {Z : Nat → Prop} {w w' : World} {P : Nat} {cs0 : Array Value} (hP : Blk w P 57 cs0) (hcs : cs0[4]? = some (.slice none 0 0)) (hf : Fr (One P) w w') : ∀ {t : Ty} {p : Nat}, LtAt μ ν ρ F Z w t p → LtAt μ ν ρ F Z w' t p := by
  have nt : ∀ g ty cs', Blk w g ty cs' → ty ≠ 57 → ¬ One P g := fun g ty cs' hg ht e => by
    have e : g = P := e
    subst e
    exact ht (hg.eq hP).1
  have np : ∀ g x0 x1 x2 x3 R c, Blk w g 57 #[x0, x1, x2, x3, .slice (some ⟨R, 0, none⟩) c c] → ¬ One P g := fun g x0 x1 x2 x3 R c hg e => by
    have e : g = P := e
    subst e
    rw [← (hg.eq hP).2] at hcs
    cases hcs
  have rz : ∀ n Q v, RowZ Z w n Q v → RowZ Z w' n Q v := fun n Q v ⟨g, ws, h1, h2, h3, h4⟩ => ⟨g, ws, h1, h2.fr hf (nt _ _ _ h2 (by decide)), h3, h4⟩
  have fs : ∀ g f a b d, FsAt w g f a b d → FsAt w' g f a b d := fun g f a b d ⟨gl, gr, sz, s1, z1, p1, q1, s2, z2, p2, q2, h1, h2, h3⟩ => ⟨gl, gr, sz, s1, z1, p1, q1, s2, z2, p2, q2, h1.fr hf (nt _ _ _ h1 (by decide)), h2.fr hf (nt _ _ _ h2 (by decide)), h3.fr hf (nt _ _ _ h3 (by decide))⟩
  intro t
  induction t with
  | v i =>
    rintro p ⟨gl, gr, R, c, c', cs, h1, h2, h3, ⟨s, z, x, y, h4⟩, ⟨s', z', x', y', h5⟩, h6, h7, h8, h9⟩
    exact ⟨gl, gr, R, c, c', cs, h1, h2, h3.fr hf (np _ _ _ _ _ _ _ h3), ⟨s, z, x, y, h4.fr hf (nt _ _ _ h4 (by decide))⟩, ⟨s', z', x', y', h5.fr hf (nt _ _ _ h5 (by decide))⟩, h6, h7.fr hf (nt _ _ _ h7 (by decide)), h8, fun i v hv => rz _ _ _ (h9 i v hv)⟩
  | o =>
    rintro p ⟨gl, gr, R, c, c', cs, h1, h2, h3, ⟨s, z, x, y, h4⟩, ⟨s', z', x', y', h5⟩, h6, h7, h8, h9⟩
    exact ⟨gl, gr, R, c, c', cs, h1, h2, h3.fr hf (np _ _ _ _ _ _ _ h3), ⟨s, z, x, y, h4.fr hf (nt _ _ _ h4 (by decide))⟩, ⟨s', z', x', y', h5.fr hf (nt _ _ _ h5 (by decide))⟩, h6, h7.fr hf (nt _ _ _ h7 (by decide)), h8, fun i v hv => rz _ _ _ (h9 i v hv)⟩
  | n f l r ihl ihr =>
    rintro p ⟨gl, gr, p1, p2, R, a, b, c, a', b', c', h1, h2, h3, h4, h5, h6, h7, h8, h9, h10, h11, h12⟩
    exact ⟨gl, gr, p1, p2, R, a, b, c, a', b', c', h1, h2, h3, h4, h5, h6, h7.fr hf (np _ _ _ _ _ _ _ h7), fs _ _ _ _ _ h8, fs _ _ _ _ _ h9, h10, ihl h11, ihr h12⟩

theorem LC.cell {F : Cach} {Z : Nat → Prop} {w w' : World} {P : Nat} {cs0 : Array Value} (h : LC μ ν ρ F Z w) (hP : Blk w P 57 cs0) (hz : 0 ≠ P) (hf : Fr (One P) w w') : LC μ ν ρ F Z w' := by
  have nt : ∀ g ty cs', Blk w g ty cs' → ty ≠ 57 → ¬ One P g := fun g ty cs' hg ht e => by
    have e : g = P := e
    subst e
    exact ht (hg.eq hP).1
  refine ⟨fun g t hg => ?_, h.tz.fr hf hz, h.tzF⟩
  · obtain ⟨c, c', cs, h1, h2, h3, h4, h5⟩ := h.kept g t hg
    refine ⟨c, c', cs, h1, h2, h3.fr hf (nt _ _ _ h3 (by decide)), h4, fun i v hv => ?_⟩
    rcases h5 i v hv with h | ⟨g, ws, k1, k2, k3, k4⟩
    · exact .inl h
    · exact .inr ⟨g, ws, k1, k2.fr hf (nt _ _ _ k2 (by decide)), k3, k4⟩

end
end Go.Proofs.YtloecimlimoanaaGreatDoor

/- Relations lifted to a type with parts; to every type. -/
namespace Go.Proofs.YtloecimlimoanaaGreatDoor
open Go.RowKit Go.ChangeMaps Go.Shelf

section
variable {u ml mz1 mk1 c1 mz2 mk2 c2 Lb mr B0 : Nat} {own : Nat → Prop} {L : Nat → Ty → Prop} {Q : World → Prop} {μ ν : Nat → Option Nat} {ρ : Nat → Nat → Nat → Bool}

set_option maxRecDepth 100000 in
set_option maxHeartbeats 8000000 in
theorem ofl_n (hL : Lead u ml own L Q) (hN : ∀ w p t, Q w → L p t → Nd w L p t) (hW : ∀ w b, Q w → own b → b < w.heap.size) (hO : LfOk ml mz1 mk1 mz2 mk2 mr own μ ν) (hμ : Sizes μ) (f : Bool) (l r : Ty) (il : OfLSaid u ml mz1 mk1 c1 mz2 mk2 c2 Lb mr B0 L Q μ ν ρ l) (ir : OfLSaid u ml mz1 mk1 c1 mz2 mk2 c2 Lb mr B0 L Q μ ν ρ r) : OfLSaid u ml mz1 mk1 c1 mz2 mk2 c2 Lb mr B0 L Q μ ν ρ (.n f l r) := by
  intro w p F c c' hS hp hL1 hF0 hB0 hc hc'
  have hkc := kn_cnt hc
  have hkc' := kn_cnt hc'
  obtain ⟨nu, x, y, sz, pl, hb, kl, kr, rfl, rfl, hkl, hkr⟩ := hN w p _ hS.a.q hp
  have far3 : ∀ w', LfAt u ml mz1 mk1 c1 mz2 mk2 c2 Lb mr B0 L Q μ ν ρ w' → ∀ g ty cs, Blk w' g ty cs → ¬ Three ml mk1 mk2 g := fun w' h g ty cs hb ht => by
    obtain ⟨es, clk, hm⟩ := h.maps hL g ht
    exact hb.ne_map hm rfl
  have FAR3 := Lib.hid far3
  have TZN : Hid (∀ w', LfAt u ml mz1 mk1 c1 mz2 mk2 c2 Lb mr B0 L Q μ ν ρ w' → TZt w' → ¬ Three ml mk1 mk2 0) := fun w' h hz ht => by
    obtain ⟨es, clk, hm⟩ := h.maps hL _ ht
    have := hz.2 0 (by decide)
    unfold World.cell? at this
    rw [hm] at this
    cases this
  have A1 : Hid (Calls Tryz.prog 60 #[Ptr c1, Ptr p] w.drew fun e w' => ∃ gl : Nat, e = .returned (Ptr gl) ∧ Hid (SetV w' μ (.n f l r) (Ptr gl) ∧ LfAt u ml mz1 mk1 c1 mz2 mk2 c2 Lb mr B0 L Q μ ν ρ w' ∧ LC μ ν ρ F No w' ∧ Fr (Three ml mk1 mk2) w w')) := by
    have hS0 := hS.no hL ((Fr.refl No w).drew)
    refine (ofs_any hL hO.ok1 (.n f l r) w.drew p hS0.a hp).mono ?_
    rintro e w' ⟨v, rfl, hv, hca, hf⟩
    obtain ⟨g, x, y, rfl, _⟩ := hv.some_ hc
    have hf0 : Fr (Three ml mk1 mk2) w.drew w' := hf.mono (fun k _ h => h.elim .inl (fun h => .inr (.inl h)))
    have hL0 := hL1.no ((Fr.refl No w).drew)
    exact ⟨g, rfl, hv, hS0.left hL hO hca hf, hL0.fr hf0 (fun g ty cs hb _ _ => far3 _ hS0 g ty cs hb) (fun g hg h => by
      obtain ⟨t, ht⟩ := hg
      obtain ⟨_, _, _, _, _, hb, _⟩ := hL0.kept g t ht
      exact far3 _ hS0 g _ _ hb h) (TZN.out _ hS0 hL0.tz), ((Fr.refl _ w).drew).trans hf0⟩
  have B1 : Hid (∀ w2 gl, SetV w2 μ (.n f l r) (Ptr gl) → LfAt u ml mz1 mk1 c1 mz2 mk2 c2 Lb mr B0 L Q μ ν ρ w2 → LC μ ν ρ F No w2 → Fr (Three ml mk1 mk2) w w2 → Calls Tryz.prog 60 #[Ptr c2, Ptr p] w2 fun e w' => ∃ gr : Nat, e = .returned (Ptr gr) ∧ Hid (SetV w' μ (.n f l r) (Ptr gl) ∧ SetV w' ν (.n f l r) (Ptr gr) ∧ LfAt u ml mz1 mk1 c1 mz2 mk2 c2 Lb mr B0 L Q μ ν ρ w' ∧ LC μ ν ρ F No w' ∧ Fr (Three ml mk1 mk2) w w')) := by
    intro w2 gl hv1 hS2 hL2 hf2
    refine (ofs_any hL hO.ok2 (.n f l r) w2 p hS2.b hp).mono ?_
    rintro e w' ⟨v, rfl, hv, hcb, hf⟩
    obtain ⟨g, x, y, rfl, _⟩ := hv.some_ hc'
    have hf0 : Fr (Three ml mk1 mk2) w2 w' := hf.mono (fun k _ h => h.elim .inl (fun h => .inr (.inr h)))
    exact ⟨g, rfl, hv1.keep (KeepS.fr hf0 fun b hb => .inl (hS2.maps hL b hb)), hv, hS2.right hL hO hcb hf, hL2.fr hf0 (fun g ty cs hb _ _ => far3 _ hS2 g ty cs hb) (fun g hg h => by
      obtain ⟨t, ht⟩ := hg
      obtain ⟨_, _, _, _, _, hb, _⟩ := hL2.kept g t ht
      exact far3 _ hS2 g _ _ hb h) (TZN.out _ hS2 hL2.tz), hf2.trans hf0⟩
  have LBC : Hid (∀ w', LfAt u ml mz1 mk1 c1 mz2 mk2 c2 Lb mr B0 L Q μ ν ρ w' → w'.cell? ⟨Lb, 1, none⟩ = some (Ptr c1) ∧ w'.cell? ⟨Lb, 2, none⟩ = some (Ptr c2) ∧ Lb < w'.heap.size) := fun w' h => ⟨(h.lb.cell 1).trans rfl, (h.lb.cell 2).trans rfl, h.lb.lt⟩
  obtain ⟨s1, s2, s3⟩ := LBC.out w hS
  have NB : Hid (∀ w', Fr (Three ml mk1 mk2) w w' → Blk w' p 97 #[S [Ty.sign f], .int .i64 nu, Ptr kl, Ptr kr, .int .i64 sz, .int .i64 pl]) := fun w' hf => hb.fr hf (far3 w hS _ _ _ hb)
  clear hb far3
  go_enter Tryz.func48, Tryz.ntmps48
  go_wp2_with fail
  go_region_held3 (fun w' => w'.cell? ⟨Lb, 1, none⟩ = some (Ptr c1) ∧ w'.cell? ⟨Lb, 2, none⟩ = some (Ptr c2)) (go_keep)
    (first | (go_at_call 60; ((with_reducible refine A1.out.mono ?_); rintro e w2 ⟨gl, rfl, HA⟩; obtain ⟨t1, t2, t3⟩ := LBC.out w2 HA.out.2.1)) | (go_at_call 60; ((with_reducible refine (B1.out w2 gl HA.out.1 HA.out.2.1 HA.out.2.2.1 HA.out.2.2.2).mono ?_); rintro e w3 ⟨gr, rfl, HC⟩; obtain ⟨r1, r2, r3⟩ := LBC.out w3 HC.out.2.2.1)))
  obtain ⟨hv1, hv2, hS3, hL3, hf3⟩ := HC.out
  have hfa : Fr No w3 (w3.alloc (.cells #[Ptr gl, Ptr gr, .pointer none, .pointer none, .slice none 0 0] 57)) := (Fr.refl No w3).alloc _
  have hP : Blk (w3.alloc (.cells #[Ptr gl, Ptr gr, .pointer none, .pointer none, .slice none 0 0] 57)) w3.heap.size 57 #[Ptr gl, Ptr gr, .pointer none, .pointer none, .slice none 0 0] := Blk.new _ _ _
  have hsz4 : (w3.alloc (.cells #[Ptr gl, Ptr gr, .pointer none, .pointer none, .slice none 0 0] 57)).heap.size = w3.heap.size + 1 := by simp
  have hn4 := (NB.out w3 hf3).fr hfa (fun h => h)
  have hS4 := hS3.no hL hfa
  have hL4 := hL3.no hfa
  obtain ⟨gl', a, b, e1, ka, kb, -, -, hfl⟩ := hv1.fs hc
  injection e1 with e1; injection e1 with e1; injection e1 with e1; subst e1
  obtain ⟨gr', a', b', e1, ka', kb', -, -, hfr⟩ := hv2.fs hc'
  injection e1 with e1; injection e1 with e1; injection e1 with e1; subst e1
  have hfl4 := hfl.fr hfa
  have hfr4 := hfr.fr hfa
  have hcb := (Ty.n f l r).cnt_bounds hμ c hkc
  have HN4 := Lib.hid hn4
  have hpn : p ≠ w3.heap.size := fun e => by rw [e] at hn4; exact absurd (hn4.eq hP).1 (by decide)
  have HF3 := Lib.hid hf3
  have HLB := Lib.hid (Nat.le_trans hB0 (Nat.le_trans hf3.size hfa.size))
  obtain ⟨P, hPe⟩ : ∃ P, P = w3.heap.size := ⟨_, rfl⟩
  have HW34 : Hid (w3.heap.size = P ∧ w.heap.size ≤ P) := ⟨hPe.symm, by rw [hPe]; exact hf3.size⟩
  have hFrW4 : Fr (Three ml mk1 mk2) w (w3.alloc (.cells #[Ptr gl, Ptr gr, .pointer none, .pointer none, .slice none 0 0] 57)) := hf3.trans (hfa.mono (fun _ _ h => h.elim))
  rw [← hPe] at hP hsz4 hpn ⊢
  clear hfa hv1 hv2 hS3 hL3 hf3 hn4 hfl hfr HC HA A1 B1 t1 t2 t3 r1 r2 r3 s1 s2 s3 LBC NB hPe
  generalize (w3.alloc (.cells #[Ptr gl, Ptr gr, .pointer none, .pointer none, .slice none 0 0] 57)) = W at hP hsz4 HN4 hS4 hL4 hfl4 hfr4 HLB hFrW4 ⊢
  have hownP : ¬ own P := fun h => by have := hW w P hS.a.q h; have := HW34.out.2; omega
  have hTZP : 0 ≠ P := by have := hL1.tz.1; have := HW34.out.2; omega
  have SS : Hid (∀ w', Fr (Three ml mk1 mk2) W w' → w'.cell? ⟨p, 2, none⟩ = some (Ptr kl) ∧ w'.cell? ⟨p, 3, none⟩ = some (Ptr kr) ∧ Blk w' P 57 #[Ptr gl, Ptr gr, .pointer none, .pointer none, .slice none 0 0] ∧ FsAt w' gl f a b c ∧ FsAt w' gr f a' b' c') := fun w' hf => by
    have h := HN4.out.fr hf (FAR3.out W hS4 _ _ _ HN4.out)
    exact ⟨(h.cell 2).trans rfl, (h.cell 3).trans rfl, hP.fr hf (FAR3.out W hS4 _ _ _ hP), hfl4.far (F := fun _ => none) (Z := No) hf (fun g ty cs hb _ _ => FAR3.out W hS4 g ty cs hb), hfr4.far (F := fun _ => none) (Z := No) hf (fun g ty cs hb _ _ => FAR3.out W hS4 g ty cs hb)⟩
  have FW : Hid (∀ g, g < w.heap.size → g < W.heap.size) := fun g hg => by have := HW34.out.2; omega
  have hdr : Fr (Three ml mk1 mk2) W W.drew := (Fr.refl _ W).drew
  have O1 : Hid (Calls Tryz.prog 48 #[Ptr Lb, Ptr kl] W.drew fun e w' => ∃ P1 : Nat, e = .returned (Ptr P1) ∧ Hid (∃ F1, LtAt μ ν ρ F1 No w' l P1 ∧ LC μ ν ρ F1 No w' ∧ LfAt u ml mz1 mk1 c1 mz2 mk2 c2 Lb mr B0 L Q μ ν ρ w' ∧ (∀ g, g < W.heap.size → F1 g = F g) ∧ (∀ g, InF F1 g → B0 ≤ g) ∧ Fr (Three ml mk1 mk2) W w')) :=
    (il W.drew kl F a a' (hS4.no hL ((Fr.refl No W).drew)) hkl (hL4.no ((Fr.refl No W).drew)) hF0 HLB.out ka ka').mono (fun e w' ⟨P1, F1, h1, h2, h3, h4, h5, h6, h7⟩ => ⟨P1, h1, F1, h2, h3, h4, h5, h6, hdr.trans h7⟩)
  have O2 : Hid (∀ w5 P1, (∃ F1, LtAt μ ν ρ F1 No w5 l P1 ∧ LC μ ν ρ F1 No w5 ∧ LfAt u ml mz1 mk1 c1 mz2 mk2 c2 Lb mr B0 L Q μ ν ρ w5 ∧ (∀ g, g < W.heap.size → F1 g = F g) ∧ (∀ g, InF F1 g → B0 ≤ g) ∧ Fr (Three ml mk1 mk2) W w5) → Calls Tryz.prog 48 #[Ptr Lb, Ptr kr] w5 fun e w' => ∃ P2 : Nat, e = .returned (Ptr P2) ∧ Hid (∃ F2, LtAt μ ν ρ F2 No w' l P1 ∧ LtAt μ ν ρ F2 No w' r P2 ∧ LC μ ν ρ F2 No w' ∧ LfAt u ml mz1 mk1 c1 mz2 mk2 c2 Lb mr B0 L Q μ ν ρ w' ∧ (∀ g, g < W.heap.size → F2 g = F g) ∧ (∀ g, InF F2 g → B0 ≤ g) ∧ Fr (Three ml mk1 mk2) W w')) := by
    rintro w5 P1 ⟨F1, h2, h3, h4, h5, h6, h7⟩
    refine (ir w5 kr F1 b b' h4 hkr h3 h6 (Nat.le_trans HLB.out h7.size) kb kb').mono ?_
    rintro e w' ⟨P2, F2, g1, g2, g3, g4, g5, g6, g7⟩
    exact ⟨P2, g1, F2, (h2.grow g5 (fun g t hg => h3.old ⟨t, hg⟩)).fr g7 (fun g ty cs hb _ _ => FAR3.out w5 h4 g ty cs hb), g2, g3, g4, fun g hg => (g5 g (Nat.lt_of_lt_of_le hg h7.size)).trans (h5 g hg), g6, h7.trans g7⟩
  obtain ⟨i0, hi0, hz0, hz1, hz2⟩ := info_parts info_bits
  have bnd : i0.bytes * c ≤ 281474976710656 := by rw [hz2]; omega
  have bnd2 : c ≤ maxLen := by unfold maxLen; omega
  have FIN : Hid (∀ (w6 w7 w8 w9 : World) (P1 P2 R : Nat), (∃ F2, LtAt μ ν ρ F2 No w6 l P1 ∧ LtAt μ ν ρ F2 No w6 r P2 ∧ LC μ ν ρ F2 No w6 ∧ LfAt u ml mz1 mk1 c1 mz2 mk2 c2 Lb mr B0 L Q μ ν ρ w6 ∧ (∀ g, g < W.heap.size → F2 g = F g) ∧ (∀ g, InF F2 g → B0 ≤ g) ∧ Fr (Three ml mk1 mk2) W w6) →
      w7 = (w6.setCell ⟨P, 2, none⟩ (Ptr P1)).setCell ⟨P, 3, none⟩ (Ptr P2) → Fr No w7 w8 → R = w7.heap.size → Blk w8 R 60 (RA (fun _ => 0) c c' 0) → w9 = w8.setCell ⟨P, 4, none⟩ (.slice (some ⟨R, 0, none⟩) c c) →
      OfLP u ml mz1 mk1 c1 mz2 mk2 c2 Lb mr B0 L Q μ ν ρ F (.n f l r) w (.returned (Ptr P)) w9) := by
    rintro w6 w7 w8 w9 P1 P2 R ⟨F2, h1, h2, h3, h4, h5, h6, h7⟩ e7 hf8 eR hR e9
    obtain ⟨_, _, hP6, hfl6, hfr6⟩ := SS.out w6 h7
    have hf67 : Fr (One P) w6 w7 := by rw [e7]; exact ((Fr.refl (One P) w6).setCell (p := ⟨P, 2, none⟩) (.inl rfl) _).setCell (p := ⟨P, 3, none⟩) (.inl rfl) _
    have hP7 : Blk w7 P 57 #[Ptr gl, Ptr gr, Ptr P1, Ptr P2, .slice none 0 0] := by rw [e7]; exact (hP6.set_ 2 (Ptr P1)).set_ 3 (Ptr P2)
    have hP8 := hP7.fr hf8 (fun h => h)
    have hf89 : Fr (One P) w8 w9 := by rw [e9]; exact (Fr.refl (One P) w8).setCell (p := ⟨P, 4, none⟩) (.inl rfl) _
    have hP9 : Blk w9 P 57 #[Ptr gl, Ptr gr, Ptr P1, Ptr P2, .slice (some ⟨R, 0, none⟩) c c] := by rw [e9]; exact hP8.set_ 4 _
    have hf69 : Fr (One P) w6 w9 := (hf67.trans (hf8.mono (fun _ _ h => h.elim))).trans hf89
    have hR9 : Blk w9 R 60 (RA (fun _ => 0) c c' 0) := hR.fr hf89 (fun e => by have e : R = P := e; rw [e] at hR; exact absurd (hR.eq hP8).1 (by decide))
    have hRlo : w6.heap.size ≤ R := by rw [eR]; exact hf67.size
    have hL9 := h3.cell hP6 hTZP hf69
    have hFR : ∀ g, g < w6.heap.size → (fun g => if g = R then some (Ty.n f l r) else F2 g) g = F2 g := fun g hg => by
      have : g ≠ R := by omega
      simp [this]
    have hWR : W.heap.size ≤ R := Nat.le_trans h7.size hRlo
    have nt : ∀ g ty cs', Blk w6 g ty cs' → ty ≠ 57 → ¬ One P g := fun g ty cs' hg ht e => by
      have e : g = P := e
      subst e
      exact ht (hg.eq hP6).1
    have fs : ∀ g a b d, FsAt w6 g f a b d → FsAt w9 g f a b d := fun g a b d ⟨gl, gr, sz, s1, z1, p1, q1, s2, z2, p2, q2, h1, h2, h3⟩ => ⟨gl, gr, sz, s1, z1, p1, q1, s2, z2, p2, q2, h1.fr hf69 (nt _ _ _ h1 (by decide)), h2.fr hf69 (nt _ _ _ h2 (by decide)), h3.fr hf69 (nt _ _ _ h3 (by decide))⟩
    refine ⟨P, fun g => if g = R then some (.n f l r) else F2 g, rfl, ⟨gl, gr, P1, P2, R, a, b, c, a', b', c', kn_cnt ka, kn_cnt kb, hkc, kn_cnt ka', kn_cnt kb', hkc', hP9, fs _ _ _ _ hfl6, fs _ _ _ _ hfr6, by simp, ?_, ?_⟩, ?_, h4.cell hL hP6 hownP hf69, ?_, ?_, ?_⟩
    · exact (h1.grow hFR (fun g t hg => h3.old ⟨t, hg⟩)).cell hP6 rfl hf69
    · exact (h2.grow hFR (fun g t hg => h3.old ⟨t, hg⟩)).cell hP6 rfl hf69
    · refine ⟨fun g t hg => ?_, hL9.tz, ?_⟩
      · by_cases e : g = R
        · simp only [e, if_true] at hg
          injection hg with hg
          subst hg
          refine ⟨c, c', _, hkc, hkc', by rw [e]; exact hR9, by simp [RA], fun i v hv => .inl ?_⟩
          have hi : i < c := by
            have := (Array.getElem?_eq_some_iff.1 hv).1
            simpa [RA] using this
          rw [RA_at hi, if_neg (Nat.not_lt_zero _)] at hv
          injection hv with hv
          exact hv.symm
        · simp only [e, if_false] at hg
          exact hL9.kept g t hg
      · have : 0 ≠ R := by have := hL1.tz.1; have := FW.out _ this; omega
        simp only [this, if_false]
        exact h3.tzF
    · intro g hg
      have h := FW.out g hg
      have : g ≠ R := by omega
      simp only [this, if_false]
      exact h5 g h
    · rintro g ⟨t, ht⟩
      by_cases e : g = R
      · have := HLB.out; omega
      · simp only [e, if_false] at ht
        exact h6 g ⟨t, ht⟩
    · exact (hFrW4.trans h7).then_ hf69 (fun i hi e => by have e : i = P := e; have := HW34.out.2; omega)
  have HBND := Lib.hid bnd
  have SG : Hid (∀ w', FsAt w' gl f a b c → w'.cell? ⟨gl, 2, none⟩ = some (.int .i64 c)) := fun w' ⟨gl, gr, sz, s1, z1, p1, q1, s2, z2, p2, q2, h1, _, _⟩ => (h1.cell 2).trans rfl
  obtain ⟨y2, y3, yP, _, _⟩ := SS.out W (Fr.refl _ _)
  have z0 : W.cell? ⟨P, 0, none⟩ = some (Ptr gl) := (yP.cell 0).trans rfl
  have z1 : W.cell? ⟨P, 1, none⟩ = some (Ptr gr) := (yP.cell 1).trans rfl
  clear yP
  have hPp : P ≠ p := fun e => hpn e.symm
  have hcI : (c : Int) ≤ 4096 := by omega
  clear hS hp hL1 hF0 hB0 hc hc' hkc hkc' il ir hkl hkr hP hsz4 hS4 hL4 hfl4 hfr4 hFrW4 hdr bnd ka kb ka' kb'
  go_wp2_with fail
  refine (compound_yes _ _ _ _ _ _ _ _ HN4.out).mono ?_
  rintro e w' ⟨rfl, rfl⟩
  go_wp2_with fail
  go_region_held3 (fun w' => w'.cell? ⟨p, 2, none⟩ = some (Ptr kl) ∧ w'.cell? ⟨p, 3, none⟩ = some (Ptr kr)) (go_keep)
    (first | (go_at_call 48; ((with_reducible refine O1.out.mono ?_); rintro e w5 ⟨P1, rfl, H5⟩; obtain ⟨F1, _, _, _, _, _, h7⟩ := H5.out; obtain ⟨t2, t3, _, _, _⟩ := SS.out w5 h7; clear h7)) | (go_at_call 48; ((with_reducible refine (O2.out w5 P1 H5.out).mono ?_); rintro e w6 ⟨P2, rfl, H6⟩; obtain ⟨F2, _, _, _, _, _, _, h7⟩ := H6.out; obtain ⟨r2, r3, r4, r5, _⟩ := SS.out w6 h7; have q2 : w6.cell? ⟨P, 2, none⟩ = some (.pointer none) := (r4.cell 2).trans rfl; have q3 : w6.cell? ⟨P, 3, none⟩ = some (.pointer none) := (r4.cell 3).trans rfl; have q4 := r4.frozen 2; have q5 := r4.frozen 3; have q6 := r4.lt; have R4 := Lib.hid r4; have R5 := Lib.hid r5; clear h7 r4 r5)))
  have hf67 : Fr (One P) w6 ((w6.setCell ⟨P, 2, none⟩ (Ptr P1)).setCell ⟨P, 3, none⟩ (Ptr P2)) := ((Fr.refl (One P) w6).setCell (p := ⟨P, 2, none⟩) (.inl rfl) _).setCell (p := ⟨P, 3, none⟩) (.inl rfl) _
  have hP7 : Blk ((w6.setCell ⟨P, 2, none⟩ (Ptr P1)).setCell ⟨P, 3, none⟩ (Ptr P2)) P 57 #[Ptr gl, Ptr gr, Ptr P1, Ptr P2, .slice none 0 0] := (R4.out.set_ 2 (Ptr P1)).set_ 3 (Ptr P2)
  have x0 : ((w6.setCell ⟨P, 2, none⟩ (Ptr P1)).setCell ⟨P, 3, none⟩ (Ptr P2)).cell? ⟨P, 0, none⟩ = some (Ptr gl) := (hP7.cell 0).trans rfl
  have hglP : gl ≠ P := fun e => by
    obtain ⟨_, _, _, _, _, _, _, _, _, _, _, h1, _⟩ := R5.out
    rw [e] at h1
    exact absurd (h1.eq R4.out).1 (by decide)
  have hPgl : P ≠ gl := fun e => hglP e.symm
  have x1 := SG.out w6 R5.out
  have x2 : w6.cell? ⟨P, 0, none⟩ = some (Ptr gl) := (R4.out.cell 0).trans rfl
  have HP7 := Lib.hid hP7
  clear hf67 hP7 x0 r2 r3 q2 q3 q4 q5 q6 y2 y3 z0 z1 t2 t3 O1 O2
  go_wp2_with (at_make; refine wpList_make_full _ rfl _ _ 55 rfl ((w6.setCell ⟨P, 2, none⟩ (Ptr P1)).setCell ⟨P, 3, none⟩ (Ptr P2)).heap.size 60 i0 (.slice none 0 0) 1 Tryz.underlying55 hi0 hz0 hz1 .i64 .i64 c c c rfl rfl rfl rfl HBND.out bnd2 (Nat.le_refl _) ?_; intro w8 hown hgrow; have hf8 : Fr No ((w6.setCell ⟨P, 2, none⟩ (Ptr P1)).setCell ⟨P, 3, none⟩ (Ptr P2)) w8 := (Fr.refl No ((w6.setCell ⟨P, 2, none⟩ (Ptr P1)).setCell ⟨P, 3, none⟩ (Ptr P2))).grown hgrow (fun k hk => by cases hk); have hP8 := HP7.out.fr hf8 (fun h => h); have g4 : w8.cell? ⟨P, 4, none⟩ = some (.slice none 0 0) := (hP8.cell 4).trans rfl; have g5 : w8.frozen? ⟨P, 4, none⟩ = false := hP8.frozen 4; have g6 := hP8.lt)
  have hR8 : Blk w8 ((w6.setCell ⟨P, 2, none⟩ (Ptr P1)).setCell ⟨P, 3, none⟩ (Ptr P2)).heap.size 60 (RA (fun _ => 0) c c' 0) := by
    have h := Blk.of_own hown
    rw [Nat.mul_one, RA_zero (fun _ => 0) c c'] at h
    exact h
  have hsz7 : ((w6.setCell ⟨P, 2, none⟩ (Ptr P1)).setCell ⟨P, 3, none⟩ (Ptr P2)).heap.size = w6.heap.size := by simp [World.setCell]
  rw [hsz7] at hR8
  have HE := Lib.hid (FIN.out w6 _ w8 _ P1 P2 _ H6.out rfl hf8 hsz7.symm hR8 rfl)
  clear hown hgrow hf8 hP8 hR8 FIN
  go_ret
  exact HE.out

theorem ofl_any (hL : Lead u ml own L Q) (hN : ∀ w p t, Q w → L p t → Nd w L p t) (hW : ∀ w b, Q w → own b → b < w.heap.size) (hO : LfOk ml mz1 mk1 mz2 mk2 mr own μ ν) (hμ : Sizes μ) (t : Ty) : OfLSaid u ml mz1 mk1 c1 mz2 mk2 c2 Lb mr B0 L Q μ ν ρ t := by
  induction t with
  | v i => exact ofl_v hL hN hW hO i
  | o => exact ofl_o hL hN hW hO
  | n f l r hl hr => exact ofl_n hL hN hW hO hμ f l r hl hr
end
/-- a counter with nothing in it -/
theorem cs_made {w w' : World} {u ml mz : Nat} {L : Nat → Ty → Prop} {Q : World → Prop} {μ : Nat → Option Nat} (hz : SzAt w mz μ) (hq : Q w') (h : (w.alloc (.map #[] 0)).alloc (.cells #[Ptr u, .map (some mz), .map (some w.heap.size)] 138) = w') : CsAt u ml mz w.heap.size (w.heap.size + 1) L Q μ w' ∧ Fr No w w' := by
  have hf : Fr No w w' := by subst h; exact ((Fr.refl No w).alloc _).alloc _
  refine ⟨⟨hq, by subst h; exact Blk.new_at _ _ _ (by simp), hz.fr hf (fun h => h), 0, fun _ => none, ?_, fun p v h => by cases h⟩, hf⟩
  subst h
  exact (MapAt.made w _).keep (Below.heap_alloc _ _ _ (by simp))

theorem SetV.ptr {w : World} {μ : Nat → Option Nat} {t : Ty} {v : Value} (h : SetV w μ t v) : ∃ a : Option Addr, v = .pointer a := by
  rcases hk : t.kn μ with _ | c
  · exact ⟨none, h.none_ hk⟩
  · obtain ⟨g, x, y, e, _⟩ := h.some_ hk
    exact ⟨_, e⟩

theorem Fresh.no {q m : Nat} {ps : List Nat} {D : List Ty} {u ml ms : Nat} {w w' : World} (h : Fresh q m ps D u ml ms w) (hf : Fr No w w') : Fresh q m ps D u ml ms w' :=
  ⟨h.pool.fr hf (fun h => h) (fun h => h) (fun _ _ h => h), h.blk.fr hf (fun h => h), h.map.keep (hf.block ml h.map.lt (fun h => h))⟩

theorem fresh_nd {q m : Nat} {ps : List Nat} {D : List Ty} {u ml ms : Nat} (w : World) (p : Nat) (t : Ty) (hQ : Fresh q m ps D u ml ms w) (hp : Has ps D t p) : Nd w (fun p t => Has ps D t p) p t := by
  obtain ⟨x, y, i, hb, hk⟩ := hp.blk hQ.pool
  refine ⟨num t, x, y, t.size, i, hb, ?_⟩
  cases t with
  | v j => exact ⟨rfl, hk⟩
  | o => exact hk
  | n f l r =>
    obtain ⟨il, ir, pl, pr, h1, h2, h3, h4, h5, h6⟩ := hk
    exact ⟨pl, pr, h5, h6, ⟨il, h1, h3⟩, ⟨ir, h2, h4⟩⟩

theorem fresh_own {q m : Nat} {ps : List Nat} {D : List Ty} {u ml ms : Nat} (w : World) (b : Nat) (hQ : Fresh q m ps D u ml ms w) (h : b = q ∨ b = m ∨ b ∈ ps ∨ b = u ∨ b = ml) : b < w.heap.size := by
  have hl := hQ.pool.low
  have h1 := hQ.blk.lt
  have h2 := hQ.map.lt
  rcases h with h | h | h | h | h
  · omega
  · omega
  · exact hl.2.2 _ h
  · omega
  · omega

end Go.Proofs.YtloecimlimoanaaGreatDoor

