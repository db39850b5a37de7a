/- The related digits of an element: of pairs. · The related digits of an element: of functions. -/
import Derived.Test.YtloecimlimoanaaDoorEld
/- The related digits of an element: of pairs. -/
namespace Go.Proofs.YtloecimlimoanaaDoor
open Go.RowKit Go.ChangeMaps Go.Shelf

theorem digL_at {b k m q : Nat} (h : q ≤ m) (hlt : k < b ^ (m + 1)) : (digL b k m)[q]? = some ((k / b ^ q % b : Nat) : Int) := by
  unfold digL
  by_cases hq : q < m
  · rw [List.getElem?_append_left (by simp [hq]), List.getElem?_map, List.getElem?_range hq]
    rfl
  · have : q = m := by omega
    subst this
    rw [List.getElem?_append_right (by simp)]
    have := dig_last hlt
    unfold dig at this
    rw [List.length_map, List.length_range, Nat.sub_self]
    exact congrArg (fun n : Nat => some (n : Int)) this

section
variable (μ ν : Nat → Option Nat) (ρ : Nat → Nat → Nat → Bool)

/-- what row answers -/
def RowP (F : Cach) (Z : Nat → Prop) (t : Ty) (c' x : Nat) (w : World) (e : Ending) (w' : World) : Prop := ∃ v, e = .returned v ∧ RowZ Z w' c' (relT μ ν ρ t x) v ∧ LC μ ν ρ F Z w' ∧ Fr (InF F) w w'

def RowSaid (F : Cach) (t : Ty) : Prop := ∀ (Z : Nat → Prop) (w : World) (p x c c' : Nat), (∀ g, Z g → g < w.heap.size) → LC μ ν ρ F Z w → LtAt μ ν ρ F Z w t p → t.cnt μ = some c → t.cnt ν = some c' → x < c →
  Calls Tryd.prog 55 #[Ptr p, .int .i64 x] w fun e w' => RowP μ ν ρ F Z t c' x w e w'

/-- what relatedDigits answers -/
def RdP (F : Cach) (Z : Nat → Prop) (Ds : List (Nat → Bool)) (m : Nat → Nat) (w : World) (e : Ending) (w' : World) : Prop := ∃ G, e = .returned (.slice (some ⟨G, 0, none⟩) Ds.length Ds.length) ∧ DsAt w' G Ds m ∧ LC μ ν ρ F Z w' ∧ Fr (InF F) w w'

/-- the sets of the digits of pairs -/
def pairD (l r : Ty) (a' b' b x : Nat) : List (Nat → Bool) := [fun y => decide (y < b') && relT μ ν ρ r (x % b) y, fun y => decide (y < a') && relT μ ν ρ l (x / b) y]
end

section
variable {μ ν : Nat → Option Nat} {ρ : Nat → Nat → Nat → Bool}

theorem RowZ.keepF {F : Cach} {Z : Nat → Prop} {w w' : World} {n : Nat} {P : Nat → Bool} {v : Value} (h : RowZ Z w n P v) (hL : LC μ ν ρ F Z w) (hf : Fr (InF F) w w') : RowZ Z w' n P v := h.fr hf hL.far

theorem LC.not_int {F : Cach} {Z : Nat → Prop} {w : World} (h : LC μ ν ρ F Z w) {g i : Nat} {k : IntKind} {n : Int} (hc : w.cell? ⟨g, i, none⟩ = some (.int k n)) : ¬ InF F g := by
  rintro ⟨t, ht⟩
  obtain ⟨c, c', cs, _, _, hb, _, h5⟩ := h.kept g t ht
  rw [hb.cell] at hc
  rcases h5 i _ hc with e | ⟨_, _, e, _⟩ <;> cases e

set_option maxRecDepth 100000 in
set_option maxHeartbeats 4000000 in
theorem rd_pair (hμ : Sizes μ) (_ : Sizes ν) (F : Cach) (l r : Ty) (hl : RowSaid μ ν ρ F l) (hr : RowSaid μ ν ρ F r) (Z : Nat → Prop) (w : World) (p x a b c a' b' : Nat) (hZ : ∀ g, Z g → g < w.heap.size) (hL : LC μ ν ρ F Z w) (hT : LtAt μ ν ρ F Z w (.n false l r) p)
    (ha : l.cnt μ = some a) (hb : r.cnt μ = some b) (hc : (Ty.n false l r).cnt μ = some c) (ha' : l.cnt ν = some a') (hb' : r.cnt ν = some b') (hx : x < c) :
    Calls Tryd.prog 101 #[Ptr p, .int .i64 x] w fun e w' => RdP μ ν ρ F Z (pairD μ ν ρ l r a' b' b x) (fun j => if j = 0 then b' else a') w e w' := by
  obtain ⟨gl, gr, p1, p2, R, a0, b0, c0, a0', b0', c0', h1, h2, h3, h4, h5, h6, h7, h8, h9, h10, h11, h12⟩ := hT
  rw [ha] at h1; injection h1 with h1; subst h1
  rw [hb] at h2; injection h2 with h2; subst h2
  rw [hc] at h3; injection h3 with h3; subst h3
  rw [ha'] at h4; injection h4 with h4; subst h4
  rw [hb'] at h5; injection h5 with h5; subst h5
  have hcab : c = a * b ∧ c ≤ 4096 := by
    obtain ⟨a1, b1, e1, e2, e3, e4⟩ := Ty.cnt_n hc
    rw [ha] at e1; injection e1 with e1; subst e1
    rw [hb] at e2; injection e2 with e2; subst e2
    exact ⟨e3, e4⟩
  have hbb := r.cnt_bounds hμ b hb
  have hdiv : x / b < a := by rw [Nat.div_lt_iff_lt_mul (by omega)]; omega
  have hmod : x % b < b := Nat.mod_lt _ (by omega)
  have DIG := Lib.hid (digits_pair w gl a b c x hbb.1 hbb.2 (by omega) h8)
  obtain ⟨gll, glr, sz, s1, z1, q1, q2, s2, z2, q3, q4, k1, _, _⟩ := h8
  have d0 : w.cell? ⟨p, 0, none⟩ = some (Ptr gl) := (h7.cell 0).trans rfl
  have k0 : Hid (∀ w', Fr No w w' → w'.cell? ⟨p, 0, none⟩ = some (Ptr gl) ∧ w'.cell? ⟨gl, 0, none⟩ = some (S [42])) := fun w' hf => ⟨((h7.fr hf (fun h => h)).cell 0).trans rfl, ((k1.fr hf (fun h => h)).cell 0).trans rfl⟩
  have CP : Hid (∀ w', Fr (InF F) w w' → w'.cell? ⟨p, 3, none⟩ = some (Ptr p2) ∧ w'.cell? ⟨p, 2, none⟩ = some (Ptr p1)) := fun w' hf => by
    have h := h7.fr hf (hL.far _ _ _ h7 (.inl (by decide)) (fun h => absurd h (by decide)))
    exact ⟨(h.cell 3).trans rfl, (h.cell 2).trans rfl⟩
  have CL : Hid (∀ W, Fr (InF F) w W → LC μ ν ρ F Z W → Calls Tryd.prog 55 #[Ptr p1, .int .i64 ((x / b : Nat) : Int)] W fun e w' => RowP μ ν ρ F Z l a' (x / b) W e w') := fun W hf hLW => hl Z W p1 (x / b) a a' (fun g hg => Nat.lt_of_lt_of_le (hZ g hg) hf.size) hLW (h11.fr hf hL.far) ha ha' hdiv
  have CR : Hid (∀ W, Fr (InF F) w W → LC μ ν ρ F Z W → Calls Tryd.prog 55 #[Ptr p2, .int .i64 ((x % b : Nat) : Int)] W fun e w' => RowP μ ν ρ F Z r b' (x % b) W e w') := fun W hf hLW => hr Z W p2 (x % b) b b' (fun g hg => Nat.lt_of_lt_of_le (hZ g hg) hf.size) hLW (h12.fr hf hL.far) hb hb' hmod
  have HL := Lib.hid hL
  have HFAR := Lib.hid hL.far
  clear h7 k1 h9 h10 h11 h12 hL hl hr hZ
  go_enter Tryd.func101, Tryd.ntmps101
  go_wp2_with fail
  refine DIG.out.mono ?_
  rintro e w1 ⟨G, rfl, hf1, hsl⟩
  obtain ⟨g, o, eA, t0⟩ := hsl 0 _ (show (digL b x 1)[0]? = some ((x % b : Nat) : Int) by simp [digL])
  injection eA with eA; injection eA with e1 e2; subst e1 e2
  obtain ⟨g, o, eA, t1⟩ := hsl 1 _ (show (digL b x 1)[1]? = some ((x / b : Nat) : Int) by simp [digL])
  injection eA with eA; injection eA with e1 e2; subst e1 e2
  have hL1 := HL.out.no hf1
  have hG0 : ¬ InF F G := hL1.not_int t0
  have DG : Hid (∀ w', Fr (InF F) w1 w' → w'.cell? ⟨G, 0, none⟩ = some (.int .i64 ((x % b : Nat) : Int)) ∧ w'.cell? ⟨G, 1, none⟩ = some (.int .i64 ((x / b : Nat) : Int))) := fun w' hf =>
    ⟨(hf.cell (p := ⟨G, 0, none⟩) (block_lt t0) hG0).trans t0, (hf.cell (p := ⟨G, 1, none⟩) (block_lt t1) hG0).trans t1⟩
  obtain ⟨y0, y1⟩ := k0.out w1 hf1
  have hfw1 : Fr (InF F) w w1 := hf1.mono (fun _ _ h => h.elim)
  have hfd : Fr (InF F) w1 w1.drew := (Fr.refl _ w1).drew
  have HFW1 := Lib.hid hfw1
  have CR1 : Hid (Calls Tryd.prog 55 #[Ptr p2, .int .i64 ((x % b : Nat) : Int)] w1.drew fun e w' => ∃ g1 : Nat, e = .returned (.slice (some ⟨g1, 0, none⟩) (nw b') (nw b')) ∧ Hid (RowZ Z w' b' (relT μ ν ρ r (x % b)) (.slice (some ⟨g1, 0, none⟩) (nw b') (nw b')) ∧ LC μ ν ρ F Z w' ∧ Fr (InF F) w1 w')) := (CR.out w1.drew (hfw1.trans hfd) (hL1.no ((Fr.refl No w1).drew))).mono (fun e w' ⟨v, h1, h2, h3, h4⟩ => by
    obtain ⟨g1, ws1, rfl, k1, k2, k3⟩ := h2
    exact ⟨g1, h1, ⟨g1, ws1, rfl, k1, k2, k3⟩, h3, hfd.trans h4⟩)
  have CL1 : Hid (∀ w2, LC μ ν ρ F Z w2 → Fr (InF F) w1 w2 → Calls Tryd.prog 55 #[Ptr p1, .int .i64 ((x / b : Nat) : Int)] w2 fun e w' => ∃ g2 : Nat, e = .returned (.slice (some ⟨g2, 0, none⟩) (nw a') (nw a')) ∧ Hid (RowZ Z w' a' (relT μ ν ρ l (x / b)) (.slice (some ⟨g2, 0, none⟩) (nw a') (nw a')) ∧ LC μ ν ρ F Z w' ∧ Fr (InF F) w2 w')) := fun w2 hl2 hf2 => (CL.out w2 (HFW1.out.trans hf2) hl2).mono (fun e w' ⟨v, h1, h2, h3, h4⟩ => by
    obtain ⟨g1, ws1, rfl, k1, k2, k3⟩ := h2
    exact ⟨g1, h1, ⟨g1, ws1, rfl, k1, k2, k3⟩, h3, h4⟩)
  have SS : Hid (∀ w', Fr (InF F) w1 w' → w'.cell? ⟨p, 3, none⟩ = some (Ptr p2) ∧ w'.cell? ⟨G, 0, none⟩ = some (.int .i64 ((x % b : Nat) : Int)) ∧ w'.cell? ⟨p, 2, none⟩ = some (Ptr p1) ∧ w'.cell? ⟨G, 1, none⟩ = some (.int .i64 ((x / b : Nat) : Int))) := fun w' hf => by
    obtain ⟨h1, h2⟩ := CP.out w' (HFW1.out.trans hf)
    obtain ⟨h3, h4⟩ := DG.out w' hf
    exact ⟨h1, h3, h2, h4⟩
  obtain ⟨u0, u1, u2, u3⟩ := SS.out w1 (Fr.refl _ _)
  have FIN : Hid (∀ (w2 w3 : World) (v1 v2 : Value), (RowZ Z w2 b' (relT μ ν ρ r (x % b)) v1 ∧ LC μ ν ρ F Z w2 ∧ Fr (InF F) w1 w2) → (RowZ Z w3 a' (relT μ ν ρ l (x / b)) v2 ∧ LC μ ν ρ F Z w3 ∧ Fr (InF F) w2 w3) → RdP μ ν ρ F Z (pairD μ ν ρ l r a' b' b x) (fun j => if j = 0 then b' else a') w (.returned (.slice (some ⟨w3.heap.size, 0, none⟩) 2 2)) (w3.alloc (.cells #[v1, v2] 78))) := by
    rintro w2 w3 v1 v2 ⟨r1, l1, f1⟩ ⟨r2, l2, f2⟩
    have r1' := r1.keepF l1 f2
    have hfa : Fr No w3 (w3.alloc (.cells #[v1, v2] 78)) := (Fr.refl No w3).alloc _
    refine ⟨w3.heap.size, rfl, ⟨#[v1, v2], Blk.new _ _ _, rfl, fun j D hD => ?_⟩, l2.no hfa, ((HFW1.out.trans f1).trans f2).trans (hfa.mono (fun _ _ h => h.elim))⟩
    match j, hD with
    | 0, hD =>
      injection hD with hD; subst hD
      exact ⟨v1, rfl, ((r1'.fr hfa (Far.no F Z w3)).row).congr (fun y hy => by simp [hy])⟩
    | 1, hD =>
      injection hD with hD; subst hD
      exact ⟨v2, rfl, ((r2.fr hfa (Far.no F Z w3)).row).congr (fun y hy => by simp [hy])⟩
  clear CR CL CP DG k0 hsl t0 t1 hG0 hL1 hfd hdiv hmod
  generalize x % b = q0 at *
  generalize x / b = q1 at *
  go_wp2_with fail
  clear y0 y1
  go_region_held3 (fun w' => w'.cell? ⟨p, 3, none⟩ = some (Ptr p2) ∧ w'.cell? ⟨G, 0, none⟩ = some (.int .i64 (q0 : Int)) ∧ w'.cell? ⟨p, 2, none⟩ = some (Ptr p1) ∧ w'.cell? ⟨G, 1, none⟩ = some (.int .i64 (q1 : Int))) (go_keep)
    (first | (go_at_call 55; ((with_reducible refine CR1.out.mono ?_); rintro e w2 ⟨v1, rfl, HR1⟩; obtain ⟨g0, g1, g2, g3⟩ := SS.out w2 HR1.out.2.2)) | (go_at_call 55; ((with_reducible refine (CL1.out w2 HR1.out.2.1 HR1.out.2.2).mono ?_); rintro e w3 ⟨v2, rfl, HR2⟩; obtain ⟨j0, j1, j2, j3⟩ := SS.out w3 (HR1.out.2.2.trans HR2.out.2.2); have jl0 := block_lt j0; have jl1 := block_lt j1)))
  go_wp2_with fail
  go_ret
  exact FIN.out _ _ _ _ HR1.out HR2.out
end
end Go.Proofs.YtloecimlimoanaaDoor

/- The related digits of an element: of functions. -/
namespace Go.Proofs.YtloecimlimoanaaDoor
open Go.RowKit Go.ChangeMaps Go.Shelf

attribute [local go_sem] Oper.semAt_some

theorem WV_not {ws : List Nat} {i : Nat} {n : Int} (h : (WV ws)[i]? = some (.int .i64 n)) : False := by
  unfold WV at h
  rw [List.getElem?_toArray, List.getElem?_map] at h
  cases hq : ws[i]? with
  | none => rw [hq] at h; cases h
  | some y => rw [hq] at h; injection h with h; injection h with h; cases h

theorem RowsTo.row {w w' : World} {Rb l r B : Nat} {gs : Nat → Nat} {R : Nat → Nat → Bool} {P : Nat → Bool} (h2 : RowsTo w Rb l r l B gs R) {i : Nat} (hi : i < l) (ha : AddP (gs i) r P w w') : RowsTo w' Rb l r l B gs (fun i' j => if i' = i then P j else R i' j) := by
  obtain ⟨hf, ws, hw, hbits⟩ := ha
  obtain ⟨_, ws0, hw0, _⟩ := h2.each i hi
  have n2 : ¬ One (gs i) Rb := fun e => by
    have e : Rb = gs i := e
    subst e
    exact absurd (h2.rows.eq hw0).1 (by decide)
  refine ⟨h2.rows.fr hf n2, h2.low, fun i' hi' => ?_, h2.inj⟩
  obtain ⟨h3, ws', h4, h5⟩ := h2.each i' hi'
  by_cases e : i' = i
  · subst e
    exact ⟨h3, ws, hw, hbits.congr (fun j _ => by simp)⟩
  · exact ⟨h3, ws', h4.fr hf (fun h => e (h2.inj i' i hi' hi h)), h5.congr (fun j _ => by simp [e])⟩

theorem RowsTo.congr {w : World} {Rb l r j B : Nat} {gs : Nat → Nat} {R Q : Nat → Nat → Bool} (h : RowsTo w Rb l r j B gs R) (hq : ∀ i, i < j → ∀ k, k < r → R i k = Q i k) : RowsTo w Rb l r j B gs Q :=
  ⟨h.rows, h.low, fun i hi => by
    obtain ⟨h3, ws, h4, h5⟩ := h.each i hi
    exact ⟨h3, ws, h4, h5.congr (hq i hi)⟩, h.inj⟩

/-- kept by what changes objects that are no cells of theirs -/
theorem RowsTo.frO {w w' : World} {Rb l r j B : Nat} {gs : Nat → Nat} {R : Nat → Nat → Bool} {T : Nat → Prop} (h : RowsTo w Rb l r j B gs R) (hf : Fr T w w') (hR : ¬ T Rb) (hg : ∀ i, i < j → ¬ T (gs i)) : RowsTo w' Rb l r j B gs R :=
  ⟨h.rows.fr hf hR, h.low, fun i hi => by
    obtain ⟨h3, ws, h4, h5⟩ := h.each i hi
    exact ⟨h3, ws, h4.fr hf (hg i hi), h5⟩, h.inj⟩

/-- a slice is made, in a fence -/
theorem wpListIn_make_full {F : Fence} {n : Nat} {P : Program} (w : World) {ops : Array Oper} {rest : List Oper} {o : Oper} {a : Act} {Q : Exit → Act → World → Prop}
    (hg : o.guard = none) (l c : Operand) (t : TypeId) (hop : o.op = Op.makeSlice t l c)
    (base : Nat) (e : TypeId) (i : TypeInfo) (z : Value) (size : Nat) (h1 : P.underlying t = some (.slice e)) (h2 : P.info? e = some i) (h3 : i.zero = some z) (h4 : i.size = size)
    (kl kc : IntKind) (L C : Int) (m : Nat) (hl : a.eval l = .int kl L) (hc : a.eval c = .int kc C) (hL : L = (m : Int)) (hC : C = (m : Int)) (b2 : i.bytes * m ≤ 281474976710656) (b3 : m ≤ maxLen) (b4 : base ≤ w.heap.size)
    (hK : ∀ w', w'.ownsRow base e size (.slice (some ⟨w.heap.size, 0, none⟩) m m) m (madeCells z.cells (m * size)).toList → w.grownBy w' none → wpListIn F n P ops Q rest (a.put o.dst (.slice (some ⟨w.heap.size, 0, none⟩) m m)) w') :
    wpListIn F n P ops Q (o :: rest) a w := by
  refine wpListIn_plain hg fun K hK' => ?_
  obtain ⟨w', hrun, r1, r2⟩ := run_make_full (P := P) w base t e i z size h1 h2 h3 h4 kl kc m b2 b3 b4
  subst hL
  subst hC
  unfold Oper.wpIn
  refine ⟨?_, ?_⟩
  · simp [Oper.about, hop]
  · rw [Oper.semAt_plain F _ _ (by rw [hop]; intro c hc'; cases hc')]
    simp [execOp, hop, hl, hc, hrun, Result.andThen]
    exact hK' _ _ (hK w' r1 r2)

section
variable (μ ν : Nat → Option Nat) (ρ : Nat → Nat → Nat → Bool)

/-- the sets of the digits of functions -/
def funD (l r : Ty) (a a' b' x : Nat) : List (Nat → Bool) := (List.range a').map fun j d => decide (d < b') && digF μ ν ρ l r x j a d

/-- ahead of a digit -/
structure YI (F : Cach) (Z : Nat → Prop) (w V : World) (N1 : Nat) (l r : Ty) (a' b' x bx Rb : Nat) (gs : Nat → Nat) (i : Nat) (Ds : List Nat) (W : World) : Prop where
  fr : Fr (fun k => InF F k ∨ ∃ j, j < a' ∧ k = gs j) V W
  lc : LC μ ν ρ F Z W
  bx : Blk W bx 73 #[.slice (some ⟨Rb, 0, none⟩) a' a']
  rows : RowsTo W Rb a' b' a' w.heap.size gs (fun j d => digF μ ν ρ l r x j i d)
  nd : Ds.Nodup
  ds : ∀ D, D ∈ Ds → N1 ≤ D ∧ W.heap[D]? = some (.deferred (some []))
  sz : N1 ≤ W.heap.size

/-- between two numbers that a digit's number is related to -/
structure YK (F : Cach) (Z : Nat → Prop) (w V : World) (l r : Ty) (a' b' x bx Rb : Nat) (gs : Nat → Nat) (i : Nat) (Ds : List Nat) (D bt g2 : Nat) (rec : LoopState → Option Code → Loop) (q : Nat) (pre : List Nat) (W : World) : Prop where
  fr : Fr (fun k => InF F k ∨ ∃ j, j < a' ∧ k = gs j) V W
  lc : LC μ ν ρ F Z W
  bx : Blk W bx 73 #[.slice (some ⟨Rb, 0, none⟩) a' a']
  rows : RowsTo W Rb a' b' a' w.heap.size gs (fun j d => digF μ ν ρ l r x j i d && (!pre.contains j || relT μ ν ρ r q d))
  bt : Blk W bt 78 #[.slice (some ⟨g2, 0, none⟩) (nw b') (nw b')]
  set : ∃ ws : List Nat, Blk W g2 127 (WV ws) ∧ BitsIs ws b' (relT μ ν ρ r q)
  lp : W.heap[D + 1]? = some (.loop (rec .ready none))
  df : W.heap[D]? = some (.deferred (some []))
  ds : ∀ D', D' ∈ Ds → W.heap[D']? = some (.deferred (some []))
  sz : D + 2 ≤ W.heap.size
end

section
variable {μ ν : Nat → Option Nat} {ρ : Nat → Nat → Nat → Bool}

set_option maxRecDepth 100000 in
set_option maxHeartbeats 8000000 in
theorem rd_fun (hμ : Sizes μ) (hν : Sizes ν) (F : Cach) (l r : Ty) (hl : RowSaid μ ν ρ F l) (hr : RowSaid μ ν ρ F r) (Z : Nat → Prop) (w : World) (p x a b c a' b' : Nat) (hZ : ∀ g, Z g → g < w.heap.size) (hL : LC μ ν ρ F Z w) (hT : LtAt μ ν ρ F Z w (.n true l r) p)
    (ha : l.cnt μ = some a) (hb : r.cnt μ = some b) (hc : (Ty.n true l r).cnt μ = some c) (ha' : l.cnt ν = some a') (hb' : r.cnt ν = some b') (hx : x < c) :
    Calls Tryd.prog 101 #[Ptr p, .int .i64 x] w fun e w' => RdP μ ν ρ F Z (funD μ ν ρ l r a a' b' x) (fun _ => b') w e w' := by
  obtain ⟨gl, gr, p1, p2, R, a0, b0, c0, a0', b0', c0', h1, h2, h3, h4, h5, h6, h7, h8, h9, h10, h11, h12⟩ := hT
  rw [ha] at h1; injection h1 with h1; subst h1
  rw [hb] at h2; injection h2 with h2; subst h2
  rw [hc] at h3; injection h3 with h3; subst h3
  rw [ha'] at h4; injection h4 with h4; subst h4
  rw [hb'] at h5; injection h5 with h5; subst h5
  have hcab : c = b ^ a ∧ c ≤ 4096 := by
    obtain ⟨a1, b1, e1, e2, e3, e4⟩ := Ty.cnt_n hc
    rw [ha] at e1; injection e1 with e1; subst e1
    rw [hb] at e2; injection e2 with e2; subst e2
    exact ⟨e3, e4⟩
  have hab := l.cnt_bounds hμ a ha
  have hbb := r.cnt_bounds hμ b hb
  have hab' := l.cnt_bounds hν a' ha'
  have hbb' := r.cnt_bounds hν b' hb'
  obtain ⟨am, ham⟩ : ∃ am, a = am + 1 := ⟨a - 1, by omega⟩
  have hxb : x < b ^ (am + 1) := by rw [← ham]; omega
  have DIG := Lib.hid (digits_fun w gl am b c x hbb.1 hbb.2 (by omega) (by omega) (by rw [← ham]; exact h8))
  obtain ⟨gll, glr, sz, s1, z1, q1, q2, s2, z2, q3, q4, k1, _, _⟩ := h8
  obtain ⟨grl, grr, sz', s1', z1', q1', q2', s2', z2', q3', q4', m1, m2, m3⟩ := h9
  have CP : Hid (∀ w', Fr (InF F) w w' → w'.cell? ⟨p, 0, none⟩ = some (Ptr gl) ∧ w'.cell? ⟨p, 1, none⟩ = some (Ptr gr) ∧ w'.cell? ⟨p, 2, none⟩ = some (Ptr p1) ∧ w'.cell? ⟨p, 3, none⟩ = some (Ptr p2) ∧ w'.cell? ⟨gl, 0, none⟩ = some (S [62]) ∧
      w'.cell? ⟨gr, 3, none⟩ = some (Ptr grl) ∧ w'.cell? ⟨gr, 4, none⟩ = some (Ptr grr) ∧ w'.cell? ⟨grl, 2, none⟩ = some (.int .i64 a') ∧ w'.cell? ⟨grr, 2, none⟩ = some (.int .i64 b')) := fun w' hf => by
    have far : ∀ {g ty cs}, Blk w g ty cs → ty ≠ 78 → ty ≠ 127 → Blk w' g ty cs := fun hb h1 h2 => hb.fr hf (hL.far _ _ _ hb (.inl h1) (fun h => absurd h h2))
    have e7 := far h7 (by decide) (by decide)
    have e1 := far k1 (by decide) (by decide)
    have f1 := far m1 (by decide) (by decide)
    have f2 := far m2 (by decide) (by decide)
    have f3 := far m3 (by decide) (by decide)
    exact ⟨(e7.cell 0).trans rfl, (e7.cell 1).trans rfl, (e7.cell 2).trans rfl, (e7.cell 3).trans rfl, (e1.cell 0).trans rfl, (f1.cell 3).trans rfl, (f1.cell 4).trans rfl, (f2.cell 2).trans rfl, (f3.cell 2).trans rfl⟩
  have LOW : Hid (p < w.heap.size ∧ gl < w.heap.size ∧ gr < w.heap.size ∧ grl < w.heap.size ∧ grr < w.heap.size) := ⟨h7.lt, k1.lt, m1.lt, m2.lt, m3.lt⟩
  have HL := Lib.hid hL
  have H11 := Lib.hid h11
  have H12 := Lib.hid h12
  have HRL := Lib.hid hl
  have HTZ : Hid (0 < w.heap.size) := hL.tz.1
  have HOLD : Hid (∀ g, InF F g → g < w.heap.size) := fun g hg => hL.old hg
  have HRR := Lib.hid hr
  have HZ := Lib.hid hZ
  have HDV : Hid (∀ q, x / b ^ q % b < b) := fun q => Nat.mod_lt _ (by omega)
  have HA := Lib.hid ha
  have HB := Lib.hid hb
  have HA' := Lib.hid ha'
  have HB' := Lib.hid hb'
  have HBN : Hid (r.cn μ = b) := by show _ = _; unfold Ty.cn; rw [hb]; rfl
  clear h7 k1 m1 m2 m3 h10 h11 h12 hL hl hr hZ ha hb hc ha' hb' h6
  have HAM := Lib.hid ham
  have HXB := Lib.hid hxb
  have haI : (a : Int) ≤ 4096 := by omega
  have haI' : (a' : Int) ≤ 4096 := by omega
  have hbI' : (b' : Int) ≤ 4096 := by omega
  have haI1 : (1 : Int) ≤ (a' : Int) := by omega
  obtain ⟨i0, hi0, hz0, hz1, hz2⟩ := info_parts info_bits
  have bnd : i0.bytes * a' ≤ 281474976710656 := by rw [hz2]; omega
  have bnd2 : a' ≤ maxLen := by unfold maxLen; omega
  have HBD := Lib.hid bnd
  obtain ⟨u0, u1, u2, u3, u4, u5, u6, u7, u8⟩ := CP.out w (Fr.refl _ _)
  clear bnd ham hxb hcab hx
  refine (callsIn_wide (n := 9)).1 ?_
  refine callsIn_of_wp_marks Tryd.func101 rfl trivial ?_ rfl
  simp only [Tryd.ntmps101, List.size_toArray, List.length_cons, List.length_nil, Nat.reduceAdd, Nat.reduceSub, Array.replicate_succ, Array.replicate_zero, List.push_toArray, List.append_toArray, List.nil_append, List.cons_append]
  gi_wp2_with fail
  refine ⟨trivial, (callsIn_wide.2 DIG.out).mono ?_⟩
  rintro e w1 ⟨G, rfl, hf1, hsl⟩
  rw [← HAM.out]
  have hf1' : Fr (InF F) w w1 := hf1.mono (fun _ _ h => h.elim)
  have HF1 := Lib.hid hf1
  have HSL : Hid (∀ q, q < a → w1.cell? ⟨G, q, none⟩ = some (.int .i64 ((x / b ^ q % b : Nat) : Int))) := fun q hq => by
    have := HAM.out
    obtain ⟨g, o, e, hc⟩ := hsl q _ (digL_at (by omega) HXB.out)
    injection e with e; injection e with e1 e2; subst e1 e2
    simpa using hc
  obtain ⟨u0, u1, u2, u3, u4, u5, u6, u7, u8⟩ := CP.out w1 hf1'
  clear hsl DIG hf1 hf1'
  gi_wp2_with (gi_at_make; refine wpListIn_make_full _ rfl _ _ 73 rfl w1.heap.size 78 i0 (.slice none 0 0) 1 Tryd.underlying73 hi0 hz0 hz1 .i64 .i64 a' a' a' rfl rfl rfl rfl HBD.out bnd2 (Nat.le_refl _) ?_; intro w2 hown hgrow)
  have hb2 : Blk w2 w1.heap.size 78 (RA (fun _ => 0) a' b' 0) := by
    have h := Blk.of_own hown
    rw [Nat.mul_one, RA_zero (fun _ => 0) a' b'] at h
    exact h
  have hf2 : Fr No w1 w2 := (Fr.refl No w1).grown hgrow (fun k hk => by cases hk)
  obtain ⟨Rb, hRb⟩ : ∃ Rb, Rb = w1.heap.size := ⟨_, rfl⟩
  rw [← hRb] at hb2 ⊢
  have hbx : Blk (w2.alloc (.cells #[.slice (some ⟨Rb, 0, none⟩) a' a'] 73)) w2.heap.size 73 #[.slice (some ⟨Rb, 0, none⟩) a' a'] := Blk.new _ _ _
  have hf3 : Fr No w1 (w2.alloc (.cells #[.slice (some ⟨Rb, 0, none⟩) a' a'] 73)) := hf2.alloc _
  have hb3 := hb2.alloc (.cells #[.slice (some ⟨Rb, 0, none⟩) a' a'] 73)
  have HS : Hid (w.heap.size ≤ Rb ∧ Rb < w2.heap.size ∧ w1.heap.size ≤ Rb) := ⟨by rw [hRb]; exact HF1.out.size, hb2.lt, by rw [hRb]; exact Nat.le_refl _⟩
  generalize (w2.alloc (.cells #[.slice (some ⟨Rb, 0, none⟩) a' a'] 73)) = w3 at hbx hf3 hb3 ⊢
  generalize w2.heap.size = bx at *
  have HF3' := Lib.hid hf3
  have HBX := Lib.hid hbx
  have HB3 := Lib.hid hb3
  have c6 : w3.cell? ⟨bx, 0, none⟩ = some (.slice (some ⟨Rb, 0, none⟩) a' a') := (hbx.cell 0).trans rfl
  have FULL : Hid (∀ W, Calls Tryd.prog 130 #[.int .i64 b'] W fun e w' => NewBits b' (fun _ => true) W e w') := fun W => fullBitSet_any W b' hbb'.1 (by omega)
  clear hbx hf3 hb3 hb2 hf2 hown hgrow hRb u0 u1 u2 u3 u4 u5 u6 u7 u8
  gi_wp2_with fail
  gi_loopg [56] a' (fun gk u W => ∃ (j : Nat) (gs : Nat → Nat), j + gk = a' ∧ u = .int .i64 j ∧ Fr No w1 W ∧ Blk W bx 73 #[.slice (some ⟨Rb, 0, none⟩) a' a'] ∧ RowsTo W Rb a' b' j w.heap.size gs (fun _ _ => true))
  case atStart => exact ⟨0, _, by omega, rfl, HF3'.out, HBX.out, HB3.out, HS.out.1, fun i hi => by omega, fun i i' hi => by omega⟩
  case round =>
    obtain ⟨j, gs, hj, rfl, hfr, hbx, hrows⟩ := hrel
    by_cases hlt : j < a'
    · have hfw : Fr No w wr := HF1.out.trans hfr
      have CELL : Hid (∀ w', Fr No wr w' → w'.cell? ⟨bx, 0, none⟩ = some (.slice (some ⟨Rb, 0, none⟩) a' a') ∧ w'.cell? ⟨p, 1, none⟩ = some (Ptr gr) ∧ w'.cell? ⟨gr, 4, none⟩ = some (Ptr grr) ∧ w'.cell? ⟨grr, 2, none⟩ = some (.int .i64 b') ∧ w'.cell? ⟨Rb, j, none⟩ = some (.slice none 0 0) ∧ w'.frozen? ⟨Rb, j, none⟩ = false ∧ Rb < w'.heap.size) := fun w' hf => by
        obtain ⟨_, k1, _, _, _, _, k6, _, k8⟩ := CP.out w' ((hfw.trans hf).mono (fun _ _ h => h.elim))
        exact ⟨((hbx.fr hf (fun h => h)).cell 0).trans rfl, k1, k6, k8, by rw [(hrows.rows.fr hf (fun h => h)).cell j, RA_at hlt, if_neg (Nat.lt_irrefl j)], (hrows.rows.fr hf (fun h => h)).frozen j, (hrows.rows.fr hf (fun h => h)).lt⟩
      have hbxR : bx ≠ Rb := fun e => by rw [e] at hbx; exact absurd (hbx.eq hrows.rows).1 (by decide)
      have FIN : Hid (∀ (g : Nat) (w' : World), NewBits b' (fun _ => true) wr.drew (.returned (.slice (some ⟨g, 0, none⟩) (nw b') (nw b'))) w' → Fr No w1 (w'.setCell ⟨Rb, j, none⟩ (.slice (some ⟨g, 0, none⟩) (nw b') (nw b'))) ∧ Blk (w'.setCell ⟨Rb, j, none⟩ (.slice (some ⟨g, 0, none⟩) (nw b') (nw b'))) bx 73 #[.slice (some ⟨Rb, 0, none⟩) a' a'] ∧ ∃ gs', RowsTo (w'.setCell ⟨Rb, j, none⟩ (.slice (some ⟨g, 0, none⟩) (nw b') (nw b'))) Rb a' b' (j + 1) w.heap.size gs' (fun _ _ => true)) := by
        rintro g w' ⟨g', ws, e, hg, hf, hb, hbi⟩
        injection e with e; injection e with e1; injection e1 with e1; injection e1 with e1; subst e1
        have hf' : Fr No wr w' := (Fr.refl No wr).drew.trans hf
        exact ⟨(hfr.trans hf').setCell (p := ⟨Rb, j, none⟩) (.inr HS.out.2.2) _, (hbx.fr hf' (fun h => h)).far (p := ⟨Rb, j, none⟩) hbxR _, _, hrows.more hlt hf' hg hfw.size hb hbi rfl⟩
      obtain ⟨d0, d1, d2, d3, d4, d5, d6⟩ := CELL.out wr (Fr.refl _ _)
      have hbxR' : Rb ≠ bx := fun e => hbxR e.symm
      obtain ⟨⟨np, npR⟩, ⟨ngr, ngrR⟩, ngrr, ngrrR⟩ : (p ≠ Rb ∧ Rb ≠ p) ∧ (gr ≠ Rb ∧ Rb ≠ gr) ∧ (grr ≠ Rb ∧ Rb ≠ grr) := by have := LOW.out; have := HS.out; refine ⟨⟨?_, ?_⟩, ⟨?_, ?_⟩, ⟨?_, ?_⟩⟩ <;> omega
      have hjI : (j : Int) < (a' : Int) := by omega
      have hdr : Fr No wr wr.drew := (Fr.refl No wr).drew
      have HDR := Lib.hid hdr
      clear hfr hbx hrows hfw c6 hdr
      gi_wp2_with fail
      refine wpIn_wide.2 ?_
      go_region_held3 (fun w' => w'.cell? ⟨bx, 0, none⟩ = some (.slice (some ⟨Rb, 0, none⟩) a' a') ∧ w'.cell? ⟨p, 1, none⟩ = some (Ptr gr) ∧ w'.cell? ⟨gr, 4, none⟩ = some (Ptr grr) ∧ w'.cell? ⟨grr, 2, none⟩ = some (.int .i64 b')) (go_keep)
        (first | (go_at_call 130; ((with_reducible refine (FULL.out _).mono ?_); rintro e w4 ⟨g, ws, rfl, hg, hf, hb, hbi⟩; have HN := Lib.hid (FIN.out g w4 ⟨g, ws, rfl, hg, hf, hb, hbi⟩); obtain ⟨e0, e1, e2, e3, e4, e5, e6⟩ := CELL.out w4 (HDR.out.trans hf); clear hg hf hb hbi)))
      clear FIN CELL
      gi_wp2_with fail
      go_roundg (a' - (j + 1))
      case measure => omega
      case rel =>
        obtain ⟨f1, f2, gs', f3⟩ := HN.out
        exact ⟨j + 1, gs', by omega, by go_num, f1, f2, f3⟩
    · have hjl : j = a' := by omega
      rw [hjl] at hrows
      have hnlt : ¬ (j : Int) < (a' : Int) := by omega
      have hfw : Fr No w wr := HF1.out.trans hfr
      obtain ⟨N1, hN1⟩ : ∃ N1, N1 = wr.heap.size := ⟨_, rfl⟩
      have HZ1 : Hid (∀ g, (Z g ∨ (w.heap.size ≤ g ∧ g < N1)) → g < N1) := fun g hg => by
        rcases hg with h | h
        · have := HZ.out g h; have := hfw.size; omega
        · exact h.2
      have lessZ : ∀ g, g < w.heap.size → (Z g ∨ (w.heap.size ≤ g ∧ g < N1)) → Z g := fun g hg h => by
        rcases h with h | h
        · exact h
        · omega
      have HL1 := (HL.out.less lessZ).no hfw
      have HT1 := Lib.hid ((H11.out.less lessZ).fr hfw (Far.no F _ w))
      have HT2 := Lib.hid ((H12.out.less lessZ).fr hfw (Far.no F _ w))
      have HGS : Hid (∀ k, k < a' → w.heap.size ≤ gs k ∧ gs k < N1) := fun k hk => by
        obtain ⟨h1, ws, h2, _⟩ := hrows.each k hk
        exact ⟨h1, by rw [hN1]; exact h2.lt⟩
      have Y0 : Hid (YI μ ν ρ F (fun g => Z g ∨ (w.heap.size ≤ g ∧ g < N1)) w wr N1 l r a' b' x bx Rb gs 0 [] wr) := ⟨Fr.refl _ _, HL1, hbx, hrows.congr (fun i _ k _ => by rw [digF_zero]), by simp, fun D h => (by cases h), by rw [hN1]; exact Nat.le_refl _⟩
      have HDG : Hid (∀ W, Fr (fun k => InF F k ∨ ∃ j, j < a' ∧ k = gs j) wr W → ∀ q, q < a → W.cell? ⟨G, q, none⟩ = some (.int .i64 ((x / b ^ q % b : Nat) : Int))) := fun W hf q hq => by
        have h1 := (hfr.cell (p := ⟨G, q, none⟩) (block_lt (HSL.out q hq)) (fun h => h)).trans (HSL.out q hq)
        refine (hf.cell (p := ⟨G, q, none⟩) (block_lt h1) ?_).trans h1
        rintro (h | ⟨k, hk, e⟩)
        · exact HL1.not_int h1 h
        · have e : G = gs k := e
          subst e
          obtain ⟨_, ws, h2, _⟩ := hrows.each k hk
          rw [h2.cell] at h1
          exact WV_not h1
      have HFV : Hid (∀ W, Fr (fun k => InF F k ∨ ∃ j, j < a' ∧ k = gs j) wr W → Fr (InF F) w W) := fun W hf => (hfw.mono (fun _ _ h => h.elim)).then_ hf (fun k hk h => by
        rcases h with h | ⟨j, hj, rfl⟩
        · exact h
        · have := (hrows.each j hj).1; omega)
      have FAR : Hid (Far F (fun g => Z g ∨ (w.heap.size ≤ g ∧ g < N1)) (fun k => InF F k ∨ ∃ j, j < a' ∧ k = gs j) wr) := by
        rintro g ty cs hb hty hz (h | ⟨k, hk, rfl⟩)
        · exact HL1.far g ty cs hb hty hz h
        · obtain ⟨_, ws, h2, _⟩ := hrows.each k hk
          exact hz (hb.eq h2).1 (.inr (HGS.out k hk))
      have HRB : Hid (Rb < N1 ∧ w.heap.size ≤ Rb) := ⟨by rw [hN1]; exact hrows.rows.lt, hrows.low⟩
      have HFWR := Lib.hid hfw
      have HN1 := Lib.hid hN1
      clear hfr hbx hrows hfw HL1 lessZ hN1 c6 FULL HSL HF1 HF3' HBX HB3 HL H11 H12 hjl
      gi_wp2_with fail
      refine wpIn_loop_ghost_k (fun gk a'' w' => ∃ (i : Nat) (Ds : List Nat), i + gk = a ∧ YI μ ν ρ F (fun g => Z g ∨ (w.heap.size ≤ g ∧ g < N1)) w wr N1 l r a' b' x bx Rb gs i Ds w' ∧ a'' = { tmps := #[Ptr p, .int .i64 x, a''.tmps.getD 2 undef, a''.tmps.getD 3 undef, .slice none 0 0, .slice (some ⟨G, 0, none⟩) a a, Ptr bx, a''.tmps.getD 7 undef, a''.tmps.getD 8 undef, a''.tmps.getD 9 undef, a''.tmps.getD 10 undef, a''.tmps.getD 11 undef, a''.tmps.getD 12 undef, a''.tmps.getD 13 undef, a''.tmps.getD 14 undef, a''.tmps.getD 15 undef, a''.tmps.getD 16 undef, a''.tmps.getD 17 undef, a''.tmps.getD 18 undef, a''.tmps.getD 19 undef, a''.tmps.getD 20 undef, a''.tmps.getD 21 undef, a''.tmps.getD 22 undef, a''.tmps.getD 23 undef, a''.tmps.getD 24 undef, a''.tmps.getD 25 undef, a''.tmps.getD 26 undef, a''.tmps.getD 27 undef, a''.tmps.getD 28 undef, a''.tmps.getD 29 undef, a''.tmps.getD 30 undef, a''.tmps.getD 31 undef, a''.tmps.getD 32 undef, a''.tmps.getD 33 undef, a''.tmps.getD 34 undef, a''.tmps.getD 35 undef, a''.tmps.getD 36 undef, a''.tmps.getD 37 undef, a''.tmps.getD 38 undef, a''.tmps.getD 39 undef, a''.tmps.getD 40 undef, a''.tmps.getD 41 undef, a''.tmps.getD 42 undef, a''.tmps.getD 43 undef, a''.tmps.getD 44 undef, a''.tmps.getD 45 undef, a''.tmps.getD 46 undef, a''.tmps.getD 47 undef, a''.tmps.getD 48 undef, a''.tmps.getD 49 undef, a''.tmps.getD 50 undef, a''.tmps.getD 51 undef, a''.tmps.getD 52 undef, a''.tmps.getD 53 undef, a''.tmps.getD 54 undef, a''.tmps.getD 55 undef, a''.tmps.getD 56 undef, a''.tmps.getD 57 undef, a''.tmps.getD 58 undef, a''.tmps.getD 59 undef, a''.tmps.getD 60 undef, a''.tmps.getD 61 undef, a''.tmps.getD 62 undef, a''.tmps.getD 63 undef, a''.tmps.getD 64 undef, a''.tmps.getD 65 undef, a''.tmps.getD 66 undef, a''.tmps.getD 67 undef, a''.tmps.getD 68 undef, a''.tmps.getD 69 undef, a''.tmps.getD 70 undef, a''.tmps.getD 71 undef, a''.tmps.getD 72 undef, a''.tmps.getD 73 undef, .slice (some ⟨G, 0, none⟩) a a, .int .i64 a, .int .i64 i, a''.tmps.getD 77 undef, a''.tmps.getD 78 undef, a''.tmps.getD 79 undef, a''.tmps.getD 80 undef, a''.tmps.getD 81 undef, a''.tmps.getD 82 undef, a''.tmps.getD 83 undef, a''.tmps.getD 84 undef, a''.tmps.getD 85 undef, a''.tmps.getD 86 undef, a''.tmps.getD 87 undef, a''.tmps.getD 88 undef, a''.tmps.getD 89 undef, a''.tmps.getD 90 undef, a''.tmps.getD 91 undef, a''.tmps.getD 92 undef, a''.tmps.getD 93 undef, a''.tmps.getD 94 undef, a''.tmps.getD 95 undef, a''.tmps.getD 96 undef, a''.tmps.getD 97 undef, a''.tmps.getD 98 undef, a''.tmps.getD 99 undef, a''.tmps.getD 100 undef, a''.tmps.getD 101 undef, a''.tmps.getD 102 undef], defers := marksD Ds }) a ?start ?round
      case start => exact ⟨0, [], by omega, Y0.out, rfl⟩
      case round =>
        intro gk A X hinv J K hJ hK
        obtain ⟨i, Ds, hgk, hyi, hA⟩ := hinv
        obtain ⟨qq, hA⟩ : ∃ qq : Nat → Value, A = { tmps := #[Ptr p, .int .i64 x, qq 2, qq 3, .slice none 0 0, .slice (some ⟨G, 0, none⟩) a a, Ptr bx, qq 7, qq 8, qq 9, qq 10, qq 11, qq 12, qq 13, qq 14, qq 15, qq 16, qq 17, qq 18, qq 19, qq 20, qq 21, qq 22, qq 23, qq 24, qq 25, qq 26, qq 27, qq 28, qq 29, qq 30, qq 31, qq 32, qq 33, qq 34, qq 35, qq 36, qq 37, qq 38, qq 39, qq 40, qq 41, qq 42, qq 43, qq 44, qq 45, qq 46, qq 47, qq 48, qq 49, qq 50, qq 51, qq 52, qq 53, qq 54, qq 55, qq 56, qq 57, qq 58, qq 59, qq 60, qq 61, qq 62, qq 63, qq 64, qq 65, qq 66, qq 67, qq 68, qq 69, qq 70, qq 71, qq 72, qq 73, .slice (some ⟨G, 0, none⟩) a a, .int .i64 a, .int .i64 i, qq 77, qq 78, qq 79, qq 80, qq 81, qq 82, qq 83, qq 84, qq 85, qq 86, qq 87, qq 88, qq 89, qq 90, qq 91, qq 92, qq 93, qq 94, qq 95, qq 96, qq 97, qq 98, qq 99, qq 100, qq 101, qq 102], defers := marksD Ds } := ⟨fun k => A.tmps.getD k undef, hA⟩
        subst hA
        have HY := Lib.hid hyi
        clear hyi Y0
        by_cases hlt : i < a
        · have hiI : (i : Int) < (a : Int) := by omega
          obtain ⟨q, hq⟩ : ∃ q, q = x / b ^ i % b := ⟨_, rfl⟩
          have cG : X.cell? ⟨G, i, none⟩ = some (.int .i64 q) := by rw [hq]; exact HDG.out X HY.out.fr i hlt
          have hqb : q < b := by rw [hq]; exact HDV.out i
          have hfwX := HFV.out X HY.out.fr
          obtain ⟨u0, u1, u2, u3, u4, u5, u6, u7, u8⟩ := CP.out X hfwX
          have CR : Hid (Calls Tryd.prog 55 #[Ptr p2, .int .i64 (q : Int)] X fun e w' => RowP μ ν ρ F (fun g => Z g ∨ (w.heap.size ≤ g ∧ g < N1)) r b' q X e w') :=
            HRR.out _ X p2 q b b' (fun g hg => Nat.lt_of_lt_of_le (HZ1.out g hg) HY.out.sz) HY.out.lc (HT2.out.fr HY.out.fr FAR.out) HB.out HB'.out hqb
          have HQ := Lib.hid hq
          have HBXG : Hid (w.heap.size ≤ bx) := by have := HS.out; show _ ≤ _; omega
          clear hq hqb hfwX
          gi_wp2_with fail
          refine ⟨trivial, (callsIn_wide.2 CR.out).mono ?_⟩
          rintro e W2 ⟨v2, rfl, ⟨g2, ws2, rfl, hb2, hbi2, hnz2⟩, hL2, hf2⟩
          have nIn : ∀ k, w.heap.size ≤ k → ¬ InF F k := fun k hk h => by have := HOLD.out k h; omega
          have NIN := Lib.hid nIn
          have hfT3 : Fr (fun k => InF F k ∨ ∃ j, j < a' ∧ k = gs j) wr (W2.alloc (.cells #[.slice (some ⟨g2, 0, none⟩) (nw b') (nw b')] 78)) := (HY.out.fr.trans (hf2.mono (fun _ _ h => .inl h))).alloc _
          have hfa : Fr No W2 (W2.alloc (.cells #[.slice (some ⟨g2, 0, none⟩) (nw b') (nw b')] 78)) := (Fr.refl No W2).alloc _
          have hbt3 : Blk (W2.alloc (.cells #[.slice (some ⟨g2, 0, none⟩) (nw b') (nw b')] 78)) W2.heap.size 78 #[.slice (some ⟨g2, 0, none⟩) (nw b') (nw b')] := Blk.new _ _ _
          have hb3 := hb2.fr hfa (fun h => h)
          have hL3 := hL2.no hfa
          have hbx3 := (HY.out.bx.fr hf2 (nIn bx HBXG.out)).fr hfa (fun h => h)
          have hrows3 := (HY.out.rows.frO hf2 (nIn Rb HRB.out.2) (fun k hk => nIn _ (HGS.out k hk).1)).frO hfa (fun h => h) (fun _ _ h => h)
          have hds3 : ∀ D, D ∈ Ds → (W2.alloc (.cells #[.slice (some ⟨g2, 0, none⟩) (nw b') (nw b')] 78)).heap[D]? = some (.deferred (some [])) := fun D hD => by
            have h := HY.out.ds D hD
            have hlt := (Array.getElem?_eq_some_iff.1 h.2).1
            exact (hfa.block D (Nat.lt_of_lt_of_le hlt hf2.size) (fun h => h)).trans ((hf2.block D hlt (nIn D (by have := h.1; have := HFWR.out.size; have := HN1.out; omega))).trans h.2)
          have hbtlo : N1 ≤ W2.heap.size := Nat.le_trans HY.out.sz hf2.size
          have hW3 : N1 ≤ (W2.alloc (.cells #[.slice (some ⟨g2, 0, none⟩) (nw b') (nw b')] 78)).heap.size := Nat.le_trans hbtlo hfa.size
          obtain ⟨v0, v1, v2, v3, v4, v5, v6, v7, v8⟩ := CP.out _ (HFV.out _ hfT3)
          clear u0 u1 u2 u3 u4 u5 u6 u7 u8 cG CR
          gi_wp2_with fail
          clear v0 v1 v2 v3 v4 v5 v6 v7 v8
          generalize (W2.alloc (.cells #[.slice (some ⟨g2, 0, none⟩) (nw b') (nw b')] 78)) = W3 at hfT3 hfa hbt3 hb3 hL3 hbx3 hrows3 hds3 hW3 ⊢
          generalize W2.heap.size = bt at *
          have CL : Hid (Calls Tryd.prog 55 #[Ptr p1, .int .i64 (i : Int)] W3 fun e w' => RowP μ ν ρ F (fun g => Z g ∨ (w.heap.size ≤ g ∧ g < N1)) l a' i W3 e w') :=
            HRL.out _ W3 p1 i a a' (fun g hg => Nat.lt_of_lt_of_le (HZ1.out g hg) hW3) hL3 (HT1.out.fr hfT3 FAR.out) HA.out HA'.out hlt
          have HFT3 := Lib.hid hfT3
          have HBT3 := Lib.hid hbt3
          have HB3' := Lib.hid hb3
          have HBX3 := Lib.hid hbx3
          have HR3 := Lib.hid hrows3
          have HD3 := Lib.hid hds3
          have HBI2 := Lib.hid hbi2
          have HL3 := Lib.hid hL3
          have HNZ2 := Lib.hid hnz2
          have HX3 : Hid (X.heap.size ≤ W3.heap.size) := Nat.le_trans hf2.size hfa.size
          have HW3 : Hid (N1 ≤ W3.heap.size ∧ N1 ≤ bt) := ⟨hW3, hbtlo⟩
          clear hfT3 hfa hbt3 hb3 hL3 hbx3 hrows3 hds3 hbi2 hnz2 hb2 hL2 hf2 hbtlo hW3 nIn
          refine ⟨trivial, (callsIn_wide.2 CL.out).mono ?_⟩
          rintro e W4 ⟨v1', rfl, ⟨g1, ws1, rfl, hb1, hbi1, hnz1⟩, hL4, hf4⟩
          have hfT4 : Fr (fun k => InF F k ∨ ∃ j, j < a' ∧ k = gs j) wr W4 := HFT3.out.trans (hf4.mono (fun _ _ h => .inl h))
          have hbt4 := HBT3.out.fr hf4 (NIN.out bt (by have := HW3.out.2; have := HFWR.out.size; have := HN1.out; omega))
          have hb4 : Blk W4 g2 127 (WV ws2) := HB3'.out.fr hf4 (HL3.out.far _ _ _ HB3'.out (.inl (by decide)) (fun _ => HNZ2.out))
          have hbx4 := HBX3.out.fr hf4 (NIN.out bx HBXG.out)
          have hrows4 := HR3.out.frO hf4 (NIN.out Rb HRB.out.2) (fun k hk => NIN.out _ (HGS.out k hk).1)
          have hds4 : ∀ D, D ∈ Ds → W4.heap[D]? = some (.deferred (some [])) := fun D hD => by
            have h := HD3.out D hD
            have hlo := (HY.out.ds D hD).1
            exact (hf4.block D (Array.getElem?_eq_some_iff.1 h).1 (NIN.out D (by have := HFWR.out.size; have := HN1.out; omega))).trans h
          have HBI1 := Lib.hid hbi1
          have HNZ1 := Lib.hid hnz1
          have HB1 := Lib.hid hb1
          have HSX : Hid (X.heap.size ≤ W4.heap.size) := by show _ ≤ _; exact Nat.le_trans HX3.out hf4.size
          have HW4 : Hid (N1 ≤ W4.heap.size ∧ bt < W4.heap.size ∧ N1 ≤ bt) := ⟨Nat.le_trans HW3.out.1 hf4.size, hbt4.lt, HW3.out.2⟩
          clear CL
          gi_wp2_with fail
          refine rf_stmt1 rfl (by decide) (gf := 64) (fa := #[.slice (some ⟨g1, 0, none⟩) (nw a') (nw a')]) rfl trivial (enters_of Tryd.func64 (by kernel_rfl) rfl) ?_
          intro fn D rec hf hD hrec W5 hW5
          have HREC := Lib.hid hrec
          have hD1 : W5.heap.size = D + 2 := by rw [hW5, hD]; simp
          have hf5 : Fr No W4 W5 := by rw [hW5]; exact ((Fr.refl _ _).alloc _).alloc _
          have hl1 : W5.heap[D + 1]? = some (.loop (rec .ready none)) := by
            rw [hW5]
            have := World.alloc_heap_new (W4.alloc (.deferred (some []))) (.loop (rec .ready none))
            rwa [World.size_alloc, ← hD] at this
          have hd1 : W5.heap[D]? = some (.deferred (some [])) := by
            rw [hW5, hD]
            exact (Below.heap_alloc _ _ _ (by simp)).trans (World.alloc_heap_new W4 _)
          have HDW : Hid (N1 ≤ D ∧ bt < D) := by have := HW4.out; exact ⟨by omega, by omega⟩
          clear hrec hW5
          have hT5 : TZt W5 := (hL4.no hf5).tz
          have K0 : YK μ ν ρ F (fun g => Z g ∨ (w.heap.size ≤ g ∧ g < N1)) w wr l r a' b' x bx Rb gs i Ds D bt g2 rec q [] W5 :=
            ⟨hfT4.trans (hf5.mono (fun _ _ h => h.elim)), hL4.no hf5, hbx4.fr hf5 (fun h => h), (hrows4.frO hf5 (fun h => h) (fun _ _ h => h)).congr (fun j _ d _ => by simp), hbt4.fr hf5 (fun h => h), ⟨ws2, hb4.fr hf5 (fun h => h), HBI2.out⟩, hl1, hd1, fun D' hD' => (hf5.block D' (Array.getElem?_eq_some_iff.1 (hds4 D' hD')).1 (fun h => h)).trans (hds4 D' hD'), by omega⟩
          have hb15 := hb1.fr hf5 (fun h => h)
          have HG1D : Hid (g1 ≠ D + 1) := hb15.ne_of hl1 (fun _ h => by cases h)
          refine (numbers_in Fence.wide 8 (fun _ => trivial) rfl (fun _ _ _ _ _ h => callsIn_wide.2 h) (by decide) (D + 1) g1 (fun k => (∃ j, j < a' ∧ k = gs j) ∨ k = D + 1) ws1 a' (YK μ ν ρ F (fun g => Z g ∨ (w.heap.size ≤ g ∧ g < N1)) w wr l r a' b' x bx Rb gs i Ds D bt g2 rec q) ?inner W5 HBI1.out.len (by omega) HBI1.out.lt K0 hb15 hT5 ?nS ?nT).mono ?_
          case nS =>
            rintro (⟨k, hk, e⟩ | h)
            · exact HNZ1.out (.inr (by rw [e]; exact HGS.out k hk))
            · exact HG1D.out h
          case nT =>
            have := HTZ.out
            rintro (⟨k, hk, e⟩ | h)
            · have := (HGS.out k hk).1; omega
            · have := HDW.out; have := HFWR.out.size; have := HN1.out; omega
          case inner =>
            intro pre y V hex hj
            have hy : y < a' ∧ relT μ ν ρ l i y = true := by
              obtain ⟨post, e⟩ := hex
              rw [HBI1.out.list] at e
              exact elems_mem.1 (by rw [← e]; simp)
            have HK := Lib.hid hj
            have HYY := Lib.hid hy
            clear hj hex hf5 hl1 hd1 K0 hb15 hT5 hD hD1 hL4 hf4 hb1 hbi1 hnz1 hfT4 hbt4 hb4 hbx4 hrows4 hds4 hy
            refine rf_round HREC.out hf HK.out.lp rfl ?_
            gi_wp2_with fail
            refine ⟨_, rf_begin HREC.out HK.out.lp, ?_⟩
            have hfp : Fr (fun k => k = D + 1) V (V.putObj (D + 1) (.loop (rec .busy none))) := Fr.putObj _ _
            have hlt2 : D + 1 < V.heap.size := by have := HK.out.sz; omega
            have nb : ∀ {g ty cs}, Blk V g ty cs → ¬ (g = D + 1) := fun hb => hb.ne_of HK.out.lp (fun _ h => by cases h)
            have hbx2 := HK.out.bx.fr hfp (nb HK.out.bx)
            have hbt2 := HK.out.bt.fr hfp (nb HK.out.bt)
            have hrw2 := HK.out.rows.frO hfp (nb HK.out.rows.rows) (fun k hk => by obtain ⟨_, ws, h2, _⟩ := HK.out.rows.each k hk; exact nb h2)
            obtain ⟨wq, hwq0, hbq⟩ := HK.out.set
            have hwq := hwq0.fr hfp (nb hwq0)
            have hL2 : LC μ ν ρ F (fun g => Z g ∨ (w.heap.size ≤ g ∧ g < N1)) (V.putObj (D + 1) (.loop (rec .busy none))) := HK.out.lc.fr hfp (fun g ty cs hb _ _ h => nb hb h) (fun g hg h => by have := HOLD.out g hg; have := HDW.out; have := HFWR.out.size; have := HN1.out; omega) (fun h => by have := HTZ.out; have := HDW.out; have := HFWR.out.size; have := HN1.out; omega)
            have hlp2 : (V.putObj (D + 1) (.loop (rec .busy none))).heap[D + 1]? = some (.loop (rec .busy none)) := World.putObj_heap_same hlt2
            have hdp2 : (V.putObj (D + 1) (.loop (rec .busy none))).heap[D]? = some (.deferred (some [])) := (World.putObj_heap_other (by omega)).trans HK.out.df
            have hdsn : ∀ D', D' ∈ Ds → D' ≠ D + 1 := fun D' hD' e => by have h := HK.out.ds D' hD'; rw [e, HK.out.lp] at h; cases h
            have hds2 : ∀ D', D' ∈ Ds → (V.putObj (D + 1) (.loop (rec .busy none))).heap[D']? = some (.deferred (some [])) := fun D' hD' => (World.putObj_heap_other (hdsn D' hD')).trans (HK.out.ds D' hD')
            have hsz2 : (V.putObj (D + 1) (.loop (rec .busy none))).heap.size = V.heap.size := by simp
            have hfw2 : Fr (fun k => InF F k ∨ ∃ j, j < a' ∧ k = gs j) wr (V.putObj (D + 1) (.loop (rec .busy none))) := HK.out.fr.then_ hfp (fun k hk h => by have h : k = D + 1 := h; have := HDW.out; have := HN1.out; omega)
            generalize (V.putObj (D + 1) (.loop (rec .busy none))) = V2 at hfp hbx2 hbt2 hrw2 hwq hL2 hlp2 hdp2 hds2 hsz2 hfw2 ⊢
            obtain ⟨_, wy, hwy, hby⟩ := hrw2.each y HYY.out.1
            have e1 : V2.cell? ⟨bx, 0, none⟩ = some (.slice (some ⟨Rb, 0, none⟩) a' a') := (hbx2.cell 0).trans rfl
            have e2 : V2.cell? ⟨Rb, y, none⟩ = some (.slice (some ⟨gs y, 0, none⟩) (nw b') (nw b')) := by rw [hrw2.rows.cell, RA_at HYY.out.1, if_pos HYY.out.1]
            have e3 : V2.cell? ⟨bt, 0, none⟩ = some (.slice (some ⟨g2, 0, none⟩) (nw b') (nw b')) := (hbt2.cell 0).trans rfl
            have hne : gs y ≠ g2 := fun e => HNZ2.out (.inr (by rw [← e]; exact HGS.out y HYY.out.1))
            have IN : Hid (Calls Tryd.prog 131 #[.slice (some ⟨gs y, 0, none⟩) (nw b') (nw b'), .slice (some ⟨g2, 0, none⟩) (nw b') (nw b')] V2.drew fun e w' => e = .returned (.tuple #[]) ∧ AddP (gs y) b' (fun d => (digF μ ν ρ l r x y i d && (!pre.contains y || relT μ ν ρ r q d)) && relT μ ν ρ r q d) V2 w') :=
              (intersect_any V2.drew (gs y) g2 wy wq b' _ _ hwy hwq hne hby hbq (by omega)).mono (fun e w' h => ⟨h.1, ((Fr.refl _ V2).drew).trans h.2.1, h.2.2⟩)
            have FIN : Hid (∀ w5, AddP (gs y) b' (fun d => (digF μ ν ρ l r x y i d && (!pre.contains y || relT μ ν ρ r q d)) && relT μ ν ρ r q d) V2 w5 →
                (w5.cell? ⟨bx, 0, none⟩ = some (.slice (some ⟨Rb, 0, none⟩) a' a') ∧ w5.cell? ⟨Rb, y, none⟩ = some (.slice (some ⟨gs y, 0, none⟩) (nw b') (nw b')) ∧ w5.cell? ⟨bt, 0, none⟩ = some (.slice (some ⟨g2, 0, none⟩) (nw b') (nw b'))) ∧
                ∀ act : Act, roundPost Tryd.prog (D + 1) (fun e W' => e = .returned (.bool true) ∧ YK μ ν ρ F (fun g => Z g ∨ (w.heap.size ≤ g ∧ g < N1)) w wr l r a' b' x bx Rb gs i Ds D bt g2 rec q (pre ++ [y]) W' ∧ Fr (fun k => (∃ j, j < a' ∧ k = gs j) ∨ k = D + 1) V W') Exit.normal act w5) := by
              intro w5 ha
              have hfa := ha.1
              have nt : ∀ {g ty cs}, Blk V2 g ty cs → ty ≠ 127 → ¬ One (gs y) g := fun hb ht e => by
                have e : _ = gs y := e
                subst e
                exact ht (hb.eq hwy).1
              have hbx5 := hbx2.fr hfa (nt hbx2 (by decide))
              have hbt5 := hbt2.fr hfa (nt hbt2 (by decide))
              have hra := hrw2.row HYY.out.1 ha
              have hwq5 := hwq.fr hfa (fun e => hne (show g2 = gs y from e).symm)
              have hlp5 : w5.heap[D + 1]? = some (.loop (rec .busy none)) := (hfa.block (D + 1) (by omega) (fun e => hwy.ne_of hlp2 (fun _ h => by cases h) (show D + 1 = gs y from e).symm)).trans hlp2
              have hdp5 : w5.heap[D]? = some (.deferred (some [])) := (hfa.block D (by omega) (fun e => hwy.ne_of hdp2 (fun _ h => by cases h) (show D = gs y from e).symm)).trans hdp2
              have hds5 : ∀ D', D' ∈ Ds → w5.heap[D']? = some (.deferred (some [])) := fun D' hD' => (hfa.block D' (Array.getElem?_eq_some_iff.1 (hds2 D' hD')).1 (fun e => hwy.ne_of (hds2 D' hD') (fun _ h => by cases h) (show D' = gs y from e).symm)).trans (hds2 D' hD')
              have hZy : Z (gs y) ∨ (w.heap.size ≤ gs y ∧ gs y < N1) := .inr (HGS.out y HYY.out.1)
              have hL5 : LC μ ν ρ F (fun g => Z g ∨ (w.heap.size ≤ g ∧ g < N1)) w5 := hL2.fr hfa (Far.own hwy hZy) (fun g hg e => by have := HOLD.out g hg; have := (HGS.out y HYY.out.1).1; have e : g = gs y := e; omega) (fun e => by have := HTZ.out; have := (HGS.out y HYY.out.1).1; have e : 0 = gs y := e; omega)
              have hq : Fr (fun k => k = D + 1) w5 (w5.putObj (D + 1) (.loop (rec .ready none))) := Fr.putObj _ _
              have nb5 : ∀ {g ty cs}, Blk w5 g ty cs → ¬ (g = D + 1) := fun hb => hb.ne_of hlp5 (fun _ h => by cases h)
              have hs5 := hfa.size
              have hfS : Fr (fun k => (∃ j, j < a' ∧ k = gs j) ∨ k = D + 1) V (w5.putObj (D + 1) (.loop (rec .ready none))) := ((hfp.mono (fun k _ h => .inr h)).trans (hfa.mono (fun k _ h => .inl ⟨y, HYY.out.1, h⟩))).trans (hq.mono (fun k _ h => .inr h))
              refine ⟨⟨(hbx5.cell 0).trans rfl, by rw [hra.rows.cell, RA_at HYY.out.1, if_pos HYY.out.1], (hbt5.cell 0).trans rfl⟩, fun act => ⟨_, _, rf_end HREC.out none hlp5, rfl, ?_, hfS⟩⟩
              refine ⟨?_, hL5.fr hq (fun g ty cs hb _ _ h => nb5 hb h) (fun g hg h => by have := HOLD.out g hg; have := HDW.out; have := HFWR.out.size; have := HN1.out; omega) (fun h => by have := HTZ.out; have := HDW.out; have := HFWR.out.size; have := HN1.out; omega), hbx5.fr hq (nb5 hbx5), ?_, hbt5.fr hq (nb5 hbt5), ⟨wq, hwq5.fr hq (nb5 hwq5), hbq⟩, World.putObj_heap_same (by omega), (World.putObj_heap_other (by omega)).trans hdp5, fun D' hD' => (World.putObj_heap_other (hdsn D' hD')).trans (hds5 D' hD'), by simp; omega⟩
              · exact HK.out.fr.then_ hfS (fun k hk h => by
                  rcases h with h | h
                  · exact .inr h
                  · have := HDW.out; have := HN1.out; omega)
              · refine (hra.frO hq (nb5 hra.rows) (fun k hk => by obtain ⟨_, ws, h2, _⟩ := hra.each k hk; exact nb5 h2)).congr (fun j hj d hd => ?_)
                by_cases e : j = y
                · subst e
                  rcases digF μ ν ρ l r x j i d <;> rcases relT μ ν ρ r q d <;> simp
                · simp [e]
            have hmix : Tryd.prog.follows .mixedOrders = true := by kernel_rfl
            have hyI : (y : Int) < (a' : Int) := by have := HYY.out.1; omega
            clear hfp hbx2 hbt2 hrw2 hwq0 hwq hbq hL2 hlp2 hdp2 hds2 hdsn hsz2 hfw2 hlt2 nb hwy hby hne
            gi_wp2_with fail
            refine wpIn_region_heldR (S := fun w' => w'.cell? ⟨bx, 0, none⟩ = some (.slice (some ⟨Rb, 0, none⟩) a' a') ∧ w'.cell? ⟨Rb, y, none⟩ = some (.slice (some ⟨gs y, 0, none⟩) (nw b') (nw b')) ∧ w'.cell? ⟨bt, 0, none⟩ = some (.slice (some ⟨g2, 0, none⟩) (nw b') (nw b'))) hmix (by kernel_rfl) ?hLO ⟨e1, e2, e3⟩ (fun hHeld => ?_)
            case hLO =>
              rintro ⟨a0, w0, h⟩
              exact (h : False)
            refine wpAnyH_take (i := 0) (v := ?vz0) (by simp only [List.getElem?_toArray, List.getElem?_cons_zero]; rfl) (by kernel_rfl) (by kernel_rfl) (by kernel_rfl) (by exact fun _ _ _ h => h) (Or.inl ⟨by rfl, ?hyz0⟩) (by assumption) ?restz0
            case hyz0 => (intro w hSw; (try dsimp only at hSw); go_simp; try with_reducible rfl)
            ((try simp only [Act.put]); (try simp only [List.setIfInBounds_toArray]); (try simp only [List.set_cons_succ]); (try simp only [List.set_cons_zero]))
            refine wpAnyH_take (i := 1) (v := ?vz1) (by simp only [List.getElem?_toArray, List.getElem?_cons_succ, List.getElem?_cons_zero]; rfl) (by kernel_rfl) (by kernel_rfl) (by kernel_rfl) (by exact fun _ _ _ h => h) (Or.inl ⟨by rfl, ?hyz1⟩) (by assumption) ?restz1
            case hyz1 => (intro w hSw; (try dsimp only at hSw); go_simp; try with_reducible rfl)
            ((try simp only [Act.put]); (try simp only [List.setIfInBounds_toArray]); (try simp only [List.set_cons_succ]); (try simp only [List.set_cons_zero]))
            refine wpAnyH_take (i := 2) (v := ?vz2) (by simp only [List.getElem?_toArray, List.getElem?_cons_succ, List.getElem?_cons_zero]; rfl) (by kernel_rfl) (by kernel_rfl) (by kernel_rfl) (by exact fun _ _ _ h => h) (Or.inl ⟨by rfl, ?hyz2⟩) (by assumption) ?restz2
            case hyz2 => (intro w hSw; (try dsimp only at hSw); go_simp; try with_reducible rfl)
            ((try simp only [Act.put]); (try simp only [List.setIfInBounds_toArray]); (try simp only [List.set_cons_succ]); (try simp only [List.set_cons_zero]))
            refine wpAnyH_take (i := 3) (v := ?vz3) (by simp only [List.getElem?_toArray, List.getElem?_cons_succ, List.getElem?_cons_zero]; rfl) (by kernel_rfl) (by kernel_rfl) (by kernel_rfl) (by exact fun _ _ _ h => h) (Or.inl ⟨by rfl, ?hyz3⟩) (by assumption) ?restz3
            case hyz3 => (intro w hSw; (try dsimp only at hSw); go_simp; try with_reducible rfl)
            ((try simp only [Act.put]); (try simp only [List.setIfInBounds_toArray]); (try simp only [List.set_cons_succ]); (try simp only [List.set_cons_zero]))
            refine wpAnyH_take (i := 4) (v := ?vz4) (by simp only [List.getElem?_toArray, List.getElem?_cons_succ, List.getElem?_cons_zero]; rfl) (by kernel_rfl) (by kernel_rfl) (by kernel_rfl) (by exact fun _ _ _ h => h) (Or.inl ⟨by rfl, ?hyz4⟩) (by assumption) ?restz4
            case hyz4 => (intro w hSw; (try dsimp only at hSw); go_simp; try with_reducible rfl)
            ((try simp only [Act.put]); (try simp only [List.setIfInBounds_toArray]); (try simp only [List.set_cons_succ]); (try simp only [List.set_cons_zero]))
            refine wpAnyH_ready (rs := [5]) (by kernel_rfl) (by simp) ?_
            refine AllReadyH.cons rfl (fun K hK => ?_) AllReadyH.nil
            go_simp
            (with_reducible refine IN.out.mono ?_)
            rintro e w5 ⟨rfl, ha⟩
            obtain ⟨k1, k2⟩ := FIN.out w5 ha
            refine hK.out _ _ k1 (fun hH8 => ?_)
            clear hK K
            ((try simp only [Act.put]); (try simp only [List.setIfInBounds_toArray]); (try simp only [List.set_cons_succ]); (try simp only [List.set_cons_zero]))
            refine wpAnyH_done (by kernel_rfl) ?_ _
            exact k2 { tmps := #[], defers := [] }
          rintro e V ⟨hv, hj⟩
          refine ⟨hv, .ready, none, (fun h => by cases h), hj.lp, ?_⟩
          have hfp : Fr (fun k => k = D + 1) V (V.putObj (D + 1) (.loop (rec .exhausted none))) := Fr.putObj _ _
          have nb : ∀ {g ty cs}, Blk V g ty cs → ¬ (g = D + 1) := fun hb => hb.ne_of hj.lp (fun _ h => by cases h)
          have hdwo := HDW.out
          have hn1o := HN1.out
          have hfwo := HFWR.out.size
          have htzo := HTZ.out
          have NEXT : Hid (YI μ ν ρ F (fun g => Z g ∨ (w.heap.size ≤ g ∧ g < N1)) w wr N1 l r a' b' x bx Rb gs (i + 1) (D :: Ds) (V.putObj (D + 1) (.loop (rec .exhausted none)))) := by
            refine ⟨hj.fr.then_ hfp (fun k hk h => by have h : k = D + 1 := h; omega), hj.lc.fr hfp (fun g ty cs hb _ _ h => nb hb h) (fun g hg h => by have := HOLD.out g hg; omega) (fun h => by omega), hj.bx.fr hfp (nb hj.bx), ?_, ?_, fun D' hD' => ?_, by have := hj.sz; simp; omega⟩
            · refine (hj.rows.frO hfp (nb hj.rows.rows) (fun k hk => by obtain ⟨_, ws, h2, _⟩ := hj.rows.each k hk; exact nb h2)).congr (fun j hj' d hd => ?_)
              rw [HBI1.out.list, digF_more, HBN.out, ← HQ.out]
              congr 2
              have : (elems a' (relT μ ν ρ l i)).contains j = relT μ ν ρ l i j := by
                apply Bool.eq_iff_iff.2
                rw [List.contains_iff_mem, elems_mem]
                simp [hj']
              rw [this]
            · rw [List.nodup_cons]
              refine ⟨fun hD' => ?_, HY.out.nd⟩
              have h := hj.ds D hD'
              have h2 := (Array.getElem?_eq_some_iff.1 (HY.out.ds D hD').2).1
              have h3 := HSX.out
              omega
            · rcases List.mem_cons.1 hD' with e | hD'
              · subst e
                exact ⟨by omega, (World.putObj_heap_other (by omega)).trans hj.df⟩
              · refine ⟨(HY.out.ds D' hD').1, (World.putObj_heap_other ?_).trans (hj.ds D' hD')⟩
                intro e
                have h := hj.ds D' hD'
                rw [e, hj.lp] at h
                cases h
          show Exit.inBlock 2 _ .normal _ (V.putObj (D + 1) (.loop (rec .exhausted none)))
          generalize (V.putObj (D + 1) (.loop (rec .exhausted none))) = V3 at hfp NEXT ⊢
          clear hv hj hfp nb hf5 hl1 hd1 K0 hb15 hT5 hD hD1 hL4 hf4 hb1 hbi1 hnz1 hfT4 hbt4 hb4 hbx4 hrows4 hds4 hdwo hn1o hfwo htzo
          gi_wp2_with fail
          exact ⟨gk - 1, by omega, hJ _ _ _ ⟨i + 1, D :: Ds, by omega, NEXT.out, rfl⟩⟩
        · have hia : i = a := by omega
          have hnlt : ¬ (i : Int) < (a : Int) := by omega
          have cbx : X.cell? ⟨bx, 0, none⟩ = some (.slice (some ⟨Rb, 0, none⟩) a' a') := (HY.out.bx.cell 0).trans rfl
          have FIN : Hid (∀ w', Fr (fun k => k ∈ Ds) X w' → RdP μ ν ρ F Z (funD μ ν ρ l r a a' b' x) (fun _ => b') w (.returned (.slice (some ⟨Rb, 0, none⟩) a' a')) w') := by
            intro w' hf
            have hdm : ∀ {g ty cs}, Blk X g ty cs → ¬ (g ∈ Ds) := fun hb hD => hb.ne_of (HY.out.ds _ hD).2 (fun _ h => by cases h) rfl
            have hlo : ∀ k, k ∈ Ds → w.heap.size ≤ k := fun k hk => by have := (HY.out.ds k hk).1; have := HFWR.out.size; have := HN1.out; omega
            have hrw := HY.out.rows.frO hf (hdm HY.out.rows.rows) (fun k hk => by obtain ⟨_, ws, h2, _⟩ := HY.out.rows.each k hk; exact hdm h2)
            have hlc := HY.out.lc.fr hf (fun g ty cs hb _ _ h => hdm hb h) (fun g hg h => by have := HOLD.out g hg; have := hlo g h; omega) (fun h => by have := HTZ.out; have := hlo _ h; omega)
            have hlen : (funD μ ν ρ l r a a' b' x).length = a' := by simp [funD]
            refine ⟨Rb, by rw [hlen], ⟨RA gs a' b' a', hrw.rows, by simp [RA, hlen], fun j D hD => ?_⟩, hlc.less (fun g _ h => .inl h), (HFV.out X HY.out.fr).then_ hf (fun k hk h => by have := hlo k h; omega)⟩
            have hj : j < a' := by rw [← hlen]; exact (List.getElem?_eq_some_iff.1 hD).1
            obtain ⟨_, ws, h2, h3⟩ := hrw.each j hj
            refine ⟨_, by rw [RA_at hj, if_pos hj], gs j, ws, rfl, h2, h3.congr (fun d hd => ?_)⟩
            unfold funD at hD
            rw [List.getElem?_map, List.getElem?_range hj] at hD
            injection hD with hD
            subst hD
            rw [hia]
            simp [hd]
          have HND := Lib.hid HY.out.nd
          have HDS : Hid (∀ D, D ∈ Ds → X.heap[D]? = some (.deferred (some []))) := fun D hD => (HY.out.ds D hD).2
          clear hia hJ
          gi_wp2_with fail
          refine leaves_marks Ds X HND.out HDS.out fun w' hf => ⟨_, results_tmp rfl _ _ _, ?_⟩
          exact FIN.out w' hf
end
end Go.Proofs.YtloecimlimoanaaDoor
