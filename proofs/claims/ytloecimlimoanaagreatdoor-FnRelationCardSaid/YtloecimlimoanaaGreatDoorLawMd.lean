/- Modules that a relation makes alike: the iterator alikeBy of the program. · Modules of the program: ModuleRelation, ModuleAlike, ModuleBest. · ModuleBest of the program; ModuleAlike of both. · ModuleAlike of both; the laws ModuleRelation, ModuleBest and ModuleAlike. -/
import Derived.Test.YtloecimlimoanaaGreatDoorMdm
import Derived.Test.YtloecimlimoanaaGreatDoorLrm
/- Modules that a relation makes alike: the iterator alikeBy of the program. -/
namespace Go.Proofs.YtloecimlimoanaaGreatDoor
open Go.RowKit Go.ChangeMaps Go.Shelf

attribute [local go_sem] Oper.semAt_some

section
variable {P : Program} {n l : Nat} {ops : Array Oper} {Q : Exit → Act → World → Prop} {md : Region.Mode}
/-- a region with no deferred call is walked in a round as elsewhere -/
theorem wpOpIn_round {i : Nat} {K K' : Act → World → Prop} {a : Act} {w : World} (hd : ∀ o ∈ ops, ∀ c, o.op ≠ .defer c) (hK : ∀ a w, K a w → K' a w) (h : wpOpIn Fence.wide n P ops Q i K a w) : wpOpIn (Fence.wide.inRound l) n P ops Q i K' a w := by
  have h := wpOpIn_mono hK h
  unfold wpOpIn at h ⊢
  split
  · simpa [*] using h
  · rename_i o ho
    simp only [ho] at h
    have ho' : o ∈ ops := Array.mem_of_getElem? ho
    have e : o.semAt (some l) a.eval = o.semAt none a.eval := by
      unfold Oper.semAt
      split
      · rename_i hop; exact (hd o ho' _ hop).elim
      · rfl
    split
    · rename_i hw
      rw [if_pos hw] at h
      refine ⟨h.1, ?_⟩
      have h2 := h.2
      show o.uponIn (Fence.wide.inRound l) n P a K' Q ((o.semAt (some l) a.eval).run P w)
      rw [e]
      exact h2
    · rename_i hw
      rw [if_neg hw] at h
      exact h

theorem wpAnyIn_round (hd : noDefer ops = true) : ∀ (fuel : Nat) (listed : Array Bool) (a : Act) (w : World), wpAnyIn Fence.wide n P md ops Q fuel listed a w → wpAnyIn (Fence.wide.inRound l) n P md ops Q fuel listed a w := by
  intro fuel
  induction fuel with
  | zero => intro listed a w h; exact h
  | succ fuel ih =>
    intro listed a w h
    exact ⟨h.1, fun i hi => wpOpIn_round (noDefer_all hd) (fun a w h => ih _ a w h) (h.2 i hi)⟩
end

section
variable {μ ν : Nat → Option Nat} {ρ : Nat → Nat → Nat → Bool}
theorem LC.rowX {F : Cach} {Z T : Nat → Prop} {w w' : World} (h : LC μ ν ρ F Z w) (hf : Fr T w w') (hT : ∀ g, T g → RowBlk w g) (hz : ¬ T 0) : LC μ ν ρ F Z w' := by
  refine ⟨fun g t hg => ?_, h.tz.fr hf hz, h.tzF⟩
  obtain ⟨c, c', cs, q1, q2, h3, h4, h5⟩ := h.kept g t hg
  refine ⟨c, c', cs, q1, q2, h3.fr hf (fun hg => (hT g hg).ne h3 (by decide) (by decide) (by decide) rfl), h4, fun i v hv => ?_⟩
  rcases h5 i v hv with h | ⟨g, ws, k1, k2, k3, k4⟩
  · exact .inl h
  · exact .inr ⟨g, ws, k1, k2.fr hf (fun hg => (hT g hg).ne k2 (by decide) (by decide) (by decide) rfl), k3, k4⟩
end

theorem kn_is {s : List UInt8} {t : Ty} (h : Ty.Is s t) (μ : Nat → Option Nat) : t.kn μ = t.cnt μ := by
  have := h.2.2
  unfold Ty.kn
  rw [if_pos (by omega)]

theorem alikeBy_any (w : World) (s : List UInt8) (m n x y : Int) : Calls Tryz.prog 19 #[S s, .int .i64 m, .int .i64 n, .int .i64 x, .int .i64 y] w fun e w' => e = .returned (.func (.func 35) #[] #[Ptr w.heap.size, Ptr (w.heap.size + 1), Ptr (w.heap.size + 2), Ptr (w.heap.size + 3), Ptr (w.heap.size + 4)]) ∧ w' = ((((w.alloc (.cells #[S s] 9)).alloc (.cells #[.int .i64 m] 3)).alloc (.cells #[.int .i64 n] 3)).alloc (.cells #[.int .i64 x] 3)).alloc (.cells #[.int .i64 y] 3) := by
  go_enter Tryz.func19, Tryz.ntmps19
  go_wp2_with fail
  go_ret
  exact ⟨rfl, rfl⟩

/-- the five captured variables -/
structure Cap (s : List UInt8) (m n x y : Int) (b : Nat) (W : World) : Prop where
  b0 : Blk W b 9 #[S s]
  b1 : Blk W (b + 1) 3 #[.int .i64 m]
  b2 : Blk W (b + 2) 3 #[.int .i64 n]
  b3 : Blk W (b + 3) 3 #[.int .i64 x]
  b4 : Blk W (b + 4) 3 #[.int .i64 y]

theorem Cap.fr {s : List UInt8} {m n x y : Int} {b : Nat} {W W' : World} {T : Nat → Prop} (h : Cap s m n x y b W) (hf : Fr T W W') (hT : ∀ k, b ≤ k → k ≤ b + 4 → ¬ T k) : Cap s m n x y b W' :=
  ⟨h.b0.fr hf (hT _ (by omega) (by omega)), h.b1.fr hf (hT _ (by omega) (by omega)), h.b2.fr hf (hT _ (by omega) (by omega)), h.b3.fr hf (hT _ (by omega) (by omega)), h.b4.fr hf (hT _ (by omega) (by omega))⟩

/-- what a round of a loop over alike relations keeps; S: what a round may change -/
structure AlJ (l B0 : Nat) (S : Nat → Prop) (s : List UInt8) (m n x y : Int) (J : Nat → World → Prop) (Jx : World → Prop) : Prop where
  keep : ∀ k W W' X, J k W → Fr X W W' → (∀ b, X b → B0 ≤ b) → J k W'
  keepx : ∀ W W' X, Jx W → Fr X W W' → (∀ b, X b → B0 ≤ b ∧ ∀ ty cs, ¬ Blk W b ty cs) → Jx W'
  rows : ∀ k W g, J k W → S g → RowBlk W g
  low : ∀ g, S g → g < B0
  tab : ¬ S 0
  skip : ∀ (t : Ty) (mN nN a b xN yN : Nat), Mod s m n x y t mN nN a b xN yN → ∀ k W, J k W → rbit t mN nN xN yN k = false → J (k + 1) W
  round : ∀ (t : Ty) (mN nN a b xN yN : Nat), Mod s m n x y t mN nN a b xN yN → ∀ k W, k < 2 ^ (mN * nN) → rbit t mN nN xN yN k = true → J k W →
    YieldAt Fence.wide 6 Tryz.prog l #[.int .i64 k] W fun e W' => (e = .returned (.bool true) ∧ J (k + 1) W' ∧ Fr S W W') ∨ (e = .returned (.bool false) ∧ Jx W' ∧ ∃ X, Fr X W W' ∧ ∀ g, X g → g < B0)

/-- how the loop ends -/
def AlP (s : List UInt8) (m n x y : Int) (J : Nat → World → Prop) (Jx : World → Prop) (W' : World) : Prop :=
  (∃ (t : Ty) (mN nN a b xN yN : Nat), Mod s m n x y t mN nN a b xN yN ∧ J (2 ^ (mN * nN)) W') ∨ ((∀ (t : Ty) (mN nN a b xN yN : Nat), ¬ Mod s m n x y t mN nN a b xN yN) ∧ J 0 W') ∨ Jx W'

/-- between two lifted types -/
structure AK (s : List UInt8) (m n x y : Int) (b yb l B0 D : Nat) (J : Nat → World → Prop) (rec : LoopState → Option Code → Loop) (k : Nat) (W : World) : Prop where
  j : J k W
  cap : Cap s m n x y b W
  yb : Blk W yb 58 #[.func (.yield l) #[] #[]]
  lp : W.heap[D + 1]? = some (.loop (rec .ready none))
  df : W.heap[D]? = some (.deferred (some []))
  sz : D + 2 ≤ W.heap.size

structure AX (D : Nat) (Jx : World → Prop) (rec : LoopState → Option Code → Loop) (W : World) : Prop where
  j : Jx W
  lp : W.heap[D + 1]? = some (.loop (rec .done (some .ret)))
  df : W.heap[D]? = some (.deferred (some []))
  sz : D + 2 ≤ W.heap.size

set_option maxRecDepth 100000 in
set_option maxHeartbeats 8000000 in
theorem alk_in (l b : Nat) (Sx : Nat → Prop) (s : List UInt8) (m n x y : Int) (w : World) (hs : s.length ≤ maxLen) (J : Nat → World → Prop) (Jx : World → Prop) (hJ : AlJ l w.heap.size Sx s m n x y J Jx) (hcap : Cap s m n x y b w) (hT : TZt w) (h0 : J 0 w) (hSb : ∀ k, b ≤ k → k ≤ b + 4 → ¬ Sx k) (hlw : l < w.heap.size) :
    CallsIn Fence.wide 9 Tryz.prog 35 #[.func (.yield l) #[] #[], Ptr b, Ptr (b + 1), Ptr (b + 2), Ptr (b + 3), Ptr (b + 4)] w fun e W' => (∃ v, e = .returned v) ∧ AlP s m n x y J Jx W' := by
  obtain ⟨W0, hW0, hf0, hy0, hz0⟩ : ∃ W, W = w.alloc (.cells #[.func (.yield l) #[] #[]] 58) ∧ Fr No w W ∧ Blk W w.heap.size 58 #[.func (.yield l) #[] #[]] ∧ W.heap.size = w.heap.size + 1 := ⟨_, rfl, (Fr.refl No w).alloc _, Blk.new _ _ _, by simp⟩
  have PT := Lib.hid (readParamType_any W0 s m n hs)
  have HT0 := Lib.hid (hT.fr hf0 (fun h => h))
  have HTZ : Hid (0 < w.heap.size) := hT.1
  have HC0 := Lib.hid (hcap.fr hf0 (fun _ _ _ h => h))
  have HJ := Lib.hid hJ
  have HF0 := Lib.hid hf0
  have HY0 := Lib.hid hy0
  have HZ0 := Lib.hid hz0
  have HSB := Lib.hid hSb
  have HLW := Lib.hid hlw
  have H0 : Hid (J 0 W0) := hJ.keep 0 w W0 No h0 hf0 (fun _ h => h.elim)
  have HBW : Hid (b + 4 < w.heap.size) := hcap.b4.lt
  have x0 : w.cell? ⟨b, 0, none⟩ = some (S s) := (hcap.b0.cell 0).trans rfl
  have x1 : w.cell? ⟨b + 1, 0, none⟩ = some (.int .i64 m) := (hcap.b1.cell 0).trans rfl
  have x2 : w.cell? ⟨b + 2, 0, none⟩ = some (.int .i64 n) := (hcap.b2.cell 0).trans rfl
  have y0 := hcap.b0.lt
  have y1 := hcap.b1.lt
  have y2 := hcap.b2.lt
  clear hcap hJ hf0 hy0 hz0 hT hSb hlw h0
  refine callsIn_of_wp_marks Tryz.func35 rfl trivial ?_ rfl
  simp only [Tryz.ntmps35, List.size_toArray, List.length_cons, List.length_nil, Nat.reduceAdd, Nat.reduceSub, Array.replicate_succ, Array.replicate_zero, List.push_toArray, List.append_toArray, List.nil_append, List.cons_append]
  have HW0 := Lib.hid hW0
  clear hW0
  gi_wp2_with fail
  rw [← HW0.out]
  clear HW0 x0 x1 x2 y0 y1 y2
  refine ⟨trivial, (callsIn_wide.2 PT.out).mono ?_⟩
  rintro e w1 ⟨hf1, ⟨t, T, mN, nN, c, c', d, hi, ha, rfl, rfl, h3, hk1, hk2, rfl, hpt⟩ | ⟨hno, rfl⟩⟩
  · have HF1 := Lib.hid hf1
    have HPT := Lib.hid hpt
    have HI := Lib.hid hi
    have HA := Lib.hid ha
    have H3 := Lib.hid h3
    have HK := Lib.hid (And.intro hk1 hk2)
    have hkn : ∀ μ, t.kn μ = t.cnt μ := fun μ => by have := hi.2.2; unfold Ty.kn; rw [if_pos (by omega)]
    have HKN := Lib.hid hkn
    obtain ⟨s', z', a', b', hsl⟩ := hpt.sl
    obtain ⟨s2, z2, a2, b2, hsr⟩ := hpt.sr
    have hc1 := HC0.out.fr hf1 (fun _ _ _ h => h)
    have hj1 : J 0 w1 := HJ.out.keep 0 W0 w1 No H0.out hf1 (fun _ h => h.elim)
    have e6 : w1.cell? ⟨T, 6, none⟩ = some (Ptr d.gl) := (hpt.blk.cell 6).trans rfl
    have e7 : w1.cell? ⟨T, 7, none⟩ = some (Ptr d.gr) := (hpt.blk.cell 7).trans rfl
    have ex : w1.cell? ⟨b + 3, 0, none⟩ = some (.int .i64 x) := (hc1.b3.cell 0).trans rfl
    have ey : w1.cell? ⟨b + 4, 0, none⟩ = some (.int .i64 y) := (hc1.b4.cell 0).trans rfl
    have HC1 := Lib.hid hc1
    have HJ1 := Lib.hid hj1
    have HSL : Hid (∀ j, Calls Tryz.prog 25 #[Ptr d.gl, .int .i64 x] (w1.drewN j) fun e w' => e = .returned (.bool (decide (0 ≤ x ∧ x < (c : Int)))) ∧ ∃ j', w' = w1.drewN j') := fun j => (has_set (w1.drewN j) d.gl s' z' a' b' c x hsl).mono (fun e w' h => ⟨h.1, j, h.2.symm⟩)
    have HSR : Hid (∀ j, Calls Tryz.prog 25 #[Ptr d.gr, .int .i64 y] (w1.drewN j) fun e w' => e = .returned (.bool (decide (0 ≤ y ∧ y < (c' : Int)))) ∧ ∃ j', w' = w1.drewN j') := fun j => (has_set (w1.drewN j) d.gr s2 z2 a2 b2 c' y hsr).mono (fun e w' h => ⟨h.1, j, h.2.symm⟩)
    have hTl := hpt.blk.lt
    have NOM : Hid (¬ ((0 ≤ x ∧ x < (c : Int)) ∧ (0 ≤ y ∧ y < (c' : Int))) → ∀ (t : Ty) (mN' nN' a b xN yN : Nat), ¬ Mod s mN nN x y t mN' nN' a b xN yN) := fun hx t' mN' nN' a b xN yN h => by
      have e := h.is.unique HI.out
      subst e
      have e1 := h.em
      have e2 := h.en
      have e1 : mN' = mN := by omega
      have e2 : nN' = nN := by omega
      subst e1 e2
      have g1 := h.ca
      have g2 := h.cb
      rw [← HKN.out, HK.out.1] at g1
      rw [← HKN.out, HK.out.2] at g2
      injection g1 with g1
      injection g2 with g2
      have := h.ex
      have := h.ey
      have := h.lx
      have := h.ly
      exact hx ⟨⟨by omega, by omega⟩, by omega, by omega⟩
    clear hf1 hpt hi ha h3 hk1 hk2 hsl hsr hc1 hj1 hkn
    by_cases hxc : 0 ≤ x ∧ x < (c : Int)
    · have hxd : decide (0 ≤ x ∧ x < (c : Int)) = true := decide_eq_true hxc
      rw [hxd] at HSL
      by_cases hyc : 0 ≤ y ∧ y < (c' : Int)
      · have hyd : decide (0 ≤ y ∧ y < (c' : Int)) = true := decide_eq_true hyc
        rw [hyd] at HSR
        gi_wp2_with fail
        refine wpIn_wide.2 ?_
        go_quiet ((first | (go_at_call 25; with_reducible exact HSL.out _) | (go_at_call 25; with_reducible exact HSR.out _)))
        obtain ⟨xN, rfl⟩ : ∃ xN : Nat, x = xN := ⟨x.toNat, by omega⟩
        obtain ⟨yN, rfl⟩ : ∃ yN : Nat, y = yN := ⟨y.toNat, by omega⟩
        have HMOD : Hid (Mod s mN nN xN yN t mN nN c c' xN yN) := ⟨HI.out, HA.out, rfl, rfl, H3.out, by rw [← HKN.out]; exact HK.out.1, by rw [← HKN.out]; exact HK.out.2, rfl, rfl, by omega, by omega⟩
        have hf2 : Fr No w1 (w1.drewN nq) := (Fr.refl No w1).drewN nq
        have HPT2 := Lib.hid (HPT.out.no hf2)
        have HF2 := Lib.hid ((HF0.out.trans HF1.out).trans hf2)
        have HC2 := Lib.hid (HC1.out.fr hf2 (fun _ _ _ h => h))
        have HY2 := Lib.hid ((HY0.out.fr HF1.out (fun h => h)).fr hf2 (fun h => h))
        have HT2 := Lib.hid ((HT0.out.fr HF1.out (fun h => h)).fr hf2 (fun h => h))
        have HJ2 : Hid (J 0 (w1.drewN nq)) := HJ.out.keep 0 w1 _ No HJ1.out hf2 (fun _ h => h.elim)
        have HZ2 : Hid (w.heap.size + 1 ≤ w1.heap.size) := by show _ ≤ _; have := HZ0.out; have := HF1.out.size; omega
        have HXY : Hid (xN < c ∧ yN < c') := ⟨by omega, by omega⟩
        clear e6 e7 ex ey hf2 hTl hxc hyc hxd hyd HSL HSR NOM
        gi_wp2_with fail
        refine ⟨trivial, (callsIn_wide.2 (lifts_any _ T)).mono ?_⟩
        rintro e w' ⟨rfl, rfl⟩
        gi_wp2_with fail
        have hf3 : Fr No (w1.drewN nq) ((w1.drewN nq).alloc (.cells #[Ptr T] 73)) := (Fr.refl No (w1.drewN nq)).alloc _
        have hb3 : Blk ((w1.drewN nq).alloc (.cells #[Ptr T] 73)) w1.heap.size 73 #[Ptr T] := Blk.new _ _ _
        have hs3 : ((w1.drewN nq).alloc (.cells #[Ptr T] 73)).heap.size = w1.heap.size + 1 := by simp
        generalize ((w1.drewN nq).alloc (.cells #[Ptr T] 73)) = w3 at hf3 hb3 hs3 ⊢
        refine rf_stmt rfl (by decide) (gf := 61) (lb := #[Ptr w1.heap.size]) rfl trivial (enters_of Tryz.func61 (by kernel_rfl) rfl) ?_
        intro fn D rec hf hD hrec W5 hW5
        have HREC := Lib.hid hrec
        have hD1 : W5.heap.size = D + 2 := by rw [hW5, hD]; simp
        have hf5 : Fr No w3 W5 := by rw [hW5]; exact ((Fr.refl _ _).alloc _).alloc _
        have hl1 : W5.heap[D + 1]? = some (.loop (rec .ready none)) := by
          rw [hW5]
          have := World.alloc_heap_new (w3.alloc (.deferred (some []))) (.loop (rec .ready none))
          rwa [World.size_alloc, ← hD] at this
        have hd1 : W5.heap[D]? = some (.deferred (some [])) := by
          rw [hW5, hD]
          exact (Below.heap_alloc _ _ _ (by simp)).trans (World.alloc_heap_new w3 _)
        have HDW : Hid (D = w1.heap.size + 1 ∧ w.heap.size + 1 ≤ w1.heap.size) := ⟨by omega, HZ2.out⟩
        clear hrec hW5
        have hf35 := hf3.trans hf5
        have J0 : AK s mN nN xN yN b w.heap.size l w.heap.size D J rec 0 W5 := ⟨HJ.out.keep 0 _ W5 No HJ2.out hf35 (fun _ h => h.elim), HC2.out.fr hf35 (fun _ _ _ h => h), HY2.out.fr hf35 (fun h => h), hl1, hd1, by omega⟩
        have hpt5 := HPT2.out.no hf35
        have hbx5 := hb3.fr hf5 (fun h => h)
        have hT5 := HT2.out.fr hf35 (fun h => h)
        have hhi : w1.heap.size ≤ D + 1 := by have := HDW.out; omega
        have htz5 : 0 < w1.heap.size := by have := HTZ.out; have := HZ2.out; omega
        have h40 : t.size ≤ 40 := HI.out.2.2
        obtain ⟨m1, m2, n1, n2⟩ := H3.out
        have HMN : Hid (1 ≤ mN ∧ mN ≤ 3 ∧ 1 ≤ nN ∧ nN ≤ 3) := ⟨by omega, by omega, by omega, by omega⟩
        refine (lifts_in (D + 1) w1.heap.size Sx d T t mN nN c c' W0.heap.size w1.heap.size (AK s mN nN xN yN b w.heap.size l w.heap.size D J rec) (AX D Jx rec) ⟨fun k W g hj hg => HJ.out.rows k W g hj.j hg, HJ.out.tab, ?keep, ?round⟩ h40 HMN.out.1 HMN.out.2.1 HMN.out.2.2.1 HMN.out.2.2.2 HK.out.1 HK.out.2 W5 J0 hpt5 hbx5 hT5 hhi ⟨_, hl1⟩ htz5).mono ?_
        case keep =>
          intro k W W' X hj hfX hX
          have hlo : ∀ b, X b → w.heap.size + 1 ≤ b := fun b hb => by have := (hX b hb).1; have := HZ0.out; omega
          have nb : ∀ g ty cs, Blk W g ty cs → ¬ X g := fun g ty cs hb hx => by
            obtain ⟨_, es, clk, hm⟩ := hX g hx
            exact hb.ne_map hm rfl
          refine ⟨HJ.out.keep k W W' X hj.j hfX (fun b hb => by have := hlo b hb; omega), hj.cap.fr hfX (fun k h1 h2 h => by have := hlo k h; have := HBW.out; omega), hj.yb.fr hfX (nb _ _ _ hj.yb), ?_, ?_, Nat.le_trans hj.sz hfX.size⟩
          · exact (hfX.block (D + 1) (by have := hj.sz; omega) (fun hx => by obtain ⟨_, es, clk, hm⟩ := hX _ hx; rw [hj.lp] at hm; cases hm)).trans hj.lp
          · exact (hfX.block D (by have := hj.sz; omega) (fun hx => by obtain ⟨_, es, clk, hm⟩ := hX _ hx; rw [hj.df] at hm; cases hm)).trans hj.df
        case round =>
          intro k P Bk F R W hk hj hlB hBs hFB hRE hLT hLC
          have HRE := Lib.hid hRE
          have HJK := Lib.hid hj
          have HLT := Lib.hid hLT
          have HLC := Lib.hid hLC
          have HB := Lib.hid (And.intro hlB hFB)
          have HKK := Lib.hid hk
          clear hRE hj hLT hLC hlB hFB hf3 hb3 hs3 hD hD1 hf5 hl1 hd1 hf35 J0 hpt5 hbx5 hT5 hhi htz5 h40 m1 m2 n1 n2 hBs hk
          refine rf_round HREC.out hf HJK.out.lp rfl ?_
          gi_wp2_with fail
          refine ⟨_, rf_begin HREC.out HJK.out.lp, ?_⟩
          have hfp : Fr (fun b => b = D + 1) W (W.putObj (D + 1) (.loop (rec .busy none))) := Fr.putObj _ _
          have hlt2 : D + 1 < W.heap.size := by have := HJK.out.sz; omega
          have nb : ∀ {g ty cs}, Blk W g ty cs → ¬ (g = D + 1) := fun hb => hb.ne_of HJK.out.lp (fun _ h => by cases h)
          have hlp2 : (W.putObj (D + 1) (.loop (rec .busy none))).heap[D + 1]? = some (.loop (rec .busy none)) := World.putObj_heap_same hlt2
          have hsz2 : (W.putObj (D + 1) (.loop (rec .busy none))).heap.size = W.heap.size := by simp
          have hfar : Far F No (fun b => b = D + 1) W := fun g ty cs hb _ _ h => nb hb h
          have hLT2 := HLT.out.fr hfp hfar
          have hLC2 := HLC.out.fr hfp hfar (fun g hg h => by have := HB.out.2 g hg; have := HB.out.1; omega) (fun h => by have := HTZ.out; have := HDW.out; omega)
          have hj2 : J k (W.putObj (D + 1) (.loop (rec .busy none))) := HJ.out.keep k W _ _ HJK.out.j hfp (fun b h => by have := HDW.out; omega)
          have hcap2 := HJK.out.cap.fr hfp (fun k h1 h2 h => by have := HBW.out; have := HDW.out; omega)
          have hyb2 := HJK.out.yb.fr hfp (nb HJK.out.yb)
          have hdf2 : (W.putObj (D + 1) (.loop (rec .busy none))).heap[D]? = some (.deferred (some [])) := (World.putObj_heap_other (by omega)).trans HJK.out.df
          generalize (W.putObj (D + 1) (.loop (rec .busy none))) = V2 at hfp hlp2 hsz2 hLT2 hLC2 hj2 hcap2 hyb2 hdf2 ⊢
          have nF : ∀ g, g ≤ w.heap.size → ¬ InF F g := fun g hg h => by have := HB.out.2 g h; have := HB.out.1; have := HDW.out; omega
          have CC : Hid (∀ w', Fr (InF F) V2 w' → w'.cell? ⟨b + 3, 0, none⟩ = some (.int .i64 xN) ∧ w'.cell? ⟨b + 4, 0, none⟩ = some (.int .i64 yN) ∧ w'.cell? ⟨w.heap.size, 0, none⟩ = some (.func (.yield l) #[] #[])) := fun w' hf' => by
            have h := hcap2.fr hf' (fun k h1 h2 => nF k (by have := HBW.out; omega))
            exact ⟨(h.b3.cell 0).trans rfl, (h.b4.cell 0).trans rfl, ((hyb2.fr hf' (nF _ (Nat.le_refl _))).cell 0).trans rfl⟩
          have hd : Fr (InF F) V2 V2.drew := (Fr.refl _ V2).drew
          have hcn := kn_cnt HK.out.1
          have hcn' := kn_cnt HK.out.2
          have RW : Hid (∀ V, Fr No V2 V → Calls Tryz.prog 26 #[Ptr P, .int .i64 xN] V fun e w' => ∃ g : Nat, e = .returned (.slice (some ⟨g, 0, none⟩) (nw c') (nw c')) ∧ Hid ((∃ ws, Blk w' g 63 (WV ws) ∧ BitsIs ws c' (relT (sz1 mN) (sz1 nN) R t xN)) ∧ LC (sz1 mN) (sz1 nN) R F No w' ∧ Fr (InF F) V2 w')) := fun V hV => by
            refine (row_any (sz1_sizes HMN.out.1 HMN.out.2.1) (sz1_sizes HMN.out.2.2.1 HMN.out.2.2.2) F t No V P xN c c' (fun g h => h.elim) (hLC2.no hV) (hLT2.fr hV (Far.no F No V2)) hcn hcn' HXY.out.1).mono ?_
            rintro e w' ⟨v, rfl, ⟨g, ws, rfl, h1, h2, _⟩, h3, h4⟩
            exact ⟨g, rfl, ⟨ws, h1, h2⟩, h3, (hV.mono (fun _ _ h => h.elim)).trans h4⟩
          have hc4 := (t.cnt_bounds (sz1_sizes HMN.out.2.2.1 HMN.out.2.2.2) c' hcn').2
          obtain ⟨bb, hbb⟩ : ∃ bb, relT (sz1 mN) (sz1 nN) R t xN yN = bb := ⟨_, rfl⟩
          have HBB : Hid (rbit t mN nN xN yN k = bb) := by show _ = _; unfold rbit; rw [← HRE.out]; exact hbb
          have HS : Hid (∀ (w' : World) (g : Nat), (∃ ws, Blk w' g 63 (WV ws) ∧ BitsIs ws c' (relT (sz1 mN) (sz1 nN) R t xN)) → Calls Tryz.prog 27 #[.slice (some ⟨g, 0, none⟩) (nw c') (nw c'), .int .i64 yN] w' fun e w2 => e = .returned (.bool bb) ∧ w' = w2) := fun w' g ⟨ws, h1, h2⟩ => by
            have h := bsHas_any w' g ws c' yN _ h1 h2 HXY.out.2 (by omega)
            rw [hbb] at h
            exact h
          -- a round that ends in its order
          have GOOD : Hid (∀ (V6 : World) (X : Nat → Prop), LC (sz1 mN) (sz1 nN) R F No V6 → Fr X W V6 → (∀ g, X g → InF F g ∨ g = D + 1 ∨ Sx g) → J (k + 1) V6 → V6.heap[D + 1]? = some (.loop (rec .busy none)) → ∀ act : Act, roundPost Tryz.prog (D + 1) (fun e W' => (e = .returned (.bool true) ∧ AK s mN nN xN yN b w.heap.size l w.heap.size D J rec (k + 1) W' ∧ Fr (fun b => InF F b ∨ b = D + 1 ∨ Sx b) W W' ∧ (∃ r, W'.heap[D + 1]? = some (.loop r)) ∧ LC (sz1 mN) (sz1 nN) R F No W') ∨ (e = .returned (.bool false) ∧ AX D Jx rec W')) Exit.normal act V6) := by
            intro V6 X hlc6 hf6 hX hj6 hlp6 act
            have hDW := HDW.out
            have hq : Fr (fun b => b = D + 1) V6 (V6.putObj (D + 1) (.loop (rec .ready none))) := Fr.putObj _ _
            have nb6 : ∀ {g ty cs}, Blk V6 g ty cs → ¬ (g = D + 1) := fun hb => hb.ne_of hlp6 (fun _ h => by cases h)
            have hs6 := hf6.size
            have hlr : (V6.putObj (D + 1) (.loop (rec .ready none))).heap[D + 1]? = some (.loop (rec .ready none)) := World.putObj_heap_same (by omega)
            have hfS : Fr (fun b => InF F b ∨ b = D + 1 ∨ Sx b) W (V6.putObj (D + 1) (.loop (rec .ready none))) := (hf6.mono (fun g _ h => hX g h)).trans (hq.mono (fun _ _ h => .inr (.inl h)))
            have nS : ∀ g, w.heap.size ≤ g → ¬ Sx g := fun g hg h => by have := HJ.out.low g h; omega
            have nT : ∀ g, g < D + 1 → (g ≤ w.heap.size ∨ w.heap.size < g) → ¬ Sx g → ¬ (InF F g ∨ g = D + 1 ∨ Sx g) := fun g h1 _ h3 h => by
              rcases h with h | h | h
              · have := HB.out.2 g h; have := HB.out.1; omega
              · omega
              · exact h3 h
            have hcap7 := HJK.out.cap.fr hfS (fun k h1 h2 => nT k (by have := HBW.out; omega) (by omega) (HSB.out k h1 h2))
            have hyb7 := HJK.out.yb.fr hfS (nT _ (by omega) (by omega) (nS _ (Nat.le_refl _)))
            have hdf7 : (V6.putObj (D + 1) (.loop (rec .ready none))).heap[D]? = some (.deferred (some [])) := (hfS.block D (by omega) (nT D (by omega) (by omega) (nS D (by omega)))).trans HJK.out.df
            exact ⟨_, _, rf_end HREC.out none hlp6, .inl ⟨rfl, ⟨HJ.out.keep (k + 1) V6 _ _ hj6 hq (fun b h => by omega), hcap7, hyb7, hlr, hdf7, Nat.le_trans HJK.out.sz hfS.size⟩, hfS, ⟨_, hlr⟩, hlc6.fr hq (fun g ty cs hb _ _ h => nb6 hb h) (fun g hg h => by have := HB.out.2 g hg; have := HB.out.1; have h : g = D + 1 := h; omega) (fun h => by have := HTZ.out; have h : 0 = D + 1 := h; omega)⟩⟩
          have hmix : Tryz.prog.follows .mixedOrders = true := by kernel_rfl
          obtain ⟨ux, uy, uz⟩ := CC.out V2 (Fr.refl _ _)
          have RW2 : Hid (Calls Tryz.prog 26 #[Ptr P, .int .i64 xN] V2.drew fun e w' => ∃ g : Nat, e = .returned (.slice (some ⟨g, 0, none⟩) (nw c') (nw c')) ∧ Hid ((∃ ws, Blk w' g 63 (WV ws) ∧ BitsIs ws c' (relT (sz1 mN) (sz1 nN) R t xN)) ∧ LC (sz1 mN) (sz1 nN) R F No w' ∧ Fr (InF F) V2 w')) := RW.out _ ((Fr.refl No V2).drew)
          have HJ2K := Lib.hid hj2
          have HFP := Lib.hid hfp
          have HLP2 := Lib.hid hlp2
          have KEEP : Hid (∀ w5, Fr (InF F) V2 w5 → J k w5 ∧ Fr (fun b => InF F b ∨ b = D + 1 ∨ Sx b) W w5 ∧ w5.heap[D + 1]? = some (.loop (rec .busy none))) := fun w5 hf5 => ⟨HJ.out.keep k V2 w5 _ HJ2K.out hf5 (fun g h => by have := HB.out.2 g h; have := HB.out.1; have := HDW.out; omega), (HFP.out.mono (fun _ _ h => .inr (.inl h))).trans (hf5.mono (fun _ _ h => .inl h)), (hf5.block (D + 1) (by omega) (fun h => by have := HB.out.2 _ h; have := HB.out.1; omega)).trans HLP2.out⟩
          clear hfp hlt2 nb hlp2 hsz2 hfar hLT2 hLC2 hj2 hcap2 hyb2 hdf2 nF hd hcn hcn' hc4 hbb RW
          cases bb
          · have NOEND : Hid (∀ w5, LC (sz1 mN) (sz1 nN) R F No w5 → Fr (InF F) V2 w5 → ∀ act : Act, roundPost Tryz.prog (D + 1) (fun e W' => (e = .returned (.bool true) ∧ AK s mN nN xN yN b w.heap.size l w.heap.size D J rec (k + 1) W' ∧ Fr (fun b => InF F b ∨ b = D + 1 ∨ Sx b) W W' ∧ (∃ r, W'.heap[D + 1]? = some (.loop r)) ∧ LC (sz1 mN) (sz1 nN) R F No W') ∨ (e = .returned (.bool false) ∧ AX D Jx rec W')) Exit.normal act w5) := fun w5 h1 h2 => by
              obtain ⟨q1, q2, q3⟩ := KEEP.out w5 h2
              exact GOOD.out w5 _ h1 q2 (fun _ h => h) (HJ.out.skip t mN nN c c' xN yN HMOD.out k w5 q1 HBB.out) q3
            gi_wp2_with fail
            refine wpIn_region_any hmix ?_
            refine wpAnyIn_round (by kernel_rfl) _ _ _ _ ?_
            refine wpAnyIn_take (i := 0) (v := ?vk1) rfl (by simp only [List.getElem?_toArray, List.getElem?_cons_zero]; rfl) (by kernel_rfl) (by kernel_rfl) (by kernel_rfl) (fun _ _ _ h => h) ⟨Or.inl ⟨by rfl, ?hyk1⟩, fun _ => rfl⟩ ?restk1
            case hyk1 => (intro w; go_simp; try with_reducible rfl)
            ((try simp only [Act.put]); (try simp only [List.setIfInBounds_toArray]); (try simp only [List.set_cons_succ]); (try simp only [List.set_cons_zero]))
            refine wpAnyIn_ready (rs := [1, 3]) (by kernel_rfl) (by simp) ?_
            refine AllReadyIn.cons rfl (fun K hK => ?_) ?_
            · go_simp
              refine hK _ _ ?_
              clear hK K
              ((try simp only [Act.put]); (try simp only [List.setIfInBounds_toArray]); (try simp only [List.set_cons_succ]); (try simp only [List.set_cons_zero]))
              refine wpAnyIn_ready (rs := [2, 3]) (by kernel_rfl) (by simp) ?_
              refine AllReadyIn.cons rfl (fun K hK => ?_) ?_
              · go_simp
                refine ⟨trivial, (callsIn_wide.2 RW2.out).mono ?_⟩
                rintro e w5 ⟨g, rfl, HR5⟩
                obtain ⟨k1, k2, k3⟩ := CC.out w5 HR5.out.2.2
                refine hK _ _ ?_
                clear hK K
                ((try simp only [Act.put]); (try simp only [List.setIfInBounds_toArray]); (try simp only [List.set_cons_succ]); (try simp only [List.set_cons_zero]))
                refine wpAnyIn_ready (rs := [3]) (by kernel_rfl) (by simp) ?_
                refine AllReadyIn.cons rfl (fun K hK => ?_) AllReadyIn.nil
                go_simp
                refine hK _ _ ?_
                clear hK K
                ((try simp only [Act.put]); (try simp only [List.setIfInBounds_toArray]); (try simp only [List.set_cons_succ]); (try simp only [List.set_cons_zero]))
                refine wpAnyIn_ready (rs := [4]) (by kernel_rfl) (by simp) ?_
                refine AllReadyIn.cons rfl (fun K hK => ?_) AllReadyIn.nil
                go_simp
                refine ⟨trivial, (callsIn_wide.2 (HS.out w5 g HR5.out.1)).mono ?_⟩
                rintro e w6 ⟨rfl, rfl⟩
                refine hK _ _ ?_
                clear hK K
                ((try simp only [Act.put]); (try simp only [List.setIfInBounds_toArray]); (try simp only [List.set_cons_succ]); (try simp only [List.set_cons_zero]))
                refine wpAnyIn_take (i := 5) (v := ?vk2) rfl (by simp only [List.getElem?_toArray, List.getElem?_cons_succ, List.getElem?_cons_zero]; rfl) (by kernel_rfl) (by kernel_rfl) (by kernel_rfl) (fun _ _ _ h => h) ⟨Or.inl ⟨by rfl, ?hyk2⟩, fun _ => rfl⟩ ?restk2
                case hyk2 => (intro w; go_simp; try with_reducible rfl)
                ((try simp only [Act.put]); (try simp only [List.setIfInBounds_toArray]); (try simp only [List.set_cons_succ]); (try simp only [List.set_cons_zero]))
                refine wpAnyIn_take (i := 6) (v := undef) rfl (by simp only [List.getElem?_toArray, List.getElem?_cons_succ, List.getElem?_cons_zero]; rfl) (by kernel_rfl) (by kernel_rfl) (by kernel_rfl) (fun _ _ _ h => h) ⟨Or.inr ⟨by rfl, rfl⟩, fun _ => rfl⟩ ?_
                ((try simp only [Act.put]); (try simp only [List.setIfInBounds_toArray]); (try simp only [List.set_cons_succ]); (try simp only [List.set_cons_zero]))
                refine wpAnyIn_take (i := 7) (v := undef) rfl (by simp only [List.getElem?_toArray, List.getElem?_cons_succ, List.getElem?_cons_zero]; rfl) (by kernel_rfl) (by kernel_rfl) (by kernel_rfl) (fun _ _ _ h => h) ⟨Or.inr ⟨by rfl, rfl⟩, fun _ => rfl⟩ ?_
                ((try simp only [Act.put]); (try simp only [List.setIfInBounds_toArray]); (try simp only [List.set_cons_succ]); (try simp only [List.set_cons_zero]))
                refine wpAnyIn_take (i := 8) (v := undef) rfl (by simp only [List.getElem?_toArray, List.getElem?_cons_succ, List.getElem?_cons_zero]; rfl) (by kernel_rfl) (by kernel_rfl) (by kernel_rfl) (fun _ _ _ h => h) ⟨Or.inr ⟨by rfl, rfl⟩, fun _ => rfl⟩ ?_
                ((try simp only [Act.put]); (try simp only [List.setIfInBounds_toArray]); (try simp only [List.set_cons_succ]); (try simp only [List.set_cons_zero]))
                refine wpAnyIn_take (i := 9) (v := undef) rfl (by simp only [List.getElem?_toArray, List.getElem?_cons_succ, List.getElem?_cons_zero]; rfl) (by kernel_rfl) (by kernel_rfl) (by kernel_rfl) (fun _ _ _ h => h) ⟨Or.inr ⟨by rfl, rfl⟩, fun _ => rfl⟩ ?_
                ((try simp only [Act.put]); (try simp only [List.setIfInBounds_toArray]); (try simp only [List.set_cons_succ]); (try simp only [List.set_cons_zero]))
                refine wpAnyIn_take (i := 10) (v := ?vk3) rfl (by simp only [List.getElem?_toArray, List.getElem?_cons_succ, List.getElem?_cons_zero]; rfl) (by kernel_rfl) (by kernel_rfl) (by kernel_rfl) (fun _ _ _ h => h) ⟨Or.inl ⟨by rfl, ?hyk3⟩, fun _ => rfl⟩ ?restk3
                case hyk3 => (intro w; go_simp; try with_reducible rfl)
                ((try simp only [Act.put]); (try simp only [List.setIfInBounds_toArray]); (try simp only [List.set_cons_succ]); (try simp only [List.set_cons_zero]))
                refine wpAnyIn_done (by kernel_rfl) ?_ _
                have Q4 := Lib.hid (NOEND.out w5 HR5.out.2.1 HR5.out.2.2)
                clear NOEND GOOD KEEP
                gi_wp2_with fail
                exact Q4.out _
              · refine AllReadyIn.cons rfl (fun K hK => ?_) AllReadyIn.nil
                go_simp
                refine hK _ _ ?_
                clear hK K
                ((try simp only [Act.put]); (try simp only [List.setIfInBounds_toArray]); (try simp only [List.set_cons_succ]); (try simp only [List.set_cons_zero]))
                refine wpAnyIn_ready (rs := [2]) (by kernel_rfl) (by simp) ?_
                refine AllReadyIn.cons rfl (fun K hK => ?_) AllReadyIn.nil
                go_simp
                refine ⟨trivial, (callsIn_wide.2 RW2.out).mono ?_⟩
                rintro e w5 ⟨g, rfl, HR5⟩
                obtain ⟨k1, k2, k3⟩ := CC.out w5 HR5.out.2.2
                refine hK _ _ ?_
                clear hK K
                ((try simp only [Act.put]); (try simp only [List.setIfInBounds_toArray]); (try simp only [List.set_cons_succ]); (try simp only [List.set_cons_zero]))
                refine wpAnyIn_ready (rs := [4]) (by kernel_rfl) (by simp) ?_
                refine AllReadyIn.cons rfl (fun K hK => ?_) AllReadyIn.nil
                go_simp
                refine ⟨trivial, (callsIn_wide.2 (HS.out w5 g HR5.out.1)).mono ?_⟩
                rintro e w6 ⟨rfl, rfl⟩
                refine hK _ _ ?_
                clear hK K
                ((try simp only [Act.put]); (try simp only [List.setIfInBounds_toArray]); (try simp only [List.set_cons_succ]); (try simp only [List.set_cons_zero]))
                refine wpAnyIn_take (i := 5) (v := ?vk4) rfl (by simp only [List.getElem?_toArray, List.getElem?_cons_succ, List.getElem?_cons_zero]; rfl) (by kernel_rfl) (by kernel_rfl) (by kernel_rfl) (fun _ _ _ h => h) ⟨Or.inl ⟨by rfl, ?hyk4⟩, fun _ => rfl⟩ ?restk4
                case hyk4 => (intro w; go_simp; try with_reducible rfl)
                ((try simp only [Act.put]); (try simp only [List.setIfInBounds_toArray]); (try simp only [List.set_cons_succ]); (try simp only [List.set_cons_zero]))
                refine wpAnyIn_take (i := 6) (v := undef) rfl (by simp only [List.getElem?_toArray, List.getElem?_cons_succ, List.getElem?_cons_zero]; rfl) (by kernel_rfl) (by kernel_rfl) (by kernel_rfl) (fun _ _ _ h => h) ⟨Or.inr ⟨by rfl, rfl⟩, fun _ => rfl⟩ ?_
                ((try simp only [Act.put]); (try simp only [List.setIfInBounds_toArray]); (try simp only [List.set_cons_succ]); (try simp only [List.set_cons_zero]))
                refine wpAnyIn_take (i := 7) (v := undef) rfl (by simp only [List.getElem?_toArray, List.getElem?_cons_succ, List.getElem?_cons_zero]; rfl) (by kernel_rfl) (by kernel_rfl) (by kernel_rfl) (fun _ _ _ h => h) ⟨Or.inr ⟨by rfl, rfl⟩, fun _ => rfl⟩ ?_
                ((try simp only [Act.put]); (try simp only [List.setIfInBounds_toArray]); (try simp only [List.set_cons_succ]); (try simp only [List.set_cons_zero]))
                refine wpAnyIn_take (i := 8) (v := undef) rfl (by simp only [List.getElem?_toArray, List.getElem?_cons_succ, List.getElem?_cons_zero]; rfl) (by kernel_rfl) (by kernel_rfl) (by kernel_rfl) (fun _ _ _ h => h) ⟨Or.inr ⟨by rfl, rfl⟩, fun _ => rfl⟩ ?_
                ((try simp only [Act.put]); (try simp only [List.setIfInBounds_toArray]); (try simp only [List.set_cons_succ]); (try simp only [List.set_cons_zero]))
                refine wpAnyIn_take (i := 9) (v := undef) rfl (by simp only [List.getElem?_toArray, List.getElem?_cons_succ, List.getElem?_cons_zero]; rfl) (by kernel_rfl) (by kernel_rfl) (by kernel_rfl) (fun _ _ _ h => h) ⟨Or.inr ⟨by rfl, rfl⟩, fun _ => rfl⟩ ?_
                ((try simp only [Act.put]); (try simp only [List.setIfInBounds_toArray]); (try simp only [List.set_cons_succ]); (try simp only [List.set_cons_zero]))
                refine wpAnyIn_take (i := 10) (v := ?vk5) rfl (by simp only [List.getElem?_toArray, List.getElem?_cons_succ, List.getElem?_cons_zero]; rfl) (by kernel_rfl) (by kernel_rfl) (by kernel_rfl) (fun _ _ _ h => h) ⟨Or.inl ⟨by rfl, ?hyk5⟩, fun _ => rfl⟩ ?restk5
                case hyk5 => (intro w; go_simp; try with_reducible rfl)
                ((try simp only [Act.put]); (try simp only [List.setIfInBounds_toArray]); (try simp only [List.set_cons_succ]); (try simp only [List.set_cons_zero]))
                refine wpAnyIn_done (by kernel_rfl) ?_ _
                have Q4 := Lib.hid (NOEND.out w5 HR5.out.2.1 HR5.out.2.2)
                clear NOEND GOOD KEEP
                gi_wp2_with fail
                exact Q4.out _
            · refine AllReadyIn.cons rfl (fun K hK => ?_) AllReadyIn.nil
              go_simp
              refine hK _ _ ?_
              clear hK K
              ((try simp only [Act.put]); (try simp only [List.setIfInBounds_toArray]); (try simp only [List.set_cons_succ]); (try simp only [List.set_cons_zero]))
              refine wpAnyIn_ready (rs := [1]) (by kernel_rfl) (by simp) ?_
              refine AllReadyIn.cons rfl (fun K hK => ?_) AllReadyIn.nil
              go_simp
              refine hK _ _ ?_
              clear hK K
              ((try simp only [Act.put]); (try simp only [List.setIfInBounds_toArray]); (try simp only [List.set_cons_succ]); (try simp only [List.set_cons_zero]))
              refine wpAnyIn_ready (rs := [2]) (by kernel_rfl) (by simp) ?_
              refine AllReadyIn.cons rfl (fun K hK => ?_) AllReadyIn.nil
              go_simp
              refine ⟨trivial, (callsIn_wide.2 RW2.out).mono ?_⟩
              rintro e w5 ⟨g, rfl, HR5⟩
              obtain ⟨k1, k2, k3⟩ := CC.out w5 HR5.out.2.2
              refine hK _ _ ?_
              clear hK K
              ((try simp only [Act.put]); (try simp only [List.setIfInBounds_toArray]); (try simp only [List.set_cons_succ]); (try simp only [List.set_cons_zero]))
              refine wpAnyIn_ready (rs := [4]) (by kernel_rfl) (by simp) ?_
              refine AllReadyIn.cons rfl (fun K hK => ?_) AllReadyIn.nil
              go_simp
              refine ⟨trivial, (callsIn_wide.2 (HS.out w5 g HR5.out.1)).mono ?_⟩
              rintro e w6 ⟨rfl, rfl⟩
              refine hK _ _ ?_
              clear hK K
              ((try simp only [Act.put]); (try simp only [List.setIfInBounds_toArray]); (try simp only [List.set_cons_succ]); (try simp only [List.set_cons_zero]))
              refine wpAnyIn_take (i := 5) (v := ?vk6) rfl (by simp only [List.getElem?_toArray, List.getElem?_cons_succ, List.getElem?_cons_zero]; rfl) (by kernel_rfl) (by kernel_rfl) (by kernel_rfl) (fun _ _ _ h => h) ⟨Or.inl ⟨by rfl, ?hyk6⟩, fun _ => rfl⟩ ?restk6
              case hyk6 => (intro w; go_simp; try with_reducible rfl)
              ((try simp only [Act.put]); (try simp only [List.setIfInBounds_toArray]); (try simp only [List.set_cons_succ]); (try simp only [List.set_cons_zero]))
              refine wpAnyIn_take (i := 6) (v := undef) rfl (by simp only [List.getElem?_toArray, List.getElem?_cons_succ, List.getElem?_cons_zero]; rfl) (by kernel_rfl) (by kernel_rfl) (by kernel_rfl) (fun _ _ _ h => h) ⟨Or.inr ⟨by rfl, rfl⟩, fun _ => rfl⟩ ?_
              ((try simp only [Act.put]); (try simp only [List.setIfInBounds_toArray]); (try simp only [List.set_cons_succ]); (try simp only [List.set_cons_zero]))
              refine wpAnyIn_take (i := 7) (v := undef) rfl (by simp only [List.getElem?_toArray, List.getElem?_cons_succ, List.getElem?_cons_zero]; rfl) (by kernel_rfl) (by kernel_rfl) (by kernel_rfl) (fun _ _ _ h => h) ⟨Or.inr ⟨by rfl, rfl⟩, fun _ => rfl⟩ ?_
              ((try simp only [Act.put]); (try simp only [List.setIfInBounds_toArray]); (try simp only [List.set_cons_succ]); (try simp only [List.set_cons_zero]))
              refine wpAnyIn_take (i := 8) (v := undef) rfl (by simp only [List.getElem?_toArray, List.getElem?_cons_succ, List.getElem?_cons_zero]; rfl) (by kernel_rfl) (by kernel_rfl) (by kernel_rfl) (fun _ _ _ h => h) ⟨Or.inr ⟨by rfl, rfl⟩, fun _ => rfl⟩ ?_
              ((try simp only [Act.put]); (try simp only [List.setIfInBounds_toArray]); (try simp only [List.set_cons_succ]); (try simp only [List.set_cons_zero]))
              refine wpAnyIn_take (i := 9) (v := undef) rfl (by simp only [List.getElem?_toArray, List.getElem?_cons_succ, List.getElem?_cons_zero]; rfl) (by kernel_rfl) (by kernel_rfl) (by kernel_rfl) (fun _ _ _ h => h) ⟨Or.inr ⟨by rfl, rfl⟩, fun _ => rfl⟩ ?_
              ((try simp only [Act.put]); (try simp only [List.setIfInBounds_toArray]); (try simp only [List.set_cons_succ]); (try simp only [List.set_cons_zero]))
              refine wpAnyIn_take (i := 10) (v := ?vk7) rfl (by simp only [List.getElem?_toArray, List.getElem?_cons_succ, List.getElem?_cons_zero]; rfl) (by kernel_rfl) (by kernel_rfl) (by kernel_rfl) (fun _ _ _ h => h) ⟨Or.inl ⟨by rfl, ?hyk7⟩, fun _ => rfl⟩ ?restk7
              case hyk7 => (intro w; go_simp; try with_reducible rfl)
              ((try simp only [Act.put]); (try simp only [List.setIfInBounds_toArray]); (try simp only [List.set_cons_succ]); (try simp only [List.set_cons_zero]))
              refine wpAnyIn_done (by kernel_rfl) ?_ _
              have Q4 := Lib.hid (NOEND.out w5 HR5.out.2.1 HR5.out.2.2)
              clear NOEND GOOD KEEP
              gi_wp2_with fail
              exact Q4.out _
          · have YESEND : Hid (∀ w5 W3, LC (sz1 mN) (sz1 nN) R F No w5 → Fr (fun b => InF F b ∨ b = D + 1 ∨ Sx b) W w5 → w5.heap[D + 1]? = some (.loop (rec .busy none)) → (∀ g, Sx g → RowBlk w5 g) → J (k + 1) W3 → Fr Sx w5 W3 → ∀ act : Act, roundPost Tryz.prog (D + 1) (fun e W' => (e = .returned (.bool true) ∧ AK s mN nN xN yN b w.heap.size l w.heap.size D J rec (k + 1) W' ∧ Fr (fun b => InF F b ∨ b = D + 1 ∨ Sx b) W W' ∧ (∃ r, W'.heap[D + 1]? = some (.loop r)) ∧ LC (sz1 mN) (sz1 nN) R F No W') ∨ (e = .returned (.bool false) ∧ AX D Jx rec W')) Exit.normal act W3) := fun w5 W3 h1 h2 h3 h4 h5 h6 => by
              have hDW := HDW.out
              exact GOOD.out W3 _ (h1.rowX h6 h4 HJ.out.tab) (h2.trans (h6.mono (fun _ _ h => .inr (.inr h)))) (fun _ h => h) h5 ((h6.block (D + 1) (Array.getElem?_eq_some_iff.1 h3).1 (fun h => by have := HJ.out.low _ h; omega)).trans h3)
            have OUTEND : Hid (∀ w5 W3, Fr (fun b => InF F b ∨ b = D + 1 ∨ Sx b) W w5 → w5.heap[D + 1]? = some (.loop (rec .busy none)) → Jx W3 → ∀ X : Nat → Prop, Fr X w5 W3 → (∀ g, X g → g < w.heap.size) → ∀ act : Act, roundPost Tryz.prog (D + 1) (fun e W' => (e = .returned (.bool true) ∧ AK s mN nN xN yN b w.heap.size l w.heap.size D J rec (k + 1) W' ∧ Fr (fun b => InF F b ∨ b = D + 1 ∨ Sx b) W W' ∧ (∃ r, W'.heap[D + 1]? = some (.loop r)) ∧ LC (sz1 mN) (sz1 nN) R F No W') ∨ (e = .returned (.bool false) ∧ AX D Jx rec W')) Exit.ret act W3) := fun w5 W3 h2 h3 hx X h6 hX act => by
              have hDW := HDW.out
              have hlt5 := (Array.getElem?_eq_some_iff.1 h3).1
              have hl3 : W3.heap[D + 1]? = some (.loop (rec .busy none)) := (h6.block (D + 1) hlt5 (fun h => by have := hX _ h; omega)).trans h3
              have hd5 : w5.heap[D]? = some (.deferred (some [])) := (h2.block D (by have := HJK.out.sz; omega) (fun h => by
                rcases h with h | h | h
                · have := HB.out.2 _ h; have := HB.out.1; omega
                · omega
                · have := HJ.out.low _ h; omega)).trans HJK.out.df
              have hd3 : W3.heap[D]? = some (.deferred (some [])) := (h6.block D (by omega) (fun h => by have := hX _ h; omega)).trans hd5
              have hq : Fr (fun b => b = D + 1) W3 (W3.putObj (D + 1) (.loop (rec .done (some .ret)))) := Fr.putObj _ _
              have hlt3 := (Array.getElem?_eq_some_iff.1 hl3).1
              exact ⟨_, _, rf_end HREC.out (some .ret) hl3, .inr ⟨rfl, HJ.out.keepx W3 _ _ hx hq (fun b h => ⟨by omega, fun ty cs hb => hb.ne_of hl3 (fun _ h => by cases h) h⟩), World.putObj_heap_same hlt3, (World.putObj_heap_other (by omega)).trans hd3, by simp; omega⟩⟩
            gi_wp2_with fail
            refine wpIn_region_any hmix ?_
            refine wpAnyIn_round (by kernel_rfl) _ _ _ _ ?_
            refine wpAnyIn_take (i := 0) (v := ?vk8) rfl (by simp only [List.getElem?_toArray, List.getElem?_cons_zero]; rfl) (by kernel_rfl) (by kernel_rfl) (by kernel_rfl) (fun _ _ _ h => h) ⟨Or.inl ⟨by rfl, ?hyk8⟩, fun _ => rfl⟩ ?restk8
            case hyk8 => (intro w; go_simp; try with_reducible rfl)
            ((try simp only [Act.put]); (try simp only [List.setIfInBounds_toArray]); (try simp only [List.set_cons_succ]); (try simp only [List.set_cons_zero]))
            refine wpAnyIn_ready (rs := [1, 3]) (by kernel_rfl) (by simp) ?_
            refine AllReadyIn.cons rfl (fun K hK => ?_) ?_
            · go_simp
              refine hK _ _ ?_
              clear hK K
              ((try simp only [Act.put]); (try simp only [List.setIfInBounds_toArray]); (try simp only [List.set_cons_succ]); (try simp only [List.set_cons_zero]))
              refine wpAnyIn_ready (rs := [2, 3]) (by kernel_rfl) (by simp) ?_
              refine AllReadyIn.cons rfl (fun K hK => ?_) ?_
              · go_simp
                refine ⟨trivial, (callsIn_wide.2 RW2.out).mono ?_⟩
                rintro e w5 ⟨g, rfl, HR5⟩
                obtain ⟨k1, k2, k3⟩ := CC.out w5 HR5.out.2.2
                refine hK _ _ ?_
                clear hK K
                ((try simp only [Act.put]); (try simp only [List.setIfInBounds_toArray]); (try simp only [List.set_cons_succ]); (try simp only [List.set_cons_zero]))
                refine wpAnyIn_ready (rs := [3]) (by kernel_rfl) (by simp) ?_
                refine AllReadyIn.cons rfl (fun K hK => ?_) AllReadyIn.nil
                go_simp
                refine hK _ _ ?_
                clear hK K
                ((try simp only [Act.put]); (try simp only [List.setIfInBounds_toArray]); (try simp only [List.set_cons_succ]); (try simp only [List.set_cons_zero]))
                refine wpAnyIn_ready (rs := [4]) (by kernel_rfl) (by simp) ?_
                refine AllReadyIn.cons rfl (fun K hK => ?_) AllReadyIn.nil
                go_simp
                refine ⟨trivial, (callsIn_wide.2 (HS.out w5 g HR5.out.1)).mono ?_⟩
                rintro e w6 ⟨rfl, rfl⟩
                refine hK _ _ ?_
                clear hK K
                ((try simp only [Act.put]); (try simp only [List.setIfInBounds_toArray]); (try simp only [List.set_cons_succ]); (try simp only [List.set_cons_zero]))
                refine wpAnyIn_take (i := 5) (v := ?vk9) rfl (by simp only [List.getElem?_toArray, List.getElem?_cons_succ, List.getElem?_cons_zero]; rfl) (by kernel_rfl) (by kernel_rfl) (by kernel_rfl) (fun _ _ _ h => h) ⟨Or.inl ⟨by rfl, ?hyk9⟩, fun _ => rfl⟩ ?restk9
                case hyk9 => (intro w; go_simp; try with_reducible rfl)
                ((try simp only [Act.put]); (try simp only [List.setIfInBounds_toArray]); (try simp only [List.set_cons_succ]); (try simp only [List.set_cons_zero]))
                refine wpAnyIn_take (i := 7) (v := ?vk10) rfl (by simp only [List.getElem?_toArray, List.getElem?_cons_succ, List.getElem?_cons_zero]; rfl) (by kernel_rfl) (by kernel_rfl) (by kernel_rfl) (fun _ _ _ h => h) ⟨Or.inl ⟨by rfl, ?hyk10⟩, fun _ => rfl⟩ ?restk10
                case hyk10 => (intro w; go_simp; try with_reducible rfl)
                ((try simp only [Act.put]); (try simp only [List.setIfInBounds_toArray]); (try simp only [List.set_cons_succ]); (try simp only [List.set_cons_zero]))
                refine wpAnyIn_ready (rs := [6]) (by kernel_rfl) (by simp) ?_
                refine AllReadyIn.cons rfl (fun K hK => ?_) AllReadyIn.nil
                go_simp
                refine hK _ _ ?_
                clear hK K
                ((try simp only [Act.put]); (try simp only [List.setIfInBounds_toArray]); (try simp only [List.set_cons_succ]); (try simp only [List.set_cons_zero]))
                refine wpAnyIn_ready (rs := [8]) (by kernel_rfl) (by simp) ?_
                refine AllReadyIn.cons rfl (fun K hK => ?_) AllReadyIn.nil
                obtain ⟨q1, q2, q3⟩ := KEEP.out w5 HR5.out.2.2
                have hrw : ∀ g, Sx g → RowBlk w5 g := fun g hg => HJ.out.rows k w5 g q1 hg
                obtain ⟨fnY, tmpsY, assY, bodY, hY, hRY⟩ := HJ.out.round t mN nN c c' xN yN HMOD.out k w5 HKK.out HBB.out q1
                go_simp
                clear hY
                first | refine ⟨trivial, hRY.mono ?_⟩ | refine ⟨fun h => (by cases h), hRY.mono ?_⟩ | refine hRY.mono ?_
                rintro e W3 (⟨rfl, hj3, hf3⟩ | ⟨rfl, hx3, X3, hf3, hX3⟩)
                · have Q4 := Lib.hid (YESEND.out w5 W3 HR5.out.2.1 q2 q3 hrw hj3 hf3)
                  clear YESEND OUTEND GOOD KEEP hRY q1 q2 q3 hrw hj3 hf3
                  refine hK _ _ ?_
                  clear hK K
                  ((try simp only [Act.put]); (try simp only [List.setIfInBounds_toArray]); (try simp only [List.set_cons_succ]); (try simp only [List.set_cons_zero]))
                  refine wpAnyIn_take (i := 9) (v := ?vk11) rfl (by simp only [List.getElem?_toArray, List.getElem?_cons_succ, List.getElem?_cons_zero]; rfl) (by kernel_rfl) (by kernel_rfl) (by kernel_rfl) (fun _ _ _ h => h) ⟨Or.inl ⟨by rfl, ?hyk11⟩, fun _ => rfl⟩ ?restk11
                  case hyk11 => (intro w; go_simp; try with_reducible rfl)
                  ((try simp only [Act.put]); (try simp only [List.setIfInBounds_toArray]); (try simp only [List.set_cons_succ]); (try simp only [List.set_cons_zero]))
                  refine wpAnyIn_take (i := 10) (v := ?vk12) rfl (by simp only [List.getElem?_toArray, List.getElem?_cons_succ, List.getElem?_cons_zero]; rfl) (by kernel_rfl) (by kernel_rfl) (by kernel_rfl) (fun _ _ _ h => h) ⟨Or.inl ⟨by rfl, ?hyk12⟩, fun _ => rfl⟩ ?restk12
                  case hyk12 => (intro w; go_simp; try with_reducible rfl)
                  ((try simp only [Act.put]); (try simp only [List.setIfInBounds_toArray]); (try simp only [List.set_cons_succ]); (try simp only [List.set_cons_zero]))
                  refine wpAnyIn_done (by kernel_rfl) ?_ _
                  gi_wp2_with fail
                  exact Q4.out _
                · have Q4 := Lib.hid (OUTEND.out w5 W3 q2 q3 hx3 X3 hf3 hX3)
                  clear YESEND OUTEND GOOD KEEP hRY q1 q2 q3 hrw hx3 hf3 hX3
                  refine hK _ _ ?_
                  clear hK K
                  ((try simp only [Act.put]); (try simp only [List.setIfInBounds_toArray]); (try simp only [List.set_cons_succ]); (try simp only [List.set_cons_zero]))
                  refine wpAnyIn_take (i := 9) (v := ?vk13) rfl (by simp only [List.getElem?_toArray, List.getElem?_cons_succ, List.getElem?_cons_zero]; rfl) (by kernel_rfl) (by kernel_rfl) (by kernel_rfl) (fun _ _ _ h => h) ⟨Or.inl ⟨by rfl, ?hyk13⟩, fun _ => rfl⟩ ?restk13
                  case hyk13 => (intro w; go_simp; try with_reducible rfl)
                  ((try simp only [Act.put]); (try simp only [List.setIfInBounds_toArray]); (try simp only [List.set_cons_succ]); (try simp only [List.set_cons_zero]))
                  refine wpAnyIn_take (i := 10) (v := ?vk14) rfl (by simp only [List.getElem?_toArray, List.getElem?_cons_succ, List.getElem?_cons_zero]; rfl) (by kernel_rfl) (by kernel_rfl) (by kernel_rfl) (fun _ _ _ h => h) ⟨Or.inl ⟨by rfl, ?hyk14⟩, fun _ => rfl⟩ ?restk14
                  case hyk14 => (intro w; go_simp; try with_reducible rfl)
                  ((try simp only [Act.put]); (try simp only [List.setIfInBounds_toArray]); (try simp only [List.set_cons_succ]); (try simp only [List.set_cons_zero]))
                  refine wpAnyIn_done (by kernel_rfl) ?_ _
                  gi_wp2_with fail
                  exact Q4.out _
              · refine AllReadyIn.cons rfl (fun K hK => ?_) AllReadyIn.nil
                go_simp
                refine hK _ _ ?_
                clear hK K
                ((try simp only [Act.put]); (try simp only [List.setIfInBounds_toArray]); (try simp only [List.set_cons_succ]); (try simp only [List.set_cons_zero]))
                refine wpAnyIn_ready (rs := [2]) (by kernel_rfl) (by simp) ?_
                refine AllReadyIn.cons rfl (fun K hK => ?_) AllReadyIn.nil
                go_simp
                refine ⟨trivial, (callsIn_wide.2 RW2.out).mono ?_⟩
                rintro e w5 ⟨g, rfl, HR5⟩
                obtain ⟨k1, k2, k3⟩ := CC.out w5 HR5.out.2.2
                refine hK _ _ ?_
                clear hK K
                ((try simp only [Act.put]); (try simp only [List.setIfInBounds_toArray]); (try simp only [List.set_cons_succ]); (try simp only [List.set_cons_zero]))
                refine wpAnyIn_ready (rs := [4]) (by kernel_rfl) (by simp) ?_
                refine AllReadyIn.cons rfl (fun K hK => ?_) AllReadyIn.nil
                go_simp
                refine ⟨trivial, (callsIn_wide.2 (HS.out w5 g HR5.out.1)).mono ?_⟩
                rintro e w6 ⟨rfl, rfl⟩
                refine hK _ _ ?_
                clear hK K
                ((try simp only [Act.put]); (try simp only [List.setIfInBounds_toArray]); (try simp only [List.set_cons_succ]); (try simp only [List.set_cons_zero]))
                refine wpAnyIn_take (i := 5) (v := ?vk15) rfl (by simp only [List.getElem?_toArray, List.getElem?_cons_succ, List.getElem?_cons_zero]; rfl) (by kernel_rfl) (by kernel_rfl) (by kernel_rfl) (fun _ _ _ h => h) ⟨Or.inl ⟨by rfl, ?hyk15⟩, fun _ => rfl⟩ ?restk15
                case hyk15 => (intro w; go_simp; try with_reducible rfl)
                ((try simp only [Act.put]); (try simp only [List.setIfInBounds_toArray]); (try simp only [List.set_cons_succ]); (try simp only [List.set_cons_zero]))
                refine wpAnyIn_take (i := 7) (v := ?vk16) rfl (by simp only [List.getElem?_toArray, List.getElem?_cons_succ, List.getElem?_cons_zero]; rfl) (by kernel_rfl) (by kernel_rfl) (by kernel_rfl) (fun _ _ _ h => h) ⟨Or.inl ⟨by rfl, ?hyk16⟩, fun _ => rfl⟩ ?restk16
                case hyk16 => (intro w; go_simp; try with_reducible rfl)
                ((try simp only [Act.put]); (try simp only [List.setIfInBounds_toArray]); (try simp only [List.set_cons_succ]); (try simp only [List.set_cons_zero]))
                refine wpAnyIn_ready (rs := [6]) (by kernel_rfl) (by simp) ?_
                refine AllReadyIn.cons rfl (fun K hK => ?_) AllReadyIn.nil
                go_simp
                refine hK _ _ ?_
                clear hK K
                ((try simp only [Act.put]); (try simp only [List.setIfInBounds_toArray]); (try simp only [List.set_cons_succ]); (try simp only [List.set_cons_zero]))
                refine wpAnyIn_ready (rs := [8]) (by kernel_rfl) (by simp) ?_
                refine AllReadyIn.cons rfl (fun K hK => ?_) AllReadyIn.nil
                obtain ⟨q1, q2, q3⟩ := KEEP.out w5 HR5.out.2.2
                have hrw : ∀ g, Sx g → RowBlk w5 g := fun g hg => HJ.out.rows k w5 g q1 hg
                obtain ⟨fnY, tmpsY, assY, bodY, hY, hRY⟩ := HJ.out.round t mN nN c c' xN yN HMOD.out k w5 HKK.out HBB.out q1
                go_simp
                clear hY
                first | refine ⟨trivial, hRY.mono ?_⟩ | refine ⟨fun h => (by cases h), hRY.mono ?_⟩ | refine hRY.mono ?_
                rintro e W3 (⟨rfl, hj3, hf3⟩ | ⟨rfl, hx3, X3, hf3, hX3⟩)
                · have Q4 := Lib.hid (YESEND.out w5 W3 HR5.out.2.1 q2 q3 hrw hj3 hf3)
                  clear YESEND OUTEND GOOD KEEP hRY q1 q2 q3 hrw hj3 hf3
                  refine hK _ _ ?_
                  clear hK K
                  ((try simp only [Act.put]); (try simp only [List.setIfInBounds_toArray]); (try simp only [List.set_cons_succ]); (try simp only [List.set_cons_zero]))
                  refine wpAnyIn_take (i := 9) (v := ?vk17) rfl (by simp only [List.getElem?_toArray, List.getElem?_cons_succ, List.getElem?_cons_zero]; rfl) (by kernel_rfl) (by kernel_rfl) (by kernel_rfl) (fun _ _ _ h => h) ⟨Or.inl ⟨by rfl, ?hyk17⟩, fun _ => rfl⟩ ?restk17
                  case hyk17 => (intro w; go_simp; try with_reducible rfl)
                  ((try simp only [Act.put]); (try simp only [List.setIfInBounds_toArray]); (try simp only [List.set_cons_succ]); (try simp only [List.set_cons_zero]))
                  refine wpAnyIn_take (i := 10) (v := ?vk18) rfl (by simp only [List.getElem?_toArray, List.getElem?_cons_succ, List.getElem?_cons_zero]; rfl) (by kernel_rfl) (by kernel_rfl) (by kernel_rfl) (fun _ _ _ h => h) ⟨Or.inl ⟨by rfl, ?hyk18⟩, fun _ => rfl⟩ ?restk18
                  case hyk18 => (intro w; go_simp; try with_reducible rfl)
                  ((try simp only [Act.put]); (try simp only [List.setIfInBounds_toArray]); (try simp only [List.set_cons_succ]); (try simp only [List.set_cons_zero]))
                  refine wpAnyIn_done (by kernel_rfl) ?_ _
                  gi_wp2_with fail
                  exact Q4.out _
                · have Q4 := Lib.hid (OUTEND.out w5 W3 q2 q3 hx3 X3 hf3 hX3)
                  clear YESEND OUTEND GOOD KEEP hRY q1 q2 q3 hrw hx3 hf3 hX3
                  refine hK _ _ ?_
                  clear hK K
                  ((try simp only [Act.put]); (try simp only [List.setIfInBounds_toArray]); (try simp only [List.set_cons_succ]); (try simp only [List.set_cons_zero]))
                  refine wpAnyIn_take (i := 9) (v := ?vk19) rfl (by simp only [List.getElem?_toArray, List.getElem?_cons_succ, List.getElem?_cons_zero]; rfl) (by kernel_rfl) (by kernel_rfl) (by kernel_rfl) (fun _ _ _ h => h) ⟨Or.inl ⟨by rfl, ?hyk19⟩, fun _ => rfl⟩ ?restk19
                  case hyk19 => (intro w; go_simp; try with_reducible rfl)
                  ((try simp only [Act.put]); (try simp only [List.setIfInBounds_toArray]); (try simp only [List.set_cons_succ]); (try simp only [List.set_cons_zero]))
                  refine wpAnyIn_take (i := 10) (v := ?vk20) rfl (by simp only [List.getElem?_toArray, List.getElem?_cons_succ, List.getElem?_cons_zero]; rfl) (by kernel_rfl) (by kernel_rfl) (by kernel_rfl) (fun _ _ _ h => h) ⟨Or.inl ⟨by rfl, ?hyk20⟩, fun _ => rfl⟩ ?restk20
                  case hyk20 => (intro w; go_simp; try with_reducible rfl)
                  ((try simp only [Act.put]); (try simp only [List.setIfInBounds_toArray]); (try simp only [List.set_cons_succ]); (try simp only [List.set_cons_zero]))
                  refine wpAnyIn_done (by kernel_rfl) ?_ _
                  gi_wp2_with fail
                  exact Q4.out _
            · refine AllReadyIn.cons rfl (fun K hK => ?_) AllReadyIn.nil
              go_simp
              refine hK _ _ ?_
              clear hK K
              ((try simp only [Act.put]); (try simp only [List.setIfInBounds_toArray]); (try simp only [List.set_cons_succ]); (try simp only [List.set_cons_zero]))
              refine wpAnyIn_ready (rs := [1]) (by kernel_rfl) (by simp) ?_
              refine AllReadyIn.cons rfl (fun K hK => ?_) AllReadyIn.nil
              go_simp
              refine hK _ _ ?_
              clear hK K
              ((try simp only [Act.put]); (try simp only [List.setIfInBounds_toArray]); (try simp only [List.set_cons_succ]); (try simp only [List.set_cons_zero]))
              refine wpAnyIn_ready (rs := [2]) (by kernel_rfl) (by simp) ?_
              refine AllReadyIn.cons rfl (fun K hK => ?_) AllReadyIn.nil
              go_simp
              refine ⟨trivial, (callsIn_wide.2 RW2.out).mono ?_⟩
              rintro e w5 ⟨g, rfl, HR5⟩
              obtain ⟨k1, k2, k3⟩ := CC.out w5 HR5.out.2.2
              refine hK _ _ ?_
              clear hK K
              ((try simp only [Act.put]); (try simp only [List.setIfInBounds_toArray]); (try simp only [List.set_cons_succ]); (try simp only [List.set_cons_zero]))
              refine wpAnyIn_ready (rs := [4]) (by kernel_rfl) (by simp) ?_
              refine AllReadyIn.cons rfl (fun K hK => ?_) AllReadyIn.nil
              go_simp
              refine ⟨trivial, (callsIn_wide.2 (HS.out w5 g HR5.out.1)).mono ?_⟩
              rintro e w6 ⟨rfl, rfl⟩
              refine hK _ _ ?_
              clear hK K
              ((try simp only [Act.put]); (try simp only [List.setIfInBounds_toArray]); (try simp only [List.set_cons_succ]); (try simp only [List.set_cons_zero]))
              refine wpAnyIn_take (i := 5) (v := ?vk21) rfl (by simp only [List.getElem?_toArray, List.getElem?_cons_succ, List.getElem?_cons_zero]; rfl) (by kernel_rfl) (by kernel_rfl) (by kernel_rfl) (fun _ _ _ h => h) ⟨Or.inl ⟨by rfl, ?hyk21⟩, fun _ => rfl⟩ ?restk21
              case hyk21 => (intro w; go_simp; try with_reducible rfl)
              ((try simp only [Act.put]); (try simp only [List.setIfInBounds_toArray]); (try simp only [List.set_cons_succ]); (try simp only [List.set_cons_zero]))
              refine wpAnyIn_take (i := 7) (v := ?vk22) rfl (by simp only [List.getElem?_toArray, List.getElem?_cons_succ, List.getElem?_cons_zero]; rfl) (by kernel_rfl) (by kernel_rfl) (by kernel_rfl) (fun _ _ _ h => h) ⟨Or.inl ⟨by rfl, ?hyk22⟩, fun _ => rfl⟩ ?restk22
              case hyk22 => (intro w; go_simp; try with_reducible rfl)
              ((try simp only [Act.put]); (try simp only [List.setIfInBounds_toArray]); (try simp only [List.set_cons_succ]); (try simp only [List.set_cons_zero]))
              refine wpAnyIn_ready (rs := [6]) (by kernel_rfl) (by simp) ?_
              refine AllReadyIn.cons rfl (fun K hK => ?_) AllReadyIn.nil
              go_simp
              refine hK _ _ ?_
              clear hK K
              ((try simp only [Act.put]); (try simp only [List.setIfInBounds_toArray]); (try simp only [List.set_cons_succ]); (try simp only [List.set_cons_zero]))
              refine wpAnyIn_ready (rs := [8]) (by kernel_rfl) (by simp) ?_
              refine AllReadyIn.cons rfl (fun K hK => ?_) AllReadyIn.nil
              obtain ⟨q1, q2, q3⟩ := KEEP.out w5 HR5.out.2.2
              have hrw : ∀ g, Sx g → RowBlk w5 g := fun g hg => HJ.out.rows k w5 g q1 hg
              obtain ⟨fnY, tmpsY, assY, bodY, hY, hRY⟩ := HJ.out.round t mN nN c c' xN yN HMOD.out k w5 HKK.out HBB.out q1
              go_simp
              clear hY
              first | refine ⟨trivial, hRY.mono ?_⟩ | refine ⟨fun h => (by cases h), hRY.mono ?_⟩ | refine hRY.mono ?_
              rintro e W3 (⟨rfl, hj3, hf3⟩ | ⟨rfl, hx3, X3, hf3, hX3⟩)
              · have Q4 := Lib.hid (YESEND.out w5 W3 HR5.out.2.1 q2 q3 hrw hj3 hf3)
                clear YESEND OUTEND GOOD KEEP hRY q1 q2 q3 hrw hj3 hf3
                refine hK _ _ ?_
                clear hK K
                ((try simp only [Act.put]); (try simp only [List.setIfInBounds_toArray]); (try simp only [List.set_cons_succ]); (try simp only [List.set_cons_zero]))
                refine wpAnyIn_take (i := 9) (v := ?vk23) rfl (by simp only [List.getElem?_toArray, List.getElem?_cons_succ, List.getElem?_cons_zero]; rfl) (by kernel_rfl) (by kernel_rfl) (by kernel_rfl) (fun _ _ _ h => h) ⟨Or.inl ⟨by rfl, ?hyk23⟩, fun _ => rfl⟩ ?restk23
                case hyk23 => (intro w; go_simp; try with_reducible rfl)
                ((try simp only [Act.put]); (try simp only [List.setIfInBounds_toArray]); (try simp only [List.set_cons_succ]); (try simp only [List.set_cons_zero]))
                refine wpAnyIn_take (i := 10) (v := ?vk24) rfl (by simp only [List.getElem?_toArray, List.getElem?_cons_succ, List.getElem?_cons_zero]; rfl) (by kernel_rfl) (by kernel_rfl) (by kernel_rfl) (fun _ _ _ h => h) ⟨Or.inl ⟨by rfl, ?hyk24⟩, fun _ => rfl⟩ ?restk24
                case hyk24 => (intro w; go_simp; try with_reducible rfl)
                ((try simp only [Act.put]); (try simp only [List.setIfInBounds_toArray]); (try simp only [List.set_cons_succ]); (try simp only [List.set_cons_zero]))
                refine wpAnyIn_done (by kernel_rfl) ?_ _
                gi_wp2_with fail
                exact Q4.out _
              · have Q4 := Lib.hid (OUTEND.out w5 W3 q2 q3 hx3 X3 hf3 hX3)
                clear YESEND OUTEND GOOD KEEP hRY q1 q2 q3 hrw hx3 hf3 hX3
                refine hK _ _ ?_
                clear hK K
                ((try simp only [Act.put]); (try simp only [List.setIfInBounds_toArray]); (try simp only [List.set_cons_succ]); (try simp only [List.set_cons_zero]))
                refine wpAnyIn_take (i := 9) (v := ?vk25) rfl (by simp only [List.getElem?_toArray, List.getElem?_cons_succ, List.getElem?_cons_zero]; rfl) (by kernel_rfl) (by kernel_rfl) (by kernel_rfl) (fun _ _ _ h => h) ⟨Or.inl ⟨by rfl, ?hyk25⟩, fun _ => rfl⟩ ?restk25
                case hyk25 => (intro w; go_simp; try with_reducible rfl)
                ((try simp only [Act.put]); (try simp only [List.setIfInBounds_toArray]); (try simp only [List.set_cons_succ]); (try simp only [List.set_cons_zero]))
                refine wpAnyIn_take (i := 10) (v := ?vk26) rfl (by simp only [List.getElem?_toArray, List.getElem?_cons_succ, List.getElem?_cons_zero]; rfl) (by kernel_rfl) (by kernel_rfl) (by kernel_rfl) (fun _ _ _ h => h) ⟨Or.inl ⟨by rfl, ?hyk26⟩, fun _ => rfl⟩ ?restk26
                case hyk26 => (intro w; go_simp; try with_reducible rfl)
                ((try simp only [Act.put]); (try simp only [List.setIfInBounds_toArray]); (try simp only [List.set_cons_succ]); (try simp only [List.set_cons_zero]))
                refine wpAnyIn_done (by kernel_rfl) ?_ _
                gi_wp2_with fail
                exact Q4.out _
        rintro e W2 ⟨hv, hj | hx⟩
        · refine ⟨hv, .ready, none, (fun h => by cases h), hj.lp, ?_⟩
          have hfp : Fr (fun b => b = D + 1) W2 (W2.putObj (D + 1) (.loop (rec .exhausted none))) := Fr.putObj _ _
          have hdp : (W2.putObj (D + 1) (.loop (rec .exhausted none))).heap[D]? = some (.deferred (some [])) := (World.putObj_heap_other (by omega)).trans hj.df
          have hjp := HJ.out.keep _ W2 _ _ hj.j hfp (fun b h => by have := HDW.out; omega)
          show Exit.inBlock 0 _ .normal _ (W2.putObj (D + 1) (.loop (rec .exhausted none)))
          generalize (W2.putObj (D + 1) (.loop (rec .exhausted none))) = W3 at hdp hjp ⊢
          have HDP := Lib.hid hdp
          have HJP := Lib.hid hjp
          clear hv hj hfp hdp hjp hf3 hb3 hs3 hD hD1 hf5 hl1 hd1 hf35 J0 hpt5 hbx5 hT5 hhi htz5 h40 m1 m2 n1 n2
          gi_wp2_with fail
          refine ⟨by simp, .inl ⟨_, _, rfl, run_takeDeferred HDP.out, ?_⟩⟩
          exact ⟨_, results_none rfl _ _ _, ⟨_, rfl⟩, .inl ⟨t, mN, nN, c, c', xN, yN, HMOD.out, HJ.out.keep _ W3 _ _ HJP.out (Fr.putObj D _) (fun b h => by have h : b = D := h; have := HDW.out; omega)⟩⟩
        · refine ⟨hv, .done, some .ret, (fun h => by cases h), hx.lp, ?_⟩
          have hfp : Fr (fun b => b = D + 1) W2 (W2.putObj (D + 1) (.loop (rec .exhausted (some .ret)))) := Fr.putObj _ _
          have hdp : (W2.putObj (D + 1) (.loop (rec .exhausted (some .ret)))).heap[D]? = some (.deferred (some [])) := (World.putObj_heap_other (by omega)).trans hx.df
          have hjp := HJ.out.keepx W2 _ _ hx.j hfp (fun b h => ⟨by have := HDW.out; omega, fun ty cs hb => hb.ne_of hx.lp (fun _ h => by cases h) h⟩)
          show Code.wpIn Fence.wide 9 Tryz.prog .ret (Exit.inBlock 0 _) _ (W2.putObj (D + 1) (.loop (rec .exhausted (some .ret))))
          generalize (W2.putObj (D + 1) (.loop (rec .exhausted (some .ret)))) = W3 at hdp hjp ⊢
          have HDP := Lib.hid hdp
          have HJP := Lib.hid hjp
          clear hv hx hfp hdp hjp hf3 hb3 hs3 hD hD1 hf5 hl1 hd1 hf35 J0 hpt5 hbx5 hT5 hhi htz5 h40 m1 m2 n1 n2
          gi_wp2_with fail
          refine ⟨by simp, .inl ⟨_, _, rfl, run_takeDeferred HDP.out, ?_⟩⟩
          exact ⟨_, results_none rfl _ _ _, ⟨_, rfl⟩, .inr (.inr (HJ.out.keepx W3 _ _ HJP.out (Fr.putObj D _) (fun b h => ⟨by have h : b = D := h; have := HDW.out; omega, fun ty cs hb => hb.ne_of HDP.out (fun _ h => by cases h) h⟩)))⟩
      · have hyd : decide (0 ≤ y ∧ y < (c' : Int)) = false := decide_eq_false hyc
        rw [hyd] at HSR
        have HE : Hid (∀ w', Fr No w1 w' → AlP s mN nN x y J Jx w') := fun w' hf => .inr (.inl ⟨NOM.out (fun h => hyc h.2), HJ.out.keep 0 w1 w' No HJ1.out hf (fun _ h => h.elim)⟩)
        gi_wp2_with fail
        refine wpIn_wide.2 ?_
        go_quiet ((first | (go_at_call 25; with_reducible exact HSL.out _) | (go_at_call 25; with_reducible exact HSR.out _)))
        gi_wp2_with fail
        exact ⟨_, results_none rfl _ _ _, ⟨_, rfl⟩, HE.out _ ((Fr.refl No w1).drewN nq)⟩
    · have hxd : decide (0 ≤ x ∧ x < (c : Int)) = false := decide_eq_false hxc
      rw [hxd] at HSL
      have HE : Hid (∀ w', Fr No w1 w' → AlP s mN nN x y J Jx w') := fun w' hf => .inr (.inl ⟨NOM.out (fun h => hxc h.1), HJ.out.keep 0 w1 w' No HJ1.out hf (fun _ h => h.elim)⟩)
      gi_wp2_with fail
      refine wpIn_wide.2 ?_
      go_quiet ((go_at_call 25; with_reducible exact HSL.out _))
      gi_wp2_with fail
      exact ⟨_, results_none rfl _ _ _, ⟨_, rfl⟩, HE.out _ ((Fr.refl No w1).drewN nq)⟩
  · have HE : Hid (∀ w', Fr No w1 w' → AlP s m n x y J Jx w') := fun w' hfd => .inr (.inl ⟨fun t mN nN a b xN yN h => hno t mN nN a b h.is h.only h.em h.en h.in3 ((kn_is h.is _).trans h.ca) ((kn_is h.is _).trans h.cb), HJ.out.keep 0 W0 w' No H0.out (hf1.trans hfd) (fun _ h => h.elim)⟩)
    clear hf1 hno
    gi_wp2_with fail
    refine wpIn_wide.2 ?_
    go_quiet (fail)
    gi_wp2_with fail
    exact ⟨_, results_none rfl _ _ _, ⟨_, rfl⟩, HE.out _ ((Fr.refl No w1).drewN nq)⟩
end Go.Proofs.YtloecimlimoanaaGreatDoor

/- Modules of the program: ModuleRelation, ModuleAlike, ModuleBest. -/
namespace Go.Proofs.YtloecimlimoanaaGreatDoor
open Go.RowKit Go.ChangeMaps Go.Shelf

attribute [local go_sem] Oper.semAt_some

/-- before the first relation that relates both -/
structure RJ (w : World) (s : List UInt8) (m n x y : Int) (D : Nat) (rec : LoopState → Option Code → Loop) (k : Nat) (W : World) : Prop where
  fr : Fr No w W
  b0 : Blk W w.heap.size 3 #[.int .i64 m]
  b1 : Blk W (w.heap.size + 1) 3 #[.int .i64 n]
  b2 : Blk W (w.heap.size + 2) 27 #[.int .i64 0, .int .i64 0, .slice none 0 0]
  b3 : Blk W (w.heap.size + 3) 4 #[.bool false]
  lp : W.heap[D + 1]? = some (.loop (rec .ready none))
  df : W.heap[D]? = some (.deferred (some []))
  tz : TZt W
  no : ∀ (t : Ty) (mN nN a b xN yN : Nat), Mod s m n x y t mN nN a b xN yN → ∀ k', k' < k → rbit t mN nN xN yN k' = false

/-- behind it -/
structure RX (w : World) (o : Option (Int × Int × List Int)) (D : Nat) (rec : LoopState → Option Code → Loop) (W : World) : Prop where
  fr : Fr No w W
  yes : ∃ m n A q c ps, o = some (m, n, ps) ∧ Blk W (w.heap.size + 2) 27 #[.int .i64 m, .int .i64 n, .slice A q c] ∧ OR W w.heap.size A q c ps
  b3 : Blk W (w.heap.size + 3) 4 #[.bool true]
  lp : W.heap[D + 1]? = some (.loop (rec .done (some .ret)))
  df : W.heap[D]? = some (.deferred (some []))

set_option maxRecDepth 100000 in
set_option maxHeartbeats 8000000 in
theorem implModRel (w : World) (s : List UInt8) (m n x y : Int) (hs : s.length ≤ maxLen) (hT : TZt w) (o : Option (Int × Int × List Int)) (ho : ModR mrO none s m n x y o) :
    Calls Tryz.prog 6 #[S s, .int .i64 m, .int .i64 n, .int .i64 x, .int .i64 y] w fun e w' => AnsR o w e w' := by
  obtain ⟨W0, hW0, hf0, h00, h01, h02, h03, hz0⟩ : ∃ W, W = (((w.alloc (.cells #[.int .i64 m] 3)).alloc (.cells #[.int .i64 n] 3)).alloc (.cells #[.int .i64 0, .int .i64 0, .slice none 0 0] 27)).alloc (.cells #[.bool false] 4) ∧ Fr No w W ∧ Blk W w.heap.size 3 #[.int .i64 m] ∧ Blk W (w.heap.size + 1) 3 #[.int .i64 n] ∧ Blk W (w.heap.size + 2) 27 #[.int .i64 0, .int .i64 0, .slice none 0 0] ∧ Blk W (w.heap.size + 3) 4 #[.bool false] ∧ W.heap.size = w.heap.size + 4 :=
    ⟨_, rfl, ((((Fr.refl No w).alloc _).alloc _).alloc _).alloc _, (((Blk.new _ _ _).alloc _).alloc _).alloc _, ((Blk.new_at _ _ _ (by simp)).alloc _).alloc _, (Blk.new_at _ _ _ (by simp)).alloc _, Blk.new_at _ _ _ (by simp), by simp⟩
  have HT0 := Lib.hid (hT.fr hf0 (fun h => h))
  have HTZ : Hid (0 < w.heap.size) := hT.1
  have HF0 := Lib.hid hf0
  have HB0 := Lib.hid (And.intro (And.intro h00 h01) (And.intro h02 h03))
  have HZ0 := Lib.hid hz0
  have HO := Lib.hid ho
  clear hf0 h00 h01 h02 h03 hz0 hT ho
  refine (callsIn_wide (n := 10)).1 ?_
  refine callsIn_of_wp_marks Tryz.func6 rfl trivial ?_ rfl
  simp only [Tryz.ntmps6, List.size_toArray, List.length_cons, List.length_nil, Nat.reduceAdd, Nat.reduceSub, Array.replicate_succ, Array.replicate_zero, List.push_toArray, List.append_toArray, List.nil_append, List.cons_append]
  have HW0 := Lib.hid hW0
  clear hW0
  gi_wp2_with fail
  simp only [Nat.add_assoc, Nat.reduceAdd]
  rw [← HW0.out]
  clear HW0
  refine ⟨trivial, (callsIn_wide.2 (alikeBy_any _ _ _ _ _ _)).mono ?_⟩
  rintro e w3 ⟨rfl, hw3⟩
  have hf3 : Fr No W0 w3 := by rw [hw3]; exact (((((Fr.refl No W0).alloc _).alloc _).alloc _).alloc _).alloc _
  have hcap3 : Cap s m n x y W0.heap.size w3 := by
    rw [hw3]
    exact ⟨((((Blk.new _ _ _).alloc _).alloc _).alloc _).alloc _, (((Blk.new_at _ _ _ (by simp)).alloc _).alloc _).alloc _, ((Blk.new_at _ _ _ (by simp)).alloc _).alloc _, (Blk.new_at _ _ _ (by simp)).alloc _, Blk.new_at _ _ _ (by simp)⟩
  have hz3 : w3.heap.size = w.heap.size + 9 := by rw [hw3]; simp [HZ0.out]
  clear hw3
  gi_wp2_with fail
  refine rf_stmt rfl (by decide) (gf := 35) (lb := #[Ptr W0.heap.size, Ptr (W0.heap.size + 1), Ptr (W0.heap.size + 2), Ptr (W0.heap.size + 3), Ptr (W0.heap.size + 4)]) rfl trivial (enters_of Tryz.func35 (by kernel_rfl) rfl) ?_
  intro fn D rec hf hD hrec W5 hW5
  have HREC := Lib.hid hrec
  have hD1 : W5.heap.size = D + 2 := by rw [hW5, hD]; simp
  have hf5 : Fr No w3 W5 := by rw [hW5]; exact ((Fr.refl _ _).alloc _).alloc _
  have hl1 : W5.heap[D + 1]? = some (.loop (rec .ready none)) := by
    rw [hW5]
    have := World.alloc_heap_new (w3.alloc (.deferred (some []))) (.loop (rec .ready none))
    rwa [World.size_alloc, ← hD] at this
  have hd1 : W5.heap[D]? = some (.deferred (some [])) := by
    rw [hW5, hD]
    exact (Below.heap_alloc _ _ _ (by simp)).trans (World.alloc_heap_new w3 _)
  have HDW : Hid (D = w.heap.size + 9 ∧ W0.heap.size = w.heap.size + 4) := ⟨by omega, HZ0.out⟩
  clear hrec hW5
  have hf35 := hf3.trans hf5
  obtain ⟨⟨g0, g1⟩, g2, g3⟩ := HB0.out
  have J0 : RJ w s m n x y D rec 0 W5 := ⟨HF0.out.trans hf35, g0.fr hf35 (fun h => h), g1.fr hf35 (fun h => h), g2.fr hf35 (fun h => h), g3.fr hf35 (fun h => h), hl1, hd1, HT0.out.fr hf35 (fun h => h), fun _ _ _ _ _ _ _ _ k' h => by omega⟩
  have hcap5 := hcap3.fr hf5 (fun _ _ _ h => h)
  have hT5 := HT0.out.fr hf35 (fun h => h)
  have hB0 : D + 2 = W5.heap.size := hD1.symm
  have AJ : AlJ (D + 1) W5.heap.size No s m n x y (RJ w s m n x y D rec) (RX w o D rec) := by
    refine ⟨?_, ?_, fun _ _ _ _ h => h.elim, fun _ h => h.elim, fun h => h, ?_, ?_⟩
    · intro k W W' X hj hX hb
      have hDW := HDW.out
      have nX : ∀ g, g < D + 2 → ¬ X g := fun g hg h => by have := hb g h; omega
      exact ⟨hj.fr.then_ hX (fun i hi h => by have := hb i h; omega), hj.b0.fr hX (nX _ (by omega)), hj.b1.fr hX (nX _ (by omega)), hj.b2.fr hX (nX _ (by omega)), hj.b3.fr hX (nX _ (by omega)), (hX.block _ (Array.getElem?_eq_some_iff.1 hj.lp).1 (nX _ (by omega))).trans hj.lp, (hX.block _ (Array.getElem?_eq_some_iff.1 hj.df).1 (nX _ (by omega))).trans hj.df, hj.tz.fr hX (nX _ (by have := HTZ.out; omega)), hj.no⟩
    · intro W W' X hj hX hb
      have hDW := HDW.out
      have nX : ∀ g, g < D + 2 → ¬ X g := fun g hg h => by have := (hb g h).1; omega
      obtain ⟨m', n', A, q, c, ps, e1, e2, e3⟩ := hj.yes
      refine ⟨hj.fr.then_ hX (fun i hi h => by have := (hb i h).1; omega), ⟨m', n', A, q, c, ps, e1, e2.fr hX (nX _ (by omega)), e3.fr hX (fun g ho h => ?_)⟩, hj.b3.fr hX (nX _ (by omega)), (hX.block _ (Array.getElem?_eq_some_iff.1 hj.lp).1 (nX _ (by omega))).trans hj.lp, (hX.block _ (Array.getElem?_eq_some_iff.1 hj.df).1 (nX _ (by omega))).trans hj.df⟩
      have hlt := (OR.bounds e3 ho).2
      refine OR.notAt e3 (Array.getElem?_eq_getElem hlt) (fun cs e => ?_) ho
      exact (hb g h).2 3 cs ((Array.getElem?_eq_getElem hlt).trans (congrArg some e))
    · intro t mN nN a b xN yN hm k W hj hbit
      refine ⟨hj.fr, hj.b0, hj.b1, hj.b2, hj.b3, hj.lp, hj.df, hj.tz, fun t' mN' nN' a' b' xN' yN' hm' k' hk' => ?_⟩
      obtain ⟨rfl, rfl, rfl, rfl, rfl⟩ := hm.unique hm'
      by_cases e : k' = k
      · rw [e]; exact hbit
      · exact hj.no _ _ _ _ _ _ _ hm' k' (by omega)
    · intro t mN nN a b xN yN hm k W hk hbit hj
      have HM := Lib.hid hm
      have HJK := Lib.hid hj
      have HHIT : Hid (o = some ((mN : Int), (nN : Int), numP mN nN k)) := by
        show _ = _
        rw [HO.out.yes hm]
        unfold mrO
        rw [find_first hk hbit (hj.no _ _ _ _ _ _ _ hm)]
        rfl
      obtain ⟨m1, m3, n1, n3⟩ := hm.sizes
      obtain rfl := hm.em
      obtain rfl := hm.en
      have HNUM : Hid (relNumO mN nN k = some ((mN : Int), (nN : Int), numP mN nN k)) := numO_eq (numOk m1 m3 n1 n3 hk)
      clear hj hm hbit hk hf3 hcap3 hz3 hD hD1 hf5 hl1 hd1 hf35 J0 hcap5 hT5 g0 g1 g2 g3
      refine rf_round HREC.out hf HJK.out.lp rfl ?_
      gi_wp2_with fail
      refine ⟨_, rf_begin HREC.out HJK.out.lp, ?_⟩
      have hfp : Fr (fun b => b = D + 1) W (W.putObj (D + 1) (.loop (rec .busy none))) := Fr.putObj _ _
      have nb : ∀ {g ty cs}, Blk W g ty cs → ¬ (g = D + 1) := fun hb => hb.ne_of HJK.out.lp (fun _ h => by cases h)
      have hlp2 : (W.putObj (D + 1) (.loop (rec .busy none))).heap[D + 1]? = some (.loop (rec .busy none)) := World.putObj_heap_same (Array.getElem?_eq_some_iff.1 HJK.out.lp).1
      have c0 := HJK.out.b0.fr hfp (nb HJK.out.b0)
      have c1 := HJK.out.b1.fr hfp (nb HJK.out.b1)
      have c2 := HJK.out.b2.fr hfp (nb HJK.out.b2)
      have c3 := HJK.out.b3.fr hfp (nb HJK.out.b3)
      have hdf2 : (W.putObj (D + 1) (.loop (rec .busy none))).heap[D]? = some (.deferred (some [])) := (World.putObj_heap_other (by omega)).trans HJK.out.df
      have htz2 := HJK.out.tz.fr hfp (fun h => by have := HTZ.out; have := HDW.out; omega)
      have hfw2 : Fr No w (W.putObj (D + 1) (.loop (rec .busy none))) := HJK.out.fr.then_ hfp (fun b hb h => by have := HDW.out; omega)
      generalize (W.putObj (D + 1) (.loop (rec .busy none))) = V2 at hfp hlp2 c0 c1 c2 c3 hdf2 htz2 hfw2 ⊢
      have RNC := Lib.hid (implRelNumber V2 mN nN k htz2)
      rw [HNUM.out] at RNC
      have HV2 := Lib.hid (And.intro (And.intro c2 c3) (And.intro hlp2 (And.intro hdf2 (And.intro hfw2 hfp))))
      have u0 : V2.cell? ⟨w.heap.size, 0, none⟩ = some (.int .i64 mN) := (c0.cell 0).trans rfl
      have u1 : V2.cell? ⟨w.heap.size + 1, 0, none⟩ = some (.int .i64 nN) := (c1.cell 0).trans rfl
      clear hfp nb hlp2 c0 c1 c2 c3 hdf2 htz2 hfw2
      gi_wp2_with fail
      refine ⟨trivial, (callsIn_wide.2 RNC.out).mono ?_⟩
      rintro e w6 ⟨A6, q6, c6, rfl, hf6, hor6⟩
      simp only [Option.getD_some, Option.isSome_some] at hor6 ⊢
      obtain ⟨⟨c2, c3⟩, hlp2, hdf2, hfw2, hfp⟩ := HV2.out
      have d2 := c2.fr hf6 (fun h => h)
      have d3 := c3.fr hf6 (fun h => h)
      have hlp6 := (hf6.block (D + 1) (Array.getElem?_eq_some_iff.1 hlp2).1 (fun h => h)).trans hlp2
      have hdf6 := (hf6.block D (Array.getElem?_eq_some_iff.1 hdf2).1 (fun h => h)).trans hdf2
      have hDW := HDW.out
      have END : Hid (∀ act : Act, roundPost Tryz.prog (D + 1) (fun e W' => (e = .returned (.bool true) ∧ RJ w s mN nN x y D rec (k + 1) W' ∧ Fr No W W') ∨ (e = .returned (.bool false) ∧ RX w o D rec W' ∧ ∃ X, Fr X W W' ∧ ∀ g, X g → g < W5.heap.size)) Exit.ret act ((((w6.setCell ⟨w.heap.size + 2, 0, none⟩ (.int .i64 mN)).setCell ⟨w.heap.size + 2, 1, none⟩ (.int .i64 nN)).setCell ⟨w.heap.size + 2, 2, none⟩ (.slice A6 q6 c6)).setCell ⟨w.heap.size + 3, 0, none⟩ (.bool true))) := by
        intro act
        have hfs1 : Fr (One (w.heap.size + 2)) w6 (((w6.setCell ⟨w.heap.size + 2, 0, none⟩ (.int .i64 mN)).setCell ⟨w.heap.size + 2, 1, none⟩ (.int .i64 nN)).setCell ⟨w.heap.size + 2, 2, none⟩ (.slice A6 q6 c6)) := (((Fr.refl (One (w.heap.size + 2)) w6).setCell (p := ⟨w.heap.size + 2, 0, none⟩) (.inl rfl) _).setCell (p := ⟨w.heap.size + 2, 1, none⟩) (.inl rfl) _).setCell (p := ⟨w.heap.size + 2, 2, none⟩) (.inl rfl) _
        have e2 := ((d2.set_ 0 (.int .i64 mN)).set_ 1 (.int .i64 nN)).set_ 2 (.slice A6 q6 c6)
        have e3 := d3.fr hfs1 (fun h => by have h : w.heap.size + 3 = w.heap.size + 2 := h; omega)
        have hfs2 : Fr (One (w.heap.size + 3)) (((w6.setCell ⟨w.heap.size + 2, 0, none⟩ (.int .i64 mN)).setCell ⟨w.heap.size + 2, 1, none⟩ (.int .i64 nN)).setCell ⟨w.heap.size + 2, 2, none⟩ (.slice A6 q6 c6)) ((((w6.setCell ⟨w.heap.size + 2, 0, none⟩ (.int .i64 mN)).setCell ⟨w.heap.size + 2, 1, none⟩ (.int .i64 nN)).setCell ⟨w.heap.size + 2, 2, none⟩ (.slice A6 q6 c6)).setCell ⟨w.heap.size + 3, 0, none⟩ (.bool true)) := (Fr.refl (One (w.heap.size + 3)) _).setCell (p := ⟨w.heap.size + 3, 0, none⟩) (.inl rfl) _
        have g2 := e2.fr hfs2 (fun h => by have h : w.heap.size + 2 = w.heap.size + 3 := h; omega)
        have g3 := e3.set_ 0 (.bool true)
        have hlt6 := (Array.getElem?_eq_some_iff.1 hlp6).1
        have hl7 := (hfs1.block (D + 1) hlt6 (fun h => by have h : D + 1 = w.heap.size + 2 := h; omega)).trans hlp6
        have hl8 := (hfs2.block (D + 1) (Array.getElem?_eq_some_iff.1 hl7).1 (fun h => by have h : D + 1 = w.heap.size + 3 := h; omega)).trans hl7
        have hd7 := (hfs1.block D (by omega) (fun h => by have h : D = w.heap.size + 2 := h; omega)).trans hdf6
        have hd8 := (hfs2.block D (Array.getElem?_eq_some_iff.1 hd7).1 (fun h => by have h : D = w.heap.size + 3 := h; omega)).trans hd7
        have hV : w.heap.size + 9 ≤ V2.heap.size := by have := (Array.getElem?_eq_some_iff.1 hdf2).1; omega
        have o8 := ((hor6.low (show w.heap.size ≤ V2.heap.size by omega)).fr hfs1 (fun g ho h => by have h : g = w.heap.size + 2 := h; have := (OR.bounds hor6 ho).1; omega)).fr hfs2 (fun g ho h => by have h : g = w.heap.size + 3 := h; have := (OR.bounds hor6 ho).1; omega)
        generalize ((((w6.setCell ⟨w.heap.size + 2, 0, none⟩ (.int .i64 mN)).setCell ⟨w.heap.size + 2, 1, none⟩ (.int .i64 nN)).setCell ⟨w.heap.size + 2, 2, none⟩ (.slice A6 q6 c6)).setCell ⟨w.heap.size + 3, 0, none⟩ (.bool true)) = W8 at hfs2 g2 g3 hl8 hd8 o8 ⊢
        have hq : Fr (fun b => b = D + 1) W8 (W8.putObj (D + 1) (.loop (rec .done (some .ret)))) := Fr.putObj _ _
        have hX : Fr (fun b => b = D + 1 ∨ b = w.heap.size + 2 ∨ b = w.heap.size + 3) W (W8.putObj (D + 1) (.loop (rec .done (some .ret)))) :=
          ((((hfp.mono (fun _ _ h => .inl h)).trans (hf6.mono (fun _ _ h => h.elim))).trans (hfs1.mono (fun _ _ h => .inr (.inl h)))).trans (hfs2.mono (fun _ _ h => .inr (.inr h)))).trans (hq.mono (fun _ _ h => .inl h))
        have nb : ∀ {g ty cs}, Blk W8 g ty cs → ¬ (g = D + 1) := fun hb => hb.ne_of hl8 (fun _ h => by cases h)
        refine ⟨_, _, rf_end HREC.out (some .ret) hl8, .inr ⟨rfl, ⟨HJK.out.fr.then_ hX (fun b hb h => by omega), ⟨mN, nN, A6, q6, c6, numP mN nN k, HHIT.out, g2.fr hq (nb g2), o8.fr hq (fun g ho h => ?_)⟩, g3.fr hq (nb g3), World.putObj_heap_same (Array.getElem?_eq_some_iff.1 hl8).1, (World.putObj_heap_other (by omega)).trans hd8⟩, _, hX, fun g h => by omega⟩⟩
        exact OR.notAt o8 hl8 (fun cs e => by cases e) (by rw [← show g = D + 1 from h]; exact ho)
      have r0 : w6.cell? ⟨w.heap.size + 2, 0, none⟩ = some (.int .i64 0) := (d2.cell 0).trans rfl
      have r1 : w6.cell? ⟨w.heap.size + 2, 1, none⟩ = some (.int .i64 0) := (d2.cell 1).trans rfl
      have r2 : w6.cell? ⟨w.heap.size + 2, 2, none⟩ = some (.slice none 0 0) := (d2.cell 2).trans rfl
      have r3 : w6.cell? ⟨w.heap.size + 3, 0, none⟩ = some (.bool false) := (d3.cell 0).trans rfl
      have f0 := d2.frozen 0
      have f1 := d2.frozen 1
      have f2 := d2.frozen 2
      have f3 := d3.frozen 0
      have l2 := d2.lt
      have l3 := d3.lt
      clear c2 c3 hlp2 hdf2 hfw2 hfp d2 d3 hlp6 hdf6 hDW hor6 hf6 RNC u0 u1
      gi_wp2_with fail
      exact END.out _
  refine (alk_in (D + 1) W0.heap.size No s m n x y W5 hs (RJ w s m n x y D rec) (RX w o D rec) AJ hcap5 hT5 J0 (fun _ _ _ h => h) (by omega)).mono ?_
  rintro e W2 ⟨hv, hor⟩
  have hor : (∃ k, RJ w s m n x y D rec k W2 ∧ o = none) ∨ RX w o D rec W2 := by
    rcases hor with ⟨t, mN, nN, a, b, xN, yN, hm, hj⟩ | ⟨hno, hj⟩ | hx
    · refine .inl ⟨_, hj, ?_⟩
      rw [HO.out.yes hm]
      unfold mrO
      rw [find_not (hj.no _ _ _ _ _ _ _ hm)]
      rfl
    · exact .inl ⟨_, hj, HO.out.no hno⟩
    · exact .inr hx
  rcases hor with ⟨k, hj, hnone⟩ | hx
  · refine ⟨hv, .ready, none, (fun h => by cases h), hj.lp, ?_⟩
    have hDW := HDW.out
    have hfp : Fr (fun b => b = D + 1) W2 (W2.putObj (D + 1) (.loop (rec .exhausted none))) := Fr.putObj _ _
    have nb : ∀ {g ty cs}, Blk W2 g ty cs → ¬ (g = D + 1) := fun hb => hb.ne_of hj.lp (fun _ h => by cases h)
    have hdp : (W2.putObj (D + 1) (.loop (rec .exhausted none))).heap[D]? = some (.deferred (some [])) := (World.putObj_heap_other (by omega)).trans hj.df
    have d2 := hj.b2.fr hfp (nb hj.b2)
    have d3 := hj.b3.fr hfp (nb hj.b3)
    have hfa : Fr No w (W2.putObj (D + 1) (.loop (rec .exhausted none))) := hj.fr.then_ hfp (fun b hb h => by have h : b = D + 1 := h; omega)
    show Exit.inBlock 0 _ .normal _ (W2.putObj (D + 1) (.loop (rec .exhausted none)))
    generalize (W2.putObj (D + 1) (.loop (rec .exhausted none))) = W3 at hdp d2 d3 hfa ⊢
    have HDP := Lib.hid hdp
    have HFA := Lib.hid hfa
    have HD2 := Lib.hid (And.intro d2 d3)
    have r0 : W3.cell? ⟨w.heap.size + 2, 0, none⟩ = some (.int .i64 0) := (d2.cell 0).trans rfl
    have r1 : W3.cell? ⟨w.heap.size + 2, 1, none⟩ = some (.int .i64 0) := (d2.cell 1).trans rfl
    have r2 : W3.cell? ⟨w.heap.size + 2, 2, none⟩ = some (.slice none 0 0) := (d2.cell 2).trans rfl
    have r3 : W3.cell? ⟨w.heap.size + 3, 0, none⟩ = some (.bool false) := (d3.cell 0).trans rfl
    have f0 := d2.frozen 0
    have f1 := d2.frozen 1
    have f2 := d2.frozen 2
    have f3 := d3.frozen 0
    have l2 := d2.lt
    have l3 := d3.lt
    have HN := Lib.hid hnone
    clear hv hj hfp nb hdp hfa hDW hf3 hcap3 hz3 hD hD1 hf5 hl1 hd1 hf35 J0 hcap5 hT5 g0 g1 g2 g3 hB0 AJ d2 d3 hnone
    gi_wp2_with fail
    have hDW := HDW.out
    have hfs1 : Fr (One (w.heap.size + 2)) W3 (((W3.setCell ⟨w.heap.size + 2, 0, none⟩ (.int .i64 0)).setCell ⟨w.heap.size + 2, 1, none⟩ (.int .i64 0)).setCell ⟨w.heap.size + 2, 2, none⟩ (.slice none 0 0)) := (((Fr.refl (One (w.heap.size + 2)) W3).setCell (p := ⟨w.heap.size + 2, 0, none⟩) (.inl rfl) _).setCell (p := ⟨w.heap.size + 2, 1, none⟩) (.inl rfl) _).setCell (p := ⟨w.heap.size + 2, 2, none⟩) (.inl rfl) _
    have e2 := ((HD2.out.1.set_ 0 (.int .i64 0)).set_ 1 (.int .i64 0)).set_ 2 (.slice none 0 0)
    have e3 := HD2.out.2.fr hfs1 (fun h => by have h : w.heap.size + 3 = w.heap.size + 2 := h; omega)
    have hfs2 : Fr (One (w.heap.size + 3)) (((W3.setCell ⟨w.heap.size + 2, 0, none⟩ (.int .i64 0)).setCell ⟨w.heap.size + 2, 1, none⟩ (.int .i64 0)).setCell ⟨w.heap.size + 2, 2, none⟩ (.slice none 0 0)) ((((W3.setCell ⟨w.heap.size + 2, 0, none⟩ (.int .i64 0)).setCell ⟨w.heap.size + 2, 1, none⟩ (.int .i64 0)).setCell ⟨w.heap.size + 2, 2, none⟩ (.slice none 0 0)).setCell ⟨w.heap.size + 3, 0, none⟩ (.bool false)) := (Fr.refl (One (w.heap.size + 3)) _).setCell (p := ⟨w.heap.size + 3, 0, none⟩) (.inl rfl) _
    have g2 := e2.fr hfs2 (fun h => by have h : w.heap.size + 2 = w.heap.size + 3 := h; omega)
    have g3 := e3.set_ 0 (.bool false)
    have hd7 := (hfs1.block D (Array.getElem?_eq_some_iff.1 HDP.out).1 (fun h => by have h : D = w.heap.size + 2 := h; omega)).trans HDP.out
    have hd8 := (hfs2.block D (Array.getElem?_eq_some_iff.1 hd7).1 (fun h => by have h : D = w.heap.size + 3 := h; omega)).trans hd7
    have hf8 := (HFA.out.then_ hfs1 (fun b hb h => by have h : b = w.heap.size + 2 := h; omega)).then_ hfs2 (fun b hb h => by have h : b = w.heap.size + 3 := h; omega)
    generalize ((((W3.setCell ⟨w.heap.size + 2, 0, none⟩ (.int .i64 0)).setCell ⟨w.heap.size + 2, 1, none⟩ (.int .i64 0)).setCell ⟨w.heap.size + 2, 2, none⟩ (.slice none 0 0)).setCell ⟨w.heap.size + 3, 0, none⟩ (.bool false)) = W4 at hfs2 g2 g3 hd8 hf8 ⊢
    refine ⟨by simp, .inl ⟨_, _, rfl, run_takeDeferred hd8, ?_⟩⟩
    obtain ⟨W9, hW9⟩ : ∃ W9, W9 = W4.putObj D (.deferred none) := ⟨_, rfl⟩
    have hf9 : Fr (fun b => b = D) W4 W9 := by rw [hW9]; exact Fr.putObj D _
    have g2 := g2.fr hf9 (fun h => by have h : w.heap.size + 2 = D := h; omega)
    have g3 := g3.fr hf9 (fun h => by have h : w.heap.size + 3 = D := h; omega)
    rw [← hW9]
    have a0 : W9.cell? ⟨w.heap.size + 2, 0, none⟩ = some (.int .i64 0) := (g2.cell 0).trans rfl
    have a1 : W9.cell? ⟨w.heap.size + 2, 1, none⟩ = some (.int .i64 0) := (g2.cell 1).trans rfl
    have a2 : W9.cell? ⟨w.heap.size + 2, 2, none⟩ = some (.slice none 0 0) := (g2.cell 2).trans rfl
    have a3 : W9.cell? ⟨w.heap.size + 3, 0, none⟩ = some (.bool false) := (g3.cell 0).trans rfl
    refine ⟨.tuple #[RV 0 0 none 0 0, .bool false], by simp [results, Tryz.results6, go_sem, a0, a1, a2, a3], ?_⟩
    show AnsR _ _ _ _
    rw [HN.out]
    exact AnsR.none_ (hf8.then_ hf9 (fun b hb h => by have h : b = D := h; omega))
  · refine ⟨hv, .done, some .ret, (fun h => by cases h), hx.lp, ?_⟩
    have hDW := HDW.out
    obtain ⟨m', n', A, q, c, ps, e1, e2, e3⟩ := hx.yes
    have hfp : Fr (fun b => b = D + 1) W2 (W2.putObj (D + 1) (.loop (rec .exhausted (some .ret)))) := Fr.putObj _ _
    have nb : ∀ {g ty cs}, Blk W2 g ty cs → ¬ (g = D + 1) := fun hb => hb.ne_of hx.lp (fun _ h => by cases h)
    have hdp : (W2.putObj (D + 1) (.loop (rec .exhausted (some .ret)))).heap[D]? = some (.deferred (some [])) := (World.putObj_heap_other (by omega)).trans hx.df
    have d2 := e2.fr hfp (nb e2)
    have d3 := hx.b3.fr hfp (nb hx.b3)
    have o2 := e3.fr hfp (fun g ho h => by
      refine OR.notAt e3 hx.lp (fun cs e => by cases e) ?_
      rw [← show g = D + 1 from h]; exact ho)
    have hfa : Fr No w (W2.putObj (D + 1) (.loop (rec .exhausted (some .ret)))) := hx.fr.then_ hfp (fun b hb h => by have h : b = D + 1 := h; omega)
    show Code.wpIn Fence.wide 10 Tryz.prog .ret (Exit.inBlock 0 _) _ (W2.putObj (D + 1) (.loop (rec .exhausted (some .ret))))
    generalize (W2.putObj (D + 1) (.loop (rec .exhausted (some .ret)))) = W3 at hdp d2 d3 hfa o2 ⊢
    have HDP := Lib.hid hdp
    have HFA := Lib.hid hfa
    have HD2 := Lib.hid (And.intro d2 (And.intro d3 o2))
    have HN := Lib.hid e1
    clear hv hx hfp nb hdp hfa hf3 hcap3 hz3 hD hD1 hf5 hl1 hd1 hf35 J0 hcap5 hT5 g0 g1 g2 g3 hB0 AJ d2 d3 o2 e1 e2 e3 hDW
    gi_wp2_with fail
    have hDW := HDW.out
    refine ⟨by simp, .inl ⟨_, _, rfl, run_takeDeferred HDP.out, ?_⟩⟩
    obtain ⟨W9, hW9⟩ : ∃ W9, W9 = W3.putObj D (.deferred none) := ⟨_, rfl⟩
    have hf9 : Fr (fun b => b = D) W3 W9 := by rw [hW9]; exact Fr.putObj D _
    obtain ⟨d2, d3, o2⟩ := HD2.out
    have g2 := d2.fr hf9 (fun h => by have h : w.heap.size + 2 = D := h; omega)
    have g3 := d3.fr hf9 (fun h => by have h : w.heap.size + 3 = D := h; omega)
    have o9 := o2.fr hf9 (fun g ho h => by
      refine OR.notAt o2 HDP.out (fun cs e => by cases e) ?_
      rw [← show g = D from h]; exact ho)
    rw [← hW9]
    have a0 : W9.cell? ⟨w.heap.size + 2, 0, none⟩ = some (.int .i64 m') := (g2.cell 0).trans rfl
    have a1 : W9.cell? ⟨w.heap.size + 2, 1, none⟩ = some (.int .i64 n') := (g2.cell 1).trans rfl
    have a2 : W9.cell? ⟨w.heap.size + 2, 2, none⟩ = some (.slice A q c) := (g2.cell 2).trans rfl
    have a3 : W9.cell? ⟨w.heap.size + 3, 0, none⟩ = some (.bool true) := (g3.cell 0).trans rfl
    refine ⟨.tuple #[RV m' n' A q c, .bool true], by simp [results, Tryz.results6, go_sem, a0, a1, a2, a3], ?_⟩
    show AnsR _ _ _ _
    rw [HN.out]
    exact ⟨A, q, c, rfl, HFA.out.then_ hf9 (fun b hb h => by have h : b = D := h; omega), o9⟩
end Go.Proofs.YtloecimlimoanaaGreatDoor

/- ModuleBest of the program; ModuleAlike of both. -/
namespace Go.Proofs.YtloecimlimoanaaGreatDoor
open Go.RowKit Go.ChangeMaps Go.Shelf

attribute [local go_sem] Oper.semAt_some

/-- what has been put together so far -/
structure BJ (w : World) (s : List UInt8) (m n x y : Int) (D : Nat) (rec : LoopState → Option Code → Loop) (k : Nat) (W : World) : Prop where
  fr : Fr No w W
  b0 : Blk W w.heap.size 27 #[.int .i64 0, .int .i64 0, .slice none 0 0]
  bb : ∃ (bb : Nat) (ff : Bool), Blk W (w.heap.size + 1) 3 #[.int .i64 bb] ∧ Blk W (w.heap.size + 2) 4 #[.bool ff] ∧ (k = 0 → bb = 0 ∧ ff = false) ∧ ∀ (t : Ty) (mN nN a b xN yN : Nat), Mod s m n x y t mN nN a b xN yN → bb = bst (rbit t mN nN xN yN) k ∧ ff = fnd (rbit t mN nN xN yN) k
  lp : W.heap[D + 1]? = some (.loop (rec .ready none))
  df : W.heap[D]? = some (.deferred (some []))
  tz : TZt W

set_option maxRecDepth 100000 in
set_option maxHeartbeats 8000000 in
theorem implModBest (w : World) (s : List UInt8) (m n x y : Int) (hs : s.length ≤ maxLen) (hT : TZt w) (o : Option (Int × Int × List Int)) (ho : ModR mbO none s m n x y o) :
    Calls Tryz.prog 9 #[S s, .int .i64 m, .int .i64 n, .int .i64 x, .int .i64 y] w fun e w' => AnsR o w e w' := by
  obtain ⟨W0, hW0, hf0, h00, h01, h02, hz0⟩ : ∃ W, W = ((w.alloc (.cells #[.int .i64 0, .int .i64 0, .slice none 0 0] 27)).alloc (.cells #[.int .i64 0] 3)).alloc (.cells #[.bool false] 4) ∧ Fr No w W ∧ Blk W w.heap.size 27 #[.int .i64 0, .int .i64 0, .slice none 0 0] ∧ Blk W (w.heap.size + 1) 3 #[.int .i64 0] ∧ Blk W (w.heap.size + 2) 4 #[.bool false] ∧ W.heap.size = w.heap.size + 3 :=
    ⟨_, rfl, (((Fr.refl No w).alloc _).alloc _).alloc _, ((Blk.new _ _ _).alloc _).alloc _, (Blk.new_at _ _ _ (by simp)).alloc _, Blk.new_at _ _ _ (by simp), by simp⟩
  have HT0 := Lib.hid (hT.fr hf0 (fun h => h))
  have HTZ : Hid (0 < w.heap.size) := hT.1
  have HF0 := Lib.hid hf0
  have HB0 := Lib.hid (And.intro h00 (And.intro h01 h02))
  have HZ0 := Lib.hid hz0
  have HO := Lib.hid ho
  clear hf0 h00 h01 h02 hz0 hT ho
  refine (callsIn_wide (n := 10)).1 ?_
  refine callsIn_of_wp_marks Tryz.func9 rfl trivial ?_ rfl
  simp only [Tryz.ntmps9, List.size_toArray, List.length_cons, List.length_nil, Nat.reduceAdd, Nat.reduceSub, Array.replicate_succ, Array.replicate_zero, List.push_toArray, List.append_toArray, List.nil_append, List.cons_append]
  have HW0 := Lib.hid hW0
  clear hW0
  gi_wp2_with fail
  simp only [Nat.add_assoc, Nat.reduceAdd]
  rw [← HW0.out]
  clear HW0
  refine ⟨trivial, (callsIn_wide.2 (alikeBy_any _ _ _ _ _ _)).mono ?_⟩
  rintro e w3 ⟨rfl, hw3⟩
  have hf3 : Fr No W0 w3 := by rw [hw3]; exact (((((Fr.refl No W0).alloc _).alloc _).alloc _).alloc _).alloc _
  have hcap3 : Cap s m n x y W0.heap.size w3 := by
    rw [hw3]
    exact ⟨((((Blk.new _ _ _).alloc _).alloc _).alloc _).alloc _, (((Blk.new_at _ _ _ (by simp)).alloc _).alloc _).alloc _, ((Blk.new_at _ _ _ (by simp)).alloc _).alloc _, (Blk.new_at _ _ _ (by simp)).alloc _, Blk.new_at _ _ _ (by simp)⟩
  have hz3 : w3.heap.size = w.heap.size + 8 := by rw [hw3]; simp [HZ0.out]
  clear hw3
  gi_wp2_with fail
  refine rf_stmt rfl (by decide) (gf := 35) (lb := #[Ptr W0.heap.size, Ptr (W0.heap.size + 1), Ptr (W0.heap.size + 2), Ptr (W0.heap.size + 3), Ptr (W0.heap.size + 4)]) rfl trivial (enters_of Tryz.func35 (by kernel_rfl) rfl) ?_
  intro fn D rec hf hD hrec W5 hW5
  have HREC := Lib.hid hrec
  have hD1 : W5.heap.size = D + 2 := by rw [hW5, hD]; simp
  have hf5 : Fr No w3 W5 := by rw [hW5]; exact ((Fr.refl _ _).alloc _).alloc _
  have hl1 : W5.heap[D + 1]? = some (.loop (rec .ready none)) := by
    rw [hW5]
    have := World.alloc_heap_new (w3.alloc (.deferred (some []))) (.loop (rec .ready none))
    rwa [World.size_alloc, ← hD] at this
  have hd1 : W5.heap[D]? = some (.deferred (some [])) := by
    rw [hW5, hD]
    exact (Below.heap_alloc _ _ _ (by simp)).trans (World.alloc_heap_new w3 _)
  have HDW : Hid (D = w.heap.size + 8 ∧ W0.heap.size = w.heap.size + 3) := ⟨by omega, HZ0.out⟩
  clear hrec hW5
  have hf35 := hf3.trans hf5
  obtain ⟨g0, g1, g2⟩ := HB0.out
  have J0 : BJ w s m n x y D rec 0 W5 := ⟨HF0.out.trans hf35, g0.fr hf35 (fun h => h), ⟨0, false, g1.fr hf35 (fun h => h), g2.fr hf35 (fun h => h), fun _ => ⟨rfl, rfl⟩, fun _ _ _ _ _ _ _ _ => ⟨rfl, rfl⟩⟩, hl1, hd1, HT0.out.fr hf35 (fun h => h)⟩
  have hcap5 := hcap3.fr hf5 (fun _ _ _ h => h)
  have hT5 := HT0.out.fr hf35 (fun h => h)
  have hB0 : D + 2 = W5.heap.size := hD1.symm
  have AJ : AlJ (D + 1) W5.heap.size (fun g => g = D + 1 ∨ g = w.heap.size + 1 ∨ g = w.heap.size + 2) s m n x y (BJ w s m n x y D rec) (fun _ => False) := by
    have hDW := HDW.out
    refine ⟨?_, fun _ _ _ h => h.elim, ?_, fun g h => by omega, fun h => by have := HTZ.out; omega, ?_, ?_⟩
    · intro k W W' X hj hX hb
      have nX : ∀ g, g < D + 2 → ¬ X g := fun g hg h => by have := hb g h; omega
      obtain ⟨bb, ff, q1, q2, q3⟩ := hj.bb
      exact ⟨hj.fr.then_ hX (fun i hi h => by have := hb i h; omega), hj.b0.fr hX (nX _ (by omega)), ⟨bb, ff, q1.fr hX (nX _ (by omega)), q2.fr hX (nX _ (by omega)), q3⟩, (hX.block _ (Array.getElem?_eq_some_iff.1 hj.lp).1 (nX _ (by omega))).trans hj.lp, (hX.block _ (Array.getElem?_eq_some_iff.1 hj.df).1 (nX _ (by omega))).trans hj.df, hj.tz.fr hX (nX _ (by have := HTZ.out; omega))⟩
    · rintro k W g hj (rfl | rfl | rfl)
      · exact .inr ⟨_, hj.lp⟩
      · obtain ⟨bb, ff, q1, q2, q3⟩ := hj.bb
        exact .inl ⟨_, _, q1, .inl rfl⟩
      · obtain ⟨bb, ff, q1, q2, q3⟩ := hj.bb
        exact .inl ⟨_, _, q2, .inr (.inr rfl)⟩
    · intro t mN nN a b xN yN hm k W hj hbit
      obtain ⟨bb, ff, q1, q2, q3, q4⟩ := hj.bb
      refine ⟨hj.fr, hj.b0, ⟨bb, ff, q1, q2, fun h => by omega, fun t' mN' nN' a' b' xN' yN' hm' => ?_⟩, hj.lp, hj.df, hj.tz⟩
      obtain ⟨rfl, rfl, rfl, rfl, rfl⟩ := hm.unique hm'
      obtain ⟨e1, e2⟩ := q4 _ _ _ _ _ _ _ hm
      rw [bst_next, fnd_next, hbit, ← e1, ← e2]
      simp
    · intro t mN nN a b xN yN hm k W hk hbit hj
      have HJK := Lib.hid hj
      obtain ⟨bb, ff, q1, q2, q3, q4⟩ := hj.bb
      obtain ⟨m1, m3, n1, n3⟩ := hm.sizes
      have h512 := (pow_facts m3 n3).1
      have hbb := (q4 _ _ _ _ _ _ _ hm).1
      have hlo : bb < 2 ^ (mN * nN) := by rw [hbb]; exact bst_lt _ (by omega)
      have hor : bits .or .i64 (bb : Int) (k : Int) = ((bb ||| k : Nat) : Int) := i64_or_nat bb k (by omega) (by omega)
      have HNX : Hid (∀ (t' : Ty) (mN' nN' a' b' xN' yN' : Nat), Mod s m n x y t' mN' nN' a' b' xN' yN' → (bb ||| k) = bst (rbit t' mN' nN' xN' yN') (k + 1) ∧ true = fnd (rbit t' mN' nN' xN' yN') (k + 1)) := by
        intro t' mN' nN' a' b' xN' yN' hm'
        obtain ⟨rfl, rfl, rfl, rfl, rfl⟩ := hm.unique hm'
        rw [bst_next, fnd_next, hbit, ← hbb]
        simp
      have hW1 := (Array.getElem?_eq_some_iff.1 hj.df).1
      clear hj hm hbit hk hf3 hcap3 hz3 hD hD1 hf5 hl1 hd1 hf35 J0 hcap5 hT5 g0 g1 g2 q3 q4 hbb hlo h512 m1 m3 n1 n3 hDW
      refine rf_round HREC.out hf HJK.out.lp rfl ?_
      gi_wp2_with fail
      refine ⟨_, rf_begin HREC.out HJK.out.lp, ?_⟩
      have hfp : Fr (fun b => b = D + 1) W (W.putObj (D + 1) (.loop (rec .busy none))) := Fr.putObj _ _
      have nb : ∀ {g ty cs}, Blk W g ty cs → ¬ (g = D + 1) := fun hb => hb.ne_of HJK.out.lp (fun _ h => by cases h)
      have hlp2 : (W.putObj (D + 1) (.loop (rec .busy none))).heap[D + 1]? = some (.loop (rec .busy none)) := World.putObj_heap_same (Array.getElem?_eq_some_iff.1 HJK.out.lp).1
      have c1 := q1.fr hfp (nb q1)
      have c2 := q2.fr hfp (nb q2)
      generalize (W.putObj (D + 1) (.loop (rec .busy none))) = V2 at hfp hlp2 c1 c2 ⊢
      have END : Hid (∀ act : Act, roundPost Tryz.prog (D + 1) (fun e W' => e = .returned (.bool true) ∧ BJ w s m n x y D rec (k + 1) W' ∧ Fr (fun g => g = D + 1 ∨ g = w.heap.size + 1 ∨ g = w.heap.size + 2) W W') Exit.normal act ((V2.setCell ⟨w.heap.size + 1, 0, none⟩ (.int .i64 ((bb ||| k : Nat) : Int))).setCell ⟨w.heap.size + 2, 0, none⟩ (.bool true))) := by
        intro act
        have hDW := HDW.out
        have hfs1 : Fr (One (w.heap.size + 1)) V2 (V2.setCell ⟨w.heap.size + 1, 0, none⟩ (.int .i64 ((bb ||| k : Nat) : Int))) := (Fr.refl (One (w.heap.size + 1)) V2).setCell (p := ⟨w.heap.size + 1, 0, none⟩) (.inl rfl) _
        have e1 := c1.set_ 0 (.int .i64 ((bb ||| k : Nat) : Int))
        have e2 := c2.fr hfs1 (fun h => by have h : w.heap.size + 2 = w.heap.size + 1 := h; omega)
        have hfs2 : Fr (One (w.heap.size + 2)) (V2.setCell ⟨w.heap.size + 1, 0, none⟩ (.int .i64 ((bb ||| k : Nat) : Int))) ((V2.setCell ⟨w.heap.size + 1, 0, none⟩ (.int .i64 ((bb ||| k : Nat) : Int))).setCell ⟨w.heap.size + 2, 0, none⟩ (.bool true)) := (Fr.refl (One (w.heap.size + 2)) _).setCell (p := ⟨w.heap.size + 2, 0, none⟩) (.inl rfl) _
        have g1 := e1.fr hfs2 (fun h => by have h : w.heap.size + 1 = w.heap.size + 2 := h; omega)
        have g2 := e2.set_ 0 (.bool true)
        have hl7 := (hfs1.block (D + 1) (Array.getElem?_eq_some_iff.1 hlp2).1 (fun h => by have h : D + 1 = w.heap.size + 1 := h; omega)).trans hlp2
        have hl8 := (hfs2.block (D + 1) (Array.getElem?_eq_some_iff.1 hl7).1 (fun h => by have h : D + 1 = w.heap.size + 2 := h; omega)).trans hl7
        generalize ((V2.setCell ⟨w.heap.size + 1, 0, none⟩ (.int .i64 ((bb ||| k : Nat) : Int))).setCell ⟨w.heap.size + 2, 0, none⟩ (.bool true)) = W8 at hfs2 g1 g2 hl8 ⊢
        have hq : Fr (fun b => b = D + 1) W8 (W8.putObj (D + 1) (.loop (rec .ready none))) := Fr.putObj _ _
        have hX : Fr (fun g => g = D + 1 ∨ g = w.heap.size + 1 ∨ g = w.heap.size + 2) W (W8.putObj (D + 1) (.loop (rec .ready none))) :=
          (((hfp.mono (fun _ _ h => .inl h)).trans (hfs1.mono (fun _ _ h => .inr (.inl h)))).trans (hfs2.mono (fun _ _ h => .inr (.inr h)))).trans (hq.mono (fun _ _ h => .inl h))
        have nb8 : ∀ {g ty cs}, Blk W8 g ty cs → ¬ (g = D + 1) := fun hb => hb.ne_of hl8 (fun _ h => by cases h)
        exact ⟨_, _, rf_end HREC.out none hl8, rfl, ⟨HJK.out.fr.then_ hX (fun b hb h => by omega), HJK.out.b0.fr hX (by omega), ⟨bb ||| k, true, g1.fr hq (nb8 g1), g2.fr hq (nb8 g2), fun h => by omega, HNX.out⟩, World.putObj_heap_same (Array.getElem?_eq_some_iff.1 hl8).1, (hX.block D hW1 (by omega)).trans HJK.out.df, HJK.out.tz.fr hX (by have := HTZ.out; omega)⟩, hX⟩
      have r1 : V2.cell? ⟨w.heap.size + 1, 0, none⟩ = some (.int .i64 bb) := (c1.cell 0).trans rfl
      have r2 : V2.cell? ⟨w.heap.size + 2, 0, none⟩ = some (.bool ff) := (c2.cell 0).trans rfl
      have f1 := c1.frozen 0
      have f2 := c2.frozen 0
      have l1 := c1.lt
      have l2 := c2.lt
      clear hfp nb hlp2 c1 c2 q1 q2 hB0
      gi_wp2_with fail
      exact END.out _
  refine (alk_in (D + 1) W0.heap.size _ s m n x y W5 hs (BJ w s m n x y D rec) (fun _ => False) AJ hcap5 hT5 J0 (fun k h1 h2 h => by have := HDW.out; omega) (by omega)).mono ?_
  rintro e W2 ⟨hv, hor⟩
  obtain ⟨k, hj, hres⟩ : ∃ k, BJ w s m n x y D rec k W2 ∧ ∀ (bb : Nat) (ff : Bool), ((k = 0 → bb = 0 ∧ ff = false) ∧ ∀ (t : Ty) (mN nN a b xN yN : Nat), Mod s m n x y t mN nN a b xN yN → bb = bst (rbit t mN nN xN yN) k ∧ ff = fnd (rbit t mN nN xN yN) k) → (ff = false → o = none) ∧ (ff = true → ∃ mN nN : Nat, m = mN ∧ n = nN ∧ o = some ((mN : Int), (nN : Int), numP mN nN bb) ∧ NumOk mN nN bb) := by
    rcases hor with ⟨t, mN, nN, a, b, xN, yN, hm, hj⟩ | ⟨hno, hj⟩ | hx
    · refine ⟨_, hj, fun bb ff h => ?_⟩
      obtain ⟨e1, e2⟩ := h.2 _ _ _ _ _ _ _ hm
      obtain ⟨m1, m3, n1, n3⟩ := hm.sizes
      rw [HO.out.yes hm]
      refine ⟨fun hf => ?_, fun hf => ⟨mN, nN, hm.em, hm.en, ?_, ?_⟩⟩
      · unfold mbO
        rw [← e2, hf]
        rfl
      · unfold mbO
        rw [← e2, hf, ← e1]
        rfl
      · exact numOk m1 m3 n1 n3 (by rw [e1]; exact bst_lt _ (Nat.le_refl _))
    · refine ⟨_, hj, fun bb ff h => ⟨fun _ => HO.out.no hno, fun hf => ?_⟩⟩
      rw [(h.1 rfl).2] at hf
      cases hf
    · exact hx.elim
  refine ⟨hv, .ready, none, (fun h => by cases h), hj.lp, ?_⟩
  have hDW := HDW.out
  have hfp : Fr (fun b => b = D + 1) W2 (W2.putObj (D + 1) (.loop (rec .exhausted none))) := Fr.putObj _ _
  have nb : ∀ {g ty cs}, Blk W2 g ty cs → ¬ (g = D + 1) := fun hb => hb.ne_of hj.lp (fun _ h => by cases h)
  have hdp : (W2.putObj (D + 1) (.loop (rec .exhausted none))).heap[D]? = some (.deferred (some [])) := (World.putObj_heap_other (by omega)).trans hj.df
  obtain ⟨bb, ff, q1, q2, q3⟩ := hj.bb
  obtain ⟨hno, hyes⟩ := hres bb ff q3
  have d0 := hj.b0.fr hfp (nb hj.b0)
  have d1 := q1.fr hfp (nb q1)
  have d2 := q2.fr hfp (nb q2)
  have htz := hj.tz.fr hfp (by have := HTZ.out; omega)
  have hfa : Fr No w (W2.putObj (D + 1) (.loop (rec .exhausted none))) := hj.fr.then_ hfp (fun b hb h => by have h : b = D + 1 := h; omega)
  show Exit.inBlock 0 _ .normal _ (W2.putObj (D + 1) (.loop (rec .exhausted none)))
  generalize (W2.putObj (D + 1) (.loop (rec .exhausted none))) = W3 at hdp d0 d1 d2 hfa htz ⊢
  have HDP := Lib.hid hdp
  have HFA := Lib.hid hfa
  have HD0 := Lib.hid d0
  have HTZ3 := Lib.hid htz
  have HNO := Lib.hid hno
  have HYES := Lib.hid hyes
  have r0 : W3.cell? ⟨w.heap.size, 0, none⟩ = some (.int .i64 0) := (d0.cell 0).trans rfl
  have r1 : W3.cell? ⟨w.heap.size, 1, none⟩ = some (.int .i64 0) := (d0.cell 1).trans rfl
  have r2 : W3.cell? ⟨w.heap.size, 2, none⟩ = some (.slice none 0 0) := (d0.cell 2).trans rfl
  have r3 : W3.cell? ⟨w.heap.size + 1, 0, none⟩ = some (.int .i64 bb) := (d1.cell 0).trans rfl
  have r4 : W3.cell? ⟨w.heap.size + 2, 0, none⟩ = some (.bool ff) := (d2.cell 0).trans rfl
  have f0 := d0.frozen 0
  have f1 := d0.frozen 1
  have f2 := d0.frozen 2
  have l0 := d0.lt
  have l1 := d1.lt
  have l2 := d2.lt
  have HDP2 : Hid (∀ (V : World), Fr No W3 V → V.heap[D]? = some (.deferred (some []))) := fun V hf => (hf.block D (Array.getElem?_eq_some_iff.1 hdp).1 (fun h => h)).trans hdp
  clear hv hj hfp nb hdp hfa hf3 hcap3 hz3 hD hD1 hf5 hl1 hd1 hf35 J0 hcap5 hT5 g0 g1 g2 hB0 AJ d0 d1 d2 q1 q2 q3 hno hyes hres htz hor hDW
  -- the way out: a relation has been stored in the result's cell
  have OUT : Hid (∀ (V : World) (L R : Int) (A : Option Addr) (q c : Nat) (ps : List Int) (b : Bool) (B : Nat), Fr No W3 V → o.isSome = b → o.getD (0, 0, []) = (L, R, ps) → OR V B A q c ps → w.heap.size ≤ B →
      (((V.setCell ⟨w.heap.size, 0, none⟩ (.int .i64 L)).setCell ⟨w.heap.size, 1, none⟩ (.int .i64 R)).setCell ⟨w.heap.size, 2, none⟩ (.slice A q c)).heap[D]? = some (.deferred (some [])) ∧
      ∃ W9, W9 = (((V.setCell ⟨w.heap.size, 0, none⟩ (.int .i64 L)).setCell ⟨w.heap.size, 1, none⟩ (.int .i64 R)).setCell ⟨w.heap.size, 2, none⟩ (.slice A q c)).putObj D (.deferred none) ∧ W9.cell? ⟨w.heap.size, 0, none⟩ = some (.int .i64 L) ∧ W9.cell? ⟨w.heap.size, 1, none⟩ = some (.int .i64 R) ∧ W9.cell? ⟨w.heap.size, 2, none⟩ = some (.slice A q c) ∧ Hid (AnsR o w (.returned (.tuple #[RV L R A q c, .bool b])) W9)) := by
    intro V L R A q c ps b B hf hb ho hor hB
    have hDW := HDW.out
    have hr := HD0.out.fr hf (fun h => h)
    obtain ⟨j1, j2⟩ := ans_store (Nat.le_refl _) (HFA.out.trans hf) hr hor hB (.int .i64 L) (.int .i64 R) (.slice A q c)
    have hbs := ((hr.set_ 0 (.int .i64 L)).set_ 1 (.int .i64 R)).set_ 2 (.slice A q c)
    have hfs : Fr (One w.heap.size) V (((V.setCell ⟨w.heap.size, 0, none⟩ (.int .i64 L)).setCell ⟨w.heap.size, 1, none⟩ (.int .i64 R)).setCell ⟨w.heap.size, 2, none⟩ (.slice A q c)) := (((Fr.refl (One w.heap.size) V).setCell (p := ⟨w.heap.size, 0, none⟩) (.inl rfl) _).setCell (p := ⟨w.heap.size, 1, none⟩) (.inl rfl) _).setCell (p := ⟨w.heap.size, 2, none⟩) (.inl rfl) _
    have hdV := HDP2.out V hf
    have hd8 := (hfs.block D (Array.getElem?_eq_some_iff.1 hdV).1 (fun h => by have h : D = w.heap.size := h; omega)).trans hdV
    generalize (((V.setCell ⟨w.heap.size, 0, none⟩ (.int .i64 L)).setCell ⟨w.heap.size, 1, none⟩ (.int .i64 R)).setCell ⟨w.heap.size, 2, none⟩ (.slice A q c)) = W8 at j1 j2 hbs hd8 ⊢
    refine ⟨hd8, _, rfl, ?_⟩
    have hf9 : Fr (fun b => b = D) W8 (W8.putObj D (.deferred none)) := Fr.putObj _ _
    have g2 := hbs.fr hf9 (fun h => by have h : w.heap.size = D := h; omega)
    have o9 := j2.fr hf9 (fun g ho h => by
      refine OR.notAt j2 hd8 (fun cs e => by cases e) ?_
      rw [← show g = D from h]; exact ho)
    refine ⟨(g2.cell 0).trans rfl, (g2.cell 1).trans rfl, (g2.cell 2).trans rfl, A, q, c, ?_, j1.then_ hf9 (fun b hb h => by have h : b = D := h; omega), ?_⟩
    · rw [ho, hb]
    · rw [ho]; exact o9
  cases ff with
  | false =>
    have hn := HNO.out rfl
    obtain ⟨hd8, W9, hW9, a0, a1, a2, HE⟩ := OUT.out W3 0 0 none 0 0 [] false w.heap.size (Fr.refl _ _) (by rw [hn]; rfl) (by rw [hn]; rfl) ⟨rfl, rfl, .inl ⟨rfl, rfl⟩⟩ (Nat.le_refl _)
    have HW9 := Lib.hid hW9
    have HD8 := Lib.hid hd8
    clear hn hW9 hd8 OUT
    gi_wp2_with fail
    refine ⟨by simp, .inl ⟨_, _, rfl, run_takeDeferred HD8.out, ?_⟩⟩
    rw [← HW9.out]
    exact ⟨.tuple #[RV 0 0 none 0 0, .bool false], by simp [results, Tryz.results9, go_sem, a0, a1, a2], HE.out⟩
  | true =>
    obtain ⟨mN, nN, rfl, rfl, hop, hnum⟩ := HYES.out rfl
    have RNC := Lib.hid (implRelNumber W3 mN nN bb HTZ3.out)
    rw [numO_eq hnum] at RNC
    have HOP := Lib.hid hop
    clear hop hnum r0 r1 r2
    gi_wp2_with fail
    refine ⟨trivial, (callsIn_wide.2 RNC.out).mono ?_⟩
    rintro e w6 ⟨A6, q6, c6, rfl, hf6, hor6⟩
    simp only [Option.getD_some, Option.isSome_some] at hor6 ⊢
    have hr := HD0.out.fr hf6 (fun h => h)
    have r0 : w6.cell? ⟨w.heap.size, 0, none⟩ = some (.int .i64 0) := (hr.cell 0).trans rfl
    have r1 : w6.cell? ⟨w.heap.size, 1, none⟩ = some (.int .i64 0) := (hr.cell 1).trans rfl
    have r2 : w6.cell? ⟨w.heap.size, 2, none⟩ = some (.slice none 0 0) := (hr.cell 2).trans rfl
    have f0 := hr.frozen 0
    have f1 := hr.frozen 1
    have f2 := hr.frozen 2
    have l0 := hr.lt
    obtain ⟨hd8, W9, hW9, a0, a1, a2, HE⟩ := OUT.out w6 mN nN A6 q6 c6 (numP mN nN bb) true W3.heap.size hf6 (by rw [HOP.out]; rfl) (by rw [HOP.out]; rfl) hor6 HFA.out.size
    have HW9 := Lib.hid hW9
    have HD8 := Lib.hid hd8
    clear hW9 hd8 OUT hr hf6 hor6 RNC
    gi_wp2_with fail
    refine ⟨by simp, .inl ⟨_, _, rfl, run_takeDeferred HD8.out, ?_⟩⟩
    rw [← HW9.out]
    exact ⟨.tuple #[RV mN nN A6 q6 c6, .bool true], by simp [results, Tryz.results9, go_sem, a0, a1, a2], HE.out⟩
end Go.Proofs.YtloecimlimoanaaGreatDoor

/- ModuleAlike of both; the laws ModuleRelation, ModuleBest and ModuleAlike. -/
namespace Go.Proofs.YtloecimlimoanaaGreatDoor
open Go.RowKit Go.ChangeMaps Go.Shelf

/-- a relation, and whether there is one, is returned: part by part -/
def AnsCm (Lo Ro : Int) (Po : List Int) (bo : Bool) (w : World) (e : Ending) (w' : World) : Prop := ∃ A n c, e = .returned (.tuple #[RV Lo Ro A n c, .bool bo]) ∧ Fr No w w' ∧ OR w' w.heap.size A n c Po

theorem ModR.len {g : Ty → Nat → Nat → Nat → Nat → Option (Int × Int × List Int)} (hg : ∀ t m n x y a b ps, g t m n x y = some (a, b, ps) → ∃ k, ps = numP m n k) {s : List UInt8} {m n x y : Int} {o : Option (Int × Int × List Int)} (h : ModR g none s m n x y o) : (o.getD (0, 0, [])).2.2.length ≤ 100000 := by
  rcases o with _ | ⟨a, b, ps⟩
  · simp
  · rcases h with ⟨t, mN, nN, a', b', xN, yN, hm, h⟩ | ⟨_, h⟩
    · obtain ⟨k, rfl⟩ := hg _ _ _ _ _ _ _ _ h.symm
      obtain ⟨m1, m3, n1, n3⟩ := hm.sizes
      have := numP_len mN nN k
      have : mN * nN ≤ 3 * 3 := Nat.mul_le_mul m3 n3
      show (numP mN nN k).length ≤ 100000
      omega
    · cases h

theorem mrO_num (t : Ty) (m n x y : Nat) (a b : Int) (ps : List Int) (h : mrO t m n x y = some (a, b, ps)) : ∃ k, ps = numP m n k := by
  unfold mrO at h
  rcases hf : (List.range (2 ^ (m * n))).find? (rbit t m n x y) with _ | k
  · rw [hf] at h; cases h
  · rw [hf] at h
    simp at h
    exact ⟨k, h.2.2.symm⟩

theorem mbO_num (t : Ty) (m n x y : Nat) (a b : Int) (ps : List Int) (h : mbO t m n x y = some (a, b, ps)) : ∃ k, ps = numP m n k := by
  unfold mbO at h
  split at h
  · injection h with h
    injection h with h1 h
    injection h with h2 h
    exact ⟨_, h.symm⟩
  · cases h

/-- whether there is a relation -/
def AnsA (b : Bool) (w : World) (e : Ending) (w' : World) : Prop := e = .returned (.bool b) ∧ Fr No w w'

set_option maxRecDepth 100000 in
set_option maxHeartbeats 1000000 in
theorem implModAlike (w : World) (s : List UInt8) (m n x y : Int) (hs : s.length ≤ maxLen) (hT : TZt w) (o : Option (Int × Int × List Int)) (ho : ModR mrO none s m n x y o) :
    Calls Tryz.prog 12 #[S s, .int .i64 m, .int .i64 n, .int .i64 x, .int .i64 y] w fun e w' => AnsA o.isSome w e w' := by
  have C := Lib.hid (implModRel w s m n x y hs hT o ho)
  go_enter Tryz.func12, Tryz.ntmps12
  go_wp2_with fail
  refine C.out.mono ?_
  rintro e w1 ⟨A, q, c, rfl, hf1, hor⟩
  have HF1 := Lib.hid hf1
  generalize (o.getD (0, 0, [])).1 = a1 at *
  generalize (o.getD (0, 0, [])).2.1 = a2 at *
  clear hf1 hor C
  go_wp2_with fail
  go_ret
  exact ⟨rfl, HF1.out.alloc _⟩

end Go.Proofs.YtloecimlimoanaaGreatDoor
