/- ParamPair of the program. -/
import Derived.Test.YtjgbihcnfhbalaaDoorLfi
namespace Go.Proofs.YtjgbihcnfhbalaaDoor
open Go.RowKit Go.ChangeMaps Go.Shelf

attribute [local go_sem] Oper.semAt_some

/-- two elements are parametric together -/
def PairIs (s : List UInt8) (m n x y : Int) : Prop := ∃ (t : Ty) (mN nN c c' xN yN : Nat), Ty.Is s t ∧ OnlyA t ∧ m = mN ∧ n = nN ∧ In3 m n ∧ t.kn (sz1 mN) = some c ∧ t.kn (sz1 nN) = some c' ∧ x = xN ∧ y = yN ∧ xN < c ∧ yN < c' ∧ ∀ k, k < nrel t mN nN → relT (sz1 mN) (sz1 nN) (numR mN nN k) t xN yN = true

theorem PairIs.data {s : List UInt8} {mN nN : Nat} {x y : Int} {t : Ty} {c c' : Nat} (h : PairIs s mN nN x y) (hi : Ty.Is s t) (hk1 : t.kn (sz1 mN) = some c) (hk2 : t.kn (sz1 nN) = some c') : ∃ xN yN : Nat, x = xN ∧ y = yN ∧ xN < c ∧ yN < c' ∧ ∀ k, k < nrel t mN nN → relT (sz1 mN) (sz1 nN) (numR mN nN k) t xN yN = true := by
  obtain ⟨t', mN', nN', d, d', xN, yN, h1, _, h3, h4, _, h6, h7, h8, h9, h10, h11, h12⟩ := h
  have := h1.unique hi
  subst this
  have e1 : mN' = mN := by omega
  have e2 : nN' = nN := by omega
  subst e1 e2
  rw [hk1] at h6; injection h6 with h6; subst h6
  rw [hk2] at h7; injection h7 with h7; subst h7
  exact ⟨xN, yN, h8, h9, h10, h11, h12⟩

theorem lifts_any (w : World) (T : Nat) : Calls Tryd.prog 60 #[Ptr T] w fun e w' => e = .returned (.func (.func 98) #[] #[Ptr w.heap.size]) ∧ w' = w.alloc (.cells #[Ptr T] 70) := by
  go_enter Tryd.func60, Tryd.ntmps60
  go_wp2_with fail
  go_ret
  exact ⟨rfl, rfl⟩

theorem results_cellv {P : Program} {fn : Func} {p : Tmp} {ty : TypeId} (h : fn.results = #[.cell p ty]) (tmps : Array Value) (w : World) (a : Addr) (v : Value) (hp : tmps.getD p undef = .pointer (some a)) (hu : (isAgg ty).run P w = .ok false w) (hc : w.cell? a = some v) : (results fn tmps).run P w = .ok v w := by
  have hp' : tmps[p]?.getD undef = .pointer (some a) := by simpa using hp
  have hl : (loadVar ty a).run P w = .ok v w := by simp [loadVar, hu, hc]
  simp [results, h, hp', asAddr, hl]

theorem agg_bool (w : World) : (isAgg 4).run Tryd.prog w = .ok false w := by kernel_rfl

/-- between two lifted types -/
structure PJ (w : World) (t : Ty) (m n x y D : Nat) (rec : LoopState → Option Code → Loop) (k : Nat) (W : World) : Prop where
  fr : Fr No w W
  bx : Blk W w.heap.size 3 #[.int .i64 x]
  by_ : Blk W (w.heap.size + 1) 3 #[.int .i64 y]
  br : Blk W (w.heap.size + 2) 4 #[.bool false]
  lp : W.heap[D + 1]? = some (.loop (rec .ready none))
  df : W.heap[D]? = some (.deferred (some []))
  sz : D + 2 ≤ W.heap.size
  ok : ∀ k', k' < k → relT (sz1 m) (sz1 n) (numR m n k') t x y = true

/-- behind the one that fails -/
structure PX (w : World) (t : Ty) (m n x y D : Nat) (rec : LoopState → Option Code → Loop) (W : World) : Prop where
  fr : Fr No w W
  br : Blk W (w.heap.size + 2) 4 #[.bool false]
  lp : W.heap[D + 1]? = some (.loop (rec .done (some .ret)))
  df : W.heap[D]? = some (.deferred (some []))
  sz : D + 2 ≤ W.heap.size
  no : ∃ k', k' < nrel t m n ∧ relT (sz1 m) (sz1 n) (numR m n k') t x y = false

set_option maxRecDepth 100000 in
set_option maxHeartbeats 8000000 in
theorem implParamPair (w : World) (s : List UInt8) (m n x y : Int) (hs : s.length ≤ maxLen) (hT : TZt w) :
    Calls Tryd.prog 16 #[S s, .int .i64 m, .int .i64 n, .int .i64 x, .int .i64 y] w fun e w' => AnsB (PairIs s m n x y) w e w' := by
  obtain ⟨W0, hW0, hf0, hx0, hy0, hr0, hz0⟩ : ∃ W, W = ((w.alloc (.cells #[.int .i64 x] 3)).alloc (.cells #[.int .i64 y] 3)).alloc (.cells #[.bool false] 4) ∧ Fr No w W ∧ Blk W w.heap.size 3 #[.int .i64 x] ∧ Blk W (w.heap.size + 1) 3 #[.int .i64 y] ∧ Blk W (w.heap.size + 2) 4 #[.bool false] ∧ W.heap.size = w.heap.size + 3 :=
    ⟨_, rfl, (((Fr.refl No w).alloc _).alloc _).alloc _, ((Blk.new _ _ _).alloc _).alloc _, (Blk.new_at _ _ _ (by simp)).alloc _, Blk.new_at _ _ _ (by simp), by simp⟩
  have PT := Lib.hid (readParamType_any W0 s m n hs)
  have HT0 := Lib.hid (hT.fr hf0 (fun h => h))
  have HTZ : Hid (0 < w.heap.size) := hT.1
  have HF0 := Lib.hid hf0
  have HX0 := Lib.hid hx0
  have HY0 := Lib.hid hy0
  have HR0 := Lib.hid hr0
  have HZ0 := Lib.hid hz0
  clear hf0 hx0 hy0 hr0 hz0 hT
  refine (callsIn_wide (n := 9)).1 ?_
  refine callsIn_of_wp_marks Tryd.func16 rfl trivial ?_ rfl
  simp only [Tryd.ntmps16, List.size_toArray, List.length_cons, List.length_nil, Nat.reduceAdd, Nat.reduceSub, Array.replicate_succ, Array.replicate_zero, List.push_toArray, List.append_toArray, List.nil_append, List.cons_append]
  gi_wp2_with fail
  simp only [Nat.add_assoc, Nat.reduceAdd]
  rw [← hW0]
  clear hW0
  refine ⟨trivial, (callsIn_wide.2 PT.out).mono ?_⟩
  rintro e w1 ⟨hf1, ⟨t, T, mN, nN, c, c', d, hi, ha, rfl, rfl, h3, hk1, hk2, rfl, hpt⟩ | ⟨hno, rfl⟩⟩
  · have HF1 := Lib.hid hf1
    have HPT := Lib.hid hpt
    have HI := Lib.hid hi
    have HA := Lib.hid ha
    have H3 := Lib.hid h3
    have HK := Lib.hid (And.intro hk1 hk2)
    obtain ⟨s', z', a', b', hsl⟩ := hpt.sl
    obtain ⟨s2', z2', a2', b2', hsr⟩ := hpt.sr
    have bx1 := HX0.out.fr hf1 (fun h => h)
    have by1 := HY0.out.fr hf1 (fun h => h)
    have br1 := HR0.out.fr hf1 (fun h => h)
    have e6 : w1.cell? ⟨T, 6, none⟩ = some (Ptr d.gl) := (hpt.blk.cell 6).trans rfl
    have e7 : w1.cell? ⟨T, 7, none⟩ = some (Ptr d.gr) := (hpt.blk.cell 7).trans rfl
    have ex : w1.cell? ⟨w.heap.size, 0, none⟩ = some (.int .i64 x) := (bx1.cell 0).trans rfl
    have ey : w1.cell? ⟨w.heap.size + 1, 0, none⟩ = some (.int .i64 y) := (by1.cell 0).trans rfl
    have HSL : Hid (∀ j, Calls Tryd.prog 59 #[Ptr d.gl, .int .i64 x] (w1.drewN j) fun e w' => e = .returned (.bool (decide (0 ≤ x ∧ x < (c : Int)))) ∧ ∃ j', w' = w1.drewN j') := fun j => (has_set (w1.drewN j) d.gl s' z' a' b' c x hsl).mono (fun e w' h => ⟨h.1, j, h.2.symm⟩)
    have HSR : Hid (∀ j, Calls Tryd.prog 59 #[Ptr d.gr, .int .i64 y] (w1.drewN j) fun e w' => e = .returned (.bool (decide (0 ≤ y ∧ y < (c' : Int)))) ∧ ∃ j', w' = w1.drewN j') := fun j => (has_set (w1.drewN j) d.gr s2' z2' a2' b2' c' y hsr).mono (fun e w' h => ⟨h.1, j, h.2.symm⟩)
    have hTl := hpt.blk.lt
    clear hf1 hpt hi ha h3 hk1 hk2 hsl hsr by1
    by_cases hxc : 0 ≤ x ∧ x < (c : Int)
    · have hxd : decide (0 ≤ x ∧ x < (c : Int)) = true := decide_eq_true hxc
      rw [hxd] at HSL
      by_cases hyc : 0 ≤ y ∧ y < (c' : Int)
      · have hyd : decide (0 ≤ y ∧ y < (c' : Int)) = true := decide_eq_true hyc
        rw [hyd] at HSR
        gi_wp2_with fail
        refine wpIn_wide.2 ?_
        go_quiet ((first | (go_at_call 59; with_reducible exact HSL.out _) | (go_at_call 59; with_reducible exact HSR.out _)))
        obtain ⟨xN, rfl⟩ : ∃ xN : Nat, x = xN := ⟨x.toNat, by omega⟩
        obtain ⟨yN, rfl⟩ : ∃ yN : Nat, y = yN := ⟨y.toNat, by omega⟩
        have hf2 : Fr No w1 (w1.drewN nq) := (Fr.refl No w1).drewN nq
        have HPT2 := Lib.hid (HPT.out.no hf2)
        have HF2 := Lib.hid ((HF0.out.trans HF1.out).trans hf2)
        have HX2 : Hid (Blk (w1.drewN nq) w.heap.size 3 #[.int .i64 xN]) := bx1.fr hf2 (fun h => h)
        have HY2 : Hid (Blk (w1.drewN nq) (w.heap.size + 1) 3 #[.int .i64 yN]) := (HY0.out.fr HF1.out (fun h => h)).fr hf2 (fun h => h)
        have HR2 : Hid (Blk (w1.drewN nq) (w.heap.size + 2) 4 #[.bool false]) := br1.fr hf2 (fun h => h)
        have HT2 := Lib.hid ((HT0.out.fr HF1.out (fun h => h)).fr hf2 (fun h => h))
        have HZ2 : Hid (w.heap.size + 3 ≤ w1.heap.size) := by show _ ≤ _; have := HZ0.out; have := HF1.out.size; omega
        have HXY : Hid (xN < c ∧ yN < c') := ⟨by omega, by omega⟩

        have HPTlo : Hid (W0.heap.size = w.heap.size + 3) := HZ0.out
        clear e6 e7 ex ey hf2 bx1 br1 hTl hxc hyc hxd hyd HSL HSR
        gi_wp2_with fail
        refine ⟨trivial, (callsIn_wide.2 (lifts_any _ T)).mono ?_⟩
        rintro e w' ⟨rfl, rfl⟩
        gi_wp2_with fail
        have hf3 : Fr No (w1.drewN nq) ((w1.drewN nq).alloc (.cells #[Ptr T] 70)) := (Fr.refl No (w1.drewN nq)).alloc _
        have hb3 : Blk ((w1.drewN nq).alloc (.cells #[Ptr T] 70)) w1.heap.size 70 #[Ptr T] := Blk.new _ _ _
        have hs3 : ((w1.drewN nq).alloc (.cells #[Ptr T] 70)).heap.size = w1.heap.size + 1 := by simp
        generalize ((w1.drewN nq).alloc (.cells #[Ptr T] 70)) = w3 at hf3 hb3 hs3 ⊢
        refine rf_stmt rfl (by decide) (gf := 98) (lb := #[Ptr w1.heap.size]) rfl trivial (enters_of Tryd.func98 (by kernel_rfl) rfl) ?_
        intro fn D rec hf hD hrec W5 hW5
        have HREC := Lib.hid hrec
        have hD1 : W5.heap.size = D + 2 := by rw [hW5, hD]; simp
        have hf5 : Fr No w3 W5 := by rw [hW5]; exact ((Fr.refl _ _).alloc _).alloc _
        have hl1 : W5.heap[D + 1]? = some (.loop (rec .ready none)) := by
          rw [hW5]
          have := World.alloc_heap_new (w3.alloc (.deferred (some []))) (.loop (rec .ready none))
          rwa [World.size_alloc, ← hD] at this
        have hd1 : W5.heap[D]? = some (.deferred (some [])) := by
          rw [hW5, hD]
          exact (Below.heap_alloc _ _ _ (by simp)).trans (World.alloc_heap_new w3 _)
        have HDW : Hid (D = w1.heap.size + 1 ∧ w.heap.size + 3 ≤ w1.heap.size) := ⟨by omega, HZ2.out⟩
        clear hrec hW5
        have hf35 := hf3.trans hf5
        have J0 : PJ w t mN nN xN yN D rec 0 W5 := ⟨HF2.out.trans hf35, HX2.out.fr hf35 (fun h => h), HY2.out.fr hf35 (fun h => h), HR2.out.fr hf35 (fun h => h), hl1, hd1, by omega, fun k' h => by omega⟩
        have hpt5 := HPT2.out.no hf35
        have hbx5 := hb3.fr hf5 (fun h => h)
        have hT5 := HT2.out.fr hf35 (fun h => h)
        have hhi : w1.heap.size ≤ D + 1 := by have := HDW.out; omega
        have htz5 : 0 < w1.heap.size := by have := HTZ.out; have := HZ2.out; omega
        have h40 : t.size ≤ 40 := HI.out.2.2
        obtain ⟨m1, m2, n1, n2⟩ := H3.out
        have HMN : Hid (1 ≤ mN ∧ mN ≤ 3 ∧ 1 ≤ nN ∧ nN ≤ 3) := ⟨by omega, by omega, by omega, by omega⟩
        refine (lifts_in (D + 1) w1.heap.size No d T t mN nN c c' W0.heap.size w1.heap.size (PJ w t mN nN xN yN D rec) (PX w t mN nN xN yN D rec) ⟨fun _ _ _ _ h => h.elim, fun h => h, ?keep, ?round⟩ h40 HMN.out.1 HMN.out.2.1 HMN.out.2.2.1 HMN.out.2.2.2 HK.out.1 HK.out.2 W5 J0 hpt5 hbx5 hT5 hhi ⟨_, hl1⟩ htz5).mono ?_
        case keep =>
          intro k W W' X hj hfX hX
          have nb : ∀ g ty cs, Blk W g ty cs → ¬ X g := fun g ty cs hb hx => by
            obtain ⟨_, es, clk, hm⟩ := hX g hx
            exact hb.ne_map hm rfl
          refine ⟨hj.fr.then_ hfX (fun b hb hx => by have := (hX b hx).1; have := HPTlo.out; omega), hj.bx.fr hfX (nb _ _ _ hj.bx), hj.by_.fr hfX (nb _ _ _ hj.by_), hj.br.fr hfX (nb _ _ _ hj.br), ?_, ?_, Nat.le_trans hj.sz hfX.size, hj.ok⟩
          · exact (hfX.block (D + 1) (by have := hj.sz; omega) (fun hx => by obtain ⟨_, es, clk, hm⟩ := hX _ hx; rw [hj.lp] at hm; cases hm)).trans hj.lp
          · exact (hfX.block D (by have := hj.sz; omega) (fun hx => by obtain ⟨_, es, clk, hm⟩ := hX _ hx; rw [hj.df] at hm; cases hm)).trans hj.df
        case round =>
          intro k P Bk F R W hk hj hlB hBs hFB hRE hLT hLC
          have HRE := Lib.hid hRE
          have HJ := Lib.hid hj
          have HLT := Lib.hid hLT
          have HLC := Lib.hid hLC
          have HB := Lib.hid (And.intro hlB hFB)
          have HKK := Lib.hid hk
          clear hRE hj hLT hLC hlB hFB hf3 hb3 hs3 hD hD1 hf5 hl1 hd1 hf35 J0 hpt5 hbx5 hT5 hhi htz5 h40 m1 m2 n1 n2 hBs hk
          refine rf_round HREC.out hf HJ.out.lp rfl ?_
          gi_wp2_with fail
          refine ⟨_, rf_begin HREC.out HJ.out.lp, ?_⟩
          have hfp : Fr (fun b => b = D + 1) W (W.putObj (D + 1) (.loop (rec .busy none))) := Fr.putObj _ _
          have hlt2 : D + 1 < W.heap.size := by have := HJ.out.sz; omega
          have nb : ∀ {g ty cs}, Blk W g ty cs → ¬ (g = D + 1) := fun hb => hb.ne_of HJ.out.lp (fun _ h => by cases h)
          have hlp2 : (W.putObj (D + 1) (.loop (rec .busy none))).heap[D + 1]? = some (.loop (rec .busy none)) := World.putObj_heap_same hlt2
          have hsz2 : (W.putObj (D + 1) (.loop (rec .busy none))).heap.size = W.heap.size := by simp
          have hfar : Far F No (fun b => b = D + 1) W := fun g ty cs hb _ _ h => nb hb h
          have hLT2 := HLT.out.fr hfp hfar
          have hLC2 := HLC.out.fr hfp hfar (fun g hg h => by have := HB.out.2 g hg; have := HB.out.1; omega) (fun h => by have := HTZ.out; have := HDW.out; omega)
          have hbx2 := HJ.out.bx.fr hfp (nb HJ.out.bx)
          have hby2 := HJ.out.by_.fr hfp (nb HJ.out.by_)
          have hbr2 := HJ.out.br.fr hfp (nb HJ.out.br)
          have hdf2 : (W.putObj (D + 1) (.loop (rec .busy none))).heap[D]? = some (.deferred (some [])) := (World.putObj_heap_other (by omega)).trans HJ.out.df
          have hfw2 : Fr No w (W.putObj (D + 1) (.loop (rec .busy none))) := HJ.out.fr.then_ hfp (fun b hb h => by have h : b = D + 1 := h; have := HDW.out; omega)
          generalize (W.putObj (D + 1) (.loop (rec .busy none))) = V2 at hfp hlp2 hsz2 hLT2 hLC2 hbx2 hby2 hbr2 hdf2 hfw2 ⊢
          have nF : ∀ g, g < w.heap.size + 3 → ¬ InF F g := fun g hg h => by have := HB.out.2 g h; have := HB.out.1; have := HDW.out; omega
          have CC : Hid (∀ w', Fr (InF F) V2 w' → w'.cell? ⟨w.heap.size, 0, none⟩ = some (.int .i64 xN) ∧ w'.cell? ⟨w.heap.size + 1, 0, none⟩ = some (.int .i64 yN)) := fun w' hf' => ⟨((hbx2.fr hf' (nF _ (by omega))).cell 0).trans rfl, ((hby2.fr hf' (nF _ (by omega))).cell 0).trans rfl⟩
          have hd : Fr (InF F) V2 V2.drew := (Fr.refl _ V2).drew
          have hcn := kn_cnt HK.out.1
          have hcn' := kn_cnt HK.out.2
          have RW : Hid (Calls Tryd.prog 61 #[Ptr P, .int .i64 xN] V2.drew fun e w' => ∃ g : Nat, e = .returned (.slice (some ⟨g, 0, none⟩) (nw c') (nw c')) ∧ Hid ((∃ ws, Blk w' g 128 (WV ws) ∧ BitsIs ws c' (relT (sz1 mN) (sz1 nN) R t xN)) ∧ LC (sz1 mN) (sz1 nN) R F No w' ∧ Fr (InF F) V2 w')) := by
            refine (row_any (sz1_sizes HMN.out.1 HMN.out.2.1) (sz1_sizes HMN.out.2.2.1 HMN.out.2.2.2) F t No V2.drew P xN c c' (fun g h => h.elim) (hLC2.no ((Fr.refl No V2).drew)) (hLT2.fr ((Fr.refl No V2).drew) (Far.no F No V2)) hcn hcn' HXY.out.1).mono ?_
            rintro e w' ⟨v, rfl, ⟨g, ws, rfl, h1, h2, _⟩, h3, h4⟩
            exact ⟨g, rfl, ⟨ws, h1, h2⟩, h3, hd.trans h4⟩
          have hc4 := (t.cnt_bounds (sz1_sizes HMN.out.2.2.1 HMN.out.2.2.2) c' hcn').2
          obtain ⟨bb, hbb⟩ : ∃ bb, relT (sz1 mN) (sz1 nN) R t xN yN = bb := ⟨_, rfl⟩
          have HS : Hid (∀ (w' : World) (g : Nat), (∃ ws, Blk w' g 128 (WV ws) ∧ BitsIs ws c' (relT (sz1 mN) (sz1 nN) R t xN)) → Calls Tryd.prog 62 #[.slice (some ⟨g, 0, none⟩) (nw c') (nw c'), .int .i64 yN] w' fun e w2 => e = .returned (.bool bb) ∧ w' = w2) := fun w' g ⟨ws, h1, h2⟩ => by
            have h := bsHas_any w' g ws c' yN _ h1 h2 HXY.out.2 (by omega)
            rw [hbb] at h
            exact h
          have GOOD : Hid (bb = true → ∀ w5, LC (sz1 mN) (sz1 nN) R F No w5 → Fr (InF F) V2 w5 → ∀ act : Act, roundPost Tryd.prog (D + 1) (fun e W' => (e = .returned (.bool true) ∧ PJ w t mN nN xN yN D rec (k + 1) W' ∧ Fr (fun b => InF F b ∨ b = D + 1 ∨ No b) W W' ∧ (∃ r, W'.heap[D + 1]? = some (.loop r)) ∧ LC (sz1 mN) (sz1 nN) R F No W') ∨ (e = .returned (.bool false) ∧ PX w t mN nN xN yN D rec W')) Exit.normal act w5) := by
            intro hb w5 hlc5 hf5 act
            have hlp5 : w5.heap[D + 1]? = some (.loop (rec .busy none)) := (hf5.block (D + 1) (by omega) (fun h => by have := HB.out.2 _ h; have := HB.out.1; omega)).trans hlp2
            have hdf5 : w5.heap[D]? = some (.deferred (some [])) := (hf5.block D (by omega) (fun h => by have := HB.out.2 _ h; have := HB.out.1; omega)).trans hdf2
            have hq : Fr (fun b => b = D + 1) w5 (w5.putObj (D + 1) (.loop (rec .ready none))) := Fr.putObj _ _
            have nb5 : ∀ {g ty cs}, Blk w5 g ty cs → ¬ (g = D + 1) := fun hb => hb.ne_of hlp5 (fun _ h => by cases h)
            have hs5 := hf5.size
            have hlr : (w5.putObj (D + 1) (.loop (rec .ready none))).heap[D + 1]? = some (.loop (rec .ready none)) := World.putObj_heap_same (by omega)
            have hfS : Fr (fun b => InF F b ∨ b = D + 1 ∨ No b) W (w5.putObj (D + 1) (.loop (rec .ready none))) := ((hfp.mono (fun _ _ h => .inr (.inl h))).trans (hf5.mono (fun _ _ h => .inl h))).trans (hq.mono (fun _ _ h => .inr (.inl h)))
            have hbx5 := hbx2.fr hf5 (nF _ (by omega))
            have hby5 := hby2.fr hf5 (nF _ (by omega))
            have hbr5 := hbr2.fr hf5 (nF _ (by omega))
            refine ⟨_, _, rf_end HREC.out none hlp5, .inl ⟨rfl, ⟨HJ.out.fr.then_ hfS (fun b hb h => ?_), hbx5.fr hq (nb5 hbx5), hby5.fr hq (nb5 hby5), hbr5.fr hq (nb5 hbr5), hlr, (World.putObj_heap_other (by omega)).trans hdf5, Nat.le_trans HJ.out.sz hfS.size, fun k' hk' => ?_⟩, hfS, ⟨_, hlr⟩, hlc5.fr hq (fun g ty cs hb _ _ h => nb5 hb h) (fun g hg h => by have := HB.out.2 g hg; have := HB.out.1; have h : g = D + 1 := h; omega) (fun h => by have := HTZ.out; have := HDW.out; have h : 0 = D + 1 := h; omega)⟩⟩
            · rcases h with h | h | h
              · exact nF b (by omega) h
              · have := HDW.out; omega
              · exact h.elim
            · by_cases e : k' = k
              · rw [e, ← HRE.out, hbb]; exact hb
              · exact HJ.out.ok k' (by omega)
          have BAD : Hid (bb = false → ∀ w5, LC (sz1 mN) (sz1 nN) R F No w5 → Fr (InF F) V2 w5 → (w5.cell? ⟨w.heap.size + 2, 0, none⟩ = some (.bool false) ∧ w5.frozen? ⟨w.heap.size + 2, 0, none⟩ = false ∧ w.heap.size + 2 < w5.heap.size) ∧ ∀ act : Act, roundPost Tryd.prog (D + 1) (fun e W' => (e = .returned (.bool true) ∧ PJ w t mN nN xN yN D rec (k + 1) W' ∧ Fr (fun b => InF F b ∨ b = D + 1 ∨ No b) W W' ∧ (∃ r, W'.heap[D + 1]? = some (.loop r)) ∧ LC (sz1 mN) (sz1 nN) R F No W') ∨ (e = .returned (.bool false) ∧ PX w t mN nN xN yN D rec W')) Exit.ret act (w5.setCell ⟨w.heap.size + 2, 0, none⟩ (.bool false))) := by
            intro hb w5 hlc5 hf5
            have hbr5 := hbr2.fr hf5 (nF _ (by omega))
            have hlp5 : w5.heap[D + 1]? = some (.loop (rec .busy none)) := (hf5.block (D + 1) (by omega) (fun h => by have := HB.out.2 _ h; have := HB.out.1; omega)).trans hlp2
            have hdf5 : w5.heap[D]? = some (.deferred (some [])) := (hf5.block D (by omega) (fun h => by have := HB.out.2 _ h; have := HB.out.1; omega)).trans hdf2
            have hfs : Fr (fun b => b = w.heap.size + 2) w5 (w5.setCell ⟨w.heap.size + 2, 0, none⟩ (.bool false)) := (Fr.refl (fun b => b = w.heap.size + 2) w5).setCell (p := ⟨w.heap.size + 2, 0, none⟩) (.inl rfl) _
            have hDw := HDW.out
            have hs5 := hf5.size
            have hs6 := hfs.size
            have hlp6 := (hfs.block (D + 1) (by omega) (fun h => by omega)).trans hlp5
            have hdf6 := (hfs.block D (by omega) (fun h => by omega)).trans hdf5
            have hbr6 := hbr5.set_ 0 (.bool false)
            have hq : Fr (fun b => b = D + 1) (w5.setCell ⟨w.heap.size + 2, 0, none⟩ (.bool false)) ((w5.setCell ⟨w.heap.size + 2, 0, none⟩ (.bool false)).putObj (D + 1) (.loop (rec .done (some .ret)))) := Fr.putObj _ _
            have hfS : Fr (fun b => InF F b ∨ b = D + 1 ∨ b = w.heap.size + 2) W ((w5.setCell ⟨w.heap.size + 2, 0, none⟩ (.bool false)).putObj (D + 1) (.loop (rec .done (some .ret)))) := (((hfp.mono (fun _ _ h => .inr (.inl h))).trans (hf5.mono (fun _ _ h => .inl h))).trans (hfs.mono (fun _ _ h => .inr (.inr h)))).trans (hq.mono (fun _ _ h => .inr (.inl h)))
            refine ⟨⟨(hbr5.cell 0).trans rfl, hbr5.frozen 0, hbr5.lt⟩, fun act => ⟨_, _, rf_end HREC.out (some .ret) hlp6, .inr ⟨rfl, ⟨HJ.out.fr.then_ hfS (fun b hb h => ?_), hbr6.fr hq (hbr6.ne_of hlp6 (fun _ h => by cases h)), World.putObj_heap_same (by omega), (World.putObj_heap_other (by omega)).trans hdf6, Nat.le_trans HJ.out.sz hfS.size, k, HKK.out, by rw [← HRE.out, hbb]; exact hb⟩⟩⟩⟩
            rcases h with h | h | h
            · exact nF b (by omega) h
            · omega
            · omega
          have hmix : Tryd.prog.follows .mixedOrders = true := by kernel_rfl
          obtain ⟨ux, uy⟩ := CC.out V2 (Fr.refl _ _)
          clear hfp hlt2 nb hlp2 hsz2 hfar hLT2 hLC2 hbx2 hby2 hbr2 hdf2 hfw2 nF hd hcn hcn' hc4 hbb
          cases bb
          · gi_wp2_with fail
            refine wpIn_region_heldR (S := fun w' => w'.cell? ⟨w.heap.size, 0, none⟩ = some (.int .i64 xN) ∧ w'.cell? ⟨w.heap.size + 1, 0, none⟩ = some (.int .i64 yN)) hmix (by kernel_rfl) ?hLO ⟨ux, uy⟩ (fun hHeld => ?_)
            case hLO =>
              rintro ⟨a0, w0, h⟩
              exact (h : False)
            refine wpAnyH_take (i := 0) (v := ?va0) (by simp only [List.getElem?_toArray, List.getElem?_cons_zero]; rfl) (by kernel_rfl) (by kernel_rfl) (by kernel_rfl) (by exact fun _ _ _ h => h) (Or.inl ⟨by rfl, ?hya0⟩) (by assumption) ?resta0
            case hya0 => (intro w hSw; (try dsimp only at hSw); go_simp; try with_reducible rfl)
            ((try simp only [Act.put]); (try simp only [List.setIfInBounds_toArray]); (try simp only [List.set_cons_succ]); (try simp only [List.set_cons_zero]))
            refine wpAnyH_take (i := 1) (v := ?va1) (by simp only [List.getElem?_toArray, List.getElem?_cons_succ, List.getElem?_cons_zero]; rfl) (by kernel_rfl) (by kernel_rfl) (by kernel_rfl) (by exact fun _ _ _ h => h) (Or.inl ⟨by rfl, ?hya1⟩) (by assumption) ?resta1
            case hya1 => (intro w hSw; (try dsimp only at hSw); go_simp; try with_reducible rfl)
            ((try simp only [Act.put]); (try simp only [List.setIfInBounds_toArray]); (try simp only [List.set_cons_succ]); (try simp only [List.set_cons_zero]))
            refine wpAnyH_take (i := 3) (v := ?va3) (by simp only [List.getElem?_toArray, List.getElem?_cons_succ, List.getElem?_cons_zero]; rfl) (by kernel_rfl) (by kernel_rfl) (by kernel_rfl) (by exact fun _ _ _ h => h) (Or.inl ⟨by rfl, ?hya3⟩) (by assumption) ?resta3
            case hya3 => (intro w hSw; (try dsimp only at hSw); go_simp; try with_reducible rfl)
            ((try simp only [Act.put]); (try simp only [List.setIfInBounds_toArray]); (try simp only [List.set_cons_succ]); (try simp only [List.set_cons_zero]))
            refine wpAnyH_ready (rs := [2]) (by kernel_rfl) (by simp) ?_
            refine AllReadyH.cons rfl (fun K hK => ?_) AllReadyH.nil
            go_simp
            (with_reducible refine RW.out.mono ?_)
            rintro e w5 ⟨g, rfl, HR5⟩
            obtain ⟨k1, k2⟩ := CC.out w5 HR5.out.2.2
            refine hK.out _ _ ⟨k1, k2⟩ (fun hH5 => ?_)
            clear hK K
            ((try simp only [Act.put]); (try simp only [List.setIfInBounds_toArray]); (try simp only [List.set_cons_succ]); (try simp only [List.set_cons_zero]))
            refine wpAnyH_ready (rs := [4]) (by kernel_rfl) (by simp) ?_
            refine AllReadyH.cons rfl (fun K hK => ?_) AllReadyH.nil
            go_simp
            (with_reducible refine (HS.out w5 g HR5.out.1).mono ?_)
            rintro e w6 ⟨rfl, rfl⟩
            refine hK.out _ _ ⟨k1, k2⟩ (fun hH6 => ?_)
            clear hK K
            ((try simp only [Act.put]); (try simp only [List.setIfInBounds_toArray]); (try simp only [List.set_cons_succ]); (try simp only [List.set_cons_zero]))
            refine wpAnyH_take (i := 5) (v := ?vae5) (by simp only [List.getElem?_toArray, List.getElem?_cons_succ, List.getElem?_cons_zero]; rfl) (by kernel_rfl) (by kernel_rfl) (by kernel_rfl) (by exact fun _ _ _ h => h) (Or.inl ⟨by rfl, ?hyae5⟩) (by assumption) ?restae5
            case hyae5 => (intro w hSw; (try dsimp only at hSw); go_simp; try with_reducible rfl)
            ((try simp only [Act.put]); (try simp only [List.setIfInBounds_toArray]); (try simp only [List.set_cons_succ]); (try simp only [List.set_cons_zero]))
            refine wpAnyH_done (by kernel_rfl) ?_ _

            obtain ⟨⟨q1, q2, q3⟩, q4⟩ := BAD.out trivial w5 HR5.out.2.1 HR5.out.2.2
            have Q4 := Lib.hid q4
            clear q4
            gi_wp2_with fail
            exact Q4.out _
          · gi_wp2_with fail
            refine wpIn_region_heldR (S := fun w' => w'.cell? ⟨w.heap.size, 0, none⟩ = some (.int .i64 xN) ∧ w'.cell? ⟨w.heap.size + 1, 0, none⟩ = some (.int .i64 yN)) hmix (by kernel_rfl) ?hLO2 ⟨ux, uy⟩ (fun hHeld => ?_)
            case hLO2 =>
              rintro ⟨a0, w0, h⟩
              exact (h : False)
            refine wpAnyH_take (i := 0) (v := ?vb0) (by simp only [List.getElem?_toArray, List.getElem?_cons_zero]; rfl) (by kernel_rfl) (by kernel_rfl) (by kernel_rfl) (by exact fun _ _ _ h => h) (Or.inl ⟨by rfl, ?hyb0⟩) (by assumption) ?restb0
            case hyb0 => (intro w hSw; (try dsimp only at hSw); go_simp; try with_reducible rfl)
            ((try simp only [Act.put]); (try simp only [List.setIfInBounds_toArray]); (try simp only [List.set_cons_succ]); (try simp only [List.set_cons_zero]))
            refine wpAnyH_take (i := 1) (v := ?vb1) (by simp only [List.getElem?_toArray, List.getElem?_cons_succ, List.getElem?_cons_zero]; rfl) (by kernel_rfl) (by kernel_rfl) (by kernel_rfl) (by exact fun _ _ _ h => h) (Or.inl ⟨by rfl, ?hyb1⟩) (by assumption) ?restb1
            case hyb1 => (intro w hSw; (try dsimp only at hSw); go_simp; try with_reducible rfl)
            ((try simp only [Act.put]); (try simp only [List.setIfInBounds_toArray]); (try simp only [List.set_cons_succ]); (try simp only [List.set_cons_zero]))
            refine wpAnyH_take (i := 3) (v := ?vb3) (by simp only [List.getElem?_toArray, List.getElem?_cons_succ, List.getElem?_cons_zero]; rfl) (by kernel_rfl) (by kernel_rfl) (by kernel_rfl) (by exact fun _ _ _ h => h) (Or.inl ⟨by rfl, ?hyb3⟩) (by assumption) ?restb3
            case hyb3 => (intro w hSw; (try dsimp only at hSw); go_simp; try with_reducible rfl)
            ((try simp only [Act.put]); (try simp only [List.setIfInBounds_toArray]); (try simp only [List.set_cons_succ]); (try simp only [List.set_cons_zero]))
            refine wpAnyH_ready (rs := [2]) (by kernel_rfl) (by simp) ?_
            refine AllReadyH.cons rfl (fun K hK => ?_) AllReadyH.nil
            go_simp
            (with_reducible refine RW.out.mono ?_)
            rintro e w5 ⟨g, rfl, HR5⟩
            obtain ⟨k1, k2⟩ := CC.out w5 HR5.out.2.2
            refine hK.out _ _ ⟨k1, k2⟩ (fun hH5 => ?_)
            clear hK K
            ((try simp only [Act.put]); (try simp only [List.setIfInBounds_toArray]); (try simp only [List.set_cons_succ]); (try simp only [List.set_cons_zero]))
            refine wpAnyH_ready (rs := [4]) (by kernel_rfl) (by simp) ?_
            refine AllReadyH.cons rfl (fun K hK => ?_) AllReadyH.nil
            go_simp
            (with_reducible refine (HS.out w5 g HR5.out.1).mono ?_)
            rintro e w6 ⟨rfl, rfl⟩
            refine hK.out _ _ ⟨k1, k2⟩ (fun hH6 => ?_)
            clear hK K
            ((try simp only [Act.put]); (try simp only [List.setIfInBounds_toArray]); (try simp only [List.set_cons_succ]); (try simp only [List.set_cons_zero]))
            refine wpAnyH_take (i := 5) (v := ?vbe5) (by simp only [List.getElem?_toArray, List.getElem?_cons_succ, List.getElem?_cons_zero]; rfl) (by kernel_rfl) (by kernel_rfl) (by kernel_rfl) (by exact fun _ _ _ h => h) (Or.inl ⟨by rfl, ?hybe5⟩) (by assumption) ?restbe5
            case hybe5 => (intro w hSw; (try dsimp only at hSw); go_simp; try with_reducible rfl)
            ((try simp only [Act.put]); (try simp only [List.setIfInBounds_toArray]); (try simp only [List.set_cons_succ]); (try simp only [List.set_cons_zero]))
            refine wpAnyH_done (by kernel_rfl) ?_ _

            have Q4 := Lib.hid (GOOD.out trivial w5 HR5.out.2.1 HR5.out.2.2)
            gi_wp2_with fail
            exact Q4.out _
        rintro e W2 ⟨hv, hj | hx⟩
        · refine ⟨hv, .ready, none, (fun h => by cases h), hj.lp, ?_⟩
          have hfp : Fr (fun b => b = D + 1) W2 (W2.putObj (D + 1) (.loop (rec .exhausted none))) := Fr.putObj _ _
          have hrb := hj.br.fr hfp (hj.br.ne_of hj.lp (fun _ h => by cases h))
          have hdp : (W2.putObj (D + 1) (.loop (rec .exhausted none))).heap[D]? = some (.deferred (some [])) := (World.putObj_heap_other (by omega)).trans hj.df
          have hfa : Fr No w (W2.putObj (D + 1) (.loop (rec .exhausted none))) := hj.fr.then_ hfp (fun b hb h => by have h : b = D + 1 := h; have := HDW.out; omega)
          have HOK := Lib.hid hj.ok
          show Exit.inBlock 0 _ .normal _ (W2.putObj (D + 1) (.loop (rec .exhausted none)))
          generalize (W2.putObj (D + 1) (.loop (rec .exhausted none))) = W3 at hrb hdp hfa ⊢
          have r1 : W3.cell? ⟨w.heap.size + 2, 0, none⟩ = some (.bool false) := (hrb.cell 0).trans rfl
          have r2 := hrb.frozen 0
          have r3 := hrb.lt
          have HDP := Lib.hid hdp
          have HFA := Lib.hid hfa
          have HRB := Lib.hid hrb
          clear hv hj hfp hdp hfa hrb hf3 hb3 hs3 hD hD1 hf5 hl1 hd1 hf35 J0 hpt5 hbx5 hT5 hhi htz5 h40 m1 m2 n1 n2
          gi_wp2_with fail
          refine ⟨by simp, .inl ⟨_, _, rfl, run_takeDeferred ((Below.heap_setCell _ ⟨w.heap.size + 2, 0, none⟩ _ _ (fun h => by have := HDW.out; simp only at h; omega)).trans HDP.out), ?_⟩⟩
          refine ⟨_, results_cellv rfl _ _ ⟨w.heap.size + 2, 0, none⟩ (.bool true) rfl (agg_bool _) ?_, ?_⟩
          · exact ((HRB.out.set_ 0 (.bool true)).fr (Fr.putObj D _) (fun h => by have h : w.heap.size + 2 = D := h; have := HDW.out; omega)).cell 0
          · exact ⟨true, rfl, ⟨fun _ => ⟨t, mN, nN, c, c', xN, yN, HI.out, HA.out, rfl, rfl, H3.out, HK.out.1, HK.out.2, rfl, rfl, HXY.out.1, HXY.out.2, HOK.out⟩, fun _ => rfl⟩, (HFA.out.setCell (p := ⟨w.heap.size + 2, 0, none⟩) (.inr (Nat.le_add_right _ 2)) _).then_ (Fr.putObj D _) (fun b hb h => by have h : b = D := h; have := HDW.out; omega)⟩
        · refine ⟨hv, .done, some .ret, (fun h => by cases h), hx.lp, ?_⟩
          have hfp : Fr (fun b => b = D + 1) W2 (W2.putObj (D + 1) (.loop (rec .exhausted (some .ret)))) := Fr.putObj _ _
          have hrb := hx.br.fr hfp (hx.br.ne_of hx.lp (fun _ h => by cases h))
          have hdp : (W2.putObj (D + 1) (.loop (rec .exhausted (some .ret)))).heap[D]? = some (.deferred (some [])) := (World.putObj_heap_other (by omega)).trans hx.df
          have hfa : Fr No w (W2.putObj (D + 1) (.loop (rec .exhausted (some .ret)))) := hx.fr.then_ hfp (fun b hb h => by have h : b = D + 1 := h; have := HDW.out; omega)
          have HNO := Lib.hid hx.no
          show Code.wpIn Fence.wide 9 Tryd.prog .ret (Exit.inBlock 0 _) _ (W2.putObj (D + 1) (.loop (rec .exhausted (some .ret))))
          generalize (W2.putObj (D + 1) (.loop (rec .exhausted (some .ret)))) = W3 at hrb hdp hfa ⊢
          have HDP := Lib.hid hdp
          have HFA := Lib.hid hfa
          have HRB := Lib.hid hrb
          clear hv hx hfp hdp hfa hrb hf3 hb3 hs3 hD hD1 hf5 hl1 hd1 hf35 J0 hpt5 hbx5 hT5 hhi htz5 h40 m1 m2 n1 n2
          gi_wp2_with fail
          refine ⟨by simp, .inl ⟨_, _, rfl, run_takeDeferred HDP.out, ?_⟩⟩
          refine ⟨_, results_cellv rfl _ _ ⟨w.heap.size + 2, 0, none⟩ (.bool false) rfl (agg_bool _) ?_, ?_⟩
          · exact (HRB.out.fr (Fr.putObj D _) (fun h => by have h : w.heap.size + 2 = D := h; have := HDW.out; omega)).cell 0
          · refine ⟨false, rfl, ⟨fun h => (by cases h), fun h => ?_⟩, HFA.out.then_ (Fr.putObj D _) (fun b hb h => by have h : b = D := h; have := HDW.out; omega)⟩
            obtain ⟨xN', yN', e1, e2, _, _, hall⟩ := h.data HI.out HK.out.1 HK.out.2
            have e1 : xN' = xN := by omega
            have e2 : yN' = yN := by omega
            subst e1 e2
            obtain ⟨k', hk', hno⟩ := HNO.out
            rw [hall k' hk'] at hno
            cases hno
      · have hyd : decide (0 ≤ y ∧ y < (c' : Int)) = false := decide_eq_false hyc
        rw [hyd] at HSR
        have HE : Hid (∀ w', Fr No w w' → AnsB (PairIs s mN nN x y) w (.returned (.bool false)) w') := fun w' hf => ⟨false, rfl, ⟨fun h => (by cases h), fun h => by
          obtain ⟨_, yN, _, rfl, _, h2, _⟩ := h.data HI.out HK.out.1 HK.out.2
          exact absurd ⟨by omega, by omega⟩ hyc⟩, hf⟩
        have cb : w1.cell? ⟨w.heap.size + 2, 0, none⟩ = some (.bool false) := (br1.cell 0).trans rfl
        have fb := br1.frozen 0
        have lb := br1.lt
        have HBR := Lib.hid br1
        clear br1
        gi_wp2_with fail
        refine wpIn_wide.2 ?_
        go_quiet ((first | (go_at_call 59; with_reducible exact HSL.out _) | (go_at_call 59; with_reducible exact HSR.out _)))
        gi_wp2_with fail
        refine ⟨.bool false, results_cellv rfl _ _ ⟨w.heap.size + 2, 0, none⟩ (.bool false) rfl (agg_bool _) ?_, HE.out _ ?_⟩
        · exact (Blk.set_ (HBR.out.fr ((Fr.refl No w1).drewN nq) (fun h => h)) 0 (.bool false)).cell 0
        · exact ((HF0.out.trans HF1.out).drewN nq).setCell (p := ⟨w.heap.size + 2, 0, none⟩) (.inr (Nat.le_add_right _ 2)) _
    · have hxd : decide (0 ≤ x ∧ x < (c : Int)) = false := decide_eq_false hxc
      rw [hxd] at HSL
      have HE : Hid (∀ w', Fr No w w' → AnsB (PairIs s mN nN x y) w (.returned (.bool false)) w') := fun w' hf => ⟨false, rfl, ⟨fun h => (by cases h), fun h => by
        obtain ⟨xN, _, rfl, _, h2, _⟩ := h.data HI.out HK.out.1 HK.out.2
        exact absurd ⟨by omega, by omega⟩ hxc⟩, hf⟩
      have cb : w1.cell? ⟨w.heap.size + 2, 0, none⟩ = some (.bool false) := (br1.cell 0).trans rfl
      have fb := br1.frozen 0
      have lb := br1.lt
      have HBR := Lib.hid br1
      clear br1
      gi_wp2_with fail
      refine wpIn_wide.2 ?_
      go_quiet ((go_at_call 59; with_reducible exact HSL.out _))
      gi_wp2_with fail
      refine ⟨.bool false, results_cellv rfl _ _ ⟨w.heap.size + 2, 0, none⟩ (.bool false) rfl (agg_bool _) ?_, HE.out _ ?_⟩
      · exact (Blk.set_ (HBR.out.fr ((Fr.refl No w1).drewN nq) (fun h => h)) 0 (.bool false)).cell 0
      · exact ((HF0.out.trans HF1.out).drewN nq).setCell (p := ⟨w.heap.size + 2, 0, none⟩) (.inr (Nat.le_add_right _ 2)) _
  · have HE : Hid (∀ w', Fr No w w' → AnsB (PairIs s m n x y) w (.returned (.bool false)) w') := fun w' hf => ⟨false, rfl, ⟨fun h => (by cases h), fun ⟨t, mN, nN, c, c', xN, yN, h1, h2, h3, h4, h5, h6, h7, _⟩ => (hno t mN nN c c' h1 h2 h3 h4 h5 h6 h7).elim⟩, hf⟩
    have br1 := HR0.out.fr hf1 (fun h => h)
    have HF1 := Lib.hid hf1
    clear hf1 hno
    have cb : w1.cell? ⟨w.heap.size + 2, 0, none⟩ = some (.bool false) := (br1.cell 0).trans rfl
    have fb := br1.frozen 0
    have lb := br1.lt
    have HBR := Lib.hid br1
    clear br1
    gi_wp2_with fail
    refine wpIn_wide.2 ?_
    go_quiet (fail)
    gi_wp2_with fail
    refine ⟨.bool false, results_cellv rfl _ _ ⟨w.heap.size + 2, 0, none⟩ (.bool false) rfl (agg_bool _) ?_, HE.out _ ?_⟩
    · exact (Blk.set_ (HBR.out.fr ((Fr.refl No w1).drewN nq) (fun h => h)) 0 (.bool false)).cell 0
    · exact ((HF0.out.trans HF1.out).drewN nq).setCell (p := ⟨w.heap.size + 2, 0, none⟩) (.inr (Nat.le_add_right _ 2)) _
end Go.Proofs.YtjgbihcnfhbalaaDoor
