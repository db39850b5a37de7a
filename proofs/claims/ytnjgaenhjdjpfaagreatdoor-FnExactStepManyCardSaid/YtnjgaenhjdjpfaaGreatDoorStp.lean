/- stepAt of the program. -/
import Derived.Test.YtnjgaenhjdjpfaaGreatDoorRcnt
namespace Go.Proofs.YtnjgaenhjdjpfaaGreatDoor
open Go.RowKit Go.ChangeMaps Go.Shelf

attribute [local go_sem] Oper.semAt_some

theorem one_size : ∀ (k : Ts) (j : Nat), (k.one j).size ≤ k.size
  | .nil, _ => Nat.le_refl _
  | .cons h a d k r, 0 => by simp only [Ts.one, Ts.size]; omega
  | .cons h a d k r, j + 1 => by have := one_size r j; simp only [Ts.one, Ts.size]; omega

theorem okZ.size {t : Ts} : ∀ {fs : List ZF} {x : Ts}, okZ t fs x → x.size ≤ t.size
  | [], x, h => by rw [h]; exact Nat.le_refl _
  | f :: fs, x, h => by
    have h1 := okZ.size h.2.2
    have h2 := one_size f.k f.j
    rw [h.1] at h2
    simp only [Ts.size] at h1
    omega

theorem setAt_eq : ∀ (k : Ts) (j : Nat) (x : Ts), j < k.len → (k.setAt j x).size + (k.one j).size = k.size + x.size
  | .nil, _, _, h => by simp [Ts.len] at h
  | .cons h a d k r, 0, x, _ => by simp only [Ts.setAt, Ts.one, app_size, Ts.size]; omega
  | .cons h a d k r, j + 1, x, hj => by
    have := setAt_eq r j x (by simp only [Ts.len] at hj; omega)
    simp only [Ts.setAt, Ts.one, Ts.size]; omega

theorem plug_eq {t : Ts} : ∀ (fs : List ZF) (y x : Ts), okZ t fs y → (plugZ fs x).size + y.size = t.size + x.size
  | [], y, x, h => by rw [h]; simp only [plugZ]; omega
  | f :: fs, y, x, h => by
    have h1 := plug_eq fs f.node (.cons f.h f.a 0 (f.k.setAt f.j x) .nil) h.2.2
    have h2 := setAt_eq f.k f.j x h.2.1
    rw [h.1] at h2
    simp only [plugZ, Ts.size] at h1 ⊢
    omega

theorem okZ.dle {D : Nat} {t : Ts} (ht : Dle D t) : ∀ {fs : List ZF} {x : Ts}, okZ t fs x → Dle D x
  | [], x, h => by rw [h]; exact ht
  | f :: fs, x, h => by
    have h1 := okZ.dle ht h.2.2
    have : ∀ (k : Ts) (j : Nat), Dle D k → Dle D (k.one j) := by
      intro k
      induction k with
      | nil => intro j h; exact h
      | cons h a d k r _ ih =>
        intro j hd
        cases j with
        | zero => exact ⟨hd.1, hd.2.1, trivial⟩
        | succ j => exact ih j hd.2.2
    rw [← h.1]
    exact this _ _ h1.2.1

theorem kids1_size (k : Ts) : k.kids1.size ≤ k.size := by
  cases k with
  | nil => exact Nat.le_refl _
  | cons => simp only [Ts.kids1, Ts.size]; omega

theorem rd_size {h : List UInt8} {k : Ts} (hw : WfT k) (hk : k.len = kidsOf h) (hx : rxT h k = true) (hs : k.size ≤ 300) : (rdT h k).size ≤ 90000 := by
  have B : ∀ (b t : Ts), b.len = 1 → WfT b → b.size ≤ 300 → t.size ≤ 300 → (pbK b t 0 [] 0).size ≤ 90000 := fun b t hb hwb h1 h2 => by
    have h0 : 1 ≤ b.size := by
      obtain ⟨h, a, d, k, rfl⟩ := single hb
      simp only [Ts.size]
      split <;> omega
    have := pb_size_le b hwb h0 t 0 [] 0
    have h3 : t.size * b.size ≤ 300 * 300 := Nat.mul_le_mul h2 h1
    omega
  have s0 := one_size k 0
  have s1 := one_size k 1
  have s2 := one_size k 2
  have sk := kids1_size k
  have t0 := one_size k.kids1 0
  have t1 := one_size k.kids1 1
  unfold rdT
  rcases rx_cases hx with rfl | ⟨rfl, h2⟩ | ⟨rfl, h2⟩ | ⟨rfl, h2⟩ | ⟨rfl, h2⟩
  · rw [if_pos rfl]
    rw [k_let] at hk
    exact B _ _ (one_len k 0 (by omega)) (wf_one _ _ hw) (by omega) (by omega)
  · rw [if_neg (by decide), if_pos rfl]
    rw [k_app] at hk
    exact B _ _ (one_len k 1 (by omega)) (wf_one _ _ hw) (by omega) (by omega)
  · rw [if_neg (by decide), if_neg (by decide), if_pos rfl]; omega
  · rw [if_neg (by decide), if_neg (by decide), if_neg (by decide), if_pos rfl]; omega
  · rw [if_neg (by decide), if_neg (by decide), if_neg (by decide), if_neg (by decide)]
    split <;> omega

theorem within_any (w : World) (T : Nat → Prop) (p : Nat) (h a : List UInt8) (d : Nat) (k : Ts) (ht : Tm w T p h a d k) (hs : k.size ≤ 100000) :
    Calls Tryz.prog 38 #[Ptr p] w fun e w' => e = .returned (.pointer (if (Ts.cons h a d k .nil).size ≤ 300 then some ⟨p, 0, none⟩ else none)) ∧ w = w' := by
  obtain ⟨_, _, hlt, c4⟩ := ht.head
  have e : (if bindsB h then 2 else 1) + k.size = (Ts.cons h a d k .nil).size := by simp only [Ts.size, Nat.add_zero]
  rw [e] at c4
  generalize (Ts.cons h a d k .nil).size = z at c4 e ⊢
  have hz : (z : Int) ≤ 200000 := by split at e <;> omega
  clear ht e
  by_cases hz3 : z ≤ 300
  · have i1 : ¬ (300 : Int) < (z : Int) := by omega
    rw [if_pos hz3]
    clear hz3
    go_enter Tryz.func38, Tryz.ntmps38
    go_wp2_with fail
    go_ret
    exact ⟨rfl, rfl⟩
  · have i1 : (300 : Int) < (z : Int) := by omega
    rw [if_neg hz3]
    clear hz3
    go_enter Tryz.func38, Tryz.ntmps38
    go_wp2_with fail
    go_ret
    exact ⟨rfl, rfl⟩

/-- what stepAt returns, within the blocks that it owns -/
def StepW (T : Nat → Prop) (n1 : Nat) (t : Ts) (kk : Int) (v : Option Addr) (W : World) : Prop :=
  ∃ m : Nat, kk = m ∧ m < cR t ∧ (((stF t m).size ≤ 300 ∧ ∃ p : Nat, v = some ⟨p, 0, none⟩ ∧ TEl W (TZ T n1 W) (stF t m) [Ptr p]) ∨ (300 < (stF t m).size ∧ v = none))

theorem StepW.fr {S T : Nat → Prop} {n1 : Nat} {t : Ts} {kk : Int} {v : Option Addr} {W W' : World} (hz : StepW T n1 t kk v W) (hT : ∀ b, T b → b < W.heap.size ∧ ¬ S b) (hS : ∀ b, S b → b < n1) (hf : Fr S W W') : StepW T n1 t kk v W' := by
  obtain ⟨m, h1, h2, h3⟩ := hz
  refine ⟨m, h1, h2, h3.imp ?_ (fun h => h)⟩
  rintro ⟨h4, p, h5, h6⟩
  refine ⟨h4, p, h5, h6.mono (fun b hb => hb.imp (fun h => h) (fun h => ⟨h.1, Nat.lt_of_lt_of_le h.2 hf.size⟩)) (fun b hb => ?_)⟩
  rcases hb with hb | hb
  · exact hf.block b (hT b hb).1 (hT b hb).2
  · exact hf.block b hb.2 (fun hs => by have := hS b hs; omega)

/-- what stepAt returns -/
def StepV (T : Nat → Prop) (t : Ts) (kk : Int) (w : World) (e : Ending) (w' : World) : Prop :=
  ((∃ m : Nat, kk = m ∧ m < cR t ∧ (stF t m).size ≤ 300 ∧ TsP T (stF t m) w e w') ∨
  ((∀ m : Nat, kk = m → m < cR t → 300 < (stF t m).size) ∧ e = .returned (.pointer none) ∧ Fr No w w'))

theorem results_cell1 {P : Program} {fn : Func} {p : Tmp} {ty : TypeId} {e : TypeId} (h : fn.results = #[.cell p ty]) (tmps : Array Value) (w : World) (a : Addr) (v : Value) (hp : tmps.getD p undef = .pointer (some a)) (hu : P.underlying ty = some (.pointer e)) (hc : w.cell? a = some v) : (results fn tmps).run P w = .ok v w := by
  have hp' : tmps[p]?.getD undef = .pointer (some a) := by simpa using hp
  have hagg : (isAgg ty).run P w = .ok false w := by simp [isAgg, underlying, hu]
  have hl : (loadVar ty a).run P w = .ok v w := by simp [loadVar, hagg, hc]
  simp [results, h, hp', asAddr, hl]

/-- what stepAt knows between two rounds -/
structure SJ (w : World) (n1 K l D : Nat) (rec : LoopState → Option Code → Loop) (kk : Int) (i : Nat) (W : World) : Prop where
  fr : Fr No w W
  kb : Blk W K 3 #[.int .i64 kk]
  rb : Blk W (K + 1) 31 #[.pointer none]
  ib : Blk W (K + 2) 3 #[.int .i64 (i : Int)]
  lp : W.heap[l]? = some (.loop (rec .ready none))
  df : W.heap[D]? = some (.deferred (some []))
  sz : n1 ≤ W.heap.size
  le : ∀ m : Nat, kk = m → i ≤ m

/-- what stepAt knows behind the round that ends it -/
structure SX (w : World) (n1 K l D : Nat) (rec : LoopState → Option Code → Loop) (T : Nat → Prop) (t : Ts) (kk : Int) (W : World) : Prop where
  fr : Fr No w W
  rb : ∃ v, Blk W (K + 1) 31 #[.pointer v] ∧ StepW T n1 t kk v W
  lp : W.heap[l]? = some (.loop (rec .done (some .ret)))
  df : W.heap[D]? = some (.deferred (some []))
  sz : n1 ≤ W.heap.size

set_option maxRecDepth 100000 in
set_option maxHeartbeats 4000000 in
theorem step_in (F : Fence) (n : Nat) (hfn : ∀ f, F.fn f) (hro : F.round = none) (hC : ∀ (m f : Nat) (args : Array Value) (w : World) (R : Ending → World → Prop), Calls Tryz.prog f args w R → CallsIn F m Tryz.prog f args w R) (hn : 6 ≤ n)
    (w : World) (T : Nat → Prop) (p : Nat) (h a : List UInt8) (d : Nat) (k : Ts) (kk : Int) (ht : Tm w T p h a d k) (hw : WfT (.cons h a d k .nil)) (hdl : Dle 10000 (.cons h a d k .nil)) (hsz : (Ts.cons h a d k .nil).size ≤ 300) (hT : ∀ b, T b → b < w.heap.size) :
    CallsIn F n Tryz.prog 27 #[Ptr p, .int .i64 kk] w fun e w' => StepV T (.cons h a d k .nil) kk w e w' := by
  have h1 : 1 ≤ n := by omega
  obtain ⟨t, HTE⟩ : ∃ t, Hid (Ts.cons h a d k .nil = t) := ⟨_, rfl⟩
  rw [HTE.out] at hw hsz hdl ⊢
  have HM := Lib.hid ht
  have HW := Lib.hid hw
  have HDL := Lib.hid hdl
  have HSZ := Lib.hid hsz
  have HT := Lib.hid hT
  have HC := Lib.hid hC
  clear ht hw hsz hT hC hdl
  refine callsIn_of_wp_marks Tryz.func27 rfl (hfn _) ?_ hro
  simp only [Tryz.ntmps27, List.size_toArray, List.length_cons, List.length_nil, Nat.reduceAdd, Nat.reduceSub, Array.replicate_succ, Array.replicate_zero, List.push_toArray, List.append_toArray, List.nil_append, List.cons_append]
  gi_wp2_with (gi_at_call 37; refine (HC.out _ _ _ _ _ (redexes_any _ p)).mono ?_; rintro e w' ⟨rfl, rfl⟩)
  obtain ⟨w2, hw2⟩ : ∃ w2, w2 = (((w.alloc (.cells #[.int .i64 kk] 3)).alloc (.cells #[.pointer none] 31)).alloc (.cells #[.int .i64 0] 3)).alloc (.cells #[Ptr p] 31) := ⟨_, rfl⟩
  have hs0 : w2.heap.size = w.heap.size + 4 := by rw [hw2]; simp
  have hf0 : Fr No w w2 := by rw [hw2]; exact ((((Fr.refl _ _).alloc _).alloc _).alloc _).alloc _
  have bK : Blk w2 w.heap.size 3 #[.int .i64 kk] := by rw [hw2]; exact (((Blk.new _ _ _).alloc _).alloc _).alloc _
  have bR : Blk w2 (w.heap.size + 1) 31 #[.pointer none] := by rw [hw2]; exact ((Blk.new_at _ _ _ (by simp)).alloc _).alloc _
  have bI : Blk w2 (w.heap.size + 2) 3 #[.int .i64 0] := by rw [hw2]; exact (Blk.new_at _ _ _ (by simp)).alloc _
  have bP : Blk w2 (w.heap.size + 3) 31 #[Ptr p] := by rw [hw2]; exact Blk.new_at _ _ _ (by simp)
  simp only [Nat.add_assoc, Nat.reduceAdd]
  rw [← hw2]
  clear hw2
  refine rf_stmt hro h1 (gf := 63) (lb := #[Ptr (w.heap.size + 3)]) rfl (hfn _) (enters_of Tryz.func63 (by kernel_rfl) rfl) ?_
  intro fn D rec hf hD hrec W1 hW1
  have HREC := Lib.hid hrec
  have hD1 : W1.heap.size = D + 2 := by rw [hW1, hD]; simp
  have hf1 : Fr No w2 W1 := by rw [hW1]; exact ((Fr.refl _ _).alloc _).alloc _
  have hl1 : W1.heap[D + 1]? = some (.loop (rec .ready none)) := by
    rw [hW1]
    have := World.alloc_heap_new (w2.alloc (.deferred (some []))) (.loop (rec .ready none))
    rwa [World.size_alloc, ← hD] at this
  have hd1 : W1.heap[D]? = some (.deferred (some [])) := by
    rw [hW1, hD]
    exact (Below.heap_alloc _ _ _ (by simp)).trans (World.alloc_heap_new w2 _)
  have HDW : Hid (D = w.heap.size + 4) := by show _ = _; omega
  have HD1 := Lib.hid hD1
  clear hrec hW1
  have hfw := hf0.trans hf1
  have J0 : SJ w (D + 2) w.heap.size (D + 1) D rec kk 0 W1 := ⟨hfw, bK.fr hf1 (fun h => h), bR.fr hf1 (fun h => h), bI.fr hf1 (fun h => h), hl1, hd1, by omega, fun m _ => Nat.zero_le m⟩
  have hbox : W1.cell? ⟨w.heap.size + 3, 0, none⟩ = some (Ptr p) := ((bP.fr hf1 (fun h => h)).cell 0).trans rfl
  have hTT : ∀ b, T b → b < D + 2 ∧ ¬ (b = w.heap.size + 2 ∨ b = D + 1) := fun b hb => by have := HT.out b hb; exact ⟨by omega, by omega⟩
  have hTX : ∀ b, T b → b < D + 2 ∧ ¬ (b = w.heap.size + 1 ∨ b = D + 1 ∨ b = D) := fun b hb => by have := HT.out b hb; exact ⟨by omega, by omega⟩
  have HTX := Lib.hid hTX
  clear hTX
  refine (redexes1_in F (n - 1) hfn hro HC.out (by omega) (D + 1) (w.heap.size + 3) (fun b => b = w.heap.size + 2 ∨ b = D + 1) T (D + 2) t (SJ w (D + 2) w.heap.size (D + 1) D rec kk) (SX w (D + 2) w.heap.size (D + 1) D rec T t kk)
    ⟨?keep, fun i W h => h.sz, ?slt, hTT, ?round⟩ W1 p h a d k (HM.out.mono (fun _ h => h) (fun b hb => hfw.block b (HT.out b hb) (fun h => h))) HTE.out.symm HW.out HSZ.out hbox J0).mono ?_
  case keep =>
    intro i W W' hj hf
    have hDw := HDW.out
    have hz := hj.sz
    refine ⟨hj.fr.then_ hf (fun b hb h => by omega), hj.kb.fr hf (fun h => by omega), hj.rb.fr hf (fun h => by omega), hj.ib.fr hf (fun h => by omega), ?_, ?_, Nat.le_trans hj.sz hf.size, hj.le⟩
    · exact (hf.block (D + 1) (by omega) (fun h => by omega)).trans hj.lp
    · exact (hf.block D (by omega) (fun h => by omega)).trans hj.df
  case slt =>
    have := HDW.out
    rintro b (rfl | rfl) <;> omega
  case round =>
    intro i W q c fs h' a' d' k' hj hza hbi hx
    have hle := befZ_le hza.ok
    have hnd := cR_nods t
    have hns := nods_size t
    have hsz := HSZ.out
    have i1 : (i : Int) ≤ 300 := by omega
    have i0 : (0 : Int) ≤ (i : Int) := by omega
    have hz := hj.sz
    have hw0 : IntKind.i64.wrap ((i : Int) + 1) = ((i + 1 : Nat) : Int) := by rw [IntWalk.i64_in _ (by omega)]; omega
    have HJ := Lib.hid hj
    have HZA := Lib.hid hza
    have HX := Lib.hid hx
    have HBI := Lib.hid hbi
    have HLE := Lib.hid hle
    clear hj hza hbi hx hle hnd hns hsz hf1 hl1 hd1 hfw J0 hbox hTT bP hf0 hs0 hD hD1 bK bR bI
    refine rf_round HREC.out hf HJ.out.lp rfl ?_
    gi_wp2_with fail
    refine ⟨_, rf_begin HREC.out ((Below.heap_alloc _ _ _ (by omega)).trans HJ.out.lp), ?_⟩
    obtain ⟨W2, hW2⟩ : ∃ W2, W2 = (W.alloc (.cells #[Ptr q, .pointer c] 66)).putObj (D + 1) (.loop (rec .busy none)) := ⟨_, rfl⟩
    have hfp : Fr (fun b => b = D + 1) W W2 := by rw [hW2]; exact (((Fr.refl _ _).alloc _).mono (fun _ _ h => h)).trans (Fr.putObj _ _)
    have hz2 : W2.heap.size = W.heap.size + 1 := by rw [hW2]; simp
    have bZ : Blk W2 W.heap.size 66 #[Ptr q, .pointer c] := by
      rw [hW2]
      exact (Blk.new _ _ _).fr (S := fun b => b = D + 1) (Fr.putObj _ _) (fun h => by omega)
    have hlp : W2.heap[D + 1]? = some (.loop (rec .busy none)) := by rw [hW2]; exact World.putObj_heap_same (by simp; omega)
    have hdp : W2.heap[D]? = some (.deferred (some [])) := (hfp.block D (by omega) (fun h => by omega)).trans HJ.out.df
    have hib := HJ.out.ib.fr hfp (fun h => by have := HDW.out; omega)
    have hkb := HJ.out.kb.fr hfp (fun h => by have := HDW.out; omega)
    have hrb := HJ.out.rb.fr hfp (fun h => by have := HDW.out; omega)
    have hTp : ∀ b, T b → b < W.heap.size ∧ ¬ b = D + 1 := fun b hb => by have := HTX.out b hb; exact ⟨by omega, by omega⟩
    have hza2 := HZA.out.fr (S := fun b => b = D + 1) hTp (fun b hb => by omega) hfp
    rw [← hW2]
    clear hW2
    have c0 : W2.cell? ⟨w.heap.size, 0, none⟩ = some (.int .i64 kk) := (hkb.cell 0).trans rfl
    have c2 : W2.cell? ⟨w.heap.size + 2, 0, none⟩ = some (.int .i64 (i : Int)) := (hib.cell 0).trans rfl
    have f2 := hib.frozen 0
    have l0 := hkb.lt
    have l2 := hib.lt
    have lz := bZ.lt
    have cz0 : W2.cell? ⟨W.heap.size, 0, none⟩ = some (Ptr q) := (bZ.cell 0).trans rfl
    have cz1 : W2.cell? ⟨W.heap.size, 1, none⟩ = some (.pointer c) := (bZ.cell 1).trans rfl
    by_cases hki : kk = i
    · subst hki
      have hxw := okZ.wf HW.out hza2.ok
      obtain ⟨hrw, hrl, _⟩ := rd_ok hxw.2.2.1 hxw.1 HX.out
      have hxs := okZ.size hza2.ok
      have hks : k'.size ≤ 300 := by have := HSZ.out; simp only [Ts.size] at hxs; omega
      have hrs := rd_size hxw.2.2.1 hxw.1 HX.out hks
      have hpe := plug_eq fs _ (rdT h' k') hza2.ok
      have hps : (plugZ fs (rdT h' k')).size ≤ 100000 := by have := HSZ.out; omega
      have hcx : 0 < cR (.cons h' a' d' k' .nil) := by simp only [cR, rx1, HX.out, if_true]; omega
      have hpl : plugZ fs (rdT h' k') = stF t i := by
        have e1 : stF (.cons h' a' d' k' .nil) 0 = rdT h' k' := by
          have : 0 < rx1 h' k' + cR k' := by simp only [rx1, HX.out, if_true]; omega
          simp only [stF, if_pos this, HX.out, true_and, if_true, Ts.app_nil]
        have := st_plug HW.out fs _ 0 hza2.ok hcx
        rw [e1, HBI.out] at this
        exact this
      have him : i < cR t := by have h1 := HLE.out; have h2 := HBI.out; omega
      have hfd : Fr No W2 W2.drew := (Fr.refl _ _).drew
      have hTz0 : ∀ b, TZ T (D + 2) W2 b → b < W2.heap.size := fun b hb => hb.elim (fun h => by have := HTX.out b h; omega) (fun h => h.2)
      have hzad := hza2.fr (S := No) (fun b hb => ⟨hTz0 b (.inl hb), fun h => h⟩) (fun b hb => hb.elim) hfd
      have hzd : W2.drew.heap.size = W.heap.size + 1 := hz2
      have hfpd : Fr (fun b => b = D + 1) W W2.drew := hfp.trans (hfd.mono (fun _ _ h => h.elim))
      have bZd := bZ.fr hfd (fun h => h)
      have hrbd := hrb.fr hfd (fun h => h)
      have hlpd : W2.drew.heap[D + 1]? = some (.loop (rec .busy none)) := hlp
      have hdpd : W2.drew.heap[D]? = some (.deferred (some [])) := hdp
      have hn11 : 1 ≤ n - 1 - 1 := by omega
      have hmx : Tryz.prog.follows .mixedOrders = true := by kernel_rfl
      have hTz : ∀ b, TZ T (D + 2) W2.drew b → b < W2.drew.heap.size := fun b hb => hb.elim (fun h => by have := HTX.out b h; omega) (fun h => h.2)
      have RD : Hid (∀ m, CallsIn F m Tryz.prog 40 #[Ptr q] W2.drew fun e w5 => ∃ p1, e = .returned (Ptr p1) ∧ (w5.cell? ⟨W.heap.size, 0, none⟩ = some (Ptr q) ∧ w5.cell? ⟨W.heap.size, 1, none⟩ = some (.pointer c)) ∧
          Hid (∀ m, CallsIn F m Tryz.prog 39 #[.agg #[Ptr q, .pointer c], Ptr p1] w5 fun e w6 => ∃ p2, e = .returned (Ptr p2) ∧
            Hid (∀ m, CallsIn F m Tryz.prog 38 #[Ptr p2] w6 fun e w7 => ∃ v, e = .returned (.pointer v) ∧ (w7.cell? ⟨w.heap.size + 1, 0, none⟩ = some (.pointer none) ∧ w7.frozen? ⟨w.heap.size + 1, 0, none⟩ = false ∧ w.heap.size + 1 < w7.heap.size) ∧
              Hid ((w7.setCell ⟨w.heap.size + 1, 0, none⟩ (.pointer v)).heap[D + 1]? = some (.loop (rec .busy none)) ∧ ∀ W8, W8 = (w7.setCell ⟨w.heap.size + 1, 0, none⟩ (.pointer v)).putObj (D + 1) (.loop (rec .done (some .ret))) → SX w (D + 2) w.heap.size (D + 1) D rec T t i W8)))) := by
        intro m
        refine HC.out m _ _ _ _ ((reduct_any W2.drew _ q h' a' d' k' hzad.tm hxw (okZ.dle HDL.out hzad.ok) hks hTz HX.out).mono ?_)
        rintro e w5 ⟨p1, rfl, hf5, ht5⟩
        have b5 := bZd.fr hf5 (fun h => h)
        refine ⟨p1, rfl, ⟨(b5.cell 0).trans rfl, (b5.cell 1).trans rfl⟩, fun m => HC.out m _ _ _ _ ?_⟩
        obtain ⟨rh, ra, rd, rk, hre⟩ := single hrl
        rw [hre] at ht5 hps hpl
        have hT5 : ∀ b, TN (TZ T (D + 2) W2.drew) W2.drew w5 b → b < w5.heap.size := fun b hb => hb.elim (fun h => Nat.lt_of_lt_of_le (hTz b h) hf5.size) (fun h => h.2)
        have hzm5 := ZM.mono (w := W2.drew) (w' := w5) (T' := TN (TZ T (D + 2) W2.drew) W2.drew w5) (fun _ h => .inl h) (fun b hb => hf5.block b (hTz b hb) (fun h => h)) hzad.zm
        refine (replace_any w5 _ t (Ptr q) c fs _ p1 rh ra rd rk hzm5 hzad.ok HW.out ht5 hps hT5).mono ?_
        rintro e w6 ⟨p2, rfl, hf6, ht6⟩
        refine ⟨p2, rfl, fun m => HC.out m _ _ _ _ ?_⟩
        have hsl : (stF t i).len = 1 := by
          rw [st_len t i HW.out, ← HTE.out]; rfl
        rw [hpl] at ht6 hps
        obtain ⟨sh, sa, sd, sk, hse⟩ := single hsl
        rw [hse] at ht6 hps
        refine (within_any w6 _ p2 sh sa sd sk ht6 (by simp only [Ts.size] at hps; omega)).mono ?_
        rintro e w7 ⟨rfl, rfl⟩
        rw [← hse] at ht6 ⊢
        have hf7 : Fr (fun b => b = D + 1) W w6 := (hfpd.trans (hf5.mono (fun _ _ h => h.elim))).trans (hf6.mono (fun _ _ h => h.elim))
        have r7 := (hrbd.fr hf5 (fun h => h)).fr hf6 (fun h => h)
        refine ⟨_, rfl, ⟨(r7.cell 0).trans rfl, r7.frozen 0, r7.lt⟩, ?_, fun W8 hW8 => ?_⟩
        · refine (Below.heap_setCell _ ⟨w.heap.size + 1, 0, none⟩ _ _ (fun h => by have := HDW.out; simp only at h; omega)).trans ?_
          exact ((hf5.trans hf6).block (D + 1) (by omega) (fun h => h)).trans hlpd
        · have hs7 : D + 2 ≤ w6.heap.size := by have h1 := hf5.size; have h2 := hf6.size; omega
          have hs8 : W8.heap.size = w6.heap.size := by rw [hW8]; simp [World.setCell]
          have hf8 : Fr (fun b => b = w.heap.size + 1 ∨ b = D + 1) w6 W8 := by
            rw [hW8]
            exact ((Fr.refl _ _).setCell (p := ⟨w.heap.size + 1, 0, none⟩) (.inl (.inl rfl)) _).trans ((Fr.putObj _ _).mono (fun _ _ h => .inr h))
          have hfw8 : Fr (fun b => b = w.heap.size + 1 ∨ b = D + 1) W W8 := (hf7.mono (fun _ _ h => .inr h)).trans hf8
          refine ⟨HJ.out.fr.then_ hfw8 (fun b hb h => by have := HDW.out; omega), ⟨(if (stF t i).size ≤ 300 then some ⟨p2, 0, none⟩ else none), ?_, i, rfl, him, ?_⟩, ?_, ?_, by omega⟩
          · rw [hW8]
            exact (Blk.set_ r7 0 _).fr (Fr.putObj _ _) (fun h => by have := HDW.out; omega)
          · by_cases h3 : (stF t i).size ≤ 300
            · rw [if_pos h3]
              refine .inl ⟨h3, p2, rfl, ht6.mono (fun b hb => ?_) (fun b hb => ?_)⟩
              · rcases hb with ((hb | hb) | hb) | hb
                · exact .inl hb
                · exact .inr ⟨hb.1, by have h1 := hf5.size; have h2 := hf6.size; omega⟩
                · exact .inr ⟨by omega, by have h2 := hf6.size; omega⟩
                · exact .inr ⟨by have h1 := hf5.size; omega, by omega⟩
              · have hne : b < w6.heap.size ∧ ¬ (b = w.heap.size + 1 ∨ b = D + 1) := by
                  have hDw := HDW.out
                  have h1 := hf5.size
                  have h2 := hf6.size
                  rcases hb with ((hb | hb) | hb) | hb
                  · have := HTX.out b hb; omega
                  · omega
                  · omega
                  · omega
                exact hf8.block b hne.1 hne.2
            · rw [if_neg h3]
              exact .inr ⟨by omega, rfl⟩
          · rw [hW8]
            exact World.putObj_heap_same (by simp [World.setCell]; omega)
          · exact (hf8.block D (by omega) (fun h => by have := HDW.out; omega)).trans (((hf5.trans hf6).block D (by omega) (fun h => h)).trans hdpd)
      clear hxw hrw hrl hxs hks hrs hpe hps hcx hpl him hTz hza2 hfp hz2 bZ hlp hdp hib hkb hrb hTp HJ hfd hTz0 hzad hzd hfpd bZd hrbd hlpd hdpd
      gi_wp2_with fail
      gi_region_with_o (first
        | (gi_at_call 40; refine (CallsIn.inRound _ (RD.out _)).mono ?_; rintro e w5 ⟨p1, rfl, ⟨c5, d5⟩, RP⟩)
        | (gi_at_call 39; refine (CallsIn.inRound _ (RP.out _)).mono ?_; rintro e w6 ⟨p2, rfl, RM⟩)
        | (gi_at_call 38; refine (CallsIn.inRound _ (RM.out _)).mono ?_; rintro e w7 ⟨v, rfl, ⟨r1, r2, r3⟩, FIN⟩))
      all_goals gi_wp2_with fail
      all_goals exact ⟨_, _, rf_end HREC.out (some .ret) FIN.out.1, .inr ⟨rfl, FIN.out.2 _ rfl⟩⟩
    · have hki' : ¬ (i : Int) = kk := fun h => hki h.symm
      have hki2 : decide ((i : Int) = kk) = false := by simp [hki']
      have hsz2 : W.heap.size ≤ W2.heap.size := by omega
      have HFP := Lib.hid hfp
      have HIB := Lib.hid hib
      have HLP := Lib.hid hlp
      have HDP := Lib.hid hdp
      have h2 : Hid (w.heap.size + 2 ≠ D + 1 ∧ D + 1 < W.heap.size ∧ D ≠ D + 1) := by have := HDW.out; exact ⟨by omega, by omega, by omega⟩
      clear hfp hz2 bZ hlp hdp hib hkb hrb hTp hza2 hz hsz2 cz0 cz1 lz
      gi_wp2_with fail
      have hl3 : (W2.setCell ⟨w.heap.size + 2, 0, none⟩ (.int .i64 ((i : Int) + 1))).heap[D + 1]? = some (.loop (rec .busy none)) := (Below.heap_setCell _ ⟨w.heap.size + 2, 0, none⟩ _ _ (fun h => h2.out.1 h.symm)).trans HLP.out
      have hfS : Fr (fun b => b = w.heap.size + 2 ∨ b = D + 1) W ((W2.setCell ⟨w.heap.size + 2, 0, none⟩ (.int .i64 ((i : Int) + 1))).putObj (D + 1) (.loop (rec .ready none))) :=
        ((HFP.out.mono (fun _ _ h => .inr h)).setCell (p := ⟨w.heap.size + 2, 0, none⟩) (.inl (.inl rfl)) _).trans ((Fr.putObj _ _).mono (fun _ _ h => .inr h))
      have hs3 : (W2.setCell ⟨w.heap.size + 2, 0, none⟩ (.int .i64 ((i : Int) + 1))).heap.size = W2.heap.size := by simp [World.setCell]
      refine ⟨_, _, rf_end HREC.out none hl3, .inl ⟨rfl, ⟨HJ.out.fr.then_ hfS (fun b hb h => ?_), HJ.out.kb.fr hfS (fun h => by have := HDW.out; omega), HJ.out.rb.fr hfS (fun h => by have := HDW.out; omega), ?_, ?_, ?_, Nat.le_trans HJ.out.sz hfS.size, fun m hm => ?_⟩, hfS⟩⟩
      · have := HDW.out
        rcases h with h | h <;> omega
      · have := Blk.set_ HIB.out 0 (.int .i64 ((i : Int) + 1))
        exact this.fr (Fr.putObj _ _) (fun h => h2.out.1 h)
      · exact World.putObj_heap_same (by rw [hs3]; exact Nat.lt_of_lt_of_le h2.out.2.1 HFP.out.size)
      · exact (World.putObj_heap_other h2.out.2.2).trans ((Below.heap_setCell _ ⟨w.heap.size + 2, 0, none⟩ _ _ (fun h => by have := HDW.out; simp only at h; omega)).trans HDP.out)
      · have := HJ.out.le m hm
        rcases Nat.lt_or_ge i m with h | h
        · exact h
        · exact absurd (by rw [hm]; omega) hki
  rintro e W2 ⟨hv, hj | hx⟩
  · refine ⟨hv, .ready, none, (fun h => by cases h), hj.lp, ?_⟩
    have hfp : Fr (fun b => b = D + 1) W2 (W2.putObj (D + 1) (.loop (rec .exhausted none))) := Fr.putObj _ _
    have hrb := hj.rb.fr hfp (fun h => by have := HDW.out; omega)
    have hdp : (W2.putObj (D + 1) (.loop (rec .exhausted none))).heap[D]? = some (.deferred (some [])) := (World.putObj_heap_other (by omega)).trans hj.df
    have hfa : Fr No w (W2.putObj (D + 1) (.loop (rec .exhausted none))) := hj.fr.then_ hfp (fun b hb h => by have := HDW.out; omega)
    have HLE := Lib.hid hj.le
    show Exit.inBlock 0 _ .normal _ (W2.putObj (D + 1) (.loop (rec .exhausted none)))
    generalize (W2.putObj (D + 1) (.loop (rec .exhausted none))) = W3 at hrb hdp hfa ⊢
    have r1 : W3.cell? ⟨w.heap.size + 1, 0, none⟩ = some (.pointer none) := (hrb.cell 0).trans rfl
    have r2 := hrb.frozen 0
    have r3 := hrb.lt
    have HDP := Lib.hid hdp
    have HFA := Lib.hid hfa
    have HRB := Lib.hid hrb
    clear hv hj hfp hdp hfa hrb hf1 hl1 hd1 hfw J0 hbox hTT bP bK bR bI hf0 hs0 hD hD1
    gi_wp2_with fail
    refine ⟨by simp, .inl ⟨_, _, rfl, run_takeDeferred ((Below.heap_setCell _ ⟨w.heap.size + 1, 0, none⟩ _ _ (fun h => by have := HDW.out; simp only at h; omega)).trans HDP.out), ?_⟩⟩
    refine ⟨_, results_cell1 (e := 78) rfl _ _ ⟨w.heap.size + 1, 0, none⟩ (.pointer none) rfl (by kernel_rfl) ?_, ?_⟩
    · exact ((HRB.out.set_ 0 (.pointer none)).fr (Fr.putObj D _) (fun h => by have := HDW.out; omega)).cell 0
    · refine .inr ⟨fun m hm h1 => ?_, rfl, ?_⟩
      · have := HLE.out m hm
        omega
      · exact (HFA.out.setCell (p := ⟨w.heap.size + 1, 0, none⟩) (.inr (Nat.le_add_right _ 1)) _).then_ (Fr.putObj D _) (fun b hb h => by have := HDW.out; omega)
  · refine ⟨hv, .done, some .ret, (fun h => by cases h), hx.lp, ?_⟩
    have hfp : Fr (fun b => b = D + 1) W2 (W2.putObj (D + 1) (.loop (rec .exhausted (some .ret)))) := Fr.putObj _ _
    obtain ⟨v, hv0, hv1⟩ := hx.rb
    have hrb := hv0.fr hfp (fun h => by have := HDW.out; omega)
    have hdp : (W2.putObj (D + 1) (.loop (rec .exhausted (some .ret)))).heap[D]? = some (.deferred (some [])) := (World.putObj_heap_other (by omega)).trans hx.df
    have hfa : Fr No w (W2.putObj (D + 1) (.loop (rec .exhausted (some .ret)))) := hx.fr.then_ hfp (fun b hb h => by have := HDW.out; omega)
    have hTp : ∀ b, T b → b < W2.heap.size ∧ ¬ b = D + 1 := fun b hb => by have h1 := HTX.out b hb; have h2 := hx.sz; exact ⟨by omega, by omega⟩
    have hv2 := hv1.fr (S := fun b => b = D + 1) hTp (fun b hb => by omega) hfp
    have hsz3 : D + 2 ≤ (W2.putObj (D + 1) (.loop (rec .exhausted (some .ret)))).heap.size := Nat.le_trans hx.sz hfp.size
    show Code.wpIn F n Tryz.prog .ret (Exit.inBlock 0 _) _ (W2.putObj (D + 1) (.loop (rec .exhausted (some .ret))))
    generalize (W2.putObj (D + 1) (.loop (rec .exhausted (some .ret)))) = W3 at hrb hdp hfa hv2 hsz3 ⊢
    have HDP := Lib.hid hdp
    have HFA := Lib.hid hfa
    have HRB := Lib.hid hrb
    have HV := Lib.hid hv2
    have HS3 := Lib.hid hsz3
    clear hv hx hfp hdp hfa hrb hf1 hl1 hd1 hfw J0 hbox hTT bP bK bR bI hf0 hs0 hD hD1 hv0 hv1 hv2 hTp hsz3
    gi_wp2_with fail
    refine ⟨by simp, .inl ⟨_, _, rfl, run_takeDeferred HDP.out, ?_⟩⟩
    have hTp : ∀ b, T b → b < W3.heap.size ∧ ¬ b = D := fun b hb => by have h1 := HTX.out b hb; have h2 := HS3.out; exact ⟨by omega, by omega⟩
    have hv4 := HV.out.fr (S := fun b => b = D) hTp (fun b hb => by omega) (Fr.putObj D (.deferred none))
    have hf4 : Fr No w (W3.putObj D (.deferred none)) := HFA.out.then_ (Fr.putObj D _) (fun b hb h => by have := HDW.out; omega)
    refine ⟨_, results_cell1 (e := 78) rfl _ _ ⟨w.heap.size + 1, 0, none⟩ (.pointer v) rfl (by kernel_rfl) ?_, ?_⟩
    · exact (HRB.out.fr (Fr.putObj D _) (fun h => by have := HDW.out; omega)).cell 0
    · obtain ⟨m, m1, m2, ⟨m3, p2, rfl, m4⟩ | ⟨m3, rfl⟩⟩ := hv4
      · refine .inl ⟨m, m1, m2, m3, p2, rfl, hf4, m4.mono (fun b hb => hb.imp (fun h => h) (fun h => ⟨by have := HDW.out; omega, h.2⟩)) (fun _ _ => rfl)⟩
      · refine .inr ⟨fun m' hm' _ => ?_, rfl, hf4⟩
        have : m' = m := by omega
        rw [this]; exact m3

theorem step_any (w : World) (T : Nat → Prop) (p : Nat) (h a : List UInt8) (d : Nat) (k : Ts) (kk : Int) (ht : Tm w T p h a d k) (hw : WfT (.cons h a d k .nil)) (hdl : Dle 10000 (.cons h a d k .nil)) (hsz : (Ts.cons h a d k .nil).size ≤ 300) (hT : ∀ b, T b → b < w.heap.size) :
    Calls Tryz.prog 27 #[Ptr p, .int .i64 kk] w fun e w' => StepV T (.cons h a d k .nil) kk w e w' :=
  (callsIn_wide (n := 6)).1 (step_in Fence.wide 6 (fun _ => trivial) rfl (fun _ _ _ _ _ h => callsIn_wide.2 h) (Nat.le_refl _) w T p h a d k kk ht hw hdl hsz hT)
end Go.Proofs.YtnjgaenhjdjpfaaGreatDoor
