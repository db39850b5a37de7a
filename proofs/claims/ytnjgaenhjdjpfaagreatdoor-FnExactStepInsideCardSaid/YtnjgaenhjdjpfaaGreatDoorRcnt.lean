/- countRedexes of the program. -/
import Derived.Test.YtnjgaenhjdjpfaaGreatDoorRit
namespace Go.Proofs.YtnjgaenhjdjpfaaGreatDoor
open Go.RowKit Go.ChangeMaps Go.Shelf

attribute [local go_sem] Oper.semAt_some

theorem befZ_le {t : Ts} : ∀ {fs : List ZF} {x : Ts}, okZ t fs x → befZ fs + cR x ≤ cR t
  | [], x, h => by rw [h]; simp [befZ]
  | f :: fs, x, h => by
    have h1 := befZ_le h.2.2
    have h2 := cTo_le f.k f.j
    rw [h.1] at h2
    simp only [befZ, cR] at h1 ⊢
    omega

theorem cR_nods : ∀ t : Ts, cR t ≤ t.nods
  | .nil => Nat.le_refl _
  | .cons h a d k r => by
    have h1 := cR_nods k
    have h2 := cR_nods r
    have h3 : rx1 h k ≤ 1 := by unfold rx1; split <;> omega
    simp only [cR, Ts.nods]; omega

theorem Fr.putObj {W : World} (l : Nat) (o : Obj) : Fr (fun b => b = l) W (W.putObj l o) := ⟨rfl, rfl, rfl, by simp, fun _ _ h => World.putObj_heap_other h⟩

set_option maxHeartbeats 400000 in
theorem redexes_any (w : World) (p : Nat) : Calls Tryz.prog 37 #[Ptr p] w fun e w' => e = .returned (.func (.func 63) #[] #[Ptr w.heap.size]) ∧ w' = w.alloc (.cells #[Ptr p] 31) := by
  go_enter Tryz.func37, Tryz.ntmps37
  go_wp2_with fail
  go_ret
  exact ⟨rfl, rfl⟩

/-- what countRedexes knows between two rounds -/
structure CJ (w : World) (n1 B l D : Nat) (rec : LoopState → Option Code → Loop) (i : Nat) (W : World) : Prop where
  fr : Fr No w W
  box : Blk W B 3 #[.int .i64 (i : Int)]
  lp : W.heap[l]? = some (.loop (rec .ready none))
  df : W.heap[D]? = some (.deferred (some []))
  sz : n1 ≤ W.heap.size

set_option maxRecDepth 100000 in
set_option maxHeartbeats 4000000 in
theorem count_in (F : Fence) (n : Nat) (hfn : ∀ f, F.fn f) (hro : F.round = none) (hC : ∀ (m f : Nat) (args : Array Value) (w : World) (R : Ending → World → Prop), Calls Tryz.prog f args w R → CallsIn F m Tryz.prog f args w R) (hn : 6 ≤ n)
    (w : World) (T : Nat → Prop) (p : Nat) (h a : List UInt8) (d : Nat) (k : Ts) (ht : Tm w T p h a d k) (hw : WfT (.cons h a d k .nil)) (hsz : (Ts.cons h a d k .nil).size ≤ 300) (hT : ∀ b, T b → b < w.heap.size) :
    CallsIn F n Tryz.prog 26 #[Ptr p] w fun e w' => e = .returned (.int .i64 (cR (.cons h a d k .nil) : Nat)) ∧ Fr No w w' := by
  have h1 : 1 ≤ n := by omega
  obtain ⟨t, HTE⟩ : ∃ t, Hid (Ts.cons h a d k .nil = t) := ⟨_, rfl⟩
  rw [HTE.out] at hw hsz ⊢
  have HM := Lib.hid ht
  have HW := Lib.hid hw
  have HSZ := Lib.hid hsz
  have HT := Lib.hid hT
  have HC := Lib.hid hC
  clear ht hw hsz hT hC
  refine callsIn_of_wp_marks Tryz.func26 rfl (hfn _) ?_ hro
  simp only [Tryz.ntmps26, List.size_toArray, List.length_cons, List.length_nil, Nat.reduceAdd, Nat.reduceSub, Array.replicate_succ, Array.replicate_zero, List.push_toArray, List.append_toArray, List.nil_append, List.cons_append]
  gi_wp2_with (gi_at_call 37; refine (HC.out _ _ _ _ _ (redexes_any _ p)).mono ?_; rintro e w' ⟨rfl, rfl⟩)
  have hs0 : ((w.alloc (.cells #[.int .i64 0] 3)).alloc (.cells #[Ptr p] 31)).heap.size = w.heap.size + 2 := by simp
  have hf0 : Fr No w ((w.alloc (.cells #[.int .i64 0] 3)).alloc (.cells #[Ptr p] 31)) := ((Fr.refl _ _).alloc _).alloc _
  have bB : Blk ((w.alloc (.cells #[.int .i64 0] 3)).alloc (.cells #[Ptr p] 31)) w.heap.size 3 #[.int .i64 0] := (Blk.new _ _ _).alloc _
  have bP : Blk ((w.alloc (.cells #[.int .i64 0] 3)).alloc (.cells #[Ptr p] 31)) (w.heap.size + 1) 31 #[Ptr p] := Blk.new_at _ _ _ (by simp)
  generalize ((w.alloc (.cells #[.int .i64 0] 3)).alloc (.cells #[Ptr p] 31)) = w2 at hs0 hf0 bB bP ⊢
  refine rf_stmt hro h1 (gf := 63) (lb := #[Ptr (w.heap.size + 1)]) rfl (hfn _) (enters_of Tryz.func63 (by kernel_rfl) rfl) ?_
  intro fn D rec hf hD hrec W1 hW1
  have HREC := Lib.hid hrec
  have hD1 : W1.heap.size = D + 2 := by rw [hW1, hD]; simp
  have hf1 : Fr No w2 W1 := by rw [hW1]; exact ((Fr.refl _ _).alloc _).alloc _
  have hl1 : W1.heap[D + 1]? = some (.loop (rec .ready none)) := by
    rw [hW1]
    have := World.alloc_heap_new (w2.alloc (.deferred (some []))) (.loop (rec .ready none))
    rwa [World.size_alloc, ← hD] at this
  have hd1 : W1.heap[D]? = some (.deferred (some [])) := by
    rw [hW1, hD]
    exact (Below.heap_alloc _ _ _ (by simp)).trans (World.alloc_heap_new w2 _)
  have HDW : Hid (D = w.heap.size + 2) := by show _ = _; omega
  have HD1 := Lib.hid hD1
  clear hrec hW1
  have hfw := hf0.trans hf1
  have J0 : CJ w (D + 2) w.heap.size (D + 1) D rec 0 W1 := ⟨hfw, bB.fr hf1 (fun h => h), hl1, hd1, by omega⟩
  have hbox : W1.cell? ⟨w.heap.size + 1, 0, none⟩ = some (Ptr p) := ((bP.fr hf1 (fun h => h)).cell 0).trans rfl
  have hTT : ∀ b, T b → b < D + 2 ∧ ¬ (b = w.heap.size ∨ b = D + 1) := fun b hb => by have := HT.out b hb; exact ⟨by omega, by omega⟩
  refine (redexes1_in F (n - 1) hfn hro HC.out (by omega) (D + 1) (w.heap.size + 1) (fun b => b = w.heap.size ∨ b = D + 1) T (D + 2) t (CJ w (D + 2) w.heap.size (D + 1) D rec) (fun _ => False)
    ⟨?keep, fun i W h => h.sz, ?slt, hTT, ?round⟩ W1 p h a d k (HM.out.mono (fun _ h => h) (fun b hb => hfw.block b (HT.out b hb) (fun h => h))) HTE.out.symm HW.out HSZ.out hbox J0).mono ?_
  case keep =>
    intro i W W' hj hf
    have hDw := HDW.out
    have hz := hj.sz
    refine ⟨hj.fr.then_ hf (fun b hb h => by omega), hj.box.fr hf (fun h => by omega), ?_, ?_, Nat.le_trans hj.sz hf.size⟩
    · exact (hf.block (D + 1) (by omega) (fun h => by omega)).trans hj.lp
    · exact (hf.block D (by omega) (fun h => by omega)).trans hj.df
  case slt =>
    rintro b (rfl | rfl) <;> omega
  case round =>
    intro i W q c fs h' a' d' k' hj hza hbi hx
    have hle := befZ_le hza.ok
    have hnd := cR_nods t
    have hns := nods_size t
    have hsz := HSZ.out
    have i1 : (i : Int) ≤ 300 := by omega
    have i0 : (0 : Int) ≤ (i : Int) := by omega
    have hz := hj.sz
    have h2 : Hid (w.heap.size ≠ D + 1 ∧ D + 1 < W.heap.size ∧ D ≠ D + 1) := by have := HDW.out; exact ⟨by omega, by omega, by omega⟩
    have hw0 : IntKind.i64.wrap ((i : Int) + 1) = ((i + 1 : Nat) : Int) := by rw [IntWalk.i64_in _ (by omega)]; omega
    have HJ := Lib.hid hj
    have HLE : Hid (i + 1 ≤ 301) := by show _ ≤ _; omega
    clear hj hza hbi hx hle hnd hns hsz hf1 hl1 hd1 hfw J0 hbox hTT bB bP hf0 hs0 hD hD1 hz
    refine rf_round HREC.out hf HJ.out.lp rfl ?_
    gi_wp2_with fail
    refine ⟨_, rf_begin HREC.out HJ.out.lp, ?_⟩
    have hfp : Fr (fun b => b = D + 1) W (W.putObj (D + 1) (.loop (rec .busy none))) := Fr.putObj _ _
    have hbx := HJ.out.box.fr hfp (fun h => h2.out.1 h)
    have hlp : (W.putObj (D + 1) (.loop (rec .busy none))).heap[D + 1]? = some (.loop (rec .busy none)) := World.putObj_heap_same h2.out.2.1
    have hdp : (W.putObj (D + 1) (.loop (rec .busy none))).heap[D]? = some (.deferred (some [])) := (World.putObj_heap_other h2.out.2.2).trans HJ.out.df
    generalize (W.putObj (D + 1) (.loop (rec .busy none))) = W2 at hfp hbx hlp hdp ⊢
    have c0 : W2.cell? ⟨w.heap.size, 0, none⟩ = some (.int .i64 (i : Int)) := (hbx.cell 0).trans rfl
    have f0 := hbx.frozen 0
    have l0 := hbx.lt
    have HFP := Lib.hid hfp
    have HBX := Lib.hid hbx
    have HLP := Lib.hid hlp
    have HDP := Lib.hid hdp
    clear hfp hbx hlp hdp
    gi_wp2_with fail
    have hl3 : (W2.setCell ⟨w.heap.size, 0, none⟩ (.int .i64 ((i : Int) + 1))).heap[D + 1]? = some (.loop (rec .busy none)) := (Below.heap_setCell _ ⟨w.heap.size, 0, none⟩ _ _ (fun h => h2.out.1 h.symm)).trans HLP.out
    refine ⟨_, _, rf_end HREC.out none hl3, ⟨rfl, ?_⟩⟩
    have hfS : Fr (fun b => b = w.heap.size ∨ b = D + 1) W ((W2.setCell ⟨w.heap.size, 0, none⟩ (.int .i64 ((i : Int) + 1))).putObj (D + 1) (.loop (rec .ready none))) :=
      ((HFP.out.mono (fun _ _ h => .inr h)).setCell (p := ⟨w.heap.size, 0, none⟩) (.inl (.inl rfl)) _).trans ((Fr.putObj _ _).mono (fun _ _ h => .inr h))
    have hs3 : (W2.setCell ⟨w.heap.size, 0, none⟩ (.int .i64 ((i : Int) + 1))).heap.size = W2.heap.size := by simp [World.setCell]
    refine ⟨⟨HJ.out.fr.then_ hfS (fun b hb h => ?_), ?_, ?_, ?_, Nat.le_trans HJ.out.sz hfS.size⟩, hfS⟩
    · have := HDW.out
      rcases h with h | h <;> omega
    · have := Blk.set_ HBX.out 0 (.int .i64 ((i : Int) + 1))
      exact this.fr (Fr.putObj _ _) (fun h => h2.out.1 h)
    · exact World.putObj_heap_same (by rw [hs3]; exact Nat.lt_of_lt_of_le h2.out.2.1 HFP.out.size)
    · exact (World.putObj_heap_other h2.out.2.2).trans ((Below.heap_setCell _ ⟨w.heap.size, 0, none⟩ _ _ (fun h => by have := HDW.out; simp only at h; omega)).trans HDP.out)
  rintro e W2 ⟨hv, hj | hx⟩
  · refine ⟨hv, .ready, none, (fun h => by cases h), hj.lp, ?_⟩
    have hfp : Fr (fun b => b = D + 1) W2 (W2.putObj (D + 1) (.loop (rec .exhausted none))) := Fr.putObj _ _
    have hbx := hj.box.fr hfp (fun h => by have := HDW.out; omega)
    have hdp : (W2.putObj (D + 1) (.loop (rec .exhausted none))).heap[D]? = some (.deferred (some [])) := (World.putObj_heap_other (by omega)).trans hj.df
    have hfa : Fr No w (W2.putObj (D + 1) (.loop (rec .exhausted none))) := hj.fr.then_ hfp (fun b hb h => by have := HDW.out; omega)
    show Exit.inBlock 0 _ .normal _ (W2.putObj (D + 1) (.loop (rec .exhausted none)))
    generalize (W2.putObj (D + 1) (.loop (rec .exhausted none))) = W3 at hbx hdp hfa ⊢
    have c0 : W3.cell? ⟨w.heap.size, 0, none⟩ = some (.int .i64 (cR t : Nat)) := (hbx.cell 0).trans rfl
    have l0 := hbx.lt
    have HDP := Lib.hid hdp
    have HFA := Lib.hid hfa
    clear hv hj hfp hbx hdp hfa hf1 hl1 hd1 hfw J0 hbox hTT bB bP hf0 hs0 hD hD1
    gi_wp2_with fail
    refine ⟨by simp, .inl ⟨_, _, rfl, run_takeDeferred HDP.out, ?_⟩⟩
    exact ⟨_, results_tmp rfl _ _ _, rfl, HFA.out.then_ (Fr.putObj D _) (fun b hb h => by have := HDW.out; omega)⟩
  · exact hx.elim

theorem count_any' (w : World) (T : Nat → Prop) (p : Nat) (h a : List UInt8) (d : Nat) (k : Ts) (ht : Tm w T p h a d k) (hw : WfT (.cons h a d k .nil)) (hsz : (Ts.cons h a d k .nil).size ≤ 300) (hT : ∀ b, T b → b < w.heap.size) :
    Calls Tryz.prog 26 #[Ptr p] w fun e w' => e = .returned (.int .i64 (cR (.cons h a d k .nil) : Nat)) ∧ Fr No w w' :=
  (callsIn_wide (n := 6)).1 (count_in Fence.wide 6 (fun _ => trivial) rfl (fun _ _ _ _ _ h => callsIn_wide.2 h) (Nat.le_refl _) w T p h a d k ht hw hsz hT)
end Go.Proofs.YtnjgaenhjdjpfaaGreatDoor
