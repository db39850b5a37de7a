/- The element that has digits, by a loop over slices.Backward; SetFun of the program. -/
import Derived.Test.YtngbpcphkfmncaaBw
import Derived.Test.YtngbpcphkfmncaaSfn
namespace Go.Proofs.Ytngbpcphkfmncaa
open Go.RowKit Go.ChangeMaps Go.Shelf

attribute [local go_sem] Oper.semAt_some

/-- what the loop knows between two rounds -/
structure EJ (w : World) (g n1 E l D : Nat) (rec : LoopState → Option Code → Loop) (b : Nat) (lst : List Int) (j : Nat) (W : World) : Prop where
  fr : Fr No w W
  box : Blk W E 3 #[.int .i64 ((undI b (lst.drop j) : Nat) : Int)]
  par : Blk W w.heap.size 81 #[Ptr g]
  lp : W.heap[l]? = some (.loop (rec .ready none))
  df : W.heap[D]? = some (.deferred (some []))
  sz : n1 ≤ W.heap.size

set_option maxRecDepth 100000 in
set_option maxHeartbeats 4000000 in
theorem elem_in (F : Fence) (n : Nat) (hfn : ∀ f, F.fn f) (hro : F.round = none) (hC : ∀ (m f : Nat) (args : Array Value) (w : World) (R : Ending → World → Prop), Calls Try.prog f args w R → CallsIn F m Try.prog f args w R) (hn : 6 ≤ n)
    (w : World) (g : Nat) (f : Bool) (a b d : Nat) (hF : FsAt w g f a b d) (A : Option Addr) (c : Nat) (lst : List Int) (hl : ISl w A lst) (hb : 1 ≤ b) (hb2 : b ≤ 4096) (hok : ∀ z ∈ lst, 0 ≤ z ∧ z < (b : Int)) (hbig : b ^ lst.length ≤ 4096) (hlen : lst.length ≤ 4096) (hl1 : 1 ≤ lst.length) :
    CallsIn F n Try.prog 59 #[Ptr g, .slice A lst.length c] w fun e w' => e = .returned (.int .i64 ((undI b lst : Nat) : Int)) ∧ Fr No w w' := by
  have h1 : 1 ≤ n := by omega
  obtain ⟨gl, gr, sz, s1, z1, p1, q1, s2, z2, p2, q2, hg1, _, hg3⟩ := hF
  have CELLS : Hid (∀ W, Fr No w W → W.cell? ⟨g, 4, none⟩ = some (Ptr gr) ∧ W.cell? ⟨gr, 2, none⟩ = some (.int .i64 b)) := fun W hf => ⟨((hg1.fr hf (fun h => h)).cell 4).trans rfl, ((hg3.fr hf (fun h => h)).cell 2).trans rfl⟩
  have LOW : Hid (g < w.heap.size ∧ gr < w.heap.size ∧ ∀ z (j : Nat), lst[j]? = some z → ∀ g o, A = some ⟨g, o, none⟩ → g < w.heap.size) := by
    refine ⟨hg1.lt, hg3.lt, fun z j hz g o e => ?_⟩
    obtain ⟨g', o', e', hc⟩ := hl j z hz
    rw [e] at e'
    injection e' with e'
    injection e' with e1
    subst e1
    exact block_lt hc
  have HL := Lib.hid hl
  have LT := Lib.hid (undI_lt hok hb hbig)
  have HOK := Lib.hid hok
  have HC := Lib.hid hC
  clear hg1 hg3 hl hok hbig hC
  refine callsIn_of_wp_marks Try.func59 rfl (hfn _) ?_ hro
  simp only [Try.ntmps59, List.size_toArray, List.length_cons, List.length_nil, Nat.reduceAdd, Nat.reduceSub, Array.replicate_succ, Array.replicate_zero, List.push_toArray, List.append_toArray, List.nil_append, List.cons_append]
  gi_wp2_with (gi_at_call 73; refine (HC.out _ _ _ _ _ (backward_any _ _ _ _)).mono ?_; rintro e w' ⟨rfl, rfl⟩)
  have hs0 : (((w.alloc (.cells #[Ptr g] 81)).alloc (.cells #[.int .i64 0] 3)).alloc (.cells #[.slice A lst.length c] 31)).heap.size = w.heap.size + 3 := by simp
  have hf0 : Fr No w (((w.alloc (.cells #[Ptr g] 81)).alloc (.cells #[.int .i64 0] 3)).alloc (.cells #[.slice A lst.length c] 31)) := (((Fr.refl _ _).alloc _).alloc _).alloc _
  have bG : Blk (((w.alloc (.cells #[Ptr g] 81)).alloc (.cells #[.int .i64 0] 3)).alloc (.cells #[.slice A lst.length c] 31)) w.heap.size 81 #[Ptr g] := ((Blk.new _ _ _).alloc _).alloc _
  have bE : Blk (((w.alloc (.cells #[Ptr g] 81)).alloc (.cells #[.int .i64 0] 3)).alloc (.cells #[.slice A lst.length c] 31)) (w.heap.size + 1) 3 #[.int .i64 0] := (Blk.new_at _ _ _ (by simp)).alloc _
  have bP : Blk (((w.alloc (.cells #[Ptr g] 81)).alloc (.cells #[.int .i64 0] 3)).alloc (.cells #[.slice A lst.length c] 31)) (w.heap.size + 2) 31 #[.slice A lst.length c] := Blk.new_at _ _ _ (by simp)
  generalize (((w.alloc (.cells #[Ptr g] 81)).alloc (.cells #[.int .i64 0] 3)).alloc (.cells #[.slice A lst.length c] 31)) = w2 at hs0 hf0 bG bE bP ⊢
  refine rf_stmt hro h1 (gf := 83) (lb := #[Ptr (w.heap.size + 2)]) rfl (hfn _) (enters_of Try.func83 (by kernel_rfl) rfl) ?_
  intro fn D rec hf hD hrec W1 hW1
  have HREC := Lib.hid hrec
  have hD1 : W1.heap.size = D + 2 := by rw [hW1, hD]; simp
  have hf1 : Fr No w2 W1 := by rw [hW1]; exact ((Fr.refl _ _).alloc _).alloc _
  have hl1 : W1.heap[D + 1]? = some (.loop (rec .ready none)) := by
    rw [hW1]
    have := World.alloc_heap_new (w2.alloc (.deferred (some []))) (.loop (rec .ready none))
    rwa [World.size_alloc, ← hD] at this
  have hd1 : W1.heap[D]? = some (.deferred (some [])) := by
    rw [hW1, hD]
    exact (Below.heap_alloc _ _ _ (by simp)).trans (World.alloc_heap_new w2 _)
  have HDW : Hid (D = w.heap.size + 3) := by show _ = _; omega
  have HD1 := Lib.hid hD1
  clear hrec hW1
  have hfw := hf0.trans hf1
  have J0 : EJ w g (D + 2) (w.heap.size + 1) (D + 1) D rec b lst lst.length W1 := ⟨hfw, by rw [undI_end]; exact bE.fr hf1 (fun h => h), bG.fr hf1 (fun h => h), hl1, hd1, by omega⟩
  have hbox : W1.cell? ⟨w.heap.size + 2, 0, none⟩ = some (.slice A lst.length c) := ((bP.fr hf1 (fun h => h)).cell 0).trans rfl
  have hsl1 : ISl W1 A lst := HL.out.keep hfw (fun _ h => h.elim)
  refine (bw_in F (n - 1) hfn hro (by omega) (D + 1) (w.heap.size + 2) (fun b => b = w.heap.size + 1 ∨ b = D + 1) A c lst (EJ w g (D + 2) (w.heap.size + 1) (D + 1) D rec b lst) ?round W1 (by omega) J0 hbox hsl1 (by rintro (h | h) <;> have := HDW.out <;> omega) ?low).mono ?_
  case low =>
    obtain ⟨z, hz⟩ : ∃ z, lst[0]? = some z := ⟨_, List.getElem?_eq_getElem (by omega)⟩
    rintro g1 o1 e (h | h)
    · have := LOW.out.2.2 z 0 hz g1 o1 e; omega
    · have := LOW.out.2.2 z 0 hz g1 o1 e; have := HDW.out; omega
  case round =>
    intro i z W hj hz
    have HAT : Hid (((undI b (lst.drop (i + 1)) : Nat) : Int) * (b : Int) + z = ((undI b (lst.drop i) : Nat) : Int)) := undI_at HOK.out hz
    have hzz := HOK.out z (List.mem_of_getElem? hz)
    have t1 := LT.out i
    have t2 := LT.out (i + 1)
    have hp0 : 0 ≤ ((undI b (lst.drop (i + 1)) : Nat) : Int) * (b : Int) := Int.mul_nonneg (by omega) (by omega)
    have hs : ((undI b (lst.drop (i + 1)) : Nat) : Int) * (b : Int) + z ≤ 4096 := by rw [HAT.out]; omega
    have hw1 : IntKind.i64.wrap (((undI b (lst.drop (i + 1)) : Nat) : Int) * (b : Int)) = ((undI b (lst.drop (i + 1)) : Nat) : Int) * (b : Int) := IntWalk.i64_in _ (by omega)
    have hw2 : IntKind.i64.wrap (((undI b (lst.drop (i + 1)) : Nat) : Int) * (b : Int) + z) = ((undI b (lst.drop i) : Nat) : Int) := by rw [IntWalk.i64_in _ (by omega)]; exact HAT.out
    have h2 : Hid (w.heap.size + 1 ≠ D + 1 ∧ D + 1 < W.heap.size ∧ D ≠ D + 1 ∧ w.heap.size ≠ D + 1 ∧ g ≠ D + 1 ∧ gr ≠ D + 1 ∧ g ≠ w.heap.size + 1 ∧ gr ≠ w.heap.size + 1) := by
      have := HDW.out
      have := hj.sz
      have := LOW.out
      exact ⟨by omega, by omega, by omega, by omega, by omega, by omega, by omega, by omega⟩
    have HJ := Lib.hid hj
    clear hj hz hzz t1 t2 hp0 hs hf1 hl1 hd1 hfw J0 hbox bG bE bP hf0 hs0 hD hD1 hsl1
    refine rf_round HREC.out hf HJ.out.lp rfl ?_
    gi_wp2_with fail
    refine ⟨_, rf_begin HREC.out HJ.out.lp, ?_⟩
    have hfp : Fr (fun b => b = D + 1) W (W.putObj (D + 1) (.loop (rec .busy none))) := Fr.putObj _ _
    have hbx := HJ.out.box.fr hfp (fun h => h2.out.1 h)
    have hbg := HJ.out.par.fr hfp (fun h => h2.out.2.2.2.1 h)
    have hlp : (W.putObj (D + 1) (.loop (rec .busy none))).heap[D + 1]? = some (.loop (rec .busy none)) := World.putObj_heap_same h2.out.2.1
    have hdp : (W.putObj (D + 1) (.loop (rec .busy none))).heap[D]? = some (.deferred (some [])) := (World.putObj_heap_other h2.out.2.2.1).trans HJ.out.df
    have hcg : (W.putObj (D + 1) (.loop (rec .busy none))).cell? ⟨g, 4, none⟩ = some (Ptr gr) := (hfp.cell (p := ⟨g, 4, none⟩) (block_lt (CELLS.out W HJ.out.fr).1) (fun h => h2.out.2.2.2.2.1 h)).trans (CELLS.out W HJ.out.fr).1
    have hcr : (W.putObj (D + 1) (.loop (rec .busy none))).cell? ⟨gr, 2, none⟩ = some (.int .i64 b) := (hfp.cell (p := ⟨gr, 2, none⟩) (block_lt (CELLS.out W HJ.out.fr).2) (fun h => h2.out.2.2.2.2.2.1 h)).trans (CELLS.out W HJ.out.fr).2
    generalize (W.putObj (D + 1) (.loop (rec .busy none))) = W2 at hfp hbx hbg hlp hdp hcg hcr ⊢
    have c0 : W2.cell? ⟨w.heap.size + 1, 0, none⟩ = some (.int .i64 ((undI b (lst.drop (i + 1)) : Nat) : Int)) := (hbx.cell 0).trans rfl
    have c1 : W2.cell? ⟨w.heap.size, 0, none⟩ = some (Ptr g) := (hbg.cell 0).trans rfl
    have f0 := hbx.frozen 0
    have l0 := hbx.lt
    have HFP := Lib.hid hfp
    have HBX := Lib.hid hbx
    have HBG := Lib.hid hbg
    have HLP := Lib.hid hlp
    have HDP := Lib.hid hdp
    have hmix : Try.prog.follows .mixedOrders = true := by kernel_rfl
    clear hfp hbx hbg hlp hdp
    generalize undI b (lst.drop (i + 1)) = q0 at *
    generalize hq1 : undI b (lst.drop i) = q1 at *
    have HQ1 := Lib.hid hq1
    clear hq1
    have FIN : Hid (∀ act : Act, roundPost Try.prog (D + 1) (fun e W' => e = .returned (.bool true) ∧ EJ w g (D + 2) (w.heap.size + 1) (D + 1) D rec b lst i W' ∧ Fr (fun b => b = w.heap.size + 1 ∨ b = D + 1) W W') Exit.normal act (W2.setCell ⟨w.heap.size + 1, 0, none⟩ (.int .i64 (q1 : Int))).drew) := by
      intro act
      have hl3 : (W2.setCell ⟨w.heap.size + 1, 0, none⟩ (.int .i64 (q1 : Int))).drew.heap[D + 1]? = some (.loop (rec .busy none)) := (Below.heap_setCell _ ⟨w.heap.size + 1, 0, none⟩ _ _ (fun h => h2.out.1 h.symm)).trans HLP.out
      refine ⟨_, _, rf_end HREC.out none hl3, ⟨rfl, ?_⟩⟩
      have hfS : Fr (fun b => b = w.heap.size + 1 ∨ b = D + 1) W ((W2.setCell ⟨w.heap.size + 1, 0, none⟩ (.int .i64 (q1 : Int))).drew.putObj (D + 1) (.loop (rec .ready none))) :=
        (((HFP.out.mono (fun _ _ h => .inr h)).setCell (p := ⟨w.heap.size + 1, 0, none⟩) (.inl (.inl rfl)) _).drew).trans ((Fr.putObj _ _).mono (fun _ _ h => .inr h))
      have hs3 : (W2.setCell ⟨w.heap.size + 1, 0, none⟩ (.int .i64 (q1 : Int))).drew.heap.size = W2.heap.size := by simp [World.setCell]
      refine ⟨⟨HJ.out.fr.then_ hfS (fun b hb h => ?_), ?_, ?_, ?_, ?_, Nat.le_trans HJ.out.sz hfS.size⟩, hfS⟩
      · have := HDW.out
        rcases h with h | h <;> omega
      · have h := (Blk.set_ HBX.out 0 (.int .i64 (q1 : Int))).drew
        rw [HQ1.out]
        exact h.fr (Fr.putObj _ _) (fun h => h2.out.1 h)
      · exact ((HBG.out.far (p := ⟨w.heap.size + 1, 0, none⟩) (by show w.heap.size ≠ w.heap.size + 1; omega) _).drew).fr (Fr.putObj _ _) (fun h => h2.out.2.2.2.1 h)
      · exact World.putObj_heap_same (by rw [hs3]; exact Nat.lt_of_lt_of_le h2.out.2.1 HFP.out.size)
      · exact (World.putObj_heap_other h2.out.2.2.1).trans ((Below.heap_setCell _ ⟨w.heap.size + 1, 0, none⟩ _ _ (fun h => by have := HDW.out; simp only at h; omega)).trans HDP.out)
    clear HFP HBX HBG HLP HDP HAT HJ HREC
    gi_wp2_with fail
    gi_region_o
    all_goals gi_wp2_with fail
    all_goals exact FIN.out _
  rintro e W2 ⟨hv, hj⟩
  refine ⟨hv, .ready, none, (fun h => by cases h), hj.lp, ?_⟩
  have hfp : Fr (fun b => b = D + 1) W2 (W2.putObj (D + 1) (.loop (rec .exhausted none))) := Fr.putObj _ _
  have hbx := hj.box.fr hfp (fun h => by have := HDW.out; omega)
  have hdp : (W2.putObj (D + 1) (.loop (rec .exhausted none))).heap[D]? = some (.deferred (some [])) := (World.putObj_heap_other (by omega)).trans hj.df
  have hfa : Fr No w (W2.putObj (D + 1) (.loop (rec .exhausted none))) := hj.fr.then_ hfp (fun b hb h => by have := HDW.out; omega)
  show Exit.inBlock 0 _ .normal _ (W2.putObj (D + 1) (.loop (rec .exhausted none)))
  generalize (W2.putObj (D + 1) (.loop (rec .exhausted none))) = W3 at hbx hdp hfa ⊢
  rw [List.drop_zero] at hbx
  have c0 : W3.cell? ⟨w.heap.size + 1, 0, none⟩ = some (.int .i64 ((undI b lst : Nat) : Int)) := (hbx.cell 0).trans rfl
  have l0 := hbx.lt
  have HDP := Lib.hid hdp
  have HFA := Lib.hid hfa
  clear hv hj hfp hbx hdp hfa hf1 hl1 hd1 hfw J0 hbox bG bE bP hf0 hs0 hD hD1 hsl1
  generalize hq : undI b lst = q at *
  have HQ := Lib.hid hq
  clear hq
  gi_wp2_with fail
  refine ⟨by simp, .inl ⟨_, _, rfl, run_takeDeferred HDP.out, ?_⟩⟩
  exact ⟨_, results_tmp rfl _ _ _, by rw [HQ.out]; rfl, HFA.out.then_ (Fr.putObj D _) (fun b hb h => by have := HDW.out; omega)⟩

theorem elem_any (w : World) (g : Nat) (f : Bool) (a b d : Nat) (hF : FsAt w g f a b d) (A : Option Addr) (c : Nat) (lst : List Int) (hl : ISl w A lst) (hb : 1 ≤ b) (hb2 : b ≤ 4096) (hok : ∀ z ∈ lst, 0 ≤ z ∧ z < (b : Int)) (hbig : b ^ lst.length ≤ 4096) (hlen : lst.length ≤ 4096) (h1 : 1 ≤ lst.length) :
    Calls Try.prog 59 #[Ptr g, .slice A lst.length c] w fun e w' => e = .returned (.int .i64 ((undI b lst : Nat) : Int)) ∧ Fr No w w' :=
  (callsIn_wide (n := 6)).1 (elem_in Fence.wide 6 (fun _ => trivial) rfl (fun _ _ _ _ _ h => callsIn_wide.2 h) (Nat.le_refl _) w g f a b d hF A c lst hl hb hb2 hok hbig hlen h1)
end Go.Proofs.Ytngbpcphkfmncaa
