/- slices.Collect over the numbers of a bit set. -/
import Derived.Test.YtloecimlimoanaaGreatDoorNum
import Derived.Test.YtloecimlimoanaaGreatDoorRf
import Derived.Test.YtloecimlimoanaaGreatDoorLrm
import Derived.Maps.AppendAt
namespace Go.Proofs.YtloecimlimoanaaGreatDoor
open Go.RowKit Go.ChangeMaps Go.Shelf

attribute [local go_sem] Oper.semAt_some

theorem Fr.putObj {W : World} (l : Nat) (o : Obj) : Fr (fun b => b = l) W (W.putObj l o) := ⟨rfl, rfl, rfl, by simp, fun _ _ h => World.putObj_heap_other h⟩

/-- what came in so far -/
structure CJ (w : World) (D : Nat) (rec : LoopState → Option Code → Loop) (pre : List Nat) (W : World) : Prop where
  fr : Fr No w W
  box : ∃ A n c, Blk W w.heap.size 25 #[.slice A n c] ∧ OR W (D + 2) A n c (pre.map Int.ofNat)
  lp : W.heap[D + 1]? = some (.loop (rec .ready none))
  df : W.heap[D]? = some (.deferred (some []))
  sz : D + 2 ≤ W.heap.size

theorem elems_len (N : Nat) (P : Nat → Bool) : (elems N P).length ≤ N := by
  unfold elems
  exact Nat.le_trans (List.length_filter_le _ _) (by simp)

def ColP (N : Nat) (P : Nat → Bool) (w : World) (e : Ending) (w' : World) : Prop := ∃ A n c, e = .returned (.slice A n c) ∧ Fr No w w' ∧ OR w' w.heap.size A n c ((elems N P).map Int.ofNat)

set_option maxRecDepth 100000 in
set_option maxHeartbeats 4000000 in
theorem append_any (w : World) (g N : Nat) (P : Nat → Bool) (ws : List Nat) (hb : Blk w g 63 (WV ws)) (hbits : BitsIs ws N P) (hN : N ≤ 100000) (hT : TZt w) :
    Calls Tryz.prog 51 #[.slice none 0 0, .func (.func 30) #[.slice (some ⟨g, 0, none⟩) (nw N) (nw N)] #[]] w fun e w' => ColP N P w e w' := by
  have hgl := hb.lt
  have hTl := hT.1
  have HLIST := Lib.hid hbits.list
  have HB := Lib.hid hb
  have HT := Lib.hid hT
  have HBITS := Lib.hid hbits
  obtain ⟨i0, hi0, hz0, hz1, hz2⟩ := info_parts info_int
  clear hb hbits hT
  refine (callsIn_wide (n := 6)).1 ?_
  refine callsIn_of_wp_marks Tryz.func51 rfl trivial ?_ rfl
  simp only [Tryz.ntmps51, List.size_toArray, List.length_cons, List.length_nil, Nat.reduceAdd, Nat.reduceSub, Array.replicate_succ, Array.replicate_zero, List.push_toArray, List.append_toArray, List.nil_append, List.cons_append]
  gi_wp2_with fail
  have hs0 : (w.alloc (.cells #[.slice none 0 0] 25)).heap.size = w.heap.size + 1 := by simp
  have hf0 : Fr No w (w.alloc (.cells #[.slice none 0 0] 25)) := (Fr.refl _ _).alloc _
  have bX : Blk (w.alloc (.cells #[.slice none 0 0] 25)) w.heap.size 25 #[.slice none 0 0] := Blk.new _ _ _
  generalize (w.alloc (.cells #[.slice none 0 0] 25)) = w2 at hs0 hf0 bX ⊢
  refine rf_stmt1 rfl (by decide) (gf := 30) (fa := #[.slice (some ⟨g, 0, none⟩) (nw N) (nw N)]) rfl trivial (enters_of Tryz.func30 (by kernel_rfl) rfl) ?_
  intro fn D rec hf hD hrec W1 hW1
  have HREC := Lib.hid hrec
  have hD1 : W1.heap.size = D + 2 := by rw [hW1, hD]; simp
  have hf1 : Fr No w2 W1 := by rw [hW1]; exact ((Fr.refl _ _).alloc _).alloc _
  have hl1 : W1.heap[D + 1]? = some (.loop (rec .ready none)) := by
    rw [hW1]
    have := World.alloc_heap_new (w2.alloc (.deferred (some []))) (.loop (rec .ready none))
    rwa [World.size_alloc, ← hD] at this
  have hd1 : W1.heap[D]? = some (.deferred (some [])) := by
    rw [hW1, hD]
    exact (Below.heap_alloc _ _ _ (by simp)).trans (World.alloc_heap_new w2 _)
  have HDW : Hid (D = w.heap.size + 1) := by show _ = _; omega
  have HD1 := Lib.hid hD1
  clear hrec hW1
  have hfw := hf0.trans hf1
  have J0 : CJ w D rec [] W1 := ⟨hfw, ⟨none, 0, 0, bX.fr hf1 (fun h => h), rfl, rfl, .inl ⟨rfl, rfl⟩⟩, hl1, hd1, by omega⟩
  refine (numbers_in Fence.wide 5 (fun _ => trivial) rfl (fun _ _ _ _ _ h => callsIn_wide.2 h) (by decide) (D + 1) g (fun b => w.heap.size ≤ b) ws N (CJ w D rec) ?round W1 HBITS.out.len hN HBITS.out.lt J0 (HB.out.fr hfw (fun h => h)) (HT.out.fr hfw (fun h => h)) (by omega) (by omega)).mono ?_
  case round =>
    intro pre x W hex hj
    have hlen : pre.length + 1 ≤ 100000 := by
      obtain ⟨post, e⟩ := hex
      have h1 := congrArg List.length e
      rw [HLIST.out] at h1
      have := elems_len N P
      simp at h1
      omega
    obtain ⟨A, m, c, hbx, hor⟩ := hj.box
    have HML : Hid (m = pre.length) := by show _ = _; rw [hor.1]; simp
    have hml : m + 1 ≤ 100000 := by have := HML.out; omega
    have HJ := Lib.hid hj
    have HBX := Lib.hid hbx
    have HOR := Lib.hid hor
    clear hj hex hbx hor hf1 hl1 hd1 hfw J0 bX hf0 hs0 hD hD1
    refine rf_round HREC.out hf HJ.out.lp rfl ?_
    gi_wp2_with fail
    refine ⟨_, rf_begin HREC.out HJ.out.lp, ?_⟩
    have hfp : Fr (fun b => b = D + 1) W (W.putObj (D + 1) (.loop (rec .busy none))) := Fr.putObj _ _
    have hbx := HBX.out.fr hfp (fun h => by have := HDW.out; omega)
    have hor := HOR.out.fr hfp (fun b hb h => by have := (HOR.out.bounds hb).1; omega)
    have hlp : (W.putObj (D + 1) (.loop (rec .busy none))).heap[D + 1]? = some (.loop (rec .busy none)) := World.putObj_heap_same (by have := HJ.out.sz; omega)
    have hdp : (W.putObj (D + 1) (.loop (rec .busy none))).heap[D]? = some (.deferred (some [])) := (World.putObj_heap_other (by omega)).trans HJ.out.df
    have hsp : (W.putObj (D + 1) (.loop (rec .busy none))).heap.size = W.heap.size := by simp
    generalize (W.putObj (D + 1) (.loop (rec .busy none))) = W2 at hfp hbx hor hlp hdp hsp ⊢
    have c0 : W2.cell? ⟨w.heap.size, 0, none⟩ = some (.slice A m c) := (hbx.cell 0).trans rfl
    have f0 := hbx.frozen 0
    have l0 := hbx.lt
    have hszW : D + 2 ≤ W2.heap.size := by rw [hsp]; exact HJ.out.sz
    have hown := hor.2
    have HFP := Lib.hid hfp
    have HBX2 := Lib.hid hbx
    have HOR2 := Lib.hid hor
    have HLP := Lib.hid hlp
    have HDP := Lib.hid hdp
    have HSP := Lib.hid hsp
    clear hfp hbx hor hlp hdp hsp
    have HOL : Hid (∀ b, Own A b → D + 2 ≤ b) := fun b hb => (HOR2.out.bounds hb).1
    have NEWX : Hid (∀ (g' cap' : Nat) (w1 : World), w1.ownsRow (D + 2) 3 1 (.slice (some ⟨g', 0, none⟩) (m + 1) cap') (m + 1) (((pre.map Int.ofNat).map (Value.int .i64)) ++ [.int .i64 (x : Int)]) → (W2.alloc (.cells #[.int .i64 (x : Int)] 3)).grownBy w1 (Value.slice A m c).ownBlock →
        (w1.cell? ⟨w.heap.size, 0, none⟩ = some (.slice A m c) ∧ w1.frozen? ⟨w.heap.size, 0, none⟩ = false ∧ w.heap.size < w1.heap.size) ∧
        Hid (∀ act : Act, roundPost Tryz.prog (D + 1) (fun e W' => e = .returned (.bool true) ∧ CJ w D rec (pre ++ [x]) W' ∧ Fr (fun b => w.heap.size ≤ b) W W') Exit.normal act (w1.setCell ⟨w.heap.size, 0, none⟩ (.slice (some ⟨g', 0, none⟩) (m + 1) cap')))) := by
      intro g' cap' w1 ho hg
      have hDW := HDW.out
      have hfa : Fr No W2 (W2.alloc (.cells #[.int .i64 (x : Int)] 3)) := (Fr.refl _ _).alloc _
      have hfg : Fr (fun b => D + 2 ≤ b) W2 w1 := (hfa.mono (fun _ _ h => h.elim)).grown hg (fun k hk => .inl (by
        refine HOL.out k ?_
        unfold Value.ownBlock at hk
        cases A with
        | none => cases hk
        | some a => exact ⟨a, rfl, by injection hk⟩))
      have hb1 : Blk w1 w.heap.size 25 #[.slice A m c] := HBX2.out.fr hfg (by omega)
      refine ⟨⟨(hb1.cell 0).trans rfl, hb1.frozen 0, hb1.lt⟩, fun act => ?_⟩
      have hl3 : (w1.setCell ⟨w.heap.size, 0, none⟩ (.slice (some ⟨g', 0, none⟩) (m + 1) cap')).heap[D + 1]? = some (.loop (rec .busy none)) := (Below.heap_setCell _ ⟨w.heap.size, 0, none⟩ _ _ (by show D + 1 ≠ w.heap.size; omega)).trans ((hfg.block _ (by omega) (by omega)).trans HLP.out)
      have hd3 : (w1.setCell ⟨w.heap.size, 0, none⟩ (.slice (some ⟨g', 0, none⟩) (m + 1) cap')).heap[D]? = some (.deferred (some [])) := (Below.heap_setCell _ ⟨w.heap.size, 0, none⟩ _ _ (by show D ≠ w.heap.size; omega)).trans ((hfg.block _ (by omega) (by omega)).trans HDP.out)
      have hs3 : (w1.setCell ⟨w.heap.size, 0, none⟩ (.slice (some ⟨g', 0, none⟩) (m + 1) cap')).heap.size = w1.heap.size := by simp [World.setCell]
      refine ⟨_, _, rf_end HREC.out none hl3, ⟨rfl, ?_⟩⟩
      have hfS1 : Fr (fun b => w.heap.size ≤ b) W w1 := (HFP.out.mono (fun b _ h => by have h : b = D + 1 := h; omega)).trans (hfg.mono (fun b _ h => by have h : D + 2 ≤ b := h; omega))
      have hfS2 : Fr (fun b => w.heap.size ≤ b) W (w1.setCell ⟨w.heap.size, 0, none⟩ (.slice (some ⟨g', 0, none⟩) (m + 1) cap')) := hfS1.setCell (p := ⟨w.heap.size, 0, none⟩) (.inl (Nat.le_refl _)) _
      have hfS : Fr (fun b => w.heap.size ≤ b) W ((w1.setCell ⟨w.heap.size, 0, none⟩ (.slice (some ⟨g', 0, none⟩) (m + 1) cap')).putObj (D + 1) (.loop (rec .ready none))) :=
        hfS2.trans ((Fr.putObj _ _).mono (fun b _ h => by have h : b = D + 1 := h; omega))
      refine ⟨⟨HJ.out.fr.then_ hfS (fun b hb h => by omega), ⟨some ⟨g', 0, none⟩, m + 1, cap', ?_, ?_⟩, World.putObj_heap_same (by rw [hs3]; have := hfg.size; omega), (World.putObj_heap_other (by omega)).trans hd3, ?_⟩, hfS⟩
      · exact (hb1.set_ 0 (.slice (some ⟨g', 0, none⟩) (m + 1) cap')).fr (Fr.putObj _ _) (fun h => by have h : w.heap.size = D + 1 := h; omega)
      · have hor1 : OR w1 (D + 2) (some ⟨g', 0, none⟩) (m + 1) cap' ((pre ++ [x]).map Int.ofNat) := ⟨by rw [HML.out]; simp, by simpa using ho⟩
        have hgb : D + 2 ≤ g' := (hor1.bounds ⟨_, rfl, rfl⟩).1
        exact (hor1.fr ((Fr.refl (fun b => b = w.heap.size) w1).setCell (p := ⟨w.heap.size, 0, none⟩) (.inl rfl) _) (fun b hb h => by
          obtain ⟨a, ha, rfl⟩ := hb
          injection ha with ha
          subst ha
          have h : g' = w.heap.size := h
          omega)).fr (Fr.putObj _ _) (fun b hb h => by
          obtain ⟨a, ha, rfl⟩ := hb
          injection ha with ha
          subst ha
          have h : g' = D + 1 := h
          omega)
      · have h1 := hfg.size
        simp [World.setCell]
        omega
    clear HFP HBX2 HOR2 HLP HDP HSP HJ HREC HBX HOR
    gi_wp2_with (gi_at_builtin; refine wpListIn_append_own _ rfl _ _ 25 rfl (D + 2) 3 i0 (.int .i64 0) 1 8 Tryz.underlying25 hi0 hz0 hz1 hz2 rfl (by decide) _ _ _ rfl (hown.alloc _) ⟨W2.heap.size, 0, none⟩ 1 1 [.int .i64 (x : Int)] rfl rfl (cell_one_new _ _ _) (by simp [Value.oneCell']) (by unfold maxLen; omega) (by omega) (by simp; omega) ?_; intro v' w1 hown' hgrow _; obtain ⟨g', cap', rfl⟩ := ownsRow_succ hown'; obtain ⟨⟨n1, n2, n3⟩, n4⟩ := NEWX.out g' cap' w1 hown' hgrow; clear hown' hgrow)
    exact n4.out _
  rintro e W2 ⟨hv, hj⟩
  refine ⟨hv, .ready, none, (fun h => by cases h), hj.lp, ?_⟩
  have hfp : Fr (fun b => b = D + 1) W2 (W2.putObj (D + 1) (.loop (rec .exhausted none))) := Fr.putObj _ _
  obtain ⟨A, m, c, hbx0, hor0⟩ := hj.box
  have hbx := hbx0.fr hfp (fun h => by have := HDW.out; omega)
  have hor := hor0.fr hfp (fun b hb h => by have := (hor0.bounds hb).1; omega)
  have hdp : (W2.putObj (D + 1) (.loop (rec .exhausted none))).heap[D]? = some (.deferred (some [])) := (World.putObj_heap_other (by omega)).trans hj.df
  have hfa : Fr No w (W2.putObj (D + 1) (.loop (rec .exhausted none))) := hj.fr.then_ hfp (fun b hb h => by have := HDW.out; omega)
  show Exit.inBlock 0 _ .normal _ (W2.putObj (D + 1) (.loop (rec .exhausted none)))
  generalize (W2.putObj (D + 1) (.loop (rec .exhausted none))) = W3 at hbx hor hdp hfa ⊢
  have c0 : W3.cell? ⟨w.heap.size, 0, none⟩ = some (.slice A m c) := (hbx.cell 0).trans rfl
  have l0 := hbx.lt
  have HDP := Lib.hid hdp
  have HFA := Lib.hid hfa
  have HOR := Lib.hid hor
  clear hv hj hfp hbx hdp hfa hor hbx0 hor0 hf1 hl1 hd1 hfw J0 bX hf0 hs0 hD hD1
  gi_wp2_with fail
  refine ⟨by simp, .inl ⟨_, _, rfl, run_takeDeferred HDP.out, ?_⟩⟩
  refine ⟨_, results_tmp rfl _ _ _, A, m, c, rfl, HFA.out.then_ (Fr.putObj D _) (fun b hb h => by have := HDW.out; omega), ?_⟩
  rw [← HLIST.out]
  exact (HOR.out.fr (Fr.putObj D _) (fun b hb h => by have := (HOR.out.bounds hb).1; omega)).low (by have := HDW.out; omega)

theorem collect_any (w : World) (g N : Nat) (P : Nat → Bool) (ws : List Nat) (hb : Blk w g 63 (WV ws)) (hbits : BitsIs ws N P) (hN : N ≤ 100000) (hT : TZt w) :
    Calls Tryz.prog 29 #[.func (.func 30) #[.slice (some ⟨g, 0, none⟩) (nw N) (nw N)] #[]] w fun e w' => ColP N P w e w' := by
  have AP := Lib.hid (append_any w g N P ws hb hbits hN hT)
  go_enter Tryz.func29, Tryz.ntmps29
  go_wp2_with fail
  refine AP.out.mono ?_
  rintro e w1 ⟨A, n, c, rfl, hf, hor⟩
  have HF := Lib.hid hf
  have HO := Lib.hid hor
  clear hf hor
  go_wp2_with fail
  go_ret
  exact ⟨A, n, c, rfl, HF.out, HO.out⟩
end Go.Proofs.YtloecimlimoanaaGreatDoor
