/- RelBack of the program. -/
import Derived.Test.YtloecimlimoanaaDoorGbk
import Derived.Test.YtloecimlimoanaaDoorWri
import Derived.Test.YtloecimlimoanaaDoorRdr
namespace Go.Proofs.YtloecimlimoanaaDoor
open Go.RowKit Go.ChangeMaps Go.Shelf

attribute [local go_sem] Oper.semAt_some

/-- what is there ahead of row i -/
structure YIb (w1 : World) (bk kb l r : Nat) (Rm : Nat → Nat → Bool) (i : Nat) (Ds : List Nat) (W : World) : Prop where
  fr : Fr No w1 W
  bx : Blk W kb 93 #[Ptr bk]
  rel : RelAt W bk r l w1.heap.size (fun j i' => decide (i' < i) && Rm i' j)
  nd : Ds.Nodup
  ds : ∀ D, D ∈ Ds → w1.heap.size ≤ D ∧ W.heap[D]? = some (.deferred (some []))

/-- what came in so far in row i -/
structure YJb (w1 : World) (bk kb l r : Nat) (Rm : Nat → Nat → Bool) (b4 i : Nat) (Ds : List Nat) (D : Nat) (rec : LoopState → Option Code → Loop) (pre : List Nat) (W : World) : Prop where
  fr : Fr No w1 W
  bx : Blk W kb 93 #[Ptr bk]
  rel : RelAt W bk r l w1.heap.size (fun j i' => (decide (i' < i) && Rm i' j) || (decide (i' = i) && decide (j ∈ pre)))
  b4 : Blk W b4 3 #[.int .i64 i]
  lp : W.heap[D + 1]? = some (.loop (rec .ready none))
  df : W.heap[D]? = some (.deferred (some []))
  ds : ∀ D', D' ∈ Ds → W.heap[D']? = some (.deferred (some []))
  sz : D + 2 ≤ W.heap.size

set_option maxRecDepth 100000 in
set_option maxHeartbeats 8000000 in
theorem implRelBack (w : World) (L R : Int) (A0 : Option Addr) (c0 : Nat) (ps : List Int) (hp : ISl w A0 ps) (hn : ps.length ≤ 2000000) (hT : TZt w) :
    Calls Tryd.prog 15 #[RV L R A0 ps.length c0] w fun e w' => AnsR (backO L R ps) w e w' := by
  have READ : Hid (∀ W, Fr No w W → Calls Tryd.prog 62 #[RV L R A0 ps.length c0] W fun e w' => ReadR L R ps W e w') := fun W hf => readRelation_any W L R A0 c0 ps (hp.keep hf (fun _ h => h.elim)) hn
  have HT := Lib.hid hT
  obtain ⟨W0, hW0, hf0, hr0, hb0⟩ : ∃ W, W = (w.alloc (.cells #[.int .i64 L, .int .i64 R, .slice A0 ps.length c0] 30)).alloc (.cells #[.int .i64 0, .int .i64 0, .slice none 0 0] 30) ∧ Fr No w W ∧ Blk W w.heap.size 30 #[.int .i64 L, .int .i64 R, .slice A0 ps.length c0] ∧ Blk W (w.heap.size + 1) 30 #[.int .i64 0, .int .i64 0, .slice none 0 0] :=
    ⟨_, rfl, ((Fr.refl No w).alloc _).alloc _, (Blk.new _ _ _).alloc _, Blk.new_at _ _ _ (by simp)⟩
  have HF0 := Lib.hid hf0
  have HR0 := Lib.hid hr0
  have HB0 := Lib.hid hb0
  clear hT hp hf0 hr0 hb0
  refine (callsIn_wide (n := 7)).1 ?_
  refine callsIn_of_wp_marks Tryd.func15 rfl trivial ?_ rfl
  simp only [Tryd.ntmps15, List.size_toArray, List.length_cons, List.length_nil, Nat.reduceAdd, Nat.reduceSub, Array.replicate_succ, Array.replicate_zero, List.push_toArray, List.append_toArray, List.nil_append, List.cons_append]
  gi_wp2_with fail
  rw [← hW0]
  clear hW0
  refine ⟨trivial, (callsIn_wide.2 (READ.out _ HF0.out)).mono ?_⟩
  rintro e w1 ⟨hf1, hcase⟩
  have HF1 := Lib.hid (HF0.out.trans hf1)
  have HR1 := Lib.hid (HR0.out.fr hf1 (fun h => h))
  have HB1 := Lib.hid (HB0.out.fr hf1 (fun h => h))
  have hlo1 : W0.heap.size ≤ w1.heap.size := hf1.size
  have hlo0 : w.heap.size + 2 ≤ W0.heap.size := HB0.out.lt
  have d0 : w1.cell? ⟨w.heap.size, 0, none⟩ = some (.int .i64 L) := (HR1.out.cell 0).trans rfl
  have d1 : w1.cell? ⟨w.heap.size, 1, none⟩ = some (.int .i64 R) := (HR1.out.cell 1).trans rfl
  have d2 : w1.cell? ⟨w.heap.size, 2, none⟩ = some (.slice A0 ps.length c0) := (HR1.out.cell 2).trans rfl
  have a0 : w1.cell? ⟨w.heap.size + 1, 0, none⟩ = some (.int .i64 0) := (HB1.out.cell 0).trans rfl
  have a1 : w1.cell? ⟨w.heap.size + 1, 1, none⟩ = some (.int .i64 0) := (HB1.out.cell 1).trans rfl
  have a2 : w1.cell? ⟨w.heap.size + 1, 2, none⟩ = some (.slice none 0 0) := (HB1.out.cell 2).trans rfl
  have f0 := HB1.out.frozen 0
  have f1 := HB1.out.frozen 1
  have f2 := HB1.out.frozen 2
  rcases hcase with ⟨l, r, b, rfl, rfl, hok, rfl, hrel⟩ | ⟨hno, rfl⟩
  · have HOK := Lib.hid hok
    have HREL := Lib.hid hrel
    obtain ⟨⟨l0, l1⟩, ⟨r0, r1⟩, _, _⟩ := hok
    have hl2 : l ≤ 128 := by omega
    have hr2 : r ≤ 128 := by omega
    have NEW : Hid (∀ W, Calls Tryd.prog 63 #[.int .i64 r, .int .i64 l] W fun e w' => NewRel r l W e w') := fun W => newBitRelation_any W r l (by omega) (by omega) (by omega)
    obtain ⟨hB, Rb, gs, hbb, hrows⟩ := hrel
    have HBB := Lib.hid hbb
    have HROWS := Lib.hid hrows
    have HT1 := Lib.hid (HT.out.fr HF1.out (fun h => h))
    clear hf1 hB hbb hrows READ HF0 HR0 HB0
    gi_wp2_with fail
    refine ⟨trivial, (callsIn_wide.2 (NEW.out _)).mono ?_⟩
    rintro e w2 ⟨bk, rfl, hf2, hrelk⟩
    obtain ⟨hBk, Rk, gk, hbk, hrk⟩ := hrelk
    have HF2 := Lib.hid hf2
    have HBK := Lib.hid hbk
    have HRK := Lib.hid hrk
    have hfV : Fr No w1 (w2.alloc (.cells #[.pointer (some ⟨bk, 0, none⟩)] 93)) := hf2.alloc _
    have HBX : Hid (Blk (w2.alloc (.cells #[.pointer (some ⟨bk, 0, none⟩)] 93)) w2.heap.size 93 #[Ptr bk]) := Blk.new _ _ _
    have HBKV : Hid (Blk (w2.alloc (.cells #[.pointer (some ⟨bk, 0, none⟩)] 93)) bk 97 #[.int .i64 l, .slice (some ⟨Rk, 0, none⟩) r r]) := HBK.out.alloc _
    have HRKV : Hid (RowsTo (w2.alloc (.cells #[.pointer (some ⟨bk, 0, none⟩)] 93)) Rk r l r w1.heap.size gk (fun _ _ => false)) := HRK.out.fr ((Fr.refl No w2).alloc _) (fun _ h => h.elim)
    have HSV : Hid (w1.heap.size ≤ w2.heap.size) := hf2.size
    have cb : (w2.alloc (.cells #[.pointer (some ⟨bk, 0, none⟩)] 93)).cell? ⟨b, 1, none⟩ = some (.slice (some ⟨Rb, 0, none⟩) l l) := ((HBB.out.fr hfV (fun h => h)).cell 1).trans rfl
    have HFV := Lib.hid hfV
    clear hf2 hbk hrk NEW HF2 HBK HRK hfV
    gi_wp2_with fail
    generalize (w2.alloc (.cells #[.pointer (some ⟨bk, 0, none⟩)] 93)) = V0 at cb HFV HBX HBKV HRKV ⊢
    have Y0 : Hid (YIb w1 bk w2.heap.size l r (memR r ps) 0 [] V0) := ⟨HFV.out, HBX.out, ⟨hBk, Rk, gk, HBKV.out, HRKV.out.congr (fun i hi j hj => by simp)⟩, by simp, fun D h => by cases h⟩
    have HBK := Lib.hid hBk
    clear cb HBX HBKV HRKV HFV hBk d0 d1 d2 a0 a1 a2 f0 f1 f2
    refine wpIn_loop_ghost_k (fun gk a' w' => ∃ (i : Nat) (Ds : List Nat) (u6 u7 u8 u9 u10 u11 u12 u13 u14 u15 u16 u17 u18 u19 u20 u21 u25 u26 u27 u28 u29 u30 u31 u32 u33 u34 u35 u36 u37 u38 u39 u40 u41 u42 u43 : Value), i + gk = l ∧ YIb w1 bk w2.heap.size l r (memR r ps) i Ds w' ∧ a' = { tmps := #[RV l r A0 ps.length c0, Ptr w.heap.size, Ptr (w.heap.size + 1), .bool false, Ptr b, Ptr w2.heap.size, u6, u7, u8, u9, u10, u11, u12, u13, u14, u15, u16, u17, u18, u19, u20, u21, .slice (some ⟨Rb, 0, none⟩) l l, .int .i64 l, .int .i64 i, u25, u26, u27, u28, u29, u30, u31, u32, u33, u34, u35, u36, u37, u38, u39, u40, u41, u42, u43], defers := marksD Ds }) l ?start ?round
    case start => exact ⟨0, [], _, _, _, _, _, _, _, _, _, _, _, _, _, _, _, _, _, _, _, _, _, _, _, _, _, _, _, _, _, _, _, _, _, _, _, by omega, Y0.out, rfl⟩
    case round =>
      intro gk a W hinv J K hJ hK
      obtain ⟨i, Ds, u6, u7, u8, u9, u10, u11, u12, u13, u14, u15, u16, u17, u18, u19, u20, u21, u25, u26, u27, u28, u29, u30, u31, u32, u33, u34, u35, u36, u37, u38, u39, u40, u41, u42, u43, hgk, hyi, rfl⟩ := hinv
      have HY := Lib.hid hyi
      clear hyi Y0
      by_cases hlt : i < l
      · have hrows := HROWS.out.fr HY.out.fr (fun b hb => hb.elim)
        obtain ⟨_, ws, hws, hbits⟩ := hrows.each i hlt
        have e2 : W.cell? ⟨Rb, i, none⟩ = some (.slice (some ⟨gs i, 0, none⟩) (nw r) (nw r)) := by rw [hrows.rows.cell, RA_at hlt, if_pos hlt]
        have HWS : Hid (Blk W (gs i) 127 (WV ws)) := hws
        have HBITS := Lib.hid hbits
        have hiI : (i : Int) < (l : Int) := by omega
        have hgl : gs i < w1.heap.size := by
          obtain ⟨_, ws0, h0, _⟩ := HROWS.out.each i hlt
          exact h0.lt
        clear hrows hws hbits
        gi_wp2_with fail
        have hfA : Fr No W (W.alloc (.cells #[.int .i64 (i : Int)] 3)) := (Fr.refl No W).alloc _
        have hb4 : Blk (W.alloc (.cells #[.int .i64 (i : Int)] 3)) W.heap.size 3 #[.int .i64 (i : Int)] := Blk.new _ _ _
        have hsA : (W.alloc (.cells #[.int .i64 (i : Int)] 3)).heap.size = W.heap.size + 1 := by simp
        generalize (W.alloc (.cells #[.int .i64 (i : Int)] 3)) = Wa at hfA hb4 hsA ⊢
        refine rf_stmt1 rfl (by decide) (gf := 64) (fa := #[.slice (some ⟨gs i, 0, none⟩) (nw r) (nw r)]) rfl trivial (enters_of Tryd.func64 (by kernel_rfl) rfl) ?_
        intro fn D rec hf hD hrec W1 hW1
        have HREC := Lib.hid hrec
        have hD1 : W1.heap.size = D + 2 := by rw [hW1, hD]; simp
        have hf1 : Fr No Wa W1 := by rw [hW1]; exact ((Fr.refl _ _).alloc _).alloc _
        have hl1 : W1.heap[D + 1]? = some (.loop (rec .ready none)) := by
          rw [hW1]
          have := World.alloc_heap_new (Wa.alloc (.deferred (some []))) (.loop (rec .ready none))
          rwa [World.size_alloc, ← hD] at this
        have hd1 : W1.heap[D]? = some (.deferred (some [])) := by
          rw [hW1, hD]
          exact (Below.heap_alloc _ _ _ (by simp)).trans (World.alloc_heap_new Wa _)
        clear hrec
        have HDW : Hid (D = W.heap.size + 1 ∧ w1.heap.size ≤ W.heap.size) := ⟨by omega, HY.out.fr.size⟩
        have hfW1 := hfA.trans hf1
        have hfw := HY.out.fr.trans hfW1
        have J0 : YJb w1 bk w2.heap.size l r (memR r ps) W.heap.size i Ds D rec [] W1 := by
          refine ⟨hfw, HY.out.bx.fr hfW1 (fun h => h), (HY.out.rel.fr hfW1 (fun _ h => h.elim)).congr (fun j hj i' hi' => by simp), hb4.fr hf1 (fun h => h), hl1, hd1, fun D' hD' => ?_, by omega⟩
          have h := (HY.out.ds D' hD').2
          exact (hfW1.block D' (Array.getElem?_eq_some_iff.1 h).1 (fun h => h)).trans h
        have hT1 := HT1.out.fr hfw (fun h => h)
        have hTl := HT1.out.1
        refine (numbers_in Fence.wide 6 (fun _ => trivial) rfl (fun _ _ _ _ _ h => callsIn_wide.2 h) (by decide) (D + 1) (gs i) (fun k => w1.heap.size ≤ k) ws r (YJb w1 bk w2.heap.size l r (memR r ps) W.heap.size i Ds D rec) ?round W1 HBITS.out.len (by omega) HBITS.out.lt J0 (HWS.out.fr hfW1 (fun h => h)) hT1 (by omega) (by omega)).mono ?_
        case round =>
          intro pre x V hex hj
          have hxr : x < r := by
            obtain ⟨post, e⟩ := hex
            rw [HBITS.out.list] at e
            exact (elems_mem.1 (by rw [← e]; simp)).1
          have HJ := Lib.hid hj
          clear hj hex hf1 hl1 hd1 hfw J0 hfA hb4 hsA hD hD1 hfW1 hT1 hW1 e2 hK hJ
          refine rf_round HREC.out hf HJ.out.lp rfl ?_
          gi_wp2_with fail
          refine ⟨_, rf_begin HREC.out HJ.out.lp, ?_⟩
          have hfp : Fr (fun k => k = D + 1) V (V.putObj (D + 1) (.loop (rec .busy none))) := Fr.putObj _ _
          have n1 : w2.heap.size ≠ D + 1 := HJ.out.bx.ne_of HJ.out.lp (fun _ h => by cases h)
          have n4 : W.heap.size ≠ D + 1 := HJ.out.b4.ne_of HJ.out.lp (fun _ h => by cases h)
          have hbx := HJ.out.bx.fr hfp n1
          have hb4 := HJ.out.b4.fr hfp n4
          have hrl := HJ.out.rel.frO hfp (fun g t cs hb _ h => hb.ne_of HJ.out.lp (fun _ h => by cases h) h)
          have hlp : (V.putObj (D + 1) (.loop (rec .busy none))).heap[D + 1]? = some (.loop (rec .busy none)) := World.putObj_heap_same (by have := HJ.out.sz; omega)
          have hdp : (V.putObj (D + 1) (.loop (rec .busy none))).heap[D]? = some (.deferred (some [])) := (World.putObj_heap_other (by omega)).trans HJ.out.df
          have hdsn : ∀ D', D' ∈ Ds → D' ≠ D + 1 := fun D' hD' e => by have h := HJ.out.ds D' hD'; rw [e, HJ.out.lp] at h; cases h
          have hds : ∀ D', D' ∈ Ds → (V.putObj (D + 1) (.loop (rec .busy none))).heap[D']? = some (.deferred (some [])) := fun D' hD' => (World.putObj_heap_other (hdsn D' hD')).trans (HJ.out.ds D' hD')
          have hsp : (V.putObj (D + 1) (.loop (rec .busy none))).heap.size = V.heap.size := by simp
          generalize (V.putObj (D + 1) (.loop (rec .busy none))) = V2 at hfp hbx hb4 hrl hlp hdp hds hsp ⊢
          obtain ⟨hBk, Rk, gk2, hbk, hrk⟩ := hrl
          obtain ⟨hlok, wk, hwk, hbitk⟩ := hrk.each x hxr
          have c4 : V2.cell? ⟨W.heap.size, 0, none⟩ = some (.int .i64 i) := (hb4.cell 0).trans rfl
          have cx : V2.cell? ⟨w2.heap.size, 0, none⟩ = some (Ptr bk) := (hbx.cell 0).trans rfl
          have ck : V2.cell? ⟨bk, 1, none⟩ = some (.slice (some ⟨Rk, 0, none⟩) r r) := (hbk.cell 1).trans rfl
          have cr : V2.cell? ⟨Rk, x, none⟩ = some (.slice (some ⟨gk2 x, 0, none⟩) (nw l) (nw l)) := by rw [hrk.rows.cell, RA_at hxr, if_pos hxr]
          have ADD : Hid (∀ m, Calls Tryd.prog 65 #[.slice (some ⟨gk2 x, 0, none⟩) (nw l) (nw l), .int .i64 i] (V2.drewN m) fun e w' => e = .returned (.tuple #[]) ∧ AddP (gk2 x) l (fun i' => ((decide (i' < i) && memR r ps i' x) || (decide (i' = i) && decide (x ∈ pre))) || decide (i' = i)) V2 w') := fun m => (bsAdd_any (V2.drewN m) (gk2 x) wk l i _ hwk hbitk hlt (by omega)).mono (fun e w' h => ⟨h.1, ((Fr.refl _ V2).drewN m).trans h.2.1, h.2.2⟩)
          have ADD0 : Hid (Calls Tryd.prog 65 #[.slice (some ⟨gk2 x, 0, none⟩) (nw l) (nw l), .int .i64 i] V2.drew fun e w' => e = .returned (.tuple #[]) ∧ AddP (gk2 x) l (fun i' => ((decide (i' < i) && memR r ps i' x) || (decide (i' = i) && decide (x ∈ pre))) || decide (i' = i)) V2 w') := (bsAdd_any V2.drew (gk2 x) wk l i _ hwk hbitk hlt (by omega)).mono (fun e w' h => ⟨h.1, ((Fr.refl _ V2).drew).trans h.2.1, h.2.2⟩)
          have FIN : Hid (∀ w4, AddP (gk2 x) l (fun i' => ((decide (i' < i) && memR r ps i' x) || (decide (i' = i) && decide (x ∈ pre))) || decide (i' = i)) V2 w4 →
              (w4.cell? ⟨W.heap.size, 0, none⟩ = some (.int .i64 i) ∧ w4.cell? ⟨w2.heap.size, 0, none⟩ = some (Ptr bk) ∧ w4.cell? ⟨bk, 1, none⟩ = some (.slice (some ⟨Rk, 0, none⟩) r r) ∧ w4.cell? ⟨Rk, x, none⟩ = some (.slice (some ⟨gk2 x, 0, none⟩) (nw l) (nw l))) ∧
              ∀ act : Act, roundPost Tryd.prog (D + 1) (fun e W' => e = .returned (.bool true) ∧ YJb w1 bk w2.heap.size l r (memR r ps) W.heap.size i Ds D rec (pre ++ [x]) W' ∧ Fr (fun k => w1.heap.size ≤ k) V W') Exit.normal act w4) := by
            intro w4 ha
            have hDW := HDW.out
            have hfa := ha.1
            have q4 : W.heap.size ≠ gk2 x := fun e => by have e1 := hb4; rw [e] at e1; exact absurd (hwk.eq e1).1 (by decide)
            have qx : w2.heap.size ≠ gk2 x := fun e => by have e1 := hbx; rw [e] at e1; exact absurd (hwk.eq e1).1 (by decide)
            have qk : bk ≠ gk2 x := fun e => by have e1 := hbk; rw [e] at e1; exact absurd (hwk.eq e1).1 (by decide)
            have qr : Rk ≠ gk2 x := fun e => by have e1 := hrk.rows; rw [e] at e1; exact absurd (hwk.eq e1).1 (by decide)
            have ql : D + 1 ≠ gk2 x := fun e => hwk.ne_of hlp (fun _ h => by cases h) e.symm
            have qd : D ≠ gk2 x := fun e => hwk.ne_of hdp (fun _ h => by cases h) e.symm
            have hb44 := hb4.fr hfa q4
            have hbx4 := hbx.fr hfa qx
            have hbk4 := hbk.fr hfa qk
            have hrk4 := hrk.rows.fr hfa qr
            have hlp4 : w4.heap[D + 1]? = some (.loop (rec .busy none)) := (hfa.block (D + 1) (by rw [hsp]; have := HJ.out.sz; omega) ql).trans hlp
            have hdp4 : w4.heap[D]? = some (.deferred (some [])) := (hfa.block D (by rw [hsp]; have := HJ.out.sz; omega) qd).trans hdp
            have hds4 : ∀ D', D' ∈ Ds → w4.heap[D']? = some (.deferred (some [])) := fun D' hD' => (hfa.block D' (Array.getElem?_eq_some_iff.1 (hds D' hD')).1 (fun e => hwk.ne_of (hds D' hD') (fun _ h => by cases h) (show gk2 x = D' from (show D' = gk2 x from e).symm))).trans (hds D' hD')
            have hra := RelAt.add hBk hbk hrk hxr ha
            refine ⟨⟨(hb44.cell 0).trans rfl, (hbx4.cell 0).trans rfl, (hbk4.cell 1).trans rfl, by rw [hrk4.cell, RA_at hxr, if_pos hxr]⟩, fun act => ⟨_, _, rf_end HREC.out none hlp4, rfl, ?_⟩⟩
            have hq : Fr (fun k => k = D + 1) w4 (w4.putObj (D + 1) (.loop (rec .ready none))) := Fr.putObj _ _
            have hz4 := hfa.size
            have hfS : Fr (fun k => w1.heap.size ≤ k) V (w4.putObj (D + 1) (.loop (rec .ready none))) := ((hfp.mono (fun k _ h => by have h : k = D + 1 := h; omega)).trans (hfa.mono (fun k _ h => by have h : k = gk2 x := h; omega))).trans (hq.mono (fun k _ h => by have h : k = D + 1 := h; omega))
            refine ⟨⟨HJ.out.fr.then_ hfS (fun k hk h => by omega), hbx4.fr hq n1, (hra.frO hq (fun g t cs hb _ h => hb.ne_of hlp4 (fun _ h => by cases h) h)).congr (fun j hj i' hi' => ?_), hb44.fr hq n4, World.putObj_heap_same (by rw [hsp] at hz4; have := HJ.out.sz; omega), (World.putObj_heap_other (by omega)).trans hdp4, fun D' hD' => (World.putObj_heap_other (hdsn D' hD')).trans (hds4 D' hD'), ?_⟩, hfS⟩
            · by_cases e1 : j = x
              · subst e1
                by_cases e2 : i' = i
                · simp [e2]
                · simp [e2]
              · simp [e1]
            · rw [hsp] at hz4; have := HJ.out.sz; simp; omega
          have hmix : Tryd.prog.follows .mixedOrders = true := by kernel_rfl
          have hxI : (x : Int) < (r : Int) := by omega
          clear hfp hbx hb4 hlp hdp hds hdsn hsp hbk hrk hwk hbitk hlok n1 n4 HREC HJ ADD
          gi_wp2_with fail
          refine wpIn_region_heldR (S := fun w' => w'.cell? ⟨W.heap.size, 0, none⟩ = some (.int .i64 i) ∧ w'.cell? ⟨w2.heap.size, 0, none⟩ = some (Ptr bk) ∧ w'.cell? ⟨bk, 1, none⟩ = some (.slice (some ⟨Rk, 0, none⟩) r r) ∧ w'.cell? ⟨Rk, x, none⟩ = some (.slice (some ⟨gk2 x, 0, none⟩) (nw l) (nw l))) hmix (by kernel_rfl) ?hLO ⟨c4, cx, ck, cr⟩ (fun hHeld => ?_)
          case hLO =>
            rintro ⟨a0, w0, h⟩
            exact (h : False)
          refine wpAnyH_take (i := 0) (v := ?v0) (by simp only [List.getElem?_toArray, List.getElem?_cons_zero]; rfl) (by kernel_rfl) (by kernel_rfl) (by kernel_rfl) (by exact fun _ _ _ h => h) (Or.inl ⟨by rfl, ?hy0⟩) (by assumption) ?rest0
          case hy0 => (intro w hSw; (try dsimp only at hSw); go_simp; try with_reducible rfl)
          ((try simp only [Act.put]); (try simp only [List.setIfInBounds_toArray]); (try simp only [List.set_cons_succ]); (try simp only [List.set_cons_zero]))
          refine wpAnyH_take (i := 1) (v := ?v1) (by simp only [List.getElem?_toArray, List.getElem?_cons_succ, List.getElem?_cons_zero]; rfl) (by kernel_rfl) (by kernel_rfl) (by kernel_rfl) (by exact fun _ _ _ h => h) (Or.inl ⟨by rfl, ?hy1⟩) (by assumption) ?rest1
          case hy1 => (intro w hSw; (try dsimp only at hSw); go_simp; try with_reducible rfl)
          ((try simp only [Act.put]); (try simp only [List.setIfInBounds_toArray]); (try simp only [List.set_cons_succ]); (try simp only [List.set_cons_zero]))
          refine wpAnyH_take (i := 2) (v := ?v2) (by simp only [List.getElem?_toArray, List.getElem?_cons_succ, List.getElem?_cons_zero]; rfl) (by kernel_rfl) (by kernel_rfl) (by kernel_rfl) (by exact fun _ _ _ h => h) (Or.inl ⟨by rfl, ?hy2⟩) (by assumption) ?rest2
          case hy2 => (intro w hSw; (try dsimp only at hSw); go_simp; try with_reducible rfl)
          ((try simp only [Act.put]); (try simp only [List.setIfInBounds_toArray]); (try simp only [List.set_cons_succ]); (try simp only [List.set_cons_zero]))
          refine wpAnyH_take (i := 3) (v := ?v3) (by simp only [List.getElem?_toArray, List.getElem?_cons_succ, List.getElem?_cons_zero]; rfl) (by kernel_rfl) (by kernel_rfl) (by kernel_rfl) (by exact fun _ _ _ h => h) (Or.inl ⟨by rfl, ?hy3⟩) (by assumption) ?rest3
          case hy3 => (intro w hSw; (try dsimp only at hSw); go_simp; try with_reducible rfl)
          ((try simp only [Act.put]); (try simp only [List.setIfInBounds_toArray]); (try simp only [List.set_cons_succ]); (try simp only [List.set_cons_zero]))
          refine wpAnyH_take (i := 4) (v := ?v4) (by simp only [List.getElem?_toArray, List.getElem?_cons_succ, List.getElem?_cons_zero]; rfl) (by kernel_rfl) (by kernel_rfl) (by kernel_rfl) (by exact fun _ _ _ h => h) (Or.inl ⟨by rfl, ?hy4⟩) (by assumption) ?rest4
          case hy4 => (intro w hSw; (try dsimp only at hSw); go_simp; try with_reducible rfl)
          ((try simp only [Act.put]); (try simp only [List.setIfInBounds_toArray]); (try simp only [List.set_cons_succ]); (try simp only [List.set_cons_zero]))
          refine wpAnyH_take (i := 5) (v := ?v5) (by simp only [List.getElem?_toArray, List.getElem?_cons_succ, List.getElem?_cons_zero]; rfl) (by kernel_rfl) (by kernel_rfl) (by kernel_rfl) (by exact fun _ _ _ h => h) (Or.inl ⟨by rfl, ?hy5⟩) (by assumption) ?rest5
          case hy5 => (intro w hSw; (try dsimp only at hSw); go_simp; try with_reducible rfl)
          ((try simp only [Act.put]); (try simp only [List.setIfInBounds_toArray]); (try simp only [List.set_cons_succ]); (try simp only [List.set_cons_zero]))
          refine wpAnyH_take (i := 6) (v := ?v6) (by simp only [List.getElem?_toArray, List.getElem?_cons_succ, List.getElem?_cons_zero]; rfl) (by kernel_rfl) (by kernel_rfl) (by kernel_rfl) (by exact fun _ _ _ h => h) (Or.inl ⟨by rfl, ?hy6⟩) (by assumption) ?rest6
          case hy6 => (intro w hSw; (try dsimp only at hSw); go_simp; try with_reducible rfl)
          ((try simp only [Act.put]); (try simp only [List.setIfInBounds_toArray]); (try simp only [List.set_cons_succ]); (try simp only [List.set_cons_zero]))
          refine wpAnyH_take (i := 7) (v := ?v7) (by simp only [List.getElem?_toArray, List.getElem?_cons_succ, List.getElem?_cons_zero]; rfl) (by kernel_rfl) (by kernel_rfl) (by kernel_rfl) (by exact fun _ _ _ h => h) (Or.inl ⟨by rfl, ?hy7⟩) (by assumption) ?rest7
          case hy7 => (intro w hSw; (try dsimp only at hSw); go_simp; try with_reducible rfl)
          ((try simp only [Act.put]); (try simp only [List.setIfInBounds_toArray]); (try simp only [List.set_cons_succ]); (try simp only [List.set_cons_zero]))
          refine wpAnyH_ready (rs := [8]) (by kernel_rfl) (by simp) ?_
          refine AllReadyH.cons rfl (fun K hK => ?_) AllReadyH.nil
          go_simp
          (with_reducible refine ADD0.out.mono ?_)
          rintro e w4 ⟨rfl, ha⟩
          obtain ⟨k1, k2⟩ := FIN.out w4 ha
          refine hK.out _ _ k1 (fun hH8 => ?_)
          clear hK K
          ((try simp only [Act.put]); (try simp only [List.setIfInBounds_toArray]); (try simp only [List.set_cons_succ]); (try simp only [List.set_cons_zero]))
          refine wpAnyH_done (by kernel_rfl) ?_ _
          exact k2 { tmps := #[], defers := [] }
        rintro e V ⟨hv, hj⟩
        refine ⟨hv, .ready, none, (fun h => by cases h), hj.lp, ?_⟩
        have hfp : Fr (fun k => k = D + 1) V (V.putObj (D + 1) (.loop (rec .exhausted none))) := Fr.putObj _ _
        have n1 : w2.heap.size ≠ D + 1 := hj.bx.ne_of hj.lp (fun _ h => by cases h)
        have NEXT : Hid (YIb w1 bk w2.heap.size l r (memR r ps) (i + 1) (D :: Ds) (V.putObj (D + 1) (.loop (rec .exhausted none)))) := by
          have hDW := HDW.out
          refine ⟨hj.fr.then_ hfp (fun k hk h => by have h : k = D + 1 := h; omega), hj.bx.fr hfp n1, (hj.rel.frO hfp (fun g t cs hb _ h => hb.ne_of hj.lp (fun _ h => by cases h) h)).congr (fun j hj' i' hi' => ?_), ?_, fun D' hD' => ?_⟩
          · rw [HBITS.out.list]
            by_cases e2 : i' = i
            · subst e2
              have hm : decide (j ∈ elems r (memR r ps i')) = memR r ps i' j := by
                cases hc : memR r ps i' j with
                | true => exact decide_eq_true (elems_mem.2 ⟨hj', hc⟩)
                | false => exact decide_eq_false (fun h => by have h2 := (elems_mem.1 h).2; rw [hc] at h2; cases h2)
              simp [hm]
            · have e3 : decide (i' < i + 1) = decide (i' < i) := decide_eq_decide.2 (by omega)
              simp [e2, e3]
          · rw [List.nodup_cons]
            refine ⟨fun hD' => ?_, HY.out.nd⟩
            have h := (Array.getElem?_eq_some_iff.1 (HY.out.ds D hD').2).1
            omega
          · rcases List.mem_cons.1 hD' with e | hD'
            · subst e
              exact ⟨by omega, (World.putObj_heap_other (by omega)).trans hj.df⟩
            · refine ⟨(HY.out.ds D' hD').1, (World.putObj_heap_other ?_).trans (hj.ds D' hD')⟩
              have h := (Array.getElem?_eq_some_iff.1 (HY.out.ds D' hD').2).1
              omega
        show Exit.inBlock 2 _ .normal _ (V.putObj (D + 1) (.loop (rec .exhausted none)))
        generalize (V.putObj (D + 1) (.loop (rec .exhausted none))) = V3 at hfp NEXT ⊢
        clear hv hj hfp n1 hf1 hl1 hd1 hfW1 hfw J0 hfA hb4 hsA hD hD1 hT1 hW1 e2
        gi_wp2_with fail
        exact ⟨gk - 1, by omega, hJ _ _ _ ⟨i + 1, D :: Ds, _, _, _, _, _, _, _, _, _, _, _, _, _, _, _, _, _, _, _, _, _, _, _, _, _, _, _, _, _, _, _, _, _, _, _, by omega, NEXT.out, rfl⟩⟩
      · have hil : i = l := by omega
        have hnlt : ¬ (i : Int) < (l : Int) := by omega
        have cx : W.cell? ⟨w2.heap.size, 0, none⟩ = some (Ptr bk) := (HY.out.bx.cell 0).trans rfl
        have WR : Hid (Calls Tryd.prog 66 #[Ptr bk] W fun e w' => WriP r l (fun j i' => memR r ps i' j) W e w') := written_any W bk r l w1.heap.size _ hr2 (by omega) hl2 (HY.out.rel.congr (fun j hj i' hi' => by
          have : i' < i := by omega
          simp [this])) (HT1.out.fr HY.out.fr (fun h => h))
        clear hil hJ
        gi_wp2_with fail
        refine ⟨trivial, (callsIn_wide.2 WR.out).mono ?_⟩
        rintro e w4 ⟨A, m, c, rfl, hf4, hor⟩
        have hfw := HY.out.fr.trans hf4
        have hrt := HB1.out.fr hfw (fun h => h)
        have a0 : w4.cell? ⟨w.heap.size + 1, 0, none⟩ = some (.int .i64 0) := (hrt.cell 0).trans rfl
        have a1 : w4.cell? ⟨w.heap.size + 1, 1, none⟩ = some (.int .i64 0) := (hrt.cell 1).trans rfl
        have a2 : w4.cell? ⟨w.heap.size + 1, 2, none⟩ = some (.slice none 0 0) := (hrt.cell 2).trans rfl
        have f0 := hrt.frozen 0
        have f1 := hrt.frozen 1
        have f2 := hrt.frozen 2
        have HOR := Lib.hid hor
        have HRT := Lib.hid hrt
        have HFW := Lib.hid (HF1.out.trans hfw)
        have HDS : Hid (∀ D, D ∈ Ds → w.heap.size ≤ D ∧ w4.heap[D]? = some (.deferred (some []))) := fun D hD => by
          have h := HY.out.ds D hD
          have h1 := HF1.out.size
          exact ⟨by omega, (hf4.block D (Array.getElem?_eq_some_iff.1 h.2).1 (fun h => h)).trans h.2⟩
        have HLW : Hid (w.heap.size ≤ W.heap.size) := by have h1 := HF1.out.size; have h2 := HY.out.fr.size; show _ ≤ _; omega
        clear hfw hrt hor hf4 WR cx
        gi_wp2_with fail
        obtain ⟨hfin, horF⟩ := ans_store (w := w) (k := w.heap.size + 1) (Nat.le_succ _) HFW.out HRT.out HOR.out HLW.out (.int .i64 r) (.int .i64 l) (.slice A m c)
        have hrsF : Blk (((w4.setCell ⟨w.heap.size + 1, 0, none⟩ (.int .i64 r)).setCell ⟨w.heap.size + 1, 1, none⟩ (.int .i64 l)).setCell ⟨w.heap.size + 1, 2, none⟩ (.slice A m c)) (w.heap.size + 1) 30 #[.int .i64 r, .int .i64 l, .slice A m c] := ((HRT.out.set_ 0 (.int .i64 r)).set_ 1 (.int .i64 l)).set_ 2 (.slice A m c)
        have hdsF : ∀ D, D ∈ Ds → (((w4.setCell ⟨w.heap.size + 1, 0, none⟩ (.int .i64 r)).setCell ⟨w.heap.size + 1, 1, none⟩ (.int .i64 l)).setCell ⟨w.heap.size + 1, 2, none⟩ (.slice A m c)).heap[D]? = some (.deferred (some [])) := fun D hD => by
          have h := (HDS.out D hD).2
          have hne : D ≠ w.heap.size + 1 := fun e => by have e1 := HRT.out; rw [← e] at e1; unfold Blk at e1; rw [h] at e1; cases e1
          exact (Below.heap_setCell _ ⟨w.heap.size + 1, 2, none⟩ _ D hne).trans ((Below.heap_setCell _ ⟨w.heap.size + 1, 1, none⟩ _ D hne).trans ((Below.heap_setCell _ ⟨w.heap.size + 1, 0, none⟩ _ D hne).trans h))
        generalize (((w4.setCell ⟨w.heap.size + 1, 0, none⟩ (.int .i64 r)).setCell ⟨w.heap.size + 1, 1, none⟩ (.int .i64 l)).setCell ⟨w.heap.size + 1, 2, none⟩ (.slice A m c)) = WF at hfin horF hrsF hdsF ⊢
        refine leaves_marks Ds WF HY.out.nd hdsF fun w' hf => ?_
        have hrs' := hrsF.fr hf (fun hD => by have h := hdsF _ hD; unfold Blk at hrsF; rw [h] at hrsF; cases hrsF)
        have g0 : w'.cell? ⟨w.heap.size + 1, 0, none⟩ = some (.int .i64 r) := (hrs'.cell 0).trans rfl
        have g1 : w'.cell? ⟨w.heap.size + 1, 1, none⟩ = some (.int .i64 l) := (hrs'.cell 1).trans rfl
        have g2 : w'.cell? ⟨w.heap.size + 1, 2, none⟩ = some (.slice A m c) := (hrs'.cell 2).trans rfl
        refine ⟨.tuple #[RV r l A m c, .bool true], by simp [results, Tryd.results15, go_sem, g0, g1, g2], ?_⟩
        rw [backO_yes HOK.out]
        exact ⟨A, m, c, rfl, hfin.then_ hf (fun k hk hD => by have := (HDS.out k hD).1; omega), horF.fr hf (fun k hk hD => horF.notAt (hdsF k hD) (fun _ h => by cases h) hk)⟩
  · have HE : Hid (AnsR (backO L R ps) w (.returned (.tuple #[RV 0 0 none 0 0, .bool false])) (((w1.setCell ⟨w.heap.size + 1, 0, none⟩ (.int .i64 0)).setCell ⟨w.heap.size + 1, 1, none⟩ (.int .i64 0)).setCell ⟨w.heap.size + 1, 2, none⟩ (.slice none 0 0))) := by
      show AnsR _ _ _ _
      rw [backO_no hno]
      exact AnsR.none_ (((HF1.out.setCell (p := ⟨w.heap.size + 1, 0, none⟩) (.inr (Nat.le_succ _)) _).setCell (p := ⟨w.heap.size + 1, 1, none⟩) (.inr (Nat.le_succ _)) _).setCell (p := ⟨w.heap.size + 1, 2, none⟩) (.inr (Nat.le_succ _)) _)
    clear hf1 hno READ HF0 HR0 HB0
    gi_wp2_with fail
    exact ⟨.tuple #[RV 0 0 none 0 0, .bool false], by simp [results, Tryd.results15, go_sem, a0, a1, a2], HE.out⟩
end Go.Proofs.YtloecimlimoanaaDoor
