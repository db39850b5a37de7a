/- RelJoin of the program. -/
import Derived.Test.YticoeooeeejboaaDoorJn0
import Derived.Test.YticoeooeeejboaaDoorUn0
import Derived.Test.YticoeooeeejboaaDoorWri
import Derived.Test.YticoeooeeejboaaDoorRdr
namespace Go.Proofs.YticoeooeeejboaaDoor
open Go.RowKit Go.ChangeMaps Go.Shelf

attribute [local go_sem] Oper.semAt_some

/-- what a row's change does to a relation -/
theorem RelAt.row {w w' : World} {b l r B : Nat} {R : Nat → Nat → Bool} {P : Nat → Bool} {Rb : Nat} {gs : Nat → Nat} (h0 : B ≤ b) (h1 : Blk w b 55 #[.int .i64 r, .slice (some ⟨Rb, 0, none⟩) l l]) (h2 : RowsTo w Rb l r l B gs R) {i : Nat} (hi : i < l)
    (ha : AddP (gs i) r P w w') : RelAt w' b l r B (fun i' j => if i' = i then P j else R i' j) := by
  obtain ⟨hf, ws, hw, hbits⟩ := ha
  obtain ⟨_, ws0, hw0, _⟩ := h2.each i hi
  have n1 : ¬ One (gs i) b := fun e => by
    have e : b = gs i := e
    subst e
    exact absurd (h1.eq hw0).1 (by decide)
  have n2 : ¬ One (gs i) Rb := fun e => by
    have e : Rb = gs i := e
    subst e
    exact absurd (h2.rows.eq hw0).1 (by decide)
  refine ⟨h0, Rb, gs, h1.fr hf n1, h2.rows.fr hf n2, h2.low, fun i' hi' => ?_, h2.inj⟩
  obtain ⟨h3, ws', h4, h5⟩ := h2.each i' hi'
  by_cases e : i' = i
  · subst e
    exact ⟨h3, ws, hw, hbits.congr (fun j _ => by simp)⟩
  · exact ⟨h3, ws', h4.fr hf (fun h => e (h2.inj i' i hi' hi h)), h5.congr (fun j _ => by simp [e])⟩

theorem mid_any (r : Nat) (ps : List Int) (r2 : Nat) (qs : List Int) (i k : Nat) : (elems r (memR r ps i)).any (fun j => memR r2 qs j k) = midB r ps r2 qs r i k := by
  unfold elems midB
  rw [List.any_filter]

/-- what is there ahead of row i -/
structure ZI (N1 : Nat) (V1 : World) (bk kb l r2 : Nat) (M : Nat → Nat → Bool) (i : Nat) (Ds : List Nat) (W : World) : Prop where
  fr : Fr No V1 W
  bx : Blk W kb 49 #[Ptr bk]
  rel : RelAt W bk l r2 N1 (fun i' k => decide (i' < i) && M i' k)
  nd : Ds.Nodup
  ds : ∀ D, D ∈ Ds → N1 ≤ D ∧ W.heap[D]? = some (.deferred (some []))

/-- what came in so far in row i -/
structure ZJ (N1 : Nat) (V1 : World) (bk kb l r2 : Nat) (M S : Nat → Nat → Bool) (b4 i : Nat) (Ds : List Nat) (D : Nat) (rec : LoopState → Option Code → Loop) (pre : List Nat) (W : World) : Prop where
  fr : Fr No V1 W
  bx : Blk W kb 49 #[Ptr bk]
  rel : RelAt W bk l r2 N1 (fun i' k => (decide (i' < i) && M i' k) || (decide (i' = i) && pre.any (fun j => S j k)))
  b4 : Blk W b4 3 #[.int .i64 i]
  lp : W.heap[D + 1]? = some (.loop (rec .ready none))
  df : W.heap[D]? = some (.deferred (some []))
  ds : ∀ D', D' ∈ Ds → W.heap[D']? = some (.deferred (some []))
  sz : D + 2 ≤ W.heap.size

/-- what was read: a relation of bit sets, or nil -/
def RdIs (L R : Int) (ps : List Int) (B : Nat) (v : Value) (W : World) : Prop := (∃ (l r b : Nat), L = l ∧ R = r ∧ RelOk L R ps ∧ v = Ptr b ∧ RelAt W b l r B (memR r ps)) ∨ (¬ RelOk L R ps ∧ v = .pointer none)

theorem RelAt.frK {w w' : World} {b l r B kb : Nat} {R : Nat → Nat → Bool} {cs : Array Value} (h : RelAt w b l r B R) (hk : Blk w kb 49 cs) (hf : Fr (One kb) w w') : RelAt w' b l r B R := by
  obtain ⟨h0, Rb, gs, h1, h2⟩ := h
  have no : ∀ g t cs, Blk w g t cs → t ≠ 49 → ¬ One kb g := fun g t cs hb ht e => by
    have e : g = kb := e
    subst e
    exact ht (hb.eq hk).1
  exact ⟨h0, Rb, gs, h1.fr hf (no _ _ _ h1 (by decide)), h2.rows.fr hf (no _ _ _ h2.rows (by decide)), h2.low, fun i hi => ⟨(h2.each i hi).1, by
    obtain ⟨ws, h3, h4⟩ := (h2.each i hi).2
    exact ⟨ws, h3.fr hf (no _ _ _ h3 (by decide)), h4⟩⟩, h2.inj⟩

theorem RdIs.no {L R : Int} {ps : List Int} {B : Nat} {v : Value} {W W' : World} (h : RdIs L R ps B v W) (hf : Fr No W W') : RdIs L R ps B v W' := by
  rcases h with ⟨l, r, b, h1, h2, h3, h4, h5⟩ | h
  · exact .inl ⟨l, r, b, h1, h2, h3, h4, h5.fr hf (fun _ h => h.elim)⟩
  · exact .inr h

theorem RdIs.k {L R : Int} {ps : List Int} {B kb : Nat} {v : Value} {W W' : World} {cs : Array Value} (h : RdIs L R ps B v W) (hk : Blk W kb 49 cs) (hf : Fr (One kb) W W') : RdIs L R ps B v W' := by
  rcases h with ⟨l, r, b, h1, h2, h3, h4, h5⟩ | h
  · exact .inl ⟨l, r, b, h1, h2, h3, h4, h5.frK hk hf⟩
  · exact .inr h

set_option maxRecDepth 100000 in
set_option maxHeartbeats 8000000 in
theorem implRelJoin (w : World) (L R : Int) (A0 : Option Addr) (c0 : Nat) (ps : List Int) (L2 R2 : Int) (A1 : Option Addr) (c1 : Nat) (qs : List Int) (hp : ISl w A0 ps) (hn : ps.length ≤ 2000000) (hp1 : ISl w A1 qs) (hn1 : qs.length ≤ 2000000) (hT : TZt w) :
    Calls Tryd.prog 16 #[RV L R A0 ps.length c0, RV L2 R2 A1 qs.length c1] w fun e w' => AnsR (joinO L R ps L2 R2 qs) w e w' := by
  have READA0 : Hid (∀ W, Fr No w W → Calls Tryd.prog 29 #[RV L R A0 ps.length c0] W fun e w' => ReadR L R ps W e w') := fun W hf => readRelation_any W L R A0 c0 ps (hp.keep hf (fun _ h => h.elim)) hn
  have READB0 : Hid (∀ W, Fr No w W → Calls Tryd.prog 29 #[RV L2 R2 A1 qs.length c1] W fun e w' => ReadR L2 R2 qs W e w') := fun W hf => readRelation_any W L2 R2 A1 c1 qs (hp1.keep hf (fun _ h => h.elim)) hn1
  have HT := Lib.hid hT
  obtain ⟨W0, hW0, hf0, hr0, hs0, hb0⟩ : ∃ W, W = ((w.alloc (.cells #[.int .i64 L, .int .i64 R, .slice A0 ps.length c0] 25)).alloc (.cells #[.int .i64 L2, .int .i64 R2, .slice A1 qs.length c1] 25)).alloc (.cells #[.int .i64 0, .int .i64 0, .slice none 0 0] 25) ∧ Fr No w W ∧ Blk W w.heap.size 25 #[.int .i64 L, .int .i64 R, .slice A0 ps.length c0] ∧ Blk W (w.heap.size + 1) 25 #[.int .i64 L2, .int .i64 R2, .slice A1 qs.length c1] ∧ Blk W (w.heap.size + 2) 25 #[.int .i64 0, .int .i64 0, .slice none 0 0] :=
    ⟨_, rfl, (((Fr.refl No w).alloc _).alloc _).alloc _, ((Blk.new _ _ _).alloc _).alloc _, (Blk.new_at _ _ _ (by simp)).alloc _, Blk.new_at _ _ _ (by simp)⟩
  have HF0 := Lib.hid hf0
  have HR0 := Lib.hid hr0
  have HS0 := Lib.hid hs0
  have HB0 := Lib.hid hb0
  clear hT hp hp1 hf0 hr0 hs0 hb0
  refine (callsIn_wide (n := 7)).1 ?_
  refine callsIn_of_wp_marks Tryd.func16 rfl trivial ?_ rfl
  simp only [Tryd.ntmps16, List.size_toArray, List.length_cons, List.length_nil, Nat.reduceAdd, Nat.reduceSub, Array.replicate_succ, Array.replicate_zero, List.push_toArray, List.append_toArray, List.nil_append, List.cons_append]
  have hlo0 : w.heap.size + 3 ≤ W0.heap.size := HB0.out.lt
  have READA : Hid (∀ W, Fr No W0 W → Calls Tryd.prog 29 #[RV L R A0 ps.length c0] W fun e w' => ∃ v, e = .returned v ∧ Fr No W w' ∧ Hid (RdIs L R ps W0.heap.size v w')) := fun W hf => (READA0.out W (HF0.out.trans hf)).mono (by
    rintro e w' ⟨h0, ⟨l, r, b, h1, h2, h3, rfl, h5⟩ | ⟨h1, rfl⟩⟩
    · obtain ⟨q0, q1, q2, q3, q4⟩ := h5
      exact ⟨_, rfl, h0, .inl ⟨l, r, b, h1, h2, h3, rfl, Nat.le_trans hf.size q0, q1, q2, q3, q4.base hf.size⟩⟩
    · exact ⟨_, rfl, h0, .inr ⟨h1, rfl⟩⟩)
  have READB : Hid (∀ W, Fr No W0 W → Calls Tryd.prog 29 #[RV L2 R2 A1 qs.length c1] W fun e w' => ∃ p : Option Addr, e = .returned (.pointer p) ∧ Fr No W w' ∧ Hid (RdIs L2 R2 qs W0.heap.size (.pointer p) w')) := fun W hf => (READB0.out W (HF0.out.trans hf)).mono (by
    rintro e w' ⟨h0, ⟨l, r, b, h1, h2, h3, rfl, h5⟩ | ⟨h1, rfl⟩⟩
    · obtain ⟨q0, q1, q2, q3, q4⟩ := h5
      exact ⟨_, rfl, h0, .inl ⟨l, r, b, h1, h2, h3, rfl, Nat.le_trans hf.size q0, q1, q2, q3, q4.base hf.size⟩⟩
    · exact ⟨_, rfl, h0, .inr ⟨h1, rfl⟩⟩)
  have CC : Hid (∀ W, Fr No W0 W → W.cell? ⟨w.heap.size, 0, none⟩ = some (.int .i64 L) ∧ W.cell? ⟨w.heap.size, 1, none⟩ = some (.int .i64 R) ∧ W.cell? ⟨w.heap.size, 2, none⟩ = some (.slice A0 ps.length c0) ∧ W.cell? ⟨w.heap.size + 1, 0, none⟩ = some (.int .i64 L2) ∧ W.cell? ⟨w.heap.size + 1, 1, none⟩ = some (.int .i64 R2) ∧ W.cell? ⟨w.heap.size + 1, 2, none⟩ = some (.slice A1 qs.length c1)) := fun W hf => ⟨((HR0.out.fr hf (fun h => h)).cell 0).trans rfl, ((HR0.out.fr hf (fun h => h)).cell 1).trans rfl, ((HR0.out.fr hf (fun h => h)).cell 2).trans rfl, ((HS0.out.fr hf (fun h => h)).cell 0).trans rfl, ((HS0.out.fr hf (fun h => h)).cell 1).trans rfl, ((HS0.out.fr hf (fun h => h)).cell 2).trans rfl⟩
  gi_wp2_with fail
  rename_i K hK
  rw [← hW0]
  clear hW0 READA0 READB0
  have REST : Hid (∀ (kb : Nat) (v1 v2 u12 u13 u14 u15 : Value) (W : World), Fr No W0 W → Blk W kb 49 #[v2] → W0.heap.size ≤ kb → RdIs L R ps W0.heap.size v1 W → RdIs L2 R2 qs W0.heap.size v2 W → K { tmps := #[RV L R A0 ps.length c0, RV L2 R2 A1 qs.length c1, Ptr w.heap.size, Ptr (w.heap.size + 1), Ptr (w.heap.size + 2), .bool false, v1, Ptr kb, undef, undef, undef, undef, u12, u13, u14, u15, undef, undef, undef, undef, undef, undef, undef, undef, undef, undef, undef, undef, undef, undef, undef, undef, undef, undef, undef, undef, undef, undef, undef, undef, undef, undef, undef, undef, undef, undef, undef, undef, undef, undef, undef, undef, undef, undef, undef, undef, undef, undef, undef, undef, undef, undef, undef, undef, undef, undef], defers := [] } W) := by
    intro kb v1 v2 u12 u13 u14 u15 W hW hkb hlo ha hb
    refine hK _ _ ?_
    have HFW := Lib.hid hW
    have HKB := Lib.hid hkb
    have HBT := Lib.hid (HB0.out.fr hW (fun h => h))
    have FAIL : Hid (¬ JoinOk L R ps L2 R2 qs → AnsR (joinO L R ps L2 R2 qs) w (.returned (.tuple #[RV 0 0 none 0 0, .bool false])) (((W.setCell ⟨w.heap.size + 2, 0, none⟩ (.int .i64 0)).setCell ⟨w.heap.size + 2, 1, none⟩ (.int .i64 0)).setCell ⟨w.heap.size + 2, 2, none⟩ (.slice none 0 0))) := fun h => by
      rw [joinO_no h]
      exact AnsR.none_ ((((HF0.out.trans hW).setCell (p := ⟨w.heap.size + 2, 0, none⟩) (.inr (Nat.le_add_right _ _)) _).setCell (p := ⟨w.heap.size + 2, 1, none⟩) (.inr (Nat.le_add_right _ _)) _).setCell (p := ⟨w.heap.size + 2, 2, none⟩) (.inr (Nat.le_add_right _ _)) _)
    obtain ⟨y0, y1, y2, y3, y4, y5⟩ := CC.out W hW
    have a0 : W.cell? ⟨w.heap.size + 2, 0, none⟩ = some (.int .i64 0) := (HBT.out.cell 0).trans rfl
    have a1 : W.cell? ⟨w.heap.size + 2, 1, none⟩ = some (.int .i64 0) := (HBT.out.cell 1).trans rfl
    have a2 : W.cell? ⟨w.heap.size + 2, 2, none⟩ = some (.slice none 0 0) := (HBT.out.cell 2).trans rfl
    have f0 := HBT.out.frozen 0
    have f1 := HBT.out.frozen 1
    have f2 := HBT.out.frozen 2
    have k0 : W.cell? ⟨kb, 0, none⟩ = some v2 := (hkb.cell 0).trans rfl
    clear hW hkb hK READA READB CC HR0 HS0 HB0
    rcases ha with ⟨l, r, b, rfl, rfl, hokA, rfl, relA⟩ | ⟨hno, rfl⟩
    · rcases hb with ⟨lb, r2, b2, rfl, rfl, hokB, rfl, relB⟩ | ⟨hno, rfl⟩
      · by_cases heq : r = lb
        · subst heq
          have hne : ((r : Int) != (r : Int)) = false := by simp
          have HOK : Hid (JoinOk l r ps r r2 qs) := ⟨hokA, hokB, rfl⟩
          have HRA := Lib.hid relA
          have HRB := Lib.hid relB
          obtain ⟨⟨l0, l1⟩, ⟨r0, r1⟩, _, _⟩ := hokA
          obtain ⟨_, ⟨s0, s1⟩, _, _⟩ := hokB
          have hl2 : l ≤ 128 := by omega
          have hr2 : r ≤ 128 := by omega
          have hs2 : r2 ≤ 128 := by omega
          have NEW : Hid (∀ W, Calls Tryd.prog 34 #[.int .i64 l, .int .i64 r2] W fun e w' => NewRel l r2 W e w') := fun W => newBitRelation_any W l r2 (by omega) (by omega) (by omega)
          clear relA relB FAIL
          gi_wp2_with fail
          refine ⟨trivial, (callsIn_wide.2 (NEW.out _)).mono ?_⟩
          rintro e w3 ⟨bk, rfl, hf3, hrelk⟩
          obtain ⟨hBk, Rk, gk, hbk, hrk⟩ := hrelk
          have hfV : Fr No W (w3.alloc (.cells #[.pointer (some ⟨bk, 0, none⟩)] 49)) := hf3.alloc _
          have HBX : Hid (Blk (w3.alloc (.cells #[.pointer (some ⟨bk, 0, none⟩)] 49)) w3.heap.size 49 #[Ptr bk]) := Blk.new _ _ _
          have HREL : Hid (RelAt (w3.alloc (.cells #[.pointer (some ⟨bk, 0, none⟩)] 49)) bk l r2 W.heap.size (fun _ _ => false)) := ⟨hBk, Rk, gk, hbk.alloc _, hrk.fr ((Fr.refl No w3).alloc _) (fun _ h => h.elim)⟩
          have HSV : Hid (W.heap.size ≤ w3.heap.size) := hf3.size
          obtain ⟨_, Rb, gs, hbb, hrows⟩ := HRA.out
          have cb : (w3.alloc (.cells #[.pointer (some ⟨bk, 0, none⟩)] 49)).cell? ⟨b, 1, none⟩ = some (.slice (some ⟨Rb, 0, none⟩) l l) := ((hbb.fr hfV (fun h => h)).cell 1).trans rfl
          have HFV := Lib.hid hfV
          have HBB := Lib.hid hbb
          have HROWS := Lib.hid hrows
          have HT1 := Lib.hid (HT.out.fr (HF0.out.trans HFW.out) (fun h => h))
          clear hf3 hBk hbk hrk NEW hfV hbb hrows HT HRA y0 y1 y2 y3 y4 y5 a0 a1 a2 f0 f1 f2 k0 hne
          gi_wp2_with fail
          generalize (w3.alloc (.cells #[.pointer (some ⟨bk, 0, none⟩)] 49)) = V0 at cb HFV HBX HREL ⊢
          have Y0 : Hid (ZI W.heap.size W bk w3.heap.size l r2 (midB r ps r2 qs r) 0 [] V0) := ⟨HFV.out, HBX.out, HREL.out.congr (fun i hi j hj => by simp), by simp, fun D h => by cases h⟩
          have HKB2 := HKB
          clear cb HBX HREL HFV HKB
          refine wpIn_loop_ghost_k (fun gk a' w' => ∃ (i : Nat) (Ds : List Nat) (q9 q10 q11 q12 q13 q14 q15 q16 q17 q18 q19 q20 q21 q22 q23 q24 q25 q26 q27 q28 q29 q30 q31 q32 q33 q34 q35 q36 q37 q41 q42 q43 q44 q45 q46 q47 q48 q49 q50 q51 q52 q53 q54 q55 q56 q57 q58 q59 q60 q61 q62 q63 q64 q65 : Value), i + gk = l ∧ ZI W.heap.size W bk w3.heap.size l r2 (midB r ps r2 qs r) i Ds w' ∧ a' = { tmps := #[RV l r A0 ps.length c0, RV r r2 A1 qs.length c1, Ptr w.heap.size, Ptr (w.heap.size + 1), Ptr (w.heap.size + 2), .bool false, Ptr b, Ptr kb, Ptr w3.heap.size, q9, q10, q11, q12, q13, q14, q15, q16, q17, q18, q19, q20, q21, q22, q23, q24, q25, q26, q27, q28, q29, q30, q31, q32, q33, q34, q35, q36, q37, .slice (some ⟨Rb, 0, none⟩) l l, .int .i64 l, .int .i64 i, q41, q42, q43, q44, q45, q46, q47, q48, q49, q50, q51, q52, q53, q54, q55, q56, q57, q58, q59, q60, q61, q62, q63, q64, q65], defers := marksD Ds }) l ?start ?round
          case start => exact ⟨0, [], _, _, _, _, _, _, _, _, _, _, _, _, _, _, _, _, _, _, _, _, _, _, _, _, _, _, _, _, _, _, _, _, _, _, _, _, _, _, _, _, _, _, _, _, _, _, _, _, _, _, _, _, _, _, by omega, Y0.out, rfl⟩
          case round =>
            intro gk a X hinv J K hJ hK
            obtain ⟨i, Ds, q9, q10, q11, q12, q13, q14, q15, q16, q17, q18, q19, q20, q21, q22, q23, q24, q25, q26, q27, q28, q29, q30, q31, q32, q33, q34, q35, q36, q37, q41, q42, q43, q44, q45, q46, q47, q48, q49, q50, q51, q52, q53, q54, q55, q56, q57, q58, q59, q60, q61, q62, q63, q64, q65, hgk, hyi, rfl⟩ := hinv
            have HY := Lib.hid hyi
            clear hyi Y0
            by_cases hlt : i < l
            · have hrows := HROWS.out.fr HY.out.fr (fun b hb => hb.elim)
              obtain ⟨_, ws, hws, hbits⟩ := hrows.each i hlt
              have e2 : X.cell? ⟨Rb, i, none⟩ = some (.slice (some ⟨gs i, 0, none⟩) (nw r) (nw r)) := by rw [hrows.rows.cell, RA_at hlt, if_pos hlt]
              have HWS : Hid (Blk X (gs i) 68 (WV ws)) := hws
              have HBITS := Lib.hid hbits
              have hiI : (i : Int) < (l : Int) := by omega
              have hgl : gs i < W.heap.size := by
                obtain ⟨_, ws0, h0, _⟩ := HROWS.out.each i hlt
                exact h0.lt
              clear hrows hws hbits
              gi_wp2_with fail
              have hfA : Fr No X (X.alloc (.cells #[.int .i64 (i : Int)] 3)) := (Fr.refl No X).alloc _
              have hb4 : Blk (X.alloc (.cells #[.int .i64 (i : Int)] 3)) X.heap.size 3 #[.int .i64 (i : Int)] := Blk.new _ _ _
              have hsA : (X.alloc (.cells #[.int .i64 (i : Int)] 3)).heap.size = X.heap.size + 1 := by simp
              generalize (X.alloc (.cells #[.int .i64 (i : Int)] 3)) = Xa at hfA hb4 hsA ⊢
              refine rf_stmt1 rfl (by decide) (gf := 35) (fa := #[.slice (some ⟨gs i, 0, none⟩) (nw r) (nw r)]) rfl trivial (enters_of Tryd.func35 (by kernel_rfl) rfl) ?_
              intro fn D rec hf hD hrec W1 hW1
              have HREC := Lib.hid hrec
              have hD1 : W1.heap.size = D + 2 := by rw [hW1, hD]; simp
              have hf1 : Fr No Xa W1 := by rw [hW1]; exact ((Fr.refl _ _).alloc _).alloc _
              have hl1 : W1.heap[D + 1]? = some (.loop (rec .ready none)) := by
                rw [hW1]
                have := World.alloc_heap_new (Xa.alloc (.deferred (some []))) (.loop (rec .ready none))
                rwa [World.size_alloc, ← hD] at this
              have hd1 : W1.heap[D]? = some (.deferred (some [])) := by
                rw [hW1, hD]
                exact (Below.heap_alloc _ _ _ (by simp)).trans (World.alloc_heap_new Xa _)
              clear hrec
              have HDW : Hid (D = X.heap.size + 1 ∧ W.heap.size ≤ X.heap.size) := ⟨by omega, HY.out.fr.size⟩
              have hfW1 := hfA.trans hf1
              have hfw := HY.out.fr.trans hfW1
              have J0 : ZJ W.heap.size W bk w3.heap.size l r2 (midB r ps r2 qs r) (memR r2 qs) X.heap.size i Ds D rec [] W1 := by
                refine ⟨hfw, HY.out.bx.fr hfW1 (fun h => h), (HY.out.rel.fr hfW1 (fun _ h => h.elim)).congr (fun j hj i' hi' => by simp), hb4.fr hf1 (fun h => h), hl1, hd1, fun D' hD' => ?_, by omega⟩
                have h := (HY.out.ds D' hD').2
                exact (hfW1.block D' (Array.getElem?_eq_some_iff.1 h).1 (fun h => h)).trans h
              have hT1 := HT1.out.fr hfw (fun h => h)
              have hTl := HT1.out.1
              refine (numbers_in Fence.wide 6 (fun _ => trivial) rfl (fun _ _ _ _ _ h => callsIn_wide.2 h) (by decide) (D + 1) (gs i) (fun k => W.heap.size ≤ k) ws r (ZJ W.heap.size W bk w3.heap.size l r2 (midB r ps r2 qs r) (memR r2 qs) X.heap.size i Ds D rec) ?round W1 HBITS.out.len (by omega) HBITS.out.lt J0 (HWS.out.fr hfW1 (fun h => h)) hT1 (by omega) (by omega)).mono ?_
              case round =>
                intro pre x V hex hj
                have hxr : x < r := by
                  obtain ⟨post, e⟩ := hex
                  rw [HBITS.out.list] at e
                  exact (elems_mem.1 (by rw [← e]; simp)).1
                have HJ := Lib.hid hj
                clear hj hex hf1 hl1 hd1 hfw J0 hfA hb4 hsA hD hD1 hfW1 hT1 hW1 e2 hK hJ
                refine rf_round HREC.out hf HJ.out.lp rfl ?_
                gi_wp2_with fail
                refine ⟨_, rf_begin HREC.out HJ.out.lp, ?_⟩
                have hfp : Fr (fun k => k = D + 1) V (V.putObj (D + 1) (.loop (rec .busy none))) := Fr.putObj _ _
                have n1 : w3.heap.size ≠ D + 1 := HJ.out.bx.ne_of HJ.out.lp (fun _ h => by cases h)
                have n4 : X.heap.size ≠ D + 1 := HJ.out.b4.ne_of HJ.out.lp (fun _ h => by cases h)
                have hbx := HJ.out.bx.fr hfp n1
                have hb4 := HJ.out.b4.fr hfp n4
                have hrl := HJ.out.rel.frO hfp (fun g t cs hb _ h => hb.ne_of HJ.out.lp (fun _ h => by cases h) h)
                have hlp : (V.putObj (D + 1) (.loop (rec .busy none))).heap[D + 1]? = some (.loop (rec .busy none)) := World.putObj_heap_same (by have := HJ.out.sz; omega)
                have hdp : (V.putObj (D + 1) (.loop (rec .busy none))).heap[D]? = some (.deferred (some [])) := (World.putObj_heap_other (by omega)).trans HJ.out.df
                have hdsn : ∀ D', D' ∈ Ds → D' ≠ D + 1 := fun D' hD' e => by have h := HJ.out.ds D' hD'; rw [e, HJ.out.lp] at h; cases h
                have hds : ∀ D', D' ∈ Ds → (V.putObj (D + 1) (.loop (rec .busy none))).heap[D']? = some (.deferred (some [])) := fun D' hD' => (World.putObj_heap_other (hdsn D' hD')).trans (HJ.out.ds D' hD')
                have hsp : (V.putObj (D + 1) (.loop (rec .busy none))).heap.size = V.heap.size := by simp
                have hfWV : Fr No W (V.putObj (D + 1) (.loop (rec .busy none))) := HJ.out.fr.then_ hfp (fun k hk h => by have h : k = D + 1 := h; have := HDW.out; omega)
                generalize (V.putObj (D + 1) (.loop (rec .busy none))) = V2 at hfp hbx hb4 hrl hlp hdp hds hsp hfWV ⊢
                obtain ⟨hBk, Rk, gk2, hbk, hrk⟩ := hrl
                obtain ⟨hlok, wk, hwk, hbitk⟩ := hrk.each i hlt
                obtain ⟨_, R2b, gs2, hb2, hr2w⟩ := HRB.out
                obtain ⟨_, os, hos, hbito⟩ := hr2w.each x hxr
                have hgo : gs2 x < W.heap.size := hos.lt
                have d4 : V2.cell? ⟨X.heap.size, 0, none⟩ = some (.int .i64 i) := (hb4.cell 0).trans rfl
                have dx : V2.cell? ⟨w3.heap.size, 0, none⟩ = some (Ptr bk) := (hbx.cell 0).trans rfl
                have dk : V2.cell? ⟨bk, 1, none⟩ = some (.slice (some ⟨Rk, 0, none⟩) l l) := (hbk.cell 1).trans rfl
                have dr : V2.cell? ⟨Rk, i, none⟩ = some (.slice (some ⟨gk2 i, 0, none⟩) (nw r2) (nw r2)) := by rw [hrk.rows.cell, RA_at hlt, if_pos hlt]
                have ey : V2.cell? ⟨kb, 0, none⟩ = some (Ptr b2) := ((HKB2.out.fr hfWV (fun h => h)).cell 0).trans rfl
                have ek : V2.cell? ⟨b2, 1, none⟩ = some (.slice (some ⟨R2b, 0, none⟩) r r) := ((hb2.fr hfWV (fun h => h)).cell 1).trans rfl
                have er : V2.cell? ⟨R2b, x, none⟩ = some (.slice (some ⟨gs2 x, 0, none⟩) (nw r2) (nw r2)) := by rw [(hr2w.rows.fr hfWV (fun h => h)).cell, RA_at hxr, if_pos hxr]
                have hos2 := hos.fr hfWV (fun h => h)
                have UN : Hid (Calls Tryd.prog 42 #[.slice (some ⟨gk2 i, 0, none⟩) (nw r2) (nw r2), .slice (some ⟨gs2 x, 0, none⟩) (nw r2) (nw r2), .int .i64 0] V2.drew fun e w' => e = .returned (.tuple #[]) ∧ AddP (gk2 i) r2 (fun k => ((decide (i < i) && midB r ps r2 qs r i k) || (decide (i = i) && pre.any (fun j => memR r2 qs j k))) || memR r2 qs x k) V2 w') := (unite0_any V2.drew (gk2 i) (gs2 x) wk os r2 _ _ hwk hos2 (by omega) hbitk hbito (by omega)).mono (fun e w' h => ⟨h.1, ((Fr.refl _ V2).drew).trans h.2.1, h.2.2⟩)
                have FIN : Hid (∀ w4, AddP (gk2 i) r2 (fun k => ((decide (i < i) && midB r ps r2 qs r i k) || (decide (i = i) && pre.any (fun j => memR r2 qs j k))) || memR r2 qs x k) V2 w4 →
                    (w4.cell? ⟨X.heap.size, 0, none⟩ = some (.int .i64 i) ∧ w4.cell? ⟨w3.heap.size, 0, none⟩ = some (Ptr bk) ∧ w4.cell? ⟨bk, 1, none⟩ = some (.slice (some ⟨Rk, 0, none⟩) l l) ∧ w4.cell? ⟨Rk, i, none⟩ = some (.slice (some ⟨gk2 i, 0, none⟩) (nw r2) (nw r2)) ∧ w4.cell? ⟨kb, 0, none⟩ = some (Ptr b2) ∧ w4.cell? ⟨b2, 1, none⟩ = some (.slice (some ⟨R2b, 0, none⟩) r r) ∧ w4.cell? ⟨R2b, x, none⟩ = some (.slice (some ⟨gs2 x, 0, none⟩) (nw r2) (nw r2))) ∧
                    ∀ act : Act, roundPost Tryd.prog (D + 1) (fun e W' => e = .returned (.bool true) ∧ ZJ W.heap.size W bk w3.heap.size l r2 (midB r ps r2 qs r) (memR r2 qs) X.heap.size i Ds D rec (pre ++ [x]) W' ∧ Fr (fun k => W.heap.size ≤ k) V W') Exit.normal act w4) := by
                  intro w4 ha
                  have hDW := HDW.out
                  have hfa := ha.1
                  have q4 : X.heap.size ≠ gk2 i := fun e => by have e1 := hb4; rw [e] at e1; exact absurd (hwk.eq e1).1 (by decide)
                  have qx : w3.heap.size ≠ gk2 i := fun e => by have e1 := hbx; rw [e] at e1; exact absurd (hwk.eq e1).1 (by decide)
                  have qk : bk ≠ gk2 i := fun e => by have e1 := hbk; rw [e] at e1; exact absurd (hwk.eq e1).1 (by decide)
                  have qr : Rk ≠ gk2 i := fun e => by have e1 := hrk.rows; rw [e] at e1; exact absurd (hwk.eq e1).1 (by decide)
                  have ql : D + 1 ≠ gk2 i := fun e => hwk.ne_of hlp (fun _ h => by cases h) e.symm
                  have qd : D ≠ gk2 i := fun e => hwk.ne_of hdp (fun _ h => by cases h) e.symm
                  have hfW4 : Fr No W w4 := hfWV.then_ hfa (fun k hk h => by have h : k = gk2 i := h; omega)
                  have hb44 := hb4.fr hfa q4
                  have hbx4 := hbx.fr hfa qx
                  have hbk4 := hbk.fr hfa qk
                  have hrk4 := hrk.rows.fr hfa qr
                  have hlp4 : w4.heap[D + 1]? = some (.loop (rec .busy none)) := (hfa.block (D + 1) (by rw [hsp]; have := HJ.out.sz; omega) ql).trans hlp
                  have hdp4 : w4.heap[D]? = some (.deferred (some [])) := (hfa.block D (by rw [hsp]; have := HJ.out.sz; omega) qd).trans hdp
                  have hds4 : ∀ D', D' ∈ Ds → w4.heap[D']? = some (.deferred (some [])) := fun D' hD' => (hfa.block D' (Array.getElem?_eq_some_iff.1 (hds D' hD')).1 (fun e => hwk.ne_of (hds D' hD') (fun _ h => by cases h) (show gk2 i = D' from (show D' = gk2 i from e).symm))).trans (hds D' hD')
                  have hra := RelAt.row hBk hbk hrk hlt ha
                  refine ⟨⟨(hb44.cell 0).trans rfl, (hbx4.cell 0).trans rfl, (hbk4.cell 1).trans rfl, by rw [hrk4.cell, RA_at hlt, if_pos hlt], ((HKB2.out.fr hfW4 (fun h => h)).cell 0).trans rfl, ((hb2.fr hfW4 (fun h => h)).cell 1).trans rfl, by rw [(hr2w.rows.fr hfW4 (fun h => h)).cell, RA_at hxr, if_pos hxr]⟩, fun act => ⟨_, _, rf_end HREC.out none hlp4, rfl, ?_⟩⟩
                  have hq : Fr (fun k => k = D + 1) w4 (w4.putObj (D + 1) (.loop (rec .ready none))) := Fr.putObj _ _
                  have hz4 := hfa.size
                  have hfS : Fr (fun k => W.heap.size ≤ k) V (w4.putObj (D + 1) (.loop (rec .ready none))) := ((hfp.mono (fun k _ h => by have h : k = D + 1 := h; omega)).trans (hfa.mono (fun k _ h => by have h : k = gk2 i := h; omega))).trans (hq.mono (fun k _ h => by have h : k = D + 1 := h; omega))
                  refine ⟨⟨HJ.out.fr.then_ hfS (fun k hk h => by omega), hbx4.fr hq n1, (hra.frO hq (fun g t cs hb _ h => hb.ne_of hlp4 (fun _ h => by cases h) h)).congr (fun i' hi' k hk => ?_), hb44.fr hq n4, World.putObj_heap_same (by rw [hsp] at hz4; have := HJ.out.sz; omega), (World.putObj_heap_other (by omega)).trans hdp4, fun D' hD' => (World.putObj_heap_other (hdsn D' hD')).trans (hds4 D' hD'), ?_⟩, hfS⟩
                  · by_cases e1 : i' = i
                    · subst e1
                      simp
                    · simp [e1]
                  · rw [hsp] at hz4; have := HJ.out.sz; simp; omega
                have hmix : Tryd.prog.follows .mixedOrders = true := by kernel_rfl
                have hxI : (x : Int) < (r : Int) := by omega
                clear hfp hbx hb4 hlp hdp hds hdsn hsp hbk hrk hwk hbitk hlok n1 n4 HREC HJ hb2 hr2w hos hos2 hbito hfWV HKB2
                gi_wp2_with fail
                refine wpIn_region_heldR (S := fun w' => w'.cell? ⟨X.heap.size, 0, none⟩ = some (.int .i64 i) ∧ w'.cell? ⟨w3.heap.size, 0, none⟩ = some (Ptr bk) ∧ w'.cell? ⟨bk, 1, none⟩ = some (.slice (some ⟨Rk, 0, none⟩) l l) ∧ w'.cell? ⟨Rk, i, none⟩ = some (.slice (some ⟨gk2 i, 0, none⟩) (nw r2) (nw r2)) ∧ w'.cell? ⟨kb, 0, none⟩ = some (Ptr b2) ∧ w'.cell? ⟨b2, 1, none⟩ = some (.slice (some ⟨R2b, 0, none⟩) r r) ∧ w'.cell? ⟨R2b, x, none⟩ = some (.slice (some ⟨gs2 x, 0, none⟩) (nw r2) (nw r2))) hmix (by kernel_rfl) ?hLO ⟨d4, dx, dk, dr, ey, ek, er⟩ (fun hHeld => ?_)
                case hLO =>
                  rintro ⟨a0, w0, h⟩
                  exact (h : False)
                refine wpAnyH_take (i := 0) (v := ?vz0) (by simp only [List.getElem?_toArray, List.getElem?_cons_zero]; rfl) (by kernel_rfl) (by kernel_rfl) (by kernel_rfl) (by exact fun _ _ _ h => h) (Or.inl ⟨by rfl, ?hyz0⟩) (by assumption) ?restz0
                case hyz0 => (intro w hSw; (try dsimp only at hSw); go_simp; try with_reducible rfl)
                ((try simp only [Act.put]); (try simp only [List.setIfInBounds_toArray]); (try simp only [List.set_cons_succ]); (try simp only [List.set_cons_zero]))
                refine wpAnyH_take (i := 1) (v := ?vz1) (by simp only [List.getElem?_toArray, List.getElem?_cons_succ, List.getElem?_cons_zero]; rfl) (by kernel_rfl) (by kernel_rfl) (by kernel_rfl) (by exact fun _ _ _ h => h) (Or.inl ⟨by rfl, ?hyz1⟩) (by assumption) ?restz1
                case hyz1 => (intro w hSw; (try dsimp only at hSw); go_simp; try with_reducible rfl)
                ((try simp only [Act.put]); (try simp only [List.setIfInBounds_toArray]); (try simp only [List.set_cons_succ]); (try simp only [List.set_cons_zero]))
                refine wpAnyH_take (i := 2) (v := ?vz2) (by simp only [List.getElem?_toArray, List.getElem?_cons_succ, List.getElem?_cons_zero]; rfl) (by kernel_rfl) (by kernel_rfl) (by kernel_rfl) (by exact fun _ _ _ h => h) (Or.inl ⟨by rfl, ?hyz2⟩) (by assumption) ?restz2
                case hyz2 => (intro w hSw; (try dsimp only at hSw); go_simp; try with_reducible rfl)
                ((try simp only [Act.put]); (try simp only [List.setIfInBounds_toArray]); (try simp only [List.set_cons_succ]); (try simp only [List.set_cons_zero]))
                refine wpAnyH_take (i := 3) (v := ?vz3) (by simp only [List.getElem?_toArray, List.getElem?_cons_succ, List.getElem?_cons_zero]; rfl) (by kernel_rfl) (by kernel_rfl) (by kernel_rfl) (by exact fun _ _ _ h => h) (Or.inl ⟨by rfl, ?hyz3⟩) (by assumption) ?restz3
                case hyz3 => (intro w hSw; (try dsimp only at hSw); go_simp; try with_reducible rfl)
                ((try simp only [Act.put]); (try simp only [List.setIfInBounds_toArray]); (try simp only [List.set_cons_succ]); (try simp only [List.set_cons_zero]))
                refine wpAnyH_take (i := 4) (v := ?vz4) (by simp only [List.getElem?_toArray, List.getElem?_cons_succ, List.getElem?_cons_zero]; rfl) (by kernel_rfl) (by kernel_rfl) (by kernel_rfl) (by exact fun _ _ _ h => h) (Or.inl ⟨by rfl, ?hyz4⟩) (by assumption) ?restz4
                case hyz4 => (intro w hSw; (try dsimp only at hSw); go_simp; try with_reducible rfl)
                ((try simp only [Act.put]); (try simp only [List.setIfInBounds_toArray]); (try simp only [List.set_cons_succ]); (try simp only [List.set_cons_zero]))
                refine wpAnyH_take (i := 5) (v := ?vz5) (by simp only [List.getElem?_toArray, List.getElem?_cons_succ, List.getElem?_cons_zero]; rfl) (by kernel_rfl) (by kernel_rfl) (by kernel_rfl) (by exact fun _ _ _ h => h) (Or.inl ⟨by rfl, ?hyz5⟩) (by assumption) ?restz5
                case hyz5 => (intro w hSw; (try dsimp only at hSw); go_simp; try with_reducible rfl)
                ((try simp only [Act.put]); (try simp only [List.setIfInBounds_toArray]); (try simp only [List.set_cons_succ]); (try simp only [List.set_cons_zero]))
                refine wpAnyH_take (i := 6) (v := ?vz6) (by simp only [List.getElem?_toArray, List.getElem?_cons_succ, List.getElem?_cons_zero]; rfl) (by kernel_rfl) (by kernel_rfl) (by kernel_rfl) (by exact fun _ _ _ h => h) (Or.inl ⟨by rfl, ?hyz6⟩) (by assumption) ?restz6
                case hyz6 => (intro w hSw; (try dsimp only at hSw); go_simp; try with_reducible rfl)
                ((try simp only [Act.put]); (try simp only [List.setIfInBounds_toArray]); (try simp only [List.set_cons_succ]); (try simp only [List.set_cons_zero]))
                refine wpAnyH_take (i := 7) (v := ?vz7) (by simp only [List.getElem?_toArray, List.getElem?_cons_succ, List.getElem?_cons_zero]; rfl) (by kernel_rfl) (by kernel_rfl) (by kernel_rfl) (by exact fun _ _ _ h => h) (Or.inl ⟨by rfl, ?hyz7⟩) (by assumption) ?restz7
                case hyz7 => (intro w hSw; (try dsimp only at hSw); go_simp; try with_reducible rfl)
                ((try simp only [Act.put]); (try simp only [List.setIfInBounds_toArray]); (try simp only [List.set_cons_succ]); (try simp only [List.set_cons_zero]))
                refine wpAnyH_take (i := 8) (v := ?vz8) (by simp only [List.getElem?_toArray, List.getElem?_cons_succ, List.getElem?_cons_zero]; rfl) (by kernel_rfl) (by kernel_rfl) (by kernel_rfl) (by exact fun _ _ _ h => h) (Or.inl ⟨by rfl, ?hyz8⟩) (by assumption) ?restz8
                case hyz8 => (intro w hSw; (try dsimp only at hSw); go_simp; try with_reducible rfl)
                ((try simp only [Act.put]); (try simp only [List.setIfInBounds_toArray]); (try simp only [List.set_cons_succ]); (try simp only [List.set_cons_zero]))
                refine wpAnyH_take (i := 9) (v := ?vz9) (by simp only [List.getElem?_toArray, List.getElem?_cons_succ, List.getElem?_cons_zero]; rfl) (by kernel_rfl) (by kernel_rfl) (by kernel_rfl) (by exact fun _ _ _ h => h) (Or.inl ⟨by rfl, ?hyz9⟩) (by assumption) ?restz9
                case hyz9 => (intro w hSw; (try dsimp only at hSw); go_simp; try with_reducible rfl)
                ((try simp only [Act.put]); (try simp only [List.setIfInBounds_toArray]); (try simp only [List.set_cons_succ]); (try simp only [List.set_cons_zero]))
                refine wpAnyH_take (i := 10) (v := ?vz10) (by simp only [List.getElem?_toArray, List.getElem?_cons_succ, List.getElem?_cons_zero]; rfl) (by kernel_rfl) (by kernel_rfl) (by kernel_rfl) (by exact fun _ _ _ h => h) (Or.inl ⟨by rfl, ?hyz10⟩) (by assumption) ?restz10
                case hyz10 => (intro w hSw; (try dsimp only at hSw); go_simp; try with_reducible rfl)
                ((try simp only [Act.put]); (try simp only [List.setIfInBounds_toArray]); (try simp only [List.set_cons_succ]); (try simp only [List.set_cons_zero]))
                refine wpAnyH_take (i := 11) (v := ?vz11) (by simp only [List.getElem?_toArray, List.getElem?_cons_succ, List.getElem?_cons_zero]; rfl) (by kernel_rfl) (by kernel_rfl) (by kernel_rfl) (by exact fun _ _ _ h => h) (Or.inl ⟨by rfl, ?hyz11⟩) (by assumption) ?restz11
                case hyz11 => (intro w hSw; (try dsimp only at hSw); go_simp; try with_reducible rfl)
                ((try simp only [Act.put]); (try simp only [List.setIfInBounds_toArray]); (try simp only [List.set_cons_succ]); (try simp only [List.set_cons_zero]))
                refine wpAnyH_take (i := 12) (v := ?vz12) (by simp only [List.getElem?_toArray, List.getElem?_cons_succ, List.getElem?_cons_zero]; rfl) (by kernel_rfl) (by kernel_rfl) (by kernel_rfl) (by exact fun _ _ _ h => h) (Or.inl ⟨by rfl, ?hyz12⟩) (by assumption) ?restz12
                case hyz12 => (intro w hSw; (try dsimp only at hSw); go_simp; try with_reducible rfl)
                ((try simp only [Act.put]); (try simp only [List.setIfInBounds_toArray]); (try simp only [List.set_cons_succ]); (try simp only [List.set_cons_zero]))
                refine wpAnyH_take (i := 13) (v := ?vz13) (by simp only [List.getElem?_toArray, List.getElem?_cons_succ, List.getElem?_cons_zero]; rfl) (by kernel_rfl) (by kernel_rfl) (by kernel_rfl) (by exact fun _ _ _ h => h) (Or.inl ⟨by rfl, ?hyz13⟩) (by assumption) ?restz13
                case hyz13 => (intro w hSw; (try dsimp only at hSw); go_simp; try with_reducible rfl)
                ((try simp only [Act.put]); (try simp only [List.setIfInBounds_toArray]); (try simp only [List.set_cons_succ]); (try simp only [List.set_cons_zero]))
                refine wpAnyH_ready (rs := [14]) (by kernel_rfl) (by simp) ?_
                refine AllReadyH.cons rfl (fun K hK => ?_) AllReadyH.nil
                go_simp
                (with_reducible refine UN.out.mono ?_)
                rintro e w4 ⟨rfl, ha⟩
                obtain ⟨k1, k2⟩ := FIN.out w4 ha
                refine hK.out _ _ k1 (fun hH8 => ?_)
                clear hK K
                ((try simp only [Act.put]); (try simp only [List.setIfInBounds_toArray]); (try simp only [List.set_cons_succ]); (try simp only [List.set_cons_zero]))
                refine wpAnyH_done (by kernel_rfl) ?_ _
                exact k2 { tmps := #[], defers := [] }
              rintro e V ⟨hv, hj⟩
              refine ⟨hv, .ready, none, (fun h => by cases h), hj.lp, ?_⟩
              have hfp : Fr (fun k => k = D + 1) V (V.putObj (D + 1) (.loop (rec .exhausted none))) := Fr.putObj _ _
              have n1 : w3.heap.size ≠ D + 1 := hj.bx.ne_of hj.lp (fun _ h => by cases h)
              have NEXT : Hid (ZI W.heap.size W bk w3.heap.size l r2 (midB r ps r2 qs r) (i + 1) (D :: Ds) (V.putObj (D + 1) (.loop (rec .exhausted none)))) := by
                have hDW := HDW.out
                refine ⟨hj.fr.then_ hfp (fun k hk h => by have h : k = D + 1 := h; omega), hj.bx.fr hfp n1, (hj.rel.frO hfp (fun g t cs hb _ h => hb.ne_of hj.lp (fun _ h => by cases h) h)).congr (fun i' hi' k hk => ?_), ?_, fun D' hD' => ?_⟩
                · rw [HBITS.out.list, mid_any]
                  by_cases e2 : i' = i
                  · subst e2
                    simp
                  · have e3 : decide (i' < i + 1) = decide (i' < i) := decide_eq_decide.2 (by omega)
                    simp [e2, e3]
                · rw [List.nodup_cons]
                  refine ⟨fun hD' => ?_, HY.out.nd⟩
                  have h := (Array.getElem?_eq_some_iff.1 (HY.out.ds D hD').2).1
                  omega
                · rcases List.mem_cons.1 hD' with e | hD'
                  · subst e
                    exact ⟨by omega, (World.putObj_heap_other (by omega)).trans hj.df⟩
                  · refine ⟨(HY.out.ds D' hD').1, (World.putObj_heap_other ?_).trans (hj.ds D' hD')⟩
                    have h := (Array.getElem?_eq_some_iff.1 (HY.out.ds D' hD').2).1
                    omega
              show Exit.inBlock 2 _ .normal _ (V.putObj (D + 1) (.loop (rec .exhausted none)))
              generalize (V.putObj (D + 1) (.loop (rec .exhausted none))) = V3 at hfp NEXT ⊢
              clear hv hj hfp n1 hf1 hl1 hd1 hfW1 hfw J0 hfA hb4 hsA hD hD1 hT1 hW1 e2
              gi_wp2_with fail
              exact ⟨gk - 1, by omega, hJ _ _ _ ⟨i + 1, D :: Ds, _, _, _, _, _, _, _, _, _, _, _, _, _, _, _, _, _, _, _, _, _, _, _, _, _, _, _, _, _, _, _, _, _, _, _, _, _, _, _, _, _, _, _, _, _, _, _, _, _, _, _, _, _, _, by omega, NEXT.out, rfl⟩⟩
            · have hil : i = l := by omega
              have hnlt : ¬ (i : Int) < (l : Int) := by omega
              have cx : X.cell? ⟨w3.heap.size, 0, none⟩ = some (Ptr bk) := (HY.out.bx.cell 0).trans rfl
              have WR : Hid (Calls Tryd.prog 37 #[Ptr bk] X fun e w' => WriP l r2 (midB r ps r2 qs r) X e w') := written_any X bk l r2 W.heap.size _ hl2 (by omega) hs2 (HY.out.rel.congr (fun i' hi' k hk => by
                have : i' < i := by omega
                simp [this])) (HT1.out.fr HY.out.fr (fun h => h))
              clear hil hJ
              gi_wp2_with fail
              refine ⟨trivial, (callsIn_wide.2 WR.out).mono ?_⟩
              rintro e w4 ⟨A, m, c, rfl, hf4, hor⟩
              have hfw := HY.out.fr.trans hf4
              have hrt := HBT.out.fr hfw (fun h => h)
              have a0 : w4.cell? ⟨w.heap.size + 2, 0, none⟩ = some (.int .i64 0) := (hrt.cell 0).trans rfl
              have a1 : w4.cell? ⟨w.heap.size + 2, 1, none⟩ = some (.int .i64 0) := (hrt.cell 1).trans rfl
              have a2 : w4.cell? ⟨w.heap.size + 2, 2, none⟩ = some (.slice none 0 0) := (hrt.cell 2).trans rfl
              have f0 := hrt.frozen 0
              have f1 := hrt.frozen 1
              have f2 := hrt.frozen 2
              have HOR := Lib.hid hor
              have HRT := Lib.hid hrt
              have HWW : Hid (w.heap.size ≤ W.heap.size) := by have h1 := HF0.out.size; have h2 := HFW.out.size; show _ ≤ _; omega
              have HFT := Lib.hid ((HF0.out.trans HFW.out).trans hfw)
              have HDS : Hid (∀ D, D ∈ Ds → w.heap.size ≤ D ∧ w4.heap[D]? = some (.deferred (some []))) := fun D hD => by
                have h := HY.out.ds D hD
                have h1 := HWW.out
                exact ⟨by omega, (hf4.block D (Array.getElem?_eq_some_iff.1 h.2).1 (fun h => h)).trans h.2⟩
              have HLW : Hid (w.heap.size ≤ X.heap.size) := by have h1 := HWW.out; have h2 := HY.out.fr.size; show _ ≤ _; omega
              clear hfw hrt hor hf4 WR cx
              gi_wp2_with fail
              obtain ⟨hfin, horF⟩ := ans_store (w := w) (k := w.heap.size + 2) (Nat.le_add_right _ _) HFT.out HRT.out HOR.out HLW.out (.int .i64 l) (.int .i64 r2) (.slice A m c)
              have hrsF : Blk (((w4.setCell ⟨w.heap.size + 2, 0, none⟩ (.int .i64 l)).setCell ⟨w.heap.size + 2, 1, none⟩ (.int .i64 r2)).setCell ⟨w.heap.size + 2, 2, none⟩ (.slice A m c)) (w.heap.size + 2) 25 #[.int .i64 l, .int .i64 r2, .slice A m c] := ((HRT.out.set_ 0 (.int .i64 l)).set_ 1 (.int .i64 r2)).set_ 2 (.slice A m c)
              have hdsF : ∀ D, D ∈ Ds → (((w4.setCell ⟨w.heap.size + 2, 0, none⟩ (.int .i64 l)).setCell ⟨w.heap.size + 2, 1, none⟩ (.int .i64 r2)).setCell ⟨w.heap.size + 2, 2, none⟩ (.slice A m c)).heap[D]? = some (.deferred (some [])) := fun D hD => by
                have h := (HDS.out D hD).2
                have hne : D ≠ w.heap.size + 2 := fun e => by have e1 := HRT.out; rw [← e] at e1; unfold Blk at e1; rw [h] at e1; cases e1
                exact (Below.heap_setCell _ ⟨w.heap.size + 2, 2, none⟩ _ D hne).trans ((Below.heap_setCell _ ⟨w.heap.size + 2, 1, none⟩ _ D hne).trans ((Below.heap_setCell _ ⟨w.heap.size + 2, 0, none⟩ _ D hne).trans h))
              generalize (((w4.setCell ⟨w.heap.size + 2, 0, none⟩ (.int .i64 l)).setCell ⟨w.heap.size + 2, 1, none⟩ (.int .i64 r2)).setCell ⟨w.heap.size + 2, 2, none⟩ (.slice A m c)) = WF at hfin horF hrsF hdsF ⊢
              refine leaves_marks Ds WF HY.out.nd hdsF fun w' hf => ?_
              have hrs' := hrsF.fr hf (fun hD => by have h := hdsF _ hD; unfold Blk at hrsF; rw [h] at hrsF; cases hrsF)
              have g0 : w'.cell? ⟨w.heap.size + 2, 0, none⟩ = some (.int .i64 l) := (hrs'.cell 0).trans rfl
              have g1 : w'.cell? ⟨w.heap.size + 2, 1, none⟩ = some (.int .i64 r2) := (hrs'.cell 1).trans rfl
              have g2 : w'.cell? ⟨w.heap.size + 2, 2, none⟩ = some (.slice A m c) := (hrs'.cell 2).trans rfl
              refine ⟨.tuple #[RV l r2 A m c, .bool true], by simp [results, Tryd.results16, go_sem, g0, g1, g2], ?_⟩
              rw [joinO_yes HOK.out]
              exact ⟨A, m, c, rfl, hfin.then_ hf (fun k hk hD => by have := (HDS.out k hD).1; omega), horF.fr hf (fun k hk hD => horF.notAt (hdsF k hD) (fun _ h => by cases h) hk)⟩
        · have hne : ((r : Int) != (lb : Int)) = true := by simp; omega
          have HE := Lib.hid (FAIL.out (fun h => heq (by have := h.2.2; omega)))
          clear FAIL heq relA relB hokA hokB
          gi_wp2_with fail
          exact ⟨.tuple #[RV 0 0 none 0 0, .bool false], by simp [results, Tryd.results16, go_sem, a0, a1, a2], HE.out⟩
      · have HE := Lib.hid (FAIL.out (fun h => hno h.2.1))
        clear FAIL hno relA hokA
        gi_wp2_with fail
        exact ⟨.tuple #[RV 0 0 none 0 0, .bool false], by simp [results, Tryd.results16, go_sem, a0, a1, a2], HE.out⟩
    · have HE := Lib.hid (FAIL.out (fun h => hno h.1))
      clear FAIL hno hb
      gi_wp2_with fail
      exact ⟨.tuple #[RV 0 0 none 0 0, .bool false], by simp [results, Tryd.results16, go_sem, a0, a1, a2], HE.out⟩
  have hD : Fr No W0 W0.drew := (Fr.refl _ _).drew
  obtain ⟨y0, y1, y2, y3, y4, y5⟩ := CC.out W0 (Fr.refl _ _)
  refine wpIn_wide.2 ?_
  refine wp_region_noPanic ?_
  refine wp_region_held_drew (S := (fun w' => w'.cell? ⟨w.heap.size, 0, none⟩ = some (.int .i64 L) ∧ w'.cell? ⟨w.heap.size, 1, none⟩ = some (.int .i64 R) ∧ w'.cell? ⟨w.heap.size, 2, none⟩ = some (.slice A0 ps.length c0) ∧ w'.cell? ⟨w.heap.size + 1, 0, none⟩ = some (.int .i64 L2) ∧ w'.cell? ⟨w.heap.size + 1, 1, none⟩ = some (.int .i64 R2) ∧ w'.cell? ⟨w.heap.size + 1, 2, none⟩ = some (.slice A1 qs.length c1))) (by kernel_rfl) ?hS (fun hHeld => ?_)
  case hS => exact ⟨y0, y1, y2, y3, y4, y5⟩
  refine wpAnyH_take (i := 0) (v := ?v0) (by simp only [List.getElem?_toArray, List.getElem?_cons_zero]; rfl) (by kernel_rfl) (by kernel_rfl) (by kernel_rfl) (by exact fun _ _ _ h => h) (Or.inl ⟨by rfl, ?hy0⟩) (by assumption) ?rest0
  case hy0 => (intro w hSw; (try dsimp only at hSw); go_simp; try with_reducible rfl)
  ((try simp only [Act.put]); (try simp only [List.setIfInBounds_toArray]); (try simp only [List.set_cons_succ]); (try simp only [List.set_cons_zero]))
  refine wpAnyH_take (i := 2) (v := ?v2) (by simp only [List.getElem?_toArray, List.getElem?_cons_succ, List.getElem?_cons_zero]; rfl) (by kernel_rfl) (by kernel_rfl) (by kernel_rfl) (by exact fun _ _ _ h => h) (Or.inl ⟨by rfl, ?hy2⟩) (by assumption) ?rest2
  case hy2 => (intro w hSw; (try dsimp only at hSw); go_simp; try with_reducible rfl)
  ((try simp only [Act.put]); (try simp only [List.setIfInBounds_toArray]); (try simp only [List.set_cons_succ]); (try simp only [List.set_cons_zero]))
  refine wpAnyH_ready (rs := [1, 4]) (by kernel_rfl) (by simp) ?_
  refine AllReadyH.cons rfl (fun K hK => ?_) (AllReadyH.cons rfl (fun K hK => ?_) AllReadyH.nil)
  · go_simp
    refine (READA.out _ hD).mono ?_
    rintro e w1 ⟨v1, rfl, s1, HA⟩
    have t1 := hD.trans s1
    refine hK.out _ _ (CC.out w1 t1) (fun hHa => ?_)
    clear hK K
    ((try simp only [Act.put]); (try simp only [List.setIfInBounds_toArray]); (try simp only [List.set_cons_succ]); (try simp only [List.set_cons_zero]))
    refine wpAnyH_ready (rs := [3, 4]) (by kernel_rfl) (by simp) ?_
    refine AllReadyH.cons rfl (fun K hK => ?_) (AllReadyH.cons rfl (fun K hK => ?_) AllReadyH.nil)
    · go_simp
      refine (READB.out _ t1).mono ?_
      rintro e w2 ⟨p2, rfl, s2, HB⟩
      have t2 := t1.trans s2
      refine hK.out _ _ (CC.out w2 t2) (fun hHb => ?_)
      clear hK K
      ((try simp only [Act.put]); (try simp only [List.setIfInBounds_toArray]); (try simp only [List.set_cons_succ]); (try simp only [List.set_cons_zero]))
      refine wpAnyH_ready (rs := [4]) (by kernel_rfl) (by simp) ?_
      refine AllReadyH.cons rfl (fun K hK => ?_) AllReadyH.nil
      go_simp
      have t3 := t2.alloc (.cells #[.pointer none] 49)
      refine hK.out _ _ (CC.out _ t3) (fun hHc => ?_)
      clear hK K
      ((try simp only [Act.put]); (try simp only [List.setIfInBounds_toArray]); (try simp only [List.set_cons_succ]); (try simp only [List.set_cons_zero]))
      have HA2 := Lib.hid ((HA.out.no s2).no ((Fr.refl No w2).alloc (.cells #[.pointer none] 49)))
      have HB2 := Lib.hid (HB.out.no ((Fr.refl No w2).alloc (.cells #[.pointer none] 49)))
      have T9 := Lib.hid t3
      have hlo9 : W0.heap.size ≤ w2.heap.size := t2.size
      have HK : Hid (Blk (w2.alloc (.cells #[.pointer none] 49)) (w2.heap.size) 49 #[.pointer none]) := Blk.new _ _ _
      generalize w2.alloc (.cells #[.pointer none] 49) = wl at *
      have g0 : wl.cell? ⟨w2.heap.size, 0, none⟩ = some (.pointer none) := (HK.out.cell 0).trans rfl
      have g1 : wl.frozen? ⟨w2.heap.size, 0, none⟩ = false := HK.out.frozen 0
      have g2 := HK.out.lt
      have hfs : Fr (One (w2.heap.size)) wl (wl.setCell ⟨w2.heap.size, 0, none⟩ (.pointer p2)) := (Fr.refl (One (w2.heap.size)) _).setCell (p := ⟨w2.heap.size, 0, none⟩) (.inl rfl) (.pointer p2)
      have t5 : Fr No W0 (wl.setCell ⟨w2.heap.size, 0, none⟩ (.pointer p2)) := T9.out.then_ hfs (fun k hk h => by have h : k = w2.heap.size := h; omega)
      refine wpAnyH_take (i := 5) (v := ?va5) (by simp only [List.getElem?_toArray, List.getElem?_cons_succ, List.getElem?_cons_zero]; rfl) (by kernel_rfl) (by kernel_rfl) (by kernel_rfl) (by exact fun _ _ _ h => h) (Or.inl ⟨by rfl, ?hya5⟩) (by assumption) ?resta5
      case hya5 => (intro w hSw; (try dsimp only at hSw); go_simp; try with_reducible rfl)
      ((try simp only [Act.put]); (try simp only [List.setIfInBounds_toArray]); (try simp only [List.set_cons_succ]); (try simp only [List.set_cons_zero]))
      refine wpAnyH_ready (rs := [6]) (by kernel_rfl) (by simp) ?_
      refine AllReadyH.cons rfl (fun K hK => ?_) AllReadyH.nil
      go_simp
      refine hK.out _ _ (CC.out _ t5) (fun hHd => ?_)
      clear hK K
      ((try simp only [Act.put]); (try simp only [List.setIfInBounds_toArray]); (try simp only [List.set_cons_succ]); (try simp only [List.set_cons_zero]))
      refine wpAnyH_done (by kernel_rfl) ?_ _
      refine NoPanic.normal ?_
      refine REST.out _ v1 (.pointer p2) _ _ _ _ _ t5 ?_ ?_ ?_ ?_
      · have h := HK.out.set_ 0 (.pointer p2); exact h
      · omega
      · exact HA2.out.k HK.out hfs
      · exact HB2.out.k HK.out hfs
    · go_simp
      have t3 := t1.alloc (.cells #[.pointer none] 49)
      refine hK.out _ _ (CC.out _ t3) (fun hHc => ?_)
      clear hK K
      ((try simp only [Act.put]); (try simp only [List.setIfInBounds_toArray]); (try simp only [List.set_cons_succ]); (try simp only [List.set_cons_zero]))
      refine wpAnyH_ready (rs := [3]) (by kernel_rfl) (by simp) ?_
      refine AllReadyH.cons rfl (fun K hK => ?_) AllReadyH.nil
      go_simp
      refine (READB.out _ t3).mono ?_
      rintro e w2 ⟨p2, rfl, s2, HB⟩
      have t2 := t3.trans s2
      refine hK.out _ _ (CC.out w2 t2) (fun hHb => ?_)
      clear hK K
      ((try simp only [Act.put]); (try simp only [List.setIfInBounds_toArray]); (try simp only [List.set_cons_succ]); (try simp only [List.set_cons_zero]))
      have HA2 := Lib.hid ((HA.out.no ((Fr.refl No w1).alloc (.cells #[.pointer none] 49))).no s2)
      have HB2 := Lib.hid (HB.out)
      have T9 := Lib.hid t2
      have hlo9 : W0.heap.size ≤ w1.heap.size := t1.size
      have HK : Hid (Blk (w2) (w1.heap.size) 49 #[.pointer none]) := (Blk.new w1 _ _).fr s2 (fun h => h)
      have g0 : (w2).cell? ⟨w1.heap.size, 0, none⟩ = some (.pointer none) := (HK.out.cell 0).trans rfl
      have g1 : (w2).frozen? ⟨w1.heap.size, 0, none⟩ = false := HK.out.frozen 0
      have g2 := HK.out.lt
      have hfs : Fr (One (w1.heap.size)) (w2) ((w2).setCell ⟨w1.heap.size, 0, none⟩ (.pointer p2)) := (Fr.refl (One (w1.heap.size)) _).setCell (p := ⟨w1.heap.size, 0, none⟩) (.inl rfl) (.pointer p2)
      have t5 : Fr No W0 ((w2).setCell ⟨w1.heap.size, 0, none⟩ (.pointer p2)) := T9.out.then_ hfs (fun k hk h => by have h : k = w1.heap.size := h; omega)
      refine wpAnyH_take (i := 5) (v := ?vb5) (by simp only [List.getElem?_toArray, List.getElem?_cons_succ, List.getElem?_cons_zero]; rfl) (by kernel_rfl) (by kernel_rfl) (by kernel_rfl) (by exact fun _ _ _ h => h) (Or.inl ⟨by rfl, ?hyb5⟩) (by assumption) ?restb5
      case hyb5 => (intro w hSw; (try dsimp only at hSw); go_simp; try with_reducible rfl)
      ((try simp only [Act.put]); (try simp only [List.setIfInBounds_toArray]); (try simp only [List.set_cons_succ]); (try simp only [List.set_cons_zero]))
      refine wpAnyH_ready (rs := [6]) (by kernel_rfl) (by simp) ?_
      refine AllReadyH.cons rfl (fun K hK => ?_) AllReadyH.nil
      go_simp
      refine hK.out _ _ (CC.out _ t5) (fun hHd => ?_)
      clear hK K
      ((try simp only [Act.put]); (try simp only [List.setIfInBounds_toArray]); (try simp only [List.set_cons_succ]); (try simp only [List.set_cons_zero]))
      refine wpAnyH_done (by kernel_rfl) ?_ _
      refine NoPanic.normal ?_
      refine REST.out _ v1 (.pointer p2) _ _ _ _ _ t5 ?_ ?_ ?_ ?_
      · have h := HK.out.set_ 0 (.pointer p2); exact h
      · omega
      · exact HA2.out.k HK.out hfs
      · exact HB2.out.k HK.out hfs
  · go_simp
    have t3 := hD.alloc (.cells #[.pointer none] 49)
    refine hK.out _ _ (CC.out _ t3) (fun hHc => ?_)
    clear hK K
    ((try simp only [Act.put]); (try simp only [List.setIfInBounds_toArray]); (try simp only [List.set_cons_succ]); (try simp only [List.set_cons_zero]))
    refine wpAnyH_ready (rs := [1]) (by kernel_rfl) (by simp) ?_
    refine AllReadyH.cons rfl (fun K hK => ?_) AllReadyH.nil
    go_simp
    refine (READA.out _ t3).mono ?_
    rintro e w1 ⟨v1, rfl, s1, HA⟩
    have t1 := t3.trans s1
    refine hK.out _ _ (CC.out w1 t1) (fun hHa => ?_)
    clear hK K
    ((try simp only [Act.put]); (try simp only [List.setIfInBounds_toArray]); (try simp only [List.set_cons_succ]); (try simp only [List.set_cons_zero]))
    refine wpAnyH_ready (rs := [3]) (by kernel_rfl) (by simp) ?_
    refine AllReadyH.cons rfl (fun K hK => ?_) AllReadyH.nil
    go_simp
    refine (READB.out _ t1).mono ?_
    rintro e w2 ⟨p2, rfl, s2, HB⟩
    have t2 := t1.trans s2
    refine hK.out _ _ (CC.out w2 t2) (fun hHb => ?_)
    clear hK K
    ((try simp only [Act.put]); (try simp only [List.setIfInBounds_toArray]); (try simp only [List.set_cons_succ]); (try simp only [List.set_cons_zero]))
    have HA2 := Lib.hid (HA.out.no s2)
    have HB2 := Lib.hid (HB.out)
    have T9 := Lib.hid t2
    have hlo9 : W0.heap.size ≤ W0.heap.size := Nat.le_refl _
    have HK : Hid (Blk (w2) (W0.heap.size) 49 #[.pointer none]) := ((Blk.new W0.drew _ _).fr s1 (fun h => h)).fr s2 (fun h => h)
    have g0 : (w2).cell? ⟨W0.heap.size, 0, none⟩ = some (.pointer none) := (HK.out.cell 0).trans rfl
    have g1 : (w2).frozen? ⟨W0.heap.size, 0, none⟩ = false := HK.out.frozen 0
    have g2 := HK.out.lt
    have hfs : Fr (One (W0.heap.size)) (w2) ((w2).setCell ⟨W0.heap.size, 0, none⟩ (.pointer p2)) := (Fr.refl (One (W0.heap.size)) _).setCell (p := ⟨W0.heap.size, 0, none⟩) (.inl rfl) (.pointer p2)
    have t5 : Fr No W0 ((w2).setCell ⟨W0.heap.size, 0, none⟩ (.pointer p2)) := T9.out.then_ hfs (fun k hk h => by have h : k = W0.heap.size := h; omega)
    refine wpAnyH_take (i := 5) (v := ?vc5) (by simp only [List.getElem?_toArray, List.getElem?_cons_succ, List.getElem?_cons_zero]; rfl) (by kernel_rfl) (by kernel_rfl) (by kernel_rfl) (by exact fun _ _ _ h => h) (Or.inl ⟨by rfl, ?hyc5⟩) (by assumption) ?restc5
    case hyc5 => (intro w hSw; (try dsimp only at hSw); go_simp; try with_reducible rfl)
    ((try simp only [Act.put]); (try simp only [List.setIfInBounds_toArray]); (try simp only [List.set_cons_succ]); (try simp only [List.set_cons_zero]))
    refine wpAnyH_ready (rs := [6]) (by kernel_rfl) (by simp) ?_
    refine AllReadyH.cons rfl (fun K hK => ?_) AllReadyH.nil
    go_simp
    refine hK.out _ _ (CC.out _ t5) (fun hHd => ?_)
    clear hK K
    ((try simp only [Act.put]); (try simp only [List.setIfInBounds_toArray]); (try simp only [List.set_cons_succ]); (try simp only [List.set_cons_zero]))
    refine wpAnyH_done (by kernel_rfl) ?_ _
    refine NoPanic.normal ?_
    refine REST.out _ v1 (.pointer p2) _ _ _ _ _ t5 ?_ ?_ ?_ ?_
    · have h := HK.out.set_ 0 (.pointer p2); exact h
    · omega
    · exact HA2.out.k HK.out hfs
    · exact HB2.out.k HK.out hfs
end Go.Proofs.YticoeooeeejboaaDoor
