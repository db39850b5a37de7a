/- The model's renaming: terms that have parts. -/
import Derived.Test.YthbidlcfahdfhaaDoorS2rn
import Derived.Deep.RegionHeld3
import Derived.Deep.RegionWith
namespace Go.Proofs.YthbidlcfahdfhaaDoor
open Go.RowKit Go.ChangeMaps

set_option maxRecDepth 100000 in
set_option maxHeartbeats 4000000 in
theorem rf_node (h : List UInt8) (k0 r : Fo) (hN : ∀ a' k' j, (Fo.cons h k0 r).nth j = some (a', k') → RfSaid k') (A : Option Addr) (c : Nat) (w : World) (T : Nat → Prop) (mm : Nat) (NA : Option Addr) (nc : Nat) (tk : List (List UInt8)) (g : Nat) (VF : Option Addr) (vf : Nat) (fr : List (List UInt8)) (VT : Option Addr) (vt : Nat) (to : List (List UInt8))
    (htm : isTms none (.cons h k0 r) = true) (hwf : (Fo.cons h k0 r).wf) (hs : (Fo.cons h k0 r).size ≤ 5000) (hft : fr.length = to.length) (hfs : fr.length + (Fo.cons h k0 r).size ≤ 10000) (hT : ∀ b, T b → b < w.heap.size ∧ b ≠ mm) (hA : Sl w T A (.cons h k0 r))
    (hnm : NmC w mm NA tk.length nc g) (hx : SSl w NA tk) (hNA : ∀ b o, NA = some ⟨b, o, none⟩ → b ≠ mm) (htl : tk.length ≤ 1000) (hF : BSl w VF fr) (hFm : ∀ b o, VF = some ⟨b, o, none⟩ → b ≠ mm) (hTo : BSl w VT to) (hTm : ∀ b o, VT = some ⟨b, o, none⟩ → b ≠ mm)
    (hend : (rnF tk (.cons h k0 r) (.top fr to) g).2 ≤ 4000) :
    Calls Tryd.prog 61 #[.agg #[S [], .slice A (Fo.cons h k0 r).len c], .slice VF fr.length vf, .slice VT to.length vt, Ptr mm] w fun e w' => RfP tk mm NA nc T [] (rnF tk (.cons h k0 r) (.top fr to) g).1 (rnF tk (.cons h k0 r) (.top fr to) g).2 w e w' := by
  have HN := Lib.hid hN
  clear hN
  simp only [isTms, Bool.and_eq_true] at htm
  obtain ⟨hsn, htm⟩ := htm
  have hrl := isTms_len _ _ htm
  have hsl := shape_short h
  have hs1 : 1 ≤ (shapeOf h).length := by
    cases hq : shapeOf h with
    | nil => rw [hq] at hsn; cases hsn
    | cons => simp
  have hne : shapeOf h ≠ [] := by intro e; rw [e] at hs1; simp at hs1
  have HTMS := Lib.hid htm
  clear htm hsn
  have hrz : 1 + r.size ≤ (Fo.cons h k0 r).size := by
    simp only [Fo.size, if_neg (shape_head hne).1]
    omega
  obtain ⟨n, nk, r', HR⟩ : ∃ n nk r', Hid (r = .cons n nk r') := by
    cases r with
    | nil => simp [Fo.len] at hrl; omega
    | cons n nk r' => exact ⟨n, nk, r', rfl⟩
  have hn1 : Hid (hd1 r = n) := by rw [HR.out]; exact rfl
  obtain ⟨m, HM⟩ : ∃ m, Hid (m = (shapeOf h).length) := ⟨_, rfl⟩
  obtain ⟨L, HL⟩ : ∃ L, Hid ((Fo.cons h k0 r).len = L) := ⟨_, rfl⟩
  have HLM : Hid (L = m + 1) := by
    have h1 := HL.out
    have h2 := HM.out
    show L = m + 1
    simp only [Fo.len] at h1
    omega
  have HRL : Hid (r.len = m) := by
    have h2 := HM.out
    show r.len = m
    omega
  rw [← HM.out] at hsl hs1
  have hL4 : (L : Int) ≤ 4 := by have := HLM.out; omega
  have hL1 : (1 : Int) ≤ (L : Int) := by have := HLM.out; omega
  rw [HL.out]
  clear hrl
  obtain ⟨gA, oA, ys, rfl, hgT, hel, hcs⟩ : ∃ b o ys, A = some ⟨b, o, none⟩ ∧ T b ∧ Elems w T (.cons h k0 r) ys ∧ ∀ j u, ys[j]? = some u → w.cell? ⟨b, o + j, none⟩ = some u := by
    rcases hA with h0 | h0
    · simp [Fo.len] at h0
    · exact h0
  have hmw := hnm.lt
  have HWF := Lib.hid hwf
  have HSZ := Lib.hid hs
  have HFT := Lib.hid hft
  have HFS := Lib.hid hfs
  have HT := Lib.hid hT
  have HA := Lib.hid hA
  have HNM := Lib.hid hnm
  have HX := Lib.hid hx
  have HNA := Lib.hid hNA
  have HTL := Lib.hid htl
  have HF := Lib.hid hF
  have HFM := Lib.hid hFm
  have HTO := Lib.hid hTo
  have HTM := Lib.hid hTm
  obtain ⟨F0, HF0⟩ : ∃ z, Hid (rnF tk (.cons h k0 r) (.top fr to) g = z) := ⟨_, rfl⟩
  rw [HF0.out] at hend ⊢
  have HEND := Lib.hid hend
  obtain ⟨l, HLN⟩ : ∃ l, Hid (tk.length = l) := ⟨_, rfl⟩
  obtain ⟨nf, HNF⟩ : ∃ nf, Hid (fr.length = nf) := ⟨_, rfl⟩
  have HNT : Hid (to.length = nf) := by show _ = _; rw [← HFT.out, HNF.out]
  rw [HNF.out, HNT.out]
  have b0 := Blk.new w 36 #[S [], .slice (some ⟨gA, oA, none⟩) L c]
  -- the copy of the parts
  obtain ⟨i0, hi0, hz0, hz1, hz2⟩ := info_parts info_tree
  have hyl := hel.length
  have HO : Hid (∀ (o o' : Obj), ((((w.alloc o).alloc o').alloc (.cells #[] 36))).ownsRow (w.heap.size + 2) 36 2 (.slice (some ⟨w.heap.size + 2, 0, none⟩) 0 0) 0 []) := by
    intro o o'
    refine ⟨rfl, .inr ⟨w.heap.size + 2, 0, #[], rfl, Nat.le_refl _, ?_, Nat.le_refl _, Nat.zero_le _, rfl, rfl⟩⟩
    have := heap_alloc_new ((w.alloc o).alloc o') (.cells #[] 36)
    simpa using this
  have HC1 : Hid (∀ (o o' o2 : Obj) (j : Nat) (u : Value), ys[j]? = some u → (((w.alloc o).alloc o').alloc o2).cell? ((⟨gA, oA, none⟩ : Addr).add j) = some u) := by
    intro o o' o2 j u hj
    rw [addr_add]
    have hf : Fr No w (((w.alloc o).alloc o').alloc o2) := (((Fr.refl _ w).alloc o).alloc o').alloc o2
    exact (hf.cell (p := ⟨gA, oA + j, none⟩) (hT gA hgT).1 (fun h => h)).trans (hcs j u hj)
  have HC2 : Hid (∀ u ∈ ys, u.oneCell' = true) := hel.one
  have HYL : Hid (ys.length = L * 2) := by show _ = _; rw [hyl, HL.out]
  have bnd : (0 + L) * 40 ≤ 140737488355328 := by omega
  have bnd2 : 0 + L ≤ maxLen := by unfold maxLen; omega
  have HC5 : Hid (∀ (o o' o2 : Obj), w.heap.size + 2 ≤ (((w.alloc o).alloc o').alloc o2).heap.size) := fun o o' o2 => by simp
  have HEL := Lib.hid hel
  have ARM : Hid (∀ (V : Value) (v' : Value) (w2 : World), V = .slice (some ⟨w.heap.size + 1 + 1, 0, none⟩) 0 0 → w2.ownsRow (w.heap.size + 2) 36 2 v' (0 + L) ([] ++ ys) → (((w.alloc (.cells #[S [], .slice (some ⟨gA, oA, none⟩) L c] 36)).alloc (.cells #[S [], .slice none 0 0] 36)).alloc (.cells #[] 36)).grownBy w2 V.ownBlock →
      ∃ G cc, v' = .slice (some ⟨G, 0, none⟩) L cc ∧ Hid (Fr No w (w2.alloc (.cells #[.string ⟨#[]⟩, .slice (some ⟨G, 0, none⟩) L cc] 36))) ∧ Hid (RF w mm T (.cons h k0 r) G cc L w2.heap.size (some ⟨gA, oA, none⟩) c (w2.alloc (.cells #[.string ⟨#[]⟩, .slice (some ⟨G, 0, none⟩) L cc] 36)))) := by
    intro V v' w2 hV hown hg
    subst hV
    rw [Nat.zero_add, List.nil_append] at hown
    have hl0 : L ≠ 0 := by omega
    obtain ⟨G, cc, rfl⟩ : ∃ G cc, v' = .slice (some ⟨G, 0, none⟩) L cc := by
      rcases hown.2 with ⟨_, h0⟩ | ⟨G, cap, cur, hv, _⟩
      · exact absurd h0 hl0
      · exact ⟨G, cap, hv⟩
    have hGl := hown.lt G rfl
    have hf3 : Fr No w (((w.alloc (.cells #[S [], .slice (some ⟨gA, oA, none⟩) L c] 36)).alloc (.cells #[S [], .slice none 0 0] 36)).alloc (.cells #[] 36)) := (((Fr.refl _ w).alloc _).alloc _).alloc _
    have hf2 : Fr No w w2 := hf3.grown hg (fun b hb => .inr (by simp only [Value.ownBlock, Option.some.injEq] at hb; omega))
    have hsz := hg.size
    have hs3 : (((w.alloc (.cells #[S [], .slice (some ⟨gA, oA, none⟩) L c] 36)).alloc (.cells #[S [], .slice none 0 0] 36)).alloc (.cells #[] 36)).heap.size = w.heap.size + 3 := by simp
    have hfa : Fr No w (w2.alloc (.cells #[.string ⟨#[]⟩, .slice (some ⟨G, 0, none⟩) L cc] 36)) := hf2.alloc _
    refine ⟨G, cc, rfl, Lib.hid hfa, Lib.hid ?_⟩
    refine ⟨hfa.mono (fun _ _ h => h.elim), ?_, ?_, Blk.new _ _ _, ⟨ys, hown.alloc _, ?_⟩, HL.out, ⟨by omega, by omega⟩⟩
    · have h1 := ((Blk.new w 36 #[S [], .slice (some ⟨gA, oA, none⟩) L c]).alloc (.cells #[S [], .slice none 0 0] 36)).alloc (.cells #[] 36)
      exact (h1.keep (hg.block w.heap.size h1.lt (fun e => by simp only [Value.ownBlock, Option.some.injEq] at e; omega))).alloc _
    · have h1 := (Blk.new_at (w.alloc (.cells #[S [], .slice (some ⟨gA, oA, none⟩) L c] 36)) 36 #[S [], .slice none 0 0] (g := w.heap.size + 1) (by simp)).alloc (.cells #[] 36)
      exact (h1.keep (hg.block (w.heap.size + 1) h1.lt (fun e => by simp only [Value.ownBlock, Option.some.injEq] at e; omega))).alloc _
    · exact HEL.out.mono (fun b hb => .inl hb) (fun b hb => hfa.block b (HT.out b hb).1 (fun h => h))
  clear hwf hs hft hfs hT hA hnm hx hNA htl hF hFm hTo hTm hend hel hcs hyl hne
  go_enter Tryd.func61, Tryd.ntmps61
  go_wp2_with (at_builtin; go_must (refine wpList_append_own_at _ rfl _ _ 34 rfl (w.heap.size + 2) 36 i0 (.agg #[.string ⟨#[]⟩, .slice none 0 0]) 2 40 Tryd.underlying34 hi0 hz0 hz1 hz2 rfl (by decide) _ 0 [] rfl (HO.out _ _) ⟨gA, oA, none⟩ L c ys rfl HYL.out (HC1.out _ _ _) HC2.out bnd2 bnd (HC5.out _ _ _) ?_); intro v' w2 hown' hgrow _ hloc; obtain ⟨G, cc, rfl, HFW, HRF⟩ := ARM.out _ v' w2 rfl hown' hgrow; clear hown' hgrow hloc)
  obtain ⟨ob, hob⟩ : ∃ ob, ob = w2.heap.size := ⟨_, rfl⟩
  rw [← hob] at HRF ⊢
  generalize (w2.alloc (.cells #[.string ⟨#[]⟩, .slice (some ⟨G, 0, none⟩) L cc] 36)) = W at HRF HFW ⊢
  clear hob ARM HO HC1 HC2 HC5 HYL bnd bnd2 hi0 hz0 hz1 hz2 HEL
  have HNW : Hid (NmC W mm NA l nc g) := by
    have := HNM.out
    rw [HLN.out] at this
    exact this.fr HFW.out (fun h => h)
  have HS0 : Hid (F0 = ((Fo.cons h k0 .nil).app (rnF tk (r.from_ 0) (rmM fr to h n [] 0) g).1, (rnF tk (r.from_ 0) (rmM fr to h n [] 0) g).2)) := by
    show _ = _
    rw [← HF0.out, rm_start tk fr to h n [] k0 r g, Fo.from_zero]
    rfl
  go_loopw [11, 12] (fun v u wr => ∃ (j : Nat) (pre : Fo) (y : List UInt8) (gj : Nat), j ≤ m ∧ u = .int .i64 ((j + 1 : Nat) : Int) ∧ v = S y ∧ pre.len = j + 1 ∧ RF w mm T (pre.app (r.from_ j)) G cc L ob (some ⟨gA, oA, none⟩) c wr ∧ NmC wr mm NA l nc gj ∧
      F0 = (pre.app (rnF tk (r.from_ j) (rmM fr to h n y j) gj).1, (rnF tk (r.from_ j) (rmM fr to h n y j) gj).2)) (fun _ u _ => m + 1 - (intOf u).toNat)
  case atStart => exact ⟨0, .cons h k0 .nil, [], g, Nat.zero_le _, rfl, rfl, rfl, by rw [Fo.from_zero]; exact HRF.out, HNW.out, HS0.out⟩
  case round =>
    obtain ⟨j, pre, y, gj, hj, rfl, rfl, hpl, hrf, hnmj, hrel⟩ := hrel
    have HRJ := Lib.hid hrf
    have HNJ := Lib.hid hnmj
    have HREL := Lib.hid hrel
    have HPL := Lib.hid hpl
    clear hrf hnmj hrel hpl HNW HS0 HRF
    have ALLC : Hid (∀ w', Fr No wr w' → w'.cell? ⟨w.heap.size, 0, none⟩ = some (S []) ∧ w'.cell? ⟨w.heap.size, 1, none⟩ = some (.slice (some ⟨gA, oA, none⟩) L c) ∧ w.heap.size < w'.heap.size ∧ w'.cell? ⟨ob, 0, none⟩ = some (S []) ∧ w'.cell? ⟨ob, 1, none⟩ = some (.slice (some ⟨G, 0, none⟩) L cc) ∧ ob < w'.heap.size ∧
        w'.cell? ⟨w.heap.size + 1, 0, none⟩ = some (S []) ∧ w'.cell? ⟨w.heap.size + 1, 1, none⟩ = some (.slice none 0 0) ∧ w'.frozen? ⟨w.heap.size + 1, 0, none⟩ = false ∧ w'.frozen? ⟨w.heap.size + 1, 1, none⟩ = false ∧ w.heap.size + 1 < w'.heap.size) := by
      intro w' hf
      have d0 := HRJ.out.bx.fr hf (fun h => h)
      have d1 := HRJ.out.out.fr hf (fun h => h)
      have d2 := HRJ.out.rs.fr hf (fun h => h)
      exact ⟨(d0.cell 0).trans rfl, (d0.cell 1).trans rfl, d0.lt, (d1.cell 0).trans rfl, (d1.cell 1).trans rfl, d1.lt, (d2.cell 0).trans rfl, (d2.cell 1).trans rfl, d2.frozen 0, d2.frozen 1, d2.lt⟩
    obtain ⟨c0, c1, cl, o0, o1, ol, r0, r1, f0, f1, rl⟩ := ALLC.out wr (Fr.refl _ _)
    have hnG : w.heap.size ≠ G := by have := HRJ.out.gw; omega
    have hnO : ob ≠ G := HRJ.out.ne.2
    by_cases hlt : j < m
    · have hjc : (j : Int) + 1 < (L : Int) := by have := HLM.out; omega
      have hjn : j + 1 < L := by have := HLM.out; omega
      have hAr : Sl wr T (some ⟨gA, oA, none⟩) (.cons h k0 r) := HA.out.mono (fun _ h => h) (fun b hb => HRJ.out.fr.block b (HT.out b hb).1 (HT.out b hb).2)
      obtain ⟨g', o', a', k', A2, c2, hAe, hgT', hn, q0, q1, hsl'⟩ := hAr.nth (j := j + 1) (by rw [HL.out, HLM.out]; omega)
      obtain ⟨rfl, rfl⟩ : gA = g' ∧ oA = o' := by
        simp only [Option.some.injEq, Addr.mk.injEq, and_true] at hAe
        exact hAe
      have hnr : r.nth j = some (a', k') := hn
      have hlg := block_lt q0
      obtain ⟨b, hbj⟩ : ∃ b, (shapeOf h)[j]? = some b := ⟨_, List.getElem?_eq_getElem (by rw [← HM.out]; exact hlt)⟩
      have hok := isTms_at r _ j a' k' b HTMS.out hnr hbj
      have IN : Hid (Calls Tryd.prog 33 #[.agg #[S [], .slice (some ⟨gA, oA, none⟩) L c], .int .i64 ((j + 1 : Nat) : Int)] wr fun e w' => e = .returned (.bool b) ∧ Fr No wr w') :=
        HL.out ▸ inner_any wr T [] h k0 r _ c (j + 1) b (by omega) hbj hAr
      have hfj := Fo.from_nth r j a' k' hnr
      have HRJ1 : Hid (RF w mm T (pre.app (.cons a' k' (r.from_ (j + 1)))) G cc L ob (some ⟨gA, oA, none⟩) c wr) := by
        have := HRJ.out
        rw [hfj] at this
        exact this
      cases b
      · obtain ⟨hbb, hj0⟩ := shape_false hbj
        have hE := HREL.out
        rw [hj0] at hE
        have hnr0 := hnr
        rw [hj0] at hnr0
        have han : a' = n := by
          have h1 := hn1.out
          cases hr : r with
          | nil => rw [hr] at hnr0; cases hnr0
          | cons x y z =>
            rw [hr] at hnr0 h1
            simp only [Fo.nth, Option.some.injEq, Prod.mk.injEq] at hnr0
            rw [← hnr0.1, ← h1]
            rfl
        rw [rm_name tk fr to hbb hnr0 gj, han] at hE
        have hfs : fsh tk gj + 1 ≤ 4000 := by
          have h1 := HEND.out
          rw [hE] at h1
          have h2 := rnF_mono tk (r.from_ 1) (rmM fr to h n (xnm (fsh tk gj)) 1) (fsh tk gj + 1)
          exact Nat.le_trans h2 h1
        have HE := Lib.hid hE
        have HJ0 := Lib.hid hj0
        have FRS : Hid (∀ w', Fr No wr w' → Calls Tryd.prog 78 #[Ptr mm] w' fun e w3 => e = .returned (S (xnm (fsh tk gj))) ∧ Fr (One mm) wr w3 ∧ NmC w3 mm NA l nc (fsh tk gj + 1)) := by
          intro w' hf
          refine (fresh2_any w' mm NA nc gj tk (by rw [HLN.out]; exact HNJ.out.fr hf (fun h => h)) ((HX.out.frT HRJ.out.fr (fun b o e h => HNA.out b o e h)).frT hf (fun _ _ _ h => h)) HNA.out HTL.out (by omega)).mono ?_
          rintro e w3 ⟨rfl, g1, g2⟩
          rw [HLN.out] at g2
          exact ⟨rfl, (hf.mono (fun _ _ h => h.elim)).trans g1, g2⟩
        have PUT : Hid (∀ w3, Fr (One mm) wr w3 → NmC w3 mm NA l nc (fsh tk gj + 1) → (∃ u v, w3.cell? ⟨G, (j + 1) * 2, none⟩ = some u ∧ w3.cell? ⟨G, (j + 1) * 2 + 1, none⟩ = some v ∧ w3.frozen? ⟨G, (j + 1) * 2, none⟩ = false ∧ w3.frozen? ⟨G, (j + 1) * 2 + 1, none⟩ = false ∧ G < w3.heap.size) ∧ w3.cell? ⟨ob, 1, none⟩ = some (.slice (some ⟨G, 0, none⟩) L cc) ∧ ob < w3.heap.size ∧
            RF w mm T ((pre.snoc (xnm (fsh tk gj)) .nil).app (r.from_ (j + 1))) G cc L ob (some ⟨gA, oA, none⟩) c ((w3.setCell ⟨G, (j + 1) * 2, none⟩ (S (xnm (fsh tk gj)))).setCell ⟨G, (j + 1) * 2 + 1, none⟩ (.slice none 0 0)) ∧
            NmC ((w3.setCell ⟨G, (j + 1) * 2, none⟩ (S (xnm (fsh tk gj)))).setCell ⟨G, (j + 1) * 2 + 1, none⟩ (.slice none 0 0)) mm NA l nc (fsh tk gj + 1)) := by
          intro w3 hf hn3
          have h3 := HRJ1.out.keep hmw HT.out hf
          have hg := h3.gw
          have hp := h3.put (a' := xnm (fsh tk gj)) (k' := .nil) (A' := none) (c' := 0) HT.out (.inl rfl)
          rw [HPL.out] at hp
          exact ⟨h3.slot hjn, (h3.out.cell 1).trans rfl, h3.out.lt, hp, (hn3.far (p := ⟨G, (j + 1) * 2, none⟩) (by show mm ≠ G; omega) _).far (p := ⟨G, (j + 1) * 2 + 1, none⟩) (by show mm ≠ G; omega) _⟩
        clear hE hnr0 han hfs hok hbj hnr hn hfj hAr hAe hsl' hbb hj0
        go_wp2_with fail
        refine IN.out.mono ?_
        rintro e w1 ⟨rfl, hf1⟩
        have HF1 := Lib.hid hf1
        clear hf1
        go_wp2_with fail
        refine (FRS.out _ HF1.out).mono ?_
        rintro e w3 ⟨rfl, hf3, hn3⟩
        obtain ⟨⟨u, v, s0, s1, s2, s3, s4⟩, t1, t2, t3, t4⟩ := PUT.out w3 hf3 hn3
        have T3 := Lib.hid t3
        have T4 := Lib.hid t4
        clear hf3 hn3 t3 t4
        go_wp2_with fail
        go_roundw
        case rel => exact ⟨j + 1, pre.snoc (xnm (fsh tk gj)) .nil, xnm (fsh tk gj), _, by omega, by go_num, rfl, by rw [Fo.len_snoc, HPL.out], T3.out, T4.out, by rw [HJ0.out, Fo.snoc_app]; exact HE.out⟩
        case measure => simp [intOf]; omega
      · obtain ⟨bn, hbn⟩ : ∃ z, bndB h n (j + 1) = z := ⟨_, rfl⟩
        have BD : Hid (∀ w', Fr No wr w' → Calls Tryd.prog 58 #[.agg #[S [], .slice (some ⟨gA, oA, none⟩) L c], .int .i64 ((j + 1 : Nat) : Int)] w' fun e w2 => e = .returned (S bn) ∧ Fr No wr w2 ∧ (∀ W0, Fr No W0 w' → Fr No W0 w2) ∧ (∀ p v, w'.cell? p = some v → w2.cell? p = some v)) := fun w' hf => by
          have h1 := hAr.fr (fun b hb => Nat.lt_of_lt_of_le (HT.out b hb).1 HRJ.out.fr.size) hf
          have h3 : Calls Tryd.prog 58 #[.agg #[S [], .slice (some ⟨gA, oA, none⟩) L c], .int .i64 ((j + 1 : Nat) : Int)] w' fun e w2 => e = .returned (S (bndB h n (j + 1))) ∧ Fr No w' w2 := by
            have hr := HR.out
            have h2 := HL.out
            rw [hr] at h1 h2
            rw [← h2]
            exact bound_any w' T [] h n k0 nk r' _ c (j + 1) h1
          refine h3.mono ?_
          rintro e w2 ⟨rfl, hf2⟩
          exact ⟨by rw [hbn], hf.trans hf2, fun _ h => h.trans hf2, fun p v h => (hf2.cell (World.block_lt_of_cell? _ _ h) (fun h => h)).trans h⟩
        obtain ⟨FF, hFF⟩ : ∃ z, z = if bn = [] then fr else fr ++ [bn] := ⟨_, rfl⟩
        obtain ⟨TT, hTT⟩ : ∃ z, z = if bn = [] then to else to ++ [y] := ⟨_, rfl⟩
        have hnn : bindsB h = true → n ≠ [] := fun hb => by
          have := bind_name hb HTMS.out
          rw [hn1.out] at this
          exact (name_bytes this).1
        have hkid := rm_kid tk fr to (b := n) (y := y) hbj hnn hnr gj FF TT (by rw [hbn]; exact hFF) (by rw [hbn]; exact hTT)
        have hE := HREL.out
        rw [hkid] at hE
        obtain ⟨K2, G2, hKG⟩ : ∃ K2 G2, rnR tk a' k' FF TT gj = (K2, G2) := ⟨_, _, rfl⟩
        rw [hKG] at hE
        have hG2 : G2 ≤ 4000 := by
          have h1 := HEND.out
          rw [hE] at h1
          have h2 := rnF_mono tk (r.from_ (j + 1)) (rmM fr to h n y (j + 1)) G2
          exact Nat.le_trans h2 h1
        obtain ⟨hw1, hw2⟩ := Fo.wf_nth r j a' k' HWF.out.2.2 hnr
        have hz := Fo.nth_size hnr
        have HE : Hid (F0 = ((pre.snoc (rnA FF TT a') K2).app (rnF tk (r.from_ (j + 1)) (rmM fr to h n y (j + 1)) G2).1, (rnF tk (r.from_ (j + 1)) (rmM fr to h n y (j + 1)) G2).2)) := by
          show _ = _
          rw [Fo.snoc_app]
          exact hE
        -- the part renamed, and put into the row
        have CALL : Hid (∀ (w' : World) (ZF : Option Addr) (zf : Nat) (ZT : Option Addr) (zt : Nat), Fr No wr w' → BSl w' ZF FF → (∀ b o, ZF = some ⟨b, o, none⟩ → b ≠ mm) → BSl w' ZT TT → (∀ b o, ZT = some ⟨b, o, none⟩ → b ≠ mm) →
            Calls Tryd.prog 61 #[.agg #[S a', .slice A2 k'.len c2], .slice ZF FF.length zf, .slice ZT TT.length zt, Ptr mm] w' fun e w3 => ∃ A5 c5, e = .returned (.agg #[S (rnA FF TT a'), .slice A5 K2.len c5]) ∧
              (∃ u v, w3.cell? ⟨G, (j + 1) * 2, none⟩ = some u ∧ w3.cell? ⟨G, (j + 1) * 2 + 1, none⟩ = some v ∧ w3.frozen? ⟨G, (j + 1) * 2, none⟩ = false ∧ w3.frozen? ⟨G, (j + 1) * 2 + 1, none⟩ = false ∧ G < w3.heap.size ∧ w3.cell? ⟨ob, 1, none⟩ = some (.slice (some ⟨G, 0, none⟩) L cc) ∧ ob < w3.heap.size ∧ w3.cell? ⟨w.heap.size, 0, none⟩ = some (S []) ∧ w3.cell? ⟨w.heap.size, 1, none⟩ = some (.slice (some ⟨gA, oA, none⟩) L c) ∧ w3.cell? ⟨gA, oA + (j + 1) * 2, none⟩ = some (S a') ∧ w3.cell? ⟨gA, oA + (j + 1) * 2 + 1, none⟩ = some (.slice A2 k'.len c2)) ∧
              Hid (RF w mm T ((pre.snoc (rnA FF TT a') K2).app (r.from_ (j + 1))) G cc L ob (some ⟨gA, oA, none⟩) c ((w3.setCell ⟨G, (j + 1) * 2, none⟩ (S (rnA FF TT a'))).setCell ⟨G, (j + 1) * 2 + 1, none⟩ (.slice A5 K2.len c5)) ∧
              NmC ((w3.setCell ⟨G, (j + 1) * 2, none⟩ (S (rnA FF TT a'))).setCell ⟨G, (j + 1) * 2 + 1, none⟩ (.slice A5 K2.len c5)) mm NA l nc G2)) := by
          intro w' ZF zf ZT zt hf hzf hzfm hzt hztm
          have hfw := HRJ.out.fr.then_ hf (fun _ _ h => h.elim)
          have hfl : FF.length ≤ fr.length + 1 := by rw [hFF]; split <;> simp
          have hcall := HN.out a' k' (j + 1) hn a' A2 c2 w' T mm NA nc tk gj ZF zf FF ZT zt TT hok hw1 hw2 (by have := HSZ.out; omega) (by rw [hFF, hTT]; split <;> simp [HFT.out]) (by have := HFS.out; omega) (fun b hb => ⟨Nat.lt_of_lt_of_le (HT.out b hb).1 hfw.size, (HT.out b hb).2⟩)
            (hsl'.fr (fun b hb => Nat.lt_of_lt_of_le (HT.out b hb).1 HRJ.out.fr.size) hf) (by rw [HLN.out]; exact HNJ.out.fr hf (fun h => h)) ((HX.out.frT HRJ.out.fr (fun b o e h => HNA.out b o e h)).frT hf (fun _ _ _ h => h)) HNA.out HTL.out hzf hzfm hzt hztm (by rw [hKG]; exact hG2)
          rw [hKG] at hcall
          refine hcall.mono ?_
          rintro e w3 ⟨A5, c5, rfl, g1, g2, g3⟩
          have hr1 := (HRJ1.out.keep hmw HT.out (hf.mono (fun _ _ h => h.elim))).keep hmw HT.out g1
          have hgw := HRJ1.out.gw
          have hsz := hf.size
          have hwsz := HRJ1.out.ne
          have hp := hr1.put (a' := rnA FF TT a') (k' := K2) (A' := A5) (c' := c5) HT.out (g3.mono (fun b hb => hb.imp (fun h => h) (fun hb => ⟨by have := HRJ1.out.rs.lt; omega, hb.2, by omega⟩)) (fun _ _ => rfl))
          rw [HPL.out] at hp
          rw [HLN.out] at g2
          have hgg := hr1.gw
          obtain ⟨su, sv, s0, s1, s2, s3, s4⟩ := hr1.slot hjn
          exact ⟨A5, c5, rfl, ⟨su, sv, s0, s1, s2, s3, s4, (hr1.out.cell 1).trans rfl, hr1.out.lt, (hr1.bx.cell 0).trans rfl, (hr1.bx.cell 1).trans rfl, (g1.cell (p := ⟨gA, oA + (j + 1) * 2, none⟩) (Nat.lt_of_lt_of_le hlg hf.size) (fun e => (HT.out gA hgT).2 e)).trans ((hf.cell (p := ⟨gA, oA + (j + 1) * 2, none⟩) hlg (fun h => h)).trans q0), (g1.cell (p := ⟨gA, oA + (j + 1) * 2 + 1, none⟩) (Nat.lt_of_lt_of_le hlg hf.size) (fun e => (HT.out gA hgT).2 e)).trans ((hf.cell (p := ⟨gA, oA + (j + 1) * 2 + 1, none⟩) hlg (fun h => h)).trans q1)⟩, hp, (g2.far (p := ⟨G, (j + 1) * 2, none⟩) (by show mm ≠ G; omega) _).far (p := ⟨G, (j + 1) * 2 + 1, none⟩) (by show mm ≠ G; omega) _⟩
        have HFR : Hid (BSl wr VF fr ∧ BSl wr VT to) := ⟨HF.out.fr HRJ.out.fr (fun b o e h => HFM.out b o e h), HTO.out.fr HRJ.out.fr (fun b o e h => HTM.out b o e h)⟩
        have HSQ : Hid (∀ w', Fr No wr w' → w'.cell? ⟨gA, oA + (j + 1) * 2, none⟩ = some (S a') ∧ w'.cell? ⟨gA, oA + (j + 1) * 2 + 1, none⟩ = some (.slice A2 k'.len c2) ∧ gA < w'.heap.size) := fun w' hf =>
          ⟨(hf.cell (p := ⟨gA, oA + (j + 1) * 2, none⟩) hlg (fun h => h)).trans q0, (hf.cell (p := ⟨gA, oA + (j + 1) * 2 + 1, none⟩) hlg (fun h => h)).trans q1, Nat.lt_of_lt_of_le hlg hf.size⟩
        by_cases hb0 : bn = []
        · have eF : FF = fr := by rw [hFF, if_pos hb0]
          have eT : TT = to := by rw [hTT, if_pos hb0]
          subst hb0
          have CALL0 : Hid (∀ (w' : World), Fr No wr w' → Calls Tryd.prog 61 #[.agg #[S a', .slice A2 k'.len c2], .slice VF nf vf, .slice VT nf vt, Ptr mm] w' fun e w3 => ∃ A5 c5, e = .returned (.agg #[S (rnA FF TT a'), .slice A5 K2.len c5]) ∧
              (∃ u v, w3.cell? ⟨G, (j + 1) * 2, none⟩ = some u ∧ w3.cell? ⟨G, (j + 1) * 2 + 1, none⟩ = some v ∧ w3.frozen? ⟨G, (j + 1) * 2, none⟩ = false ∧ w3.frozen? ⟨G, (j + 1) * 2 + 1, none⟩ = false ∧ G < w3.heap.size ∧ w3.cell? ⟨ob, 1, none⟩ = some (.slice (some ⟨G, 0, none⟩) L cc) ∧ ob < w3.heap.size ∧ w3.cell? ⟨w.heap.size, 0, none⟩ = some (S []) ∧ w3.cell? ⟨w.heap.size, 1, none⟩ = some (.slice (some ⟨gA, oA, none⟩) L c) ∧ w3.cell? ⟨gA, oA + (j + 1) * 2, none⟩ = some (S a') ∧ w3.cell? ⟨gA, oA + (j + 1) * 2 + 1, none⟩ = some (.slice A2 k'.len c2)) ∧
              Hid (RF w mm T ((pre.snoc (rnA FF TT a') K2).app (r.from_ (j + 1))) G cc L ob (some ⟨gA, oA, none⟩) c ((w3.setCell ⟨G, (j + 1) * 2, none⟩ (S (rnA FF TT a'))).setCell ⟨G, (j + 1) * 2 + 1, none⟩ (.slice A5 K2.len c5)) ∧
              NmC ((w3.setCell ⟨G, (j + 1) * 2, none⟩ (S (rnA FF TT a'))).setCell ⟨G, (j + 1) * 2 + 1, none⟩ (.slice A5 K2.len c5)) mm NA l nc G2)) := by
            intro w' hf
            have := CALL.out w' VF vf VT vt hf (by rw [eF]; exact HFR.out.1.fr hf (fun _ _ _ h => h)) HFM.out (by rw [eT]; exact HFR.out.2.fr hf (fun _ _ _ h => h)) HTM.out
            rw [eF, eT, HNF.out, HNT.out] at this
            rw [eF, eT]
            exact this
          obtain ⟨a5, HA5⟩ : ∃ z, Hid (rnA FF TT a' = z) := ⟨_, rfl⟩
          rw [HA5.out] at CALL0
          obtain ⟨kl, HKL⟩ : ∃ z, Hid (k'.len = z) := ⟨_, rfl⟩
          rw [HKL.out] at CALL0 HSQ
          obtain ⟨k5, HK5⟩ : ∃ z, Hid (K2.len = z) := ⟨_, rfl⟩
          rw [HK5.out] at CALL0
          have HEX := HE
          rw [HA5.out] at HEX
          clear CALL HFR eF eT hFF hTT hkid hE hKG hG2 hw1 hw2 hz hnn hbn hok hbj hnr hn hfj hAr hAe hsl' q0 q1
          go_wp2_with fail
          refine IN.out.mono ?_
          rintro e w1 ⟨rfl, hf1⟩
          have HF1 := Lib.hid hf1
          obtain ⟨d0, d1, dl, e0, e1, el, s0, s1, u0, u1, ul⟩ := ALLC.out w1 hf1
          clear hf1
          go_wp2_with fail
          refine (BD.out _ HF1.out).mono ?_
          rintro e w3 ⟨rfl, hf3, _, _⟩
          have HF3 := Lib.hid hf3
          obtain ⟨v0, v1, vl, x0, x1, xl, y0, y1, z0, z1, zl⟩ := ALLC.out w3 hf3
          obtain ⟨p0, p1, pl⟩ := HSQ.out w3 hf3
          have hf3d : Fr No wr w3.drew := hf3.drew
          clear hf3
          go_wp2_with fail
          go_region_with (first | (go_at_call 61; (with_reducible refine (CALL0.out _ hf3d).mono ?_); rintro e w5 ⟨A5, c5, rfl, ⟨u, v, s0, s1, s2, s3, s4, s5, s6, s7, s8, s9, s10⟩, HRN⟩))
          all_goals go_wp2_with fail
          all_goals go_roundw
          all_goals first
            | exact ⟨j + 1, pre.snoc a5 K2, y, G2, by omega, by go_num, rfl, by rw [Fo.len_snoc, HPL.out], HRN.out.1, HRN.out.2, HEX.out⟩
            | (simp [intOf]; omega)
        · have eF : FF = fr ++ [bn] := by rw [hFF, if_neg hb0]
          have eT : TT = to ++ [y] := by rw [hTT, if_neg hb0]
          have BD2 : Hid (∀ w', Fr No wr w' → Calls Tryd.prog 58 #[.agg #[S [], .slice (some ⟨gA, oA, none⟩) L c], .int .i64 ((j : Int) + 1)] w' fun e w2 => e = .returned (S bn) ∧ Fr No wr w2 ∧ (∀ W0, Fr No W0 w' → Fr No W0 w2) ∧ (∀ p v, w'.cell? p = some v → w2.cell? p = some v)) := BD
          have hj1 : (0 : Int) ≤ (j : Int) + 1 := by omega
          have m1 : G ≠ w.heap.size := fun e => hnG e.symm
          have m2 : G ≠ ob := fun e => hnO e.symm
          have m3 : G ≠ gA := by have := HRJ.out.gw; have := (HT.out gA hgT).1; omega
          have hbe : bn.isEmpty = false := by cases bn; exact absurd rfl hb0; rfl
          have hml : ∀ b, wr.heap.size ≤ b → b ≠ mm := fun b hb => by have := HRJ.out.fr.size; omega
          have WF : Hid (∀ (w' : World) (g1 : Nat), Fr No wr w' → w'.cell? ⟨g1, 0, none⟩ = some (S bn) → Calls Tryd.prog 59 #[.slice VF nf vf, .slice (some ⟨g1, 0, none⟩) 1 1] w' fun e w2 => ∃ Z zc, e = .returned (.slice Z FF.length zc) ∧ BSl w2 Z FF ∧ (∀ b o, Z = some ⟨b, o, none⟩ → b ≠ mm) ∧ Fr No wr w2 ∧
              (∀ W0, Fr No W0 w' → Fr No W0 w2) ∧ (∀ p v, w'.cell? p = some v → w2.cell? p = some v)) := by
            intro w' g1 hf hx
            have h1 := with_any w' VF fr vf bn g1 (HFR.out.1.fr hf (fun _ _ _ h => h)) hx (by have := HFS.out; omega)
            rw [HNF.out] at h1
            refine h1.mono ?_
            rintro e w2 ⟨Z, zc, rfl, z1, z2, z3⟩
            rw [eF]
            exact ⟨Z, zc, rfl, z1, fun b o e => hml b (Nat.le_trans hf.size (z2 b o e)), hf.trans z3, fun _ h => h.trans z3, fun p v h => (z3.cell (World.block_lt_of_cell? _ _ h) (fun h => h)).trans h⟩
          have WT : Hid (∀ (w' : World) (g1 : Nat), Fr No wr w' → w'.cell? ⟨g1, 0, none⟩ = some (S y) → Calls Tryd.prog 59 #[.slice VT nf vt, .slice (some ⟨g1, 0, none⟩) 1 1] w' fun e w2 => ∃ Z zc, e = .returned (.slice Z TT.length zc) ∧ BSl w2 Z TT ∧ (∀ b o, Z = some ⟨b, o, none⟩ → b ≠ mm) ∧ Fr No wr w2 ∧
              (∀ W0, Fr No W0 w' → Fr No W0 w2) ∧ (∀ p v, w'.cell? p = some v → w2.cell? p = some v)) := by
            intro w' g1 hf hx
            have h1 := with_any w' VT to vt y g1 (HFR.out.2.fr hf (fun _ _ _ h => h)) hx (by have := HFS.out; have := HFT.out; omega)
            rw [HNT.out] at h1
            refine h1.mono ?_
            rintro e w2 ⟨Z, zc, rfl, z1, z2, z3⟩
            rw [eT]
            exact ⟨Z, zc, rfl, z1, fun b o e => hml b (Nat.le_trans hf.size (z2 b o e)), hf.trans z3, fun _ h => h.trans z3, fun p v h => (z3.cell (World.block_lt_of_cell? _ _ h) (fun h => h)).trans h⟩
          obtain ⟨a5, HA5⟩ : ∃ z, Hid (rnA FF TT a' = z) := ⟨_, rfl⟩
          rw [HA5.out] at CALL
          obtain ⟨kl, HKL⟩ : ∃ z, Hid (k'.len = z) := ⟨_, rfl⟩
          rw [HKL.out] at CALL HSQ
          obtain ⟨k5, HK5⟩ : ∃ z, Hid (K2.len = z) := ⟨_, rfl⟩
          rw [HK5.out] at CALL
          have HEX := HE
          rw [HA5.out] at HEX
          obtain ⟨fl, HFL⟩ : ∃ z, Hid (FF.length = z) := ⟨_, rfl⟩
          obtain ⟨tl, HTLN⟩ : ∃ z, Hid (TT.length = z) := ⟨_, rfl⟩
          rw [HFL.out] at WF CALL
          rw [HTLN.out] at WT CALL
          clear HFR eF eT hFF hTT hkid hE hKG hG2 hw1 hw2 hz hnn hbn hok hbj hnr hn hfj hAr hAe hsl' q0 q1 hml hb0
          go_wp2_with fail
          refine IN.out.mono ?_
          rintro e w1 ⟨rfl, hf1⟩
          have HF1 := Lib.hid hf1
          obtain ⟨d0, d1, dl, e0, e1, el, s0, s1, u0, u1, ul⟩ := ALLC.out w1 hf1
          clear hf1
          go_wp2_with fail
          refine (BD.out _ HF1.out).mono ?_
          rintro e w3 ⟨rfl, hf3, _, _⟩
          have HF3 := Lib.hid hf3
          obtain ⟨v0, v1, vl, x0, x1, xl, y0, y1, z0, z1, zl⟩ := ALLC.out w3 hf3
          obtain ⟨p0, p1, pl⟩ := HSQ.out w3 hf3
          go_wp2_with fail
          go_region_held3 (fun w' => w'.cell? ⟨w.heap.size, 0, none⟩ = some (S []) ∧ w'.cell? ⟨w.heap.size, 1, none⟩ = some (.slice (some ⟨gA, oA, none⟩) L c) ∧ w'.cell? ⟨ob, 1, none⟩ = some (.slice (some ⟨G, 0, none⟩) L cc) ∧ w'.cell? ⟨gA, oA + (j + 1) * 2, none⟩ = some (S a') ∧ w'.cell? ⟨gA, oA + (j + 1) * 2 + 1, none⟩ = some (.slice A2 kl c2)) (go_keep)
            (first
            | (go_at_call 58; (with_reducible refine (BD2.out _ ?_).mono ?_); (repeat (first | exact Fr.refl _ _ | exact hf3 | with_reducible apply Fr.drew | with_reducible apply Fr.alloc | with_reducible apply Lb | with_reducible apply Lf | with_reducible apply Lt)); rintro e wb ⟨rfl, hfb, Lb, Kb⟩; obtain ⟨b0, b1, bl, b2, b3, bl2, b4, b5, b6, b7, b8⟩ := ALLC.out wb hfb; obtain ⟨b9, b10, b11⟩ := HSQ.out wb hfb)
            | (go_at_call 59; (with_reducible refine (WF.out _ _ ?_ ?_).mono ?_); (repeat (first | exact Fr.refl _ _ | exact hf3 | with_reducible apply Fr.drew | with_reducible apply Fr.alloc | with_reducible apply Lb | with_reducible apply Lf | with_reducible apply Lt)); (repeat (first | with_reducible exact new0 _ _ _ | with_reducible exact new1 _ _ _ _ | with_reducible apply Kb | with_reducible apply Kf | with_reducible apply Kt | with_reducible apply keepD | with_reducible apply keepA)); rintro e wf ⟨ZF, zf, rfl, zf1, zf2, hff, Lf, Kf⟩; obtain ⟨g0, g1, gl, g2, g3, gl2, g4, g5, g6, g7, g8⟩ := ALLC.out wf hff; obtain ⟨g9, g10, g11⟩ := HSQ.out wf hff)
            | (go_at_call 59; (with_reducible refine (WT.out _ _ ?_ ?_).mono ?_); (repeat (first | exact Fr.refl _ _ | exact hf3 | with_reducible apply Fr.drew | with_reducible apply Fr.alloc | with_reducible apply Lb | with_reducible apply Lf | with_reducible apply Lt)); (repeat (first | with_reducible exact new0 _ _ _ | with_reducible exact new1 _ _ _ _ | with_reducible apply Kb | with_reducible apply Kf | with_reducible apply Kt | with_reducible apply keepD | with_reducible apply keepA)); rintro e wt ⟨ZT, zt, rfl, zt1, zt2, hft, Lt, Kt⟩; obtain ⟨i0, i1, il, i2, i3, il2, i4, i5, i6, i7, i8⟩ := ALLC.out wt hft; obtain ⟨i9, i10, i11⟩ := HSQ.out wt hft)
            | (go_at_call 61; (with_reducible refine (CALL.out _ _ _ _ _ ?_ (zf1.fr (T := No) ?_ (fun _ _ _ h => h)) zf2 (zt1.fr (T := No) ?_ (fun _ _ _ h => h)) zt2).mono ?_); (repeat (first | exact Fr.refl _ _ | exact hf3 | with_reducible apply Fr.drew | with_reducible apply Fr.alloc | with_reducible apply Lb | with_reducible apply Lf | with_reducible apply Lt)); (repeat (first | exact Fr.refl _ _ | exact hf3 | with_reducible apply Fr.drew | with_reducible apply Fr.alloc | with_reducible apply Lb | with_reducible apply Lf | with_reducible apply Lt)); (repeat (first | exact Fr.refl _ _ | exact hf3 | with_reducible apply Fr.drew | with_reducible apply Fr.alloc | with_reducible apply Lb | with_reducible apply Lf | with_reducible apply Lt)); rintro e w5 ⟨A5, c5, rfl, ⟨u, v, s0, s1, s2, s3, s4, s5, s6, s7, s8, s9, s10⟩, HRN⟩))
          all_goals go_wp2_with fail
          all_goals go_roundw
          all_goals first
            | exact ⟨j + 1, pre.snoc a5 K2, y, G2, by omega, by go_num, rfl, by rw [Fo.len_snoc, HPL.out], HRN.out.1, HRN.out.2, HEX.out⟩
            | (simp [intOf]; omega)
    · have hjm : j = m := by omega
      have hjc : ¬ (j : Int) + 1 < (L : Int) := by have := HLM.out; omega
      have FIN : Hid (∀ v0 v1, RfP tk mm NA nc T [] F0.1 F0.2 w (.returned (.agg #[S [], .slice (some ⟨G, 0, none⟩) L cc])) ((wr.setCell ⟨w.heap.size + 1, 0, none⟩ v0).setCell ⟨w.heap.size + 1, 1, none⟩ v1)) := by
        intro v0 v1
        have hrf := HRJ.out
        have e1 := HREL.out
        have hfl : r.from_ j = .nil := by rw [hjm, ← HRL.out, Fo.from_len]
        rw [hfl] at hrf e1
        have e2 : F0 = (pre, gj) := by rw [e1]; simp only [rnF, Fo.app_nil]
        rw [Fo.app_nil] at hrf
        have hl := hrf.len
        have hg := hrf.gw
        rw [e2]
        refine ⟨_, cc, by rw [← hl], ((hrf.fr.setCell (p := ⟨w.heap.size + 1, 0, none⟩) (.inr (Nat.le_succ _)) v0).setCell (p := ⟨w.heap.size + 1, 1, none⟩) (.inr (Nat.le_succ _)) v1), ?_, ?_⟩
        · rw [HLN.out]
          exact (HNJ.out.far (p := ⟨w.heap.size + 1, 0, none⟩) (by show mm ≠ w.heap.size + 1; omega) v0).far (p := ⟨w.heap.size + 1, 1, none⟩) (by show mm ≠ w.heap.size + 1; omega) v1
        · have hd := hrf.done
          refine hd.mono (fun b hb => hb.imp (fun h => h) (fun hb => ⟨by omega, by simp only [World.setCell]; simpa using hb.2⟩)) (fun b hb => ?_)
          have hb1 : b ≠ w.heap.size + 1 := by
            rcases hb with hb | hb
            · have := (HT.out b hb).1; omega
            · omega
          rw [Below.heap_setCell _ ⟨w.heap.size + 1, 1, none⟩ _ _ hb1, Below.heap_setCell _ ⟨w.heap.size + 1, 0, none⟩ _ _ hb1]
      clear hjm
      go_wp2_with fail
      refine bodyPost_ret (v := .agg #[S [], .slice (some ⟨G, 0, none⟩) L cc]) (by simp [results, Tryd.results61, go_sem, cell_set_same r0, cell_set_next r1]) rfl ?_
      exact FIN.out _ _
end Go.Proofs.YthbidlcfahdfhaaDoor
