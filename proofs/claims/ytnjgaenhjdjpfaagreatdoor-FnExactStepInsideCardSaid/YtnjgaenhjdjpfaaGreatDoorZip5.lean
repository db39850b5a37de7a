/- The whole term with another one at a place. -/
import Derived.Test.YtnjgaenhjdjpfaaGreatDoorZip4
import Derived.Laws.OwnMore
import Derived.Lib.SliceRun
namespace Go.Proofs.YtnjgaenhjdjpfaaGreatDoor
open Go.RowKit Go.ChangeMaps

theorem setAt_len : ∀ (k : Ts) (j : Nat) (x : Ts), x.len = 1 → (k.setAt j x).len = k.len
  | .nil, _, _, _ => rfl
  | .cons h a d k r, 0, x, hx => by simp only [Ts.setAt, app_len, Ts.len, hx]; omega
  | .cons h a d k r, j + 1, x, hx => by simp only [Ts.setAt, Ts.len, setAt_len r j x hx]

theorem setAt_size : ∀ (k : Ts) (j : Nat) (x : Ts), j < k.len → x.size ≤ (k.setAt j x).size
  | .nil, _, _, h => by simp [Ts.len] at h
  | .cons h a d k r, 0, x, _ => by simp only [Ts.setAt, app_size]; omega
  | .cons h a d k r, j + 1, x, hj => by
    have := setAt_size r j x (by simp only [Ts.len] at hj; omega)
    simp only [Ts.setAt, Ts.size]; omega

theorem plug_size {t : Ts} : ∀ (fs : List ZF) (y x : Ts), okZ t fs y → x.size ≤ (plugZ fs x).size
  | [], _, _, _ => Nat.le_refl _
  | f :: fs, y, x, h => by
    have h1 := setAt_size f.k f.j x h.2.1
    have h2 := plug_size fs f.node (.cons f.h f.a 0 (f.k.setAt f.j x) .nil) h.2.2
    simp only [plugZ, Ts.size] at h2 ⊢
    omega

theorem TEl.setAt {w : World} {T : Nat → Prop} {q : Nat} {h' a' : List UInt8} {d' : Nat} {k' : Ts} (hq : Tm w T q h' a' d' k') : ∀ {f : Ts} {xs : List Value} (j : Nat), j < f.len → TEl w T f xs → TEl w T (f.setAt j (.cons h' a' d' k' .nil)) (xs.set j (Ptr q)) := by
  intro f
  induction f with
  | nil => intro xs j hj; simp [Ts.len] at hj
  | cons h a d k r _ ihr =>
    intro xs j hj hx
    obtain ⟨p, A, c, ys, xs', rfl, h1, h2, h3, h4, hr⟩ := hx
    cases j with
    | zero =>
      obtain ⟨p2, A2, c2, ys2, xs2, e, g1, g2, g3, g4, g5⟩ := hq
      injection e with e1 e2
      injection e1 with e1
      injection e1 with e1
      injection e1 with e1 _ _
      subst e1
      exact ⟨q, A2, c2, ys2, xs', rfl, g1, g2, g3, g4, hr⟩
    | succ j => exact ⟨p, A, c, ys, _, rfl, h1, h2, h3, h4, ihr j (by simp only [Ts.len] at hj; omega) hr⟩

theorem TEl.one {w : World} {T : Nat → Prop} : ∀ {f : Ts} {xs : List Value}, TEl w T f xs → ∀ u ∈ xs, u.oneCell' = true := by
  intro f
  induction f with
  | nil => intro xs h u hu; rw [h] at hu; cases hu
  | cons h a d k r _ ihr =>
    intro xs hx u hu
    obtain ⟨p, A, c, ys, xs', rfl, _, _, _, _, hr⟩ := hx
    rcases List.mem_cons.1 hu with rfl | hu
    · rfl
    · exact ihr hr u hu

set_option maxRecDepth 100000 in
set_option maxHeartbeats 1000000 in
/-- a copy of a row of terms -/
theorem cloneT_any (w : World) (T : Nat → Prop) (g o n c : Nat) (f : Ts) (hn : f.len = n) (h0 : n ≠ 0) (hT : ∀ b, T b → b < w.heap.size) (hs : TSl w T (some ⟨g, o, none⟩) f) (hl : n ≤ 1000) :
    Calls Tryz.prog 66 #[.slice (some ⟨g, o, none⟩) n c] w fun e w' =>
      ∃ G c' xs, e = .returned (.slice (some ⟨G, 0, none⟩) n c') ∧ w'.ownsRow w.heap.size 31 1 (.slice (some ⟨G, 0, none⟩) n c') n xs ∧ TEl w' T f xs ∧ Fr No w w' := by
  obtain ⟨ys, hel, hys⟩ := hs
  obtain ⟨hTg, hcs⟩ : T g ∧ ∀ (j : Nat) u, ys[j]? = some u → w.cell? ⟨g, o + j, none⟩ = some u := by
    rcases hys with h | ⟨b, o', e, h1, h2⟩
    · omega
    · simp only [Option.some.injEq, Addr.mk.injEq, and_true] at e
      obtain ⟨rfl, rfl⟩ := e
      exact ⟨h1, h2⟩
  have hyl := hel.length
  obtain ⟨i0, hi0, hz0, hz1, hz2⟩ := info_parts info_ptr
  have HO : Hid ((w.alloc (.cells #[] 31)).ownsRow w.heap.size 31 1 (.slice (some ⟨w.heap.size, 0, none⟩) 0 0) 0 []) :=
    ⟨rfl, .inr ⟨w.heap.size, 0, #[], rfl, Nat.le_refl _, heap_alloc_new w _, Nat.le_refl _, Nat.zero_le _, rfl, rfl⟩⟩
  have HYL : Hid (ys.length = n * 1) := by show _ = _; omega
  have HC : Hid (∀ j u, ys[j]? = some u → (w.alloc (.cells #[] 31)).cell? ((⟨g, o, none⟩ : Addr).add j) = some u) := by
    intro j u hj
    rw [addr_add]
    exact (((Fr.refl No w).alloc _).cell (p := ⟨g, o + j, none⟩) (hT g hTg) (fun h => h)).trans (hcs j u hj)
  have HC2 : Hid (∀ u ∈ ys, u.oneCell' = true) := hel.one
  have bnd1 : 0 + n ≤ maxLen := by unfold maxLen; omega
  have bnd2 : (0 + n) * 8 ≤ 140737488355328 := by omega
  have hbs : w.heap.size ≤ (w.alloc (.cells #[] 31)).heap.size := by simp
  have FIN : Hid (∀ v' w2, w2.ownsRow w.heap.size 31 1 v' (0 + n) ([] ++ ys) → (w.alloc (.cells #[] 31)).grownBy w2 (Value.slice (some ⟨w.heap.size, 0, none⟩) 0 0).ownBlock →
      ∃ G c', v' = .slice (some ⟨G, 0, none⟩) n c' ∧ Hid (w2.ownsRow w.heap.size 31 1 (.slice (some ⟨G, 0, none⟩) n c') n ys ∧ TEl w2 T f ys ∧ Fr No w w2)) := by
    intro v' w2 h1 h2
    rw [Nat.zero_add, List.nil_append] at h1
    obtain ⟨G, c', rfl⟩ : ∃ G cc, v' = .slice (some ⟨G, 0, none⟩) n cc := by
      rcases h1.2 with ⟨_, h⟩ | ⟨G, cap, cur, hv, _⟩
      · exact absurd h h0
      · exact ⟨G, cap, hv⟩
    have hf : Fr No w w2 := ((Fr.refl No w).alloc _).grown h2 (fun b hb => .inr (by simp only [Value.ownBlock, Option.some.injEq] at hb; omega))
    exact ⟨G, c', rfl, Lib.hid ⟨h1, hel.mono (fun _ h => h) (fun b hb => hf.block b (hT b hb) (fun h => h)), hf⟩⟩
  have q59 : ∀ (w : World) (a : Option Addr) (n c : Nat), (binOp .eql 76 (.slice a n c) (.slice none 0 0)).run Tryz.prog w = .ok (.bool a.isNone) w := fun w a n c => Lib.run_eql_slice_nil w _ 31 a n c 0 0 Tryz.underlying76
  clear hel hys hcs hyl hT hn
  go_enter Tryz.func66, Tryz.ntmps66
  go_wp2_with (at_builtin; go_must (refine wpList_append_own_at _ rfl _ _ 76 rfl w.heap.size 31 i0 (.pointer none) 1 8 Tryz.underlying76 hi0 hz0 hz1 hz2 rfl (by decide) _ 0 [] rfl HO.out ⟨g, o, none⟩ n c ys rfl HYL.out HC.out HC2.out bnd1 bnd2 hbs ?_); intro v' w2 hown' hgrow _ _; obtain ⟨G, c', rfl, HF⟩ := FIN.out v' w2 hown' hgrow; clear hown' hgrow)
  go_ret
  exact ⟨G, c', ys, rfl, HF.out.1, HF.out.2.1, HF.out.2.2⟩

def ReplP (T : Nat → Prop) (R : Ts) (w : World) (e : Ending) (w' : World) : Prop := TsP T R w e w'

set_option maxRecDepth 100000 in
set_option maxHeartbeats 4000000 in
theorem replace_any (w : World) (T : Nat → Prop) (t : Ts) (V : Value) (c : Option Addr) (fs : List ZF) (y : Ts) (p : Nat) (h a : List UInt8) (d : Nat) (k : Ts) (hz : ZM w T c fs) (hok : okZ t fs y) (hw : WfT t) (ht : Tm w T p h a d k) (hsz : (plugZ fs (.cons h a d k .nil)).size ≤ 100000) (hT : ∀ b, T b → b < w.heap.size) :
    Calls Tryz.prog 39 #[.agg #[V, .pointer c], Ptr p] w fun e w' => TsP T (plugZ fs (.cons h a d k .nil)) w e w' := by
  obtain ⟨R, hR⟩ : ∃ z, plugZ fs (.cons h a d k .nil) = z := ⟨_, rfl⟩
  rw [hR] at hsz ⊢
  have hfw : Fr No w (w.alloc (.cells #[V, .pointer c] 66)) := (Fr.refl _ _).alloc _
  have b0 : Blk (w.alloc (.cells #[V, .pointer c] 66)) w.heap.size 66 #[V, .pointer c] := Blk.new _ _ _
  have c01 : (w.alloc (.cells #[V, .pointer c] 66)).cell? ⟨w.heap.size, 1, none⟩ = some (.pointer c) := (b0.cell 1).trans rfl
  have l0 := b0.lt
  have START : Hid (∃ q cn gs h' a' d' k', Ptr p = Ptr q ∧ Value.pointer c = .pointer cn ∧ gs.length = fs.length ∧ Fr No w (w.alloc (.cells #[V, .pointer c] 66)) ∧ Tm (w.alloc (.cells #[V, .pointer c] 66)) (TN T w (w.alloc (.cells #[V, .pointer c] 66))) q h' a' d' k' ∧ ZM (w.alloc (.cells #[V, .pointer c] 66)) T cn gs ∧ (∃ y, okZ t gs y) ∧ plugZ gs (.cons h' a' d' k' .nil) = R) :=
    ⟨p, c, fs, h, a, d, k, rfl, rfl, rfl, hfw, ht.mono (fun _ h => .inl h) (fun b hb => hfw.block b (hT b hb) (fun h => h)), ZM.mono (w := w) (T := T) (fun _ h => h) (fun b hb => hfw.block b (hT b hb) (fun h => h)) hz, ⟨y, hok⟩, hR⟩
  have HT := Lib.hid hT
  have HWF := Lib.hid hw
  have HSZ := Lib.hid hsz
  clear hz hok hw ht hsz hT hR b0 hfw
  go_enter Tryz.func39, Tryz.ntmps39
  go_wp2_with fail
  generalize (w.alloc (.cells #[V, .pointer c] 66)) = W at START c01 l0 ⊢
  go_loopg [1, 5] fs.length (fun g u v wr => ∃ q cn gs h' a' d' k', u = Ptr q ∧ v = .pointer cn ∧ gs.length = g ∧ Fr No w wr ∧ Tm wr (TN T w wr) q h' a' d' k' ∧ ZM wr T cn gs ∧ (∃ y, okZ t gs y) ∧ plugZ gs (.cons h' a' d' k' .nil) = R)
  case atStart => exact START.out
  case round =>
    obtain ⟨q, cn, gs, h', a', d', k', rfl, rfl, hgl, hfr, htq, hzm, ⟨y', hy⟩, hpl⟩ := hrel
    cases gs with
    | nil =>
      obtain rfl : cn = none := hzm
      have FIN : Hid (TsP T R w (.returned (Ptr q)) wr) := by
        have e : (Ts.cons h' a' d' k' .nil) = R := hpl
        rw [← e]
        exact ⟨q, rfl, hfr, htq⟩
      clear hgl hfr htq hy hpl START
      go_wp2_with fail
      go_ret
      exact FIN.out
    | cons f gs =>
      obtain ⟨b, pw, cn', rfl, hTb, hbb, htw, hzm'⟩ := hzm
      have hjl := hy.2.1
      obtain ⟨hTp, A2, cA2, hbp, hsl2⟩ := htw.open_
      obtain ⟨g, o, _, _, _, _, _, rfl, _, _, _, _⟩ := hsl2.at_ hjl
      have d0 : wr.cell? ⟨b, 0, none⟩ = some (Ptr pw) := (hbb.cell 0).trans rfl
      have ld := hbb.lt
      have lpw := hbp.lt
      have d3 : wr.cell? ⟨pw, 3, none⟩ = some (.slice (some ⟨g, o, none⟩) f.k.len cA2) := (hbp.cell 3).trans rfl
      have hwf := okZ.wf HWF.out hy.2.2
      have hkl : f.k.len ≤ 3 := by
        have e : f.k.len = kidsOf f.h := hwf.1
        rw [e]; exact kids_le f.h
      have hTr : ∀ x, T x → x < wr.heap.size := fun x hx => Nat.lt_of_lt_of_le (HT.out x hx) hfr.size
      have hNr : ∀ x, TN T w wr x → x < wr.heap.size := fun x hx => hx.elim (fun h => hTr x h) (fun h => h.2)
      have hpl' : plugZ gs (.cons f.h f.a 0 (f.k.setAt f.j (.cons h' a' d' k' .nil)) .nil) = R := hpl
      have hszk : (f.k.setAt f.j (.cons h' a' d' k' .nil)).size ≤ 100000 := by
        have h1 := plug_size gs f.node (.cons f.h f.a 0 (f.k.setAt f.j (.cons h' a' d' k' .nil)) .nil) hy.2.2
        have h2 := HSZ.out
        rw [hpl'] at h1
        simp only [Ts.size] at h1
        omega
      obtain ⟨n, hn⟩ : ∃ n, f.k.len = n := ⟨_, rfl⟩
      have CL := Lib.hid (cloneT_any wr T g o n cA2 f.k hn (by omega) hTr hsl2 (by omega))
      have i1 : (f.j : Int) < (n : Int) := by omega
      have i3 : (0 : Int) ≤ (f.j : Int) := by omega
      have AFT : Hid (∀ (w2 : World) G c' xs, w2.ownsRow wr.heap.size 31 1 (.slice (some ⟨G, 0, none⟩) n c') n xs → TEl w2 T f.k xs → Fr No wr w2 →
          (w2.cell? ⟨b, 0, none⟩ = some (Ptr pw) ∧ w2.cell? ⟨b, 1, none⟩ = some (.int .i64 (f.j : Int)) ∧ b < w2.heap.size ∧ b ≠ G ∧ (∃ u, w2.cell? ⟨G, f.j, none⟩ = some u) ∧ w2.frozen? ⟨G, f.j, none⟩ = false) ∧
          Hid (∀ w3, w3 = w2.setCell ⟨G, f.j, none⟩ (Ptr q) → (w3.cell? ⟨b, 0, none⟩ = some (Ptr pw) ∧ w3.cell? ⟨b, 2, none⟩ = some (.pointer cn') ∧ w3.cell? ⟨pw, 0, none⟩ = some (S f.h) ∧ w3.cell? ⟨pw, 1, none⟩ = some (S f.a) ∧ b < w3.heap.size ∧ pw < w3.heap.size) ∧
            Hid (Calls Tryz.prog 51 #[S f.h, S f.a, .slice (some ⟨G, 0, none⟩) n c'] w3.drew fun e w5 => ∃ p5, e = .returned (Ptr p5) ∧ (w5.cell? ⟨b, 0, none⟩ = some (Ptr pw) ∧ w5.cell? ⟨b, 2, none⟩ = some (.pointer cn') ∧ w5.cell? ⟨pw, 0, none⟩ = some (S f.h) ∧ w5.cell? ⟨pw, 1, none⟩ = some (S f.a) ∧ b < w5.heap.size) ∧
              Hid (∃ q cn gs' h' a' d' k', Ptr p5 = Ptr q ∧ Value.pointer cn' = .pointer cn ∧ gs'.length = gs.length ∧ Fr No w w5 ∧ Tm w5 (TN T w w5) q h' a' d' k' ∧ ZM w5 T cn gs' ∧ (∃ y, okZ t gs' y) ∧ plugZ gs' (.cons h' a' d' k' .nil) = R)))) := by
        intro w2 G c' xs ho hel hf2
        have hG := ho.lt G rfl
        have hxl := hel.length
        have hbn : b ≠ G := by omega
        have hpn : pw ≠ G := by omega
        obtain ⟨u, hu⟩ : ∃ u, xs[f.j]? = some u := ⟨_, List.getElem?_eq_getElem (by omega)⟩
        have e0 := hbb.fr hf2 (fun h => h)
        have e1 := hbp.fr hf2 (fun h => h)
        refine ⟨⟨(e0.cell 0).trans rfl, (e0.cell 1).trans rfl, e0.lt, hbn, ⟨u, (ho.cellAt f.j (by omega)).trans hu⟩, ho.frozenAt f.j⟩, Lib.hid ?_⟩
        intro w3 hw3
        obtain ⟨ho3, hg3⟩ := ho.stored f.j (Ptr q)
        rw [← hw3] at ho3 hg3
        have hf3 : Fr No wr w3 := by rw [hw3]; exact hf2.setCell (p := ⟨G, f.j, none⟩) (.inr hG.1) _
        have k0 := hbb.fr hf3 (fun h => h)
        have k1 := hbp.fr hf3 (fun h => h)
        refine ⟨⟨(k0.cell 0).trans rfl, (k0.cell 2).trans rfl, (k1.cell 0).trans rfl, (k1.cell 1).trans rfl, k0.lt, k1.lt⟩, Lib.hid ?_⟩
        have hfm : Fr No w3 w3.drew := (Fr.refl _ _).drew
        have hf4 := hf3.trans hfm
        -- the row behind the store
        have hq3 : Tm w3.drew (fun x => TN T w wr x) q h' a' d' k' := htq.mono (fun _ h => h) (fun x hx => hf4.block x (hNr x hx) (fun h => h))
        have hel3 : TEl w3.drew (fun x => TN T w wr x) f.k xs := hel.mono (fun x hx => .inl hx) (fun x hx => by
          have h1 : x ≠ G := by have := hTr x hx; omega
          show w3.heap[x]? = _
          rw [hw3, Below.heap_setCell _ ⟨G, f.j, none⟩ _ _ h1])
        have hset := TEl.setAt hq3 f.j hjl hel3
        have hts : TSl w3.drew (TN T w w3.drew) (some ⟨G, 0, none⟩) (f.k.setAt f.j (.cons h' a' d' k' .nil)) := by
          refine ⟨_, hset.mono (fun x hx => hx.imp (fun h => h) (fun h => ⟨h.1, Nat.lt_of_lt_of_le h.2 hf4.size⟩)) (fun _ _ => rfl), .inr ⟨G, 0, rfl, .inr ⟨Nat.le_trans hfr.size hG.1, (ho3.lt G rfl).2⟩, fun i v hv => ?_⟩⟩
          · have := ho3.cellAt i (by
              have hi : i < (xs.set f.j (Ptr q)).length := (List.getElem?_eq_some_iff.1 hv).1
              rw [List.length_set] at hi
              omega)
            rw [Nat.zero_add]
            exact this.trans hv
        have hlen : (f.k.setAt f.j (.cons h' a' d' k' .nil)).len = n := by rw [setAt_len _ _ _ rfl, hn]
        have h5 := newTerm_any w3.drew (TN T w w3.drew) f.h f.a (f.k.setAt f.j (.cons h' a' d' k' .nil)) (some ⟨G, 0, none⟩) c' (fun x hx => hx.elim (fun h => Nat.lt_of_lt_of_le (hTr x h) hf4.size) (fun h => h.2)) hts hszk (by omega)
        rw [hlen] at h5
        refine h5.mono ?_
        rintro e w5 ⟨p5, rfl, r1, r2, r3⟩
        have hf5 := hf4.trans r1
        have m0 := hbb.fr hf5 (fun h => h)
        have m1 := hbp.fr hf5 (fun h => h)
        refine ⟨p5, rfl, ⟨(m0.cell 0).trans rfl, (m0.cell 2).trans rfl, (m1.cell 0).trans rfl, (m1.cell 1).trans rfl, m0.lt⟩, p5, cn', gs, f.h, f.a, 0, _, rfl, rfl, rfl, hfr.trans hf5, ?_, ZM.mono (w := wr) (T := T) (fun _ h => h) (fun x hx => hf5.block x (hTr x hx) (fun h => h)) hzm', ⟨_, hy.2.2⟩, hpl'⟩
        refine TEl.mono (fun x hx => ?_) (fun _ _ => rfl) r3
        rcases hx with (hx | hx) | hx
        · exact .inl hx
        · exact .inr ⟨hx.1, Nat.lt_of_lt_of_le hx.2 r1.size⟩
        · exact .inr ⟨Nat.le_trans (Nat.le_trans hfr.size hf4.size) hx.1, hx.2⟩
      have HG : Hid (gs.length < gk) := by show _ < _; simp only [List.length_cons] at hgl; omega
      rw [hn] at d3
      clear hgl hfr htq hzm' hy hpl hpl' htw hbb hbp hsl2 START hwf hkl hTr hNr hszk hjl hTb hTp hn
      go_wp2_with fail
      refine CL.out.mono ?_
      rintro e w2 ⟨G, c', xs, rfl, ho, hel, hf2⟩
      obtain ⟨⟨s0, s1, s2, s3, ⟨u, s4⟩, s5⟩, K3⟩ := AFT.out w2 G c' xs ho hel hf2
      clear ho hel hf2 AFT
      go_wp2_with fail
      obtain ⟨⟨t0, t1, t2, t3, t4, t5⟩, K5⟩ := K3.out _ rfl
      clear s0 s1 s2 s4 s5
      generalize (w2.setCell ⟨G, f.j, none⟩ (Ptr q)) = w3 at *
      go_region_held3 (fun w' => w'.cell? ⟨b, 0, none⟩ = some (Ptr pw) ∧ w'.cell? ⟨pw, 0, none⟩ = some (S f.h) ∧ w'.cell? ⟨pw, 1, none⟩ = some (S f.a)) (go_keep)
        (first | (go_at_call 51; ((with_reducible refine K5.out.mono ?_); rintro e w5 ⟨p5, rfl, ⟨v0, v1, v2, v3, v4⟩, REL⟩)))
      go_wp2_with fail
      go_roundg gs.length
      case measure => exact HG.out
      case rel => exact REL.out
end Go.Proofs.YtnjgaenhjdjpfaaGreatDoor
