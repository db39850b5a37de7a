/- TermCanon of the model. -/
import Derived.Test.YthbidlcfahdfhaaDoorS2rn3
import Derived.Test.YthbidlcfahdfhaaDoorS2free3
import Derived.Test.YthbidlcfahdfhaaDoorStext
import Derived.Test.YthbidlcfahdfhaaDoorTcanon
import Derived.Test.YthbidlcfahdfhaaDoorS2kids
namespace Go.Proofs.YthbidlcfahdfhaaDoor
open Go.RowKit Go.ChangeMaps

theorem rf_any (N : Nat) : ∀ k : Fo, SizeOf.sizeOf k < N → RfSaid k := by
  induction N with
  | zero => intro k h; omega
  | succ N ih =>
    intro k hN a A c w T m NA nc tk g VF vf fr VT vt to htm hat hwf hs hft hfs hT hA hnm hx hNA htl hF hFm hTo hTm hend
    by_cases he : a = []
    · subst he
      have h2 : isTms none k = true := by simpa [isTm] using htm
      have e2 : treeSize [] k = k.size := by simp [treeSize]
      have e3 : rnR tk [] k fr to g = rnF tk k (.top fr to) g := by simp [rnR]
      have e4 : rnA fr to [] = [] := rfl
      rw [e2] at hs hfs
      rw [e3] at hend ⊢
      rw [e4]
      cases k with
      | nil => cases h2
      | cons h k0 r => exact rf_node h k0 r (fun a' k' j hn => ih k' (by have := Fo.nth_small _ j a' k' hn; omega)) A c w T m NA nc tk g VF vf fr VT vt to h2 hwf hs hft hfs hT hA hnm hx hNA htl hF hFm hTo hTm hend
    · obtain rfl := hat he
      have e3 : rnR tk a .nil fr to g = (.nil, g) := by simp [rnR, he]
      rw [e3]
      exact rf_atom a A c w T m NA nc tk g VF vf fr VT vt to he hft (by omega) hnm hF hTo

theorem rnF_le {tk : List (List UInt8)} {k : Fo} (h : isTms none k = true) (hk : k.wf) (hs : (cv k (.parts [])).size ≤ 390) (htk : tk.length ≤ 600) (hf : FrIn tk (cv k (.parts []))) : (rnF tk k (.top [] []) 0).2 ≤ 1000 := by
  have hend : (rnT tk (cv k (.parts [])) (if bindsB (hd1 k) then fsh tk 0 + 1 else 0)).2 ≤ 1000 := by
    have h1 := rnT_bound tk (.cons (ndH [] k) (ndA [] [] k) (ndD [] []) (cv k (.parts [])) .nil)
    have hlen := top_len [] hk h
    have eG : rnG tk (ndH [] k) (cv k (.parts [])) 0 = if bindsB (hd1 k) then fsh tk 0 + 1 else 0 := by
      simp only [rnG, if_neg hlen, ndH, if_true]
    simp only [rnT, eG, Ts.size] at h1
    revert h1
    split <;> split <;> intro h1 <;> omega
  have q1 := ((rn_eq tk k hk).2.1 [] [] 0 (rinv_nil tk 0) h hf hend).1
  rw [q1] at hend
  exact hend

theorem rnA_nil (a : List UInt8) : rnA [] [] a = a := by
  unfold rnA
  split
  · exact Eq.symm (by assumption)
  · rfl

theorem rnR_nil (tk : List (List UInt8)) (a : List UInt8) (k : Fo) : (rnR tk a k [] [] 0).1 = cnK tk a k := by
  unfold rnR cnK
  split <;> rfl

def ApP (T : Nat → Prop) (tk : List (List UInt8)) (a : List UInt8) (k : Fo) (w : World) (e : Ending) (w' : World) : Prop :=
  ∃ A c, e = .returned (.agg #[S a, .slice A (cnK tk a k).len c]) ∧ Fr No w w' ∧ Sl w' (TN T w w') A (cnK tk a k)

theorem BSl.empty (w : World) (g : Nat) (h : g < w.heap.size) : BSl w (some ⟨g, 0, none⟩) [] := ⟨fun j x e => by simp at e, g, 0, rfl, h⟩

set_option maxRecDepth 100000 in
set_option maxHeartbeats 2000000 in
/-- bound names renamed, apart from the term's own free names -/
theorem apart0_any (w : World) (T : Nat → Prop) (a : List UInt8) (A : Option Addr) (c : Nat) (k : Fo) (htm : isTm a k = true) (hat : a ≠ [] → k = .nil) (hwf : k.wf) (hs : treeSize a k ≤ 390) (hT : ∀ b, T b → b < w.heap.size) (hA : Sl w T A k) :
    Calls Tryd.prog 40 #[.agg #[S a, .slice A k.len c], .slice none 0 0] w fun e w' => ApP T (fvs a k) a k w e w' := by
  obtain ⟨xs, HX⟩ : ∃ xs, Hid (fsT a k [] [] = xs) := ⟨_, rfl⟩
  have hxl : xs.length ≤ treeSize a k := by rw [← HX.out]; exact fvs_len htm hat hwf
  have hfin : FrIn xs (nd [] a k) := by
    have h2 := frU_in (nd [] a k) [] (leafy_of _ (wf_nd [] htm hat hwf))
    rw [frU_nd htm hat hwf] at h2
    rw [← HX.out]
    exact h2
  have hend : (rnR xs a k [] [] 0).2 ≤ 4000 := by
    unfold rnR
    split
    · rename_i ha
      subst ha
      have h1 := nd_size [] htm hat hwf
      simp only [nd, Ts.size] at h1
      have := rnF_le (tk := xs) (by simpa [isTm] using htm) hwf (by omega) (by omega) hfin.2.1
      omega
    · exact Nat.zero_le _
  have b0 := (Blk.new w 36 #[S a, .slice A k.len c]).alloc (.cells #[S [], .slice none 0 0] 36)
  have b1 : Blk ((w.alloc (.cells #[S a, .slice A k.len c] 36)).alloc (.cells #[S [], .slice none 0 0] 36)) (w.heap.size + 1) 36 #[S [], .slice none 0 0] := Blk.new_at _ _ _ (by simp)
  have hf0 : Fr No w ((w.alloc (.cells #[S a, .slice A k.len c] 36)).alloc (.cells #[S [], .slice none 0 0] 36)) := ((Fr.refl _ _).alloc _).alloc _
  have hsz0 : ((w.alloc (.cells #[S a, .slice A k.len c] 36)).alloc (.cells #[S [], .slice none 0 0] 36)).heap.size = w.heap.size + 2 := by simp
  have HT := Lib.hid hT
  have HA := Lib.hid hA
  have HTM := Lib.hid htm
  have HAT := Lib.hid hat
  have HWF := Lib.hid hwf
  have HSZ := Lib.hid hs
  have HXL := Lib.hid hxl
  have HEND := Lib.hid hend
  obtain ⟨kl, HKL⟩ : ∃ z, Hid (k.len = z) := ⟨_, rfl⟩
  rw [HKL.out] at b0 b1 hf0 hsz0 ⊢
  obtain ⟨K, HK⟩ : ∃ z, Hid (cnK (fvs a k) a k = z) := ⟨_, rfl⟩
  have HRK : Hid ((rnR xs a k [] [] 0).1 = K) := by show _ = _; rw [rnR_nil, ← HK.out, ← HX.out]; rfl
  clear hT hA htm hat hwf hs hxl hfin hend
  go_enter Tryd.func40, Tryd.ntmps40
  go_wp2_with fail
  generalize ((w.alloc (.cells #[S a, .slice A kl c] 36)).alloc (.cells #[S [], .slice none 0 0] 36)) = W at b0 b1 hf0 hsz0 ⊢
  have HFW := Lib.hid hf0
  have HB0 := Lib.hid b0
  have HB1 := Lib.hid b1
  have HS0 := Lib.hid hsz0
  have c0 : W.cell? ⟨w.heap.size, 0, none⟩ = some (S a) := (b0.cell 0).trans rfl
  have FREE : Hid (Calls Tryd.prog 38 #[.agg #[S a, .slice A kl c], .slice (some ⟨w.heap.size + 2, 0, none⟩) 0 0, .slice (some ⟨w.heap.size + 2 + 1, 0, none⟩) 0 0] ((W.alloc (.cells #[] 9)).alloc (.cells #[] 9)) fun e w' =>
      ∃ V vc, e = .returned (.slice V xs.length vc) ∧ Fr No W w' ∧ w'.ownsRow (w.heap.size + 2) 9 1 (.slice V xs.length vc) xs.length (xs.map S)) := by
    have hfa : Fr No W ((W.alloc (.cells #[] 9)).alloc (.cells #[] 9)) := (((Fr.refl _ _).alloc _).alloc _)
    have hown : ((W.alloc (.cells #[] 9)).alloc (.cells #[] 9)).ownsRow (w.heap.size + 2) 9 1 (.slice (some ⟨w.heap.size + 2 + 1, 0, none⟩) 0 0) 0 [] := by
      have := own_empty (W.alloc (.cells #[] 9)) (w.heap.size + 2) (by simp; omega) _ rfl
      have e : (W.alloc (.cells #[] 9)).heap.size = w.heap.size + 2 + 1 := by simp; omega
      rw [e] at this
      exact this
    have hTW : ∀ b, T b → b < W.heap.size := fun b hb => by have := HT.out b hb; omega
    have hAW : Sl W T A k := HA.out.mono (fun _ h => h) (fun b hb => hf0.block b (HT.out b hb) (fun h => h))
    have e0 := fs_any _ k (Nat.lt_succ_self _) a A c _ T (w.heap.size + 2) (some ⟨w.heap.size + 2 + 1, 0, none⟩) 0 [] (some ⟨w.heap.size + 2, 0, none⟩) 0 [] HTM.out (by have := HSZ.out; omega) (by have := HSZ.out; simp; omega) (by have := HSZ.out; simp; omega) (by have := hfa.size; omega)
      (fun b hb => ⟨Nat.lt_of_lt_of_le (hTW b hb) hfa.size, fun e => by simp only [Value.ownBlock, Option.some.injEq] at e; have := HT.out b hb; omega⟩) (hAW.fr hTW hfa) (BSl.empty _ _ (by simp; omega)) (fun g o e e2 => by
        simp only [Option.some.injEq, Addr.mk.injEq, and_true] at e
        simp only [Value.ownBlock, Option.some.injEq] at e2
        omega) hown
    rw [HX.out, HKL.out] at e0
    refine e0.mono ?_
    rintro e w' ⟨V, vc, rfl, g1, g2, _⟩
    refine ⟨V, vc, rfl, hfa.then_ g1 (fun i hi e => ?_), g2⟩
    simp only [Value.ownBlock, Option.some.injEq] at e
    omega
  clear b0 b1 hf0
  go_wp2_with fail
  refine FREE.out.mono ?_
  rintro e w4 ⟨V, vc, rfl, hf4, ho4⟩
  have d0 := HB0.out.fr hf4 (fun h => h)
  have d1 := HB1.out.fr hf4 (fun h => h)
  have e0 : w4.cell? ⟨w.heap.size, 0, none⟩ = some (S a) := (d0.cell 0).trans rfl
  have e1 : w4.cell? ⟨w.heap.size, 1, none⟩ = some (.slice A kl c) := (d0.cell 1).trans rfl
  have el := d0.lt
  have RN : Hid (Calls Tryd.prog 61 #[.agg #[S a, .slice A kl c], .slice (some ⟨w4.heap.size, 0, none⟩) 0 0, .slice (some ⟨w4.heap.size + 1, 0, none⟩) 0 0, Ptr (w4.heap.size + 1 + 1)] (((w4.alloc (.cells #[] 9)).alloc (.cells #[] 9)).alloc (.cells #[.slice V xs.length vc, .int .i64 0] 77)) fun e w' =>
      ∃ A5 c5, e = .returned (.agg #[S a, .slice A5 K.len c5]) ∧ (w'.cell? ⟨w.heap.size + 1, 0, none⟩ = some (S []) ∧ w'.cell? ⟨w.heap.size + 1, 1, none⟩ = some (.slice none 0 0) ∧ w'.frozen? ⟨w.heap.size + 1, 0, none⟩ = false ∧ w'.frozen? ⟨w.heap.size + 1, 1, none⟩ = false ∧ w.heap.size + 1 < w'.heap.size) ∧
        Hid (∀ v0 v1, ApP T (fvs a k) a k w (.returned (.agg #[S a, .slice A5 K.len c5])) ((w'.setCell ⟨w.heap.size + 1, 0, none⟩ v0).setCell ⟨w.heap.size + 1, 1, none⟩ v1))) := by
    have hfa : Fr No w4 (((w4.alloc (.cells #[] 9)).alloc (.cells #[] 9)).alloc (.cells #[.slice V xs.length vc, .int .i64 0] 77)) := ((((Fr.refl _ _).alloc _).alloc _).alloc _)
    have hfw0 : Fr No w w4 := HFW.out.trans hf4
    have hfw : Fr No w (((w4.alloc (.cells #[] 9)).alloc (.cells #[] 9)).alloc (.cells #[.slice V xs.length vc, .int .i64 0] 77)) := hfw0.trans hfa
    have hs4 := hf4.size
    have h5 := rf_any _ k (Nat.lt_succ_self _) a A c _ T (w4.heap.size + 1 + 1) V vc xs 0 (some ⟨w4.heap.size, 0, none⟩) 0 [] (some ⟨w4.heap.size + 1, 0, none⟩) 0 [] HTM.out HAT.out HWF.out (by have := HSZ.out; omega) rfl (by have := HSZ.out; simp only [List.length_nil]; omega) (fun b hb => ⟨Nat.lt_of_lt_of_le (HT.out b hb) hfw.size, by have := HT.out b hb; omega⟩)
      (HA.out.mono (fun _ h => h) (fun b hb => hfw.block b (HT.out b hb) (fun h => h))) (Blk.new_at _ _ _ (by simp)) ((SSl.of_own ho4).frT (T := No) hfa (fun _ _ _ h => h)) (fun b o e => by subst e; have := (ho4.lt b rfl).2; omega) (by have := HXL.out; have := HSZ.out; omega)
      (BSl.empty _ _ (by simp <;> omega)) (fun b o e => by simp only [Option.some.injEq, Addr.mk.injEq, and_true] at e; omega) (BSl.empty _ _ (by simp <;> omega)) (fun b o e => by simp only [Option.some.injEq, Addr.mk.injEq, and_true] at e; omega) HEND.out
    rw [HKL.out, HRK.out, rnA_nil] at h5
    refine h5.mono ?_
    rintro e w' ⟨A5, c5, rfl, g1, g2, g3⟩
    have d2 := (d1.fr hfa (fun h => h)).fr g1 (fun e => by unfold One at e; omega)
    refine ⟨A5, c5, rfl, ⟨(d2.cell 0).trans rfl, (d2.cell 1).trans rfl, d2.frozen 0, d2.frozen 1, d2.lt⟩, fun v0 v1 => ?_⟩
    have hfw' : Fr No w w' := hfw.then_ g1 (fun i hi e => by unfold One at e; omega)
    rw [ApP, HK.out]
    refine ⟨A5, c5, rfl, (hfw'.setCell (p := ⟨w.heap.size + 1, 0, none⟩) (.inr (Nat.le_succ _)) v0).setCell (p := ⟨w.heap.size + 1, 1, none⟩) (.inr (Nat.le_succ _)) v1, ?_⟩
    refine g3.mono (fun b hb => hb.imp (fun h => h) (fun hb => ⟨by have := hfw.size; omega, by simp only [World.setCell]; simpa using hb.2⟩)) (fun b hb => ?_)
    have hb1 : b ≠ w.heap.size + 1 := by
      rcases hb with hb | hb
      · have := HT.out b hb; omega
      · have := hb.1; simp at this; omega
    rw [Below.heap_setCell _ ⟨w.heap.size + 1, 1, none⟩ _ _ hb1, Below.heap_setCell _ ⟨w.heap.size + 1, 0, none⟩ _ _ hb1]
  clear hf4 ho4 d0 d1
  go_wp2_with fail
  go_loopw [5, 6] (fun f v wr => f = .slice V xs.length vc ∧ v = .int .i64 0 ∧ wr = w4) (fun _ _ _ => 0)
  case atStart => exact ⟨rfl, rfl, rfl⟩
  case round =>
    obtain ⟨rfl, rfl, rfl⟩ := hrel
    go_wp2_with fail
    refine RN.out.mono ?_
    rintro e w6 ⟨A5, c5, rfl, ⟨r0, r1, f0, f1, rl⟩, HFIN⟩
    go_wp2_with fail
    refine bodyPost_ret (v := .agg #[S a, .slice A5 K.len c5]) (by simp [results, Tryd.results40, go_sem, cell_set_same r0, cell_set_next r1]) rfl ?_
    exact HFIN.out _ _

theorem term_small {a : List UInt8} {k : Fo} (h : isTm a k = true) (hw : a ≠ [] → k = .nil) (hk : k.wf) (hs : treeSize a k ≤ 390) : (treeText a k).length + k.cnt ≤ 1000000 ∧ k.len ≤ 100000 ∧ k.short := by
  have h1 := text_len h hk
  have h2 := (tree_bounds (texts_bounds k hk) hw).2.2 (by omega)
  refine ⟨?_, h2.2.2.1, h2.2.2.2⟩
  by_cases ha : a = []
  · subst ha
    simp only [isTm, if_true] at h
    have h3 := (cnt_tms k none hk h).1
    have h4 : treeSize [] k = k.size := by simp [treeSize]
    omega
  · obtain rfl := hw ha
    have : Fo.nil.cnt = 0 := rfl
    omega

set_option maxHeartbeats 1000000 in
theorem specTmCanon (w : World) (s : List UInt8) (hs : s.length ≤ maxLen) :
    Calls Tryd.prog 22 #[S s] w fun e w' => AnsCanon s w e w' := by
  go_enter Tryd.func22, Tryd.ntmps22
  go_wp2_with fail
  refine (term_any s _ hs).mono ?_
  rintro e w1 ⟨hf, ⟨a, k, A, c, hi, rfl, hsl⟩ | ⟨a, A, m, c, hno, rfl⟩⟩
  · have hw := hi.2.wf
    have hsm := hi.2.2.2
    have HI := Lib.hid hi
    have HF := Lib.hid hf
    obtain ⟨kl, HKL⟩ : ∃ z, Hid (k.len = z) := ⟨_, rfl⟩
    rw [HKL.out]
    obtain ⟨kc, HKC⟩ : ∃ z, Hid ((cnK (fvs a k) a k).len = z) := ⟨_, rfl⟩
    have co := cn_self hi.2.2.1 hw.1 hw.2 (by omega)
    have AP : Hid (∀ o : Obj, Calls Tryd.prog 40 #[.agg #[S a, .slice A kl c], .slice none 0 0] (w1.alloc o) fun e w' => ∃ A5 c5, e = .returned (.agg #[S a, .slice A5 kc c5]) ∧
        Calls Tryd.prog 34 #[.agg #[S a, .slice A5 kc c5]] w' fun e w2 => e = .returned (S (cnT a k)) ∧ Fr No w w2) := by
      intro o
      have hfa : Fr No w1 (w1.alloc o) := (Fr.refl _ _).alloc _
      have h1 := apart0_any (w1.alloc o) (New w w1) a A c k hi.2.2.1 hw.1 hw.2 (by omega) (fun b hb => Nat.lt_of_lt_of_le hb.2 hfa.size) (hsl.mono (fun _ h => h) (fun b hb => hfa.block b hb.2 (fun h => h)))
      rw [HKL.out] at h1
      refine h1.mono ?_
      rintro e w' ⟨A5, c5, rfl, g1, g2⟩
      refine ⟨A5, c5, by rw [HKC.out], ?_⟩
      rw [← HKC.out]
      obtain ⟨b1, b2, b3⟩ := term_small co.tm co.at_ co.wf (by rw [co.size]; omega)
      refine (spec_text _ (cnK (fvs a k) a k) (Nat.lt_succ_self _) a A5 c5 w' _ _ (Nat.le_refl _) b1 b2 b3 (fun b hb => hb.elim (fun h => Nat.lt_of_lt_of_le h.2 (Nat.le_trans hfa.size g1.size)) (fun h => h.2)) g2).mono ?_
      rintro e w2 ⟨rfl, g3⟩
      exact ⟨rfl, ((hf.trans hfa).trans g1).trans g3⟩
    clear hsl hi hf hw hsm co
    go_wp2_with fail
    refine (AP.out _).mono ?_
    rintro e w4 ⟨A5, c5, rfl, TX⟩
    have HTX := Lib.hid TX
    clear TX AP
    go_wp2_with fail
    refine HTX.out.mono ?_
    rintro e w5 ⟨rfl, hf5⟩
    have FIN : Hid (AnsCanon s w (.returned (.tuple #[S (cnT a k), .bool true])) w5) := ⟨_, _, rfl, .inl ⟨a, k, HI.out, rfl, rfl⟩, hf5⟩
    clear hf5
    go_wp2_with fail
    refine bodyPost_ret (v := .tuple #[S (cnT a k), .bool true]) (by simp [results, Tryd.results22, go_sem]) rfl ?_
    exact FIN.out
  · have FIN : Hid (∀ o : Obj, AnsCanon s w (.returned (.tuple #[S [], .bool false])) (w1.alloc o)) := fun o => ⟨_, _, rfl, .inr ⟨hno, rfl, rfl⟩, hf.alloc o⟩
    clear hno hf
    go_wp2_with fail
    refine bodyPost_ret (v := .tuple #[S [], .bool false]) (by simp [results, Tryd.results22, go_sem]) rfl ?_
    exact FIN.out _
end Go.Proofs.YthbidlcfahdfhaaDoor
