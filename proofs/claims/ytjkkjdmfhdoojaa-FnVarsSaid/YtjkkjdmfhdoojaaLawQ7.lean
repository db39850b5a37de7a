/- The law FnVars: variables are those of the parts. -/
import Derived.Test.YtjkkjdmfhdoojaaSms
import Derived.Test.YtjkkjdmfhdoojaaTpt
import Derived.Test.YtjkkjdmfhdoojaaLaw4
import Derived.Test.YtjkkjdmfhdoojaaLaw2
import Derived.Test.YtjkkjdmfhdoojaaDrw
namespace Go.Proofs.Ytjkkjdmfhdoojaa
open Go.RowKit Go.ChangeMaps

/-- a text that was drawn -/
def DrwS (w : World) (e : Ending) (w' : World) : Prop := ∃ x, e = .returned (S x) ∧ x.length ≤ 1300 ∧ Fr No w w'

theorem Ty.size_pos1 : ∀ t : Ty, 1 ≤ t.size := fun t => by cases t <;> simp [Ty.size] <;> omega

theorem size_is {x : List UInt8} {u : Ty} (hu : Ty.Is x u) (W : World) : Calls Try.prog 17 #[S x] W fun e w' => e = .returned (.int .i64 (u.size : Int)) ∧ Fr No W w' :=
  (implSize W x (by have := hu.short; unfold maxLen; omega)).mono (by
    rintro e w' ⟨n, rfl, ⟨t', h', rfl⟩ | ⟨h, _⟩, hf⟩
    · rw [h'.unique hu]; exact ⟨rfl, hf⟩
    · exact absurd hu (h u))

set_option maxRecDepth 100000 in
set_option maxHeartbeats 1000000 in
theorem drawTVars (w : World) (A : Option Addr) (n c : Nat) (hn : n ≤ maxLen) (hnc : n ≤ c) (hb : Byt w A n) :
    Calls Try.prog 19 #[.slice A n c] w fun e w' => DrwS w e w' := by
  have OP := Lib.hid (open_any w A n c hn hnc hb)
  clear hb
  go_enter Try.func19, Try.ntmps19
  go_wp2_with fail
  refine OP.out.mono ?_
  rintro e w1 ⟨r, A1, n1, c1, rfl, hf1, hr1, hd1⟩
  have HF1 := Lib.hid hf1
  have HR1 := Lib.hid hr1
  have TX := Lib.hid (text_draw w1 r A1 n1 c1 0 hd1 (by omega))
  clear hf1 hr1 hd1
  go_wp2_with fail
  refine TX.out.mono ?_
  rintro e w2 ⟨x, p2, rfl, hx, hf2, hp2, hd2⟩
  have FIN : Hid (DrwS w (.returned (S x)) w2) := ⟨x, rfl, hx, HF1.out.then_ hf2 (fun i hi e => by unfold One at e; have := HR1.out; omega)⟩
  clear hf2 hd2
  go_wp2_with fail
  go_ret
  exact FIN.out

theorem SSl.no {w w' : World} {A : Option Addr} {xs : List (List UInt8)} (h : SSl w A xs) (hf : Fr No w w') : SSl w' A xs := fun j x hj => by
  obtain ⟨g, o, e, hc⟩ := h j x hj
  exact ⟨g, o, e, (hf.cell (p := ⟨g, o + j, none⟩) (World.block_lt_of_cell? w _ hc) (fun h => h)).trans hc⟩

theorem SSl.take {w : World} {A : Option Addr} {xs : List (List UInt8)} (h : SSl w A xs) (k : Nat) : SSl w A (xs.take k) := fun j x hj => h j x (by
  rw [List.getElem?_take] at hj
  split at hj
  · exact hj
  · cases hj)

theorem take_not {xs : List (List UInt8)} (hd : xs.Nodup) {j : Nat} {x : List UInt8} (hj : xs[j]? = some x) : x ∉ xs.take j := by
  intro hm
  obtain ⟨k, hk⟩ := List.getElem?_of_mem hm
  rw [List.getElem?_take] at hk
  split at hk
  · rename_i hlt
    obtain ⟨hl, e⟩ := List.getElem?_eq_some_iff.1 hj
    obtain ⟨hl2, e2⟩ := List.getElem?_eq_some_iff.1 hk
    exact (List.pairwise_iff_getElem.1 hd k j hl2 hl hlt) (by rw [e, e2])
  · cases hk

theorem info_parts_s : ∃ i0, Try.prog.info? 9 = some i0 ∧ i0.zero = some (.string ⟨#[]⟩) ∧ i0.size = 1 ∧ i0.bytes = 16 := by
  have h := info_str
  cases hi : Try.prog.info? 9 with
  | none => rw [hi] at h; cases h
  | some i0 =>
    rw [hi] at h
    simp only [Option.map_some, Option.some.injEq, Prod.mk.injEq] at h
    exact ⟨i0, rfl, h.1, h.2.1, h.2.2⟩

set_option maxRecDepth 100000 in
set_option maxHeartbeats 8000000 in
theorem lawPVars (w : World) (A : Option Addr) (n c : Nat) (hn : n ≤ maxLen) (hnc : n ≤ c) (hb : Byt w A n) :
    Calls Try.prog 4 #[.slice A n c] w fun e w' => Yes w e w' := by
  obtain ⟨i0, hi0, hz0, hz1, hz2⟩ := info_parts_s
  have DR := Lib.hid (drawTVars w A n c hn hnc hb)
  clear hb
  have hn' := hn
  unfold maxLen at hn'
  by_cases hl : 1048576 < n
  · have hd : decide ((1048576 : Int) < (n : Int)) = true := by simp; omega
    go_enter Try.func4, Try.ntmps4
    go_wp2_with fail
    go_ret
    exact ⟨rfl, Fr.refl _ _⟩
  have hd : decide ((1048576 : Int) < (n : Int)) = false := by simp; omega
  clear hl
  go_enter Try.func4, Try.ntmps4
  go_wp2_with fail
  refine DR.out.mono ?_
  rintro e w1 ⟨s, rfl, hs, hf1⟩
  have HF1 := Lib.hid hf1
  clear hf1
  have hsm : s.length ≤ maxLen := by unfold maxLen; omega
  have IV := Lib.hid (implVars w1 s hsm)
  have SV : Hid (∀ W, Calls Try.prog 20 #[S s] W fun e w' => AnsVars s W e w') := fun W => specVars W s hsm
  go_wp2_with fail
  refine IV.out.mono ?_
  rintro e w2 ⟨V, vc, b, xs, rfl, ho2, hf2, hor⟩
  have HF2 := Lib.hid (HF1.out.trans hf2)
  have HOW := Lib.hid ho2
  have HX2 : Hid (SSl w2 V xs) := SSl.of_own ho2
  clear hf2 ho2 IV
  go_wp2_with fail
  refine (SV.out _).mono ?_
  rintro e w3 ⟨V', vc', b', ys, rfl, ho3, hf3, hor'⟩
  obtain ⟨rfl, rfl⟩ : ys = xs ∧ b' = b := by
    rcases hor with ⟨t, h, rfl, rfl⟩ | ⟨h, rfl, rfl⟩ <;> rcases hor' with ⟨t', h', rfl, rfl⟩ | ⟨h', rfl, rfl⟩
    · rw [h.unique h']; exact ⟨rfl, rfl⟩
    · exact absurd h (h' t)
    · exact absurd h' (h t')
    · exact ⟨rfl, rfl⟩
  have hxl : ys.length ≤ 100 := by
    rcases hor with ⟨t, h, rfl, _⟩ | ⟨_, rfl, _⟩
    · have := vars_bound h.2.1
      simp only [letS, List.length_map]
      omega
    · simp
  have HF3 := Lib.hid (HF2.out.trans hf3)
  have HX3 : Hid (SSl w3 V ys) := HX2.out.no hf3
  have HY3 : Hid (SSl w3 V' ys) := SSl.of_own ho3
  have SM : Hid (∀ W, Fr No w3 W → Calls Try.prog 18 #[.slice V ys.length vc, .slice V' ys.length vc'] W fun e w' => e = .returned (.bool true) ∧ Fr No W w') := fun W hf => sameTexts_eq W V V' ys vc vc' (HX3.out.no hf) (HY3.out.no hf) (by omega)
  have HOR := Lib.hid hor
  clear hf3 ho3 hor hor' SV HX2
  go_wp2_with fail
  refine (SM.out _ (Fr.refl _ _)).mono ?_
  rintro e w4 ⟨rfl, hf4⟩
  have HF4 := Lib.hid (HF3.out.trans hf4)
  have HX4 : Hid (SSl w4 V ys) := HX3.out.no hf4
  have HG4 := Lib.hid hf4
  clear hf4
  cases b' with
  | false =>
    go_wp2_with fail
    refine (SM.out _ HG4.out).mono ?_
    rintro e w5 ⟨rfl, hf5⟩
    have HF5 := Lib.hid (HF4.out.trans hf5)
    clear hf5
    go_wp2_with fail
    go_ret
    exact ⟨rfl, HF5.out⟩
  | true =>
    obtain ⟨t, HI, hys⟩ : ∃ t, Hid (Ty.Is s t) ∧ ys = letS (addV [] t) := by
      rcases HOR.out with ⟨t, h, e, _⟩ | ⟨_, _, h⟩
      · exact ⟨t, h, e⟩
      · cases h
    have HYS := Lib.hid hys
    have HND : Hid ys.Nodup := by
      rw [hys]
      unfold letS
      refine (List.pairwise_map.2 ((addV_nodup t [] List.nodup_nil).imp_of_mem ?_))
      intro a b ha hb hne e
      have lt := addV_lt t [] (by simp) HI.out.2.1
      exact hne (Ty.letter_inj (lt a ha) (lt b hb) (by simpa using e))
    have HVC : Hid (0 < ys.length → ys.length ≤ vc) := fun h0 => by
      rcases HOW.out.2 with ⟨_, hn⟩ | ⟨g, cap, cur, hv, hle, _⟩
      · omega
      · injection hv with e1 e2 e3
        omega
    clear hys HOW SM HOR
    obtain ⟨W5, hW5, hf5, ho5⟩ : ∃ W, W = w4.alloc (.cells #[] 9) ∧ Fr No w4 W ∧ W.ownsRow w4.heap.size 9 1 (.slice (some ⟨w4.heap.size, 0, none⟩) 0 0) 0 ((List.replicate 0 [111]).map S) := ⟨_, rfl, (Fr.refl _ _).alloc _, ⟨rfl, .inr ⟨_, 0, #[], rfl, Nat.le_refl _, Blk.new _ _ _, Nat.le_refl _, Nat.zero_le _, rfl, rfl⟩⟩⟩
    have HF5 := Lib.hid hf5
    have HO5 := Lib.hid ho5
    clear hf5 ho5
    go_wp2_with fail
    rw [← hW5]
    clear hW5
    go_loopw [8, 9] (fun v u wr => ∃ (j cp : Nat) (B : Option Addr), j ≤ ys.length ∧ u = .int .i64 j ∧ v = .slice B j cp ∧ Fr No w4 wr ∧ wr.ownsRow w4.heap.size 9 1 (.slice B j cp) j ((List.replicate j [111]).map S)) (fun _ u _ => ys.length - (intOf u).toNat)
    case atStart => exact ⟨0, 0, _, Nat.zero_le _, rfl, rfl, HF5.out, HO5.out⟩
    case round =>
      obtain ⟨j, cp, B, hj, rfl, rfl, hfr, hor⟩ := hrel
      have HFR := Lib.hid hfr
      have HO := Lib.hid hor
      clear hfr hor
      by_cases hlt : j < ys.length
      · obtain ⟨x, hxj⟩ : ∃ x, ys[j]? = some x := ⟨_, List.getElem?_eq_getElem hlt⟩
        obtain ⟨g, o, rfl, hc⟩ := (HX4.out.no HFR.out) j x hxj
        have hvc := HVC.out (by omega)
        have hjv : (j : Int) ≤ (vc : Int) := by omega
        have hjI : (j : Int) < (ys.length : Int) := by omega
        have hj0 : (0 : Int) ≤ (j : Int) := by omega
        have HTX : Hid (∀ W c', Fr No wr W → Calls Try.prog 21 #[.slice (some ⟨g, o, none⟩) j c', S x] W fun e w' => e = .returned (.bool false) ∧ W = w') := fun W c' hf => by
          have h := hasTexts_any W (some ⟨g, o, none⟩) (ys.take j) c' x (((HX4.out.no HFR.out).no hf).take j) (by simp; omega)
          rw [List.length_take, Nat.min_eq_left (by omega)] at h
          refine h.mono ?_
          rintro e w' ⟨b, rfl, hb, rfl⟩
          refine ⟨?_, rfl⟩
          cases b with
          | false => rfl
          | true => exact absurd (hb.1 rfl) (take_not HND.out hxj)
        have HFD : Hid (Fr No w4 wr.drew) := HFR.out.drew
        have HOD : Hid (wr.drew.ownsRow w4.heap.size 9 1 (.slice B j cp) j ((List.replicate j [111]).map S)) := HO.out
        have hWD : Fr No wr wr.drew := (Fr.refl _ _).drew
        clear hxj
        go_wp2_with fail
        go_region_held3 (fun w' => w'.cell? ⟨g, o + j, none⟩ = some (S x)) (go_keep)
          (first | (go_at_call 21; ((with_reducible refine (HTX.out _ _ hWD).mono ?_); rintro e w6 ⟨rfl, rfl⟩)))
        all_goals
          clear hWD HTX
          generalize wr.drew = wd at HFD HOD ⊢
          have hown := HOD.out
          have ARM : Hid (∀ (v' : Value) (w7 : World), w7.ownsRow w4.heap.size 9 1 v' (j + 1) ((List.replicate j [111]).map S ++ [S [111]]) → (wd.alloc (.cells #[S [111]] 9)).grownBy w7 (Value.slice B j cp).ownBlock → ∃ g' cap', v' = .slice (some ⟨g', 0, none⟩) (j + 1) cap' ∧ Hid (Fr No w4 w7 ∧ w7.ownsRow w4.heap.size 9 1 (.slice (some ⟨g', 0, none⟩) (j + 1) cap') (j + 1) ((List.replicate (j + 1) [111]).map S))) := by
            intro v' w7 ho hg
            obtain ⟨g', cap', rfl⟩ : ∃ g' cap', v' = .slice (some ⟨g', 0, none⟩) (j + 1) cap' := by
              rcases ho.2 with ⟨_, hn⟩ | ⟨g', cap', cur, hv, _⟩
              · omega
              · exact ⟨g', cap', hv⟩
            refine ⟨g', cap', rfl, (HFD.out.trans ((Fr.refl No _).alloc _)).grown hg (fun b hb => .inr ?_), ?_⟩
            · exact (HOD.out.lt b hb).1
            · rw [List.replicate_succ', List.map_append]
              exact ho
          have hs4 : w4.heap.size ≤ wd.heap.size := HFD.out.size
          have hyl : j ≤ 100 := by omega
          clear HOD
          go_wp2_with (at_builtin; refine wpList_append_own _ rfl _ _ 27 rfl w4.heap.size 9 i0 (.string ⟨#[]⟩) 1 16 Try.underlying27 hi0 hz0 hz1 hz2 rfl (by decide) _ _ _ rfl (hown.alloc _) ⟨wd.heap.size, 0, none⟩ 1 1 [S [111]] rfl rfl (cell_one_new _ _ _) (by simp [Value.oneCell']) (by unfold maxLen; omega) (by omega) (by simp; omega) ?_; intro v' w7 hown' hgrow _; obtain ⟨g', cap', rfl, HN⟩ := ARM.out v' w7 hown' hgrow; clear hown' hgrow)
          go_roundw
          case rel => exact ⟨j + 1, cap', _, by omega, by go_num, rfl, HN.out.1, HN.out.2⟩
          case measure => simp [intOf]; omega
      · obtain rfl : j = ys.length := by omega
        have e1 : (List.replicate ys.length ([111] : List UInt8)).length = ys.length := List.length_replicate
        have hzl : t.size ≤ 40 := HI.out.2.2
        obtain ⟨pz, pv, pl⟩ := put_allO t (addV [] t) (fun n hn => (addV_mem t [] n).2 (.inr hn))
        have HPI : Hid (PtR s ys (List.replicate ys.length [111]) (t.put (asg (allO (addV [] t)))).text true) := by
          refine .inl ⟨t, allO (addV [] t), HI.out, ?_, by rw [pz]; exact hzl, rfl, rfl⟩
          have h := allO_is (vs := addV [] t) (addV_nodup t [] List.nodup_nil) (addV_lt t [] (by simp) HI.out.2.1) (by have := vars_bound HI.out.2.1; omega)
          rw [List.map_const', ← HYS.out] at h
          have e2 : (addV [] t).length = ys.length := by rw [HYS.out]; simp [letS]
          rw [e2] at h
          exact h
        have HSB : Hid (SSl wr B (List.replicate ys.length [111])) := by
          refine SSl.of_own (c := cp) (B := w4.heap.size) ?_
          rw [e1]
          exact HO.out
        have PT : Hid (Calls Try.prog 22 #[S s, .slice V ys.length vc, .slice B ys.length cp] wr fun e w' => e = .returned (.tuple #[S (t.put (asg (allO (addV [] t)))).text, .bool true]) ∧ Fr No wr w') := by
          have h := implPut wr s V B ys (List.replicate ys.length [111]) vc cp (by unfold maxLen; omega) (HX4.out.no HFR.out) HSB.out (by omega) (by rw [e1]; omega) (fun x hx => by
            rw [HYS.out] at hx
            obtain ⟨k, _, rfl⟩ := List.mem_map.1 hx
            unfold maxLen
            simp) (fun x hx => by
            rw [(List.mem_replicate.1 hx).2]
            unfold maxLen
            simp)
          rw [e1] at h
          refine h.mono ?_
          rintro e w' ⟨a, ok, rfl, hp, hf⟩
          obtain ⟨rfl, rfl⟩ := HPI.out.one hp
          exact ⟨rfl, hf⟩
        have HPX : Hid (Ty.Is (t.put (asg (allO (addV [] t)))).text (t.put (asg (allO (addV [] t))))) := ⟨rfl, pl, by rw [pz]; exact hzl⟩
        have SZ : Hid (∀ W, Calls Try.prog 17 #[S s] W fun e w' => e = .returned (.int .i64 (t.size : Int)) ∧ Fr No W w') := fun W => size_is HI.out W
        have SX : Hid (∀ W, Calls Try.prog 17 #[S (t.put (asg (allO (addV [] t)))).text] W fun e w' => e = .returned (.int .i64 (t.size : Int)) ∧ Fr No W w') := fun W => by
          have h := size_is HPX.out W
          rwa [pz] at h
        have VX : Hid (∀ W, Calls Try.prog 16 #[S (t.put (asg (allO (addV [] t)))).text] W fun e w' => (∃ V vc, e = .returned (.tuple #[.slice V 0 vc, .bool true])) ∧ Fr No W w') := fun W => (implVars W _ (by have := HPX.out.short; unfold maxLen; omega)).mono (by
          rintro e w' ⟨V, vc, b, zs, rfl, ho, hf, ⟨t', h', rfl, rfl⟩ | ⟨h, rfl, rfl⟩⟩
          · rw [h'.unique HPX.out, pv]
            exact ⟨⟨_, _, rfl⟩, hf⟩
          · exact absurd HPX.out (h _))
        generalize (t.put (asg (allO (addV [] t)))).text = px at PT SX VX
        have HFW := Lib.hid (HF4.out.trans HFR.out)
        clear pz pv pl HPI HSB HPX HO e1
        go_wp2_with fail
        refine PT.out.mono ?_
        rintro e w6 ⟨rfl, hf6⟩
        have HF6 := Lib.hid (HFW.out.trans hf6)
        clear hf6
        go_wp2_with fail
        refine (VX.out _).mono ?_
        rintro e w7 ⟨⟨V7, vc7, rfl⟩, hf7⟩
        have HF7 := Lib.hid (HF6.out.trans hf7)
        clear hf7
        go_wp2_with fail
        refine (SX.out _).mono ?_
        rintro e w8 ⟨rfl, hf8⟩
        have HF8 := Lib.hid (HF7.out.trans hf8)
        clear hf8
        go_wp2_with fail
        refine (SZ.out _).mono ?_
        rintro e w9 ⟨rfl, hf9⟩
        have HF9 := Lib.hid (HF8.out.trans hf9)
        clear hf9
        go_wp2_with fail
        go_ret
        exact ⟨rfl, HF9.out⟩
end Go.Proofs.Ytjkkjdmfhdoojaa
