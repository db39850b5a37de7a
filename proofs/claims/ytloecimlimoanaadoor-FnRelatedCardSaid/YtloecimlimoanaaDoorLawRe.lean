/- The plain law FnRelated. -/
import Derived.Test.YtloecimlimoanaaDoorRpr
import Derived.Test.YtloecimlimoanaaDoorDrl
import Derived.Test.YtloecimlimoanaaDoorRla
import Derived.Test.YtloecimlimoanaaDoorBk2
import Derived.Test.YtloecimlimoanaaDoorL6s
namespace Go.Proofs.YtloecimlimoanaaDoor
open Go.RowKit Go.ChangeMaps Go.Shelf

/-- a relation, and whether there is one, is returned: part by part -/
def AnsCe (Lo Ro : Int) (Po : List Int) (bo : Bool) (w : World) (e : Ending) (w' : World) : Prop := ∃ A n c, e = .returned (.tuple #[RV Lo Ro A n c, .bool bo]) ∧ Fr No w w' ∧ OR w' w.heap.size A n c Po

set_option maxRecDepth 100000 in
set_option maxHeartbeats 4000000 in
theorem lawRelatedPl (w : World) (HTAB : TZt w) (A : Option Addr) (n c : Nat) (hn : n ≤ maxLen) (hnc : n ≤ c) (hb : Byt w A n) :
    Calls Tryd.prog 3 #[.slice A n c] w fun e w' => Yes w e w' := by
  obtain ⟨i0, hi0, hz0, hz1, hz2⟩ := info_parts info_rel
  obtain ⟨j0, hj0, hy0, hy1, hy2⟩ := info_parts info_int
  have DR := Lib.hid (drawRelated w A n c hn hnc hb)
  have HT := Lib.hid HTAB
  clear HTAB hb
  have hn' := hn
  unfold maxLen at hn'
  by_cases hbig : 1048576 < n
  · have hd : decide ((1048576 : Int) < (n : Int)) = true := by simp; omega
    go_enter Tryd.func3, Tryd.ntmps3
    go_wp2_with fail
    go_ret
    exact ⟨rfl, Fr.refl _ _⟩
  have hd : decide ((1048576 : Int) < (n : Int)) = false := by simp; omega
  go_enter Tryd.func3, Tryd.ntmps3
  go_wp2_with fail
  refine DR.out.mono ?_
  rintro e w1 ⟨s, gn, gr, ns, L, R, ps, x, y, rfl, hs, h1, h2, h3, hN, hR, hf1⟩
  have HF1 := Lib.hid hf1
  have HN := Lib.hid hN
  have HR := Lib.hid hR
  have HT1 : Hid (TZt w1) := HT.out.fr hf1 (fun h => h)
  have HS : Hid (s.length ≤ maxLen ∧ ns.length ≤ 1048576 ∧ (∀ x ∈ ns, x.length ≤ maxLen) ∧ ps.length ≤ 100 ∧ s.length ≤ 40) := ⟨by unfold maxLen; omega, by omega, fun x hx => by have := h2 x hx; unfold maxLen; omega, h3, hs⟩
  have IM : Hid (∀ W, Fr No w1 W → Calls Tryd.prog 13 #[S s, .slice (some ⟨gn, 0, none⟩) ns.length ns.length, .slice (some ⟨gr, 0, none⟩) 1 1, .int .i64 x, .int .i64 y] W fun e w' => RtdP s ns [(L, R, ps)] x y W e w') := fun W hf => related_any W s _ _ _ _ ns [(L, R, ps)] x y HS.out.1 (HN.out.keep hf (fun _ h => h.elim)) (HR.out.no hf) HS.out.2.1 (by simp) HS.out.2.2.1 (HT1.out.fr hf (fun h => h))
  have SP : Hid (∀ W, Fr No w1 W → Calls Tryd.prog 14 #[S s, .slice (some ⟨gn, 0, none⟩) ns.length ns.length, .slice (some ⟨gr, 0, none⟩) 1 1, .int .i64 x, .int .i64 y] W fun e w' => RtdP s ns [(L, R, ps)] x y W e w') := fun W hf => specRelated_any W s _ _ _ _ ns [(L, R, ps)] x y HS.out.1 (Nat.le_refl _) (HN.out.keep hf (fun _ h => h.elim)) (HR.out.no hf) HS.out.2.1 (by simp) HS.out.2.2.1
  clear hf1 hN hR DR hd hbig hn hn' hnc h1 h2 h3 hs
  go_wp2_with fail
  refine (IM.out _ (Fr.refl _ _)).mono ?_
  rintro e w2 ⟨hf2, b1, rfl, hb1⟩
  have HF2 := Lib.hid hf2
  clear hf2
  go_wp2_with fail
  refine (SP.out _ HF2.out).mono ?_
  rintro e w3 ⟨hf3, b2, rfl, hb2⟩
  have HF3 := Lib.hid (HF2.out.trans hf3)
  obtain rfl : b1 = b2 := Bool.eq_iff_iff.2 (hb1.trans hb2.symm)
  clear hf3 hb2 SP IM
  by_cases hbo : b1 = false
  · subst hbo
    clear hb1
    go_wp2_with fail
    go_ret
    exact ⟨rfl, HF1.out.trans HF3.out⟩
  obtain rfl : b1 = true := by cases b1 with | false => exact (hbo rfl).elim | true => rfl
  obtain ⟨t, i, l, r, ca, cb, xn, yn, hD⟩ := (hb1.1 rfl).data1
  obtain rfl := hD.el
  obtain rfl := hD.er
  obtain rfl := hD.ex
  obtain rfl := hD.ey
  have HD := Lib.hid hD
  have HBL : Hid ((bk l r ps).length ≤ 2000000) := by have := bk_len hD.ok; have := HS.out.2.2.2.1; show _ ≤ _; omega
  have BKC : Hid (∀ W D cp, Fr No w1 W → ISl W D ps → Calls Tryd.prog 15 #[RV l r D ps.length cp] W fun e w' => AnsCe r l (bk l r ps) true W e w') := fun W D cp hf hi => by
    have h := implRelBack W l r D cp ps hi (by have := HS.out.2.2.2.1; omega) (HT1.out.fr hf (fun h => h))
    rw [backO_bk HD.out.ok] at h
    exact h
  have RL2 : Hid (∀ W gb cap, Fr No w1 W → Rels W (some ⟨gb, 0, none⟩) [((r : Int), (l : Int), bk l r ps)] → Calls Tryd.prog 13 #[S s, .slice (some ⟨gn, 0, none⟩) ns.length ns.length, .slice (some ⟨gb, 0, none⟩) 1 cap, .int .i64 yn, .int .i64 xn] W fun e w' => e = .returned (.bool true) ∧ Fr No W w') := fun W gb cap hf hr => (related_any W s _ _ _ _ ns [((r : Int), (l : Int), bk l r ps)] yn xn HS.out.1 (HN.out.keep hf (fun _ h => h.elim)) hr HS.out.2.1 (by simp) HS.out.2.2.1 (HT1.out.fr hf (fun h => h))).mono (by
    rintro e w' ⟨hf, b, rfl, hb⟩
    obtain rfl : b = true := hb.2 HD.out.back
    exact ⟨rfl, hf⟩)
  have SCT : Hid (∀ (W : World) (u : List UInt8) (G : Option Addr) (z : Int) (cp : Nat), Fr No w1 W → u.length ≤ maxLen → ISl W G [z] → Calls Tryd.prog 16 #[S u, .slice (some ⟨gn, 0, none⟩) ns.length ns.length, .slice G 1 cp] W fun e w' => ∃ q : Int, e = .returned (.int .i64 q) ∧ StcR u ns [z] q ∧ Fr No W w') := fun W u G z cp hf hu hz => implStc W u _ G ns [z] _ cp hu (HN.out.keep hf (fun _ h => h.elim)) hz (by have := HS.out.2.1; omega) (by simp) HS.out.2.2.1
  obtain ⟨W5, hW5, hf5, hr0, hr1, hr2, hs5⟩ : ∃ W, W = ((w3.alloc (.cells #[] 30)).alloc (.cells #[] 3)).alloc (.cells #[] 3) ∧ Fr No w3 W ∧ W.ownsRow w3.heap.size 30 3 (.slice (some ⟨w3.heap.size, 0, none⟩) 0 0) 0 [] ∧ OR W w3.heap.size (some ⟨w3.heap.size + 1, 0, none⟩) 0 0 [] ∧ OR W w3.heap.size (some ⟨w3.heap.size + 1 + 1, 0, none⟩) 0 0 [] ∧ W.heap.size = w3.heap.size + 1 + 1 + 1 := by
    refine ⟨_, rfl, (((Fr.refl No w3).alloc _).alloc _).alloc _, rowR_fr (rowR_new w3) (((Fr.refl No _).alloc _).alloc _) (fun _ _ h => h), ?_, ?_, by simp⟩
    · have h := (or_new (w3.alloc (.cells #[] 30))).no ((Fr.refl No _).alloc (.cells #[] 3))
      simp only [World.size_alloc] at h
      exact h.low (Nat.le_succ _)
    · have h := or_new ((w3.alloc (.cells #[] 30)).alloc (.cells #[] 3))
      simp only [World.size_alloc] at h
      exact h.low (by omega)
  have HW5 := Lib.hid hW5
  have HF5 := Lib.hid hf5
  have HR0 := Lib.hid hr0
  have HR12 := Lib.hid (And.intro hr1 hr2)
  have HZ5 := Lib.hid hs5
  clear hW5 hf5 hr0 hr1 hr2 hs5 hbo hb1 hD
  go_wp2_with fail
  rw [← HW5.out]
  go_loopw [10, 11, 12, 13] (fun a10 a11 a12 u wr => (u = .int .i64 0 ∧ a10 = .slice (some ⟨w3.heap.size, 0, none⟩) 0 0 ∧ a11 = .slice (some ⟨w3.heap.size + 1, 0, none⟩) 0 0 ∧ a12 = .slice (some ⟨w3.heap.size + 1 + 1, 0, none⟩) 0 0 ∧ wr = W5) ∨ (u = .int .i64 1 ∧ ∃ (gb cb gl cl g2 c2 : Nat), a10 = .slice (some ⟨gb, 0, none⟩) 1 cb ∧ a11 = .slice (some ⟨gl, 0, none⟩) 1 cl ∧ a12 = .slice (some ⟨g2, 0, none⟩) 1 c2 ∧ Fr No w3 wr ∧ Rels wr (some ⟨gb, 0, none⟩) [((r : Int), (l : Int), bk l r ps)] ∧ ISl wr (some ⟨gl, 0, none⟩) [(l : Int)] ∧ ISl wr (some ⟨g2, 0, none⟩) [(r : Int)])) (fun _ _ _ u _ => 1 - (intOf u).toNat)
  case atStart => exact .inl ⟨rfl, rfl, rfl, rfl, rfl⟩
  case round =>
    rcases hrel with ⟨rfl, rfl, rfl, rfl, hwr⟩ | ⟨rfl, gb, cb', gl, cl, g2, c2, rfl, rfl, rfl, hfr, hrels, hil, hir⟩
    · rw [hwr]
      clear hwr
      obtain ⟨g1, o1, D, cp, e1, k0, k1, k2, hi, _⟩ := (HR.out.no (HF3.out.trans HF5.out)) 0 l r ps rfl
      injection e1 with e1
      injection e1 with e1 e2
      subst e1 e2
      rw [Nat.zero_mul, Nat.zero_add] at k0 k1 k2
      have HGR : Hid (∀ V, Fr No w3 V → V.cell? ⟨gr, 0, none⟩ = some (.int .i64 (l : Int)) ∧ V.cell? ⟨gr, 1, none⟩ = some (.int .i64 (r : Int))) := fun V hf => by
        obtain ⟨g1, o1, D', cp', e1, q0, q1, _⟩ := (HR.out.no (HF3.out.trans hf)) 0 l r ps rfl
        injection e1 with e1
        injection e1 with e1 e2
        subst e1 e2
        rw [Nat.zero_mul, Nat.zero_add] at q0 q1
        exact ⟨q0, q1⟩
      have BK := Lib.hid (BKC.out W5 D cp (HF3.out.trans HF5.out) hi)
      clear hi
      go_wp2_with fail
      refine BK.out.mono ?_
      rintro e wq ⟨A6, n6, c6, rfl, hf6, ho6⟩
      obtain ⟨Wq, hWq, hf7, hb7⟩ : ∃ W, W = wq.alloc (.cells #[.int .i64 (r : Int), .int .i64 (l : Int), .slice A6 n6 c6] 30) ∧ Fr No wq W ∧ Blk W wq.heap.size 30 #[.int .i64 (r : Int), .int .i64 (l : Int), .slice A6 n6 c6] := ⟨_, rfl, (Fr.refl _ _).alloc _, Blk.new _ _ _⟩
      have q0 : Wq.cell? ⟨wq.heap.size, 0, none⟩ = some (.int .i64 (r : Int)) := (hb7.cell 0).trans rfl
      have q1 : Wq.cell? ⟨wq.heap.size, 1, none⟩ = some (.int .i64 (l : Int)) := (hb7.cell 1).trans rfl
      have q2 : Wq.cell? ⟨wq.heap.size, 2, none⟩ = some (.slice A6 n6 c6) := (hb7.cell 2).trans rfl
      have HF7 := Lib.hid (hf6.trans hf7)
      have HO7 := Lib.hid (ho6.no hf7)
      have hfa : Fr No W5 (Wq.alloc (.cells #[.int .i64 (r : Int), .int .i64 (l : Int), .slice A6 n6 c6] 30)) := HF7.out.alloc _
      have HFA := Lib.hid hfa
      have hown := rowR_fr HR0.out hfa (fun _ _ h => h)
      have hbs : w3.heap.size ≤ Wq.heap.size := by have h1 := HF7.out.size; have h2 := HZ5.out; omega
      have HWQ : Hid (W5.heap.size ≤ Wq.heap.size) := HF7.out.size
      have hn6 : n6 = (bk l r ps).length := HO7.out.1
      have ARM : Hid (∀ (v' : Value) (wz : World), wz.ownsRow w3.heap.size 30 3 v' 1 [.int .i64 (r : Int), .int .i64 (l : Int), .slice A6 n6 c6] → (Wq.alloc (.cells #[.int .i64 (r : Int), .int .i64 (l : Int), .slice A6 n6 c6] 30)).grownBy wz (Value.slice (some ⟨w3.heap.size, 0, none⟩) 0 0).ownBlock → ∃ gb cap, v' = .slice (some ⟨gb, 0, none⟩) 1 cap ∧ Hid (Fr No w3 wz ∧ OR wz w3.heap.size (some ⟨w3.heap.size + 1, 0, none⟩) 0 0 [] ∧ OR wz w3.heap.size (some ⟨w3.heap.size + 1 + 1, 0, none⟩) 0 0 [] ∧ w3.heap.size + 1 + 1 + 1 ≤ wz.heap.size ∧ ∀ V, Fr (fun b => b = w3.heap.size + 1 ∨ b = w3.heap.size + 1 + 1) wz V → Rels V (some ⟨gb, 0, none⟩) [((r : Int), (l : Int), bk l r ps)])) := by
        intro v' wz ho hg
        have hfo := grown_own hg
        have hfa := HFA.out
        have hnot : ∀ b, Own (some ⟨w3.heap.size, 0, none⟩) b → w3.heap.size ≤ b ∧ ∃ cs, Blk (Wq.alloc (.cells #[.int .i64 (r : Int), .int .i64 (l : Int), .slice A6 n6 c6] 30)) b 30 cs := fun b hb => rowR_blk hown hb
        have ha := (Fr.refl No Wq).alloc (.cells #[.int .i64 (r : Int), .int .i64 (l : Int), .slice A6 n6 c6] 30)
        have hor9 := (HO7.out.no ha).fr hfo (fun b hb h => by
          obtain ⟨_, cs, hbk⟩ := hnot b h
          exact (HO7.out.no ha).other hbk (by decide) hb)
        have h1 := (HR12.out.1.no hfa).fr hfo (fun b hb h => by
          obtain ⟨_, cs, hbk⟩ := hnot b h
          exact (HR12.out.1.no hfa).other hbk (by decide) hb)
        have h2 := (HR12.out.2.no hfa).fr hfo (fun b hb h => by
          obtain ⟨_, cs, hbk⟩ := hnot b h
          exact (HR12.out.2.no hfa).other hbk (by decide) hb)
        rw [hn6] at ho
        obtain ⟨gb, cap, e, _, _⟩ := rowR_one ho (OR.isl hor9) HBL.out
        subst e
        refine ⟨gb, cap, rfl, (HF5.out.trans hfa).then_ hfo (fun b hb h => by have := (hnot b h).1; omega), h1, h2, by have := hfo.size; have := hfa.size; have := HZ5.out; omega, fun V hV => ?_⟩
        have hov := rowR_fr ho hV (fun b hb h => by
          obtain ⟨_, cs, hbk⟩ := rowR_blk ho hb
          rcases h with h | h
          · exact h1.other hbk (by decide) ⟨_, rfl, h.symm⟩
          · exact h2.other hbk (by decide) ⟨_, rfl, h.symm⟩)
        have hiv := hor9.fr hV (fun b hb h => by
          have h3 := (hor9.bounds hb).1
          have h4 := HZ5.out
          omega)
        obtain ⟨gb', cap', e, _, hrels⟩ := rowR_one hov (OR.isl hiv) HBL.out
        injection e with e1 e2 e3
        injection e1 with e1
        injection e1 with e1
        subst e1
        exact hrels
      have ARML : Hid (∀ (wz : World) (v' : Value) (wy : World), Fr No w3 wz → OR wz w3.heap.size (some ⟨w3.heap.size + 1, 0, none⟩) 0 0 [] → OR wz w3.heap.size (some ⟨w3.heap.size + 1 + 1, 0, none⟩) 0 0 [] → w3.heap.size + 1 + 1 + 1 ≤ wz.heap.size → wy.ownsRow w3.heap.size 3 1 v' (0 + 1) (([] : List Int).map (Value.int .i64) ++ [.int .i64 (l : Int)]) → (wz.alloc (.cells #[.int .i64 (l : Int)] 3)).grownBy wy (Value.slice (some ⟨w3.heap.size + 1, 0, none⟩) 0 0).ownBlock → (v'.ownBlock = (Value.slice (some ⟨w3.heap.size + 1, 0, none⟩) 0 0).ownBlock ∨ v'.ownBlock = some (wz.alloc (.cells #[.int .i64 (l : Int)] 3)).heap.size) →
          ∃ gl cl, v' = .slice (some ⟨gl, 0, none⟩) (0 + 1) cl ∧ Hid (Fr No w3 wy ∧ Fr (fun b => b = w3.heap.size + 1 ∨ b = w3.heap.size + 1 + 1) wz wy ∧ OR wy w3.heap.size (some ⟨gl, 0, none⟩) (0 + 1) cl [(l : Int)] ∧ gl ≠ w3.heap.size + 1 + 1 ∧ OR wy w3.heap.size (some ⟨w3.heap.size + 1 + 1, 0, none⟩) 0 0 [] ∧ w3.heap.size + 1 + 1 + 1 ≤ wy.heap.size)) := by
        intro wz v' wy hfz h1 h2 hsz ho hg hvv
        obtain ⟨gl, cl, rfl, hf, ho'⟩ := or_more h1 ((Fr.refl No wz).alloc _) ho hg
        have hfk : Fr (fun b => b = w3.heap.size + 1 ∨ b = w3.heap.size + 1 + 1) wz wy := hf.mono (fun b _ h => by
          obtain ⟨a, ha, hab⟩ := h
          injection ha with ha
          subst ha
          exact .inl hab.symm)
        refine ⟨gl, cl, rfl, hfz.then_ hfk (fun b hb h => by omega), hfk, ho', ?_, h2.fr hf (fun b hb h => ?_), by have := hf.size; omega⟩
        · rcases hvv with h | h
          · have h : some gl = some (w3.heap.size + 1) := h
            injection h with h
            omega
          · have h : some gl = some (wz.alloc (.cells #[.int .i64 (l : Int)] 3)).heap.size := h
            injection h with h
            simp at h
            omega
        · obtain ⟨a, ha, hab⟩ := hb
          injection ha with ha
          subst ha
          obtain ⟨a', ha', hab'⟩ := h
          injection ha' with ha'
          subst ha'
          have hab : w3.heap.size + 1 + 1 = b := hab
          have hab' : w3.heap.size + 1 = b := hab'
          omega
      have ARMR : Hid (∀ (wy : World) (gl cl : Nat) (v' : Value) (wx : World), Fr No w3 wy → OR wy w3.heap.size (some ⟨gl, 0, none⟩) (0 + 1) cl [(l : Int)] → gl ≠ w3.heap.size + 1 + 1 → OR wy w3.heap.size (some ⟨w3.heap.size + 1 + 1, 0, none⟩) 0 0 [] → wx.ownsRow w3.heap.size 3 1 v' (0 + 1) (([] : List Int).map (Value.int .i64) ++ [.int .i64 (r : Int)]) → (wy.alloc (.cells #[.int .i64 (r : Int)] 3)).grownBy wx (Value.slice (some ⟨w3.heap.size + 1 + 1, 0, none⟩) 0 0).ownBlock →
          ∃ g2 c2, v' = .slice (some ⟨g2, 0, none⟩) (0 + 1) c2 ∧ Hid (Fr No w3 wx ∧ Fr (fun b => b = w3.heap.size + 1 ∨ b = w3.heap.size + 1 + 1) wy wx ∧ ISl wx (some ⟨gl, 0, none⟩) [(l : Int)] ∧ ISl wx (some ⟨g2, 0, none⟩) [(r : Int)])) := by
        intro wy gl cl v' wx hfz h1 hne h2 ho hg
        obtain ⟨g2, c2, rfl, hf, ho'⟩ := or_more h2 ((Fr.refl No wy).alloc _) ho hg
        have hfk : Fr (fun b => b = w3.heap.size + 1 ∨ b = w3.heap.size + 1 + 1) wy wx := hf.mono (fun b _ h => by
          obtain ⟨a, ha, hab⟩ := h
          injection ha with ha
          subst ha
          exact .inr hab.symm)
        refine ⟨g2, c2, rfl, hfz.then_ hfk (fun b hb h => by omega), hfk, OR.isl (h1.fr hf (fun b hb h => ?_)), OR.isl ho'⟩
        obtain ⟨a, ha, hab⟩ := hb
        injection ha with ha
        subst ha
        obtain ⟨a', ha', hab'⟩ := h
        injection ha' with ha'
        subst ha'
        have hab : gl = b := hab
        have hab' : w3.heap.size + 1 + 1 = b := hab'
        omega
      have hzq : Wq.heap.size = wq.heap.size + 1 := by rw [hWq]; simp
      have hnews : ∀ (j : Nat) (u : Value), [Value.int .i64 (r : Int), .int .i64 (l : Int), .slice A6 n6 c6][j]? = some u → (Wq.alloc (.cells #[.int .i64 (r : Int), .int .i64 (l : Int), .slice A6 n6 c6] 30)).cell? ((⟨wq.heap.size + 1, 0, none⟩ : Addr).add j) = some u := by rw [← hzq]; exact rel_new
      clear hf6 ho6 hf7 hb7 hn6 BK HF7 HO7 hzq hfa HFA HWQ
      subst hWq
      go_wp2_with (first | (at_builtin; refine wpList_append_own _ rfl _ _ 24 rfl w3.heap.size 30 i0 (.agg #[.int .i64 0, .int .i64 0, .slice none 0 0]) 3 40 Tryd.underlying24 hi0 hz0 hz1 hz2 rfl (by decide) _ _ _ rfl hown ⟨wq.heap.size + 1, 0, none⟩ 1 1 [.int .i64 (r : Int), .int .i64 (l : Int), .slice A6 n6 c6] rfl rfl hnews (by simp [Value.oneCell']) (by unfold maxLen; omega) (by omega) (by simp at hbs ⊢; omega) ?_; intro v' wz hown' hgrow _; obtain ⟨gb, cap, rfl, n4⟩ := ARM.out v' wz hown' hgrow; clear hown' hgrow; obtain ⟨kz0, kz1⟩ := HGR.out wz n4.out.1; have bz : w3.heap.size ≤ wz.heap.size := (by have := n4.out.2.2.2.1; omega)) | (at_builtin; refine wpList_append_own_at _ rfl _ _ 28 rfl w3.heap.size 3 j0 (.int .i64 0) 1 8 Tryd.underlying28 hj0 hy0 hy1 hy2 rfl (by decide) (.slice (some ⟨w3.heap.size + 1, 0, none⟩) 0 0) 0 _ rfl (n4.out.2.1.2.alloc _) ⟨wz.heap.size, 0, none⟩ 1 1 [.int .i64 (l : Int)] rfl rfl (cell_one_new _ _ _) (by simp [Value.oneCell']) (by unfold maxLen; omega) (by omega) (by simp; omega) ?_; intro v' wy hown' hgrow _ hvv; obtain ⟨gl, cl, rfl, n5⟩ := ARML.out wz v' wy n4.out.1 n4.out.2.1 n4.out.2.2.1 n4.out.2.2.2.1 hown' hgrow hvv; clear hown' hgrow hvv; obtain ⟨ky0, ky1⟩ := HGR.out wy n5.out.1; have bv : w3.heap.size ≤ wy.heap.size := (by have := n5.out.2.2.2.2.2; omega)) | (at_builtin; refine wpList_append_own _ rfl _ _ 28 rfl w3.heap.size 3 j0 (.int .i64 0) 1 8 Tryd.underlying28 hj0 hy0 hy1 hy2 rfl (by decide) (.slice (some ⟨w3.heap.size + 1 + 1, 0, none⟩) 0 0) 0 _ rfl (n5.out.2.2.2.2.1.2.alloc _) ⟨wy.heap.size, 0, none⟩ 1 1 [.int .i64 (r : Int)] rfl rfl (cell_one_new _ _ _) (by simp [Value.oneCell']) (by unfold maxLen; omega) (by omega) (by simp; omega) ?_; intro v' wx hown' hgrow _; obtain ⟨g2, c2, rfl, n6'⟩ := ARMR.out wy gl cl v' wx n5.out.1 n5.out.2.2.1 n5.out.2.2.2.1 n5.out.2.2.2.2.1 hown' hgrow; clear hown' hgrow))
      clear hown hnews
      go_wp2_with fail
      go_roundw
      case rel => exact .inr ⟨rfl, gb, cap, gl, cl, g2, c2, rfl, rfl, rfl, n6'.out.1, n4.out.2.2.2.2 _ (n5.out.2.1.trans n6'.out.2.1), n6'.out.2.2.1, n6'.out.2.2.2⟩
      case measure => simp [intOf]
    · have HRB := Lib.hid hrels
      have HIL := Lib.hid hil
      have HIR := Lib.hid hir
      have HFR := Lib.hid (HF3.out.trans hfr)
      have hcat : (((((({ data := #[40, 42, 32] } : ByteArray) ++ { data := s.toArray }) ++ { data := #[32] }) ++ { data := s.toArray }) ++ { data := #[41] })) = { data := (twoS s).toArray } := by
        apply ByteArray.ext
        simp [twoS]
      have hsl : (s.length : Int) ≤ 40 := by have := HS.out.2.2.2.2; omega
      have HTW : Hid ((twoS s).length ≤ maxLen) := by have := HS.out.2.2.2.2; show _ ≤ _; unfold maxLen twoS; simp; omega
      clear hrels hil hir hfr
      go_wp2_with fail
      refine (SCT.out wr s _ _ cl HFR.out HS.out.1 HIL.out).mono ?_
      rintro e w4 ⟨q1, rfl, hq1, hf4⟩
      obtain rfl := HD.out.count hq1
      have HF4 := Lib.hid (HFR.out.trans hf4)
      have HZ4 := Lib.hid hf4
      clear hf4 hq1
      go_wp2_with fail
      refine (SCT.out w4 s _ _ c2 HF4.out HS.out.1 (HIR.out.keep HZ4.out (fun _ h => h.elim))).mono ?_
      rintro e w5 ⟨q2, rfl, hq2, hf5⟩
      obtain rfl := HD.out.count' hq2
      have HF5 := Lib.hid (HF4.out.trans hf5)
      have HZ5 := Lib.hid (HZ4.out.trans hf5)
      clear hf5 hq2
      go_wp2_with fail
      refine (SCT.out w5 (twoS s) _ _ cl HF5.out HTW.out (HIL.out.keep HZ5.out (fun _ h => h.elim))).mono ?_
      rintro e w6 ⟨q3, rfl, hq3, hf6⟩
      have HF6 := Lib.hid (HF5.out.trans hf6)
      have HZ6 := Lib.hid (HZ5.out.trans hf6)
      have HQ3 := Lib.hid hq3
      clear hf6 hq3
      by_cases hp3 : 0 < q3
      · go_wp2_with fail
        refine (SCT.out w6 (twoS s) _ _ c2 HF6.out HTW.out (HIR.out.keep HZ6.out (fun _ h => h.elim))).mono ?_
        rintro e w7 ⟨q4, rfl, hq4, hf7⟩
        have HF7 := Lib.hid (HF6.out.trans hf7)
        have HZ7 := Lib.hid (HZ6.out.trans hf7)
        have HQ4 := Lib.hid hq4
        clear hf7 hq4
        have BK := Lib.hid (RL2.out w7 gb cb' HF7.out (HRB.out.no HZ7.out))
        by_cases hp4 : 0 < q4
        · obtain ⟨b1, b2, hrp⟩ := HD.out.pair HQ3.out HQ4.out hp3 hp4
          have HRP := Lib.hid hrp
          have hx := HD.out.hx
          have hy := HD.out.hy
          have hx2 : xn * ca ≤ 4096 := Nat.le_trans (Nat.mul_le_mul (Nat.le_of_lt hx) (Nat.le_refl _)) b1
          have hy2 : yn * cb ≤ 4096 := Nat.le_trans (Nat.mul_le_mul (Nat.le_of_lt hy) (Nat.le_refl _)) b2
          have ca1 : ca ≤ 4096 := Nat.le_trans (Nat.le_mul_self ca) b1
          have cb1 : cb ≤ 4096 := Nat.le_trans (Nat.le_mul_self cb) b2
          have px : (xn : Int) * (ca : Int) = ((xn * ca : Nat) : Int) := by simp
          have py : (yn : Int) * (cb : Int) = ((yn * cb : Nat) : Int) := by simp
          have wx : IntKind.i64.wrap ((xn : Int) * (ca : Int)) = (xn : Int) * (ca : Int) := IntWalk.i64_in _ (by rw [px]; omega)
          have wy : IntKind.i64.wrap ((yn : Int) * (cb : Int)) = (yn : Int) * (cb : Int) := IntWalk.i64_in _ (by rw [py]; omega)
          have wx2 : IntKind.i64.wrap ((xn : Int) * (ca : Int) + (xn : Int)) = (xn : Int) * (ca : Int) + (xn : Int) := IntWalk.i64_in _ (by rw [px]; omega)
          have wy2 : IntKind.i64.wrap ((yn : Int) * (cb : Int) + (yn : Int)) = (yn : Int) * (cb : Int) + (yn : Int) := IntWalk.i64_in _ (by rw [py]; omega)
          have ex : ((xn * ca + xn : Nat) : Int) = (xn : Int) * (ca : Int) + (xn : Int) := by simp
          have ey : ((yn * cb + yn : Nat) : Int) = (yn : Int) * (cb : Int) + (yn : Int) := by simp
          have RP : Hid (∀ W, Fr No w1 W → Calls Tryd.prog 13 #[S (twoS s), .slice (some ⟨gn, 0, none⟩) ns.length ns.length, .slice (some ⟨gr, 0, none⟩) 1 1, .int .i64 ((xn : Int) * (ca : Int) + (xn : Int)), .int .i64 ((yn : Int) * (cb : Int) + (yn : Int))] W fun e w' => e = .returned (.bool true) ∧ Fr No W w') := fun W hf => by
            rw [← ex, ← ey]
            refine (related_any W (twoS s) _ _ _ _ ns [((l : Int), (r : Int), ps)] _ _ HTW.out (HN.out.keep hf (fun _ h => h.elim)) (HR.out.no hf) HS.out.2.1 (by simp) HS.out.2.2.1 (HT1.out.fr hf (fun h => h))).mono ?_
            rintro e w' ⟨hf, b, rfl, hb⟩
            obtain rfl : b = true := hb.2 HRP.out
            exact ⟨rfl, hf⟩
          clear hrp hx hy hx2 hy2 ex ey px py b1 b2 ca1 cb1
          go_wp2_with fail
          refine BK.out.mono ?_
          rintro e w8 ⟨rfl, hf8⟩
          have HF8 := Lib.hid (HF7.out.trans hf8)
          clear hf8 BK
          go_wp2_with fail
          refine (RP.out w8 HF8.out).mono ?_
          rintro e w9 ⟨rfl, hf9⟩
          have HF9 := Lib.hid (HF8.out.trans hf9)
          clear hf9
          go_wp2_with fail
          go_ret
          exact ⟨rfl, HF1.out.trans HF9.out⟩
        · go_wp2_with fail
          refine BK.out.mono ?_
          rintro e w8 ⟨rfl, hf8⟩
          have HF8 := Lib.hid (HF7.out.trans hf8)
          clear hf8 BK
          go_wp2_with fail
          go_ret
          exact ⟨rfl, HF1.out.trans HF8.out⟩
      · have BK := Lib.hid (RL2.out w6 gb cb' HF6.out (HRB.out.no HZ6.out))
        go_wp2_with fail
        refine BK.out.mono ?_
        rintro e w8 ⟨rfl, hf8⟩
        have HF8 := Lib.hid (HF6.out.trans hf8)
        clear hf8 BK
        go_wp2_with fail
        go_ret
        exact ⟨rfl, HF1.out.trans HF8.out⟩
end Go.Proofs.YtloecimlimoanaaDoor
