/- Counts of types in the model's own text. -/
import Derived.Test.YtloecimlimoanaaGreatDoorMdl
import Derived.Test.YtloecimlimoanaaGreatDoorSpec2
namespace Go.Proofs.YtloecimlimoanaaGreatDoor
open Go.RowKit Go.ChangeMaps

theorem szs_at {ms : List (Nat × Nat)} {n c j : Nat} (h : ∀ p ∈ ms.take j, p.1 ≠ n) (hj : ms[j]? = some (n, c)) : szs ms n = some c := by
  induction ms generalizing j with
  | nil => simp at hj
  | cons p r ih =>
    obtain ⟨k, d⟩ := p
    cases j with
    | zero =>
      simp at hj
      simp [szs, hj]
    | succ j =>
      have hk : k ≠ n := h (k, d) (by simp)
      simp only [szs, hk, if_false]
      exact ih (j := j) (fun p hp => h p (by rw [List.take_succ_cons]; exact List.mem_cons_of_mem _ hp)) (by simpa using hj)

/-- the count, or -1 -/
def cntI (μ : Nat → Option Nat) (t : Ty) : Int := match t.cnt μ with
  | some c => c
  | none => -1

theorem cntI_some {μ : Nat → Option Nat} {t : Ty} {c : Nat} (h : t.cnt μ = some c) : cntI μ t = c := by simp [cntI, h]
theorem cntI_none {μ : Nat → Option Nat} {t : Ty} (h : t.cnt μ = none) : cntI μ t = -1 := by simp [cntI, h]

def CtSaid (ns : List (List UInt8)) (zs : List Int) (ms : List (Nat × Nat)) (t : Ty) : Prop := ∀ (w : World) (T : Nat → Prop) (A : Option Addr) (c : Nat) (N Z : Option Addr) (nc zc : Nat), (∀ b, T b → b < w.heap.size) → Sl w T A t.kids → SSl w N ns → ISl w Z zs →
  Calls Tryz.prog 66 #[.agg #[S t.atom, .slice A t.kids.len c], .slice N ns.length nc, .slice Z zs.length zc] w fun e w' => e = .returned (.int .i64 (cntI (szs ms) t)) ∧ Fr No w w'

set_option maxHeartbeats 1000000 in
theorem ct_o (ns : List (List UInt8)) (zs : List Int) (ms : List (Nat × Nat)) : CtSaid ns zs ms .o := by
  intro w T A c N Z nc zc _ _ _ _
  have HE : Hid (cntI (szs ms) .o = 2) := rfl
  simp only [Ty.atom, Ty.kids, Fo.len]
  go_enter Tryz.func66, Tryz.ntmps66
  go_wp2_with fail
  go_ret
  exact ⟨by rw [HE.out]; rfl, (Fr.refl _ _).alloc _⟩

set_option maxRecDepth 100000 in
set_option maxHeartbeats 1000000 in
theorem ct_v (ns : List (List UInt8)) (zs : List Int) (ms : List (Nat × Nat)) (hm : ModelIs ns zs ms) (i : Nat) (hi : i < 25) : CtSaid ns zs ms (.v i) := by
  intro w T A c N Z nc zc _ _ hN hZ
  simp only [Ty.atom, Ty.kids, Fo.len]
  have HLE := Lib.hid hm.len
  have b26 : (ns.length : Int) ≤ 26 := by have := HLE.out.2; omega
  have n111 : (([Ty.letter i] : List UInt8) == [111]) = false := by have := (Ty.letter_ne hi).1; simpa using this
  have b0 := Blk.new w 46 #[S [Ty.letter i], .slice A 0 c]
  have hf0 : Fr No w (w.alloc (.cells #[S [Ty.letter i], .slice A 0 c] 46)) := (Fr.refl _ _).alloc _
  have HB : Hid (∀ w', Fr No (w.alloc (.cells #[S [Ty.letter i], .slice A 0 c] 46)) w' → w'.cell? ⟨w.heap.size, 0, none⟩ = some (S [Ty.letter i])) := fun w' hf => ((b0.fr hf (fun h => h)).cell 0).trans rfl
  have HN := Lib.hid hN
  have HZ := Lib.hid hZ
  have HM := Lib.hid hm
  have c0 := HB.out _ (Fr.refl _ _)
  clear hN hZ b0 hm
  go_enter Tryz.func66, Tryz.ntmps66
  go_wp2_with fail
  generalize w.alloc (.cells #[S [Ty.letter i], .slice A 0 c] 46) = W at hf0 HB c0 ⊢
  have HF0 := Lib.hid hf0
  clear hf0
  go_loopw [7] (fun u wr => ∃ j : Nat, j ≤ ns.length ∧ u = .int .i64 j ∧ Fr No W wr ∧ ∀ p ∈ ms.take j, p.1 ≠ i) (fun u _ => ns.length - (intOf u).toNat)
  case atStart => exact ⟨0, Nat.zero_le _, rfl, Fr.refl _ _, by simp⟩
  case round =>
    obtain ⟨j, hj, rfl, hfr, hno⟩ := hrel
    have HNO := Lib.hid hno
    have HF := Lib.hid hfr
    clear hno hfr c0
    by_cases hlt : j < ns.length
    · obtain ⟨p, hp⟩ : ∃ p, ms[j]? = some p := ⟨_, List.getElem?_eq_getElem (by have := congrArg List.length HM.out.names; simp at this; omega)⟩
      have hok := HM.out.ok p (List.mem_of_getElem? hp)
      have hxj : ns[j]? = some [Ty.letter p.1] := by rw [HM.out.names, List.getElem?_map, hp]; rfl
      have hzj : zs[j]? = some (p.2 : Int) := by rw [HM.out.sizes, List.getElem?_map, hp]; rfl
      obtain ⟨g, o, rfl, hc0⟩ := HN.out j _ hxj
      obtain ⟨g', o', rfl, hc1⟩ := HZ.out j _ hzj
      have hfw := HF0.out.trans HF.out
      have c1 := (hfw.cell (p := ⟨g, o + j, none⟩) (block_lt hc0) (fun h => h)).trans hc0
      have c2 := (hfw.cell (p := ⟨g', o' + j, none⟩) (block_lt hc1) (fun h => h)).trans hc1
      have c3 := HB.out wr HF.out
      have hl1 := block_lt c1
      have hl3 := block_lt c3
      have hfd : Fr No w wr.drew := hfw.drew
      have HFD := Lib.hid (HF.out.drew)
      have c2' : wr.drew.cell? ⟨g', o' + j, none⟩ = some (.int .i64 (p.2 : Int)) := c2
      have HP := Lib.hid hp
      have hzl : j < zs.length := by have := HLE.out.1; omega
      clear hc0 hc1 hxj hzj hp hfw
      by_cases he : p.1 = i
      · have hb : (([Ty.letter p.1] : List UInt8) == [Ty.letter i]) = true := by rw [he]; simp
        have HFIN : Hid (cntI (szs ms) (.v i) = (p.2 : Int)) := by
          show _ = _
          have := szs_at HNO.out (show ms[j]? = some (i, p.2) by rw [HP.out, ← he])
          exact cntI_some (by simp only [Ty.cnt]; exact this)
        rw [he] at c1
        clear he hb
        go_wp2_with fail
        refine wp_region_still_lit (by kernel_rfl) (by kernel_rfl) ?_
        change wpStill _ _ (World.drew _) (fun a' => _) _ _
        repeat still_step
        refine wpStill_nil ?_
        go_wp2_with fail
        go_ret
        exact ⟨by rw [HFIN.out]; rfl, hfd⟩
      · have hne : Ty.letter p.1 ≠ Ty.letter i := fun h => he (Ty.letter_inj hok.1 hi h)
        have hb : (([Ty.letter p.1] : List UInt8) == [Ty.letter i]) = false := by simpa using hne
        have HNO1 : Hid (∀ q ∈ ms.take (j + 1), q.1 ≠ i) := by
          intro q hq
          rw [List.take_add_one, HP.out] at hq
          rcases List.mem_append.1 hq with hq | hq
          · exact HNO.out q hq
          · simp at hq; rw [hq]; exact he
        clear he hne
        generalize Ty.letter p.1 = lp at *
        generalize Ty.letter i = li at *
        go_wp2_with fail
        refine wp_region_still_lit (by kernel_rfl) (by kernel_rfl) ?_
        change wpStill _ _ (World.drew _) (fun a' => _) _ _
        repeat still_step
        refine wpStill_nil ?_
        go_wp2_with fail
        go_roundw
        case rel => exact ⟨j + 1, by omega, by go_num, HFD.out, HNO1.out⟩
        case measure => simp [intOf]; omega
    · have hjl : j = ns.length := by omega
      have HFIN : Hid (cntI (szs ms) (.v i) = -1) := by
        show _ = _
        have hml : ms.length = ns.length := by rw [HM.out.names]; simp
        have h := HNO.out
        rw [hjl, ← hml, List.take_length] at h
        exact cntI_none (szs_none.2 h)
      have HFD := Lib.hid (HF0.out.trans HF.out)
      clear hjl
      go_wp2_with fail
      go_ret
      exact ⟨by rw [HFIN.out]; rfl, HFD.out⟩

set_option maxRecDepth 100000 in
set_option maxHeartbeats 2000000 in
theorem ct_n (ns : List (List UInt8)) (zs : List Int) (ms : List (Nat × Nat)) (hm : ModelIs ns zs ms) (f : Bool) (l r : Ty) (ihl : CtSaid ns zs ms l) (ihr : CtSaid ns zs ms r) : CtSaid ns zs ms (.n f l r) := by
  intro w T A c N Z nc zc hT hA hN hZ
  have hμ := hm.sz
  simp only [Ty.atom_n, Ty.kids_n] at hA ⊢
  obtain ⟨g, o, A0, c0, A1, c1, A2, c2, rfl, hg, q0, q1, q2, q3, q4, q5, s0, s1, s2, hl⟩ := hA.three
  have H3 : Hid (∀ w' : World, Fr No w w' → w'.cell? ⟨g, o, none⟩ = some (S [Ty.sign f]) ∧ w'.cell? ⟨g, o + 2, none⟩ = some (S l.atom) ∧ w'.cell? ⟨g, o + 3, none⟩ = some (.slice A1 l.kids.len c1) ∧ w'.cell? ⟨g, o + 4, none⟩ = some (S r.atom) ∧ w'.cell? ⟨g, o + 5, none⟩ = some (.slice A2 r.kids.len c2) ∧ g < w'.heap.size) :=
    fun w' hf => ⟨(hf.cell (p := ⟨g, o, none⟩) hl (fun h => h)).trans q0, (hf.cell (p := ⟨g, o + 2, none⟩) hl (fun h => h)).trans q2, (hf.cell (p := ⟨g, o + 3, none⟩) hl (fun h => h)).trans q3, (hf.cell (p := ⟨g, o + 4, none⟩) hl (fun h => h)).trans q4, (hf.cell (p := ⟨g, o + 5, none⟩) hl (fun h => h)).trans q5, Nat.lt_of_lt_of_le hl hf.size⟩
  have b0 := Blk.new w 46 #[S [], .slice (some ⟨g, o, none⟩) 3 c]
  have hf0 : Fr No w (w.alloc (.cells #[S [], .slice (some ⟨g, o, none⟩) 3 c] 46)) := (Fr.refl _ _).alloc _
  have HB : Hid (∀ w', Fr No (w.alloc (.cells #[S [], .slice (some ⟨g, o, none⟩) 3 c] 46)) w' → w'.cell? ⟨w.heap.size, 0, none⟩ = some (S []) ∧ w'.cell? ⟨w.heap.size, 1, none⟩ = some (.slice (some ⟨g, o, none⟩) 3 c) ∧ w.heap.size < w'.heap.size) := fun w' hf => ⟨((b0.fr hf (fun h => h)).cell 0).trans rfl, ((b0.fr hf (fun h => h)).cell 1).trans rfl, (b0.fr hf (fun h => h)).lt⟩
  have CL : Hid (∀ w', Fr No w w' → Calls Tryz.prog 66 #[.agg #[S l.atom, .slice A1 l.kids.len c1], .slice N ns.length nc, .slice Z zs.length zc] w' fun e w2 => e = .returned (.int .i64 (cntI (szs ms) l)) ∧ Fr No w' w2) := fun w' hf =>
    ihl w' T A1 c1 N Z nc zc (fun b hb => Nat.lt_of_lt_of_le (hT b hb) hf.size) (s1.fr hT hf) (hN.keep hf (fun _ h => h.elim)) (hZ.keep hf (fun _ h => h.elim))
  have CR : Hid (∀ w', Fr No w w' → Calls Tryz.prog 66 #[.agg #[S r.atom, .slice A2 r.kids.len c2], .slice N ns.length nc, .slice Z zs.length zc] w' fun e w2 => e = .returned (.int .i64 (cntI (szs ms) r)) ∧ Fr No w' w2) := fun w' hf =>
    ihr w' T A2 c2 N Z nc zc (fun b hb => Nat.lt_of_lt_of_le (hT b hb) hf.size) (s2.fr hT hf) (hN.keep hf (fun _ h => h.elim)) (hZ.keep hf (fun _ h => h.elim))
  have hlen3 : (Fo.cons [Ty.sign f] Fo.nil (Fo.cons l.atom l.kids (Fo.cons r.atom r.kids Fo.nil))).len = 3 := rfl
  rw [hlen3]
  clear hA hN hZ s0 s1 s2 q0 q1 q2 q3 q4 q5 b0 ihl ihr hm hT
  obtain ⟨x0, x1, x2⟩ := HB.out _ (Fr.refl _ _)
  obtain ⟨y0, y1, y2, y3, y4, y5⟩ := H3.out _ hf0
  go_enter Tryz.func66, Tryz.ntmps66
  go_wp2_with fail
  generalize hW : w.alloc (.cells #[S [], .slice (some ⟨g, o, none⟩) 3 c] 46) = W at *
  clear hW
  refine (CL.out _ hf0).mono ?_
  rintro e w1 ⟨rfl, hf1⟩
  have HF1 := Lib.hid (hf0.trans hf1)
  have HG1 := Lib.hid hf1
  clear x0 x1 x2 y0 y1 y2 y3 y4 y5 hf1
  obtain ⟨x0, x1, x2⟩ := HB.out _ HG1.out
  obtain ⟨y0, y1, y2, y3, y4, y5⟩ := H3.out _ HF1.out
  go_wp2_with fail
  refine (CR.out _ HF1.out).mono ?_
  rintro e w2 ⟨rfl, hf2⟩
  have HF2 := Lib.hid (HF1.out.trans hf2)
  have HG2 := Lib.hid (HG1.out.trans hf2)
  clear x0 x1 x2 y0 y1 y2 y3 y4 y5 hf2
  obtain ⟨x0, x1, x2⟩ := HB.out _ HG2.out
  obtain ⟨y0, y1, y2, y3, y4, y5⟩ := H3.out _ HF2.out
  rcases ha : l.cnt (szs ms) with _ | a
  · have HFIN : Hid (cntI (szs ms) (.n f l r) = -1) := cntI_none (by simp [Ty.cnt, ha])
    rw [cntI_none ha]
    generalize cntI (szs ms) r = b
    go_wp2_with fail
    go_ret
    exact ⟨by rw [HFIN.out]; rfl, HF2.out⟩
  · rcases hb : r.cnt (szs ms) with _ | b
    · have HFIN : Hid (cntI (szs ms) (.n f l r) = -1) := cntI_none (by simp [Ty.cnt, ha, hb])
      rw [cntI_none hb, cntI_some ha]
      have ha0 : ¬ (a : Int) < 0 := by omega
      go_wp2_with fail
      go_ret
      exact ⟨by rw [HFIN.out]; rfl, HF2.out⟩
    · have hab := l.cnt_bounds hμ a ha
      have hbb := r.cnt_bounds hμ b hb
      have HK : Hid ((Ty.n f l r).cnt (szs ms) = cap (if f then b ^ a else a * b)) := by show _ = _; simp [Ty.cnt, ha, hb]
      rw [cntI_some hb, cntI_some ha]
      have ha0 : ¬ (a : Int) < 0 := by omega
      have hb0 : ¬ (b : Int) < 0 := by omega
      have ha1 : (a : Int) ≤ 4096 := by omega
      have hb1 : (b : Int) ≤ 4096 := by omega
      have hm : a * b ≤ 4096 * 4096 := Nat.mul_le_mul hab.2 hbb.2
      have hme : (a : Int) * (b : Int) = ((a * b : Nat) : Int) := by simp
      have hm1 : (a : Int) * (b : Int) ≤ 16777216 := by rw [hme]; omega
      have hm0 : 0 ≤ (a : Int) * (b : Int) := by rw [hme]; omega
      have HME := Lib.hid hme
      clear hme ha hb hm
      cases f
      · by_cases h4096 : a * b ≤ 4096
        · have h1 : ¬ 4096 < (a : Int) * (b : Int) := by rw [HME.out]; omega
          have HFIN : Hid (cntI (szs ms) (.n false l r) = (a : Int) * (b : Int)) := by
            show _ = _
            rw [HME.out]
            refine cntI_some ?_
            rw [HK.out]
            simp [cap, h4096]
          clear h4096
          go_wp2_with fail
          go_ret
          exact ⟨by rw [HFIN.out]; rfl, HF2.out⟩
        · have h1 : 4096 < (a : Int) * (b : Int) := by rw [HME.out]; omega
          have HFIN : Hid (cntI (szs ms) (.n false l r) = -1) := by
            show _ = _
            refine cntI_none ?_
            rw [HK.out]
            simp [cap, h4096]
          clear h4096
          go_wp2_with fail
          go_ret
          exact ⟨by rw [HFIN.out]; rfl, HF2.out⟩
      · have HMIN := Lib.hid (fun j => min_pow b j hbb.1)
        go_wp2_with fail
        go_loop [10, 11] (fun v u => ∃ j : Nat, j ≤ a ∧ u = .int .i64 j ∧ v = .int .i64 ((min 4097 (b ^ j) : Nat) : Int)) (fun _ u => a - (intOf u).toNat)
        case atStart => exact ⟨0, Nat.zero_le _, rfl, by simp⟩
        case round =>
          obtain ⟨j, hj, rfl, rfl⟩ := hrel
          have hp : min 4097 (b ^ j) ≤ 4097 := Nat.min_le_left _ _
          have HS : Hid (min 4097 (min 4097 (b ^ j) * b) = min 4097 (b ^ (j + 1))) := HMIN.out j
          by_cases hlt : j < a
          · have hpm : min 4097 (b ^ j) * b ≤ 4097 * 4096 := Nat.mul_le_mul hp hbb.2
            generalize hq : min 4097 (b ^ (j + 1)) = q at *
            generalize min 4097 (b ^ j) = p at *
            have hme2 : (p : Int) * (b : Int) = ((p * b : Nat) : Int) := by simp
            have z1 : (p : Int) * (b : Int) ≤ 16781312 := by rw [hme2]; omega
            have z0 : 0 ≤ (p : Int) * (b : Int) := by rw [hme2]; omega
            have HQ := Lib.hid hq
            have HME2 := Lib.hid hme2
            clear hq hme2 hpm
            go_wp2_with fail
            go_round
            case rel => exact ⟨j + 1, by omega, by go_num, by rw [HQ.out, ← HS.out]; go_num⟩
            case measure => simp [intOf]; omega
          · have hjl : j = a := by omega
            subst hjl
            by_cases h4096 : b ^ j ≤ 4096
            · have hmin : min 4097 (b ^ j) = b ^ j := Nat.min_eq_right (by omega)
              have HFIN : Hid (cntI (szs ms) (.n true l r) = ((b ^ j : Nat) : Int)) := by
                show _ = _
                refine cntI_some ?_
                rw [HK.out]
                simp [cap, h4096]
              rw [hmin]
              clear hmin HS hp
              generalize b ^ j = q at *
              have hq : ¬ 4096 < (q : Int) := by omega
              go_wp2_with fail
              go_ret
              exact ⟨by rw [HFIN.out]; rfl, HF2.out⟩
            · have hmin : min 4097 (b ^ j) = 4097 := Nat.min_eq_left (by omega)
              have HFIN : Hid (cntI (szs ms) (.n true l r) = -1) := by
                show _ = _
                refine cntI_none ?_
                rw [HK.out]
                simp [cap, h4096]
              rw [hmin]
              clear hmin HS hp
              go_wp2_with fail
              go_ret
              exact ⟨by rw [HFIN.out]; rfl, HF2.out⟩

theorem ct_any (ns : List (List UInt8)) (zs : List Int) (ms : List (Nat × Nat)) (hm : ModelIs ns zs ms) (t : Ty) : t.lets → CtSaid ns zs ms t := by
  induction t with
  | v i => exact fun h => ct_v ns zs ms hm i h
  | o => exact fun _ => ct_o ns zs ms
  | n f l r hl hr => exact fun h => ct_n ns zs ms hm f l r (hl h.1) (hr h.2)
end Go.Proofs.YtloecimlimoanaaGreatDoor
