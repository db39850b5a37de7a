/- Uses of a name in the model. · The law TermUses. -/
import Derived.Test.YtnjgaenhjdjpfaaGreatDoorTuse
import Derived.Test.YtnjgaenhjdjpfaaGreatDoorS2term
/- Uses of a name in the model. -/
namespace Go.Proofs.YtnjgaenhjdjpfaaGreatDoor
open Go.RowKit Go.ChangeMaps

theorem isTms_at : ∀ (r : Fo) (sh : List Bool) (j : Nat) (a : List UInt8) (k : Fo) (b : Bool), isTms (some sh) r = true → r.nth j = some (a, k) → sh[j]? = some b → okAt b a k = true
  | .nil, _, _, _, _, _, _, h, _ => by cases h
  | .cons a k r, [], j, a', k', b, h, _, _ => by simp [isTms] at h
  | .cons a k r, b0 :: sh, 0, a', k', b, h, hn, hb => by
    simp only [Fo.nth, Option.some.injEq, Prod.mk.injEq] at hn
    obtain ⟨rfl, rfl⟩ := hn
    simp only [List.getElem?_cons_zero, Option.some.injEq] at hb
    subst hb
    cases b0 <;> (simp only [isTms, Bool.and_eq_true] at h; simp [okAt, isTm, h.1])
  | .cons a k r, b0 :: sh, j + 1, a', k', b, h, hn, hb => by
    refine isTms_at r sh j a' k' b ?_ hn (by simpa using hb)
    cases b0 <;> (simp only [isTms, Bool.and_eq_true] at h; exact h.2)

theorem us_step (x : List UInt8) {f : Fo} {j i : Nat} {a h b : List UInt8} {k : Fo} (e : f.nth j = some (a, k)) : usU x (f.from_ j) (.kids h b i) = (if innB h i = true ∧ bndB h b i ≠ x then usT x a k else 0) + usU x (f.from_ (j + 1)) (.kids h b (i + 1)) := by
  rw [Fo.from_nth f j a k e]
  rfl

/-- the model's word whether a part is a term -/
theorem inner_any (w : World) (T : Nat → Prop) (a h : List UInt8) (k0 r : Fo) (A : Option Addr) (c i : Nat) (b : Bool) (hi : 1 ≤ i) (hb : (shapeOf h)[i - 1]? = some b) (hsl : Sl w T A (.cons h k0 r)) :
    Calls Tryz.prog 47 #[.agg #[S a, .slice A (Fo.cons h k0 r).len c], .int .i64 i] w fun e w' => e = .returned (.bool b) ∧ Fr No w w' := by
  obtain ⟨g, o, a', k', A', c', rfl, hg, hn, q0, q1, hsl'⟩ := hsl.nth (j := 0) (by simp [Fo.len])
  simp only [Fo.nth, Option.some.injEq, Prod.mk.injEq] at hn
  obtain ⟨rfl, rfl⟩ := hn
  have n1 : 0 < (Fo.cons h k0 r).len := by simp [Fo.len]
  have hlg := block_lt q0
  rw [show o + 0 * 2 = o by omega] at q0
  have SP : Hid (∀ w, Calls Tryz.prog 70 #[S h] w fun e w' => e = .returned (S ((shapeOf h).map bMX)) ∧ w = w') := fun w => shape_any h w
  have hsh := shape_short h
  obtain ⟨hlt, he⟩ := List.getElem?_eq_some_iff.1 hb
  obtain ⟨j, rfl⟩ : ∃ j, i = j + 1 := ⟨i - 1, by omega⟩
  have hj : j < (shapeOf h).length := hlt
  have BX : Hid (∀ q : j < (ByteArray.mk ((shapeOf h).map bMX).toArray).size, (ByteArray.mk ((shapeOf h).map bMX).toArray)[j]'q = bMX b) := fun q => ba_get ((shapeOf h).map bMX) j q (bMX b) (by rw [List.getElem?_map, show (shapeOf h)[j]? = some b from hb]; rfl)
  have hml : ((shapeOf h).map bMX).length = (shapeOf h).length := by simp
  clear hsl hsl' q1 hb he
  generalize (Fo.cons h k0 r).len = n at n1 ⊢
  generalize shapeOf h = sh at *
  generalize hm : sh.length = m at *
  clear hm hlt
  have hi1 : ((j + 1 : Nat) : Int) - 1 = (j : Int) := by omega
  have hi0 : (0 : Int) < ((j + 1 : Nat) : Int) := by omega
  have hij : (j : Int) < (m : Int) := by omega
  cases b
  · have hgx : ∀ q : j < (ByteArray.mk (sh.map bMX).toArray).size, (ByteArray.mk (sh.map bMX).toArray)[j]'q = 120 := BX.out
    clear BX
    go_enter Tryz.func47, Tryz.ntmps47
    go_wp2_with fail
    refine (SP.out _).mono ?_
    rintro e w1 ⟨rfl, rfl⟩
    go_wp2_with fail
    go_ret
    exact ⟨rfl, (Fr.refl _ _).alloc _⟩
  · have hgx : ∀ q : j < (ByteArray.mk (sh.map bMX).toArray).size, (ByteArray.mk (sh.map bMX).toArray)[j]'q = 109 := BX.out
    clear BX
    go_enter Tryz.func47, Tryz.ntmps47
    go_wp2_with fail
    refine (SP.out _).mono ?_
    rintro e w1 ⟨rfl, rfl⟩
    go_wp2_with fail
    go_ret
    exact ⟨rfl, (Fr.refl _ _).alloc _⟩

/-- the name that is bound in a part -/
theorem bound_any (w : World) (T : Nat → Prop) (a h n : List UInt8) (k0 nk r : Fo) (A : Option Addr) (c i : Nat) (hsl : Sl w T A (.cons h k0 (.cons n nk r))) :
    Calls Tryz.prog 88 #[.agg #[S a, .slice A (Fo.cons h k0 (.cons n nk r)).len c], .int .i64 i] w fun e w' => e = .returned (S (bndB h n i)) ∧ Fr No w w' := by
  obtain ⟨g, o, a', k', A', c', rfl, hg, hn, q0, _, _⟩ := hsl.nth (j := 0) (by simp [Fo.len])
  obtain ⟨g2, o2, a2, k2, A2, c2, e2, hg2, hn2, p0, _, _⟩ := hsl.nth (j := 1) (by simp [Fo.len])
  simp only [Option.some.injEq, Addr.mk.injEq, and_true] at e2
  obtain ⟨rfl, rfl⟩ := e2
  simp only [Fo.nth, Option.some.injEq, Prod.mk.injEq] at hn hn2
  obtain ⟨rfl, rfl⟩ := hn
  obtain ⟨rfl, rfl⟩ := hn2
  have n1 : 1 < (Fo.cons h k0 (.cons n nk r)).len := by simp [Fo.len]
  have hlg := block_lt q0
  rw [show o + 0 * 2 = o by omega] at q0
  rw [show o + 1 * 2 = o + 2 by omega] at p0
  clear hsl
  generalize (Fo.cons h k0 (.cons n nk r)).len = m at n1 ⊢
  by_cases h1 : h = [108, 97, 109]
  · subst h1
    have hr : bndB [108, 97, 109] n i = n := rfl
    rw [hr]
    clear hr
    go_enter Tryz.func88, Tryz.ntmps88
    go_wp2_with fail
    go_ret
    exact ⟨rfl, (Fr.refl _ _).alloc _⟩
  have nn1 : (h == [108, 97, 109]) = false := beq_eq_false_iff_ne.2 h1
  by_cases h2 : h = [108, 101, 116]
  · subst h2
    by_cases h3 : i = 3
    · subst h3
      have hr : bndB [108, 101, 116] n 3 = n := rfl
      rw [hr]
      clear hr
      go_enter Tryz.func88, Tryz.ntmps88
      go_wp2_with fail
      go_ret
      exact ⟨rfl, (Fr.refl _ _).alloc _⟩
    · have hr : bndB [108, 101, 116] n i = [] := by simp [bndB, hLam, hLet, h3]
      have n3 : ((i : Int) == 3) = false := beq_eq_false_iff_ne.2 (by omega)
      rw [hr]
      clear hr h3
      go_enter Tryz.func88, Tryz.ntmps88
      go_wp2_with fail
      go_ret
      exact ⟨rfl, (Fr.refl _ _).alloc _⟩
  have nn2 : (h == [108, 101, 116]) = false := beq_eq_false_iff_ne.2 h2
  have hr : bndB h n i = [] := by simp [bndB, hLam, hLet, h1, h2]
  rw [hr]
  clear hr h1 h2
  go_enter Tryz.func88, Tryz.ntmps88
  go_wp2_with fail
  go_ret
  exact ⟨rfl, (Fr.refl _ _).alloc _⟩

def UseSaid (x : List UInt8) (k : Fo) : Prop := ∀ (a : List UInt8) (A : Option Addr) (c : Nat) (w : World) (T : Nat → Prop), isTm a k = true → treeSize a k ≤ 5000 → (∀ b, T b → b < w.heap.size) → Sl w T A k →
  Calls Tryz.prog 72 #[.agg #[S a, .slice A k.len c], S x] w fun e w' => e = .returned (.int .i64 (usT x a k : Nat)) ∧ Fr No w w'

set_option maxRecDepth 100000 in
set_option maxHeartbeats 1000000 in
theorem uses_node (x h : List UInt8) (k0 r : Fo) (hN : ∀ a' k' j, (Fo.cons h k0 r).nth j = some (a', k') → UseSaid x k') (A : Option Addr) (c : Nat) (w : World) (T : Nat → Prop) (htm : isTms none (.cons h k0 r) = true) (hs : (Fo.cons h k0 r).size ≤ 5000) (hT : ∀ b, T b → b < w.heap.size) (hA : Sl w T A (.cons h k0 r)) :
    Calls Tryz.prog 72 #[.agg #[S [], .slice A (Fo.cons h k0 r).len c], S x] w fun e w' => e = .returned (.int .i64 (usU x (.cons h k0 r) .top : Nat)) ∧ Fr No w w' := by
  have HN := Lib.hid hN
  clear hN
  simp only [isTms, Bool.and_eq_true] at htm
  obtain ⟨hsn, htm⟩ := htm
  have hrl := isTms_len _ _ htm
  have hsl := shape_short h
  have hs1 : 1 ≤ (shapeOf h).length := by
    cases hq : shapeOf h with
    | nil => rw [hq] at hsn; cases hsn
    | cons => simp
  have HTM := Lib.hid htm
  clear htm hsn
  have hus := us_size x r (.kids h (hd1 r) 1)
  have hb0 : usU x (.cons h k0 r) .top = usU x r (.kids h (hd1 r) 1) := rfl
  have hrz : r.size ≤ 5000 := by simp only [Fo.size] at hs; omega
  rw [hb0]
  obtain ⟨tot, htot⟩ : ∃ t, t = usU x r (.kids h (hd1 r) 1) := ⟨_, rfl⟩
  have HTOT := Lib.hid htot
  rw [← htot] at hus ⊢
  clear hb0 htot
  obtain ⟨n, nk, r', HR⟩ : ∃ n nk r', Hid (r = .cons n nk r') := by
    cases r with
    | nil => simp [Fo.len] at hrl; omega
    | cons n nk r' => exact ⟨n, nk, r', rfl⟩
  have hn1 : Hid (hd1 r = n) := by rw [HR.out]; exact rfl
  obtain ⟨m, HM⟩ : ∃ m, Hid (m = (shapeOf h).length) := ⟨_, rfl⟩
  obtain ⟨L, HL⟩ : ∃ L, Hid ((Fo.cons h k0 r).len = L) := ⟨_, rfl⟩
  have HLM : Hid (L = m + 1) := by
    have h1 := HL.out
    have h2 := HM.out
    show L = m + 1
    simp only [Fo.len] at h1
    omega
  have HRL : Hid (r.len = m) := by
    have h2 := HM.out
    show r.len = m
    omega
  rw [← HM.out] at hsl hs1
  rw [HL.out]
  clear hrl
  have b0 := Blk.new w 40 #[S [], .slice A L c]
  go_enter Tryz.func72, Tryz.ntmps72
  go_wp2_with fail
  go_loopw [5, 6] (fun v i wr => ∃ j s : Nat, j ≤ m ∧ i = .int .i64 ((j + 1 : Nat) : Int) ∧ v = .int .i64 s ∧ s + usU x (r.from_ j) (.kids h (hd1 r) (j + 1)) = tot ∧ Fr No w wr ∧ Blk wr w.heap.size 40 #[S [], .slice A L c]) (fun _ i _ => m + 1 - (intOf i).toNat)
  case atStart => exact ⟨0, 0, Nat.zero_le _, rfl, rfl, by rw [Fo.from_zero, HTOT.out]; exact Nat.zero_add _, (Fr.refl _ _).alloc _, b0⟩
  case round =>
    obtain ⟨j, s, hj, rfl, rfl, hsum, hfr, hb⟩ := hrel
    have HS := Lib.hid hsum
    have z1 : (0 : Int) ≤ (s : Int) := by omega
    have z2 : (s : Int) ≤ 5000 := by omega
    clear hsum
    have c1 : wr.cell? ⟨w.heap.size, 1, none⟩ = some (.slice A L c) := (hb.cell 1).trans rfl
    have c0 : wr.cell? ⟨w.heap.size, 0, none⟩ = some (S []) := (hb.cell 0).trans rfl
    have hlw := hb.lt
    by_cases hlt : j < m
    · have hAr := hA.fr hT hfr
      obtain ⟨g, o, a', k', A', c', rfl, hg, hn, q0, q1, hsl'⟩ := hAr.nth (j := j + 1) (by rw [HL.out, HLM.out]; omega)
      have hnr : r.nth j = some (a', k') := hn
      have hlg := block_lt q0
      obtain ⟨b, hbj⟩ : ∃ b, (shapeOf h)[j]? = some b := ⟨_, List.getElem?_eq_getElem (by rw [← HM.out]; exact hlt)⟩
      have hok := isTms_at r _ j a' k' b HTM.out hnr hbj
      have hst := us_step x (h := h) (b := hd1 r) (i := j + 1) hnr
      have hin : innB h (j + 1) = b := by
        unfold innB
        rw [show j + 1 - 1 = j by omega, hbj]
        cases b <;> rfl
      rw [hin] at hst
      have hz := Fo.nth_size hnr
      have HZ : Hid (treeSize a' k' ≤ 5000) := Nat.le_trans hz hrz
      have hT2 : ∀ b, T b → b < wr.heap.size := fun b hb => Nat.lt_of_lt_of_le (hT b hb) hfr.size
      have IN : Hid (Calls Tryz.prog 47 #[.agg #[S [], .slice (some ⟨g, o, none⟩) L c], .int .i64 ((j + 1 : Nat) : Int)] wr fun e w' => e = .returned (.bool b) ∧ Fr No wr w') :=
        HL.out ▸ inner_any wr T [] h k0 r _ c (j + 1) b (by omega) hbj hAr
      have hjc : (j : Int) + 1 < (L : Int) := by have := HLM.out; omega
      have hjn : j + 1 < L := by have := HLM.out; omega
      cases b
      · have HT : Hid (s + usU x (r.from_ (j + 1)) (.kids h (hd1 r) (j + 1 + 1)) = tot) := by
          have := HS.out
          rw [hst, if_neg (fun e => by cases e.1)] at this
          show _ = _
          omega
        clear hst hin hz hn hnr hbj hok
        go_wp2_with fail
        refine IN.out.mono ?_
        rintro e w1 ⟨rfl, hf1⟩
        go_wp2_with fail
        go_roundw
        case rel => exact ⟨j + 1, s, by omega, by go_num, rfl, HT.out, hfr.trans hf1, hb.fr hf1 (fun h => h)⟩
        case measure => simp [intOf]; omega
      · have hok' : Hid (isTm a' k' = true) := hok
        have HNN := Lib.hid hn
        have BD : Hid (∀ w', Fr No wr w' → Calls Tryz.prog 88 #[.agg #[S [], .slice (some ⟨g, o, none⟩) L c], .int .i64 ((j + 1 : Nat) : Int)] w' fun e w2 => e = .returned (S (bndB h (hd1 r) (j + 1))) ∧ Fr No w' w2) := fun w' hf => by
          have h1 := hAr.fr hT2 hf
          rw [hn1.out]
          generalize HR.out = hr
          clear hst
          have h2 := HL.out
          revert h2 h1
          rw [hr]
          intro h1
          intro h2; rw [← h2]; exact bound_any w' T [] h n k0 nk r' _ c (j + 1) h1
        clear hin hz hn hnr hbj hok
        by_cases hbx : bndB h (hd1 r) (j + 1) = x
        · have HT : Hid (s + usU x (r.from_ (j + 1)) (.kids h (hd1 r) (j + 1 + 1)) = tot) := by
            have := HS.out
            rw [hst, if_neg (fun e => e.2 hbx)] at this
            show _ = _
            omega
          rw [hbx] at BD
          clear hst hbx
          go_wp2_with fail
          refine IN.out.mono ?_
          rintro e w1 ⟨rfl, hf1⟩
          have hb1 := hb.fr hf1 (fun h => h)
          have d1 : w1.cell? ⟨w.heap.size, 1, none⟩ = some (.slice (some ⟨g, o, none⟩) L c) := (hb1.cell 1).trans rfl
          have d0 : w1.cell? ⟨w.heap.size, 0, none⟩ = some (S []) := (hb1.cell 0).trans rfl
          go_wp2_with fail
          refine (BD.out w1 hf1).mono ?_
          rintro e w2 ⟨rfl, hf2⟩
          go_wp2_with fail
          go_roundw
          case rel => exact ⟨j + 1, s, by omega, by go_num, rfl, HT.out, (hfr.trans hf1).trans hf2, hb1.fr hf2 (fun h => h)⟩
          case measure => simp [intOf]; omega
        · have hne : (bndB h (hd1 r) (j + 1) == x) = false := beq_eq_false_iff_ne.2 hbx
          have HT : Hid (s + usT x a' k' + usU x (r.from_ (j + 1)) (.kids h (hd1 r) (j + 1 + 1)) = tot) := by
            have := HS.out
            rw [hst, if_pos ⟨rfl, hbx⟩] at this
            show _ = _
            omega
          have y1 : (0 : Int) ≤ (usT x a' k' : Int) := by omega
          have y2 : (s : Int) + (usT x a' k' : Int) ≤ 5000 := by have := HT.out; omega
          have CALL : Hid (∀ w', Fr No wr w' → Calls Tryz.prog 72 #[.agg #[S a', .slice A' k'.len c'], S x] w' fun e w2 => e = .returned (.int .i64 (usT x a' k' : Nat)) ∧ Fr No w' w2) := fun w' hf =>
            HN.out a' k' (j + 1) HNN.out a' A' c' w' T hok'.out HZ.out (fun b hb => Nat.lt_of_lt_of_le (hT2 b hb) hf.size) (hsl'.fr hT2 hf)
          clear hst hbx
          generalize bndB h (hd1 r) (j + 1) = bd at BD hne
          go_wp2_with fail
          refine IN.out.mono ?_
          rintro e w1 ⟨rfl, hf1⟩
          have hb1 := hb.fr hf1 (fun h => h)
          have d1 : w1.cell? ⟨w.heap.size, 1, none⟩ = some (.slice (some ⟨g, o, none⟩) L c) := (hb1.cell 1).trans rfl
          have d0 : w1.cell? ⟨w.heap.size, 0, none⟩ = some (S []) := (hb1.cell 0).trans rfl
          go_wp2_with fail
          refine (BD.out w1 hf1).mono ?_
          rintro e w2 ⟨rfl, hf2⟩
          have hb2 := hb1.fr hf2 (fun h => h)
          have hf12 := hf1.trans hf2
          have e1 : w2.cell? ⟨w.heap.size, 1, none⟩ = some (.slice (some ⟨g, o, none⟩) L c) := (hb2.cell 1).trans rfl
          have t0 : w2.cell? ⟨g, o + (j + 1) * 2, none⟩ = some (S a') := (hf12.cell (p := ⟨g, o + (j + 1) * 2, none⟩) hlg (fun h => h)).trans q0
          have t1 : w2.cell? ⟨g, o + (j + 1) * 2 + 1, none⟩ = some (.slice A' k'.len c') := (hf12.cell (p := ⟨g, o + (j + 1) * 2 + 1, none⟩) hlg (fun h => h)).trans q1
          have hlg2 : g < w2.heap.size := Nat.lt_of_lt_of_le hlg hf12.size
          go_wp2_with fail
          refine (CALL.out w2 hf12).mono ?_
          rintro e w3 ⟨rfl, hf3⟩
          go_wp2_with fail
          go_roundw
          case rel => exact ⟨j + 1, s + usT x a' k', by omega, by go_num, by go_num, HT.out, (hfr.trans hf12).trans hf3, hb2.fr hf3 (fun h => h)⟩
          case measure => simp [intOf]; omega
    · have hjl : j = m := by omega
      have HF : Hid ((s : Int) = (tot : Int)) := by
        have := HS.out
        rw [hjl, ← HRL.out, Fo.from_len] at this
        show (s : Int) = _
        have e : usU x .nil (.kids h (hd1 r) (r.len + 1)) = 0 := rfl
        omega
      have hjl2 : (L : Int) ≤ (j : Int) + 1 := by have := HLM.out; omega
      clear hjl
      go_wp2_with fail
      go_ret
      exact ⟨ret_num HF.out, hfr⟩
end Go.Proofs.YtnjgaenhjdjpfaaGreatDoor

/- The law TermUses. -/
namespace Go.Proofs.YtnjgaenhjdjpfaaGreatDoor
open Go.RowKit Go.ChangeMaps

theorem uses_any (x : List UInt8) (N : Nat) : ∀ k : Fo, SizeOf.sizeOf k < N → UseSaid x k := by
  induction N with
  | zero => intro k h; omega
  | succ N ih =>
    intro k hN a A c w T htm hs hT h
    by_cases he : a = []
    · subst he
      have h2 : isTms none k = true := by simpa [isTm] using htm
      have e1 : usT x [] k = usU x k .top := by simp [usT]
      have e2 : treeSize [] k = k.size := by simp [treeSize]
      rw [e1]
      rw [e2] at hs
      cases k with
      | nil => cases h2
      | cons g k0 r => exact uses_node x g k0 r (fun a' k' j hn => ih k' (by have := Fo.nth_small _ j a' k' hn; omega)) A c w T h2 hs hT h
    · have hae : a.isEmpty = false := by cases a; exact absurd rfl he; rfl
      have e1 : usT x a k = if a = x then 1 else 0 := by simp [usT, he]
      rw [e1]
      generalize k.len = n
      clear e1 hs h htm
      by_cases hx : a = x
      · subst hx
        rw [if_pos rfl]
        go_enter Tryz.func72, Tryz.ntmps72
        go_wp2_with fail
        go_ret
        exact ⟨rfl, (Fr.refl _ _).alloc _⟩
      · have hne : (a == x) = false := beq_eq_false_iff_ne.2 hx
        rw [if_neg hx]
        clear hx
        go_enter Tryz.func72, Tryz.ntmps72
        go_wp2_with fail
        go_ret
        exact ⟨rfl, (Fr.refl _ _).alloc _⟩

/-- names of any length -/
theorem name2_all (a : List UInt8) (w : World) (ha : a.length ≤ maxLen) :
    Calls Tryz.prog 69 #[S a] w fun e w' => e = .returned (.bool (isName a)) ∧ w = w' := by
  by_cases hl : a.length ≤ 6000
  · exact name2_any a w hl
  · unfold maxLen at ha
    have hn : isName a = false := by
      cases a with
      | nil => simp at hl
      | cons c r => simp [isName]; intro h; simp at hl; omega
    rw [hn]
    have hl4 : 4 < a.length := by omega
    clear hn hl
    go_enter Tryz.func69, Tryz.ntmps69
    go_wp2_with fail
    refine (in_no _ w (.inr (by omega))).mono ?_
    rintro e w' ⟨rfl, rfl⟩
    go_wp2_with fail
    go_ret
    exact ⟨rfl, rfl⟩

theorem AnsU.same {s x : List UInt8} {n m : Int} (h1 : (∃ a k, TmOk s a k ∧ isName x = true ∧ n = (usT x a k : Nat)) ∨ (((∀ a k, ¬ TmOk s a k) ∨ isName x = false) ∧ n = -1)) (h2 : (∃ a k, TmOk s a k ∧ isName x = true ∧ m = (usT x a k : Nat)) ∨ (((∀ a k, ¬ TmOk s a k) ∨ isName x = false) ∧ m = -1)) : n = m := by
  rcases h1 with ⟨a, k, h1, q1, e1⟩ | ⟨h1, e1⟩ <;> rcases h2 with ⟨a', k', h2, q2, e2⟩ | ⟨h2, e2⟩
  · obtain ⟨rfl, rfl⟩ := h1.unique h2; rw [e1, e2]
  · rcases h2 with h2 | h2
    · exact absurd h1 (h2 a k)
    · rw [q1] at h2; cases h2
  · rcases h1 with h1 | h1
    · exact absurd h2 (h1 a' k')
    · rw [q2] at h1; cases h1
  · rw [e1, e2]

end Go.Proofs.YtnjgaenhjdjpfaaGreatDoor
