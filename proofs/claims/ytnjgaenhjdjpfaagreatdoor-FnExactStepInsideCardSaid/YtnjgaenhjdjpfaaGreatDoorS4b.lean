/- How many parts are redexes: l4Count, RedexCount and NormalIs of both. -/
import Derived.Test.YtnjgaenhjdjpfaaGreatDoorS4
import Derived.Test.YtnjgaenhjdjpfaaGreatDoorRcnt
namespace Go.Proofs.YtnjgaenhjdjpfaaGreatDoor
open Go.RowKit Go.ChangeMaps

def CoSaid (k : Fo) : Prop := ∀ (a : List UInt8) (A : Option Addr) (c : Nat) (w : World) (T : Nat → Prop), OkT a k → treeSize a k ≤ 300 → (∀ b, T b → b < w.heap.size) → Sl w T A k →
  Calls Tryz.prog 60 #[.agg #[S a, .slice A k.len c]] w fun e w' => e = .returned (.int .i64 (cT a k : Nat)) ∧ Fr No w w'

theorem cT_le {a : List UInt8} {k : Fo} (h : OkT a k) (hs : treeSize a k ≤ 300) : cT a k ≤ 300 := by
  by_cases ha : a = []
  · subst ha
    have e : treeSize [] k = k.size := by simp [treeSize]
    have h1 := (st_term (n := 0) h (by omega) []).1
    have h2 := cR_nods (nd [] [] k)
    have h3 := nods_size (nd [] [] k)
    have h4 := h.size []
    omega
  · simp [cT, ha]

theorem cU_step {f : Fo} {j i : Nat} {a h b : List UInt8} {k : Fo} (e : f.nth j = some (a, k)) : cU (f.from_ j) (.kids h b i) = (if innB h i = true then cT a k else 0) + cU (f.from_ (j + 1)) (.kids h b (i + 1)) := by
  rw [Fo.from_nth f j a k e]
  simp only [cU, cT]
  by_cases hi : innB h i = true
  · by_cases ha : a = []
    · simp only [hi, ha, and_self, if_true]
    · simp only [hi, ha, and_false, if_false, if_true]
  · rw [if_neg (fun c => hi c.1), if_neg hi]

theorem Fo.wfN : ∀ (f : Fo) (j : Nat) (a : List UInt8) (k : Fo), f.wf → f.nth j = some (a, k) → (a ≠ [] → k = .nil) ∧ k.wf
  | .nil, j, a, k, _, e => by cases e
  | .cons b q r, 0, a, k, hw, e => by
    simp only [Fo.nth, Option.some.injEq, Prod.mk.injEq] at e
    obtain ⟨rfl, rfl⟩ := e
    exact ⟨hw.1, hw.2.1⟩
  | .cons b q r, j + 1, a, k, hw, e => Fo.wfN r j a k hw.2.2 e

theorem OkT.part {h : List UInt8} {k0 r : Fo} (ho : OkT [] (.cons h k0 r)) {j : Nat} {a : List UInt8} {k : Fo} (e : r.nth j = some (a, k)) (hi : innB h (j + 1) = true) : OkT a k := by
  have htm := ho.tm
  simp only [isTm, if_true, isTms, Bool.and_eq_true] at htm
  obtain ⟨b, hb⟩ : ∃ b, (shapeOf h)[j]? = some b := by
    cases hq : (shapeOf h)[j]? with
    | none => simp [innB, hq] at hi
    | some b => exact ⟨b, rfl⟩
  have hbt : b = true := by
    unfold innB at hi
    rw [show j + 1 - 1 = j by omega, hb] at hi
    cases b
    · simp at hi
    · rfl
  subst hbt
  have := isTms_at r _ j a k true htm.2 e hb
  simp only [okAt, if_true] at this
  have hw := Fo.wfN _ _ _ _ ho.wf (show (Fo.cons h k0 r).nth (j + 1) = some (a, k) from e)
  exact ⟨this, hw.1, hw.2⟩

set_option maxRecDepth 100000 in
set_option maxHeartbeats 1000000 in
theorem count4_node (h : List UInt8) (k0 r : Fo) (hN : ∀ a' k' j, (Fo.cons h k0 r).nth j = some (a', k') → CoSaid k') (A : Option Addr) (c : Nat) (w : World) (T : Nat → Prop) (ho : OkT [] (.cons h k0 r)) (hs : (Fo.cons h k0 r).size ≤ 300) (hT : ∀ b, T b → b < w.heap.size) (hA : Sl w T A (.cons h k0 r)) :
    Calls Tryz.prog 60 #[.agg #[S [], .slice A (Fo.cons h k0 r).len c]] w fun e w' => e = .returned (.int .i64 (cT [] (.cons h k0 r) : Nat)) ∧ Fr No w w' := by
  have HN := Lib.hid hN
  clear hN
  have htm := ho.tm
  simp only [isTm, if_true, isTms, Bool.and_eq_true] at htm
  obtain ⟨hsn, htm⟩ := htm
  have hrl := isTms_len _ _ htm
  have hsl := shape_short h
  have hs1 : 1 ≤ (shapeOf h).length := by
    cases hq : shapeOf h with
    | nil => rw [hq] at hsn; cases hsn
    | cons => simp
  have hle := cT_le ho (by simpa [treeSize] using hs)
  have hrz : r.size ≤ 300 := by simp only [Fo.size] at hs; omega
  have HO := Lib.hid ho
  clear htm hsn ho
  have hb0 : cT [] (.cons h k0 r) = rxN (.cons h k0 r) + cU r (.kids h [] 1) := rfl
  obtain ⟨tot, htot⟩ : ∃ t, t = cT [] (.cons h k0 r) := ⟨_, rfl⟩
  have HTOT : Hid (rxN (.cons h k0 r) + cU (r.from_ 0) (.kids h [] 1) = tot) := by show _ = _; rw [htot, hb0, Fo.from_zero]
  rw [← htot] at hle ⊢
  clear hb0 htot
  obtain ⟨m, HM⟩ : ∃ m, Hid (m = (shapeOf h).length) := ⟨_, rfl⟩
  obtain ⟨L, HL⟩ : ∃ L, Hid ((Fo.cons h k0 r).len = L) := ⟨_, rfl⟩
  have HLM : Hid (L = m + 1) := by
    have h1 := HL.out
    have h2 := HM.out
    show L = m + 1
    simp only [Fo.len] at h1
    omega
  have HRL : Hid (r.len = m) := by
    have h2 := HM.out
    show r.len = m
    omega
  rw [← HM.out] at hsl hs1
  rw [HL.out]
  clear hrl
  have b0 := Blk.new w 40 #[S [], .slice A L c]
  have hfa : Fr No w (w.alloc (.cells #[S [], .slice A L c] 40)) := (Fr.refl _ _).alloc _
  obtain ⟨rb, HRB⟩ : ∃ z, Hid (rxF (.cons h k0 r) = z) := ⟨_, rfl⟩
  have RX : Hid (Calls Tryz.prog 44 #[.agg #[S [], .slice A L c]] (w.alloc (.cells #[S [], .slice A L c] 40)) fun e w' => e = .returned (.bool rb) ∧ Fr No (w.alloc (.cells #[S [], .slice A L c] 40)) w') := by
    have := redex4_any (w.alloc (.cells #[S [], .slice A L c] 40)) T [] A c (.cons h k0 r) HO.out (hA.fr hT hfa) (fun b hb => Nat.lt_of_lt_of_le (hT b hb) hfa.size)
    have e : rxB [] (.cons h k0 r) = rb := HRB.out
    rw [e, HL.out] at this
    exact this
  have LOOP : ∀ (s0 : Nat), rxN (.cons h k0 r) = s0 → ∀ wr, Fr No w wr → ∃ j s : Nat, j ≤ m ∧ Value.int .i64 1 = .int .i64 ((j + 1 : Nat) : Int) ∧ Value.int .i64 (s0 : Int) = .int .i64 s ∧ s + cU (r.from_ j) (.kids h [] (j + 1)) = tot ∧ Fr No w wr := fun s0 h0 wr hf =>
    ⟨0, s0, Nat.zero_le _, rfl, rfl, by rw [← h0]; exact HTOT.out, hf⟩
  have HLOOP := Lib.hid LOOP
  clear LOOP
  have HB0 := Lib.hid b0
  have HFA := Lib.hid hfa
  have ROUND : Hid (∀ (j s : Nat) (wr : World), j ≤ m → s + cU (r.from_ j) (.kids h [] (j + 1)) = tot → Fr No w wr → j < m → ∃ g o a' k' A' c' b, A = some ⟨g, o, none⟩ ∧ wr.cell? ⟨g, o + (j + 1) * 2, none⟩ = some (S a') ∧ wr.cell? ⟨g, o + (j + 1) * 2 + 1, none⟩ = some (.slice A' k' c') ∧ g < wr.heap.size ∧
      Hid (Calls Tryz.prog 47 #[.agg #[S [], .slice (some ⟨g, o, none⟩) L c], .int .i64 ((j + 1 : Nat) : Int)] wr fun e w' => e = .returned (.bool b) ∧ Fr No wr w') ∧
      (b = false → Hid (s + cU (r.from_ (j + 1)) (.kids h [] (j + 1 + 1)) = tot)) ∧
      (b = true → ∃ q, q ≤ 300 ∧ Hid (s + q + cU (r.from_ (j + 1)) (.kids h [] (j + 1 + 1)) = tot) ∧ Hid (∀ w', Fr No wr w' → Calls Tryz.prog 60 #[.agg #[S a', .slice A' k' c']] w' fun e w2 => e = .returned (.int .i64 (q : Nat)) ∧ Fr No w' w2))) := by
    intro j s wr hj hsum hfr hlt
    have hTr : ∀ b, T b → b < wr.heap.size := fun b hb => Nat.lt_of_lt_of_le (hT b hb) hfr.size
    have hAr := hA.fr hT hfr
    obtain ⟨g, o, a', k', A', c', rfl, hg, hn, q0, q1, hsl'⟩ := hAr.nth (j := j + 1) (by rw [HL.out, HLM.out]; omega)
    have hnr : r.nth j = some (a', k') := hn
    obtain ⟨b, hbj⟩ : ∃ b, (shapeOf h)[j]? = some b := ⟨_, List.getElem?_eq_getElem (by rw [← HM.out]; exact hlt)⟩
    have hst := cU_step (h := h) (b := []) (i := j + 1) hnr
    have hin : innB h (j + 1) = b := by
      unfold innB
      rw [show j + 1 - 1 = j by omega, hbj]
      cases b <;> rfl
    have hz := Fo.nth_size hnr
    refine ⟨g, o, a', k'.len, A', c', b, rfl, q0, q1, block_lt q0, Lib.hid (HL.out ▸ inner_any wr T [] h k0 r _ c (j + 1) b (by omega) hbj hAr), fun hb => ?_, fun hb => ?_⟩
    · rw [hst, hin, hb] at hsum
      exact Lib.hid (by simpa using hsum)
    · have hok := HO.out.part hnr (by rw [hin, hb])
      rw [hst, hin, hb] at hsum
      refine ⟨cT a' k', cT_le hok (by omega), Lib.hid (by simp only [if_true] at hsum; omega), Lib.hid ?_⟩
      intro w' hf
      exact HN.out a' k' (j + 1) hn a' A' c' w' T hok (by omega) (fun b hb => Nat.lt_of_lt_of_le (hTr b hb) hf.size) (hsl'.mono (fun _ h => h) (fun b hb => hf.block b (hTr b hb) (fun h => h)))
  clear hA hT hs
  cases rb
  · have h0 : Hid (rxN (.cons h k0 r) = 0) := by show _ = _; simp [rxN, HRB.out]
    go_enter Tryz.func60, Tryz.ntmps60
    go_wp2_with fail
    refine RX.out.mono ?_
    rintro e w1 ⟨rfl, hf1⟩
    have HFW := Lib.hid (HFA.out.trans hf1)
    have HBW := Lib.hid (HB0.out.fr hf1 (fun h => h))
    clear hf1 hfa b0
    go_wp2_with fail
    go_loopw [3, 4] (fun v i wr => ∃ j s : Nat, j ≤ m ∧ i = .int .i64 ((j + 1 : Nat) : Int) ∧ v = .int .i64 s ∧ s + cU (r.from_ j) (.kids h [] (j + 1)) = tot ∧ Fr No w wr ∧ Blk wr w.heap.size 40 #[S [], .slice A L c]) (fun _ i _ => m + 1 - (intOf i).toNat)
    case atStart => exact ⟨0, 0, Nat.zero_le _, rfl, rfl, by have := HTOT.out; rw [h0.out] at this; exact this, HFW.out, HBW.out⟩
    case round =>
      obtain ⟨j, s, hj, rfl, rfl, hsum, hfr, hb⟩ := hrel
      have HS := Lib.hid hsum
      have HFR := Lib.hid hfr
      have HB := Lib.hid hb
      have z1 : (0 : Int) ≤ (s : Int) := by omega
      have z2 : (s : Int) ≤ 300 := by omega
      have c1 : wr.cell? ⟨w.heap.size, 1, none⟩ = some (.slice A L c) := (hb.cell 1).trans rfl
      have c0 : wr.cell? ⟨w.heap.size, 0, none⟩ = some (S []) := (hb.cell 0).trans rfl
      have hlw := hb.lt
      by_cases hlt : j < m
      · obtain ⟨g, o, a', k', A', c', b, rfl, q0, q1, hlg, IN, B1, B2⟩ := ROUND.out j s wr hj hsum hfr hlt
        have hjc : (j : Int) + 1 < (L : Int) := by have := HLM.out; omega
        have hjn : j + 1 < L := by have := HLM.out; omega
        clear hsum hfr hb
        cases b
        · have HT := B1 rfl
          clear B1 B2
          go_wp2_with fail
          refine IN.out.mono ?_
          rintro e w1 ⟨rfl, hf1⟩
          have HF1 := Lib.hid hf1
          clear hf1
          go_wp2_with fail
          go_roundw
          case rel => exact ⟨j + 1, s, by omega, by go_num, rfl, HT.out, HFR.out.trans HF1.out, HB.out.fr HF1.out (fun h => h)⟩
          case measure => simp [intOf]; omega
        · obtain ⟨q, hq, HT, CALL⟩ := B2 rfl
          clear B1 B2
          have y1 : (0 : Int) ≤ (q : Int) := by omega
          have y2 : (q : Int) ≤ 300 := by omega
          have hwr : IntKind.i64.wrap ((s : Int) + (q : Int)) = ((s + q : Nat) : Int) := by rw [IntWalk.i64_in _ (by omega)]; omega
          go_wp2_with fail
          refine IN.out.mono ?_
          rintro e w1 ⟨rfl, hf1⟩
          have hb1 := HB.out.fr hf1 (fun h => h)
          have d1 : w1.cell? ⟨w.heap.size, 1, none⟩ = some (.slice (some ⟨g, o, none⟩) L c) := (hb1.cell 1).trans rfl
          have d0 : w1.cell? ⟨w.heap.size, 0, none⟩ = some (S []) := (hb1.cell 0).trans rfl
          have dl := hb1.lt
          have p0 : w1.cell? ⟨g, o + (j + 1) * 2, none⟩ = some (S a') := (hf1.cell (p := ⟨g, o + (j + 1) * 2, none⟩) hlg (fun h => h)).trans q0
          have p1 : w1.cell? ⟨g, o + (j + 1) * 2 + 1, none⟩ = some (.slice A' k' c') := (hf1.cell (p := ⟨g, o + (j + 1) * 2 + 1, none⟩) hlg (fun h => h)).trans q1
          have pl : g < w1.heap.size := Nat.lt_of_lt_of_le hlg hf1.size
          have HF1 := Lib.hid hf1
          clear hf1 hb1
          go_wp2_with fail
          refine (CALL.out w1 HF1.out).mono ?_
          rintro e w2 ⟨rfl, hf2⟩
          have HF2 := Lib.hid (HF1.out.trans hf2)
          clear hf2
          go_wp2_with fail
          go_roundw
          case rel => exact ⟨j + 1, s + q, by omega, by go_num, by go_num, HT.out, HFR.out.trans HF2.out, HB.out.fr HF2.out (fun h => h)⟩
          case measure => simp [intOf]; omega
      · have hjm : j = m := by omega
        have hjc : ¬ (j : Int) + 1 < (L : Int) := by have := HLM.out; omega
        have HF : Hid ((s : Int) = (tot : Nat)) := by
          have := HS.out
          rw [hjm, ← HRL.out, Fo.from_len] at this
          have e : cU .nil (.kids h [] (r.len + 1)) = 0 := rfl
          show (s : Int) = _
          omega
        clear hsum hjm hfr hb
        go_wp2_with fail
        go_ret
        exact ⟨ret_num HF.out, HFR.out⟩
  · have h0 : Hid (rxN (.cons h k0 r) = 1) := by show _ = _; simp [rxN, HRB.out]
    go_enter Tryz.func60, Tryz.ntmps60
    go_wp2_with fail
    refine RX.out.mono ?_
    rintro e w1 ⟨rfl, hf1⟩
    have HFW := Lib.hid (HFA.out.trans hf1)
    have HBW := Lib.hid (HB0.out.fr hf1 (fun h => h))
    clear hf1 hfa b0
    go_wp2_with fail
    go_loopw [3, 4] (fun v i wr => ∃ j s : Nat, j ≤ m ∧ i = .int .i64 ((j + 1 : Nat) : Int) ∧ v = .int .i64 s ∧ s + cU (r.from_ j) (.kids h [] (j + 1)) = tot ∧ Fr No w wr ∧ Blk wr w.heap.size 40 #[S [], .slice A L c]) (fun _ i _ => m + 1 - (intOf i).toNat)
    case atStart => exact ⟨0, 1, Nat.zero_le _, rfl, rfl, by have := HTOT.out; rw [h0.out] at this; exact this, HFW.out, HBW.out⟩
    case round =>
      obtain ⟨j, s, hj, rfl, rfl, hsum, hfr, hb⟩ := hrel
      have HS := Lib.hid hsum
      have HFR := Lib.hid hfr
      have HB := Lib.hid hb
      have z1 : (0 : Int) ≤ (s : Int) := by omega
      have z2 : (s : Int) ≤ 300 := by omega
      have c1 : wr.cell? ⟨w.heap.size, 1, none⟩ = some (.slice A L c) := (hb.cell 1).trans rfl
      have c0 : wr.cell? ⟨w.heap.size, 0, none⟩ = some (S []) := (hb.cell 0).trans rfl
      have hlw := hb.lt
      by_cases hlt : j < m
      · obtain ⟨g, o, a', k', A', c', b, rfl, q0, q1, hlg, IN, B1, B2⟩ := ROUND.out j s wr hj hsum hfr hlt
        have hjc : (j : Int) + 1 < (L : Int) := by have := HLM.out; omega
        have hjn : j + 1 < L := by have := HLM.out; omega
        clear hsum hfr hb
        cases b
        · have HT := B1 rfl
          clear B1 B2
          go_wp2_with fail
          refine IN.out.mono ?_
          rintro e w1 ⟨rfl, hf1⟩
          have HF1 := Lib.hid hf1
          clear hf1
          go_wp2_with fail
          go_roundw
          case rel => exact ⟨j + 1, s, by omega, by go_num, rfl, HT.out, HFR.out.trans HF1.out, HB.out.fr HF1.out (fun h => h)⟩
          case measure => simp [intOf]; omega
        · obtain ⟨q, hq, HT, CALL⟩ := B2 rfl
          clear B1 B2
          have y1 : (0 : Int) ≤ (q : Int) := by omega
          have y2 : (q : Int) ≤ 300 := by omega
          have hwr : IntKind.i64.wrap ((s : Int) + (q : Int)) = ((s + q : Nat) : Int) := by rw [IntWalk.i64_in _ (by omega)]; omega
          go_wp2_with fail
          refine IN.out.mono ?_
          rintro e w1 ⟨rfl, hf1⟩
          have hb1 := HB.out.fr hf1 (fun h => h)
          have d1 : w1.cell? ⟨w.heap.size, 1, none⟩ = some (.slice (some ⟨g, o, none⟩) L c) := (hb1.cell 1).trans rfl
          have d0 : w1.cell? ⟨w.heap.size, 0, none⟩ = some (S []) := (hb1.cell 0).trans rfl
          have dl := hb1.lt
          have p0 : w1.cell? ⟨g, o + (j + 1) * 2, none⟩ = some (S a') := (hf1.cell (p := ⟨g, o + (j + 1) * 2, none⟩) hlg (fun h => h)).trans q0
          have p1 : w1.cell? ⟨g, o + (j + 1) * 2 + 1, none⟩ = some (.slice A' k' c') := (hf1.cell (p := ⟨g, o + (j + 1) * 2 + 1, none⟩) hlg (fun h => h)).trans q1
          have pl : g < w1.heap.size := Nat.lt_of_lt_of_le hlg hf1.size
          have HF1 := Lib.hid hf1
          clear hf1 hb1
          go_wp2_with fail
          refine (CALL.out w1 HF1.out).mono ?_
          rintro e w2 ⟨rfl, hf2⟩
          have HF2 := Lib.hid (HF1.out.trans hf2)
          clear hf2
          go_wp2_with fail
          go_roundw
          case rel => exact ⟨j + 1, s + q, by omega, by go_num, by go_num, HT.out, HFR.out.trans HF2.out, HB.out.fr HF2.out (fun h => h)⟩
          case measure => simp [intOf]; omega
      · have hjm : j = m := by omega
        have hjc : ¬ (j : Int) + 1 < (L : Int) := by have := HLM.out; omega
        have HF : Hid ((s : Int) = (tot : Nat)) := by
          have := HS.out
          rw [hjm, ← HRL.out, Fo.from_len] at this
          have e : cU .nil (.kids h [] (r.len + 1)) = 0 := rfl
          show (s : Int) = _
          omega
        clear hsum hjm hfr hb
        go_wp2_with fail
        go_ret
        exact ⟨ret_num HF.out, HFR.out⟩

theorem count4_any (N : Nat) : ∀ k : Fo, SizeOf.sizeOf k < N → CoSaid k := by
  induction N with
  | zero => intro k h; omega
  | succ N ih =>
    intro k hN a A c w T ho hs hT hA
    by_cases he : a = []
    · subst he
      have e2 : treeSize [] k = k.size := by simp [treeSize]
      rw [e2] at hs
      cases k with
      | nil => have := ho.tm; simp [isTm, isTms] at this
      | cons g k0 r => exact count4_node g k0 r (fun a' k' j hn => ih k' (by have := Fo.nth_small _ j a' k' hn; omega)) A c w T ho hs hT hA
    · have hae : a.isEmpty = false := by cases a; exact absurd rfl he; rfl
      obtain rfl := ho.at_ he
      have e1 : cT a .nil = 0 := by simp [cT, he]
      rw [e1]
      have RX : Hid (∀ o : Obj, Calls Tryz.prog 44 #[.agg #[S a, .slice A 0 c]] (w.alloc o) fun e w' => e = .returned (.bool false) ∧ Fr No w w') := fun o =>
        (redex4_any (w.alloc o) T a A c .nil ho (hA.fr hT ((Fr.refl _ _).alloc o)) (fun b hb => Nat.lt_of_lt_of_le (hT b hb) ((Fr.refl No w).alloc o).size)).mono (by
          rintro e w' ⟨rfl, h2⟩
          exact ⟨by simp [rxB, he], ((Fr.refl No w).alloc o).trans h2⟩)
      have b0 := Blk.new w 40 #[S a, .slice A 0 c]
      have KEEP : Hid (∀ w' : World, Fr No w w' → True) := fun _ _ => trivial
      clear KEEP
      have RX2 : Hid (Calls Tryz.prog 44 #[.agg #[S a, .slice A 0 c]] (w.alloc (.cells #[S a, .slice A 0 c] 40)) fun e w' => e = .returned (.bool false) ∧ Fr No w w' ∧ w'.cell? ⟨w.heap.size, 1, none⟩ = some (.slice A 0 c) ∧ w.heap.size < w'.heap.size) := by
        refine (redex4_any (w.alloc (.cells #[S a, .slice A 0 c] 40)) T a A c .nil ho (hA.fr hT ((Fr.refl _ _).alloc _)) (fun b hb => Nat.lt_of_lt_of_le (hT b hb) ((Fr.refl No w).alloc _).size)).mono ?_
        rintro e w' ⟨rfl, h2⟩
        have hb := b0.fr h2 (fun h => h)
        exact ⟨by simp [rxB, he], ((Fr.refl No w).alloc _).trans h2, (hb.cell 1).trans rfl, hb.lt⟩
      clear RX hs hA hT ho e1 b0
      go_enter Tryz.func60, Tryz.ntmps60
      go_wp2_with fail
      refine RX2.out.mono ?_
      rintro e w1 ⟨rfl, hf1, c1, l1⟩
      go_wp2_with fail
      go_loopw [3, 4] (fun v i wr => v = .int .i64 0 ∧ i = .int .i64 1 ∧ wr = w1) (fun _ _ _ => 0)
      case atStart => exact ⟨rfl, rfl, rfl⟩
      case round =>
        obtain ⟨rfl, rfl, rfl⟩ := hrel
        go_wp2_with fail
        go_ret
        exact ⟨rfl, hf1⟩

set_option maxHeartbeats 1000000 in
theorem specRedexCount (w : World) (s : List UInt8) (hs : s.length ≤ maxLen) :
    Calls Tryz.prog 35 #[S s] w fun e w' => AnsN (fun a k => cT a k) s w e w' := by
  go_enter Tryz.func35, Tryz.ntmps35
  go_wp2_with fail
  refine (term_any s _ hs).mono ?_
  rintro e w1 ⟨hf, ⟨a, k, A, c, hi, rfl, hsl⟩ | ⟨a, A, m, c, hno, rfl⟩⟩
  · have CALL : Hid (∀ o : Obj, Calls Tryz.prog 60 #[.agg #[S a, .slice A k.len c]] (w1.alloc o) fun e w' => e = .returned (.int .i64 (cT a k : Nat)) ∧ Fr No (w1.alloc o) w') := fun o =>
      count4_any _ k (Nat.lt_succ_self _) a A c (w1.alloc o) (New w w1) hi.2.okT hi.2.2.2 (fun b hb => by have := hb.2; simp; omega) (hsl.fr (fun b hb => hb.2) ((Fr.refl _ _).alloc o))
    have HI := Lib.hid hi
    clear hi hsl
    go_wp2_with fail
    refine (CALL.out _).mono ?_
    rintro e w2 ⟨rfl, hf2⟩
    go_wp2
    go_ret
    exact ⟨_, rfl, .inl ⟨a, k, HI.out, rfl⟩, (hf.alloc _).trans hf2⟩
  · go_wp2
    go_ret
    exact ⟨_, rfl, .inr ⟨hno, rfl⟩, hf.alloc _⟩

theorem cR_tree {a : List UInt8} {k : Fo} (h : OkT a k) (hs : treeSize a k ≤ 300) : cR (nd [] a k) = cT a k := by
  by_cases ha : a = []
  · subst ha
    have e : treeSize [] k = k.size := by simp [treeSize]
    exact ((st_term (n := 0) h (by omega) []).1).symm
  · have := ct_atom h ha []
    rw [this.1, this.2]

/-- a text that is a normal term -/
def NormIs (s : List UInt8) : Prop := ∃ a k, TmOk s a k ∧ cT a k = 0

theorem norm_iff {s : List UInt8} {n : Int} (h : (∃ a k, TmOk s a k ∧ n = (cT a k : Nat)) ∨ ((∀ a k, ¬ TmOk s a k) ∧ n = -1)) : n = 0 ↔ NormIs s := by
  rcases h with ⟨a, k, h1, h2⟩ | ⟨h1, h2⟩
  · constructor
    · intro e; exact ⟨a, k, h1, by omega⟩
    · rintro ⟨a', k', g1, g2⟩
      obtain ⟨rfl, rfl⟩ := h1.unique g1
      omega
  · constructor
    · intro e; omega
    · rintro ⟨a', k', g1, _⟩; exact absurd g1 (h1 _ _)

set_option maxHeartbeats 1000000 in
theorem specNormalIs (w : World) (s : List UInt8) (hs : s.length ≤ maxLen) :
    Calls Tryz.prog 24 #[S s] w fun e w' => AnsB (NormIs s) w e w' := by
  go_enter Tryz.func24, Tryz.ntmps24
  go_wp2_with fail
  refine (specRedexCount w s hs).mono ?_
  rintro e w1 ⟨n, rfl, h1, hf⟩
  have HI := Lib.hid (norm_iff h1)
  clear h1
  by_cases hn : n = 0
  · have nb : (n == 0) = true := beq_iff_eq.2 hn
    have HN := Lib.hid hn
    clear hn
    go_wp2_with fail
    go_ret
    exact ⟨true, rfl, ⟨fun _ => HI.out.1 HN.out, fun _ => rfl⟩, hf⟩
  · have nb : (n == 0) = false := beq_eq_false_iff_ne.2 hn
    have HN := Lib.hid hn
    clear hn
    go_wp2_with fail
    go_ret
    exact ⟨false, rfl, ⟨fun h => (by cases h), fun h => (HN.out (HI.out.2 h)).elim⟩, hf⟩

end Go.Proofs.YtnjgaenhjdjpfaaGreatDoor
