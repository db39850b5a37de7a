/- TermAlike of the program: as what lam and let call their names is all that is not compared. -/
import Derived.Test.YthbidlcfahdfhaaDoorTuse
import Derived.Test.YthbidlcfahdfhaaDoorTrn
import Derived.BigQuiet
import Derived.Deep.RegionHeld3
namespace Go.Proofs.YthbidlcfahdfhaaDoor
open Go.RowKit Go.ChangeMaps

/-- how the program compares two terms -/
def smN (h a : List UInt8) (d : Nat) (k : Ts) (h' a' : List UInt8) (d' : Nat) (k' : Ts) : Bool := h == h' && d == d' && (if k.len = 0 then a == a' else smL k k')

theorem sm_cons (h a : List UInt8) (d : Nat) (k r : Ts) (h' a' : List UInt8) (d' : Nat) (k' r' : Ts) : smL (.cons h a d k r) (.cons h' a' d' k' r') = (smN h a d k h' a' d' k' && smL r r') := rfl

/-- depths are small -/
def DepOk : Ts → Prop
  | .nil => True
  | .cons _ _ d k r => d ≤ 100000 ∧ DepOk k ∧ DepOk r

theorem DepOk.nth : ∀ {f : Ts} {j : Nat} {h a : List UInt8} {d : Nat} {k : Ts}, DepOk f → f.nth j = some (h, a, d, k) → d ≤ 100000 ∧ DepOk k
  | .nil, _, _, _, _, _, _, e => by cases e
  | .cons h a d k r, 0, h', a', d', k', hd, e => by
    simp only [Ts.nth, Option.some.injEq, Prod.mk.injEq] at e
    obtain ⟨rfl, rfl, rfl, rfl⟩ := e
    exact ⟨hd.1, hd.2.1⟩
  | .cons h a d k r, j + 1, h', a', d', k', hd, e => DepOk.nth (f := r) hd.2.2 e

def SmSaid2 (k : Ts) : Prop := ∀ (h a : List UInt8) (d p : Nat) (h' a' : List UInt8) (d' p' : Nat) (k' : Ts) (w : World) (T T' : Nat → Prop), k.size ≤ 5000 → k'.size ≤ 5000 → d ≤ 100000 → d' ≤ 100000 → DepOk k → DepOk k' → (∀ b, T b → b < w.heap.size) → (∀ b, T' b → b < w.heap.size) → Tm w T p h a d k → Tm w T' p' h' a' d' k' →
  Calls Tryd.prog 42 #[Ptr p, Ptr p'] w fun e w' => e = .returned (.bool (smN h a d k h' a' d' k')) ∧ Fr No w w'

theorem sm_step {f f' : Ts} {j : Nat} {h a : List UInt8} {d : Nat} {k : Ts} {h' a' : List UInt8} {d' : Nat} {k' : Ts} (e : f.nth j = some (h, a, d, k)) (e' : f'.nth j = some (h', a', d', k')) : smL (f.from_ j) (f'.from_ j) = (smN h a d k h' a' d' k' && smL (f.from_ (j + 1)) (f'.from_ (j + 1))) := by
  rw [Ts.from_nth f j h a d k e, Ts.from_nth f' j h' a' d' k' e']
  rfl

set_option maxRecDepth 100000 in
set_option maxHeartbeats 1000000 in
theorem equal_any (k : Ts) (hN : ∀ h a d k' j, k.nth j = some (h, a, d, k') → SmSaid2 k') (k' : Ts) (w : World) (T T' : Nat → Prop) (A A' : Option Addr) (c c' : Nat) (hs : k.size ≤ 5000) (hs' : k'.size ≤ 5000) (hd : DepOk k) (hd' : DepOk k') (hT : ∀ b, T b → b < w.heap.size) (hT' : ∀ b, T' b → b < w.heap.size) (h1 : TSl w T A k) (h2 : TSl w T' A' k') :
    Calls Tryd.prog 63 #[.slice A k.len c, .slice A' k'.len c', .func (.func 42) #[] #[]] w fun e w' => e = .returned (.bool (smL k k')) ∧ Fr No w w' := by
  have HN := Lib.hid hN
  have H1 := Lib.hid h1
  have H2 := Lib.hid h2
  have HT := Lib.hid hT
  have HT' := Lib.hid hT'
  have HD := Lib.hid hd
  have HD' := Lib.hid hd'
  have hln := Ts.len_size k
  have hln' := Ts.len_size k'
  obtain ⟨n, hn⟩ : ∃ n, n = k.len := ⟨_, rfl⟩
  obtain ⟨n', hn'⟩ : ∃ n', n' = k'.len := ⟨_, rfl⟩
  have HNN := Lib.hid hn
  have HNN' := Lib.hid hn'
  rw [← hn, ← hn']
  have n1 : (n : Int) ≤ 5000 := by omega
  have n2 : (n' : Int) ≤ 5000 := by omega
  obtain ⟨res, HRES⟩ : ∃ z, Hid (smL k k' = z) := ⟨_, rfl⟩
  rw [HRES.out]
  by_cases hne : n = n'
  · have n3 : ((n : Int) != (n' : Int)) = false := by rw [hne]; simp
    have HE := Lib.hid hne
    clear hN h1 h2 hT hT' hd hd' hln hln' hn hn' hne
    go_enter Tryd.func63, Tryd.ntmps63
    go_wp2_with fail
    go_loopw [17] (fun u wr => ∃ j : Nat, j ≤ n ∧ u = .int .i64 j ∧ smL (k.from_ j) (k'.from_ j) = res ∧ Fr No w wr) (fun u _ => n - (intOf u).toNat)
    case atStart => exact ⟨0, Nat.zero_le _, rfl, by rw [Ts.from_zero, Ts.from_zero]; exact HRES.out, Fr.refl _ _⟩
    case round =>
      obtain ⟨j, hj, rfl, hsm, hfr⟩ := hrel
      have HS := Lib.hid hsm
      have HFR := Lib.hid hfr
      clear hsm hfr
      by_cases hlt : j < n
      · obtain ⟨g, o, q, h', a', d', kk, rfl, hg, hnth, hc, htm⟩ := (H1.out.mono (T' := T) (fun _ h => h) (fun b hb => HFR.out.block b (HT.out b hb) (fun h => h))).at_ (by rw [← HNN.out]; exact hlt)
        obtain ⟨g2, o2, q2, h2, a2, d2, kk2, rfl, hg2, hnth2, hc2, htm2⟩ := (H2.out.mono (T' := T') (fun _ h => h) (fun b hb => HFR.out.block b (HT'.out b hb) (fun h => h))).at_ (by rw [← HNN'.out, ← HE.out]; exact hlt)
        have hst := sm_step hnth hnth2
        have hz := Ts.nth_size hnth
        have hz2 := Ts.nth_size hnth2
        obtain ⟨e1, e2⟩ := HD.out.nth hnth
        obtain ⟨e3, e4⟩ := HD'.out.nth hnth2
        have CALL := Lib.hid (HN.out h' a' d' kk j hnth h' a' d' q h2 a2 d2 q2 kk2 wr T T' (by omega) (by omega) e1 e3 e2 e4 (fun b hb => Nat.lt_of_lt_of_le (HT.out b hb) HFR.out.size) (fun b hb => Nat.lt_of_lt_of_le (HT'.out b hb) HFR.out.size) htm htm2)
        rw [HS.out] at hst
        have HST := Lib.hid hst
        have hlg := block_lt hc
        have hlg2 := block_lt hc2
        have jn : (j : Int) < (n' : Int) := by have := HE.out; omega
        clear hst hz hz2 e1 e2 e3 e4 htm htm2 hnth hnth2
        rcases hb : smN h' a' d' kk h2 a2 d2 kk2 with _ | _
        · rw [hb] at CALL HST
          clear hb
          go_wp2_with fail
          refine CALL.out.mono ?_
          rintro e w1 ⟨rfl, hf1⟩
          have HF := Lib.hid (HFR.out.trans hf1)
          clear hf1
          go_wp2_with fail
          go_ret
          exact ⟨by rw [HST.out]; rfl, HF.out⟩
        · rw [hb, Bool.true_and] at HST
          rw [hb] at CALL
          clear hb
          go_wp2_with fail
          refine CALL.out.mono ?_
          rintro e w1 ⟨rfl, hf1⟩
          have HF := Lib.hid (HFR.out.trans hf1)
          clear hf1
          go_wp2_with fail
          go_roundw
          case rel => exact ⟨j + 1, by omega, by go_num, HST.out.symm, HF.out⟩
          case measure => simp [intOf]; omega
      · have hjn : j = n := by omega
        have HX : Hid (res = true) := by
          have := HS.out
          rw [hjn, HNN.out, Ts.from_len, ← HNN.out, HE.out, HNN'.out, Ts.from_len] at this
          exact this.symm
        clear hjn
        go_wp2_with fail
        go_ret
        exact ⟨by rw [HX.out]; rfl, HFR.out⟩
  · have n3 : ((n : Int) != (n' : Int)) = true := by rw [bne_iff_ne]; omega
    have HX : Hid (res = false) := by
      have h1 := HRES.out
      cases res
      · exact rfl
      · exact absurd (sm_len _ _ h1) (by rw [← hn, ← hn']; exact hne)
    clear hN h1 h2 hT hT' hd hd' hln hln' hn hn' hne
    go_enter Tryd.func63, Tryd.ntmps63
    go_wp2_with fail
    go_ret
    exact ⟨by rw [HX.out]; rfl, Fr.refl _ _⟩

set_option maxRecDepth 100000 in
set_option maxHeartbeats 2000000 in
theorem same_node (k : Ts) (hN : ∀ h a d k' j, k.nth j = some (h, a, d, k') → SmSaid2 k') : SmSaid2 k := by
  intro h a d p h' a' d' p' k' w T T' hs hs' hd hd' hdk hdk' hT hT' ht ht'
  obtain ⟨hp, A, c, hb, hsl⟩ := ht.open_
  obtain ⟨hp', A', c', hb', hsl'⟩ := ht'.open_
  have c0 : w.cell? ⟨p, 0, none⟩ = some (S h) := (hb.cell 0).trans rfl
  have c1 : w.cell? ⟨p, 1, none⟩ = some (S a) := (hb.cell 1).trans rfl
  have c2 : w.cell? ⟨p, 2, none⟩ = some (.int .i64 d) := (hb.cell 2).trans rfl
  have c3 : w.cell? ⟨p, 3, none⟩ = some (.slice A k.len c) := (hb.cell 3).trans rfl
  have x0 : w.cell? ⟨p', 0, none⟩ = some (S h') := (hb'.cell 0).trans rfl
  have x1 : w.cell? ⟨p', 1, none⟩ = some (S a') := (hb'.cell 1).trans rfl
  have x2 : w.cell? ⟨p', 2, none⟩ = some (.int .i64 d') := (hb'.cell 2).trans rfl
  have x3 : w.cell? ⟨p', 3, none⟩ = some (.slice A' k'.len c') := (hb'.cell 3).trans rfl
  have l0 := hb.lt
  have l1 := hb'.lt
  have EQ : Hid (∀ (W : World) (n : Nat), W = w.drewN n → Calls Tryd.prog 63 #[.slice A k.len c, .slice A' k'.len c', .func (.func 42) #[] #[]] W fun e w' => e = .returned (.bool (smL k k')) ∧ Fr No w w' ∧ w'.cell? ⟨p, 3, none⟩ = some (.slice A k.len c) ∧ w'.cell? ⟨p', 3, none⟩ = some (.slice A' k'.len c')) := by
    rintro W n rfl
    refine (equal_any k hN k' (w.drewN n) T T' A A' c c' hs hs' hdk hdk' hT hT' (hsl.mono (w' := w.drewN n) (fun _ h => h) (fun _ _ => rfl)) (hsl'.mono (w' := w.drewN n) (fun _ h => h) (fun _ _ => rfl))).mono ?_
    rintro e w' ⟨rfl, hf⟩
    have hfw : Fr No w w' := ((Fr.refl _ w).drewN n).trans hf
    exact ⟨rfl, hfw, ((hb.fr hfw (fun h => h)).cell 3).trans rfl, ((hb'.fr hfw (fun h => h)).cell 3).trans rfl⟩
  have hln := Ts.len_size k
  have hl5 : (k.len : Int) ≤ 5000 := by omega
  have hd1 : (d : Int) ≤ 100000 := by omega
  have hd2 : (d' : Int) ≤ 100000 := by omega
  obtain ⟨res, HRES⟩ : ∃ z, Hid (smN h a d k h' a' d' k' = z) := ⟨_, rfl⟩
  rw [HRES.out]
  clear hN hs hs' hdk hdk' hT hT' ht ht' hb hb' hsl hsl' hln
  by_cases hh : h = h'
  · by_cases hdd : d = d'
    · subst hh; subst hdd
      by_cases hk0 : k.len = 0
      · have n0 : ((k.len : Int) == 0) = true := by rw [hk0]; rfl
        by_cases haa : a = a'
        · have HX : Hid (res = true) := by
            show _ = _
            rw [← HRES.out, smN, if_pos hk0, haa]
            simp
          subst haa
          clear hk0 EQ
          go_enter Tryd.func42, Tryd.ntmps42
          go_wp2_with fail
          go_quiet (fail)
          go_wp2_with fail
          go_quiet (fail)
          go_wp2_with fail
          go_ret
          exact ⟨by rw [HX.out]; rfl, ((Fr.refl _ _).drewN _).drewN _⟩
        · have hne : (a == a') = false := by simpa using haa
          have HX : Hid (res = false) := by
            show _ = _
            rw [← HRES.out, smN, if_pos hk0, hne]
            simp
          clear hk0 EQ haa
          go_enter Tryd.func42, Tryd.ntmps42
          go_wp2_with fail
          go_quiet (fail)
          go_wp2_with fail
          go_quiet (fail)
          go_wp2_with fail
          go_ret
          exact ⟨by rw [HX.out]; rfl, ((Fr.refl _ _).drewN _).drewN _⟩
      · have n0 : ((k.len : Int) == 0) = false := beq_eq_false_iff_ne.2 (by omega)
        have HX : Hid (res = smL k k') := by
          show _ = _
          rw [← HRES.out, smN, if_neg hk0]
          simp
        obtain ⟨kl, HKL⟩ : ∃ z, Hid (k.len = z) := ⟨_, rfl⟩
        obtain ⟨kl', HKL'⟩ : ∃ z, Hid (k'.len = z) := ⟨_, rfl⟩
        rw [HKL.out] at c3 n0 hl5
        rw [HKL'.out] at x3
        rw [HKL.out, HKL'.out] at EQ
        clear hk0
        go_enter Tryd.func42, Tryd.ntmps42
        go_wp2_with fail
        go_quiet (fail)
        go_wp2_with fail
        go_region_held3 (fun w' => w'.cell? ⟨p, 3, none⟩ = some (.slice A kl c) ∧ w'.cell? ⟨p', 3, none⟩ = some (.slice A' kl' c')) (go_keep)
          (first | (go_at_call 63; ((with_reducible refine (EQ.out _ _ rfl).mono ?_); rintro e w2 ⟨rfl, hf2, e1, e2⟩)))
        go_wp2_with fail
        go_ret
        exact ⟨by rw [HX.out]; rfl, hf2⟩
    · have hne : (d : Int) ≠ (d' : Int) := by omega
      have hne2 : ((d : Int) != (d' : Int)) = true := by rw [bne_iff_ne]; exact hne
      have HX : Hid (res = false) := by
        show _ = _
        rw [← HRES.out, smN, show (d == d') = false by simpa using hdd]
        simp
      subst hh
      clear hdd EQ hne
      go_enter Tryd.func42, Tryd.ntmps42
      go_wp2_with fail
      go_quiet (fail)
      go_wp2_with fail
      go_ret
      exact ⟨by rw [HX.out]; rfl, (Fr.refl _ _).drewN _⟩
  · have hne : (h == h') = false := by simpa using hh
    have HX : Hid (res = false) := by
      show _ = _
      rw [← HRES.out, smN, hne]
      simp
    clear hh EQ
    go_enter Tryd.func42, Tryd.ntmps42
    go_wp2_with fail
    go_quiet (fail)
    go_wp2_with fail
    go_ret
    exact ⟨by rw [HX.out]; rfl, (Fr.refl _ _).drewN _⟩

theorem same_any (N : Nat) : ∀ k : Ts, SizeOf.sizeOf k < N → SmSaid2 k := by
  induction N with
  | zero => intro k h; omega
  | succ N ih =>
    intro k hN
    exact same_node k (fun h a d k' j hn => ih k' (by have := Ts.nth_small k j h a d k' hn; omega))
end Go.Proofs.YthbidlcfahdfhaaDoor
