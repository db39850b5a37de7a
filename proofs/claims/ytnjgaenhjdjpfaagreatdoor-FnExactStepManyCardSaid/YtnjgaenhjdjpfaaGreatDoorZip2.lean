/- What a step puts in a redex's place, in the program. -/
import Derived.Test.YtnjgaenhjdjpfaaGreatDoorZip
import Derived.Deep.RegionHeld3
namespace Go.Proofs.YtnjgaenhjdjpfaaGreatDoor
open Go.RowKit Go.ChangeMaps

theorem TsP.self {w : World} {T : Nat → Prop} {q : Nat} {h a : List UInt8} {d : Nat} {k : Ts} (ht : Tm w T q h a d k) : TsP T (.cons h a d k .nil) w (.returned (Ptr q)) w :=
  ⟨q, rfl, Fr.refl _ _, (ht.mono (fun _ h => .inl h) (fun _ _ => rfl) : Tm w (TN T w w) q h a d k)⟩

set_option maxRecDepth 100000 in
set_option maxHeartbeats 2000000 in
theorem reduct_any (w : World) (T : Nat → Prop) (p : Nat) (h a : List UInt8) (d : Nat) (k : Ts) (ht : Tm w T p h a d k) (hw : WfT (.cons h a d k .nil)) (hd : Dle 10000 (.cons h a d k .nil)) (hs : k.size ≤ 300) (hT : ∀ b, T b → b < w.heap.size) (hx : rxT h k = true) :
    Calls Tryz.prog 40 #[Ptr p] w fun e w' => TsP T (rdT h k) w e w' := by
  obtain ⟨c0, _, hlt, _⟩ := ht.head
  have hk := hw.1
  have hln := Ts.len_size k
  have hl : (k.len : Int) ≤ 5000 := by omega
  have n1 : ¬ hApp = hLet := by decide
  have n2 : ¬ hFst = hLet := by decide
  have n3 : ¬ hFst = hApp := by decide
  have n4 : ¬ hSnd = hLet := by decide
  have n5 : ¬ hSnd = hApp := by decide
  have n6 : ¬ hSnd = hFst := by decide
  have n7 : ¬ hIf = hLet := by decide
  have n8 : ¬ hIf = hApp := by decide
  have n9 : ¬ hIf = hFst := by decide
  have n10 : ¬ hIf = hSnd := by decide
  have K1 : ∀ (j : Nat) (h' a' : List UInt8) (d' : Nat) (k' : Ts), k.nth j = some (h', a', d', k') → k'.size + 1 ≤ 300 ∧ WfT (.cons h' a' d' k' .nil) ∧ Dle 10000 (.cons h' a' d' k' .nil) := fun j h' a' d' k' e =>
    ⟨by have := Ts.nth_size e; omega, WfT.nth hw.2.2.1 e, (Dle.nth hd.2.1 e).1, (Dle.nth hd.2.1 e).2, trivial⟩
  have BY : ∀ (q : Nat) (h' a' : List UInt8) (d' : Nat) (k' : Ts) (j : Nat), k.nth j = some (h', a', d', k') → Tm w T q h' a' d' k' → ByT w T q h' a' d' k' := fun q h' a' d' k' j e ht' => ⟨ht', (K1 j _ _ _ _ e).2.1, (K1 j _ _ _ _ e).2.2, by have := (K1 j _ _ _ _ e).1; omega⟩
  have HD : ∀ {j : Nat} {h' a' : List UInt8} {d' : Nat} {k' : Ts}, j = 0 → k.nth j = some (h', a', d', k') → k.hd = h' ∧ k.at1 = a' ∧ k.kids1 = k' := by
    rintro j h' a' d' k' rfl e
    cases k with
    | nil => cases e
    | cons =>
      simp only [Ts.nth, Option.some.injEq, Prod.mk.injEq] at e
      exact ⟨e.1, e.2.1, e.2.2.2⟩
  rcases rx_cases hx with rfl | ⟨rfl, h2⟩ | ⟨rfl, h2⟩ | ⟨rfl, h2⟩ | ⟨rfl, h2⟩
  · rw [k_let] at hk
    obtain ⟨g, o, c, c3, _, lg, hkid⟩ := ht.kid (by omega)
    obtain ⟨q0, h0, a0, d0, k0, e0, o0, x0, t0⟩ := hkid 0 (by omega)
    obtain ⟨q1, h1, a1, d1, k1, e1, o1, x1, t1⟩ := hkid 1 (by omega)
    have x0' : w.cell? ⟨g, o, none⟩ = some (Ptr q0) := x0
    have lq0 := t0.head.2.2.1
    have lq1 := t1.head.2.2.1
    have lk : (1 : Int) < (k.len : Int) := by omega
    have lk0 : (0 : Int) < (k.len : Int) := by omega
    have CALL : Hid (Calls Tryz.prog 67 #[Ptr q1, .int .i64 0, Ptr q0] w fun e w' => TsP T (rdT hLet k) w e w') := by
      have h1' := (K1 1 _ _ _ _ e1)
      have := pb_any _ k1 (Nat.lt_succ_self _) h1 a1 d1 q1 w T 0 q0 h0 a0 d0 k0 (by omega) (by omega) h1'.2.1 h1'.2.2 hT t1 (BY q0 _ _ _ _ 0 e0 t0)
      have er : rdT hLet k = pbK (.cons h0 a0 d0 k0 .nil) (.cons h1 a1 d1 k1 .nil) 0 [] 0 := by simp only [rdT, if_true, o0, o1]
      rw [er]
      exact this
    obtain ⟨R, HR⟩ : ∃ z, Hid (rdT hLet k = z) := ⟨_, rfl⟩
    rw [HR.out] at CALL ⊢
    unfold hLet at c0
    clear ht hw hd hT hx hkid x0 t0 t1 K1 BY HD e0 e1 o0 o1 n1 n2 n3 n4 n5 n6 n7 n8 n9 n10 hk hln hs
    go_enter Tryz.func40, Tryz.ntmps40
    go_wp2_with fail
    refine CALL.out.mono ?_
    rintro e w1 ⟨p1, rfl, g1, g2⟩
    have FIN : Hid (TsP T R w (.returned (Ptr p1)) w1) := ⟨p1, rfl, g1, g2⟩
    clear g1 g2
    go_wp2_with fail
    go_ret
    exact FIN.out
  · rw [k_app] at hk
    obtain ⟨g, o, c, c3, _, lg, hkid⟩ := ht.kid (by omega)
    obtain ⟨q0, h0, a0, d0, k0, e0, o0, x0, t0⟩ := hkid 0 (by omega)
    obtain ⟨q1, h1, a1, d1, k1, e1, o1, x1, t1⟩ := hkid 1 (by omega)
    have x0' : w.cell? ⟨g, o, none⟩ = some (Ptr q0) := x0
    obtain ⟨hh0, _, hkk⟩ := HD rfl e0
    have w0 := (K1 0 _ _ _ _ e0)
    have hk0 : k0.len = 1 := by
      have := w0.2.1.1
      rw [this, ← hh0, h2, k_lam]
    obtain ⟨gb, ob, cb, c3b, _, lgb, hkidb⟩ := t0.kid (by omega)
    obtain ⟨r, hr, ar, dr, kr, er, or_, xr, tr⟩ := hkidb 0 (by omega)
    have xr' : w.cell? ⟨gb, ob, none⟩ = some (Ptr r) := xr
    have lq0 := t0.head.2.2.1
    have lq1 := t1.head.2.2.1
    have lr := tr.head.2.2.1
    have lk : (1 : Int) < (k.len : Int) := by omega
    have lk0 : (0 : Int) < (k.len : Int) := by omega
    have lkb : (0 : Int) < (k0.len : Int) := by omega
    have lkb2 : 0 < k0.len := by omega
    have wr : kr.size + 1 ≤ 300 := by have := Ts.nth_size er; omega
    have CALL : Hid (∀ w', w' = w.drew → Calls Tryz.prog 67 #[Ptr r, .int .i64 0, Ptr q1] w' fun e w1 => ∃ p1, e = .returned (Ptr p1) ∧ (w1.cell? ⟨q0, 3, none⟩ = some (.slice (some ⟨gb, ob, none⟩) k0.len cb) ∧ w1.cell? ⟨gb, ob, none⟩ = some (Ptr r) ∧ w1.cell? ⟨p, 3, none⟩ = some (.slice (some ⟨g, o, none⟩) k.len c) ∧ w1.cell? ⟨g, o + 1, none⟩ = some (Ptr q1)) ∧ Hid (TsP T (rdT hApp k) w (.returned (Ptr p1)) w1)) := by
      rintro w' rfl
      have hwr : WfT (.cons hr ar dr kr .nil) := WfT.nth w0.2.1.2.2.1 er
      have hdr := Dle.nth w0.2.2.2.1 er
      have hdw : Fr No w w.drew := (Fr.refl _ _).drew
      refine (pb_any _ kr (Nat.lt_succ_self _) hr ar dr r w.drew T 0 q1 h1 a1 d1 k1 (by omega) (by omega) hwr ⟨hdr.1, hdr.2, trivial⟩ (fun b hb => Nat.lt_of_lt_of_le (hT b hb) hdw.size) (tr.mono (fun _ h => h) (fun _ _ => rfl)) ((BY q1 _ _ _ _ 1 e1 t1).fr hT hdw)).mono ?_
      rintro e w1 ⟨p1, rfl, g1, g2⟩
      have hf := hdw.trans g1
      have e2 : rdT hApp k = pbK (.cons h1 a1 d1 k1 .nil) (.cons hr ar dr kr .nil) 0 [] 0 := by simp only [rdT, if_neg n1, if_true, o1, hkk, or_]
      rw [e2]
      exact ⟨p1, rfl, ⟨(hf.cell (p := ⟨q0, 3, none⟩) lq0 (fun h => h)).trans c3b, (hf.cell (p := ⟨gb, ob, none⟩) lgb (fun h => h)).trans xr', (hf.cell (p := ⟨p, 3, none⟩) hlt (fun h => h)).trans c3, (hf.cell (p := ⟨g, o + 1, none⟩) lg (fun h => h)).trans x1⟩, p1, rfl, hf, TEl.mono (fun b hb => hb.imp (fun h => h) (fun h => ⟨Nat.le_trans hdw.size h.1, h.2⟩)) (fun _ _ => rfl) g2⟩
    obtain ⟨R, HR⟩ : ∃ z, Hid (rdT hApp k = z) := ⟨_, rfl⟩
    rw [HR.out] at CALL ⊢
    unfold hApp at c0
    clear ht hw hd hT hx hkid x0 xr t0 t1 tr K1 BY HD e0 e1 o0 o1 n1 n2 n3 n4 n5 n6 n7 n8 n9 n10 hs hh0 hkk w0 hkidb er or_ h2 hk hk0
    go_enter Tryz.func40, Tryz.ntmps40
    go_wp2_with fail
    go_region_held3 (fun w' => w'.cell? ⟨q0, 3, none⟩ = some (.slice (some ⟨gb, ob, none⟩) k0.len cb) ∧ w'.cell? ⟨gb, ob, none⟩ = some (Ptr r) ∧ w'.cell? ⟨p, 3, none⟩ = some (.slice (some ⟨g, o, none⟩) k.len c) ∧ w'.cell? ⟨g, o + 1, none⟩ = some (Ptr q1)) (go_keep)
      (first | (go_at_call 67; ((with_reducible refine (CALL.out _ rfl).mono ?_); rintro e w1 ⟨p1, rfl, ⟨s0, s1, s2, s3⟩, FIN⟩)))
    go_wp2_with fail
    go_ret
    exact FIN.out
  · rw [k_fst] at hk
    obtain ⟨g, o, c, c3, _, lg, hkid⟩ := ht.kid (by omega)
    obtain ⟨q0, h0, a0, d0, k0, e0, o0, x0, t0⟩ := hkid 0 (by omega)
    have x0' : w.cell? ⟨g, o, none⟩ = some (Ptr q0) := x0
    obtain ⟨hh0, _, hkk⟩ := HD rfl e0
    have w0 := (K1 0 _ _ _ _ e0)
    have hk0 : k0.len = 2 := by
      have := w0.2.1.1
      rw [this, ← hh0, h2, k_pair]
    obtain ⟨gb, ob, cb, c3b, _, lgb, hkidb⟩ := t0.kid (by omega)
    obtain ⟨r, hr, ar, dr, kr, er, or_, xr, tr⟩ := hkidb 0 (by omega)
    have xr' : w.cell? ⟨gb, ob, none⟩ = some (Ptr r) := xr
    have lq0 := t0.head.2.2.1
    have lk0 : (0 : Int) < (k.len : Int) := by omega
    have lkb : (0 : Int) < (k0.len : Int) := by omega
    have FIN : Hid (TsP T (rdT hFst k) w (.returned (Ptr r)) w) := by
      have e2 : rdT hFst k = .cons hr ar dr kr .nil := by simp only [rdT, if_neg n2, if_neg n3, if_true, hkk, or_]
      rw [e2]
      exact TsP.self tr
    unfold hFst at c0
    clear ht hw hd hT hx hkid x0 xr t0 tr K1 BY HD e0 o0 n1 n2 n3 n4 n5 n6 n7 n8 n9 n10 hs hh0 hkk w0 hkidb er or_ h2 hk hk0
    go_enter Tryz.func40, Tryz.ntmps40
    go_wp2_with fail
    go_ret
    exact FIN.out
  · rw [k_snd] at hk
    obtain ⟨g, o, c, c3, _, lg, hkid⟩ := ht.kid (by omega)
    obtain ⟨q0, h0, a0, d0, k0, e0, o0, x0, t0⟩ := hkid 0 (by omega)
    have x0' : w.cell? ⟨g, o, none⟩ = some (Ptr q0) := x0
    obtain ⟨hh0, _, hkk⟩ := HD rfl e0
    have w0 := (K1 0 _ _ _ _ e0)
    have hk0 : k0.len = 2 := by
      have := w0.2.1.1
      rw [this, ← hh0, h2, k_pair]
    obtain ⟨gb, ob, cb, c3b, _, lgb, hkidb⟩ := t0.kid (by omega)
    obtain ⟨r, hr, ar, dr, kr, er, or_, xr, tr⟩ := hkidb 1 (by omega)
    have lq0 := t0.head.2.2.1
    have lk0 : (0 : Int) < (k.len : Int) := by omega
    have lkb : (1 : Int) < (k0.len : Int) := by omega
    have FIN : Hid (TsP T (rdT hSnd k) w (.returned (Ptr r)) w) := by
      have e2 : rdT hSnd k = .cons hr ar dr kr .nil := by simp only [rdT, if_neg n4, if_neg n5, if_neg n6, if_true, hkk, or_]
      rw [e2]
      exact TsP.self tr
    unfold hSnd at c0
    clear ht hw hd hT hx hkid x0 t0 tr K1 BY HD e0 o0 n1 n2 n3 n4 n5 n6 n7 n8 n9 n10 hs hh0 hkk w0 hkidb er or_ h2 hk hk0
    go_enter Tryz.func40, Tryz.ntmps40
    go_wp2_with fail
    go_ret
    exact FIN.out
  · rw [k_if] at hk
    obtain ⟨g, o, c, c3, _, lg, hkid⟩ := ht.kid (by omega)
    obtain ⟨q0, h0, a0, d0, k0, e0, o0, x0, t0⟩ := hkid 0 (by omega)
    obtain ⟨q1, h1, a1, d1, k1, e1, o1, x1, t1⟩ := hkid 1 (by omega)
    obtain ⟨q2, h3, a2, d2, k2, e2, o2, x2, t2⟩ := hkid 2 (by omega)
    have x0' : w.cell? ⟨g, o, none⟩ = some (Ptr q0) := x0
    obtain ⟨hh0, hat, hkk⟩ := HD rfl e0
    obtain ⟨_, c1b, lq0, _⟩ := t0.head
    have lk0 : (0 : Int) < (k.len : Int) := by omega
    have lk1 : (1 : Int) < (k.len : Int) := by omega
    have lk2 : (2 : Int) < (k.len : Int) := by omega
    by_cases hb : a0 = tTrue
    · have nb : (a0 == [116, 114, 117, 101]) = true := by rw [hb]; rfl
      have FIN : Hid (TsP T (rdT hIf k) w (.returned (Ptr q1)) w) := by
        have e2 : rdT hIf k = .cons h1 a1 d1 k1 .nil := by simp only [rdT, if_neg n7, if_neg n8, if_neg n9, if_neg n10, hat, hb, if_true, o1]
        rw [e2]
        exact TsP.self t1
      unfold hIf at c0
      clear ht hw hd hT hx hkid x0 t0 t1 t2 K1 BY HD e0 e1 e2 o0 o1 o2 n1 n2 n3 n4 n5 n6 n7 n8 n9 n10 hs hh0 hkk h2 hk hat hb
      go_enter Tryz.func40, Tryz.ntmps40
      go_wp2_with fail
      go_ret
      exact FIN.out
    · have nb : (a0 == [116, 114, 117, 101]) = false := beq_eq_false_iff_ne.2 hb
      have FIN : Hid (TsP T (rdT hIf k) w (.returned (Ptr q2)) w) := by
        have e2 : rdT hIf k = .cons h3 a2 d2 k2 .nil := by simp only [rdT, if_neg n7, if_neg n8, if_neg n9, if_neg n10, hat, if_neg hb, o2]
        rw [e2]
        exact TsP.self t2
      unfold hIf at c0
      clear ht hw hd hT hx hkid x0 t0 t1 t2 K1 BY HD e0 e1 e2 o0 o1 o2 n1 n2 n3 n4 n5 n6 n7 n8 n9 n10 hs hh0 hkk h2 hk hat hb
      go_enter Tryz.func40, Tryz.ntmps40
      go_wp2_with fail
      go_ret
      exact FIN.out
end Go.Proofs.YtnjgaenhjdjpfaaGreatDoor
