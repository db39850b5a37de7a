/- Uses of a name in the program. -/
import Derived.Test.YthbidlcfahdfhaaDoorTus
import Derived.Test.YthbidlcfahdfhaaDoorTimpl
namespace Go.Proofs.YthbidlcfahdfhaaDoor
open Go.RowKit Go.ChangeMaps

theorem ret_num {a b : Int} (h : a = b) : Ending.returned (.int .i64 a) = .returned (.int .i64 b) := by rw [h]

namespace Ts
def from_ : Ts → Nat → Ts
  | f, 0 => f
  | nil, _ + 1 => nil
  | cons _ _ _ _ r, j + 1 => r.from_ j

theorem from_zero (f : Ts) : f.from_ 0 = f := by cases f <;> rfl

theorem from_nth : ∀ (f : Ts) (j : Nat) (h a : List UInt8) (d : Nat) (k : Ts), f.nth j = some (h, a, d, k) → f.from_ j = cons h a d k (f.from_ (j + 1))
  | nil, _, _, _, _, _, e => by cases e
  | cons h a d k r, 0, h', a', d', k', e => by
    simp only [nth, Option.some.injEq, Prod.mk.injEq] at e
    obtain ⟨rfl, rfl, rfl, rfl⟩ := e
    show cons h a d k r = cons h a d k (r.from_ 0)
    rw [from_zero]
  | cons h a d k r, j + 1, h', a', d', k', e => from_nth r j h' a' d' k' e

theorem from_len : ∀ f : Ts, f.from_ f.len = nil
  | nil => rfl
  | cons _ _ _ _ r => from_len r

theorem nth_small : ∀ (f : Ts) (j : Nat) (h a : List UInt8) (d : Nat) (k : Ts), f.nth j = some (h, a, d, k) → SizeOf.sizeOf k < SizeOf.sizeOf f
  | nil, _, _, _, _, _, e => by cases e
  | cons h a d k r, 0, h', a', d', k', e => by
    simp only [nth, Option.some.injEq, Prod.mk.injEq] at e
    obtain ⟨rfl, rfl, rfl, rfl⟩ := e
    simp; omega
  | cons h a d k r, j + 1, h', a', d', k', e => by
    have := nth_small r j h' a' d' k' e
    simp; omega

theorem nth_size {f : Ts} {j : Nat} {h a : List UInt8} {d : Nat} {k : Ts} (e : f.nth j = some (h, a, d, k)) : k.size + 1 ≤ f.size := by
  have h1 := sizeTo_succ f j h a d k e
  have h2 := sizeTo_le f (j + 1)
  split at h1 <;> omega

theorem len_size : ∀ f : Ts, f.len ≤ f.size
  | nil => Nat.le_refl _
  | cons h _ _ k r => by
    have := len_size r
    simp only [len, size]
    split <;> omega
end Ts

theorem cnt_step (x : List UInt8) {f : Ts} {j : Nat} {h a : List UInt8} {d : Nat} {k : Ts} (e : f.nth j = some (h, a, d, k)) : cntU x (f.from_ j) = cntN x h a k + cntU x (f.from_ (j + 1)) := by
  rw [Ts.from_nth f j h a d k e]
  rfl

theorem cnt_n (x h a : List UInt8) (k : Ts) : cntN x h a k ≤ k.size + 1 := by
  have := cnt_size x k
  unfold cntN
  split <;> omega

def freeB (h a : List UInt8) : Bool := h == hName && a != []

set_option maxHeartbeats 400000 in
theorem free_any (w : World) (p : Nat) (h a : List UInt8) (V1 V2 V3 : Value) (hb : Blk w p 43 #[S h, S a, V1, V2, V3]) :
    Calls Tryd.prog 65 #[Ptr p] w fun e w' => e = .returned (.bool (freeB h a)) ∧ w = w' := by
  have c0 : w.cell? ⟨p, 0, none⟩ = some (S h) := (hb.cell 0).trans rfl
  have c1 : w.cell? ⟨p, 1, none⟩ = some (S a) := (hb.cell 1).trans rfl
  have hlt := hb.lt
  clear hb
  by_cases hh : h = [110, 97, 109, 101]
  · subst hh
    by_cases ha : a = []
    · subst ha
      go_enter Tryd.func65, Tryd.ntmps65
      go_wp2_with fail
      go_ret
      exact ⟨rfl, rfl⟩
    · have hae : a.isEmpty = false := by cases a; exact absurd rfl ha; rfl
      have hr : freeB [110, 97, 109, 101] a = true := by simp [freeB, hName, ha]
      rw [hr]
      clear hr
      go_enter Tryd.func65, Tryd.ntmps65
      go_wp2_with fail
      go_ret
      exact ⟨rfl, rfl⟩
  · have n1 : (h == [110, 97, 109, 101]) = false := beq_eq_false_iff_ne.2 hh
    have hr : freeB h a = false := by simp [freeB, hName, hh]
    rw [hr]
    clear hr hh
    go_enter Tryd.func65, Tryd.ntmps65
    go_wp2_with fail
    go_ret
    exact ⟨rfl, rfl⟩

def CntSaid (x : List UInt8) (k : Ts) : Prop := ∀ (h a : List UInt8) (d p : Nat) (w : World) (T : Nat → Prop), k.size ≤ 5000 → Tm w T p h a d k →
  Calls Tryd.prog 45 #[Ptr p, S x] w fun e w' => e = .returned (.int .i64 (cntN x h a k : Nat)) ∧ w = w'

theorem cntN_free {x h a : List UInt8} {k : Ts} (hq : freeB h a = true) (hx : a = x) : cntN x h a k = 1 := by
  unfold cntN
  rw [if_pos]
  simpa [freeB, hx] using hq

theorem cntN_not {x h a : List UInt8} {k : Ts} (hq : freeB h a = false ∨ a ≠ x) : cntN x h a k = cntU x k := by
  unfold cntN
  rw [if_neg]
  rintro ⟨h1, h2, h3⟩
  rcases hq with hq | hq
  · simp [freeB, h1, h2] at hq
  · exact hq h3

set_option maxRecDepth 100000 in
set_option maxHeartbeats 1000000 in
theorem count_node (x : List UInt8) (k : Ts) (hN : ∀ h a d k' j, k.nth j = some (h, a, d, k') → CntSaid x k') : CntSaid x k := by
  intro h a d p w T hs ht
  have HN := Lib.hid hN
  clear hN
  obtain ⟨hp, A, c, hb, hsl⟩ := ht.open_
  have FR := Lib.hid (free_any w p h a _ _ _ hb)
  have c1 : w.cell? ⟨p, 1, none⟩ = some (S a) := (hb.cell 1).trans rfl
  have c3 : w.cell? ⟨p, 3, none⟩ = some (.slice A k.len c) := (hb.cell 3).trans rfl
  have hlt := hb.lt
  have hcs := cnt_size x k
  have hln := Ts.len_size k
  have hl6 : (k.len : Int) ≤ 5000 := by omega
  clear hb ht
  rcases hq : freeB h a with _ | _
  · have HR : Hid (cntN x h a k = cntU x k) := cntN_not (.inl hq)
    rw [hq] at FR
    clear hq
    go_enter Tryd.func45, Tryd.ntmps45
    go_wp2_with fail
    refine FR.out.mono ?_
    rintro e w1 ⟨rfl, rfl⟩
    go_wp2_with fail
    go_loop [5, 23] (fun v i => ∃ j s : Nat, j ≤ k.len ∧ i = .int .i64 j ∧ v = .int .i64 s ∧ s + cntU x (k.from_ j) = cntU x k) (fun _ i => k.len - (intOf i).toNat)
    case atStart => exact ⟨0, 0, Nat.zero_le _, rfl, rfl, by rw [Ts.from_zero]; omega⟩
    case round =>
      obtain ⟨j, s, hj, rfl, rfl, hsum⟩ := hrel
      have HS := Lib.hid hsum
      have s1 : (0 : Int) ≤ (s : Int) := by omega
      have s2 : (s : Int) ≤ 6000 := by omega
      clear hsum
      by_cases hlt : j < k.len
      · obtain ⟨g, o, q, h', a', d', k', rfl, hg, hn, hc, htm⟩ := hsl.at_ hlt
        have hst := cnt_step x hn
        have hz := Ts.nth_size hn
        have hq1 : (cntN x h' a' k' : Int) ≤ 6000 := by have := cnt_n x h' a' k'; have := HS.out; omega
        have hq2 : (0 : Int) ≤ (cntN x h' a' k' : Int) := by omega
        have hq3 : (s : Int) + (cntN x h' a' k' : Int) ≤ 6000 := by have := HS.out; omega
        have HST := Lib.hid hst
        have hlg := block_lt hc
        have CALL := Lib.hid (HN.out h' a' d' k' j hn h' a' d' q w T (by omega) htm)
        clear hst htm hn hz
        go_wp2_with fail
        refine CALL.out.mono ?_
        rintro e w1 ⟨rfl, rfl⟩
        go_wp2_with fail
        go_round
        case rel => exact ⟨j + 1, s + cntN x h' a' k', by omega, by go_num, by go_num, by have := HS.out; have := HST.out; omega⟩
        case measure => simp [intOf]; omega
      · have hjl : j = k.len := by omega
        have HF : Hid ((s : Int) = (cntN x h a k : Nat)) := by
          have := HS.out
          rw [hjl, Ts.from_len] at this
          show (s : Int) = _
          rw [HR.out]
          have e : cntU x .nil = 0 := rfl
          omega
        clear hjl
        go_wp2_with fail
        go_ret
        exact ⟨ret_num HF.out, rfl⟩
  · by_cases hax : a = x
    · have HR : Hid (cntN x h a k = 1) := cntN_free hq hax
      subst hax
      rw [hq] at FR
      clear hq
      go_enter Tryd.func45, Tryd.ntmps45
      go_wp2_with fail
      refine FR.out.mono ?_
      rintro e w1 ⟨rfl, rfl⟩
      go_wp2_with fail
      go_ret
      exact ⟨by rw [HR.out]; rfl, rfl⟩
    have HR : Hid (cntN x h a k = cntU x k) := cntN_not (.inr hax)
    have hne : (a == x) = false := beq_eq_false_iff_ne.2 hax
    rw [hq] at FR
    clear hq hax
    go_enter Tryd.func45, Tryd.ntmps45
    go_wp2_with fail
    refine FR.out.mono ?_
    rintro e w1 ⟨rfl, rfl⟩
    go_wp2_with fail
    go_loop [5, 23] (fun v i => ∃ j s : Nat, j ≤ k.len ∧ i = .int .i64 j ∧ v = .int .i64 s ∧ s + cntU x (k.from_ j) = cntU x k) (fun _ i => k.len - (intOf i).toNat)
    case atStart => exact ⟨0, 0, Nat.zero_le _, rfl, rfl, by rw [Ts.from_zero]; omega⟩
    case round =>
      obtain ⟨j, s, hj, rfl, rfl, hsum⟩ := hrel
      have HS := Lib.hid hsum
      have s1 : (0 : Int) ≤ (s : Int) := by omega
      have s2 : (s : Int) ≤ 6000 := by omega
      clear hsum
      by_cases hlt : j < k.len
      · obtain ⟨g, o, q, h', a', d', k', rfl, hg, hn, hc, htm⟩ := hsl.at_ hlt
        have hst := cnt_step x hn
        have hz := Ts.nth_size hn
        have hq1 : (cntN x h' a' k' : Int) ≤ 6000 := by have := cnt_n x h' a' k'; have := HS.out; omega
        have hq2 : (0 : Int) ≤ (cntN x h' a' k' : Int) := by omega
        have hq3 : (s : Int) + (cntN x h' a' k' : Int) ≤ 6000 := by have := HS.out; omega
        have HST := Lib.hid hst
        have hlg := block_lt hc
        have CALL := Lib.hid (HN.out h' a' d' k' j hn h' a' d' q w T (by omega) htm)
        clear hst htm hn hz
        go_wp2_with fail
        refine CALL.out.mono ?_
        rintro e w1 ⟨rfl, rfl⟩
        go_wp2_with fail
        go_round
        case rel => exact ⟨j + 1, s + cntN x h' a' k', by omega, by go_num, by go_num, by have := HS.out; have := HST.out; omega⟩
        case measure => simp [intOf]; omega
      · have hjl : j = k.len := by omega
        have HF : Hid ((s : Int) = (cntN x h a k : Nat)) := by
          have := HS.out
          rw [hjl, Ts.from_len] at this
          show (s : Int) = _
          rw [HR.out]
          have e : cntU x .nil = 0 := rfl
          omega
        clear hjl
        go_wp2_with fail
        go_ret
        exact ⟨ret_num HF.out, rfl⟩

theorem count_any (x : List UInt8) (N : Nat) : ∀ k : Ts, SizeOf.sizeOf k < N → CntSaid x k := by
  induction N with
  | zero => intro k h; omega
  | succ N ih =>
    intro k hN
    exact count_node x k (fun h a d k' j hn => ih k' (by have := Ts.nth_small k j h a d k' hn; omega))

/-- names of any length -/
theorem nameIs_all (a : List UInt8) (w : World) (ha : a.length ≤ maxLen) :
    Calls Tryd.prog 44 #[S a] w fun e w' => e = .returned (.bool (isName a)) ∧ Fr No w w' := by
  by_cases hl : a.length ≤ 6000
  · exact nameIs_any a w hl
  · unfold maxLen at ha
    have hae : a.isEmpty = false := by cases a; simp at hl; rfl
    have hn : isName a = false := by
      cases a with
      | nil => simp at hl
      | cons c r => simp [isName]; intro h; simp at hl; omega
    have hd : decide ((4 : Int) < (a.length : Int)) = true := by simp; omega
    rw [hn]
    clear hn hl
    go_enter Tryd.func44, Tryd.ntmps44
    go_wp2_with fail
    go_ret
    exact ⟨rfl, Fr.refl _ _⟩

/-- how often a name stands free, or -1 -/
def AnsU (s x : List UInt8) (w : World) (e : Ending) (w' : World) : Prop :=
  ∃ n : Int, e = .returned (.int .i64 n) ∧ ((∃ a k, TmOk s a k ∧ isName x = true ∧ n = (usT x a k : Nat)) ∨ (((∀ a k, ¬ TmOk s a k) ∨ isName x = false) ∧ n = -1)) ∧ Fr No w w'

set_option maxHeartbeats 1000000 in
theorem implTmUses (w : World) (s x : List UInt8) (hs : s.length ≤ maxLen) (hx : x.length ≤ maxLen) :
    Calls Tryd.prog 27 #[S s, S x] w fun e w' => AnsU s x w e w' := by
  have NM := Lib.hid (fun w => nameIs_all x w hx)
  have HX := Lib.hid hx
  clear hx
  go_enter Tryd.func27, Tryd.ntmps27
  go_wp2_with fail
  refine (readTerm_any w s hs).mono ?_
  rintro e w1 ⟨hf, ⟨a, k, p, hi, rfl, htm⟩ | ⟨hno, rfl⟩⟩
  · have HI := Lib.hid hi
    have HT := Lib.hid htm
    clear hi htm
    go_wp2_with fail
    refine (NM.out _).mono ?_
    rintro e w2 ⟨rfl, hf2⟩
    rcases hq : isName x with _ | _
    · go_wp2_with fail
      go_ret
      exact ⟨_, rfl, .inr ⟨.inr hq, rfl⟩, hf.trans hf2⟩
    · have HQ := Lib.hid hq
      have hw := HI.out.2.wf
      have hsz := node_size [] HI.out.2.2.1 hw.1 hw.2
      have hsm := HI.out.2.2.2
      have HC := Lib.hid (cnt_term hq HI.out.2.2.1 hw.1 hw.2)
      have ht2 : Tm w2 (NewT w w1) p (ndH a k) (ndA [] a k) (ndD [] a) (cv k (.parts [])) := HT.out.mono (fun b hb => hb) (fun b hb => hf2.block b hb.2 (fun h => h))
      have CALL := Lib.hid (count_any x _ (cv k (.parts [])) (Nat.lt_succ_self _) _ _ _ p w2 _ (by split at hsz <;> omega) ht2)
      clear hq hw hsz hsm ht2
      go_wp2_with fail
      refine CALL.out.mono ?_
      rintro e w3 ⟨rfl, rfl⟩
      go_wp2_with fail
      go_ret
      exact ⟨_, rfl, .inl ⟨a, k, HI.out, HQ.out, by rw [HC.out]⟩, hf.trans hf2⟩
  · go_wp2_with fail
    go_ret
    exact ⟨_, rfl, .inr ⟨.inl hno, rfl⟩, hf⟩
end Go.Proofs.YthbidlcfahdfhaaDoor
