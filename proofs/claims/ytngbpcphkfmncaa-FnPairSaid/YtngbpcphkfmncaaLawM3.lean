/- The law FnPair: pairs of elements are elements. -/
import Derived.Test.YtngbpcphkfmncaaLawM0
import Derived.Test.YtngbpcphkfmncaaLaw3
import Derived.Test.YtngbpcphkfmncaaSpr
namespace Go.Proofs.Ytngbpcphkfmncaa
open Go.RowKit Go.ChangeMaps

def DrP1 (w : World) (e : Ending) (w' : World) : Prop :=
  ∃ s N nc Z zc, ∃ (xs : List (List UInt8)) (zs : List Int) (k : Int), e = .returned (.tuple #[S s, .slice N xs.length nc, .slice Z zs.length zc, .int .i64 k]) ∧ s.length ≤ 1300 ∧ -1 ≤ k ∧ k ≤ 5000 ∧ xs.length ≤ nc ∧ xs.length ≤ 4 ∧ zs.length ≤ 4 ∧ (∀ x ∈ xs, x.length ≤ 1) ∧ SSl w' N xs ∧ ISl w' Z zs ∧ Fr No w w'

theorem parts_is {f : Bool} {l r : Ty} {s : List UInt8} (h : Ty.Is s (.n f l r)) : Ty.Is l.text l ∧ Ty.Is r.text r := by
  have h1 := h.2.1
  have h2 := h.2.2
  simp only [Ty.lets, Ty.size] at h1 h2
  exact ⟨⟨rfl, h1.1, by omega⟩, ⟨rfl, h1.2, by omega⟩⟩

set_option maxRecDepth 100000 in
set_option maxHeartbeats 2000000 in
theorem drawSPair (w : World) (A : Option Addr) (n c : Nat) (hn : n ≤ maxLen) (hnc : n ≤ c) (hb : Byt w A n) :
    Calls Try.prog 21 #[.slice A n c] w fun e w' => DrP1 w e w' := by
  have OP := Lib.hid (open_any w A n c hn hnc hb)
  clear hb
  go_enter Try.func21, Try.ntmps21
  go_wp2_with fail
  refine OP.out.mono ?_
  rintro e w1 ⟨r, A1, n1, c1, rfl, hf1, hr1, hd1⟩
  have HF1 := Lib.hid hf1
  have HR1 := Lib.hid hr1
  have HG1 : Hid (Fr (One r) w w1) := hf1.mono (fun _ _ h => h.elim)
  have TX := Lib.hid (text_draw w1 r A1 n1 c1 0 hd1 (by omega))
  clear hf1 hr1 hd1
  go_wp2_with fail
  refine TX.out.mono ?_
  rintro e w2 ⟨t, p2, rfl, hs, hf2, hp2, hd2⟩
  have HG2 : Hid (Fr (One r) w w2) := HG1.out.trans hf2
  have OF : Hid (Calls Try.prog 51 #[Ptr r, .slice (some ⟨w2.heap.size, 0, none⟩) 4 4] (w2.alloc (.cells #[.string ⟨#[40, 42, 32, 97, 32, 98, 41]⟩, .string ⟨#[40, 42, 32, 111, 32, 97, 41]⟩, .string ⟨#[40, 42, 32, 40, 42, 32, 97, 32, 97, 41, 32, 111, 41]⟩, S t] 9)) fun e w' => ∃ x, e = .returned (S x) ∧ x ∈ _ ∧ x.length ≤ 1300 ∧ Fr (One r) w2 w' ∧ Rdc w' r A1 n1 c1 (p2 + 1)) :=
    of_lit w2 r A1 n1 c1 p2 1300 4 [[40, 42, 32, 97, 32, 98, 41], [40, 42, 32, 111, 32, 97, 41], [40, 42, 32, 40, 42, 32, 97, 32, 97, 41, 32, 111, 41], t] _ rfl rfl hd2 (by omega) (by omega) (by omega) (by simp; omega)
  clear hf2 hd2
  go_wp2_with fail
  refine OF.out.mono ?_
  rintro e w3 ⟨s, rfl, _, hs', hf3, hd3⟩
  have HG3 : Hid (Fr (One r) w w3) := HG2.out.trans hf3
  have MD := Lib.hid (model_draw w3 r A1 n1 c1 (p2 + 1) hd3 (by omega))
  have hrw := hd3.blk.lt
  clear hf3 hd3 OF
  go_wp2_with fail
  refine MD.out.mono ?_
  rintro e w4 ⟨N, nc, Z, zc, xs, zs, p4, rfl, h1, h2, h3, h4, h5, h6, hnw, hf4, hp4, hd4⟩
  have HG4 : Hid (Fr (One r) w w4) := HG3.out.trans hf4
  clear MD
  have HN := Lib.hid h5
  have HZ := Lib.hid h6
  have EL := Lib.hid (elem_draw w4 r A1 n1 c1 p4 hd4 (by omega) s (by unfold maxLen; omega) N Z xs zs nc zc h1 h5 h6 h2 h3 h4)
  clear hf4 hd4 h5 h6
  go_wp2_with fail
  refine EL.out.mono ?_
  rintro e w5 ⟨k, p5, rfl, hk1, hk2, hf5, hp5, hd5⟩
  have HG5 : Hid (Fr (One r) w w5) := HG4.out.trans hf5
  have HX5 : Hid (SSl w5 N xs ∧ ISl w5 Z zs) := ⟨sslFr HN.out hf5 (fun g o e e2 => by have e2 : g = r := e2; have := hnw g o (.inl e); omega), islFr HZ.out hf5 (fun g o e e2 => by have e2 : g = r := e2; have := hnw g o (.inr e); omega)⟩
  clear EL
  have FIN : Hid (DrP1 w (.returned (.tuple #[S s, .slice N xs.length nc, .slice Z zs.length zc, .int .i64 k])) w5) := ⟨s, N, nc, Z, zc, xs, zs, k, rfl, hs', hk1, hk2, h1, h2, h3, h4, HX5.out.1, HX5.out.2, (HG5.out.mono (fun i hi e => by unfold One at e; have := HR1.out; omega))⟩
  clear hf5 hd5 h1 h2 h3 h4
  go_wp2_with fail
  refine bodyPost_ret (v := .tuple #[S s, .slice N xs.length nc, .slice Z zs.length zc, .int .i64 k]) (by simp [results, Try.results21, go_sem]) rfl ?_
  exact FIN.out

set_option maxRecDepth 100000 in
set_option maxHeartbeats 4000000 in
theorem lawPPair (w : World) (A : Option Addr) (n c : Nat) (hn : n ≤ maxLen) (hnc : n ≤ c) (hb : Byt w A n) :
    Calls Try.prog 6 #[.slice A n c] w fun e w' => Yes w e w' := by
  have DR := Lib.hid (drawSPair w A n c hn hnc hb)
  clear hb
  have hn' := hn
  unfold maxLen at hn'
  by_cases hl : 1048576 < n
  · have hd : decide ((1048576 : Int) < (n : Int)) = true := by simp; omega
    go_enter Try.func6, Try.ntmps6
    go_wp2_with fail
    go_ret
    exact ⟨rfl, Fr.refl _ _⟩
  have hd : decide ((1048576 : Int) < (n : Int)) = false := by simp; omega
  clear hl
  go_enter Try.func6, Try.ntmps6
  go_wp2_with fail
  refine DR.out.mono ?_
  rintro e w1 ⟨s, N, nc, Z, zc, xs, zs, k, rfl, hs, hk1, hk2, h1, h2, h3, h4, h5, h6, hf1⟩
  have HF1 := Lib.hid hf1
  have HN := Lib.hid h5
  have HZ := Lib.hid h6
  have hxm : ∀ x ∈ xs, x.length ≤ maxLen := fun x hx => by have := h4 x hx; unfold maxLen; omega
  have SC : Hid (∀ (x : List UInt8) W, x.length ≤ 1300 → Fr No w1 W → Calls Try.prog 17 #[S x, .slice N xs.length nc, .slice Z zs.length zc] W fun e w' => AnsStc x xs zs W e w') := fun x W hx hf => implStc W x N Z xs zs nc zc (by unfold maxLen; omega) (sslNo HN.out hf) (islNo HZ.out hf) (by omega) (by omega) hxm
  have PT : Hid (∀ W, Calls Try.prog 20 #[S s] W fun e w' => AnsParts s W e w') := fun W => implParts W s (by unfold maxLen; omega)
  have IP : Hid (∀ W, Fr No w1 W → Calls Try.prog 22 #[S s, .slice N xs.length nc, .slice Z zs.length zc, .int .i64 k] W fun e w' => AnsPair s xs zs k W e w') := fun W hf => implPair W s N Z xs zs nc zc k (by unfold maxLen; omega) (sslNo HN.out hf) (islNo HZ.out hf) (by omega) (by omega) hxm
  have SP : Hid (∀ W, Fr No w1 W → Calls Try.prog 23 #[S s, .slice N xs.length nc, .slice Z zs.length zc, .int .i64 k] W fun e w' => AnsPair s xs zs k W e w') := fun W hf => specPair W s N Z xs zs nc zc k h1 (by unfold maxLen; omega) (sslNo HN.out hf) (islNo HZ.out hf) (by omega) (by omega) hxm
  clear hf1 h5 h6 h1 hxm HN HZ
  go_wp2_with fail
  refine (IP.out w1 (Fr.refl _ _)).mono ?_
  rintro e w2 ⟨x, y, ok, rfl, hpr, hf2⟩
  have HF2 := Lib.hid hf2
  have SM : Hid (∀ W, Fr No w1 W → Calls Try.prog 23 #[S s, .slice N xs.length nc, .slice Z zs.length zc, .int .i64 k] W fun e w' => e = .returned (.tuple #[.int .i64 x, .int .i64 y, .bool ok]) ∧ Fr No W w') := fun W hf => (SP.out W hf).mono (by
    rintro e w' ⟨x', y', ok', rfl, hpr', hf'⟩
    obtain ⟨rfl, rfl, rfl⟩ := hpr.one hpr'
    exact ⟨rfl, hf'⟩)
  have HPR := Lib.hid hpr
  clear hf2 hpr SP IP
  go_wp2_with fail
  refine (SM.out w2 HF2.out).mono ?_
  rintro e w3 ⟨rfl, hf3⟩
  have HF3 := Lib.hid (HF2.out.trans hf3)
  clear hf3
  clear SM
  cases ok with
  | false =>
    go_wp2_with fail
    go_ret
    exact ⟨rfl, HF1.out.trans HF3.out⟩
  | true =>
    obtain ⟨l, r, ms, a, b, d, hsf, hk0, hkd, hx, hy⟩ : ∃ l r ms a b d, SfIs s false xs zs l r ms a b d ∧ 0 ≤ k ∧ k < (d : Int) ∧ x = k / b ∧ y = k % b := by
      rcases HPR.out with ⟨l, r, ms, a, b, d, h1, h2, h3, h4, h5, _⟩ | ⟨_, _, _, h⟩
      · exact ⟨l, r, ms, a, b, d, h1, h2, h3, h4, h5⟩
      · cases h
    have HSF := Lib.hid hsf
    obtain ⟨hil, hir⟩ := parts_is hsf.1
    have hb := hsf.2.2.2.2.2.2.2.2.1
    have hb2 := hsf.2.2.2.2.2.2.2.2.2.1
    have ha2 := hsf.2.2.2.2.2.2.2.1
    have hdd : d = a * b := by have h := hsf.2.2.2.2.2.1; simpa using h
    have hd2 := hsf.2.2.2.2.2.2.2.2.2.2
    have bI : (0 : Int) < (b : Int) := by omega
    have x0 : 0 ≤ x := by rw [hx]; exact Int.ediv_nonneg hk0 (by omega)
    have x1 : x < (a : Int) := by
      rw [hx]
      refine Int.ediv_lt_of_lt_mul bI ?_
      rw [hdd] at hkd
      simpa using hkd
    have y0 : 0 ≤ y := by rw [hy]; exact Int.emod_nonneg _ (by omega)
    have y1 : y < (b : Int) := by rw [hy]; exact Int.emod_lt_of_pos _ bI
    have hsum : x * (b : Int) + y = k := by rw [hx, hy, Int.mul_comm]; exact Int.mul_ediv_add_emod k b
    have p0 : 0 ≤ x * (b : Int) := Int.mul_nonneg x0 (by omega)
    have hw1 : wrap64 (x * (b : Int)) = x * (b : Int) := IntWalk.wrap64_in _ ⟨by omega, by omega⟩
    have hw2 : wrap64 (x * (b : Int) + y) = k := by rw [hsum]; exact IntWalk.wrap64_in _ ⟨by omega, by omega⟩
    have PTS : Hid (∀ W, Calls Try.prog 20 #[S s] W fun e w' => e = .returned (.tuple #[S l.text, S r.text, S [42], .bool true]) ∧ Fr No W w') := fun W => (PT.out W).mono (by
      rintro e w' ⟨x, y, sg, ok, rfl, ⟨f, l', r', hi, rfl, rfl, rfl, rfl⟩ | ⟨hno, _⟩, hf'⟩
      · have e := hi.unique HSF.out.1
        injection e with e1 e2 e3
        subst e1 e2 e3
        exact ⟨rfl, hf'⟩
      · exact (hno _ _ _ HSF.out.1).elim)
    have SL : Hid (∀ W, Fr No w1 W → Calls Try.prog 17 #[S l.text, .slice N xs.length nc, .slice Z zs.length zc] W fun e w' => e = .returned (.int .i64 (a : Int)) ∧ Fr No W w') := fun W hf => (SC.out l.text W (by have := hil.short; omega) hf).mono (by
      rintro e w' ⟨m', rfl, hst', hf'⟩
      rw [hst'.is hil HSF.out.2.1, cntI_some HSF.out.2.2.1]
      exact ⟨rfl, hf'⟩)
    have SR : Hid (∀ W, Fr No w1 W → Calls Try.prog 17 #[S r.text, .slice N xs.length nc, .slice Z zs.length zc] W fun e w' => e = .returned (.int .i64 (b : Int)) ∧ Fr No W w') := fun W hf => (SC.out r.text W (by have := hir.short; omega) hf).mono (by
      rintro e w' ⟨m', rfl, hst', hf'⟩
      rw [hst'.is hir HSF.out.2.1, cntI_some HSF.out.2.2.2.1]
      exact ⟨rfl, hf'⟩)
    have HW1 := Lib.hid hw1
    have HW2 := Lib.hid hw2
    have P0 := Lib.hid p0
    clear hil hir hsf hx hy hsum hdd hkd hk0 hw1 hw2 p0 HPR SC PT
    generalize l.text = lt at SL PTS
    generalize r.text = rt at SR PTS
    go_wp2_with fail
    refine (PTS.out _).mono ?_
    rintro e w4 ⟨rfl, hf4⟩
    have HF4 := Lib.hid (HF3.out.trans hf4)
    clear hf4
    go_wp2_with fail
    refine (SL.out _ HF4.out).mono ?_
    rintro e w5 ⟨rfl, hf5⟩
    have HF5 := Lib.hid (HF4.out.trans hf5)
    clear hf5
    go_wp2_with fail
    refine (SR.out _ HF5.out).mono ?_
    rintro e w6 ⟨rfl, hf6⟩
    have HF6 := Lib.hid (HF5.out.trans hf6)
    clear hf6
    have HEND := Lib.hid (HF1.out.trans HF6.out)
    have hw1 := HW1.out
    have hw2 := HW2.out
    clear SL SR PTS HSF
    go_wp2_with fail
    go_ret
    exact ⟨rfl, HEND.out⟩
end Go.Proofs.Ytngbpcphkfmncaa
