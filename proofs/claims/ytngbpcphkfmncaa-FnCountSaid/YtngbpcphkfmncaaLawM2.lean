/- The law FnCount: counts are told by parts. -/
import Derived.Test.YtngbpcphkfmncaaLawM0
import Derived.Test.YtngbpcphkfmncaaLaw3
namespace Go.Proofs.Ytngbpcphkfmncaa
open Go.RowKit Go.ChangeMaps

def DrC (w : World) (e : Ending) (w' : World) : Prop :=
  ∃ s N nc Z zc, ∃ (xs : List (List UInt8)) (zs : List Int), e = .returned (.tuple #[S s, .slice N xs.length nc, .slice Z zs.length zc]) ∧ s.length ≤ 1300 ∧ xs.length ≤ nc ∧ xs.length ≤ 4 ∧ zs.length ≤ 4 ∧ (∀ x ∈ xs, x.length ≤ 1) ∧ SSl w' N xs ∧ ISl w' Z zs ∧ Fr No w w'

set_option maxRecDepth 100000 in
set_option maxHeartbeats 2000000 in
theorem drawSCount (w : World) (A : Option Addr) (n c : Nat) (hn : n ≤ maxLen) (hnc : n ≤ c) (hb : Byt w A n) :
    Calls Try.prog 18 #[.slice A n c] w fun e w' => DrC w e w' := by
  have OP := Lib.hid (open_any w A n c hn hnc hb)
  clear hb
  go_enter Try.func18, Try.ntmps18
  go_wp2_with fail
  refine OP.out.mono ?_
  rintro e w1 ⟨r, A1, n1, c1, rfl, hf1, hr1, hd1⟩
  have HF1 := Lib.hid hf1
  have HR1 := Lib.hid hr1
  have HG1 : Hid (Fr (One r) w w1) := hf1.mono (fun _ _ h => h.elim)
  have TX := Lib.hid (text_draw w1 r A1 n1 c1 0 hd1 (by omega))
  clear hf1 hr1 hd1
  go_wp2_with fail
  refine TX.out.mono ?_
  rintro e w2 ⟨t, p2, rfl, hs, hf2, hp2, hd2⟩
  have HG2 : Hid (Fr (One r) w w2) := HG1.out.trans hf2
  have HD2 := Lib.hid hd2
  have MD := Lib.hid (model_draw w2 r A1 n1 c1 p2 hd2 (by omega))
  have hrw := hd2.blk.lt
  clear hf2 hd2
  go_wp2_with fail
  refine MD.out.mono ?_
  rintro e w3 ⟨N, nc, Z, zc, xs, zs, p4, rfl, h1, h2, h3, h4, h5, h6, hnw, hf3, hp4, hd3⟩
  have HG3 : Hid (Fr (One r) w w3) := HG2.out.trans hf3
  clear MD
  have FIN : Hid (DrC w (.returned (.tuple #[S t, .slice N xs.length nc, .slice Z zs.length zc])) w3) := ⟨t, N, nc, Z, zc, xs, zs, rfl, hs, h1, h2, h3, h4, h5, h6, (HG3.out.mono (fun i hi e => by unfold One at e; have := HR1.out; omega))⟩
  clear hf3 hd3 h1 h2 h3 h4 h5 h6 hnw
  go_wp2_with fail
  refine bodyPost_ret (v := .tuple #[S t, .slice N xs.length nc, .slice Z zs.length zc]) (by simp [results, Try.results18, go_sem]) rfl ?_
  exact FIN.out

set_option maxRecDepth 100000 in
set_option maxHeartbeats 4000000 in
theorem lawPCount (w : World) (A : Option Addr) (n c : Nat) (hn : n ≤ maxLen) (hnc : n ≤ c) (hb : Byt w A n) :
    Calls Try.prog 5 #[.slice A n c] w fun e w' => Yes w e w' := by
  have DR := Lib.hid (drawSCount w A n c hn hnc hb)
  clear hb
  have hn' := hn
  unfold maxLen at hn'
  by_cases hl : 1048576 < n
  · have hd : decide ((1048576 : Int) < (n : Int)) = true := by simp; omega
    go_enter Try.func5, Try.ntmps5
    go_wp2_with fail
    go_ret
    exact ⟨rfl, Fr.refl _ _⟩
  have hd : decide ((1048576 : Int) < (n : Int)) = false := by simp; omega
  clear hl
  go_enter Try.func5, Try.ntmps5
  go_wp2_with fail
  refine DR.out.mono ?_
  rintro e w1 ⟨s, N, nc, Z, zc, xs, zs, rfl, hs, h1, h2, h3, h4, h5, h6, hf1⟩
  have HF1 := Lib.hid hf1
  have HN := Lib.hid h5
  have HZ := Lib.hid h6
  have hxm : ∀ x ∈ xs, x.length ≤ maxLen := fun x hx => by have := h4 x hx; unfold maxLen; omega
  have SC : Hid (∀ (x : List UInt8) W, x.length ≤ 1300 → Fr No w1 W → Calls Try.prog 17 #[S x, .slice N xs.length nc, .slice Z zs.length zc] W fun e w' => AnsStc x xs zs W e w') := fun x W hx hf => implStc W x N Z xs zs nc zc (by unfold maxLen; omega) (sslNo HN.out hf) (islNo HZ.out hf) (by omega) (by omega) hxm
  have SS : Hid (∀ (x : List UInt8) W, x.length ≤ 1300 → Fr No w1 W → Calls Try.prog 19 #[S x, .slice N xs.length nc, .slice Z zs.length zc] W fun e w' => AnsStc x xs zs W e w') := fun x W hx hf => specStc W x N Z xs zs nc zc h1 (by unfold maxLen; omega) (sslNo HN.out hf) (islNo HZ.out hf) (by omega) (by omega) hxm
  have PT : Hid (∀ W, Calls Try.prog 20 #[S s] W fun e w' => AnsParts s W e w') := fun W => implParts W s (by unfold maxLen; omega)
  clear hf1 h5 h6 h1 hxm HN HZ
  go_wp2_with fail
  refine (SC.out s w1 hs (Fr.refl _ _)).mono ?_
  rintro e w2 ⟨m, rfl, hst, hf2⟩
  have HF2 := Lib.hid hf2
  have SM : Hid (∀ W, Fr No w1 W → Calls Try.prog 19 #[S s, .slice N xs.length nc, .slice Z zs.length zc] W fun e w' => e = .returned (.int .i64 m) ∧ Fr No W w') := fun W hf => (SS.out s W hs hf).mono (by
    rintro e w' ⟨m', rfl, hst', hf'⟩
    rw [hst.one hst']
    exact ⟨rfl, hf'⟩)
  have HB := Lib.hid hst.bounds
  have HST := Lib.hid hst
  clear hf2 hst SS
  go_wp2_with fail
  refine (SM.out w2 HF2.out).mono ?_
  rintro e w3 ⟨rfl, hf3⟩
  have HF3 := Lib.hid (HF2.out.trans hf3)
  clear hf3 SM
  rcases HB.out with rfl | ⟨hm1, hm2⟩
  · go_wp2_with fail
    go_ret
    exact ⟨rfl, HF1.out.trans HF3.out⟩
  have hm0 : ¬ m < 0 := by omega
  have d0 : decide (m < 0) = false := by simpa using hm0
  obtain ⟨t, ms, ht, hms, hmt⟩ : ∃ t ms, Ty.Is s t ∧ ModelIs xs zs ms ∧ m = cntI (szs ms) t := by
    rcases HST.out with h | ⟨_, h⟩
    · exact h
    · omega
  obtain ⟨d, hd'⟩ : ∃ d, t.cnt (szs ms) = some d := by
    cases h : t.cnt (szs ms) with
    | none => rw [cntI_none h] at hmt; omega
    | some d => exact ⟨d, rfl⟩
  rw [cntI_some hd'] at hmt
  subst hmt
  have HT := Lib.hid ht
  have HMS := Lib.hid hms
  have HD := Lib.hid hd'
  clear ht hms hd' HST HB hm0
  go_wp2_with fail
  refine (PT.out w3).mono ?_
  rintro e w4 ⟨x, y, sg, ok, rfl, hor, hf4⟩
  have HF4 := Lib.hid (HF3.out.trans hf4)
  clear hf4
  rcases hor with ⟨f, l, r, hi, rfl, rfl, rfl, rfl⟩ | ⟨_, rfl, rfl, rfl, rfl⟩
  · obtain rfl : t = .n f l r := HT.out.unique hi
    obtain ⟨a, b, ha, hb, he, hle⟩ := Ty.cnt_n HD.out
    have ba := Ty.cnt_bounds HMS.out.sz l a ha
    have bb := Ty.cnt_bounds HMS.out.sz r b hb
    obtain ⟨hil, hir⟩ : Ty.Is l.text l ∧ Ty.Is r.text r := by
      have h1 := hi.2.1
      have h2 := hi.2.2
      simp only [Ty.lets, Ty.size] at h1 h2
      exact ⟨⟨rfl, h1.1, by omega⟩, ⟨rfl, h1.2, by omega⟩⟩
    have SL : Hid (∀ W, Fr No w1 W → Calls Try.prog 17 #[S l.text, .slice N xs.length nc, .slice Z zs.length zc] W fun e w' => e = .returned (.int .i64 (a : Int)) ∧ Fr No W w') := fun W hf => (SC.out l.text W (by have := hil.short; omega) hf).mono (by
      rintro e w' ⟨m', rfl, hst', hf'⟩
      rw [hst'.is hil HMS.out, cntI_some ha]
      exact ⟨rfl, hf'⟩)
    have SR : Hid (∀ W, Fr No w1 W → Calls Try.prog 17 #[S r.text, .slice N xs.length nc, .slice Z zs.length zc] W fun e w' => e = .returned (.int .i64 (b : Int)) ∧ Fr No W w') := fun W hf => (SC.out r.text W (by have := hir.short; omega) hf).mono (by
      rintro e w' ⟨m', rfl, hst', hf'⟩
      rw [hst'.is hir HMS.out, cntI_some hb]
      exact ⟨rfl, hf'⟩)
    have a1 : (1 : Int) ≤ (a : Int) := by omega
    have b1 : (1 : Int) ≤ (b : Int) := by omega
    have HE := Lib.hid he
    clear hil hir hi ha hb SC PT HT HMS HD he
    generalize l.text = lt at SL
    generalize r.text = rt at SR
    go_wp2_with fail
    refine (SL.out _ HF4.out).mono ?_
    rintro e w5 ⟨rfl, hf5⟩
    have HF5 := Lib.hid (HF4.out.trans hf5)
    clear hf5
    go_wp2_with fail
    refine (SR.out _ HF5.out).mono ?_
    rintro e w6 ⟨rfl, hf6⟩
    have HF6 := Lib.hid (HF5.out.trans hf6)
    clear hf6
    have HEND := Lib.hid (HF1.out.trans HF6.out)
    clear SL SR
    have he := HE.out
    cases f with
    | true =>
      simp only [if_true] at he
      have k1 : (1 : Int) < (b : Int) ∨ b = 1 := by omega
      have k2 : (1 : Int) < (a : Int) ∨ a = 1 := by omega
      rcases k1 with k1 | rfl
      · rcases k2 with k2 | rfl
        · clear he
          go_wp2_with fail
          go_ret
          exact ⟨rfl, HEND.out⟩
        · obtain rfl : d = b := by rw [he]; simp
          clear he
          go_wp2_with fail
          go_ret
          exact ⟨rfl, HEND.out⟩
      · obtain rfl : d = 1 := by rw [he]; simp
        rcases k2 with k2 | rfl
        · clear he
          go_wp2_with fail
          go_ret
          exact ⟨rfl, HEND.out⟩
        · clear he
          go_wp2_with fail
          go_ret
          exact ⟨rfl, HEND.out⟩
    | false =>
      simp only [Bool.false_eq_true, if_false] at he
      have he2 : (a : Int) * (b : Int) = (d : Int) := by rw [he]; simp
      have hw : wrap64 ((a : Int) * (b : Int)) = (d : Int) := by rw [he2]; exact IntWalk.wrap64_in _ ⟨by omega, by omega⟩
      have sg : Ty.sign false = 42 := rfl
      clear he he2
      go_wp2_with fail
      go_ret
      exact ⟨rfl, HEND.out⟩
  · have hd1' : (1 : Int) ≤ (d : Int) := by omega
    go_wp2_with fail
    go_ret
    exact ⟨rfl, HF1.out.trans HF4.out⟩
end Go.Proofs.Ytngbpcphkfmncaa
