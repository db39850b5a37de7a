/- The law FnModel: a model has sets for its variables. -/
import Derived.Test.YtngbpcphkfmncaaLawM0
namespace Go.Proofs.Ytngbpcphkfmncaa
open Go.RowKit Go.ChangeMaps

set_option maxRecDepth 100000 in
set_option maxHeartbeats 1000000 in
theorem drawMValid (w : World) (A : Option Addr) (n c : Nat) (hn : n ≤ maxLen) (hnc : n ≤ c) (hb : Byt w A n) :
    Calls Try.prog 14 #[.slice A n c] w fun e w' => DrM w e w' := by
  have OP := Lib.hid (open_any w A n c hn hnc hb)
  clear hb
  go_enter Try.func14, Try.ntmps14
  go_wp2_with fail
  refine OP.out.mono ?_
  rintro e w1 ⟨r, A1, n1, c1, rfl, hf1, hr1, hd1⟩
  have HF1 := Lib.hid hf1
  have HR1 := Lib.hid hr1
  have MD := Lib.hid (model_draw w1 r A1 n1 c1 0 hd1 (by omega))
  clear hf1 hr1 hd1
  go_wp2_with fail
  refine MD.out.mono ?_
  rintro e w2 ⟨N, nc, Z, zc, xs, zs, p2, rfl, h1, h2, h3, h4, h5, h6, _, hf2, _, _⟩
  have FIN : Hid (DrM w (.returned (.tuple #[.slice N xs.length nc, .slice Z zs.length zc])) w2) := ⟨N, nc, Z, zc, xs, zs, rfl, h1, h2, h3, h4, h5, h6, HF1.out.then_ hf2 (fun i hi e => by unfold One at e; have := HR1.out; omega)⟩
  clear hf2 h1 h2 h3 h4 h5 h6
  go_wp2_with fail
  refine bodyPost_ret (v := .tuple #[.slice N xs.length nc, .slice Z zs.length zc]) (by simp [results, Try.results14, go_sem]) rfl ?_
  exact FIN.out

set_option maxRecDepth 100000 in
set_option maxHeartbeats 4000000 in
theorem lawPModel (w : World) (A : Option Addr) (n c : Nat) (hn : n ≤ maxLen) (hnc : n ≤ c) (hb : Byt w A n) :
    Calls Try.prog 4 #[.slice A n c] w fun e w' => Yes w e w' := by
  have DR := Lib.hid (drawMValid w A n c hn hnc hb)
  clear hb
  have hn' := hn
  unfold maxLen at hn'
  by_cases hl : 1048576 < n
  · have hd : decide ((1048576 : Int) < (n : Int)) = true := by simp; omega
    go_enter Try.func4, Try.ntmps4
    go_wp2_with fail
    go_ret
    exact ⟨rfl, Fr.refl _ _⟩
  have hd : decide ((1048576 : Int) < (n : Int)) = false := by simp; omega
  clear hl
  go_enter Try.func4, Try.ntmps4
  go_wp2_with fail
  refine DR.out.mono ?_
  rintro e w1 ⟨N, nc, Z, zc, xs, zs, rfl, h1, h2, h3, h4, h5, h6, hf1⟩
  have HF1 := Lib.hid hf1
  have HN := Lib.hid h5
  have HZ := Lib.hid h6
  have hxm : ∀ x ∈ xs, x.length ≤ maxLen := fun x hx => by have := h4 x hx; unfold maxLen; omega
  obtain ⟨q, hq⟩ : ∃ q : Bool, q = true ↔ ∃ ms, ModelIs xs zs ms := by
    by_cases h : ∃ ms, ModelIs xs zs ms
    · exact ⟨true, by simpa using h⟩
    · exact ⟨false, by simpa using h⟩
  have IM : Hid (∀ W, Fr No w1 W → Calls Try.prog 15 #[.slice N xs.length nc, .slice Z zs.length zc] W fun e w' => e = .returned (.bool q) ∧ Fr No W w') := fun W hf => (implModel W N Z xs zs nc zc (sslNo HN.out hf) (islNo HZ.out hf) (by omega) (by omega) hxm).mono (by
    rintro e w' ⟨b, rfl, hb, hf'⟩
    exact ⟨by rw [Bool.eq_iff_iff.2 (hb.trans hq.symm)], hf'⟩)
  have SM : Hid (∀ W, Fr No w1 W → Calls Try.prog 16 #[.slice N xs.length nc, .slice Z zs.length zc] W fun e w' => e = .returned (.bool q) ∧ Fr No W w') := fun W hf => (specModel W N Z xs zs nc zc h1 (sslNo HN.out hf) (islNo HZ.out hf) (by omega) (by omega) hxm).mono (by
    rintro e w' ⟨b, rfl, hb, hf'⟩
    exact ⟨by rw [Bool.eq_iff_iff.2 (hb.trans hq.symm)], hf'⟩)
  have SC : Hid (∀ (s : List UInt8) W, s.length ≤ 100 → Fr No w1 W → Calls Try.prog 17 #[S s, .slice N xs.length nc, .slice Z zs.length zc] W fun e w' => AnsStc s xs zs W e w') := fun s W hs hf => implStc W s N Z xs zs nc zc (by unfold maxLen; omega) (sslNo HN.out hf) (islNo HZ.out hf) (by omega) (by omega) hxm
  clear hf1 h5 h6 h1 hxm
  go_wp2_with fail
  refine (IM.out w1 (Fr.refl _ _)).mono ?_
  rintro e w2 ⟨rfl, hf2⟩
  have HF2 := Lib.hid hf2
  clear hf2
  go_wp2_with fail
  refine (SM.out w2 HF2.out).mono ?_
  rintro e w3 ⟨rfl, hf3⟩
  have HF3 := Lib.hid (HF2.out.trans hf3)
  clear hf3 IM SM
  cases q with
  | false =>
    go_wp2_with fail
    go_ret
    exact ⟨rfl, HF1.out.trans HF3.out⟩
  | true =>
    obtain ⟨ms, hm⟩ := hq.1 rfl
    have HM := Lib.hid hm
    have hle : xs.length = zs.length := hm.len.1
    have HLE := Lib.hid hle
    have hxl : xs.length ≤ zs.length := by omega
    clear hq hm hle
    go_wp2_with fail
    go_loopw [7] (fun u wr => ∃ j : Nat, j ≤ xs.length ∧ u = .int .i64 j ∧ Fr No w1 wr) (fun u _ => xs.length - (intOf u).toNat)
    case atStart => exact ⟨0, Nat.zero_le _, rfl, HF3.out⟩
    case round =>
      obtain ⟨j, hj, rfl, hfr⟩ := hrel
      have HFR := Lib.hid hfr
      clear hfr
      by_cases hlt : j < xs.length
      · obtain ⟨x, hxj⟩ : ∃ x, xs[j]? = some x := ⟨_, List.getElem?_eq_getElem hlt⟩
        obtain ⟨z, hzj⟩ : ∃ z, zs[j]? = some z := ⟨_, List.getElem?_eq_getElem (by omega)⟩
        obtain ⟨k, d, rfl, hk, rfl, hd⟩ := HM.out.one hxj hzj
        obtain ⟨g, o, rfl, hc⟩ := sslNo HN.out HFR.out j _ hxj
        obtain ⟨g', o', rfl, hc'⟩ := islNo HZ.out HFR.out j _ hzj
        have hg := World.block_lt_of_cell? _ _ hc
        have hg' := World.block_lt_of_cell? _ _ hc'
        have hjI : (j : Int) < (xs.length : Int) := by omega
        have hjZ : (j : Int) < (zs.length : Int) := by omega
        have hj0 : (0 : Int) ≤ (j : Int) := by omega
        have CT : Hid (Calls Try.prog 17 #[S [Ty.letter k], .slice (some ⟨g, o, none⟩) xs.length nc, .slice (some ⟨g', o', none⟩) zs.length zc] wr.drew fun e w' => e = .returned (.int .i64 (d : Int)) ∧ w'.cell? ⟨g, o + j, none⟩ = some (S [Ty.letter k]) ∧ w'.cell? ⟨g', o' + j, none⟩ = some (.int .i64 (d : Int)) ∧ Hid (Fr No w1 w')) := (SC.out [Ty.letter k] wr.drew (by simp) HFR.out.drew).mono (by
          rintro e w' ⟨q, rfl, hq, hf'⟩
          rw [hq.is (is_letter hk) HM.out, cntI_some (t := .v k) hd]
          refine ⟨rfl, (hf'.cell (p := ⟨g, o + j, none⟩) hg (fun h => h)).trans hc, (hf'.cell (p := ⟨g', o' + j, none⟩) hg' (fun h => h)).trans hc', HFR.out.drew.trans hf'⟩)
        clear hxj hzj hd hk
        go_wp2_with fail
        go_region_held3 (fun w' => w'.cell? ⟨g, o + j, none⟩ = some (S [Ty.letter k]) ∧ w'.cell? ⟨g', o' + j, none⟩ = some (.int .i64 (d : Int))) (go_keep)
          (first | (go_at_call 17; ((with_reducible refine CT.out.mono ?_); rintro e w5 ⟨rfl, k1, k2, HK⟩)))
        all_goals
          clear CT
          go_wp2_with fail
          go_roundw
          case rel => exact ⟨j + 1, by omega, by go_num, HK.out⟩
          case measure => simp [intOf]; omega
      · obtain rfl : j = xs.length := by omega
        go_wp2_with fail
        refine (SC.out [111] wr (by simp) HFR.out).mono ?_
        rintro e w5 ⟨q, rfl, hq, hf5⟩
        obtain rfl : (2 : Int) = q := (hq.is is_o HM.out).symm
        have HF5 := Lib.hid (HF1.out.trans (HFR.out.trans hf5))
        clear hq hf5
        go_wp2_with fail
        go_ret
        exact ⟨rfl, HF5.out⟩
end Go.Proofs.Ytngbpcphkfmncaa
