/- The law FnFun: what is put together is taken apart. -/
import Derived.Test.YtngbpcphkfmncaaLawM4
namespace Go.Proofs.Ytngbpcphkfmncaa
open Go.RowKit Go.ChangeMaps

def DrL (w : World) (e : Ending) (w' : World) : Prop :=
  ∃ s N nc Z zc L lc, ∃ (xs : List (List UInt8)) (zs lst : List Int), e = .returned (.tuple #[S s, .slice N xs.length nc, .slice Z zs.length zc, .slice L lst.length lc]) ∧ s.length ≤ 1300 ∧ lst.length ≤ 3 ∧ ISl w' L lst ∧ xs.length ≤ nc ∧ xs.length ≤ 4 ∧ zs.length ≤ 4 ∧ (∀ x ∈ xs, x.length ≤ 1) ∧ SSl w' N xs ∧ ISl w' Z zs ∧ Fr No w w'

set_option maxRecDepth 100000 in
set_option maxHeartbeats 2000000 in
theorem drawSFun (w : World) (A : Option Addr) (n c : Nat) (hn : n ≤ maxLen) (hnc : n ≤ c) (hb : Byt w A n) :
    Calls Try.prog 28 #[.slice A n c] w fun e w' => DrL w e w' := by
  have OP := Lib.hid (open_any w A n c hn hnc hb)
  clear hb
  go_enter Try.func28, Try.ntmps28
  go_wp2_with fail
  refine OP.out.mono ?_
  rintro e w1 ⟨r, A1, n1, c1, rfl, hf1, hr1, hd1⟩
  have HF1 := Lib.hid hf1
  have HR1 := Lib.hid hr1
  have HG1 : Hid (Fr (One r) w w1) := hf1.mono (fun _ _ h => h.elim)
  have TX := Lib.hid (text_draw w1 r A1 n1 c1 0 hd1 (by omega))
  clear hf1 hr1 hd1
  go_wp2_with fail
  refine TX.out.mono ?_
  rintro e w2 ⟨t, p2, rfl, hs, hf2, hp2, hd2⟩
  have HG2 : Hid (Fr (One r) w w2) := HG1.out.trans hf2
  have OF : Hid (Calls Try.prog 51 #[Ptr r, .slice (some ⟨w2.heap.size, 0, none⟩) 4 4] (w2.alloc (.cells #[.string ⟨#[40, 62, 32, 111, 32, 97, 41]⟩, .string ⟨#[40, 62, 32, 99, 32, 98, 41]⟩, .string ⟨#[40, 62, 32, 97, 32, 111, 41]⟩, S t] 9)) fun e w' => ∃ x, e = .returned (S x) ∧ x ∈ _ ∧ x.length ≤ 1300 ∧ Fr (One r) w2 w' ∧ Rdc w' r A1 n1 c1 (p2 + 1)) :=
    of_lit w2 r A1 n1 c1 p2 1300 4 [[40, 62, 32, 111, 32, 97, 41], [40, 62, 32, 99, 32, 98, 41], [40, 62, 32, 97, 32, 111, 41], t] _ rfl rfl hd2 (by omega) (by omega) (by omega) (by simp; omega)
  clear hf2 hd2
  go_wp2_with fail
  refine OF.out.mono ?_
  rintro e w3 ⟨s, rfl, _, hs', hf3, hd3⟩
  have HG3 : Hid (Fr (One r) w w3) := HG2.out.trans hf3
  have MD := Lib.hid (model_draw w3 r A1 n1 c1 (p2 + 1) hd3 (by omega))
  have hrw := hd3.blk.lt
  clear hf3 hd3 OF
  go_wp2_with fail
  refine MD.out.mono ?_
  rintro e w4 ⟨N, nc, Z, zc, xs, zs, p4, rfl, h1, h2, h3, h4, h5, h6, hnw, hf4, hp4, hd4⟩
  have HG4 : Hid (Fr (One r) w w4) := HG3.out.trans hf4
  clear MD
  have PK : Hid (∀ (V : World) (q k : Nat), Rdc V r A1 n1 c1 q → 1 ≤ k → k ≤ 1000 → q ≤ 90000 → Calls Try.prog 57 #[Ptr r, .int .i64 k] V fun e w' => PickP r A1 n1 c1 q k V e w') := fun V q k h1 h2 h3 h4 => pick_any V r A1 n1 c1 q k h1 h2 h3 (by omega)
  have P3 : Hid (∀ (V : World) (q : Nat), Rdc V r A1 n1 c1 q → q ≤ 90000 → Calls Try.prog 57 #[Ptr r, .int .i64 3] V fun e w' => PickP r A1 n1 c1 q 3 V e w') := fun V q h h4 => PK.out V q 3 h (by omega) (by omega) h4
  have P2 : Hid (∀ (V : World) (q : Nat), Rdc V r A1 n1 c1 q → q ≤ 90000 → Calls Try.prog 57 #[Ptr r, .int .i64 2] V fun e w' => PickP r A1 n1 c1 q 2 V e w') := fun V q h h4 => PK.out V q 2 h (by omega) (by omega) h4
  have P6 : Hid (∀ (V : World) (q : Nat), Rdc V r A1 n1 c1 q → q ≤ 90000 → Calls Try.prog 57 #[Ptr r, .int .i64 6] V fun e w' => PickP r A1 n1 c1 q 6 V e w') := fun V q h h4 => PK.out V q 6 h (by omega) (by omega) h4
  have hrw := hd4.blk.lt
  have HDD : Hid (Rdc w4.drew r A1 n1 c1 p4) := hd4.no ((Fr.refl _ _).drew)
  have HGD : Hid (Fr (One r) w w4.drew) := HG4.out.drew
  have FIN : Hid (∀ (V : World) (g : Nat) (y1 y2 d : Nat), d ≤ 1 → Fr (One r) w4 V → Blk V g 3 #[.int .i64 (y1 : Int), .int .i64 (y2 : Int), .int .i64 0] → DrL w (.returned (.tuple #[S s, .slice N xs.length nc, .slice Z zs.length zc, .slice (some ⟨g, 0, none⟩) (2 + d) 3])) V) := fun V g y1 y2 d hd hf hb => by
    have hx : SSl V N xs ∧ ISl V Z zs := ⟨sslFr h5 hf (fun g o e e2 => by have e2 : g = r := e2; have := hnw g o (.inl e); omega), islFr h6 hf (fun g o e e2 => by have e2 : g = r := e2; have := hnw g o (.inr e); omega)⟩
    have hr : Fr No w V := (HG4.out.trans hf).mono (fun i hi e => by unfold One at e; have := HR1.out; omega)
    match d, hd with
    | 0, _ => exact ⟨s, N, nc, Z, zc, _, 3, xs, zs, [(y1 : Int), (y2 : Int)], rfl, hs', by simp, (fun j z hj => isl_blk (zs := [(y1 : Int), (y2 : Int), 0]) 0 hb rfl j z (by match j, hj with | 0, hj => exact hj | 1, hj => exact hj)), h1, h2, h3, h4, hx.1, hx.2, hr⟩
    | 1, _ => exact ⟨s, N, nc, Z, zc, _, 3, xs, zs, [(y1 : Int), (y2 : Int), 0], rfl, hs', by simp, isl_blk 0 hb rfl, h1, h2, h3, h4, hx.1, hx.2, hr⟩
  clear hf4 hd4 h1 h2 h3 h4 h5 h6 hnw
  go_wp2_with fail
  go_region_held3 (fun _ => True) (go_keep)
    (first
      | (go_at_call 57; ((with_reducible refine (P3.out w4.drew p4 HDD.out (by omega)).mono ?_); rintro e w5 ⟨y1, rfl, hy1, hf5, hd5⟩))
      | (go_at_call 57; ((with_reducible refine (P2.out w5 (p4 + 1) hd5 (by omega)).mono ?_); rintro e w6 ⟨y2, rfl, hy2, hf6, hd6⟩))
      | (go_at_call 57; ((with_reducible refine (P6.out w6 (p4 + 1 + 1) hd6 (by omega)).mono ?_); rintro e w7 ⟨y3, rfl, hy3, hf7, hd7⟩; obtain ⟨d, hdd, hd1⟩ : ∃ d : Nat, ((y3 : Int)).tdiv 5 = (d : Int) ∧ d ≤ 1 := ⟨y3 / 5, rfl, by omega⟩; have kq : IntKind.i64.wrap (d : Int) = (d : Int) := IntWalk.i64_in _ (by omega); have kw : IntKind.i64.wrap (2 + (d : Int)) = 2 + (d : Int) := IntWalk.i64_in _ (by omega); have k0 : (0 : Int) ≤ 2 + (d : Int) := (by omega); have k1 : 2 + (d : Int) ≤ 3 := (by omega); have k2 : (y3 : Int) / 5 = (d : Int) := (Int.tdiv_eq_ediv_of_nonneg (a := (y3 : Int)) (b := 5) (Int.natCast_nonneg _)).symm.trans hdd))
      | (go_at_call 57; ((with_reducible refine (P6.out (w6.alloc _) (p4 + 1 + 1) (hd6.no ((Fr.refl _ _).alloc _)) (by omega)).mono ?_); rintro e w7 ⟨y3, rfl, hy3, hf7, hd7⟩; obtain ⟨d, hdd, hd1⟩ : ∃ d : Nat, ((y3 : Int)).tdiv 5 = (d : Int) ∧ d ≤ 1 := ⟨y3 / 5, rfl, by omega⟩; have kq : IntKind.i64.wrap (d : Int) = (d : Int) := IntWalk.i64_in _ (by omega); have kw : IntKind.i64.wrap (2 + (d : Int)) = 2 + (d : Int) := IntWalk.i64_in _ (by omega); have k0 : (0 : Int) ≤ 2 + (d : Int) := (by omega); have k1 : 2 + (d : Int) ≤ 3 := (by omega); have k2 : (y3 : Int) / 5 = (d : Int) := (Int.tdiv_eq_ediv_of_nonneg (a := (y3 : Int)) (b := 5) (Int.natCast_nonneg _)).symm.trans hdd)))
  all_goals rw [show (2 + (d : Int)).toNat = 2 + d by omega]
  · have E : Hid (DrL w (.returned (.tuple #[S s, .slice N xs.length nc, .slice Z zs.length zc, .slice (some ⟨w6.heap.size, 0, none⟩) (2 + d) 3])) w7) := FIN.out w7 w6.heap.size y1 y2 d hd1 (((((Fr.refl (One r) w4).drew.trans hf5).trans hf6).alloc _).trans hf7) ((Blk.new w6 _ _).fr hf7 (fun e => by have e : w6.heap.size = r := e; have := hd6.blk.lt; omega))
    clear hf5 hf6 hf7 hd6 hd7
    go_wp2_with fail
    refine bodyPost_ret (v := .tuple #[S s, .slice N xs.length nc, .slice Z zs.length zc, .slice (some ⟨w6.heap.size, 0, none⟩) (2 + d) 3]) (by simp [results, Try.results28, go_sem]) rfl ?_
    exact E.out
  · have E : Hid (DrL w (.returned (.tuple #[S s, .slice N xs.length nc, .slice Z zs.length zc, .slice (some ⟨w7.heap.size, 0, none⟩) (2 + d) 3])) (w7.alloc (.cells #[.int .i64 (y1 : Int), .int .i64 (y2 : Int), .int .i64 0] 3))) := FIN.out _ w7.heap.size y1 y2 d hd1 (((((Fr.refl (One r) w4).drew.trans hf5).trans hf6).trans hf7).alloc _) (Blk.new w7 _ _)
    clear hf5 hf6 hf7 hd6 hd7
    go_wp2_with fail
    refine bodyPost_ret (v := .tuple #[S s, .slice N xs.length nc, .slice Z zs.length zc, .slice (some ⟨w7.heap.size, 0, none⟩) (2 + d) 3]) (by simp [results, Try.results28, go_sem]) rfl ?_
    exact E.out

set_option maxRecDepth 100000 in
set_option maxHeartbeats 4000000 in
theorem lawPFun (w : World) (A : Option Addr) (n c : Nat) (hn : n ≤ maxLen) (hnc : n ≤ c) (hb : Byt w A n) :
    Calls Try.prog 8 #[.slice A n c] w fun e w' => Yes w e w' := by
  have DR := Lib.hid (drawSFun w A n c hn hnc hb)
  clear hb
  have hn' := hn
  unfold maxLen at hn'
  by_cases hl : 1048576 < n
  · have hd : decide ((1048576 : Int) < (n : Int)) = true := by simp; omega
    go_enter Try.func8, Try.ntmps8
    go_wp2_with fail
    go_ret
    exact ⟨rfl, Fr.refl _ _⟩
  have hd : decide ((1048576 : Int) < (n : Int)) = false := by simp; omega
  clear hl
  go_enter Try.func8, Try.ntmps8
  go_wp2_with fail
  refine DR.out.mono ?_
  rintro e w1 ⟨s, N, nc, Z, zc, L, lc, xs, zs, lst, rfl, hs, hll, h7, h1, h2, h3, h4, h5, h6, hf1⟩
  have HF1 := Lib.hid hf1
  have HN := Lib.hid h5
  have HZ := Lib.hid h6
  have hxm : ∀ x ∈ xs, x.length ≤ maxLen := fun x hx => by have := h4 x hx; unfold maxLen; omega
  have SC : Hid (∀ (x : List UInt8) W, x.length ≤ 1300 → Fr No w1 W → Calls Try.prog 17 #[S x, .slice N xs.length nc, .slice Z zs.length zc] W fun e w' => AnsStc x xs zs W e w') := fun x W hx hf => implStc W x N Z xs zs nc zc (by unfold maxLen; omega) (sslNo HN.out hf) (islNo HZ.out hf) (by omega) (by omega) hxm
  have HL := Lib.hid h7
  have IA : Hid (∀ (k q : Int) W, Fr No w1 W → Calls Try.prog 25 #[S s, .slice N xs.length nc, .slice Z zs.length zc, .int .i64 k, .int .i64 q] W fun e w' => AnsAt s xs zs k q W e w') := fun k q W hf => implAt W s N Z xs zs nc zc k q (by unfold maxLen; omega) (sslNo HN.out hf) (islNo HZ.out hf) (by omega) (by omega) hxm
  have IF : Hid (∀ W, Fr No w1 W → Calls Try.prog 27 #[S s, .slice N xs.length nc, .slice Z zs.length zc, .slice L lst.length lc] W fun e w' => AnsFun s xs zs lst W e w') := fun W hf => implFun W s N Z L xs zs lst nc zc lc (by unfold maxLen; omega) (sslNo HN.out hf) (islNo HZ.out hf) (islNo HL.out hf) (by omega) (by omega) (by omega) hxm
  have SF : Hid (∀ W, Fr No w1 W → Calls Try.prog 29 #[S s, .slice N xs.length nc, .slice Z zs.length zc, .slice L lst.length lc] W fun e w' => AnsFun s xs zs lst W e w') := fun W hf => specFun W s N Z L xs zs lst nc zc lc h1 (by unfold maxLen; omega) (sslNo HN.out hf) (islNo HZ.out hf) (islNo HL.out hf) (by omega) (by omega) (by omega) hxm
  clear hf1 h5 h6 h1 h7 hxm HN HZ
  go_wp2_with fail
  refine (IF.out w1 (Fr.refl _ _)).mono ?_
  rintro e w2 ⟨x, ok, rfl, hpr, hf2⟩
  have HF2 := Lib.hid hf2
  have SM : Hid (∀ W, Fr No w1 W → Calls Try.prog 29 #[S s, .slice N xs.length nc, .slice Z zs.length zc, .slice L lst.length lc] W fun e w' => e = .returned (.tuple #[.int .i64 x, .bool ok]) ∧ Fr No W w') := fun W hf => (SF.out W hf).mono (by
    rintro e w' ⟨x', ok', rfl, hpr', hf'⟩
    obtain ⟨rfl, rfl⟩ := hpr.one hpr'
    exact ⟨rfl, hf'⟩)
  have HPR := Lib.hid hpr
  clear hf2 hpr SF IF
  go_wp2_with fail
  refine (SM.out w2 HF2.out).mono ?_
  rintro e w3 ⟨rfl, hf3⟩
  have HF3 := Lib.hid (HF2.out.trans hf3)
  clear hf3
  clear SM
  cases ok with
  | false =>
    go_wp2_with fail
    go_ret
    exact ⟨rfl, HF1.out.trans HF3.out⟩
  | true =>
    obtain ⟨l, r, ms, a, b, d, hsf, hlo, hx⟩ : ∃ l r ms a b d, SfIs s true xs zs l r ms a b d ∧ LstOk lst a b ∧ x = ((undI b lst : Nat) : Int) := by
      rcases HPR.out with ⟨l, r, ms, a, b, d, h1, h2, h3, _⟩ | ⟨_, _, h⟩
      · exact ⟨l, r, ms, a, b, d, h1, h2, h3⟩
      · cases h
    have HSF := Lib.hid hsf
    have HLO := Lib.hid hlo
    have hdd : d = b ^ a := by have h := hsf.2.2.2.2.2.1; simpa using h
    have hxd : undI b lst < d := by rw [hdd]; exact un_lt hlo
    have hla : lst.length = a := hlo.1
    have IAJ : Hid (∀ (j : Nat) (z : Int) W, lst[j]? = some z → Fr No w1 W → Calls Try.prog 25 #[S s, .slice N xs.length nc, .slice Z zs.length zc, .int .i64 x, .int .i64 (j : Int)] W fun e w' => e = .returned (.tuple #[.int .i64 z, .bool true]) ∧ Fr No W w') := fun j z W hj hf => (IA.out x (j : Int) W hf).mono (by
      rintro e w' ⟨x', ok', rfl, hpr', hf'⟩
      obtain ⟨rfl, rfl⟩ := (show AtR s xs zs x j z true from .inl ⟨l, r, ms, a, b, d, undI b lst, j, HSF.out, hx, rfl, hxd, by rw [← hla]; exact (List.getElem?_eq_some_iff.1 hj).1, (un_at HLO.out.2 hj).symm, rfl⟩).one hpr'
      exact ⟨rfl, hf'⟩)
    have SD : Hid (∀ W, Fr No w1 W → Calls Try.prog 17 #[S s, .slice N xs.length nc, .slice Z zs.length zc] W fun e w' => e = .returned (.int .i64 (d : Int)) ∧ Fr No W w') := fun W hf => (SC.out s W hs hf).mono (by
      rintro e w' ⟨m', rfl, hst', hf'⟩
      rw [hst'.is HSF.out.1 HSF.out.2.1, cntI_some HSF.out.2.2.2.2.1]
      exact ⟨rfl, hf'⟩)
    have x0 : 0 ≤ x := by omega
    have x1 : x < (d : Int) := by omega
    clear hsf hlo hx hdd hxd hla HPR SC IA HSF HLO
    go_wp2_with fail
    go_loopw [11] (fun u wr => ∃ j : Nat, j ≤ lst.length ∧ u = .int .i64 j ∧ Fr No w1 wr) (fun u _ => lst.length - (intOf u).toNat)
    case atStart => exact ⟨0, Nat.zero_le _, rfl, HF3.out⟩
    case round =>
      obtain ⟨j, hj, rfl, hfr⟩ := hrel
      have HFR := Lib.hid hfr
      clear hfr
      by_cases hlt : j < lst.length
      · obtain ⟨z, hzj⟩ : ∃ z, lst[j]? = some z := ⟨_, List.getElem?_eq_getElem hlt⟩
        have hjI : (j : Int) < (lst.length : Int) := by omega
        have AJ := Lib.hid (IAJ.out j z wr hzj HFR.out)
        go_wp2_with fail
        refine AJ.out.mono ?_
        rintro e w6 ⟨rfl, hf6⟩
        have HF6 := Lib.hid (HFR.out.trans hf6)
        obtain ⟨g, o, rfl, hc⟩ := islNo HL.out HF6.out j z hzj
        have hg := World.block_lt_of_cell? _ _ hc
        clear hf6 hzj AJ
        go_wp2_with fail
        go_roundw
        case rel => exact ⟨j + 1, by omega, by go_num, HF6.out⟩
        case measure => simp [intOf]; omega
      · obtain rfl : j = lst.length := by omega
        go_wp2_with fail
        refine (SD.out wr HFR.out).mono ?_
        rintro e w5 ⟨rfl, hf5⟩
        have HF5 := Lib.hid (HF1.out.trans (HFR.out.trans hf5))
        clear hf5
        go_wp2_with fail
        go_ret
        exact ⟨rfl, HF5.out⟩
end Go.Proofs.Ytngbpcphkfmncaa
