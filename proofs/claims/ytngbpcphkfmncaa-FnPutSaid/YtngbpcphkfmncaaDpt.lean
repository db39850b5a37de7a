/- The draw of what is put: variables with types. -/
import Derived.Test.YtngbpcphkfmncaaWit0
namespace Go.Proofs.Ytngbpcphkfmncaa
open Go.RowKit Go.ChangeMaps

theorem rowFr {w w' : World} {B n k : Nat} {t : TypeId} {v : Value} {xs : List Value} {T : Nat → Prop} (h : w.ownsRow B t n v k xs) (hf : Fr T w w') (hT : ∀ b, B ≤ b → ¬ T b) : w'.ownsRow B t n v k xs := by
  refine ⟨h.1, ?_⟩
  rcases h.2 with h | ⟨g, cap, cur, hv, h2, h3, h4⟩
  · exact .inl h
  · exact .inr ⟨g, cap, cur, hv, h2, (hf.block g (Array.getElem?_eq_some_iff.1 h3).1 (hT g h2)).trans h3, h4⟩

def PtP (r : Nat) (A : Option Addr) (n c p : Nat) (w : World) (e : Ending) (w' : World) : Prop :=
  ∃ N nc Z zc, ∃ (xs ys : List (List UInt8)) (p' : Nat), e = .returned (.tuple #[.slice N xs.length nc, .slice Z ys.length zc]) ∧ xs.length ≤ nc ∧ ys.length ≤ zc ∧ xs.length ≤ 4 ∧ ys.length ≤ 4 ∧ (∀ x ∈ xs, x.length ≤ 216) ∧ (∀ y ∈ ys, y.length ≤ 216) ∧ SSl w' N xs ∧ SSl w' Z ys ∧ Fr (One r) w w' ∧ p' ≤ p + 83 ∧ Rdc w' r A n c p'

set_option maxRecDepth 100000 in
set_option maxHeartbeats 8000000 in
theorem puts_draw (w : World) (r : Nat) (A : Option Addr) (n c p : Nat) (h : Rdc w r A n c p) (hp : p ≤ 80000) :
    Calls Try.prog 32 #[Ptr r] w fun e w' => PtP r A n c p w e w' := by
  obtain ⟨i0, hi0, hz0, hz1, hz2⟩ := infoStr
  obtain ⟨W0, hW0, hf0, hb0⟩ : ∃ W, W = w.alloc (.cells #[.string ⟨#[97]⟩, .string ⟨#[98]⟩, .string ⟨#[99]⟩] 9) ∧ Fr No w W ∧ Blk W w.heap.size 9 #[.string ⟨#[97]⟩, .string ⟨#[98]⟩, .string ⟨#[99]⟩] := ⟨_, rfl, (Fr.refl _ _).alloc _, Blk.new _ _ _⟩
  have hrl := h.blk.lt
  have HB0 := Lib.hid hb0
  have HD0 := Lib.hid (h.no hf0)
  have HF0 : Hid (Fr (One r) w W0) := hf0.mono (fun _ _ h => h.elim)
  have PK : Hid (∀ (V : World) (q k : Nat), Rdc V r A n c q → 1 ≤ k → k ≤ 1000 → q ≤ 90000 → Calls Try.prog 57 #[Ptr r, .int .i64 k] V fun e w' => PickP r A n c q k V e w') := fun V q k h1 h2 h3 h4 => pick_any V r A n c q k h1 h2 h3 (by omega)
  have TD : Hid (∀ (V : World) (q : Nat), Rdc V r A n c q → q ≤ 80100 → Calls Try.prog 61 #[Ptr r, .int .i64 2] V fun e w' => DrwP r A n c q 27 216 V e w') := fun V q h1 h2 => type_draw 2 (by decide) V r A n c q h1 (by show q + 27 ≤ 90000; omega)
  clear h hb0 hf0
  go_enter Try.func32, Try.ntmps32
  go_wp2_with fail
  rw [← hW0]
  clear hW0
  refine (PK.out W0 p 4 HD0.out (by omega) (by omega) (by omega)).mono ?_
  rintro e w1 ⟨k, rfl, hk, hf1, hd1⟩
  have HF1 : Hid (Fr (One r) w w1) := HF0.out.trans hf1
  have HB1 : Hid (Blk w1 w.heap.size _ _) := HB0.out.fr hf1 (fun e => by have e : w.heap.size = r := e; omega)
  have HD1 := Lib.hid hd1
  have k0 : (0 : Int) ≤ (k : Int) := by omega
  have k1 : (k : Int) ≤ 3 := by omega
  have hs01 : w.heap.size < w1.heap.size := HB1.out.lt
  clear hf1 hd1
  obtain ⟨W2, hW2, hf2, ho2⟩ : ∃ W, W = w1.alloc (.cells #[] 9) ∧ Fr No w1 W ∧ W.ownsRow w1.heap.size 9 1 (.slice (some ⟨w1.heap.size, 0, none⟩) 0 0) 0 (([] : List (List UInt8)).map S) := ⟨_, rfl, (Fr.refl _ _).alloc _, ownEmpty w1 _ (Nat.le_refl _) _ rfl⟩
  have HF2 : Hid (Fr (One r) w W2) := HF1.out.trans (hf2.mono (fun _ _ h => h.elim))
  have HB2 : Hid (Blk W2 w.heap.size _ _) := HB1.out.fr hf2 (fun h => h)
  have HD2 := Lib.hid (HD1.out.no hf2)
  have HO2 := Lib.hid ho2
  have hs2 : w1.heap.size ≤ W2.heap.size := hf2.size
  clear hf2 ho2
  go_wp2_with fail
  rw [← hW2]
  clear hW2
  go_loopw [5, 6] (fun v u wr => ∃ (j cp g : Nat) (ys : List (List UInt8)) (q : Nat), j ≤ k ∧ u = .int .i64 j ∧ v = .slice (some ⟨g, 0, none⟩) j cp ∧ j ≤ cp ∧ ys.length = j ∧ (∀ y ∈ ys, y.length ≤ 216) ∧ (Fr (One r) w wr ∧ w1.heap.size ≤ wr.heap.size) ∧ wr.ownsRow w1.heap.size 9 1 (.slice (some ⟨g, 0, none⟩) j cp) j (ys.map S) ∧ Rdc wr r A n c q ∧ q ≤ p + 1 + 27 * j ∧ Blk wr w.heap.size 9 #[.string ⟨#[97]⟩, .string ⟨#[98]⟩, .string ⟨#[99]⟩]) (fun _ u _ => k - (intOf u).toNat)
  case atStart => exact ⟨0, 0, _, [], _, Nat.zero_le _, rfl, rfl, Nat.le_refl _, rfl, by simp, ⟨HF2.out, hs2⟩, HO2.out, HD2.out, by omega, HB2.out⟩
  case round =>
    obtain ⟨j, cp, g, ys, q, hj, rfl, rfl, hjc, hyl, hys, ⟨hfr, hsr⟩, hor, hdr, hq, hbr⟩ := hrel
    have HFR := Lib.hid hfr
    have HO := Lib.hid hor
    have HD := Lib.hid hdr
    have HB := Lib.hid hbr
    have HYL := Lib.hid hyl
    have HYS := Lib.hid hys
    have hr1 : r < w1.heap.size := HD1.out.blk.lt
    clear hfr hor hdr hbr hyl hys
    by_cases hlt : j < k
    · have hjI : (j : Int) < (k : Int) := by omega
      have TY := Lib.hid (TD.out wr q HD.out (by omega))
      go_wp2_with fail
      refine TY.out.mono ?_
      rintro e w4 ⟨y, q', rfl, hyl, hf4, hq', hd4⟩
      have HF4 : Hid (Fr (One r) w w4) := HFR.out.trans hf4
      have ho4 := rowFr HO.out hf4 (fun b hb e => by have e : b = r := e; omega)
      have HO4 := Lib.hid ho4
      have HD4 := Lib.hid hd4
      have HB4 : Hid (Blk w4 w.heap.size _ _) := HB.out.fr hf4 (fun e => by have e : w.heap.size = r := e; omega)
      have hs4 : w1.heap.size ≤ w4.heap.size := Nat.le_trans hsr hf4.size
      have ARM : Hid (∀ (v' : Value) (V : World), V.ownsRow w1.heap.size 9 1 v' (j + 1) (ys.map S ++ [S y]) → (w4.alloc (.cells #[S y] 9)).grownBy V (Value.slice (some ⟨g, 0, none⟩) j cp).ownBlock → ∃ g' cap', v' = .slice (some ⟨g', 0, none⟩) (j + 1) cap' ∧ Hid (j + 1 ≤ cap' ∧ (Fr (One r) w V ∧ w1.heap.size ≤ V.heap.size) ∧ V.ownsRow w1.heap.size 9 1 (.slice (some ⟨g', 0, none⟩) (j + 1) cap') (j + 1) ((ys ++ [y]).map S) ∧ Rdc V r A n c q' ∧ Blk V w.heap.size 9 #[.string ⟨#[97]⟩, .string ⟨#[98]⟩, .string ⟨#[99]⟩])) := by
        intro v' V ho hg
        obtain ⟨g', cap', rfl, hle⟩ : ∃ g' cap', v' = .slice (some ⟨g', 0, none⟩) (j + 1) cap' ∧ j + 1 ≤ cap' := by
          rcases ho.2 with ⟨_, hn⟩ | ⟨g', cap', cur, hv, _, _, h5, _⟩
          · omega
          · exact ⟨g', cap', hv, by omega⟩
        have hf : Fr (fun b => w1.heap.size ≤ b) w4 V := ((Fr.refl _ _).alloc _).grown hg (fun b hb => .inl (HO4.out.lt b hb).1)
        refine ⟨g', cap', rfl, hle, ⟨HF4.out.then_ hf (fun i hi e => by have e : w1.heap.size ≤ i := e; omega), ?_⟩, by rw [List.map_append]; exact ho, HD4.out.fr2 hf (fun e => by have e : w1.heap.size ≤ r := e; omega) (fun h0 g o e e2 => by have e2 : w1.heap.size ≤ g := e2; have := HD1.out.low h0 g o e; omega), HB4.out.fr hf (fun e => by have e : w1.heap.size ≤ w.heap.size := e; omega)⟩
        exact Nat.le_trans hs4 hf.size
      clear hf4 hd4 TY ho4
      have hown := HO4.out
      go_wp2_with (at_builtin; refine wpList_append_own _ rfl _ _ 23 rfl w1.heap.size 9 i0 (.string ⟨#[]⟩) 1 16 Try.underlying23 hi0 hz0 hz1 hz2 rfl (by decide) _ _ _ rfl (hown.alloc _) ⟨w4.heap.size, 0, none⟩ 1 1 [S y] rfl rfl (cell_one_new _ _ _) (by simp [Value.oneCell']) (by unfold maxLen; omega) (by omega) (by simp; omega) ?_; intro v' w5 hown' hgrow _; obtain ⟨g', cap', rfl, HN⟩ := ARM.out v' w5 hown' hgrow; clear hown' hgrow)
      go_roundw
      case rel => exact ⟨j + 1, cap', g', ys ++ [y], q', by omega, by go_num, rfl, HN.out.1, by simp [HYL.out], (fun z hz => by rcases List.mem_append.1 hz with h | h; exact HYS.out z h; simp at h; subst h; exact hyl), HN.out.2.1, HN.out.2.2.1, HN.out.2.2.2.1, by omega, HN.out.2.2.2.2⟩
      case measure => simp [intOf]; omega
    · obtain rfl : k = j := by omega
      have NX : Hid (SSl wr (some ⟨w.heap.size, 0, none⟩) (([[97], [98], [99]] : List (List UInt8)).take k)) := fun j x hj => ssl_blk (xs := [[97], [98], [99]]) HB.out rfl j x (by
        rw [List.getElem?_take] at hj
        split at hj
        · exact hj
        · cases hj)
      obtain ⟨ns, hns, hnl, hn1⟩ : ∃ ns : List (List UInt8), ns = ([[97], [98], [99]] : List (List UInt8)).take k ∧ ns.length = k ∧ ∀ x ∈ ns, x.length ≤ 216 := ⟨_, rfl, by simp; omega, fun x hx => by
        have := List.mem_of_mem_take hx
        simp at this
        rcases this with rfl | rfl | rfl <;> simp⟩
      rw [← hns] at NX
      have HNL := Lib.hid hnl
      have HN1 := Lib.hid hn1
      clear hns hnl hn1
      have YX : Hid (SSl wr (some ⟨g, 0, none⟩) ys) := SSl.of_own (c := cp) (B := w1.heap.size) (by rw [HYL.out]; exact HO.out)
      have PZ := Lib.hid (PK.out wr q 20 HD.out (by omega) (by omega) (by omega))
      go_wp2_with fail
      refine PZ.out.mono ?_
      rintro e w4 ⟨z, rfl, hz, hf4, hd4⟩
      have HF4 : Hid (Fr (One r) w w4) := HFR.out.trans hf4
      have NX4 : Hid (SSl w4 (some ⟨w.heap.size, 0, none⟩) ns) := sslFr NX.out hf4 (fun g o e e2 => by injection e with e; injection e with e; have e2 : g = r := e2; omega)
      have hg1 := fun h0 => (HO.out.lt g h0).1
      have YX4 : Hid (SSl w4 (some ⟨g, 0, none⟩) ys) := sslFr YX.out hf4 (fun g' o e e2 => by injection e with e; injection e with e; have e2 : g' = r := e2; have := (HO.out.lt g rfl).1; omega)
      have HD4 := Lib.hid hd4
      clear hf4 hd4 PZ hg1
      have hk3 : k ≤ 3 := by omega
      -- what is answered: two lists, in whatever world that keeps all but new blocks
      have FIN : Hid (∀ (V : World) (G1 G2 c1 c2 : Nat) (xs zs : List (List UInt8)) (l1 l2 : Nat), l1 = xs.length → l2 = zs.length → Fr No w4 V → l1 ≤ 4 → l2 ≤ 4 → l1 ≤ c1 → l2 ≤ c2 → (∀ x ∈ xs, x.length ≤ 216) → (∀ x ∈ zs, x.length ≤ 216) → SSl V (some ⟨G1, 0, none⟩) xs → SSl V (some ⟨G2, 0, none⟩) zs → PtP r A n c p w (.returned (.tuple #[.slice (some ⟨G1, 0, none⟩) l1 c1, .slice (some ⟨G2, 0, none⟩) l2 c2])) V) := by
        intro V G1 G2 c1 c2 xs zs l1 l2 e1 e2 hf h1 h2 h3 h4 h5 h6 h7 h8
        subst e1 e2
        exact ⟨_, c1, _, c2, xs, zs, _, rfl, h3, h4, h1, h2, h5, h6, h7, h8, HF4.out.trans (hf.mono (fun _ _ h => h.elim)), by omega, HD4.out.no hf⟩
      by_cases hzz0 : z = 0
      · subst hzz0
        have WIa : Hid (Calls Try.prog 62 #[.slice (some ⟨w.heap.size, 0, none⟩) k _, .slice none 0 0] w4 fun e w' => ∃ A' c', e = .returned (.slice A' k c') ∧ w'.ownsRow w4.heap.size 9 1 (.slice A' k c') k ((ns).map S) ∧ Fr No w4 w') := (by have h := with0_any w4 w.heap.size 0 ns 3 NX4.out (by have := HNL.out; omega); rw [HNL.out] at h; exact h)
        go_wp2_with fail
        refine WIa.out.mono ?_
        rintro e w5 ⟨Aa, ca, rfl, hoa, hf5⟩
        have HOa := Lib.hid hoa
        have howna := hoa
        have HF5 := Lib.hid hf5
        have hs5 : w4.heap.size ≤ w5.heap.size := hf5.size
        have ARa : Hid (∀ (v' : Value) (V : World), V.ownsRow w4.heap.size 9 1 v' (k + 1) ((ns).map S ++ [S [97]]) → (w5.alloc (.cells #[S [97]] 9)).grownBy V (Value.slice Aa k ca).ownBlock → ∃ g' cap', v' = .slice (some ⟨g', 0, none⟩) (k + 1) cap' ∧ k + 1 ≤ cap' ∧ Hid (Fr No w4 V ∧ V.ownsRow w4.heap.size 9 1 (.slice (some ⟨g', 0, none⟩) (k + 1) cap') (k + 1) ((ns).map S ++ [S [97]]))) := by
          intro v' V ho hg
          obtain ⟨g', cap', rfl, hle⟩ : ∃ g' cap', v' = .slice (some ⟨g', 0, none⟩) (k + 1) cap' ∧ k + 1 ≤ cap' := by
            rcases ho.2 with ⟨_, hn⟩ | ⟨g', cap', cur, hv, _, _, h5, _⟩
            · omega
            · exact ⟨g', cap', hv, by omega⟩
          exact ⟨g', cap', rfl, hle, (HF5.out.alloc _).grown hg (fun b hb => .inr (HOa.out.lt b hb).1), ho⟩
        clear hoa hf5 WIa
        go_wp2_with (at_builtin; refine wpList_append_own _ rfl _ _ 23 rfl w4.heap.size 9 i0 (.string ⟨#[]⟩) 1 16 Try.underlying23 hi0 hz0 hz1 hz2 rfl (by decide) _ _ _ rfl (howna.alloc _) ⟨w5.heap.size, 0, none⟩ 1 1 [S [97]] rfl rfl (cell_one_new _ _ _) (by simp [Value.oneCell']) (by unfold maxLen; omega) (by omega) (by simp; omega) ?_; intro v' w6 hown' hgrow _; obtain ⟨ga, capa, rfl, hlea, HNa⟩ := ARa.out v' w6 hown' hgrow; clear hown' hgrow)
        have HF6 := Lib.hid HNa.out.1
        have YX6 : Hid (SSl w6 (some ⟨g, 0, none⟩) ys) := sslFr YX4.out HF6.out (fun _ _ _ h => h)
        have hs6 : w4.heap.size ≤ w6.heap.size := HF6.out.size
        have WIb : Hid (Calls Try.prog 62 #[.slice (some ⟨g, 0, none⟩) k _, .slice none 0 0] w6 fun e w' => ∃ A' c', e = .returned (.slice A' k c') ∧ w'.ownsRow w6.heap.size 9 1 (.slice A' k c') k ((ys).map S) ∧ Fr No w6 w') := (by have h := with0_any w6 g 0 ys cp YX6.out (by have := HYL.out; omega); rw [HYL.out] at h; exact h)
        go_wp2_with fail
        refine WIb.out.mono ?_
        rintro e w7 ⟨Ab, cb, rfl, hob, hf7⟩
        have HOb := Lib.hid hob
        have hownb := hob
        have HF7 := Lib.hid hf7
        have hs7 : w6.heap.size ≤ w7.heap.size := hf7.size
        have ARb : Hid (∀ (v' : Value) (V : World), V.ownsRow w6.heap.size 9 1 v' (k + 1) ((ys).map S ++ [S [111]]) → (w7.alloc (.cells #[S [111]] 9)).grownBy V (Value.slice Ab k cb).ownBlock → ∃ g' cap', v' = .slice (some ⟨g', 0, none⟩) (k + 1) cap' ∧ k + 1 ≤ cap' ∧ Hid (Fr No w6 V ∧ V.ownsRow w6.heap.size 9 1 (.slice (some ⟨g', 0, none⟩) (k + 1) cap') (k + 1) ((ys).map S ++ [S [111]]))) := by
          intro v' V ho hg
          obtain ⟨g', cap', rfl, hle⟩ : ∃ g' cap', v' = .slice (some ⟨g', 0, none⟩) (k + 1) cap' ∧ k + 1 ≤ cap' := by
            rcases ho.2 with ⟨_, hn⟩ | ⟨g', cap', cur, hv, _, _, h5, _⟩
            · omega
            · exact ⟨g', cap', hv, by omega⟩
          exact ⟨g', cap', rfl, hle, (HF7.out.alloc _).grown hg (fun b hb => .inr (HOb.out.lt b hb).1), ho⟩
        clear hob hf7 WIb
        go_wp2_with (at_builtin; refine wpList_append_own _ rfl _ _ 23 rfl w6.heap.size 9 i0 (.string ⟨#[]⟩) 1 16 Try.underlying23 hi0 hz0 hz1 hz2 rfl (by decide) _ _ _ rfl (hownb.alloc _) ⟨w7.heap.size, 0, none⟩ 1 1 [S [111]] rfl rfl (cell_one_new _ _ _) (by simp [Value.oneCell']) (by unfold maxLen; omega) (by omega) (by simp; omega) ?_; intro v' w8 hown' hgrow _; obtain ⟨gb, capb, rfl, hleb, HNb⟩ := ARb.out v' w8 hown' hgrow; clear hown' hgrow)
        have FINX : Hid (PtP r A n c p w (.returned (.tuple #[.slice (some ⟨ga, 0, none⟩) (k + 1) capa, .slice (some ⟨gb, 0, none⟩) (k + 1) capb])) w8) := by
          have hf := HNb.out.1
          have e1 : (ns ++ [[97]]).length = k + 1 := by simp [HNL.out]
          have e2 : (ys ++ [[111]]).length = k + 1 := by simp [HYL.out]
          refine FIN.out w8 ga gb capa capb (ns ++ [[97]]) (ys ++ [[111]]) (k + 1) (k + 1) e1.symm e2.symm (HF6.out.trans hf) (by omega) (by omega) hlea hleb ?_ ?_ ?_ ?_
          · intro x hx; rcases List.mem_append.1 hx with h | h; exact HN1.out x h; simp at h; subst h; simp
          · intro x hx; rcases List.mem_append.1 hx with h | h; exact HYS.out x h; simp at h; subst h; simp
          · refine sslFr (T := No) (SSl.of_own (c := capa) (B := w4.heap.size) ?_) hf (fun _ _ _ h => h)
            rw [e1, List.map_append]; exact HNa.out.2
          · refine SSl.of_own (c := capb) (B := w6.heap.size) ?_
            rw [e2, List.map_append]; exact HNb.out.2
        clear HNa HNb ARa ARb
        go_wp2_with fail
        refine bodyPost_ret (v := .tuple #[.slice (some ⟨ga, 0, none⟩) (k + 1) capa, .slice (some ⟨gb, 0, none⟩) (k + 1) capb]) (by simp [results, Try.results32, go_sem]) rfl ?_
        exact FINX.out
      have z0' : ((z : Int) == 0) = false := beq_eq_false_iff_ne.2 (by omega)
      by_cases hzz1 : z = 1
      · subst hzz1
        have WIa : Hid (Calls Try.prog 62 #[.slice (some ⟨w.heap.size, 0, none⟩) k _, .slice none 0 0] w4 fun e w' => ∃ A' c', e = .returned (.slice A' k c') ∧ w'.ownsRow w4.heap.size 9 1 (.slice A' k c') k ((ns).map S) ∧ Fr No w4 w') := (by have h := with0_any w4 w.heap.size 0 ns 3 NX4.out (by have := HNL.out; omega); rw [HNL.out] at h; exact h)
        go_wp2_with fail
        refine WIa.out.mono ?_
        rintro e w5 ⟨Aa, ca, rfl, hoa, hf5⟩
        have HOa := Lib.hid hoa
        have howna := hoa
        have HF5 := Lib.hid hf5
        have hs5 : w4.heap.size ≤ w5.heap.size := hf5.size
        have ARa : Hid (∀ (v' : Value) (V : World), V.ownsRow w4.heap.size 9 1 v' (k + 1) ((ns).map S ++ [S [111]]) → (w5.alloc (.cells #[S [111]] 9)).grownBy V (Value.slice Aa k ca).ownBlock → ∃ g' cap', v' = .slice (some ⟨g', 0, none⟩) (k + 1) cap' ∧ k + 1 ≤ cap' ∧ Hid (Fr No w4 V ∧ V.ownsRow w4.heap.size 9 1 (.slice (some ⟨g', 0, none⟩) (k + 1) cap') (k + 1) ((ns).map S ++ [S [111]]))) := by
          intro v' V ho hg
          obtain ⟨g', cap', rfl, hle⟩ : ∃ g' cap', v' = .slice (some ⟨g', 0, none⟩) (k + 1) cap' ∧ k + 1 ≤ cap' := by
            rcases ho.2 with ⟨_, hn⟩ | ⟨g', cap', cur, hv, _, _, h5, _⟩
            · omega
            · exact ⟨g', cap', hv, by omega⟩
          exact ⟨g', cap', rfl, hle, (HF5.out.alloc _).grown hg (fun b hb => .inr (HOa.out.lt b hb).1), ho⟩
        clear hoa hf5 WIa
        go_wp2_with (at_builtin; refine wpList_append_own _ rfl _ _ 23 rfl w4.heap.size 9 i0 (.string ⟨#[]⟩) 1 16 Try.underlying23 hi0 hz0 hz1 hz2 rfl (by decide) _ _ _ rfl (howna.alloc _) ⟨w5.heap.size, 0, none⟩ 1 1 [S [111]] rfl rfl (cell_one_new _ _ _) (by simp [Value.oneCell']) (by unfold maxLen; omega) (by omega) (by simp; omega) ?_; intro v' w6 hown' hgrow _; obtain ⟨ga, capa, rfl, hlea, HNa⟩ := ARa.out v' w6 hown' hgrow; clear hown' hgrow)
        have HF6 := Lib.hid HNa.out.1
        have YX6 : Hid (SSl w6 (some ⟨g, 0, none⟩) ys) := sslFr YX4.out HF6.out (fun _ _ _ h => h)
        have hs6 : w4.heap.size ≤ w6.heap.size := HF6.out.size
        have WIb : Hid (Calls Try.prog 62 #[.slice (some ⟨g, 0, none⟩) k _, .slice none 0 0] w6 fun e w' => ∃ A' c', e = .returned (.slice A' k c') ∧ w'.ownsRow w6.heap.size 9 1 (.slice A' k c') k ((ys).map S) ∧ Fr No w6 w') := (by have h := with0_any w6 g 0 ys cp YX6.out (by have := HYL.out; omega); rw [HYL.out] at h; exact h)
        go_wp2_with fail
        refine WIb.out.mono ?_
        rintro e w7 ⟨Ab, cb, rfl, hob, hf7⟩
        have HOb := Lib.hid hob
        have hownb := hob
        have HF7 := Lib.hid hf7
        have hs7 : w6.heap.size ≤ w7.heap.size := hf7.size
        have ARb : Hid (∀ (v' : Value) (V : World), V.ownsRow w6.heap.size 9 1 v' (k + 1) ((ys).map S ++ [S [97]]) → (w7.alloc (.cells #[S [97]] 9)).grownBy V (Value.slice Ab k cb).ownBlock → ∃ g' cap', v' = .slice (some ⟨g', 0, none⟩) (k + 1) cap' ∧ k + 1 ≤ cap' ∧ Hid (Fr No w6 V ∧ V.ownsRow w6.heap.size 9 1 (.slice (some ⟨g', 0, none⟩) (k + 1) cap') (k + 1) ((ys).map S ++ [S [97]]))) := by
          intro v' V ho hg
          obtain ⟨g', cap', rfl, hle⟩ : ∃ g' cap', v' = .slice (some ⟨g', 0, none⟩) (k + 1) cap' ∧ k + 1 ≤ cap' := by
            rcases ho.2 with ⟨_, hn⟩ | ⟨g', cap', cur, hv, _, _, h5, _⟩
            · omega
            · exact ⟨g', cap', hv, by omega⟩
          exact ⟨g', cap', rfl, hle, (HF7.out.alloc _).grown hg (fun b hb => .inr (HOb.out.lt b hb).1), ho⟩
        clear hob hf7 WIb
        go_wp2_with (at_builtin; refine wpList_append_own _ rfl _ _ 23 rfl w6.heap.size 9 i0 (.string ⟨#[]⟩) 1 16 Try.underlying23 hi0 hz0 hz1 hz2 rfl (by decide) _ _ _ rfl (hownb.alloc _) ⟨w7.heap.size, 0, none⟩ 1 1 [S [97]] rfl rfl (cell_one_new _ _ _) (by simp [Value.oneCell']) (by unfold maxLen; omega) (by omega) (by simp; omega) ?_; intro v' w8 hown' hgrow _; obtain ⟨gb, capb, rfl, hleb, HNb⟩ := ARb.out v' w8 hown' hgrow; clear hown' hgrow)
        have FINX : Hid (PtP r A n c p w (.returned (.tuple #[.slice (some ⟨ga, 0, none⟩) (k + 1) capa, .slice (some ⟨gb, 0, none⟩) (k + 1) capb])) w8) := by
          have hf := HNb.out.1
          have e1 : (ns ++ [[111]]).length = k + 1 := by simp [HNL.out]
          have e2 : (ys ++ [[97]]).length = k + 1 := by simp [HYL.out]
          refine FIN.out w8 ga gb capa capb (ns ++ [[111]]) (ys ++ [[97]]) (k + 1) (k + 1) e1.symm e2.symm (HF6.out.trans hf) (by omega) (by omega) hlea hleb ?_ ?_ ?_ ?_
          · intro x hx; rcases List.mem_append.1 hx with h | h; exact HN1.out x h; simp at h; subst h; simp
          · intro x hx; rcases List.mem_append.1 hx with h | h; exact HYS.out x h; simp at h; subst h; simp
          · refine sslFr (T := No) (SSl.of_own (c := capa) (B := w4.heap.size) ?_) hf (fun _ _ _ h => h)
            rw [e1, List.map_append]; exact HNa.out.2
          · refine SSl.of_own (c := capb) (B := w6.heap.size) ?_
            rw [e2, List.map_append]; exact HNb.out.2
        clear HNa HNb ARa ARb
        go_wp2_with fail
        refine bodyPost_ret (v := .tuple #[.slice (some ⟨ga, 0, none⟩) (k + 1) capa, .slice (some ⟨gb, 0, none⟩) (k + 1) capb]) (by simp [results, Try.results32, go_sem]) rfl ?_
        exact FINX.out
      have z1' : ((z : Int) == 1) = false := beq_eq_false_iff_ne.2 (by omega)
      by_cases hzz2 : z = 2
      · subst hzz2
        have WIb : Hid (Calls Try.prog 62 #[.slice (some ⟨g, 0, none⟩) k _, .slice none 0 0] w4 fun e w' => ∃ A' c', e = .returned (.slice A' k c') ∧ w'.ownsRow w4.heap.size 9 1 (.slice A' k c') k ((ys).map S) ∧ Fr No w4 w') := (by have h := with0_any w4 g 0 ys cp YX4.out (by have := HYL.out; omega); rw [HYL.out] at h; exact h)
        go_wp2_with fail
        refine WIb.out.mono ?_
        rintro e w5 ⟨Ab, cb, rfl, hob, hf5⟩
        have HOb := Lib.hid hob
        have hownb := hob
        have HF5 := Lib.hid hf5
        have hs5 : w4.heap.size ≤ w5.heap.size := hf5.size
        have ARb : Hid (∀ (v' : Value) (V : World), V.ownsRow w4.heap.size 9 1 v' (k + 1) ((ys).map S ++ [S [97]]) → (w5.alloc (.cells #[S [97]] 9)).grownBy V (Value.slice Ab k cb).ownBlock → ∃ g' cap', v' = .slice (some ⟨g', 0, none⟩) (k + 1) cap' ∧ k + 1 ≤ cap' ∧ Hid (Fr No w4 V ∧ V.ownsRow w4.heap.size 9 1 (.slice (some ⟨g', 0, none⟩) (k + 1) cap') (k + 1) ((ys).map S ++ [S [97]]))) := by
          intro v' V ho hg
          obtain ⟨g', cap', rfl, hle⟩ : ∃ g' cap', v' = .slice (some ⟨g', 0, none⟩) (k + 1) cap' ∧ k + 1 ≤ cap' := by
            rcases ho.2 with ⟨_, hn⟩ | ⟨g', cap', cur, hv, _, _, h5, _⟩
            · omega
            · exact ⟨g', cap', hv, by omega⟩
          exact ⟨g', cap', rfl, hle, (HF5.out.alloc _).grown hg (fun b hb => .inr (HOb.out.lt b hb).1), ho⟩
        clear hob hf5 WIb
        go_wp2_with (at_builtin; refine wpList_append_own _ rfl _ _ 23 rfl w4.heap.size 9 i0 (.string ⟨#[]⟩) 1 16 Try.underlying23 hi0 hz0 hz1 hz2 rfl (by decide) _ _ _ rfl (hownb.alloc _) ⟨w5.heap.size, 0, none⟩ 1 1 [S [97]] rfl rfl (cell_one_new _ _ _) (by simp [Value.oneCell']) (by unfold maxLen; omega) (by omega) (by simp; omega) ?_; intro v' w6 hown' hgrow _; obtain ⟨gb, capb, rfl, hleb, HNb⟩ := ARb.out v' w6 hown' hgrow; clear hown' hgrow)
        have FINX : Hid (PtP r A n c p w (.returned (.tuple #[.slice (some ⟨w.heap.size, 0, none⟩) k 3, .slice (some ⟨gb, 0, none⟩) (k + 1) capb])) w6) := by
          have hf := HNb.out.1
          have e2 : (ys ++ [[97]]).length = k + 1 := by simp [HYL.out]
          refine FIN.out w6 w.heap.size gb 3 capb ns (ys ++ [[97]]) k (k + 1) HNL.out.symm e2.symm hf (by omega) (by omega) hk3 hleb HN1.out ?_ ?_ ?_
          · intro x hx; rcases List.mem_append.1 hx with h | h; exact HYS.out x h; simp at h; subst h; simp
          · exact sslFr (T := No) NX4.out hf (fun _ _ _ h => h)
          · refine SSl.of_own (c := capb) (B := w4.heap.size) ?_
            rw [e2, List.map_append]; exact HNb.out.2
        clear HNb ARb
        go_wp2_with fail
        refine bodyPost_ret (v := .tuple #[.slice (some ⟨w.heap.size, 0, none⟩) k 3, .slice (some ⟨gb, 0, none⟩) (k + 1) capb]) (by simp [results, Try.results32, go_sem]) rfl ?_
        exact FINX.out
      have z2' : ((z : Int) == 2) = false := beq_eq_false_iff_ne.2 (by omega)
      have FINX : Hid (PtP r A n c p w (.returned (.tuple #[.slice (some ⟨w.heap.size, 0, none⟩) k 3, .slice (some ⟨g, 0, none⟩) k cp])) w4) :=
        FIN.out w4 w.heap.size g 3 cp ns ys k k HNL.out.symm HYL.out.symm (Fr.refl _ _) (by omega) (by omega) hk3 hjc HN1.out HYS.out NX4.out YX4.out
      go_wp2_with fail
      refine bodyPost_ret (v := .tuple #[.slice (some ⟨w.heap.size, 0, none⟩) k 3, .slice (some ⟨g, 0, none⟩) k cp]) (by simp [results, Try.results32, go_sem]) rfl ?_
      exact FINX.out
end Go.Proofs.Ytngbpcphkfmncaa
