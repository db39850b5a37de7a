/- The numbers of a bit set: the iterator. -/
import Derived.Test.YtloecimlimoanaaGreatDoorRf
import Derived.Test.YtloecimlimoanaaGreatDoorRdr
import Derived.Lib.LaidTab
namespace Go.Proofs.YtloecimlimoanaaGreatDoor
open Go.RowKit Go.ChangeMaps Go.Shelf

attribute [local go_sem] Oper.semAt_some

/-- the library's table of trailing zeros is there -/
def TZt (w : World) : Prop := 0 < w.heap.size ∧ TabAt 0 Lib.deBruijn64tab w

theorem tz_of {w : World} (h : Lib.TabIs Tryz.prog w "math/bits.deBruijn64tab" .u8 (Lib.deBruijn64tab.map Int.ofNat)) (hg : Tryz.prog.globalNamed "math/bits.deBruijn64tab" = some 0) : TZt w := by
  have hc : ∀ j, j < Lib.deBruijn64tab.length → w.cell? ⟨0, j, none⟩ = some (.int .u8 (Lib.deBruijn64tab.getD j 0)) := fun j hj => by
    rw [h.cell hg j (by simpa using hj), List.getD_eq_getElem?_getD, List.getElem?_map, List.getD_eq_getElem?_getD, List.getElem?_eq_getElem hj]
    rfl
  exact ⟨block_lt (hc 0 (by decide)), hc⟩

theorem TZt.fr {w w' : World} {S : Nat → Prop} (h : TZt w) (hf : Fr S w w') (hS : ¬ S 0) : TZt w' :=
  ⟨Nat.lt_of_lt_of_le h.1 hf.size, fun j hj => (hf.cell (p := ⟨0, j, none⟩) h.1 hS).trans (h.2 j hj)⟩

theorem ctz_any (w : World) (x : Nat) (hx : x < 18446744073709551616) (hT : TZt w) :
    Calls Tryz.prog 52 #[.int .u64 x] w fun e w' => e = .returned (.int .i64 (Lib.ctz 64 x)) ∧ w' = w := Tryz.bits_TrailingZeros64 x hx w (fun _ => hT.2)

set_option maxRecDepth 100000 in
set_option maxHeartbeats 4000000 in
theorem numbers_in (F : Fence) (n : Nat) (hfn : ∀ f, F.fn f) (hro : F.round = none) (hC : ∀ (m f : Nat) (args : Array Value) (w : World) (R : Ending → World → Prop), Calls Tryz.prog f args w R → CallsIn F m Tryz.prog f args w R) (hn : 2 ≤ n) (l g : Nat) (S : Nat → Prop) (ws : List Nat) (N : Nat) (J : List Nat → World → Prop)
    (hJ : ∀ (pre : List Nat) (x : Nat) (W : World), (∃ post, pre ++ x :: post = bitsFrom 0 ws) → J pre W → YieldAt F (n - 1) Tryz.prog l #[.int .i64 x] W fun e W' => e = .returned (.bool true) ∧ J (pre ++ [x]) W' ∧ Fr S W W')
    (w : World) (hlen : ws.length = nw N) (hN : N ≤ 100000) (hlt : ∀ x ∈ ws, x < 18446744073709551616) (h0 : J [] w) (hb : Blk w g 63 (WV ws)) (hT : TZt w) (hSg : ¬ S g) (hST : ¬ S 0) :
    CallsIn F n Tryz.prog 30 #[.slice (some ⟨g, 0, none⟩) (nw N) (nw N), .func (.yield l) #[] #[]] w fun e W' => (∃ v, e = .returned v) ∧ J (bitsFrom 0 ws) W' := by
  have HJ := Lib.hid hJ
  have HC := Lib.hid hC
  have CELLS : Hid (∀ W, Fr S w W → Blk W g 63 (WV ws) ∧ TZt W) := fun W hf => ⟨hb.fr hf hSg, hT.fr hf hST⟩
  have H0 := Lib.hid h0
  have hnw : nw N ≤ 2000 := by unfold nw; omega
  have hnwI : ((nw N : Nat) : Int) ≤ 2000 := by omega
  have HLEN := Lib.hid hlen
  have HLT := Lib.hid hlt
  clear hJ h0 hb hT hSg hST hC hlen hlt
  refine callsIn_of_wp Tryz.func30 rfl (hfn _) ?_ hro
  simp only [Tryz.ntmps30, List.size_toArray, List.length_cons, List.length_nil, Nat.reduceAdd, Nat.reduceSub, Array.replicate_succ, Array.replicate_zero, List.push_toArray, List.append_toArray, List.nil_append, List.cons_append]
  gi_wp2_with fail
  gi_loopg [8] (nw N) (fun gk u W => ∃ (p : Nat) (pre : List Nat), p + gk = nw N ∧ u = .int .i64 p ∧ pre ++ bitsFrom p (ws.drop p) = bitsFrom 0 ws ∧ J pre W ∧ Fr S w W)
  case atStart => exact ⟨0, [], by omega, rfl, by simp, H0.out, Fr.refl _ _⟩
  case round =>
    obtain ⟨p, pre, hp, rfl, hpre, hj, hfr⟩ := hrel
    have HPRE := Lib.hid hpre
    have HJP := Lib.hid hj
    have HFR := Lib.hid hfr
    obtain ⟨hb, _⟩ := CELLS.out wr hfr
    clear hpre hj hfr
    by_cases hpl : p < nw N
    · have hpw : p < ws.length := by rw [HLEN.out]; exact hpl
      have hc : wr.cell? ⟨g, p, none⟩ = some (.int .u64 (ws.getD p 0 : Nat)) := (hb.cell _).trans (WV_at hpw)
      have hx := getD_lt HLT.out p
      have HDROP : Hid (ws.drop p = ws.getD p 0 :: ws.drop (p + 1)) := by
        show _ = _
        rw [List.drop_eq_getElem_cons hpw, List.getD_eq_getElem?_getD, List.getElem?_eq_getElem hpw]; rfl
      generalize ws.getD p 0 = x0 at hc hx HDROP
      have hpI : (p : Int) < (nw N : Int) := by omega
      clear hb
      gi_wp2_with fail
      have HPL := Lib.hid hp
      gi_loopg [5] x0 (fun gx v W => ∃ (pre : List Nat), v = .int .u64 (gx : Nat) ∧ gx < 18446744073709551616 ∧ pre ++ ((wb gx).map (p * 64 + ·) ++ bitsFrom (p + 1) (ws.drop (p + 1))) = bitsFrom 0 ws ∧ J pre W ∧ Fr S w W)
      case atStart =>
        refine ⟨pre, rfl, hx, ?_, HJP.out, HFR.out⟩
        rw [← HPRE.out, HDROP.out]
        rfl
      case round =>
        obtain ⟨pre2, rfl, hx2, hpre2, hj2, hfr2⟩ := hrel
        have HPRE2 := Lib.hid hpre2
        have HJ2 := Lib.hid hj2
        have HFR2 := Lib.hid hfr2
        clear hpre2 hj2 hfr2 hc HJP HFR HPRE
        by_cases h0x : gk = 0
        · have hd : ((gk : Int) != 0) = false := by rw [h0x]; rfl
          have HEND : Hid (pre2 ++ bitsFrom (p + 1) (ws.drop (p + 1)) = bitsFrom 0 ws) := by
            have h := HPRE2.out
            rw [h0x, wb_zero] at h
            exact h
          have hp2 := HPL.out
          clear h0x HPRE2
          gi_wp2_with fail
          go_roundg (nw N - (p + 1))
          case measure => omega
          case rel => exact ⟨p + 1, pre2, by omega, by go_num, HEND.out, HJ2.out, HFR2.out⟩
        · have hd : ((gk : Int) != 0) = true := by simpa using h0x
          obtain ⟨hwb, hcz⟩ := wb_ctz h0x hx2
          have CT : Hid (∀ m, CallsIn F m Tryz.prog 52 #[.int .u64 gk] wr fun e w' => e = .returned (.int .i64 (Lib.ctz 64 gk)) ∧ w' = wr) := fun m => HC.out m _ _ _ _ (ctz_any wr gk hx2 (CELLS.out wr HFR2.out).2)
          have HWB := Lib.hid hwb
          clear hwb
          generalize Lib.ctz 64 gk = z at *
          have HEX : Hid (∃ post, pre2 ++ (p * 64 + z) :: post = bitsFrom 0 ws) := ⟨(wb (gk &&& (gk - 1))).map (p * 64 + ·) ++ bitsFrom (p + 1) (ws.drop (p + 1)), by
            have h := HPRE2.out
            rw [HWB.out] at h
            exact h⟩
          obtain ⟨fn, tmps, assign, body, hy, hR⟩ := HJ.out pre2 (p * 64 + z) wr HEX.out HJ2.out
          have hcast : (((p * 64 + z : Nat)) : Int) = (p : Int) * 64 + (z : Int) := by omega
          rw [hcast] at hy
          have HNX : Hid ((pre2 ++ [p * 64 + z]) ++ ((wb (gk &&& (gk - 1))).map (p * 64 + ·) ++ bitsFrom (p + 1) (ws.drop (p + 1))) = bitsFrom 0 ws) := by
            have h := HPRE2.out
            rw [HWB.out] at h
            rw [List.append_assoc]
            exact h
          have hs1 : IntKind.u64.wrap ((gk : Int) - 1) = ((gk - 1 : Nat) : Int) := by rw [IntKind.wrap_u64]; omega
          have hs2 : bits BinOp.and IntKind.u64 (gk : Int) ((gk - 1 : Nat) : Int) = ((gk &&& (gk - 1) : Nat) : Int) := bits_and_u64_nat gk (gk - 1) hx2 (by omega)
          have hs3 : gk &&& (gk - 1) < gk := and_pred_lt h0x
          have hpn : (p : Int) ≤ 2000 := by omega
          have hzI : (z : Int) < 64 := by omega
          have hn' : 1 ≤ n := by omega
          clear HWB HEX HPRE2 hcast
          gi_wp2_with (gi_at_call 52; refine (CT.out _).mono ?_; rintro e w' ⟨rfl, rfl⟩)
          refine hR.mono ?_
          rintro e W3 ⟨rfl, h3, hk3⟩
          have HF3 := Lib.hid (HFR2.out.trans hk3)
          have HJ3 := Lib.hid h3
          clear h3 hk3 hy hR HJ2
          gi_wp2_with fail
          go_roundg (gk &&& (gk - 1))
          case measure => exact hs3
          case rel => exact ⟨_, by rw [← hs2, ← hs1], by omega, HNX.out, HJ3.out, HF3.out⟩
    · have hpe : p = nw N := by omega
      have HE : Hid (J (bitsFrom 0 ws) wr) := by
        have h := HPRE.out
        rw [hpe, List.drop_eq_nil_of_le (by rw [HLEN.out]; exact Nat.le_refl _)] at h
        have h2 := HJP.out
        rw [show pre = bitsFrom 0 ws by rw [← h]; simp [bitsFrom]] at h2
        exact h2
      have hnlt : ¬ (p : Int) < (nw N : Int) := by omega
      clear hb
      gi_wp2_with fail
      go_end0
      exact ⟨⟨_, rfl⟩, HE.out⟩
end Go.Proofs.YtloecimlimoanaaGreatDoor
