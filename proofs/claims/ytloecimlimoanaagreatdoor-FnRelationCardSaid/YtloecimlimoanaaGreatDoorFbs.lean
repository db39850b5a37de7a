/- Bit sets: full ones; what two have in common; one united with another, shifted. -/
import Derived.Test.YtloecimlimoanaaGreatDoorRdr
namespace Go.Proofs.YtloecimlimoanaaGreatDoor
open Go.RowKit Go.ChangeMaps

/-- a set in new memory -/
def NewBits (n : Nat) (P : Nat → Bool) (w : World) (e : Ending) (w' : World) : Prop :=
  ∃ g ws, e = .returned (.slice (some ⟨g, 0, none⟩) (nw n) (nw n)) ∧ w.heap.size ≤ g ∧ Fr No w w' ∧ Blk w' g 63 (WV ws) ∧ BitsIs ws n P

set_option maxRecDepth 100000 in
set_option maxHeartbeats 1000000 in
theorem fullBitSet_any (w : World) (n : Nat) (h1 : 1 ≤ n) (h2 : n ≤ 100000) :
    Calls Tryz.prog 75 #[.int .i64 n] w fun e w' => NewBits n (fun _ => true) w e w' := by
  have hnI : (n : Int) ≤ 100000 := by omega
  go_enter Tryz.func75, Tryz.ntmps75
  go_wp2_with fail
  refine (newBitSet_any w n h1 h2).mono ?_
  rintro e w1 ⟨rfl, hf, hb⟩
  have HF := Lib.hid hf
  have HB := Lib.hid hb
  clear hf hb
  go_wp2_with fail
  go_loopw [8] (fun u wr => ∃ (j : Nat) (ws : List Nat), j ≤ n ∧ u = .int .i64 j ∧ Fr No w wr ∧ Blk wr w.heap.size 63 (WV ws) ∧ BitsIs ws n (fun k => decide (k < j))) (fun u _ => n - (intOf u).toNat)
  case atStart => exact ⟨0, _, Nat.zero_le _, rfl, HF.out, HB.out, (BitsIs.new n).congr (fun k _ => by simp)⟩
  case round =>
    obtain ⟨j, ws, hj, rfl, hfr, hbk, hbits⟩ := hrel
    by_cases hlt : j < n
    · have ADD := Lib.hid (bsAdd_any wr w.heap.size ws n j _ hbk hbits hlt h2)
      have HFR := Lib.hid hfr
      clear hfr hbk hbits HF HB
      go_wp2_with fail
      refine ADD.out.mono ?_
      rintro e w2 ⟨rfl, hfa, ws2, hb2, hbits2⟩
      have HF2 : Hid (Fr No w w2) := HFR.out.then_ hfa (fun i hi h => by have h : i = w.heap.size := h; omega)
      have HB2 := Lib.hid hb2
      have HBI : Hid (BitsIs ws2 n (fun k => decide (k < j + 1))) := hbits2.congr (fun k _ => by
        rw [← Bool.decide_or]
        exact decide_eq_decide.2 (by omega))
      clear hfa hb2 hbits2
      go_wp2_with fail
      go_roundw
      case rel => exact ⟨j + 1, ws2, by omega, by go_num, HF2.out, HB2.out, HBI.out⟩
      case measure => simp [intOf]; omega
    · have hjn : j = n := by omega
      have HE : Hid (NewBits n (fun _ => true) w (.returned (.slice (some ⟨w.heap.size, 0, none⟩) (nw n) (nw n))) wr) := ⟨_, ws, rfl, Nat.le_refl _, hfr, hbk, hbits.congr (fun k hk => by rw [hjn]; simpa using hk)⟩
      clear hfr hbk hbits hjn
      go_wp2_with fail
      go_ret
      exact HE.out

set_option maxRecDepth 100000 in
set_option maxHeartbeats 4000000 in
theorem intersect_any (w : World) (g g2 : Nat) (ws os : List Nat) (n : Nat) (P Q : Nat → Bool) (hb : Blk w g 63 (WV ws)) (hb2 : Blk w g2 63 (WV os)) (hne : g ≠ g2) (h : BitsIs ws n P) (h2 : BitsIs os n Q) (hn : n ≤ 100000) :
    Calls Tryz.prog 76 #[.slice (some ⟨g, 0, none⟩) (nw n) (nw n), .slice (some ⟨g2, 0, none⟩) (nw n) (nw n)] w fun e w' => e = .returned (.tuple #[]) ∧ AddP g n (fun j => P j && Q j) w w' := by
  have hl1 := h.len
  have hl2 := h2.len
  have hnw : nw n ≤ 2000 := by unfold nw; omega
  have hnwI : ((nw n : Nat) : Int) ≤ 2000 := by omega
  have HB := Lib.hid hb
  have HB2 := Lib.hid hb2
  have HH := Lib.hid h
  have HH2 := Lib.hid h2
  clear hb hb2 h h2
  go_enter Tryz.func76, Tryz.ntmps76
  go_wp2_with fail
  go_loopw [8] (fun u wr => ∃ (p : Nat) (s : List Nat), p ≤ nw n ∧ u = .int .i64 p ∧ Fr (One g) w wr ∧ Blk wr g 63 (WV s) ∧ Itc os ws p s) (fun u _ => nw n - (intOf u).toNat)
  case atStart => exact ⟨0, ws, Nat.zero_le _, rfl, Fr.refl _ _, HB.out, Itc.start HH.out.lt⟩
  case round =>
    obtain ⟨p, s, hp, rfl, hfr, hbs, hitc⟩ := hrel
    have HF := Lib.hid hfr
    have HBS := Lib.hid hbs
    have HU := Lib.hid hitc
    by_cases hlt : p < nw n
    · have hpI : (p : Int) < ((nw n : Nat) : Int) := by omega
      have hps : p < s.length := by rw [hitc.len]; omega
      have c1 : wr.cell? ⟨g2, p, none⟩ = some (.int .u64 (os.getD p 0 : Nat)) := ((HB2.out.fr hfr (fun e => hne (show g2 = g from e).symm)).cell p).trans (WV_at (by omega))
      have c2 : wr.cell? ⟨g, p, none⟩ = some (.int .u64 (s.getD p 0 : Nat)) := (hbs.cell p).trans (WV_at hps)
      have f2 : wr.frozen? ⟨g, p, none⟩ = false := hbs.frozen p
      have hx := getD_lt HH2.out.lt p
      have hy := getD_lt hitc.lt p
      have hand : bits BinOp.and IntKind.u64 (s.getD p 0 : Int) (os.getD p 0 : Int) = ((s.getD p 0 &&& os.getD p 0 : Nat) : Int) := bits_and_u64_nat _ _ hy hx
      have N : Fr (One g) w (wr.setCell ⟨g, p, none⟩ (.int .u64 ((s.getD p 0 &&& os.getD p 0 : Nat) : Int))) ∧ Blk (wr.setCell ⟨g, p, none⟩ (.int .u64 ((s.getD p 0 &&& os.getD p 0 : Nat) : Int))) g 63 (WV (s.set p (s.getD p 0 &&& os.getD p 0))) ∧ Itc os ws (p + 1) (s.set p (s.getD p 0 &&& os.getD p 0)) :=
        ⟨hfr.setCell (p := ⟨g, p, none⟩) (.inl rfl) _, by rw [← WV_set]; exact hbs.set_ _ _, hitc.step hps⟩
      rw [← hand] at N
      have HN := Lib.hid N
      clear N hand
      generalize os.getD p 0 = x at c1 hx HN
      generalize s.getD p 0 = y at c2 hy HN
      clear hfr hbs hitc
      go_wp2_with fail
      go_roundw
      case rel => exact ⟨p + 1, _, by omega, by go_num, HN.out.1, HN.out.2.1, HN.out.2.2⟩
      case measure => simp [intOf]; omega
    · have hpn : p = nw n := by omega
      have HE : Hid (AddP g n (fun j => P j && Q j) w wr) := by
        refine ⟨hfr, s, hbs, ?_⟩
        have h := hitc
        rw [hpn, ← hl2] at h
        exact h.done HH.out HH2.out
      have hnlt : ¬ (p : Int) < ((nw n : Nat) : Int) := by omega
      clear hfr hbs hitc hpn
      go_wp2_with fail
      go_end0
      exact ⟨rfl, HE.out⟩

set_option maxRecDepth 100000 in
set_option maxHeartbeats 4000000 in
theorem unite_any (w : World) (g g2 : Nat) (ws os : List Nat) (n m sh : Nat) (P Q : Nat → Bool) (hb : Blk w g 63 (WV ws)) (hb2 : Blk w g2 63 (WV os)) (hne : g ≠ g2) (h : BitsIs ws n P) (h2 : BitsIs os m Q) (hr : sh + m ≤ n) (hn : n ≤ 100000) :
    Calls Tryz.prog 73 #[.slice (some ⟨g, 0, none⟩) (nw n) (nw n), .slice (some ⟨g2, 0, none⟩) (nw m) (nw m), .int .i64 sh] w fun e w' => e = .returned (.tuple #[]) ∧ AddP g n (fun j => P j || (decide (sh ≤ j) && decide (j - sh < m) && Q (j - sh))) w w' := by
  have hl1 := h.len
  have hl2 := h2.len
  have hnw : nw n ≤ 2000 := by unfold nw; omega
  have hnwm : nw m ≤ 2000 := by unfold nw; omega
  have hnwI : ((nw n : Nat) : Int) ≤ 2000 := by omega
  have hnwmI : ((nw m : Nat) : Int) ≤ 2000 := by omega
  have hshI : (sh : Int) ≤ 100000 := by omega
  have HB := Lib.hid hb
  have HB2 := Lib.hid hb2
  have HH := Lib.hid h
  have HH2 := Lib.hid h2
  have ROOM := Lib.hid (h.room h2 hr)
  have HL1 := Lib.hid hl1
  have HL2 := Lib.hid hl2
  have HR := Lib.hid hr
  clear hb hb2 h h2 hl1 hl2 hr
  go_enter Tryz.func73, Tryz.ntmps73
  go_wp2_with fail
  go_loopw [12] (fun u wr => ∃ (p : Nat) (s : List Nat), p ≤ nw m ∧ u = .int .i64 p ∧ Fr (One g) w wr ∧ Blk wr g 63 (WV s) ∧ Uni os ws sh p s) (fun u _ => nw m - (intOf u).toNat)
  case atStart => exact ⟨0, ws, Nat.zero_le _, rfl, Fr.refl _ _, HB.out, Uni.start HH.out.lt⟩
  case round =>
    obtain ⟨p, s, hp, rfl, hfr, hbs, huni⟩ := hrel
    have HF := Lib.hid hfr
    have HBS := Lib.hid hbs
    have HU := Lib.hid huni
    by_cases hlt : p < nw m
    · have hpI : (p : Int) < ((nw m : Nat) : Int) := by omega
      have c1 : wr.cell? ⟨g2, p, none⟩ = some (.int .u64 (os.getD p 0 : Nat)) := ((HB2.out.fr hfr (fun e => hne (show g2 = g from e).symm)).cell p).trans (WV_at (by have := HL2.out; omega))
      have hx := getD_lt HH2.out.lt p
      obtain ⟨hr1, hr2⟩ := huni.room HH2.out.lt ROOM.out
      have hslen : s.length = nw n := by rw [huni.len]; exact HL1.out
      have STEP := Lib.hid (fun s1 s2 h1 h2 => huni.step (s1 := s1) (s2 := s2) HH2.out.lt h1 h2 hr1 hr2)
      have HSL := Lib.hid hslen
      rw [hslen] at hr1 hr2
      generalize os.getD p 0 = x at c1 hx hr1 hr2 STEP
      have hlow : IntKind.u64.wrap ((x : Int) * 2 ^ (sh % 64)) = ((x * 2 ^ (sh % 64) % 18446744073709551616 : Nat) : Int) := by
        rw [show ((x : Int) * 2 ^ (sh % 64)) = ((x * 2 ^ (sh % 64) : Nat) : Int) by rw [Int.natCast_mul, Int.natCast_pow]; rfl, IntKind.wrap_u64]
        omega
      have hlowlt : x * 2 ^ (sh % 64) % 18446744073709551616 < 18446744073709551616 := Nat.mod_lt _ (by decide)
      have hhigh : (x : Int) / 2 ^ (64 - sh % 64) = ((x / 2 ^ (64 - sh % 64) : Nat) : Int) := by rw [Int.natCast_ediv, Int.natCast_pow]; rfl
      have hhighlt : x / 2 ^ (64 - sh % 64) < 18446744073709551616 := Nat.lt_of_le_of_lt (Nat.div_le_self _ _) hx
      have LOW := Lib.hid hlow
      have HIGH := Lib.hid hhigh
      generalize hlo : x * 2 ^ (sh % 64) % 18446744073709551616 = lo at *
      generalize hhi : x / 2 ^ (64 - sh % 64) = hi at *
      have HS := Lib.hid huni.lt
      clear hlo hhi hfr hbs huni
      obtain ⟨q, hq⟩ : ∃ q, q = p + sh / 64 := ⟨_, rfl⟩
      have hqI : (p : Int) + (sh : Int) / 64 = (q : Int) := by omega
      have hqb : (q : Int) ≤ 200000 := by omega
      rw [← hq] at hr1 hr2
      rw [← hq] at STEP
      have hpI2 : (p : Int) ≤ 2000 := by omega
      clear hq hslen HU
      by_cases hlo : lo = 0
      · subst hlo
        by_cases hhi : hi = 0
        · subst hhi
          have HN : Hid (Uni os ws sh (p + 1) s) := STEP.out s s (by rw [if_pos rfl]) (by rw [if_pos rfl])
          clear STEP
          go_wp2_with fail
          go_roundw
          case rel => exact ⟨p + 1, s, by omega, by go_num, HF.out, HBS.out, HN.out⟩
          case measure => simp [intOf]; omega
        · have hq1 := hr2 hhi
          have hq1I : (q : Int) + 1 < ((nw n : Nat) : Int) := by omega
          have c2 : wr.cell? ⟨g, q + 1, none⟩ = some (.int .u64 (s.getD (q + 1) 0 : Nat)) := (HBS.out.cell (q + 1)).trans (WV_at (by rw [HSL.out]; exact hq1))
          have f2 : wr.frozen? ⟨g, q + 1, none⟩ = false := HBS.out.frozen (q + 1)
          have hy := getD_lt HS.out (q + 1)
          have hor : bits BinOp.or IntKind.u64 (s.getD (q + 1) 0 : Int) (hi : Int) = ((s.getD (q + 1) 0 ||| hi : Nat) : Int) := bits_or_u64_nat _ _ hy hhighlt
          have N : Fr (One g) w (wr.setCell ⟨g, q + 1, none⟩ (.int .u64 ((s.getD (q + 1) 0 ||| hi : Nat) : Int))) ∧ Blk (wr.setCell ⟨g, q + 1, none⟩ (.int .u64 ((s.getD (q + 1) 0 ||| hi : Nat) : Int))) g 63 (WV (s.set (q + 1) (s.getD (q + 1) 0 ||| hi))) ∧ Uni os ws sh (p + 1) (s.set (q + 1) (s.getD (q + 1) 0 ||| hi)) :=
            ⟨HF.out.setCell (p := ⟨g, q + 1, none⟩) (.inl rfl) _, by rw [← WV_set]; exact HBS.out.set_ _ _, STEP.out s _ (by rw [if_pos rfl]) (by rw [if_neg hhi])⟩
          rw [← hor] at N
          have HN := Lib.hid N
          clear N hor STEP hr1 hr2
          generalize s.getD (q + 1) 0 = y at c2 hy HN
          go_wp2_with fail
          go_roundw
          case rel => exact ⟨p + 1, _, by omega, by go_num, HN.out.1, HN.out.2.1, HN.out.2.2⟩
          case measure => simp [intOf]; omega
      · have hq0 := hr1 hlo
        have hq0I : (q : Int) < ((nw n : Nat) : Int) := by omega
        have c2 : wr.cell? ⟨g, q, none⟩ = some (.int .u64 (s.getD q 0 : Nat)) := (HBS.out.cell q).trans (WV_at (by rw [HSL.out]; exact hq0))
        have f2 : wr.frozen? ⟨g, q, none⟩ = false := HBS.out.frozen q
        have hy := getD_lt HS.out q
        have hor : bits BinOp.or IntKind.u64 (s.getD q 0 : Int) (lo : Int) = ((s.getD q 0 ||| lo : Nat) : Int) := bits_or_u64_nat _ _ hy hlowlt
        have M1 : Fr (One g) w (wr.setCell ⟨g, q, none⟩ (.int .u64 ((s.getD q 0 ||| lo : Nat) : Int))) ∧ Blk (wr.setCell ⟨g, q, none⟩ (.int .u64 ((s.getD q 0 ||| lo : Nat) : Int))) g 63 (WV (s.set q (s.getD q 0 ||| lo))) :=
          ⟨HF.out.setCell (p := ⟨g, q, none⟩) (.inl rfl) _, by rw [← WV_set]; exact HBS.out.set_ _ _⟩
        by_cases hhi : hi = 0
        · subst hhi
          have N := And.intro M1 (STEP.out (s.set q (s.getD q 0 ||| lo)) _ (by rw [if_neg hlo]) (by rw [if_pos rfl]))
          rw [← hor] at N
          have HN := Lib.hid N
          clear N hor STEP hr1 hr2 M1
          generalize s.getD q 0 = y at c2 hy HN
          go_wp2_with fail
          go_roundw
          case rel => exact ⟨p + 1, _, by omega, by go_num, HN.out.1.1, HN.out.1.2, HN.out.2⟩
          case measure => simp [intOf]; omega
        · have hq1 := hr2 hhi
          have hq1I : (q : Int) + 1 < ((nw n : Nat) : Int) := by omega
          have hlen2 : q + 1 < (s.set q (s.getD q 0 ||| lo)).length := by rw [List.length_set, HSL.out]; exact hq1
          have c3 : (wr.setCell ⟨g, q, none⟩ (.int .u64 ((s.getD q 0 ||| lo : Nat) : Int))).cell? ⟨g, q + 1, none⟩ = some (.int .u64 ((s.set q (s.getD q 0 ||| lo)).getD (q + 1) 0 : Nat)) := (M1.2.cell (q + 1)).trans (WV_at hlen2)
          have f3 : (wr.setCell ⟨g, q, none⟩ (.int .u64 ((s.getD q 0 ||| lo : Nat) : Int))).frozen? ⟨g, q + 1, none⟩ = false := M1.2.frozen (q + 1)
          have hsame : (s.set q (s.getD q 0 ||| lo)).getD (q + 1) 0 = s.getD (q + 1) 0 := by rw [getD_set (by rw [HSL.out]; exact hq0), if_neg (by omega)]
          have c4 : wr.cell? ⟨g, q + 1, none⟩ = some (.int .u64 (s.getD (q + 1) 0 : Nat)) := (HBS.out.cell (q + 1)).trans (WV_at (by rw [HSL.out]; exact hq1))
          rw [hsame] at c3
          have hy2 := getD_lt HS.out (q + 1)
          have hor2 : bits BinOp.or IntKind.u64 (s.getD (q + 1) 0 : Int) (hi : Int) = ((s.getD (q + 1) 0 ||| hi : Nat) : Int) := bits_or_u64_nat _ _ hy2 hhighlt
          have N : Fr (One g) w ((wr.setCell ⟨g, q, none⟩ (.int .u64 ((s.getD q 0 ||| lo : Nat) : Int))).setCell ⟨g, q + 1, none⟩ (.int .u64 ((s.getD (q + 1) 0 ||| hi : Nat) : Int))) ∧ Blk ((wr.setCell ⟨g, q, none⟩ (.int .u64 ((s.getD q 0 ||| lo : Nat) : Int))).setCell ⟨g, q + 1, none⟩ (.int .u64 ((s.getD (q + 1) 0 ||| hi : Nat) : Int))) g 63 (WV ((s.set q (s.getD q 0 ||| lo)).set (q + 1) (s.getD (q + 1) 0 ||| hi))) ∧ Uni os ws sh (p + 1) ((s.set q (s.getD q 0 ||| lo)).set (q + 1) (s.getD (q + 1) 0 ||| hi)) :=
            ⟨M1.1.setCell (p := ⟨g, q + 1, none⟩) (.inl rfl) _, by rw [← WV_set]; exact M1.2.set_ _ _, STEP.out (s.set q (s.getD q 0 ||| lo)) _ (by rw [if_neg hlo]) (by rw [if_neg hhi, hsame])⟩
          rw [← hor, ← hor2] at N
          rw [← hor] at c3 f3
          have HN := Lib.hid N
          clear N hor hor2 STEP hr1 hr2 M1 hlen2 hsame
          generalize s.getD q 0 = y at *
          generalize s.getD (q + 1) 0 = y2 at *
          go_wp2_with fail
          go_roundw
          case rel => exact ⟨p + 1, _, by omega, by go_num, HN.out.1, HN.out.2.1, HN.out.2.2⟩
          case measure => simp [intOf]; omega
    · have hpn : p = nw m := by omega
      have HE : Hid (AddP g n (fun j => P j || (decide (sh ≤ j) && decide (j - sh < m) && Q (j - sh))) w wr) := by
        refine ⟨hfr, s, hbs, ?_⟩
        have h := huni
        rw [hpn, ← HL2.out] at h
        exact h.done HH.out HH2.out HR.out
      have hnlt : ¬ (p : Int) < ((nw m : Nat) : Int) := by omega
      clear hfr hbs huni hpn
      go_wp2_with fail
      go_end0
      exact ⟨rfl, HE.out⟩
end Go.Proofs.YtloecimlimoanaaGreatDoor
