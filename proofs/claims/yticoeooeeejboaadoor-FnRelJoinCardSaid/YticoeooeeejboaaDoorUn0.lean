/- A bit set united with another, not shifted. -/
import Derived.Test.YticoeooeeejboaaDoorReq
namespace Go.Proofs.YticoeooeeejboaaDoor
open Go.RowKit Go.ChangeMaps

set_option maxRecDepth 100000 in
set_option maxHeartbeats 4000000 in
theorem unite0_any (w : World) (g g2 : Nat) (ws os : List Nat) (n : Nat) (P Q : Nat → Bool) (hb : Blk w g 68 (WV ws)) (hb2 : Blk w g2 68 (WV os)) (hne : g ≠ g2) (h : BitsIs ws n P) (h2 : BitsIs os n Q) (hn : n ≤ 100000) :
    Calls Tryd.prog 42 #[.slice (some ⟨g, 0, none⟩) (nw n) (nw n), .slice (some ⟨g2, 0, none⟩) (nw n) (nw n), .int .i64 0] w fun e w' => e = .returned (.tuple #[]) ∧ AddP g n (fun j => P j || Q j) w w' := by
  have hl1 := h.len
  have hl2 := h2.len
  have hnw : nw n ≤ 2000 := by unfold nw; omega
  have hnwI : ((nw n : Nat) : Int) ≤ 2000 := by omega
  have HB := Lib.hid hb
  have HB2 := Lib.hid hb2
  have HH := Lib.hid h
  have HH2 := Lib.hid h2
  clear hb hb2 h h2
  go_enter Tryd.func42, Tryd.ntmps42
  go_wp2_with fail
  go_loopw [12] (fun u wr => ∃ (p : Nat) (s : List Nat), p ≤ nw n ∧ u = .int .i64 p ∧ Fr (One g) w wr ∧ Blk wr g 68 (WV s) ∧ Uni os ws 0 p s) (fun u _ => nw n - (intOf u).toNat)
  case atStart => exact ⟨0, ws, Nat.zero_le _, rfl, Fr.refl _ _, HB.out, Uni.start HH.out.lt⟩
  case round =>
    obtain ⟨p, s, hp, rfl, hfr, hbs, huni⟩ := hrel
    have HF := Lib.hid hfr
    have HBS := Lib.hid hbs
    have HU := Lib.hid huni
    by_cases hlt : p < nw n
    · have hpI : (p : Int) < ((nw n : Nat) : Int) := by omega
      have hps : p < s.length := by rw [huni.len]; omega
      have c1 : wr.cell? ⟨g2, p, none⟩ = some (.int .u64 (os.getD p 0 : Nat)) := ((HB2.out.fr hfr (fun e => hne (show g2 = g from e).symm)).cell p).trans (WV_at (by omega))
      have c2 : wr.cell? ⟨g, p, none⟩ = some (.int .u64 (s.getD p 0 : Nat)) := (hbs.cell p).trans (WV_at hps)
      have f2 : wr.frozen? ⟨g, p, none⟩ = false := hbs.frozen p
      have hx := getD_lt HH2.out.lt p
      have hy := getD_lt huni.lt p
      have NEXT : Hid (os.getD p 0 ≠ 0 → Fr (One g) w (wr.setCell ⟨g, p, none⟩ (.int .u64 ((s.getD p 0 ||| os.getD p 0 : Nat) : Int))) ∧ Blk (wr.setCell ⟨g, p, none⟩ (.int .u64 ((s.getD p 0 ||| os.getD p 0 : Nat) : Int))) g 68 (WV (s.set p (s.getD p 0 ||| os.getD p 0))) ∧ Uni os ws 0 (p + 1) (s.set p (s.getD p 0 ||| os.getD p 0))) := fun h0 => by
        refine ⟨hfr.setCell (p := ⟨g, p, none⟩) (.inl rfl) _, by rw [← WV_set]; exact hbs.set_ _ _, huni.step HH2.out.lt (s1 := s.set p (s.getD p 0 ||| os.getD p 0)) ?_ ?_ (fun _ => by simpa using hps) (fun h => ?_)⟩
        · have e : os.getD p 0 * 2 ^ (0 % 64) % 18446744073709551616 = os.getD p 0 := by
            rw [show (0 : Nat) % 64 = 0 from rfl, Nat.pow_zero, Nat.mul_one]; exact Nat.mod_eq_of_lt hx
          rw [e, if_neg h0]; rfl
        · rw [if_pos (Nat.div_eq_of_lt hx)]
        · exact absurd (Nat.div_eq_of_lt hx) h
      have SAME : Hid (os.getD p 0 = 0 → Uni os ws 0 (p + 1) s) := fun h0 => by
        refine huni.step HH2.out.lt (s1 := s) ?_ ?_ (fun _ => by simpa using hps) (fun h => ?_)
        · rw [h0]; simp
        · rw [h0]; simp
        · rw [h0] at h; simp at h
      generalize os.getD p 0 = x at c1 hx NEXT SAME
      generalize s.getD p 0 = y at c2 hy NEXT
      clear hfr hbs huni
      by_cases h0 : x = 0
      · subst h0
        go_wp2_with fail
        go_roundw
        case rel => exact ⟨p + 1, s, by omega, by go_num, HF.out, HBS.out, SAME.out rfl⟩
        case measure => simp [intOf]; omega
      · have hor : bits BinOp.or IntKind.u64 (y : Int) (x : Int) = ((y ||| x : Nat) : Int) := bits_or_u64_nat y x hy hx
        have N := NEXT.out h0
        rw [← hor] at N
        have HN := Lib.hid N
        clear N hor NEXT SAME
        go_wp2_with fail
        go_roundw
        case rel => exact ⟨p + 1, _, by omega, by go_num, HN.out.1, HN.out.2.1, HN.out.2.2⟩
        case measure => simp [intOf]; omega
    · have hpn : p = nw n := by omega
      have HE : Hid (AddP g n (fun j => P j || Q j) w wr) := by
        refine ⟨hfr, s, hbs, ?_⟩
        have h := huni
        rw [hpn, ← hl2] at h
        exact (h.done HH.out HH2.out (by omega)).congr (fun j hj => by simp [hj])
      have hnlt : ¬ (p : Int) < ((nw n : Nat) : Int) := by omega
      clear hfr hbs huni hpn
      go_wp2_with fail
      go_end0
      exact ⟨rfl, HE.out⟩
end Go.Proofs.YticoeooeeejboaaDoor
