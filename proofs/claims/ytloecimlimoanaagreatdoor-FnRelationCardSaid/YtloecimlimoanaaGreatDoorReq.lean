/- The relation of equal numbers; RelSame of the program. -/
import Derived.Test.YtloecimlimoanaaGreatDoorWri
namespace Go.Proofs.YtloecimlimoanaaGreatDoor
open Go.RowKit Go.ChangeMaps Go.Shelf

/-- an addition in one row, the others stay -/
theorem RowsTo.add {w w' : World} {l r B : Nat} {R : Nat → Nat → Bool} {Rb : Nat} {gs : Nat → Nat} (h2 : RowsTo w Rb l r l B gs R) {i k : Nat} (hi : i < l)
    (ha : AddP (gs i) r (fun j => R i j || decide (j = k)) w w') : RowsTo w' Rb l r l B gs (fun i' j => R i' j || (decide (i' = i) && decide (j = k))) ∧ (∀ g t cs, Blk w g t cs → t ≠ 63 → Blk w' g t cs) := by
  obtain ⟨hf, ws, hw, hbits⟩ := ha
  obtain ⟨_, ws0, hw0, _⟩ := h2.each i hi
  have hk : ∀ g t cs, Blk w g t cs → t ≠ 63 → Blk w' g t cs := fun g t cs hb ht => hb.fr hf (fun e => by
    have e : g = gs i := e
    subst e
    exact ht (hb.eq hw0).1)
  refine ⟨⟨hk _ _ _ h2.rows (by decide), h2.low, fun i' hi' => ?_, h2.inj⟩, hk⟩
  obtain ⟨h3, ws', h4, h5⟩ := h2.each i' hi'
  by_cases e : i' = i
  · subst e
    exact ⟨h3, ws, hw, hbits.congr (fun j _ => by simp)⟩
  · exact ⟨h3, ws', h4.fr hf (fun h => e (h2.inj i' i hi' hi h)), h5.congr (fun j _ => by simp [e])⟩

theorem RowsTo.congr {w : World} {Rb l r j B : Nat} {gs : Nat → Nat} {R Q : Nat → Nat → Bool} (h : RowsTo w Rb l r j B gs R) (hq : ∀ i, i < j → ∀ k, k < r → R i k = Q i k) : RowsTo w Rb l r j B gs Q :=
  ⟨h.rows, h.low, fun i hi => by
    obtain ⟨h3, ws, h4, h5⟩ := h.each i hi
    exact ⟨h3, ws, h4, h5.congr (hq i hi)⟩, h.inj⟩

def EqP (n : Nat) (w : World) (e : Ending) (w' : World) : Prop := ∃ b, e = .returned (Ptr b) ∧ Fr No w w' ∧ RelAt w' b n n w.heap.size (fun i j => decide (j = i))

set_option maxRecDepth 100000 in
set_option maxHeartbeats 2000000 in
theorem equalNumbers_any (w : World) (n : Nat) (h1 : 1 ≤ n) (h2 : n ≤ 100000) :
    Calls Tryz.prog 70 #[.int .i64 n] w fun e w' => EqP n w e w' := by
  have NEW := Lib.hid (newBitRelation_any w n n h2 h1 h2)
  have hnI : (n : Int) ≤ 100000 := by omega
  go_enter Tryz.func70, Tryz.ntmps70
  go_wp2_with fail
  refine NEW.out.mono ?_
  rintro e w1 ⟨b, rfl, hf1, hB, Rb, gs, hbb, hrows⟩
  have e1 : w1.cell? ⟨b, 1, none⟩ = some (.slice (some ⟨Rb, 0, none⟩) n n) := (hbb.cell 1).trans rfl
  have HF1 := Lib.hid hf1
  have HBB := Lib.hid hbb
  have HROWS := Lib.hid hrows
  have HB := Lib.hid hB
  clear hf1 hbb hrows hB NEW
  go_wp2_with fail
  go_loopw [14] (fun u wr => ∃ i : Nat, i ≤ n ∧ u = .int .i64 i ∧ Fr No w wr ∧ Blk wr b 67 #[.int .i64 n, .slice (some ⟨Rb, 0, none⟩) n n] ∧ RowsTo wr Rb n n n w.heap.size gs (fun i' j => decide (i' < i) && decide (j = i'))) (fun u _ => n - (intOf u).toNat)
  case atStart => exact ⟨0, Nat.zero_le _, rfl, HF1.out, HBB.out, HROWS.out.congr (fun i hi k hk => by simp)⟩
  case round =>
    obtain ⟨i, hi, rfl, hfr, hbb, hrows⟩ := hrel
    have HFR := Lib.hid hfr
    have HBB2 := Lib.hid hbb
    have HROWS2 := Lib.hid hrows
    clear e1 HF1 HBB HROWS
    by_cases hlt : i < n
    · obtain ⟨hlo, ws, hws, hbits⟩ := hrows.each i hlt
      have e2 : wr.cell? ⟨Rb, i, none⟩ = some (.slice (some ⟨gs i, 0, none⟩) (nw n) (nw n)) := by rw [hrows.rows.cell, RA_at hlt, if_pos hlt]
      have ADD := Lib.hid (bsAdd_any wr (gs i) ws n i _ hws hbits hlt h2)
      have hiI : (i : Int) < (n : Int) := by omega
      have HLO := Lib.hid hlo
      clear hfr hbb hrows hws hbits hlo
      go_wp2_with fail
      refine ADD.out.mono ?_
      rintro e w3 ⟨rfl, ha⟩
      obtain ⟨h5, h6⟩ := HROWS2.out.add hlt ha
      have HNX : Hid (Fr No w w3 ∧ Blk w3 b 67 #[.int .i64 n, .slice (some ⟨Rb, 0, none⟩) n n] ∧ RowsTo w3 Rb n n n w.heap.size gs (fun i' j => decide (i' < i + 1) && decide (j = i'))) := by
        refine ⟨HFR.out.then_ ha.1 (fun k hk h => by have h : k = gs i := h; have := HLO.out; omega), h6 _ _ _ HBB2.out (by decide), h5.congr (fun i' hi' k hk => ?_)⟩
        by_cases e : i' = i
        · subst e; simp
        · have : (i' < i + 1) = (i' < i) := by apply propext; constructor <;> intro h <;> omega
          simp [e, this]
      clear ha h5 h6
      go_wp2_with fail
      go_roundw
      case rel => exact ⟨i + 1, by omega, by go_num, HNX.out⟩
      case measure => simp [intOf]; omega
    · have hin : i = n := by omega
      have HE : Hid (EqP n w (.returned (Ptr b)) wr) := by
        refine ⟨b, rfl, HFR.out, HB.out, Rb, gs, HBB2.out, HROWS2.out.congr (fun i' hi' k hk => ?_)⟩
        have : i' < i := by omega
        simp [this]
      have hnlt : ¬ (i : Int) < (n : Int) := by omega
      clear hfr hbb hrows hin
      go_wp2_with fail
      go_ret
      exact HE.out

open Classical in
/-- the relation of equal numbers, if there is one -/
noncomputable def sameO (n : Int) : Option (Int × Int × List Int) := if 1 ≤ n ∧ n ≤ 128 then some (n, n, (List.range n.toNat).map fun i => ((i * n.toNat + i : Nat) : Int)) else none

theorem same_pairs (n : Nat) : (pairsOf n n (fun i j => decide (j = i))).map Int.ofNat = (List.range n).map fun i => ((i * n + i : Nat) : Int) := by
  rw [pairsOf_single (f := fun i => i) n (fun i hi => elems_single hi (fun j _ => rfl)), List.map_map]
  rfl

end Go.Proofs.YtloecimlimoanaaGreatDoor
