/- The relation of equal numbers; RelSame of the program. -/
import Derived.Test.YtloecimlimoanaaDoorWri
namespace Go.Proofs.YtloecimlimoanaaDoor
open Go.RowKit Go.ChangeMaps Go.Shelf

/-- an addition in one row, the others stay -/
theorem RowsTo.add {w w' : World} {l r B : Nat} {R : Nat → Nat → Bool} {Rb : Nat} {gs : Nat → Nat} (h2 : RowsTo w Rb l r l B gs R) {i k : Nat} (hi : i < l)
    (ha : AddP (gs i) r (fun j => R i j || decide (j = k)) w w') : RowsTo w' Rb l r l B gs (fun i' j => R i' j || (decide (i' = i) && decide (j = k))) ∧ (∀ g t cs, Blk w g t cs → t ≠ 127 → Blk w' g t cs) := by
  obtain ⟨hf, ws, hw, hbits⟩ := ha
  obtain ⟨_, ws0, hw0, _⟩ := h2.each i hi
  have hk : ∀ g t cs, Blk w g t cs → t ≠ 127 → Blk w' g t cs := fun g t cs hb ht => hb.fr hf (fun e => by
    have e : g = gs i := e
    subst e
    exact ht (hb.eq hw0).1)
  refine ⟨⟨hk _ _ _ h2.rows (by decide), h2.low, fun i' hi' => ?_, h2.inj⟩, hk⟩
  obtain ⟨h3, ws', h4, h5⟩ := h2.each i' hi'
  by_cases e : i' = i
  · subst e
    exact ⟨h3, ws, hw, hbits.congr (fun j _ => by simp)⟩
  · exact ⟨h3, ws', h4.fr hf (fun h => e (h2.inj i' i hi' hi h)), h5.congr (fun j _ => by simp [e])⟩

theorem RowsTo.congr {w : World} {Rb l r j B : Nat} {gs : Nat → Nat} {R Q : Nat → Nat → Bool} (h : RowsTo w Rb l r j B gs R) (hq : ∀ i, i < j → ∀ k, k < r → R i k = Q i k) : RowsTo w Rb l r j B gs Q :=
  ⟨h.rows, h.low, fun i hi => by
    obtain ⟨h3, ws, h4, h5⟩ := h.each i hi
    exact ⟨h3, ws, h4, h5.congr (hq i hi)⟩, h.inj⟩

def EqP (n : Nat) (w : World) (e : Ending) (w' : World) : Prop := ∃ b, e = .returned (Ptr b) ∧ Fr No w w' ∧ RelAt w' b n n w.heap.size (fun i j => decide (j = i))

set_option maxRecDepth 100000 in
set_option maxHeartbeats 2000000 in
theorem equalNumbers_any (w : World) (n : Nat) (h1 : 1 ≤ n) (h2 : n ≤ 100000) :
    Calls Tryd.prog 71 #[.int .i64 n] w fun e w' => EqP n w e w' := by
  have NEW := Lib.hid (newBitRelation_any w n n h2 h1 h2)
  have hnI : (n : Int) ≤ 100000 := by omega
  go_enter Tryd.func71, Tryd.ntmps71
  go_wp2_with fail
  refine NEW.out.mono ?_
  rintro e w1 ⟨b, rfl, hf1, hB, Rb, gs, hbb, hrows⟩
  have e1 : w1.cell? ⟨b, 1, none⟩ = some (.slice (some ⟨Rb, 0, none⟩) n n) := (hbb.cell 1).trans rfl
  have HF1 := Lib.hid hf1
  have HBB := Lib.hid hbb
  have HROWS := Lib.hid hrows
  have HB := Lib.hid hB
  clear hf1 hbb hrows hB NEW
  go_wp2_with fail
  go_loopw [14] (fun u wr => ∃ i : Nat, i ≤ n ∧ u = .int .i64 i ∧ Fr No w wr ∧ Blk wr b 97 #[.int .i64 n, .slice (some ⟨Rb, 0, none⟩) n n] ∧ RowsTo wr Rb n n n w.heap.size gs (fun i' j => decide (i' < i) && decide (j = i'))) (fun u _ => n - (intOf u).toNat)
  case atStart => exact ⟨0, Nat.zero_le _, rfl, HF1.out, HBB.out, HROWS.out.congr (fun i hi k hk => by simp)⟩
  case round =>
    obtain ⟨i, hi, rfl, hfr, hbb, hrows⟩ := hrel
    have HFR := Lib.hid hfr
    have HBB2 := Lib.hid hbb
    have HROWS2 := Lib.hid hrows
    clear e1 HF1 HBB HROWS
    by_cases hlt : i < n
    · obtain ⟨hlo, ws, hws, hbits⟩ := hrows.each i hlt
      have e2 : wr.cell? ⟨Rb, i, none⟩ = some (.slice (some ⟨gs i, 0, none⟩) (nw n) (nw n)) := by rw [hrows.rows.cell, RA_at hlt, if_pos hlt]
      have ADD := Lib.hid (bsAdd_any wr (gs i) ws n i _ hws hbits hlt h2)
      have hiI : (i : Int) < (n : Int) := by omega
      have HLO := Lib.hid hlo
      clear hfr hbb hrows hws hbits hlo
      go_wp2_with fail
      refine ADD.out.mono ?_
      rintro e w3 ⟨rfl, ha⟩
      obtain ⟨h5, h6⟩ := HROWS2.out.add hlt ha
      have HNX : Hid (Fr No w w3 ∧ Blk w3 b 97 #[.int .i64 n, .slice (some ⟨Rb, 0, none⟩) n n] ∧ RowsTo w3 Rb n n n w.heap.size gs (fun i' j => decide (i' < i + 1) && decide (j = i'))) := by
        refine ⟨HFR.out.then_ ha.1 (fun k hk h => by have h : k = gs i := h; have := HLO.out; omega), h6 _ _ _ HBB2.out (by decide), h5.congr (fun i' hi' k hk => ?_)⟩
        by_cases e : i' = i
        · subst e; simp
        · have : (i' < i + 1) = (i' < i) := by apply propext; constructor <;> intro h <;> omega
          simp [e, this]
      clear ha h5 h6
      go_wp2_with fail
      go_roundw
      case rel => exact ⟨i + 1, by omega, by go_num, HNX.out⟩
      case measure => simp [intOf]; omega
    · have hin : i = n := by omega
      have HE : Hid (EqP n w (.returned (Ptr b)) wr) := by
        refine ⟨b, rfl, HFR.out, HB.out, Rb, gs, HBB2.out, HROWS2.out.congr (fun i' hi' k hk => ?_)⟩
        have : i' < i := by omega
        simp [this]
      have hnlt : ¬ (i : Int) < (n : Int) := by omega
      clear hfr hbb hrows hin
      go_wp2_with fail
      go_ret
      exact HE.out

open Classical in
/-- the relation of equal numbers, if there is one -/
noncomputable def sameO (n : Int) : Option (Int × Int × List Int) := if 1 ≤ n ∧ n ≤ 128 then some (n, n, (List.range n.toNat).map fun i => ((i * n.toNat + i : Nat) : Int)) else none

theorem same_pairs (n : Nat) : (pairsOf n n (fun i j => decide (j = i))).map Int.ofNat = (List.range n).map fun i => ((i * n + i : Nat) : Int) := by
  rw [pairsOf_single (f := fun i => i) n (fun i hi => elems_single hi (fun j _ => rfl)), List.map_map]
  rfl

set_option maxRecDepth 100000 in
set_option maxHeartbeats 2000000 in
theorem implRelSame (w : World) (n : Int) (hT : TZt w) :
    Calls Tryd.prog 22 #[.int .i64 n] w fun e w' => AnsR (sameO n) w e w' := by
  have HT := Lib.hid hT
  have SV : Hid (∀ (W : World) (n : Int), Calls Tryd.prog 68 #[.int .i64 n] W fun e w' => e = .returned (.bool (decide (1 ≤ n ∧ n ≤ 128))) ∧ W = w') := fun W n => sideValid_any W n
  have HF0 : Hid (Fr No w (w.alloc (.cells #[.int .i64 0, .int .i64 0, .slice none 0 0] 30))) := (Fr.refl No w).alloc _
  have HB0 : Hid (Blk (w.alloc (.cells #[.int .i64 0, .int .i64 0, .slice none 0 0] 30)) w.heap.size 30 #[.int .i64 0, .int .i64 0, .slice none 0 0]) := Blk.new _ _ _
  clear hT
  by_cases hn : 1 ≤ n ∧ n ≤ 128
  · have hnd : decide (1 ≤ n ∧ n ≤ 128) = true := by simpa using hn
    have HND := Lib.hid hnd
    have HYES : Hid (sameO n = some (n, n, (List.range n.toNat).map fun i => ((i * n.toNat + i : Nat) : Int))) := if_pos hn
    have HN := Lib.hid hn
    obtain ⟨m, rfl⟩ : ∃ m : Nat, n = m := ⟨n.toNat, by omega⟩
    have EQ : Hid (∀ W, Calls Tryd.prog 71 #[.int .i64 m] W fun e w' => EqP m W e w') := fun W => equalNumbers_any W m (by omega) (by omega)
    clear hnd hn
    go_enter Tryd.func22, Tryd.ntmps22
    go_wp2_with fail
    refine (SV.out _ _).mono ?_
    rintro e W ⟨rfl, rfl⟩
    rw [HND.out]
    go_wp2_with fail
    generalize w.alloc (.cells #[.int .i64 0, .int .i64 0, .slice none 0 0] 30) = W2 at *
    refine (EQ.out _).mono ?_
    rintro e w3 ⟨b, rfl, hf3, hrel⟩
    have HF3 := Lib.hid (HF0.out.trans hf3)
    have HB3 := Lib.hid (HB0.out.fr hf3 (fun h => h))
    have WR := Lib.hid (written_any w3 b m m _ _ (by have := HN.out; omega) (by have := HN.out; omega) (by have := HN.out; omega) hrel (HT.out.fr HF3.out (fun h => h)))
    clear hf3 hrel HB0 HF0 EQ
    go_wp2_with fail
    refine WR.out.mono ?_
    rintro e w4 ⟨A, k, c, rfl, hf4, hor⟩
    have hbr := HB3.out.fr hf4 (fun h => h)
    have a0 : w4.cell? ⟨w.heap.size, 0, none⟩ = some (.int .i64 0) := (hbr.cell 0).trans rfl
    have a1 : w4.cell? ⟨w.heap.size, 1, none⟩ = some (.int .i64 0) := (hbr.cell 1).trans rfl
    have a2 : w4.cell? ⟨w.heap.size, 2, none⟩ = some (.slice none 0 0) := (hbr.cell 2).trans rfl
    have f0 := hbr.frozen 0
    have f1 := hbr.frozen 1
    have f2 := hbr.frozen 2
    have FIN := Lib.hid (fun v0 v1 v2 => ans_store (Nat.le_refl w.heap.size) (HF3.out.trans hf4) hbr hor HF3.out.size v0 v1 v2)
    clear hf4 hbr hor HB3 WR
    go_wp2_with fail
    refine bodyPost_ret (v := .tuple #[RV m m A k c, .bool true]) (by simp [results, Tryd.results22, go_sem, a0, a1, a2]) rfl ?_
    rw [HYES.out]
    refine ⟨A, k, c, rfl, (FIN.out _ _ _).1, ?_⟩
    have h := (FIN.out (.int .i64 m) (.int .i64 m) (.slice A k c)).2
    rw [same_pairs] at h
    exact h
  · have hnd : decide (1 ≤ n ∧ n ≤ 128) = false := by simpa using hn
    have HND := Lib.hid hnd
    have HNO : Hid (sameO n = none) := if_neg hn
    have HAN := Lib.hid (AnsR.none_ HF0.out)
    clear hnd hn HF0 HB0
    go_enter Tryd.func22, Tryd.ntmps22
    go_wp2_with fail
    refine (SV.out _ _).mono ?_
    rintro e W ⟨rfl, rfl⟩
    rw [HND.out]
    go_wp2_with fail
    refine bodyPost_ret (v := .tuple #[RV 0 0 none 0 0, .bool false]) (by simp [results, Tryd.results22, go_sem]) rfl ?_
    rw [HNO.out]
    exact HAN.out
end Go.Proofs.YtloecimlimoanaaDoor
