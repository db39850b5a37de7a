/- Bit sets and relations of bit sets in memory. · Relations of bit sets: made, and read. · Relations of bit sets are read. -/
import Derived.Test.YtloecimlimoanaaDoorIsl
import Derived.Test.YtloecimlimoanaaDoorBs
import Derived.Laws.Bits64b
import Derived.BigRegion
import Derived.Deep.RegionHeld3
/- Bit sets and relations of bit sets in memory. -/
namespace Go.Proofs.YtloecimlimoanaaDoor
open Go.RowKit Go.ChangeMaps

/-- the words of a set -/
def WV (ws : List Nat) : Array Value := (ws.map fun (x : Nat) => Value.int .u64 x).toArray

theorem WV_at {ws : List Nat} {i : Nat} (h : i < ws.length) : (WV ws)[i]? = some (.int .u64 (ws.getD i 0 : Nat)) := by
  unfold WV
  rw [List.getElem?_toArray, List.getElem?_map, List.getElem?_eq_getElem h, List.getD_eq_getElem?_getD, List.getElem?_eq_getElem h]
  rfl

theorem WV_set (ws : List Nat) (i x : Nat) : (WV ws).setIfInBounds i (.int .u64 (x : Nat)) = WV (ws.set i x) := by
  unfold WV
  rw [List.map_set]
  simp

theorem Blk.of_own {w : World} {B g n : Nat} {e : TypeId} {xs : List Value} (h : w.ownsRow B e 1 (.slice (some ⟨g, 0, none⟩) n n) n xs) : Blk w g e xs.toArray := by
  rcases h.2 with ⟨hv, _⟩ | ⟨g', cap, cur, hv, _, hb, _, _, hs, ht⟩
  · cases hv
  · injection hv with h1 h2 h3
    injection h1 with h1
    injection h1 with h1
    subst h1 h3
    unfold Blk
    rw [hb, ← ht, List.take_of_length_le (by rw [Array.length_toList, hs]; exact Nat.le_refl _)]

theorem info_u64 : (Tryd.prog.info? 127).map (fun i => (i.zero, i.size, i.bytes)) = some (some (.int .u64 0), 1, 8) := by kernel_rfl
theorem info_bits : (Tryd.prog.info? 78).map (fun i => (i.zero, i.size, i.bytes)) = some (some (.slice none 0 0), 1, 24) := by kernel_rfl

theorem nw_int (n : Nat) (h : 1 ≤ n) : ((n : Int) + 64 - 1).tdiv 64 = ((nw n : Nat) : Int) := by
  unfold nw
  rw [Int.tdiv_eq_ediv_of_nonneg (by omega)]
  omega

/-- A set without numbers, in new memory. -/
def NewSet (n : Nat) (w : World) (e : Ending) (w' : World) : Prop :=
  e = .returned (.slice (some ⟨w.heap.size, 0, none⟩) (nw n) (nw n)) ∧ Fr No w w' ∧ Blk w' w.heap.size 127 (WV (List.replicate (nw n) 0))

set_option maxHeartbeats 1000000 in
theorem newBitSet_any (w : World) (n : Nat) (h1 : 1 ≤ n) (h2 : n ≤ 100000) :
    Calls Tryd.prog 108 #[.int .i64 n] w fun e w' => NewSet n w e w' := by
  obtain ⟨i0, hi0, hz0, hz1, hz2⟩ := info_parts info_u64
  have hn : (n : Int) ≤ 100000 := by omega
  have hn1 : (1 : Int) ≤ (n : Int) := by omega
  have hk : nw n ≤ 2000 := by unfold nw; omega
  have hq : ((n : Int) + 64 - 1) / 64 = ((nw n : Nat) : Int) := by unfold nw; omega
  have bnd : i0.bytes * nw n ≤ 281474976710656 := by rw [hz2]; omega
  have bnd2 : nw n ≤ maxLen := by unfold maxLen; omega
  have HB := Lib.hid bnd
  clear bnd
  go_enter Tryd.func108, Tryd.ntmps108
  go_wp2_with (at_make; refine wpList_make_full _ rfl _ _ 78 rfl w.heap.size 127 i0 (.int .u64 0) 1 Tryd.underlying78 hi0 hz0 hz1 .i64 .i64 (((n : Int) + 64 - 1) / 64) (((n : Int) + 64 - 1) / 64) (nw n) (by first | rfl | simp) (by first | rfl | simp) hq hq HB.out bnd2 (Nat.le_refl _) ?_; intro w1 hown hgrow)
  go_ret
  refine ⟨rfl, (Fr.refl No w).grown hgrow (fun k hk => by cases hk), ?_⟩
  have := Blk.of_own hown
  rw [Nat.mul_one] at this
  have e : (madeCells (Value.int .u64 0).cells (nw n)).toList.toArray = WV (List.replicate (nw n) 0) := by
    unfold WV madeCells
    apply Array.ext
    · simp
    · intro i h1 h2
      simp [Value.cells, Nat.mod_one]
  rw [← e]
  exact this

set_option maxHeartbeats 1000000 in
theorem bsHas_any (w : World) (g : Nat) (ws : List Nat) (n k : Nat) (P : Nat → Bool) (hb : Blk w g 127 (WV ws)) (h : BitsIs ws n P) (hk : k < n) (hn : n ≤ 100000) :
    Calls Tryd.prog 56 #[.slice (some ⟨g, 0, none⟩) (nw n) (nw n), .int .i64 k] w fun e w' => e = .returned (.bool (P k)) ∧ w = w' := by
  have hl : k / 64 < ws.length := by rw [h.len]; exact nw_lt hk
  have hc : w.cell? ⟨g, k / 64, none⟩ = some (.int .u64 (ws.getD (k / 64) 0 : Nat)) := (hb.cell _).trans (WV_at hl)
  have hlw : k / 64 < nw n := nw_lt hk
  have hx := getD_lt h.lt (k / 64)
  have hbit := h.bit hk
  generalize ws.getD (k / 64) 0 = x at hc hx hbit
  have hk0 : (k : Int) ≤ 100000 := by omega
  have hI : ((k / 64 : Nat) : Int) < (nw n : Int) := by omega
  clear hb
  go_enter Tryd.func56, Tryd.ntmps56
  go_wp2_with fail
  go_ret
  have e1 : (x : Int) / 2 ^ (k % 64) = ((x / 2 ^ (k % 64) : Nat) : Int) := by rw [Int.natCast_ediv, Int.natCast_pow]; rfl
  have hy : x / 2 ^ (k % 64) < 18446744073709551616 := Nat.lt_of_le_of_lt (Nat.div_le_self _ _) hx
  have e2 : bits BinOp.and IntKind.u64 ((x : Int) / 2 ^ (k % 64)) 1 = ((x / 2 ^ (k % 64) &&& 1 : Nat) : Int) := by
    rw [e1]; exact bits_and_u64_nat _ 1 hy (by decide)
  rw [e2, hbit]
  refine ⟨?_, rfl⟩
  cases P k <;> rfl

/-- what a store into a set leaves -/
def AddP (g : Nat) (n : Nat) (P : Nat → Bool) (w w' : World) : Prop := Fr (One g) w w' ∧ ∃ ws, Blk w' g 127 (WV ws) ∧ BitsIs ws n P

set_option maxRecDepth 100000 in
set_option maxHeartbeats 1000000 in
theorem bsAdd_any (w : World) (g : Nat) (ws : List Nat) (n k : Nat) (P : Nat → Bool) (hb : Blk w g 127 (WV ws)) (h : BitsIs ws n P) (hk : k < n) (hn : n ≤ 100000) :
    Calls Tryd.prog 65 #[.slice (some ⟨g, 0, none⟩) (nw n) (nw n), .int .i64 k] w fun e w' => e = .returned (.tuple #[]) ∧ AddP g n (fun j => P j || decide (j = k)) w w' := by
  have hl : k / 64 < ws.length := by rw [h.len]; exact nw_lt hk
  have hc : w.cell? ⟨g, k / 64, none⟩ = some (.int .u64 (ws.getD (k / 64) 0 : Nat)) := (hb.cell _).trans (WV_at hl)
  have hf : w.frozen? ⟨g, k / 64, none⟩ = false := hb.frozen _
  have hlw : k / 64 < nw n := nw_lt hk
  have hx := getD_lt h.lt (k / 64)
  have hp : 2 ^ (k % 64) < 18446744073709551616 := Nat.pow_lt_pow_right (by decide : 1 < 2) (show k % 64 < 64 by omega)
  have FIN : Hid (AddP g n (fun j => P j || decide (j = k)) w (w.setCell ⟨g, k / 64, none⟩ (.int .u64 ((ws.getD (k / 64) 0 ||| 2 ^ (k % 64) : Nat) : Int))).drew) :=
    ⟨((Fr.refl (One g) w).setCell (p := ⟨g, k / 64, none⟩) (.inl rfl) _).drew, _, by rw [← WV_set]; exact (hb.set_ _ _).drew, h.add hk⟩
  generalize ws.getD (k / 64) 0 = x at hc hx FIN
  have hbit : IntKind.u64.wrap ((2 : Int) ^ (k % 64)) = ((2 ^ (k % 64) : Nat) : Int) := by
    rw [show ((2 : Int) ^ (k % 64)) = ((2 ^ (k % 64) : Nat) : Int) by rw [Int.natCast_pow]; rfl, IntKind.wrap_u64]
    generalize 2 ^ (k % 64) = q at hp ⊢
    omega
  have hor : bits BinOp.or IntKind.u64 (x : Int) ((2 ^ (k % 64) : Nat) : Int) = ((x ||| 2 ^ (k % 64) : Nat) : Int) := bits_or_u64_nat x _ hx hp
  have hk0 : (k : Int) ≤ 100000 := by omega
  have hI : ((k / 64 : Nat) : Int) < (nw n : Int) := by omega
  have HOR := Lib.hid hor
  have HBIT := Lib.hid hbit
  clear hb hbit hor
  go_enter Tryd.func65, Tryd.ntmps65
  go_wp2_with fail
  go_region
  go_wp2
  go_end0
  rw [HBIT.out, HOR.out]
  exact ⟨rfl, FIN.out⟩

set_option maxHeartbeats 1000000 in
theorem sideValid_any (w : World) (n : Int) : Calls Tryd.prog 68 #[.int .i64 n] w fun e w' => e = .returned (.bool (decide (1 ≤ n ∧ n ≤ 128))) ∧ w = w' := by
  by_cases h1 : 1 ≤ n
  · by_cases h2 : n ≤ 128
    · have hd : decide (1 ≤ n ∧ n ≤ 128) = true := by simp [h1, h2]
      rw [hd]
      go_enter Tryd.func68, Tryd.ntmps68
      go_wp2_with fail
      go_ret
      first | exact ⟨rfl, rfl⟩ | exact ⟨ret_bool (by simp; omega), rfl⟩
    · have hd : decide (1 ≤ n ∧ n ≤ 128) = false := by simp [h2]
      rw [hd]
      go_enter Tryd.func68, Tryd.ntmps68
      go_wp2_with fail
      go_ret
      first | exact ⟨rfl, rfl⟩ | exact ⟨ret_bool (by simp; omega), rfl⟩
  · have hd : decide (1 ≤ n ∧ n ≤ 128) = false := by simp [h1]
    rw [hd]
    have h1' : n < 1 := by omega
    go_enter Tryd.func68, Tryd.ntmps68
    go_wp2_with fail
    go_ret
    first | exact ⟨rfl, rfl⟩ | exact ⟨ret_bool (by simp; omega), rfl⟩

/-! Rows of sets. -/
/-- the row of the rows, so far -/
def RA (gs : Nat → Nat) (l r j : Nat) : Array Value := ((List.range l).map fun i => if i < j then Value.slice (some ⟨gs i, 0, none⟩) (nw r) (nw r) else .slice none 0 0).toArray

theorem RA_at {gs : Nat → Nat} {l r j i : Nat} (h : i < l) : (RA gs l r j)[i]? = some (if i < j then Value.slice (some ⟨gs i, 0, none⟩) (nw r) (nw r) else .slice none 0 0) := by
  unfold RA
  rw [List.getElem?_toArray, List.getElem?_map, List.getElem?_range h]
  rfl

theorem RA_set (gs : Nat → Nat) (l r j g : Nat) (h : j < l) : (RA gs l r j).setIfInBounds j (.slice (some ⟨g, 0, none⟩) (nw r) (nw r)) = RA (fun i => if i = j then g else gs i) l r (j + 1) := by
  unfold RA
  apply Array.ext
  · simp
  · intro i h1 h2
    simp at h1 h2
    by_cases e : i = j
    · subst e; simp
    · simp only [List.setIfInBounds_toArray, List.getElem_toArray]
      rw [List.getElem_set_ne (fun h => e h.symm)]
      simp only [List.getElem_map, List.getElem_range]
      by_cases c : i < j
      · rw [if_pos c, if_pos (by omega), if_neg e]
      · rw [if_neg c, if_neg (by omega)]

structure RowsTo (w : World) (Rb l r j B : Nat) (gs : Nat → Nat) (R : Nat → Nat → Bool) : Prop where
  rows : Blk w Rb 78 (RA gs l r j)
  low : B ≤ Rb
  each : ∀ i, i < j → B ≤ gs i ∧ ∃ ws, Blk w (gs i) 127 (WV ws) ∧ BitsIs ws r (R i)
  inj : ∀ i i', i < j → i' < j → gs i = gs i' → i = i'

theorem RowsTo.fr {w w' : World} {Rb l r j B : Nat} {gs : Nat → Nat} {R : Nat → Nat → Bool} {T : Nat → Prop} (h : RowsTo w Rb l r j B gs R) (hf : Fr T w w') (hT : ∀ b, T b → b < B) : RowsTo w' Rb l r j B gs R :=
  ⟨h.rows.fr hf (fun t => by have := hT _ t; have := h.low; omega), h.low, fun i hi => ⟨(h.each i hi).1, by
    obtain ⟨ws, h1, h2⟩ := (h.each i hi).2
    exact ⟨ws, h1.fr hf (fun t => by have := hT _ t; have := (h.each i hi).1; omega), h2⟩⟩, h.inj⟩

theorem RowsTo.base {w : World} {Rb l r j B B' : Nat} {gs : Nat → Nat} {R : Nat → Nat → Bool} (h : RowsTo w Rb l r j B gs R) (hB : B' ≤ B) : RowsTo w Rb l r j B' gs R :=
  ⟨h.rows, Nat.le_trans hB h.low, fun i hi => ⟨Nat.le_trans hB (h.each i hi).1, (h.each i hi).2⟩, h.inj⟩

/-- one row more -/
theorem RowsTo.more {w w1 w2 : World} {Rb l r j B g : Nat} {gs : Nat → Nat} {R : Nat → Nat → Bool} {ws : List Nat} (h : RowsTo w Rb l r j B gs R) (hj : j < l) (hf : Fr No w w1) (hg : w.heap.size ≤ g) (hB : B ≤ w.heap.size) (hb : Blk w1 g 127 (WV ws)) (hw : BitsIs ws r (R j))
    (h2 : w2 = w1.setCell ⟨Rb, j, none⟩ (.slice (some ⟨g, 0, none⟩) (nw r) (nw r))) : RowsTo w2 Rb l r (j + 1) B (fun i => if i = j then g else gs i) R := by
  subst h2
  have h1 := h.fr hf (fun b hb => hb.elim)
  have hRb := h.rows.lt
  have ne : ∀ k ws', Blk w1 k 127 (WV ws') → k ≠ Rb := by
    rintro k ws' hk rfl
    have := (hk.eq h1.rows).1
    exact absurd this (by decide)
  refine ⟨?_, h.low, ?_, ?_⟩
  · rw [← RA_set _ _ _ _ _ hj]; exact h1.rows.set_ _ _
  · intro i hi
    by_cases e : i = j
    · subst e
      simp only [if_true]
      exact ⟨by omega, ws, hb.far (p := ⟨Rb, i, none⟩) (ne _ _ hb) _, hw⟩
    · simp only [e, if_false]
      obtain ⟨h3, ws', h4, h5⟩ := h1.each i (by omega)
      exact ⟨h3, ws', h4.far (p := ⟨Rb, j, none⟩) (ne _ _ h4) _, h5⟩
  · intro i i' hi hi' e
    have old : ∀ k, k < j → gs k ≠ g := by
      intro k hk e
      obtain ⟨_, ws', h4, _⟩ := h.each k hk
      have := h4.lt
      omega
    by_cases e1 : i = j <;> by_cases e2 : i' = j
    · omega
    · simp only [e1, e2, if_true, if_false] at e; exact (old i' (by omega) e.symm).elim
    · simp only [e1, e2, if_true, if_false] at e; exact (old i (by omega) e).elim
    · simp only [e1, e2, if_false] at e; exact h.inj i i' (by omega) (by omega) e

/-- a relation of bit sets at b -/
structure RelAt (w : World) (b l r B : Nat) (R : Nat → Nat → Bool) : Prop where
  low : B ≤ b
  rel : ∃ (Rb : Nat) (gs : Nat → Nat), Blk w b 97 #[.int .i64 r, .slice (some ⟨Rb, 0, none⟩) l l] ∧ RowsTo w Rb l r l B gs R

theorem RelAt.fr {w w' : World} {b l r B : Nat} {R : Nat → Nat → Bool} {T : Nat → Prop} (h : RelAt w b l r B R) (hf : Fr T w w') (hT : ∀ b, T b → b < B) : RelAt w' b l r B R := by
  obtain ⟨h0, Rb, gs, h1, h2⟩ := h
  exact ⟨h0, Rb, gs, h1.fr hf (fun t => by have := hT _ t; omega), h2.fr hf hT⟩

theorem RelAt.congr {w : World} {b l r B : Nat} {R Q : Nat → Nat → Bool} (h : RelAt w b l r B R) (hq : ∀ i, i < l → ∀ j, j < r → R i j = Q i j) : RelAt w b l r B Q := by
  obtain ⟨h0, Rb, gs, h1, h2⟩ := h
  refine ⟨h0, Rb, gs, h1, h2.rows, h2.low, fun i hi => ?_, h2.inj⟩
  obtain ⟨h3, ws, h4, h5⟩ := h2.each i hi
  exact ⟨h3, ws, h4, h5.congr (hq i hi)⟩

def NewRel (l r : Nat) (w : World) (e : Ending) (w' : World) : Prop := ∃ b, e = .returned (Ptr b) ∧ Fr No w w' ∧ RelAt w' b l r w.heap.size (fun _ _ => false)
end Go.Proofs.YtloecimlimoanaaDoor

/- Relations of bit sets: made, and read. -/
namespace Go.Proofs.YtloecimlimoanaaDoor
open Go.RowKit Go.ChangeMaps

theorem RA_zero (gs : Nat → Nat) (l r : Nat) : (madeCells (Value.slice none 0 0).cells l).toList.toArray = RA gs l r 0 := by
  unfold RA madeCells
  apply Array.ext
  · simp
  · intro i h1 h2
    simp [Value.cells, Nat.mod_one]

set_option maxRecDepth 100000 in
set_option maxHeartbeats 1000000 in
theorem newBitRelation_any (w : World) (l r : Nat) (hl : l ≤ 100000) (hr1 : 1 ≤ r) (hr : r ≤ 100000) :
    Calls Tryd.prog 63 #[.int .i64 l, .int .i64 r] w fun e w' => NewRel l r w e w' := by
  obtain ⟨i0, hi0, hz0, hz1, hz2⟩ := info_parts info_bits
  have hlI : (l : Int) ≤ 100000 := by omega
  have bnd : i0.bytes * l ≤ 281474976710656 := by rw [hz2]; omega
  have bnd2 : l ≤ maxLen := by unfold maxLen; omega
  have HB := Lib.hid bnd
  clear bnd
  go_enter Tryd.func63, Tryd.ntmps63
  go_wp2_with (at_make; refine wpList_make_full _ rfl _ _ 73 rfl w.heap.size 78 i0 (.slice none 0 0) 1 Tryd.underlying73 hi0 hz0 hz1 .i64 .i64 l l l rfl rfl rfl rfl HB.out bnd2 (Nat.le_refl _) ?_; intro w1 hown hgrow)
  have hb1 : Blk w1 w.heap.size 78 (RA (fun _ => 0) l r 0) := by
    have h := Blk.of_own hown
    rw [Nat.mul_one, RA_zero (fun _ => 0) l r] at h
    exact h
  have hf1 : Fr No w w1 := (Fr.refl No w).grown hgrow (fun k hk => by cases hk)
  have HS : Hid (w.heap.size < w1.heap.size) := hb1.lt
  have HF1 := Lib.hid hf1
  generalize hb : w1.heap.size = b at *
  have HBE := Lib.hid hb
  have bx := Blk.new_at w1 97 #[.int .i64 r, .slice (some ⟨w.heap.size, 0, none⟩) l l] HBE.out.symm
  have hr1' := hb1.alloc (.cells #[.int .i64 r, .slice (some ⟨w.heap.size, 0, none⟩) l l] 97)
  have hfr := hf1.alloc (.cells #[.int .i64 r, .slice (some ⟨w.heap.size, 0, none⟩) l l] 97)
  have HX := Lib.hid bx
  have HR := Lib.hid hr1'
  have HFR := Lib.hid hfr
  clear hown hgrow hb1 hf1 hb bx hr1' hfr
  generalize w1.alloc (.cells #[.int .i64 r, .slice (some ⟨w.heap.size, 0, none⟩) l l] 97) = w2 at *
  have NEW : Hid (∀ W, Calls Tryd.prog 108 #[.int .i64 r] W fun e w' => NewSet r W e w') := fun W => newBitSet_any W r hr1 hr
  go_loopw [17] (fun u wr => ∃ j : Nat, j ≤ l ∧ u = .int .i64 j ∧ Fr No w wr ∧ Blk wr b 97 #[.int .i64 r, .slice (some ⟨w.heap.size, 0, none⟩) l l] ∧ ∃ gs, RowsTo wr w.heap.size l r j w.heap.size gs (fun _ _ => false)) (fun u _ => l - (intOf u).toNat)
  case atStart => exact ⟨0, Nat.zero_le _, rfl, HFR.out, HX.out, _, HR.out, Nat.le_refl _, fun i hi => by omega, fun i i' hi => by omega⟩
  case round =>
    obtain ⟨j, hj, rfl, hfr, hbx, gs, hrows⟩ := hrel
    by_cases hlt : j < l
    · have c1 : wr.cell? ⟨b, 1, none⟩ = some (.slice (some ⟨w.heap.size, 0, none⟩) l l) := (hbx.cell 1).trans rfl
      have CELL : Hid (∀ w', Fr No wr w' → w'.cell? ⟨b, 1, none⟩ = some (.slice (some ⟨w.heap.size, 0, none⟩) l l) ∧ w'.cell? ⟨w.heap.size, j, none⟩ = some (.slice none 0 0) ∧ w'.frozen? ⟨w.heap.size, j, none⟩ = false) := fun w' hf =>
        ⟨((hbx.fr hf (fun h => h)).cell 1).trans rfl, by rw [(hrows.rows.fr hf (fun h => h)).cell j, RA_at hlt, if_neg (Nat.lt_irrefl j)], (hrows.rows.fr hf (fun h => h)).frozen j⟩
      have FIN : Hid (∀ w', NewSet r wr.drew (.returned (.slice (some ⟨wr.heap.size, 0, none⟩) (nw r) (nw r))) w' → Fr No w (w'.setCell ⟨w.heap.size, j, none⟩ (.slice (some ⟨wr.heap.size, 0, none⟩) (nw r) (nw r))) ∧ Blk (w'.setCell ⟨w.heap.size, j, none⟩ (.slice (some ⟨wr.heap.size, 0, none⟩) (nw r) (nw r))) b 97 #[.int .i64 r, .slice (some ⟨w.heap.size, 0, none⟩) l l] ∧ ∃ gs, RowsTo (w'.setCell ⟨w.heap.size, j, none⟩ (.slice (some ⟨wr.heap.size, 0, none⟩) (nw r) (nw r))) w.heap.size l r (j + 1) w.heap.size gs (fun _ _ => false)) := by
        intro w' hn
        obtain ⟨_, hf, hb⟩ := hn
        have hf' : Fr No wr w' := (Fr.refl No wr).drew.trans hf
        exact ⟨(hfr.trans hf').setCell (p := ⟨w.heap.size, j, none⟩) (.inr (Nat.le_refl _)) _, (hbx.fr hf' (fun h => h)).far (p := ⟨w.heap.size, j, none⟩) (by have := HS.out; show b ≠ w.heap.size; omega) _, _, hrows.more hlt hf' (Nat.le_refl _) hfr.size hb (BitsIs.new r) rfl⟩
      have nb : b ≠ w.heap.size := by have := HS.out; omega
      have nb' : w.heap.size ≠ b := by have := HS.out; omega
      clear hfr hbx hrows HX HR HFR
      go_wp2_with fail
      go_region_held3 (fun w' => w'.cell? ⟨b, 1, none⟩ = some (.slice (some ⟨w.heap.size, 0, none⟩) l l)) (go_keep)
        (first | (go_at_call 108; (with_reducible refine (NEW.out _).mono ?_); rintro e w3 hnew; have he := hnew.1; subst he; have HN := Lib.hid hnew; have d0 := CELL.out w3 ((Fr.refl No wr).drew.trans hnew.2.1); obtain ⟨d1, d2, d3⟩ := d0; clear hnew))
      have HFIN := Lib.hid (FIN.out _ HN.out)
      clear HN FIN CELL
      go_wp2_with fail
      go_roundw
      case rel => exact ⟨j + 1, by omega, by go_num, HFIN.out.1, HFIN.out.2.1, HFIN.out.2.2⟩
      case measure => simp [intOf]; omega
    · have hjl : j = l := by omega
      subst hjl
      have HE : Hid (NewRel j r w (.returned (Ptr b)) wr) := ⟨b, rfl, hfr, Nat.le_of_lt HS.out, _, gs, hbx, hrows⟩
      clear hfr hbx hrows HX HR HFR
      go_wp2
      go_ret
      exact HE.out

/-- what is read: a relation of bit sets, or nil -/
def ReadR (L R : Int) (ps : List Int) (w : World) (e : Ending) (w' : World) : Prop :=
  Fr No w w' ∧ ((∃ (l r b : Nat), L = l ∧ R = r ∧ RelOk L R ps ∧ e = .returned (Ptr b) ∧ RelAt w' b l r w.heap.size (memR r ps)) ∨ (¬ RelOk L R ps ∧ e = .returned (.pointer none)))

/-- the value of a relation -/
abbrev RV (L R : Int) (A : Option Addr) (n c : Nat) : Value := .agg #[.int .i64 L, .int .i64 R, .slice A n c]

/-- pairs so far are fine -/
structure OkTo (L R : Int) (ps : List Int) (j : Nat) (last : Int) : Prop where
  asc : (ps.take j).Pairwise (· < ·)
  bnd : ∀ p ∈ ps.take j, 0 ≤ p ∧ p < L * R ∧ p ≤ last
  lst : (j = 0 ∧ last = -1) ∨ (0 < j ∧ ps[j - 1]? = some last)
  low : -1 ≤ last

theorem OkTo.start (L R : Int) (ps : List Int) : OkTo L R ps 0 (-1) := ⟨by simp, by simp, .inl ⟨rfl, rfl⟩, by omega⟩

theorem OkTo.more {L R : Int} {ps : List Int} {j : Nat} {last z : Int} (h : OkTo L R ps j last) (hz : ps[j]? = some z) (h1 : last < z) (h2 : z < L * R) : OkTo L R ps (j + 1) z := by
  have e : ps.take (j + 1) = ps.take j ++ [z] := by rw [List.take_add_one, hz]; rfl
  have := h.low
  refine ⟨?_, ?_, .inr ⟨by omega, hz⟩, by omega⟩
  · rw [e, List.pairwise_append]
    refine ⟨h.asc, by simp, fun a ha b hb => ?_⟩
    have := (h.bnd a ha).2.2
    have := List.mem_singleton.1 hb
    omega
  · intro p hp
    rw [e] at hp
    rcases List.mem_append.1 hp with hp | hp
    · have := h.bnd p hp; omega
    · have := List.mem_singleton.1 hp; omega

theorem OkTo.bad {L R : Int} {ps : List Int} {j : Nat} {last z : Int} (h : OkTo L R ps j last) (hz : ps[j]? = some z) (h1 : z ≤ last ∨ L * R ≤ z) : ¬ RelOk L R ps := by
  intro ok
  have hb := ok.bnd z (List.mem_of_getElem? hz)
  rcases h1 with h1 | h1
  · rcases h.lst with ⟨rfl, rfl⟩ | ⟨h0, hl⟩
    · omega
    · have hlt : j < ps.length := (List.getElem?_eq_some_iff.1 hz).1
      have h3 := List.pairwise_iff_getElem.1 ok.asc (j - 1) j (by omega) hlt (by omega)
      rw [List.getElem?_eq_getElem (by omega)] at hl hz
      injection hl with hl
      injection hz with hz
      omega
  · omega

theorem OkTo.done {L R : Int} {ps : List Int} {last : Int} (h : OkTo L R ps ps.length last) (hL : 1 ≤ L ∧ L ≤ 128) (hR : 1 ≤ R ∧ R ≤ 128) : RelOk L R ps := by
  have h1 := h.asc
  have h2 := h.bnd
  rw [List.take_length] at h1 h2
  exact ⟨hL, hR, h1, fun p hp => ⟨(h2 p hp).1, (h2 p hp).2.1⟩⟩

theorem memR_nil (r : Nat) : memR r [] = fun _ _ => false := by
  funext i j; simp [memR]

/-- one pair more -/
theorem memR_more {r : Nat} {ps : List Int} {z j : Nat} (hz : ps[j]? = some (z : Int)) (i k : Nat) (hk : k < r) : memR r (ps.take (j + 1)) i k = (memR r (ps.take j) i k || (decide (i = z / r) && decide (k = z % r))) := by
  have e : ps.take (j + 1) = ps.take j ++ [(z : Int)] := by rw [List.take_add_one, hz]; rfl
  have hr : 0 < r := by omega
  unfold memR
  rw [e]
  have : (((i * r + k : Nat) : Int) ∈ ps.take j ++ [(z : Int)]) ↔ (((i * r + k : Nat) : Int) ∈ ps.take j ∨ (i = z / r ∧ k = z % r)) := by
    rw [List.mem_append, List.mem_singleton]
    constructor
    · rintro (h | h)
      · exact .inl h
      · right
        have h : i * r + k = z := by omega
        rw [← h, Nat.mul_comm, Nat.mul_add_div hr, Nat.div_eq_of_lt hk, Nat.mul_add_mod, Nat.mod_eq_of_lt hk]
        omega
    · rintro (h | ⟨h1, h2⟩)
      · exact .inl h
      · right
        rw [h1, h2, Nat.div_add_mod']
  rw [← Bool.decide_and, ← Bool.decide_or]
  exact decide_eq_decide.2 this

/-- what an addition does to a relation -/
theorem RelAt.add {w w' : World} {b l r B : Nat} {R : Nat → Nat → Bool} {Rb : Nat} {gs : Nat → Nat} (h0 : B ≤ b) (h1 : Blk w b 97 #[.int .i64 r, .slice (some ⟨Rb, 0, none⟩) l l]) (h2 : RowsTo w Rb l r l B gs R) {i k : Nat} (hi : i < l)
    (ha : AddP (gs i) r (fun j => R i j || decide (j = k)) w w') : RelAt w' b l r B (fun i' j => R i' j || (decide (i' = i) && decide (j = k))) := by
  obtain ⟨hf, ws, hw, hbits⟩ := ha
  obtain ⟨_, ws0, hw0, _⟩ := h2.each i hi
  have n1 : ¬ One (gs i) b := fun e => by
    have e : b = gs i := e
    subst e
    exact absurd (h1.eq hw0).1 (by decide)
  have n2 : ¬ One (gs i) Rb := fun e => by
    have e : Rb = gs i := e
    subst e
    exact absurd (h2.rows.eq hw0).1 (by decide)
  refine ⟨h0, Rb, gs, h1.fr hf n1, h2.rows.fr hf n2, h2.low, fun i' hi' => ?_, h2.inj⟩
  obtain ⟨h3, ws', h4, h5⟩ := h2.each i' hi'
  by_cases e : i' = i
  · subst e
    exact ⟨h3, ws, hw, hbits.congr (fun j _ => by simp)⟩
  · exact ⟨h3, ws', h4.fr hf (fun h => e (h2.inj i' i hi' hi h)), h5.congr (fun j _ => by simp [e])⟩
end Go.Proofs.YtloecimlimoanaaDoor

/- Relations of bit sets are read. -/
namespace Go.Proofs.YtloecimlimoanaaDoor
open Go.RowKit Go.ChangeMaps

set_option maxRecDepth 100000 in
set_option maxHeartbeats 2000000 in
theorem readRelation_any (w : World) (L R : Int) (A : Option Addr) (c : Nat) (ps : List Int) (hp : ISl w A ps) (hn : ps.length ≤ 2000000) :
    Calls Tryd.prog 62 #[RV L R A ps.length c] w fun e w' => ReadR L R ps w e w' := by
  have SV : Hid (∀ (W : World) (n : Int), Calls Tryd.prog 68 #[.int .i64 n] W fun e w' => e = .returned (.bool (decide (1 ≤ n ∧ n ≤ 128))) ∧ W = w') := fun W n => sideValid_any W n
  have HP := Lib.hid hp
  have HN := Lib.hid hn
  clear hp
  have hnI : (ps.length : Int) ≤ 2000000 := by omega
  have HFB : Hid (Fr No w (w.alloc (.cells #[.int .i64 L, .int .i64 R, .slice A ps.length c] 30))) := (Fr.refl No w).alloc _
  by_cases hL : 1 ≤ L ∧ L ≤ 128
  · have hLd : decide (1 ≤ L ∧ L ≤ 128) = true := by simpa using hL
    have HLD := Lib.hid hLd
    by_cases hR : 1 ≤ R ∧ R ≤ 128
    · have hRd : decide (1 ≤ R ∧ R ≤ 128) = true := by simpa using hR
      have HRD := Lib.hid hRd
      obtain ⟨l, rfl⟩ : ∃ l : Nat, L = l := ⟨L.toNat, by omega⟩
      obtain ⟨r, rfl⟩ : ∃ r : Nat, R = r := ⟨R.toNat, by omega⟩
      have HLL := Lib.hid hL
      have HRR := Lib.hid hR
      have hl1 : 1 ≤ l := by omega
      have hl2 : l ≤ 128 := by omega
      have hr1 : 1 ≤ r := by omega
      have hr2 : r ≤ 128 := by omega
      have NEW : Hid (∀ W : World, Calls Tryd.prog 63 #[.int .i64 l, .int .i64 r] W fun e w' => NewRel l r W e w') := fun W => newBitRelation_any W l r (by omega) hr1 (by omega)
      clear hLd hRd hL hR
      go_enter Tryd.func62, Tryd.ntmps62
      go_wp2_with fail
      refine (SV.out _ _).mono ?_
      rintro e W ⟨rfl, rfl⟩
      rw [HLD.out]
      go_wp2_with fail
      refine (SV.out _ _).mono ?_
      rintro e W ⟨rfl, rfl⟩
      rw [HRD.out]
      go_wp2_with fail
      refine (NEW.out _).mono ?_
      rintro e w1 ⟨b, rfl, hf1, hrel⟩
      have hB1 : (w.alloc (.cells #[.int .i64 (l : Int), .int .i64 (r : Int), .slice A ps.length c] 30)).heap.size = w.heap.size + 1 := by simp
      have hrel' : RelAt w1 b l r (w.heap.size + 1) (fun _ _ => false) := by rw [← hB1]; exact hrel
      have hbx : Blk w1 w.heap.size 30 #[.int .i64 (l : Int), .int .i64 (r : Int), .slice A ps.length c] := (Blk.new w _ _).fr hf1 (fun h => h)
      have hfr1 : Fr No w w1 := HFB.out.trans hf1
      have c2 : w1.cell? ⟨w.heap.size, 2, none⟩ = some (.slice A ps.length c) := (hbx.cell 2).trans rfl
      have HX := Lib.hid hbx
      have HF1 := Lib.hid hfr1
      have HR1 := Lib.hid hrel'
      clear hB1 hrel hrel' hbx hfr1 hf1 HFB NEW SV hn
      go_wp2_with fail
      go_loopw [4, 25] (fun v u wr => ∃ (j : Nat) (last : Int), j ≤ ps.length ∧ u = .int .i64 j ∧ v = .int .i64 last ∧ OkTo l r ps j last ∧ Fr No w wr ∧ Blk wr w.heap.size 30 #[.int .i64 (l : Int), .int .i64 (r : Int), .slice A ps.length c] ∧ RelAt wr b l r (w.heap.size + 1) (memR r (ps.take j))) (fun _ u _ => ps.length - (intOf u).toNat)
      case atStart => exact ⟨0, -1, Nat.zero_le _, rfl, rfl, OkTo.start _ _ _, HF1.out, HX.out, by rw [List.take_zero, memR_nil]; exact HR1.out⟩
      case round =>
        obtain ⟨j, last, hj, rfl, rfl, hok, hfr, hbx, hrel⟩ := hrel
        have HOK := Lib.hid hok
        have HFR := Lib.hid hfr
        have HBX := Lib.hid hbx
        have HREL := Lib.hid hrel
        have d0 : wr.cell? ⟨w.heap.size, 0, none⟩ = some (.int .i64 l) := (hbx.cell 0).trans rfl
        have d1 : wr.cell? ⟨w.heap.size, 1, none⟩ = some (.int .i64 r) := (hbx.cell 1).trans rfl
        clear hok hfr hbx hrel HX HF1 HR1 c2
        by_cases hlt : j < ps.length
        · obtain ⟨z, hzj⟩ : ∃ z, ps[j]? = some z := ⟨_, List.getElem?_eq_getElem hlt⟩
          obtain ⟨g, o, rfl, hc0⟩ := HP.out j z hzj
          have hc : wr.cell? ⟨g, o + j, none⟩ = some (.int .i64 z) := (HFR.out.cell (p := ⟨g, o + j, none⟩) (block_lt hc0) (fun h => h)).trans hc0
          have HZJ := Lib.hid hzj
          clear hc0 hzj
          have hm0 : 0 ≤ (l : Int) * (r : Int) := Int.mul_nonneg (by omega) (by omega)
          have hm1 : (l : Int) * (r : Int) ≤ 16384 := by
            have := Nat.mul_le_mul hl2 hr2
            rw [← Int.natCast_mul]; omega
          by_cases hle : z ≤ last
          · have HBAD : Hid (ReadR l r ps w (.returned (.pointer none)) wr) := ⟨HFR.out, .inr ⟨HOK.out.bad HZJ.out (.inl hle), rfl⟩⟩
            go_wp2_with fail
            go_ret
            exact HBAD.out
          · have hle' : last < z := by omega
            have hld : decide (z ≤ last) = false := by simpa using hle'
            clear hle
            by_cases hge : (l : Int) * (r : Int) ≤ z
            · have HBAD : Hid (ReadR l r ps w (.returned (.pointer none)) wr) := ⟨HFR.out, .inr ⟨HOK.out.bad HZJ.out (.inr hge), rfl⟩⟩
              go_wp2_with fail
              go_ret
              exact HBAD.out
            · have hge' : z < (l : Int) * (r : Int) := by omega
              have hgd : decide ((l : Int) * (r : Int) ≤ z) = false := by simpa using hge'
              clear hge
              obtain ⟨m, rfl⟩ : ∃ m : Nat, z = m := ⟨z.toNat, by have := HOK.out.low; omega⟩
              have hml : m < l * r := by rw [← Int.natCast_mul] at hge'; omega
              obtain ⟨q, hq⟩ : ∃ q, q = m / r := ⟨_, rfl⟩
              obtain ⟨k, hk⟩ : ∃ k, k = m % r := ⟨_, rfl⟩
              have m1 : (m : Int).tdiv (r : Int) = (q : Int) := by rw [hq]; rfl
              have m2 : (m : Int).tmod (r : Int) = (k : Int) := by rw [hk]; rfl
              have hq1 : q < l := by rw [hq]; exact Nat.div_lt_of_lt_mul (by rw [Nat.mul_comm]; exact hml)
              have hq2 : k < r := by rw [hk]; exact Nat.mod_lt _ (by omega)
              have HQ := Lib.hid hq
              have HK := Lib.hid hk
              clear hq hk
              have a1 : IntKind.i64.wrap (q : Int) = (q : Int) := IntWalk.i64_in _ (by omega)
              have a2 : IntKind.i64.wrap (k : Int) = (k : Int) := IntWalk.i64_in _ (by omega)
              have hmb : m < 16384 := by omega
              obtain ⟨hB, Rb, gs, hbb, hrows⟩ := HREL.out
              obtain ⟨hlo, ws, hws, hbits⟩ := hrows.each _ hq1
              have ADD : Hid (∀ W, Fr No wr W → Calls Tryd.prog 65 #[.slice (some ⟨gs (q), 0, none⟩) (nw r) (nw r), .int .i64 ((k : Nat) : Int)] W fun e w' => e = .returned (.tuple #[]) ∧ AddP (gs (q)) r (fun j' => memR r (ps.take j) (q) j' || decide (j' = k)) W w') :=
                fun W hf => bsAdd_any W _ ws r (k) _ (hws.fr hf (fun h => h)) hbits hq2 (by omega)
              have e1 : wr.cell? ⟨b, 1, none⟩ = some (.slice (some ⟨Rb, 0, none⟩) l l) := (hbb.cell 1).trans rfl
              have e2 : wr.cell? ⟨Rb, q, none⟩ = some (.slice (some ⟨gs (q), 0, none⟩) (nw r) (nw r)) := by rw [hrows.rows.cell, RA_at hq1, if_pos hq1]
              have KEEP : Hid (∀ w', AddP (gs (q)) r (fun j' => memR r (ps.take j) (q) j' || decide (j' = k)) wr.drew w' → w'.cell? ⟨w.heap.size, 1, none⟩ = some (.int .i64 r) ∧ w'.cell? ⟨b, 1, none⟩ = some (.slice (some ⟨Rb, 0, none⟩) l l) ∧ w'.cell? ⟨Rb, q, none⟩ = some (.slice (some ⟨gs (q), 0, none⟩) (nw r) (nw r)) ∧ Fr No w w' ∧ Blk w' w.heap.size 30 #[.int .i64 (l : Int), .int .i64 (r : Int), .slice (some ⟨g, o, none⟩) ps.length c] ∧ RelAt w' b l r (w.heap.size + 1) (memR r (ps.take (j + 1)))) := by
                intro w' ha
                have hf : Fr (One (gs (q))) wr w' := ((Fr.refl _ wr).drew).trans ha.1
                have hx' : Blk w' w.heap.size 30 #[.int .i64 (l : Int), .int .i64 (r : Int), .slice (some ⟨g, o, none⟩) ps.length c] := HBX.out.fr hf (fun h => by have h : w.heap.size = gs (q) := h; omega)
                have nb : ¬ One (gs (q)) b := fun e => by
                  have e : b = gs (q) := e
                  subst e
                  exact absurd (hbb.eq hws).1 (by decide)
                have nR : ¬ One (gs (q)) Rb := fun e => by
                  have e : Rb = gs (q) := e
                  subst e
                  exact absurd (hrows.rows.eq hws).1 (by decide)
                refine ⟨(hx'.cell 1).trans rfl, ((hbb.fr hf nb).cell 1).trans rfl, by rw [(hrows.rows.fr hf nR).cell, RA_at hq1, if_pos hq1], ?_, hx', ?_⟩
                · refine HFR.out.then_ hf fun i hi hT => ?_
                  have hT : i = gs (q) := hT
                  omega
                · exact (RelAt.add hB hbb hrows hq1 ⟨hf, ha.2⟩).congr (fun i _ k' hk' => by rw [memR_more HZJ.out i k' hk', ← HQ.out, ← HK.out])
              have hr0 : ((r : Int) == 0) = false := beq_eq_false_iff_ne.2 (by omega)
              have hrn : ¬ r = 0 := by omega
              have hIx : ((q : Nat) : Int) < (l : Int) := by omega
              have hIx0 : (0 : Int) ≤ ((q : Nat) : Int) := by omega
              clear hbb hrows hlo hws hbits hB
              go_wp2_with fail
              have hWd : Fr No wr wr.drew := (Fr.refl _ _).drew
              go_region_held3 (fun w' => w'.cell? ⟨w.heap.size, 1, none⟩ = some (.int .i64 r) ∧ w'.cell? ⟨b, 1, none⟩ = some (.slice (some ⟨Rb, 0, none⟩) l l) ∧ w'.cell? ⟨Rb, q, none⟩ = some (.slice (some ⟨gs q, 0, none⟩) (nw r) (nw r))) (go_keep)
                (first | (go_at_call 65; ((with_reducible refine (ADD.out _ hWd).mono ?_); rintro e w3 ⟨rfl, hadd⟩; have hkp := KEEP.out w3 hadd; have HKP := Lib.hid hkp; obtain ⟨k1, k2, k3, _, _, _⟩ := hkp)))
              clear KEEP ADD HREL
              go_wp2_with fail
              go_roundw
              case rel => exact ⟨j + 1, m, by omega, by go_num, rfl, HOK.out.more HZJ.out hle' hge', HKP.out.2.2.2⟩
              case measure => simp [intOf]; omega
        · have hjl : j = ps.length := by omega
          have HE : Hid (ReadR l r ps w (.returned (Ptr b)) wr) := by
            refine ⟨HFR.out, .inl ⟨l, r, b, rfl, rfl, ?_, rfl, ?_⟩⟩
            · have := HOK.out
              rw [hjl] at this
              exact this.done HLL.out HRR.out
            · have h := HREL.out
              rw [hjl, List.take_length] at h
              obtain ⟨hB, Rb, gs, h1, h2⟩ := h
              exact ⟨by omega, Rb, gs, h1, h2.base (by omega)⟩
          clear HREL HOK HBX
          have hnlt : ¬ (j : Int) < (ps.length : Int) := by omega
          go_wp2_with fail
          go_ret
          exact HE.out
    · have hRd : decide (1 ≤ R ∧ R ≤ 128) = false := by simpa using hR
      have HRD := Lib.hid hRd
      have HE : Hid (ReadR L R ps w (.returned (.pointer none)) (w.alloc (.cells #[.int .i64 L, .int .i64 R, .slice A ps.length c] 30))) := ⟨HFB.out, .inr ⟨fun h => hR h.right, rfl⟩⟩
      clear hR hRd HP HFB hL hLd
      go_enter Tryd.func62, Tryd.ntmps62
      go_wp2_with fail
      refine (SV.out _ _).mono ?_
      rintro e W ⟨rfl, rfl⟩
      rw [HLD.out]
      go_wp2_with fail
      refine (SV.out _ _).mono ?_
      rintro e W ⟨rfl, rfl⟩
      rw [HRD.out]
      go_wp2_with fail
      go_ret
      exact HE.out
  · have hLd : decide (1 ≤ L ∧ L ≤ 128) = false := by simpa using hL
    have HLD := Lib.hid hLd
    have HE : Hid (ReadR L R ps w (.returned (.pointer none)) (w.alloc (.cells #[.int .i64 L, .int .i64 R, .slice A ps.length c] 30))) := ⟨HFB.out, .inr ⟨fun h => hL h.left, rfl⟩⟩
    clear hL hLd HP HFB
    go_enter Tryd.func62, Tryd.ntmps62
    go_wp2_with fail
    refine (SV.out _ _).mono ?_
    rintro e W ⟨rfl, rfl⟩
    rw [HLD.out]
    go_wp2_with fail
    go_ret
    exact HE.out
end Go.Proofs.YtloecimlimoanaaDoor
