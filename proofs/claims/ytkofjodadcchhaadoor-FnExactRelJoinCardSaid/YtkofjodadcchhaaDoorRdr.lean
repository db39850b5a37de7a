/- Bit sets and relations of bit sets in memory. -/
import Derived.Test.YtkofjodadcchhaaDoorIsl
import Derived.Test.YtkofjodadcchhaaDoorBs
import Derived.Laws.Bits64b
import Derived.BigRegion
namespace Go.Proofs.YtkofjodadcchhaaDoor
open Go.RowKit Go.ChangeMaps

/-- the words of a set -/
def WV (ws : List Nat) : Array Value := (ws.map fun (x : Nat) => Value.int .u64 x).toArray

theorem WV_at {ws : List Nat} {i : Nat} (h : i < ws.length) : (WV ws)[i]? = some (.int .u64 (ws.getD i 0 : Nat)) := by
  unfold WV
  rw [List.getElem?_toArray, List.getElem?_map, List.getElem?_eq_getElem h, List.getD_eq_getElem?_getD, List.getElem?_eq_getElem h]
  rfl

theorem WV_set (ws : List Nat) (i x : Nat) : (WV ws).setIfInBounds i (.int .u64 (x : Nat)) = WV (ws.set i x) := by
  unfold WV
  rw [List.map_set]
  simp

theorem Blk.of_own {w : World} {B g n : Nat} {e : TypeId} {xs : List Value} (h : w.ownsRow B e 1 (.slice (some ⟨g, 0, none⟩) n n) n xs) : Blk w g e xs.toArray := by
  rcases h.2 with ⟨hv, _⟩ | ⟨g', cap, cur, hv, _, hb, _, _, hs, ht⟩
  · cases hv
  · injection hv with h1 h2 h3
    injection h1 with h1
    injection h1 with h1
    subst h1 h3
    unfold Blk
    rw [hb, ← ht, List.take_of_length_le (by rw [Array.length_toList, hs]; exact Nat.le_refl _)]

theorem info_u64 : (Tryd.prog.info? 88).map (fun i => (i.zero, i.size, i.bytes)) = some (some (.int .u64 0), 1, 8) := by kernel_rfl
theorem info_bits : (Tryd.prog.info? 72).map (fun i => (i.zero, i.size, i.bytes)) = some (some (.slice none 0 0), 1, 24) := by kernel_rfl

theorem nw_int (n : Nat) (h : 1 ≤ n) : ((n : Int) + 64 - 1).tdiv 64 = ((nw n : Nat) : Int) := by
  unfold nw
  rw [Int.tdiv_eq_ediv_of_nonneg (by omega)]
  omega

/-- A set without numbers, in new memory. -/
def NewSet (n : Nat) (w : World) (e : Ending) (w' : World) : Prop :=
  e = .returned (.slice (some ⟨w.heap.size, 0, none⟩) (nw n) (nw n)) ∧ Fr No w w' ∧ Blk w' w.heap.size 88 (WV (List.replicate (nw n) 0))

set_option maxHeartbeats 1000000 in
theorem newBitSet_any (w : World) (n : Nat) (h1 : 1 ≤ n) (h2 : n ≤ 100000) :
    Calls Tryd.prog 78 #[.int .i64 n] w fun e w' => NewSet n w e w' := by
  obtain ⟨i0, hi0, hz0, hz1, hz2⟩ := info_parts info_u64
  have hn : (n : Int) ≤ 100000 := by omega
  have hn1 : (1 : Int) ≤ (n : Int) := by omega
  have hk : nw n ≤ 2000 := by unfold nw; omega
  have hq : ((n : Int) + 64 - 1) / 64 = ((nw n : Nat) : Int) := by unfold nw; omega
  have bnd : i0.bytes * nw n ≤ 281474976710656 := by rw [hz2]; omega
  have bnd2 : nw n ≤ maxLen := by unfold maxLen; omega
  have HB := Lib.hid bnd
  clear bnd
  go_enter Tryd.func78, Tryd.ntmps78
  go_wp2_with (at_make; refine wpList_make_full _ rfl _ _ 72 rfl w.heap.size 88 i0 (.int .u64 0) 1 Tryd.underlying72 hi0 hz0 hz1 .i64 .i64 (((n : Int) + 64 - 1) / 64) (((n : Int) + 64 - 1) / 64) (nw n) (by first | rfl | simp) (by first | rfl | simp) hq hq HB.out bnd2 (Nat.le_refl _) ?_; intro w1 hown hgrow)
  go_ret
  refine ⟨rfl, (Fr.refl No w).grown hgrow (fun k hk => by cases hk), ?_⟩
  have := Blk.of_own hown
  rw [Nat.mul_one] at this
  have e : (madeCells (Value.int .u64 0).cells (nw n)).toList.toArray = WV (List.replicate (nw n) 0) := by
    unfold WV madeCells
    apply Array.ext
    · simp
    · intro i h1 h2
      simp [Value.cells, Nat.mod_one]
  rw [← e]
  exact this

set_option maxHeartbeats 1000000 in
theorem has_any (w : World) (g : Nat) (ws : List Nat) (n k : Nat) (P : Nat → Bool) (hb : Blk w g 88 (WV ws)) (h : BitsIs ws n P) (hk : k < n) (hn : n ≤ 100000) :
    Calls Tryd.prog 75 #[.slice (some ⟨g, 0, none⟩) (nw n) (nw n), .int .i64 k] w fun e w' => e = .returned (.bool (P k)) ∧ w = w' := by
  have hl : k / 64 < ws.length := by rw [h.len]; exact nw_lt hk
  have hc : w.cell? ⟨g, k / 64, none⟩ = some (.int .u64 (ws.getD (k / 64) 0 : Nat)) := (hb.cell _).trans (WV_at hl)
  have hlw : k / 64 < nw n := nw_lt hk
  have hx := getD_lt h.lt (k / 64)
  have hbit := h.bit hk
  generalize ws.getD (k / 64) 0 = x at hc hx hbit
  have hk0 : (k : Int) ≤ 100000 := by omega
  have hI : ((k / 64 : Nat) : Int) < (nw n : Int) := by omega
  clear hb
  go_enter Tryd.func75, Tryd.ntmps75
  go_wp2_with fail
  go_ret
  have e1 : (x : Int) / 2 ^ (k % 64) = ((x / 2 ^ (k % 64) : Nat) : Int) := by rw [Int.natCast_ediv, Int.natCast_pow]; rfl
  have hy : x / 2 ^ (k % 64) < 18446744073709551616 := Nat.lt_of_le_of_lt (Nat.div_le_self _ _) hx
  have e2 : bits BinOp.and IntKind.u64 ((x : Int) / 2 ^ (k % 64)) 1 = ((x / 2 ^ (k % 64) &&& 1 : Nat) : Int) := by
    rw [e1]; exact bits_and_u64_nat _ 1 hy (by decide)
  rw [e2, hbit]
  refine ⟨?_, rfl⟩
  cases P k <;> rfl

/-- what a store into a set leaves -/
def AddP (g : Nat) (n : Nat) (P : Nat → Bool) (w w' : World) : Prop := Fr (One g) w w' ∧ ∃ ws, Blk w' g 88 (WV ws) ∧ BitsIs ws n P

set_option maxRecDepth 100000 in
set_option maxHeartbeats 1000000 in
theorem add_any (w : World) (g : Nat) (ws : List Nat) (n k : Nat) (P : Nat → Bool) (hb : Blk w g 88 (WV ws)) (h : BitsIs ws n P) (hk : k < n) (hn : n ≤ 100000) :
    Calls Tryd.prog 54 #[.slice (some ⟨g, 0, none⟩) (nw n) (nw n), .int .i64 k] w fun e w' => e = .returned (.tuple #[]) ∧ AddP g n (fun j => P j || decide (j = k)) w w' := by
  have hl : k / 64 < ws.length := by rw [h.len]; exact nw_lt hk
  have hc : w.cell? ⟨g, k / 64, none⟩ = some (.int .u64 (ws.getD (k / 64) 0 : Nat)) := (hb.cell _).trans (WV_at hl)
  have hf : w.frozen? ⟨g, k / 64, none⟩ = false := hb.frozen _
  have hlw : k / 64 < nw n := nw_lt hk
  have hx := getD_lt h.lt (k / 64)
  have hp : 2 ^ (k % 64) < 18446744073709551616 := Nat.pow_lt_pow_right (by decide : 1 < 2) (show k % 64 < 64 by omega)
  have FIN : Hid (AddP g n (fun j => P j || decide (j = k)) w (w.setCell ⟨g, k / 64, none⟩ (.int .u64 ((ws.getD (k / 64) 0 ||| 2 ^ (k % 64) : Nat) : Int))).drew) :=
    ⟨((Fr.refl (One g) w).setCell (p := ⟨g, k / 64, none⟩) (.inl rfl) _).drew, _, by rw [← WV_set]; exact (hb.set_ _ _).drew, h.add hk⟩
  generalize ws.getD (k / 64) 0 = x at hc hx FIN
  have hbit : IntKind.u64.wrap ((2 : Int) ^ (k % 64)) = ((2 ^ (k % 64) : Nat) : Int) := by
    rw [show ((2 : Int) ^ (k % 64)) = ((2 ^ (k % 64) : Nat) : Int) by rw [Int.natCast_pow]; rfl, IntKind.wrap_u64]
    generalize 2 ^ (k % 64) = q at hp ⊢
    omega
  have hor : bits BinOp.or IntKind.u64 (x : Int) ((2 ^ (k % 64) : Nat) : Int) = ((x ||| 2 ^ (k % 64) : Nat) : Int) := bits_or_u64_nat x _ hx hp
  have hk0 : (k : Int) ≤ 100000 := by omega
  have hI : ((k / 64 : Nat) : Int) < (nw n : Int) := by omega
  have HOR := Lib.hid hor
  have HBIT := Lib.hid hbit
  clear hb hbit hor
  go_enter Tryd.func54, Tryd.ntmps54
  go_wp2_with fail
  go_region
  go_wp2
  go_end0
  rw [HBIT.out, HOR.out]
  exact ⟨rfl, FIN.out⟩

set_option maxHeartbeats 1000000 in
theorem sideValid_any (w : World) (n : Int) : Calls Tryd.prog 52 #[.int .i64 n] w fun e w' => e = .returned (.bool (decide (1 ≤ n ∧ n ≤ 128))) ∧ w = w' := by
  by_cases h1 : 1 ≤ n
  · by_cases h2 : n ≤ 128
    · have hd : decide (1 ≤ n ∧ n ≤ 128) = true := by simp [h1, h2]
      rw [hd]
      go_enter Tryd.func52, Tryd.ntmps52
      go_wp2_with fail
      go_ret
      first | exact ⟨rfl, rfl⟩ | exact ⟨ret_bool (by simp; omega), rfl⟩
    · have hd : decide (1 ≤ n ∧ n ≤ 128) = false := by simp [h2]
      rw [hd]
      go_enter Tryd.func52, Tryd.ntmps52
      go_wp2_with fail
      go_ret
      first | exact ⟨rfl, rfl⟩ | exact ⟨ret_bool (by simp; omega), rfl⟩
  · have hd : decide (1 ≤ n ∧ n ≤ 128) = false := by simp [h1]
    rw [hd]
    have h1' : n < 1 := by omega
    go_enter Tryd.func52, Tryd.ntmps52
    go_wp2_with fail
    go_ret
    first | exact ⟨rfl, rfl⟩ | exact ⟨ret_bool (by simp; omega), rfl⟩

/-! Rows of sets. -/
/-- the row of the rows, so far -/
def RA (gs : Nat → Nat) (l r j : Nat) : Array Value := ((List.range l).map fun i => if i < j then Value.slice (some ⟨gs i, 0, none⟩) (nw r) (nw r) else .slice none 0 0).toArray

theorem RA_at {gs : Nat → Nat} {l r j i : Nat} (h : i < l) : (RA gs l r j)[i]? = some (if i < j then Value.slice (some ⟨gs i, 0, none⟩) (nw r) (nw r) else .slice none 0 0) := by
  unfold RA
  rw [List.getElem?_toArray, List.getElem?_map, List.getElem?_range h]
  rfl

theorem RA_set (gs : Nat → Nat) (l r j g : Nat) (h : j < l) : (RA gs l r j).setIfInBounds j (.slice (some ⟨g, 0, none⟩) (nw r) (nw r)) = RA (fun i => if i = j then g else gs i) l r (j + 1) := by
  unfold RA
  apply Array.ext
  · simp
  · intro i h1 h2
    simp at h1 h2
    by_cases e : i = j
    · subst e; simp
    · simp only [List.setIfInBounds_toArray, List.getElem_toArray]
      rw [List.getElem_set_ne (fun h => e h.symm)]
      simp only [List.getElem_map, List.getElem_range]
      by_cases c : i < j
      · rw [if_pos c, if_pos (by omega), if_neg e]
      · rw [if_neg c, if_neg (by omega)]

structure RowsTo (w : World) (Rb l r j B : Nat) (gs : Nat → Nat) (R : Nat → Nat → Bool) : Prop where
  rows : Blk w Rb 72 (RA gs l r j)
  low : B ≤ Rb
  each : ∀ i, i < j → B ≤ gs i ∧ ∃ ws, Blk w (gs i) 88 (WV ws) ∧ BitsIs ws r (R i)
  inj : ∀ i i', i < j → i' < j → gs i = gs i' → i = i'

theorem RowsTo.fr {w w' : World} {Rb l r j B : Nat} {gs : Nat → Nat} {R : Nat → Nat → Bool} {T : Nat → Prop} (h : RowsTo w Rb l r j B gs R) (hf : Fr T w w') (hT : ∀ b, T b → b < B) : RowsTo w' Rb l r j B gs R :=
  ⟨h.rows.fr hf (fun t => by have := hT _ t; have := h.low; omega), h.low, fun i hi => ⟨(h.each i hi).1, by
    obtain ⟨ws, h1, h2⟩ := (h.each i hi).2
    exact ⟨ws, h1.fr hf (fun t => by have := hT _ t; have := (h.each i hi).1; omega), h2⟩⟩, h.inj⟩

theorem RowsTo.base {w : World} {Rb l r j B B' : Nat} {gs : Nat → Nat} {R : Nat → Nat → Bool} (h : RowsTo w Rb l r j B gs R) (hB : B' ≤ B) : RowsTo w Rb l r j B' gs R :=
  ⟨h.rows, Nat.le_trans hB h.low, fun i hi => ⟨Nat.le_trans hB (h.each i hi).1, (h.each i hi).2⟩, h.inj⟩

/-- one row more -/
theorem RowsTo.more {w w1 w2 : World} {Rb l r j B g : Nat} {gs : Nat → Nat} {R : Nat → Nat → Bool} {ws : List Nat} (h : RowsTo w Rb l r j B gs R) (hj : j < l) (hf : Fr No w w1) (hg : w.heap.size ≤ g) (hB : B ≤ w.heap.size) (hb : Blk w1 g 88 (WV ws)) (hw : BitsIs ws r (R j))
    (h2 : w2 = w1.setCell ⟨Rb, j, none⟩ (.slice (some ⟨g, 0, none⟩) (nw r) (nw r))) : RowsTo w2 Rb l r (j + 1) B (fun i => if i = j then g else gs i) R := by
  subst h2
  have h1 := h.fr hf (fun b hb => hb.elim)
  have hRb := h.rows.lt
  have ne : ∀ k ws', Blk w1 k 88 (WV ws') → k ≠ Rb := by
    rintro k ws' hk rfl
    have := (hk.eq h1.rows).1
    exact absurd this (by decide)
  refine ⟨?_, h.low, ?_, ?_⟩
  · rw [← RA_set _ _ _ _ _ hj]; exact h1.rows.set_ _ _
  · intro i hi
    by_cases e : i = j
    · subst e
      simp only [if_true]
      exact ⟨by omega, ws, hb.far (p := ⟨Rb, i, none⟩) (ne _ _ hb) _, hw⟩
    · simp only [e, if_false]
      obtain ⟨h3, ws', h4, h5⟩ := h1.each i (by omega)
      exact ⟨h3, ws', h4.far (p := ⟨Rb, j, none⟩) (ne _ _ h4) _, h5⟩
  · intro i i' hi hi' e
    have old : ∀ k, k < j → gs k ≠ g := by
      intro k hk e
      obtain ⟨_, ws', h4, _⟩ := h.each k hk
      have := h4.lt
      omega
    by_cases e1 : i = j <;> by_cases e2 : i' = j
    · omega
    · simp only [e1, e2, if_true, if_false] at e; exact (old i' (by omega) e.symm).elim
    · simp only [e1, e2, if_true, if_false] at e; exact (old i (by omega) e).elim
    · simp only [e1, e2, if_false] at e; exact h.inj i i' (by omega) (by omega) e

/-- a relation of bit sets at b -/
structure RelAt (w : World) (b l r B : Nat) (R : Nat → Nat → Bool) : Prop where
  low : B ≤ b
  rel : ∃ (Rb : Nat) (gs : Nat → Nat), Blk w b 75 #[.int .i64 r, .slice (some ⟨Rb, 0, none⟩) l l] ∧ RowsTo w Rb l r l B gs R

theorem RelAt.fr {w w' : World} {b l r B : Nat} {R : Nat → Nat → Bool} {T : Nat → Prop} (h : RelAt w b l r B R) (hf : Fr T w w') (hT : ∀ b, T b → b < B) : RelAt w' b l r B R := by
  obtain ⟨h0, Rb, gs, h1, h2⟩ := h
  exact ⟨h0, Rb, gs, h1.fr hf (fun t => by have := hT _ t; omega), h2.fr hf hT⟩

theorem RelAt.congr {w : World} {b l r B : Nat} {R Q : Nat → Nat → Bool} (h : RelAt w b l r B R) (hq : ∀ i, i < l → ∀ j, j < r → R i j = Q i j) : RelAt w b l r B Q := by
  obtain ⟨h0, Rb, gs, h1, h2⟩ := h
  refine ⟨h0, Rb, gs, h1, h2.rows, h2.low, fun i hi => ?_, h2.inj⟩
  obtain ⟨h3, ws, h4, h5⟩ := h2.each i hi
  exact ⟨h3, ws, h4, h5.congr (hq i hi)⟩

def NewRel (l r : Nat) (w : World) (e : Ending) (w' : World) : Prop := ∃ b, e = .returned (Ptr b) ∧ Fr No w w' ∧ RelAt w' b l r w.heap.size (fun _ _ => false)
end Go.Proofs.YtkofjodadcchhaaDoor
