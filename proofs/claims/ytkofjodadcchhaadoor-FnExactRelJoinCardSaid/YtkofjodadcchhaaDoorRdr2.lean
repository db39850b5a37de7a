/- Relations of bit sets: made, and read. -/
import Derived.Test.YtkofjodadcchhaaDoorRdr
import Derived.Deep.RegionHeld3
namespace Go.Proofs.YtkofjodadcchhaaDoor
open Go.RowKit Go.ChangeMaps

theorem RA_zero (gs : Nat → Nat) (l r : Nat) : (madeCells (Value.slice none 0 0).cells l).toList.toArray = RA gs l r 0 := by
  unfold RA madeCells
  apply Array.ext
  · simp
  · intro i h1 h2
    simp [Value.cells, Nat.mod_one]

set_option maxRecDepth 100000 in
set_option maxHeartbeats 1000000 in
theorem newBitRelation_any (w : World) (l r : Nat) (hl : l ≤ 100000) (hr1 : 1 ≤ r) (hr : r ≤ 100000) :
    Calls Tryd.prog 53 #[.int .i64 l, .int .i64 r] w fun e w' => NewRel l r w e w' := by
  obtain ⟨i0, hi0, hz0, hz1, hz2⟩ := info_parts info_bits
  have hlI : (l : Int) ≤ 100000 := by omega
  have bnd : i0.bytes * l ≤ 281474976710656 := by rw [hz2]; omega
  have bnd2 : l ≤ maxLen := by unfold maxLen; omega
  have HB := Lib.hid bnd
  clear bnd
  go_enter Tryd.func53, Tryd.ntmps53
  go_wp2_with (at_make; refine wpList_make_full _ rfl _ _ 73 rfl w.heap.size 72 i0 (.slice none 0 0) 1 Tryd.underlying73 hi0 hz0 hz1 .i64 .i64 l l l rfl rfl rfl rfl HB.out bnd2 (Nat.le_refl _) ?_; intro w1 hown hgrow)
  have hb1 : Blk w1 w.heap.size 72 (RA (fun _ => 0) l r 0) := by
    have h := Blk.of_own hown
    rw [Nat.mul_one, RA_zero (fun _ => 0) l r] at h
    exact h
  have hf1 : Fr No w w1 := (Fr.refl No w).grown hgrow (fun k hk => by cases hk)
  have HS : Hid (w.heap.size < w1.heap.size) := hb1.lt
  have HF1 := Lib.hid hf1
  generalize hb : w1.heap.size = b at *
  have HBE := Lib.hid hb
  have bx := Blk.new_at w1 75 #[.int .i64 r, .slice (some ⟨w.heap.size, 0, none⟩) l l] HBE.out.symm
  have hr1' := hb1.alloc (.cells #[.int .i64 r, .slice (some ⟨w.heap.size, 0, none⟩) l l] 75)
  have hfr := hf1.alloc (.cells #[.int .i64 r, .slice (some ⟨w.heap.size, 0, none⟩) l l] 75)
  have HX := Lib.hid bx
  have HR := Lib.hid hr1'
  have HFR := Lib.hid hfr
  clear hown hgrow hb1 hf1 hb bx hr1' hfr
  generalize w1.alloc (.cells #[.int .i64 r, .slice (some ⟨w.heap.size, 0, none⟩) l l] 75) = w2 at *
  have NEW : Hid (∀ W, Calls Tryd.prog 78 #[.int .i64 r] W fun e w' => NewSet r W e w') := fun W => newBitSet_any W r hr1 hr
  go_loopw [17] (fun u wr => ∃ j : Nat, j ≤ l ∧ u = .int .i64 j ∧ Fr No w wr ∧ Blk wr b 75 #[.int .i64 r, .slice (some ⟨w.heap.size, 0, none⟩) l l] ∧ ∃ gs, RowsTo wr w.heap.size l r j w.heap.size gs (fun _ _ => false)) (fun u _ => l - (intOf u).toNat)
  case atStart => exact ⟨0, Nat.zero_le _, rfl, HFR.out, HX.out, _, HR.out, Nat.le_refl _, fun i hi => by omega, fun i i' hi => by omega⟩
  case round =>
    obtain ⟨j, hj, rfl, hfr, hbx, gs, hrows⟩ := hrel
    by_cases hlt : j < l
    · have c1 : wr.cell? ⟨b, 1, none⟩ = some (.slice (some ⟨w.heap.size, 0, none⟩) l l) := (hbx.cell 1).trans rfl
      have CELL : Hid (∀ w', Fr No wr w' → w'.cell? ⟨b, 1, none⟩ = some (.slice (some ⟨w.heap.size, 0, none⟩) l l) ∧ w'.cell? ⟨w.heap.size, j, none⟩ = some (.slice none 0 0) ∧ w'.frozen? ⟨w.heap.size, j, none⟩ = false) := fun w' hf =>
        ⟨((hbx.fr hf (fun h => h)).cell 1).trans rfl, by rw [(hrows.rows.fr hf (fun h => h)).cell j, RA_at hlt, if_neg (Nat.lt_irrefl j)], (hrows.rows.fr hf (fun h => h)).frozen j⟩
      have FIN : Hid (∀ w', NewSet r wr.drew (.returned (.slice (some ⟨wr.heap.size, 0, none⟩) (nw r) (nw r))) w' → Fr No w (w'.setCell ⟨w.heap.size, j, none⟩ (.slice (some ⟨wr.heap.size, 0, none⟩) (nw r) (nw r))) ∧ Blk (w'.setCell ⟨w.heap.size, j, none⟩ (.slice (some ⟨wr.heap.size, 0, none⟩) (nw r) (nw r))) b 75 #[.int .i64 r, .slice (some ⟨w.heap.size, 0, none⟩) l l] ∧ ∃ gs, RowsTo (w'.setCell ⟨w.heap.size, j, none⟩ (.slice (some ⟨wr.heap.size, 0, none⟩) (nw r) (nw r))) w.heap.size l r (j + 1) w.heap.size gs (fun _ _ => false)) := by
        intro w' hn
        obtain ⟨_, hf, hb⟩ := hn
        have hf' : Fr No wr w' := (Fr.refl No wr).drew.trans hf
        exact ⟨(hfr.trans hf').setCell (p := ⟨w.heap.size, j, none⟩) (.inr (Nat.le_refl _)) _, (hbx.fr hf' (fun h => h)).far (p := ⟨w.heap.size, j, none⟩) (by have := HS.out; show b ≠ w.heap.size; omega) _, _, hrows.more hlt hf' (Nat.le_refl _) hfr.size hb (BitsIs.new r) rfl⟩
      have nb : b ≠ w.heap.size := by have := HS.out; omega
      have nb' : w.heap.size ≠ b := by have := HS.out; omega
      clear hfr hbx hrows HX HR HFR
      go_wp2_with fail
      go_region_held3 (fun w' => w'.cell? ⟨b, 1, none⟩ = some (.slice (some ⟨w.heap.size, 0, none⟩) l l)) (go_keep)
        (first | (go_at_call 78; (with_reducible refine (NEW.out _).mono ?_); rintro e w3 hnew; have he := hnew.1; subst he; have HN := Lib.hid hnew; have d0 := CELL.out w3 ((Fr.refl No wr).drew.trans hnew.2.1); obtain ⟨d1, d2, d3⟩ := d0; clear hnew))
      have HFIN := Lib.hid (FIN.out _ HN.out)
      clear HN FIN CELL
      go_wp2_with fail
      go_roundw
      case rel => exact ⟨j + 1, by omega, by go_num, HFIN.out.1, HFIN.out.2.1, HFIN.out.2.2⟩
      case measure => simp [intOf]; omega
    · have hjl : j = l := by omega
      subst hjl
      have HE : Hid (NewRel j r w (.returned (Ptr b)) wr) := ⟨b, rfl, hfr, Nat.le_of_lt HS.out, _, gs, hbx, hrows⟩
      clear hfr hbx hrows HX HR HFR
      go_wp2
      go_ret
      exact HE.out

/-- what is read: a relation of bit sets, or nil -/
def ReadR (L R : Int) (ps : List Int) (w : World) (e : Ending) (w' : World) : Prop :=
  Fr No w w' ∧ ((∃ (l r b : Nat), L = l ∧ R = r ∧ RelOk L R ps ∧ e = .returned (Ptr b) ∧ RelAt w' b l r w.heap.size (memR r ps)) ∨ (¬ RelOk L R ps ∧ e = .returned (.pointer none)))

/-- the value of a relation -/
abbrev RV (L R : Int) (A : Option Addr) (n c : Nat) : Value := .agg #[.int .i64 L, .int .i64 R, .slice A n c]

/-- pairs so far are fine -/
structure OkTo (L R : Int) (ps : List Int) (j : Nat) (last : Int) : Prop where
  asc : (ps.take j).Pairwise (· < ·)
  bnd : ∀ p ∈ ps.take j, 0 ≤ p ∧ p < L * R ∧ p ≤ last
  lst : (j = 0 ∧ last = -1) ∨ (0 < j ∧ ps[j - 1]? = some last)
  low : -1 ≤ last

theorem OkTo.start (L R : Int) (ps : List Int) : OkTo L R ps 0 (-1) := ⟨by simp, by simp, .inl ⟨rfl, rfl⟩, by omega⟩

theorem OkTo.more {L R : Int} {ps : List Int} {j : Nat} {last z : Int} (h : OkTo L R ps j last) (hz : ps[j]? = some z) (h1 : last < z) (h2 : z < L * R) : OkTo L R ps (j + 1) z := by
  have e : ps.take (j + 1) = ps.take j ++ [z] := by rw [List.take_add_one, hz]; rfl
  have := h.low
  refine ⟨?_, ?_, .inr ⟨by omega, hz⟩, by omega⟩
  · rw [e, List.pairwise_append]
    refine ⟨h.asc, by simp, fun a ha b hb => ?_⟩
    have := (h.bnd a ha).2.2
    have := List.mem_singleton.1 hb
    omega
  · intro p hp
    rw [e] at hp
    rcases List.mem_append.1 hp with hp | hp
    · have := h.bnd p hp; omega
    · have := List.mem_singleton.1 hp; omega

theorem OkTo.bad {L R : Int} {ps : List Int} {j : Nat} {last z : Int} (h : OkTo L R ps j last) (hz : ps[j]? = some z) (h1 : z ≤ last ∨ L * R ≤ z) : ¬ RelOk L R ps := by
  intro ok
  have hb := ok.bnd z (List.mem_of_getElem? hz)
  rcases h1 with h1 | h1
  · rcases h.lst with ⟨rfl, rfl⟩ | ⟨h0, hl⟩
    · omega
    · have hlt : j < ps.length := (List.getElem?_eq_some_iff.1 hz).1
      have h3 := List.pairwise_iff_getElem.1 ok.asc (j - 1) j (by omega) hlt (by omega)
      rw [List.getElem?_eq_getElem (by omega)] at hl hz
      injection hl with hl
      injection hz with hz
      omega
  · omega

theorem OkTo.done {L R : Int} {ps : List Int} {last : Int} (h : OkTo L R ps ps.length last) (hL : 1 ≤ L ∧ L ≤ 128) (hR : 1 ≤ R ∧ R ≤ 128) : RelOk L R ps := by
  have h1 := h.asc
  have h2 := h.bnd
  rw [List.take_length] at h1 h2
  exact ⟨hL, hR, h1, fun p hp => ⟨(h2 p hp).1, (h2 p hp).2.1⟩⟩

theorem memR_nil (r : Nat) : memR r [] = fun _ _ => false := by
  funext i j; simp [memR]

/-- one pair more -/
theorem memR_more {r : Nat} {ps : List Int} {z j : Nat} (hz : ps[j]? = some (z : Int)) (i k : Nat) (hk : k < r) : memR r (ps.take (j + 1)) i k = (memR r (ps.take j) i k || (decide (i = z / r) && decide (k = z % r))) := by
  have e : ps.take (j + 1) = ps.take j ++ [(z : Int)] := by rw [List.take_add_one, hz]; rfl
  have hr : 0 < r := by omega
  unfold memR
  rw [e]
  have : (((i * r + k : Nat) : Int) ∈ ps.take j ++ [(z : Int)]) ↔ (((i * r + k : Nat) : Int) ∈ ps.take j ∨ (i = z / r ∧ k = z % r)) := by
    rw [List.mem_append, List.mem_singleton]
    constructor
    · rintro (h | h)
      · exact .inl h
      · right
        have h : i * r + k = z := by omega
        rw [← h, Nat.mul_comm, Nat.mul_add_div hr, Nat.div_eq_of_lt hk, Nat.mul_add_mod, Nat.mod_eq_of_lt hk]
        omega
    · rintro (h | ⟨h1, h2⟩)
      · exact .inl h
      · right
        rw [h1, h2, Nat.div_add_mod']
  rw [← Bool.decide_and, ← Bool.decide_or]
  exact decide_eq_decide.2 this

/-- what an addition does to a relation -/
theorem RelAt.add {w w' : World} {b l r B : Nat} {R : Nat → Nat → Bool} {Rb : Nat} {gs : Nat → Nat} (h0 : B ≤ b) (h1 : Blk w b 75 #[.int .i64 r, .slice (some ⟨Rb, 0, none⟩) l l]) (h2 : RowsTo w Rb l r l B gs R) {i k : Nat} (hi : i < l)
    (ha : AddP (gs i) r (fun j => R i j || decide (j = k)) w w') : RelAt w' b l r B (fun i' j => R i' j || (decide (i' = i) && decide (j = k))) := by
  obtain ⟨hf, ws, hw, hbits⟩ := ha
  obtain ⟨_, ws0, hw0, _⟩ := h2.each i hi
  have n1 : ¬ One (gs i) b := fun e => by
    have e : b = gs i := e
    subst e
    exact absurd (h1.eq hw0).1 (by decide)
  have n2 : ¬ One (gs i) Rb := fun e => by
    have e : Rb = gs i := e
    subst e
    exact absurd (h2.rows.eq hw0).1 (by decide)
  refine ⟨h0, Rb, gs, h1.fr hf n1, h2.rows.fr hf n2, h2.low, fun i' hi' => ?_, h2.inj⟩
  obtain ⟨h3, ws', h4, h5⟩ := h2.each i' hi'
  by_cases e : i' = i
  · subst e
    exact ⟨h3, ws, hw, hbits.congr (fun j _ => by simp)⟩
  · exact ⟨h3, ws', h4.fr hf (fun h => e (h2.inj i' i hi' hi h)), h5.congr (fun j _ => by simp [e])⟩
end Go.Proofs.YtkofjodadcchhaaDoor
