/- RelValid, RelHas of the program and of the model; the laws' helpers for relations. -/
import Derived.Test.YticoeooeeejboaaDoorRdr
import Derived.Test.YticoeooeeejboaaDoorShas
import Derived.Deep.RegionWith
namespace Go.Proofs.YticoeooeeejboaaDoor
open Go.RowKit Go.ChangeMaps

set_option maxHeartbeats 1000000 in
theorem implRelValid (w : World) (L R : Int) (A : Option Addr) (c : Nat) (ps : List Int) (hp : ISl w A ps) (hn : ps.length ≤ 2000000) :
    Calls Tryd.prog 25 #[RV L R A ps.length c] w fun e w' => ValP L R ps w e w' := by
  have HFB : Hid (Fr No w (w.alloc (.cells #[.int .i64 L, .int .i64 R, .slice A ps.length c] 25))) := (Fr.refl No w).alloc _
  have RD : Hid (∀ W, Fr No w W → Calls Tryd.prog 29 #[RV L R A ps.length c] W fun e w' => ReadR L R ps W e w') := fun W hf => readRelation_any W L R A c ps (hp.keep hf (fun _ h => h.elim)) hn
  clear hp
  go_enter Tryd.func25, Tryd.ntmps25
  go_wp2_with fail
  refine (RD.out _ HFB.out).mono ?_
  rintro e w1 ⟨hf, hr⟩
  have HF := Lib.hid (HFB.out.trans hf)
  rcases hr with ⟨l, r, b, rfl, rfl, hok, rfl, hrel⟩ | ⟨hno, rfl⟩
  · have HOK := Lib.hid hok
    clear hrel hf hok
    go_wp2_with fail
    go_ret
    exact ⟨true, rfl, ⟨fun _ => HOK.out, fun _ => rfl⟩, HF.out⟩
  · have HNO := Lib.hid hno
    clear hf hno
    go_wp2_with fail
    go_ret
    exact ⟨false, rfl, ⟨fun h => (by cases h), fun h => (HNO.out h).elim⟩, HF.out⟩

/-- two numbers are related by a valid relation -/
def HasRel (L R : Int) (ps : List Int) (i j : Int) : Prop := RelOk L R ps ∧ (0 ≤ i ∧ i < L) ∧ (0 ≤ j ∧ j < R) ∧ i * R + j ∈ ps

def HasP (L R : Int) (ps : List Int) (i j : Int) (w : World) (e : Ending) (w' : World) : Prop := ∃ b : Bool, e = .returned (.bool b) ∧ (b = true ↔ HasRel L R ps i j) ∧ Fr No w w'

theorem memR_has {l r i j : Nat} {ps : List Int} (hok : RelOk l r ps) (hi : i < l) (hj : j < r) : memR r ps i j = true ↔ HasRel l r ps i j := by
  unfold memR HasRel
  rw [decide_eq_true_iff]
  constructor
  · intro h
    exact ⟨hok, ⟨by omega, by omega⟩, ⟨by omega, by omega⟩, by simpa using h⟩
  · rintro ⟨_, _, _, h⟩
    simpa using h

set_option maxRecDepth 100000 in
set_option maxHeartbeats 1000000 in
theorem specRelHas (w : World) (L R : Int) (A : Option Addr) (c : Nat) (ps : List Int) (i j : Int) (hp : ISl w A ps) (hn : ps.length ≤ 2000000) :
    Calls Tryd.prog 10 #[RV L R A ps.length c, .int .i64 i, .int .i64 j] w fun e w' => HasP L R ps i j w e w' := by
  have HFB : Hid (Fr No w (w.alloc (.cells #[.int .i64 L, .int .i64 R, .slice A ps.length c] 25))) := (Fr.refl No w).alloc _
  have HBX : Hid (Blk (w.alloc (.cells #[.int .i64 L, .int .i64 R, .slice A ps.length c] 25)) w.heap.size 25 #[.int .i64 L, .int .i64 R, .slice A ps.length c]) := Blk.new _ _ _
  have IN : Hid (∀ (W : World) (a b c : Int), Calls Tryd.prog 32 #[.int .i64 a, .int .i64 b, .int .i64 c] W fun e w' => e = .returned (.bool (decide (b ≤ a ∧ a ≤ c))) ∧ W = w') := fun W a b c => in_any W a b c
  have RD : Hid (∀ W, Fr No w W → Calls Tryd.prog 31 #[RV L R A ps.length c] W fun e w' => ValP L R ps W e w') := fun W hf => specRelValid W L R A c ps (hp.keep hf (fun _ h => h.elim)) hn
  have HP := Lib.hid hp
  clear hp
  go_enter Tryd.func10, Tryd.ntmps10
  go_wp2_with fail
  refine (RD.out _ HFB.out).mono ?_
  rintro e w1 ⟨b, rfl, hb, hf⟩
  have HB := Lib.hid hb
  have HF := Lib.hid (HFB.out.trans hf)
  cases b with
  | false =>
    clear hf hb
    go_wp2_with fail
    go_ret
    exact ⟨false, rfl, ⟨fun h => (by cases h), fun h => (HB.out.2 h.1)⟩, HF.out⟩
  | true =>
    have hok : RelOk L R ps := hb.1 rfl
    have HOK := Lib.hid hok
    have hbx := HBX.out.fr hf (fun h => h)
    have d0 : w1.cell? ⟨w.heap.size, 0, none⟩ = some (.int .i64 L) := (hbx.cell 0).trans rfl
    have d1 : w1.cell? ⟨w.heap.size, 1, none⟩ = some (.int .i64 R) := (hbx.cell 1).trans rfl
    have d2 : w1.cell? ⟨w.heap.size, 2, none⟩ = some (.slice A ps.length c) := (hbx.cell 2).trans rfl
    obtain ⟨⟨l0, l1⟩, ⟨r0, r1⟩, _, _⟩ := hok
    clear hf hb hbx HBX
    go_wp2_with fail
    refine (IN.out _ _ _ _).mono ?_
    rintro e W ⟨rfl, rfl⟩
    by_cases hi : 0 ≤ i ∧ i ≤ L - 1
    · have hid : decide (0 ≤ i ∧ i ≤ L - 1) = true := by simpa using hi
      rw [hid]
      go_wp2_with fail
      refine (IN.out _ _ _ _).mono ?_
      rintro e W ⟨rfl, rfl⟩
      by_cases hj : 0 ≤ j ∧ j ≤ R - 1
      · have hjd : decide (0 ≤ j ∧ j ≤ R - 1) = true := by simpa using hj
        rw [hjd]
        obtain ⟨l, rfl⟩ : ∃ l : Nat, L = l := ⟨L.toNat, by omega⟩
        obtain ⟨r, rfl⟩ : ∃ r : Nat, R = r := ⟨R.toNat, by omega⟩
        obtain ⟨i, rfl⟩ : ∃ n : Nat, i = n := ⟨i.toNat, by omega⟩
        obtain ⟨j, rfl⟩ : ∃ n : Nat, j = n := ⟨j.toNat, by omega⟩
        have HI := Lib.hid hi
        have HJ := Lib.hid hj
        clear hid hjd hi hj
        go_wp2_with fail
        refine (has6_any _ l r A c ps (HP.out.keep HF.out (fun _ h => h.elim)) hn HOK.out i j (by have := HI.out; omega) (by have := HJ.out; omega)).mono ?_
        rintro e w2 ⟨rfl, hf2⟩
        have HF2 := Lib.hid (HF.out.trans hf2)
        clear hf2
        go_wp2_with fail
        go_ret
        exact ⟨_, rfl, memR_has HOK.out (by have := HI.out; omega) (by have := HJ.out; omega), HF2.out⟩
      · have hjd : decide (0 ≤ j ∧ j ≤ R - 1) = false := by simpa using hj
        rw [hjd]
        have HJ := Lib.hid hj
        clear hid hjd hi hj
        go_wp2_with fail
        go_ret
        exact ⟨false, rfl, ⟨fun h => (by cases h), fun h => by have := h.2.2.1; have := HJ.out; omega⟩, HF.out⟩
    · have hid : decide (0 ≤ i ∧ i ≤ L - 1) = false := by simpa using hi
      rw [hid]
      have HI := Lib.hid hi
      clear hid hi
      go_wp2_with fail
      go_ret
      exact ⟨false, rfl, ⟨fun h => (by cases h), fun h => by have := h.2.1; have := HI.out; omega⟩, HF.out⟩

set_option maxRecDepth 100000 in
set_option maxHeartbeats 1000000 in
theorem implRelHas (w : World) (L R : Int) (A : Option Addr) (c : Nat) (ps : List Int) (i j : Int) (hp : ISl w A ps) (hn : ps.length ≤ 2000000) :
    Calls Tryd.prog 9 #[RV L R A ps.length c, .int .i64 i, .int .i64 j] w fun e w' => HasP L R ps i j w e w' := by
  have HFB : Hid (Fr No w (w.alloc (.cells #[.int .i64 L, .int .i64 R, .slice A ps.length c] 25))) := (Fr.refl No w).alloc _
  have HBX : Hid (Blk (w.alloc (.cells #[.int .i64 L, .int .i64 R, .slice A ps.length c] 25)) w.heap.size 25 #[.int .i64 L, .int .i64 R, .slice A ps.length c]) := Blk.new _ _ _
  have RD : Hid (∀ W, Fr No w W → Calls Tryd.prog 29 #[RV L R A ps.length c] W fun e w' => ReadR L R ps W e w') := fun W hf => readRelation_any W L R A c ps (hp.keep hf (fun _ h => h.elim)) hn
  clear hp
  go_enter Tryd.func9, Tryd.ntmps9
  go_wp2_with fail
  refine (RD.out _ HFB.out).mono ?_
  rintro e w1 ⟨hf, hr⟩
  have HF := Lib.hid (HFB.out.trans hf)
  rcases hr with ⟨l, r, b, rfl, rfl, hok, rfl, hrel⟩ | ⟨hno, rfl⟩
  · have HOK := Lib.hid hok
    have hbx := HBX.out.fr hf (fun h => h)
    have d0 : w1.cell? ⟨w.heap.size, 0, none⟩ = some (.int .i64 l) := (hbx.cell 0).trans rfl
    have d1 : w1.cell? ⟨w.heap.size, 1, none⟩ = some (.int .i64 r) := (hbx.cell 1).trans rfl
    obtain ⟨⟨l0, l1⟩, ⟨r0, r1⟩, _, _⟩ := hok
    have HREL := Lib.hid hrel
    clear hrel hf hbx HBX
    by_cases hi0 : 0 ≤ i
    · by_cases hi1 : i < (l : Int)
      · by_cases hj0 : 0 ≤ j
        · by_cases hj1 : j < (r : Int)
          · obtain ⟨i, rfl⟩ : ∃ n : Nat, i = n := ⟨i.toNat, by omega⟩
            obtain ⟨j, rfl⟩ : ∃ n : Nat, j = n := ⟨j.toNat, by omega⟩
            obtain ⟨_, Rb, gs, hbb, hrows⟩ := HREL.out
            have hil : i < l := by omega
            have hjr : j < r := by omega
            obtain ⟨_, ws, hws, hbits⟩ := hrows.each i hil
            have e1 : w1.cell? ⟨b, 1, none⟩ = some (.slice (some ⟨Rb, 0, none⟩) l l) := (hbb.cell 1).trans rfl
            have e2 : w1.cell? ⟨Rb, i, none⟩ = some (.slice (some ⟨gs i, 0, none⟩) (nw r) (nw r)) := by rw [hrows.rows.cell, RA_at hil, if_pos hil]
            have HAS : Hid (Calls Tryd.prog 30 #[.slice (some ⟨gs i, 0, none⟩) (nw r) (nw r), .int .i64 j] w1 fun e w' => e = .returned (.bool (memR r ps i j)) ∧ w1 = w') := bsHas_any w1 _ ws r j _ hws hbits hjr (by omega)
            have HEND : Hid (memR r ps i j = true ↔ HasRel l r ps i j) := memR_has HOK.out hil hjr
            clear hbb hrows hws hbits HREL
            go_wp2_with fail
            refine HAS.out.mono ?_
            rintro e W ⟨rfl, rfl⟩
            go_wp2_with fail
            go_ret
            exact ⟨_, rfl, HEND.out, HF.out⟩
          · go_wp2_with fail
            go_ret
            exact ⟨false, rfl, ⟨fun h => (by cases h), fun h => by have := h.2.2.1; omega⟩, HF.out⟩
        · have hj0' : j < 0 := by omega
          go_wp2_with fail
          go_ret
          exact ⟨false, rfl, ⟨fun h => (by cases h), fun h => by have := h.2.2.1; omega⟩, HF.out⟩
      · go_wp2_with fail
        go_ret
        exact ⟨false, rfl, ⟨fun h => (by cases h), fun h => by have := h.2.1; omega⟩, HF.out⟩
    · have hi0' : i < 0 := by omega
      go_wp2_with fail
      go_ret
      exact ⟨false, rfl, ⟨fun h => (by cases h), fun h => by have := h.2.1; omega⟩, HF.out⟩
  · have HNO := Lib.hid hno
    clear hf hno
    go_wp2_with fail
    go_ret
    exact ⟨false, rfl, ⟨fun h => (by cases h), fun h => (HNO.out h.1).elim⟩, HF.out⟩
end Go.Proofs.YticoeooeeejboaaDoor
