/- RelValid, RelHas of the program and of the model; the laws' helpers for relations. -/
import Derived.Test.YtloecimlimoanaaGreatDoorRdr
import Derived.Test.YtloecimlimoanaaGreatDoorShas
import Derived.Deep.RegionWith
namespace Go.Proofs.YtloecimlimoanaaGreatDoor
open Go.RowKit Go.ChangeMaps

/-- two numbers are related by a valid relation -/
def HasRel (L R : Int) (ps : List Int) (i j : Int) : Prop := RelOk L R ps ∧ (0 ≤ i ∧ i < L) ∧ (0 ≤ j ∧ j < R) ∧ i * R + j ∈ ps

def HasPr (L R : Int) (ps : List Int) (i j : Int) (w : World) (e : Ending) (w' : World) : Prop := ∃ b : Bool, e = .returned (.bool b) ∧ (b = true ↔ HasRel L R ps i j) ∧ Fr No w w'

theorem memR_has {l r i j : Nat} {ps : List Int} (hok : RelOk l r ps) (hi : i < l) (hj : j < r) : memR r ps i j = true ↔ HasRel l r ps i j := by
  unfold memR HasRel
  rw [decide_eq_true_iff]
  constructor
  · intro h
    exact ⟨hok, ⟨by omega, by omega⟩, ⟨by omega, by omega⟩, by simpa using h⟩
  · rintro ⟨_, _, _, h⟩
    simpa using h

set_option maxRecDepth 100000 in
set_option maxHeartbeats 1000000 in
theorem implRelHas (w : World) (L R : Int) (A : Option Addr) (c : Nat) (ps : List Int) (i j : Int) (hp : ISl w A ps) (hn : ps.length ≤ 2000000) :
    Calls Tryz.prog 16 #[RV L R A ps.length c, .int .i64 i, .int .i64 j] w fun e w' => HasPr L R ps i j w e w' := by
  have HFB : Hid (Fr No w (w.alloc (.cells #[.int .i64 L, .int .i64 R, .slice A ps.length c] 27))) := (Fr.refl No w).alloc _
  have HBX : Hid (Blk (w.alloc (.cells #[.int .i64 L, .int .i64 R, .slice A ps.length c] 27)) w.heap.size 27 #[.int .i64 L, .int .i64 R, .slice A ps.length c]) := Blk.new _ _ _
  have RD : Hid (∀ W, Fr No w W → Calls Tryz.prog 31 #[RV L R A ps.length c] W fun e w' => ReadR L R ps W e w') := fun W hf => readRelation_any W L R A c ps (hp.keep hf (fun _ h => h.elim)) hn
  clear hp
  go_enter Tryz.func16, Tryz.ntmps16
  go_wp2_with fail
  refine (RD.out _ HFB.out).mono ?_
  rintro e w1 ⟨hf, hr⟩
  have HF := Lib.hid (HFB.out.trans hf)
  rcases hr with ⟨l, r, b, rfl, rfl, hok, rfl, hrel⟩ | ⟨hno, rfl⟩
  · have HOK := Lib.hid hok
    have hbx := HBX.out.fr hf (fun h => h)
    have d0 : w1.cell? ⟨w.heap.size, 0, none⟩ = some (.int .i64 l) := (hbx.cell 0).trans rfl
    have d1 : w1.cell? ⟨w.heap.size, 1, none⟩ = some (.int .i64 r) := (hbx.cell 1).trans rfl
    obtain ⟨⟨l0, l1⟩, ⟨r0, r1⟩, _, _⟩ := hok
    have HREL := Lib.hid hrel
    clear hrel hf hbx HBX
    by_cases hi0 : 0 ≤ i
    · by_cases hi1 : i < (l : Int)
      · by_cases hj0 : 0 ≤ j
        · by_cases hj1 : j < (r : Int)
          · obtain ⟨i, rfl⟩ : ∃ n : Nat, i = n := ⟨i.toNat, by omega⟩
            obtain ⟨j, rfl⟩ : ∃ n : Nat, j = n := ⟨j.toNat, by omega⟩
            obtain ⟨_, Rb, gs, hbb, hrows⟩ := HREL.out
            have hil : i < l := by omega
            have hjr : j < r := by omega
            obtain ⟨_, ws, hws, hbits⟩ := hrows.each i hil
            have e1 : w1.cell? ⟨b, 1, none⟩ = some (.slice (some ⟨Rb, 0, none⟩) l l) := (hbb.cell 1).trans rfl
            have e2 : w1.cell? ⟨Rb, i, none⟩ = some (.slice (some ⟨gs i, 0, none⟩) (nw r) (nw r)) := by rw [hrows.rows.cell, RA_at hil, if_pos hil]
            have HAS : Hid (Calls Tryz.prog 27 #[.slice (some ⟨gs i, 0, none⟩) (nw r) (nw r), .int .i64 j] w1 fun e w' => e = .returned (.bool (memR r ps i j)) ∧ w1 = w') := bsHas_any w1 _ ws r j _ hws hbits hjr (by omega)
            have HEND : Hid (memR r ps i j = true ↔ HasRel l r ps i j) := memR_has HOK.out hil hjr
            clear hbb hrows hws hbits HREL
            go_wp2_with fail
            refine HAS.out.mono ?_
            rintro e W ⟨rfl, rfl⟩
            go_wp2_with fail
            go_ret
            exact ⟨_, rfl, HEND.out, HF.out⟩
          · go_wp2_with fail
            go_ret
            exact ⟨false, rfl, ⟨fun h => (by cases h), fun h => by have := h.2.2.1; omega⟩, HF.out⟩
        · have hj0' : j < 0 := by omega
          go_wp2_with fail
          go_ret
          exact ⟨false, rfl, ⟨fun h => (by cases h), fun h => by have := h.2.2.1; omega⟩, HF.out⟩
      · go_wp2_with fail
        go_ret
        exact ⟨false, rfl, ⟨fun h => (by cases h), fun h => by have := h.2.1; omega⟩, HF.out⟩
    · have hi0' : i < 0 := by omega
      go_wp2_with fail
      go_ret
      exact ⟨false, rfl, ⟨fun h => (by cases h), fun h => by have := h.2.1; omega⟩, HF.out⟩
  · have HNO := Lib.hid hno
    clear hf hno
    go_wp2_with fail
    go_ret
    exact ⟨false, rfl, ⟨fun h => (by cases h), fun h => (HNO.out h.1).elim⟩, HF.out⟩
end Go.Proofs.YtloecimlimoanaaGreatDoor
