/- Relations of the model: valid ones; what is related. · What is related, in the model: by halving. -/
import Derived.Test.YticoeooeeejboaaIn6
import Derived.Test.YticoeooeeejboaaRdr
import Derived.Deep.QuietTactic
import Derived.BigQuiet
/- Relations of the model: valid ones; what is related. -/
namespace Go.Proofs.Yticoeooeeejboaa
open Go.RowKit Go.ChangeMaps

/-- whether a relation is valid -/
def ValP (L R : Int) (ps : List Int) (w : World) (e : Ending) (w' : World) : Prop := ∃ b : Bool, e = .returned (.bool b) ∧ (b = true ↔ RelOk L R ps) ∧ Fr No w w'

theorem OkTo.prev {L R : Int} {ps : List Int} {j : Nat} {last : Int} (h : OkTo L R ps (j + 1) last) : ps[j]? = some last := by
  rcases h.lst with ⟨h, _⟩ | ⟨_, h⟩
  · omega
  · exact h

set_option maxRecDepth 100000 in
set_option maxHeartbeats 2000000 in
theorem specRelValid (w : World) (L R : Int) (A : Option Addr) (c : Nat) (ps : List Int) (hp : ISl w A ps) (hn : ps.length ≤ 2000000) :
    Calls Try.prog 6 #[RV L R A ps.length c] w fun e w' => ValP L R ps w e w' := by
  have IN : Hid (∀ (W : World) (a b c : Int), Calls Try.prog 11 #[.int .i64 a, .int .i64 b, .int .i64 c] W fun e w' => e = .returned (.bool (decide (b ≤ a ∧ a ≤ c))) ∧ W = w') := fun W a b c => in_any W a b c
  have HP := Lib.hid hp
  have HN := Lib.hid hn
  clear hp
  have hnI : (ps.length : Int) ≤ 2000000 := by omega
  have HFB : Hid (Fr No w (w.alloc (.cells #[.int .i64 L, .int .i64 R, .slice A ps.length c] 25))) := (Fr.refl No w).alloc _
  have HBX : Hid (Blk (w.alloc (.cells #[.int .i64 L, .int .i64 R, .slice A ps.length c] 25)) w.heap.size 25 #[.int .i64 L, .int .i64 R, .slice A ps.length c]) := Blk.new _ _ _
  by_cases hL : 1 ≤ L ∧ L ≤ 128
  · have hLd : decide (1 ≤ L ∧ L ≤ 128) = true := by simpa using hL
    have HLD := Lib.hid hLd
    by_cases hR : 1 ≤ R ∧ R ≤ 128
    · have hRd : decide (1 ≤ R ∧ R ≤ 128) = true := by simpa using hR
      have HRD := Lib.hid hRd
      have HLL := Lib.hid hL
      have HRR := Lib.hid hR
      have hm0 : 0 ≤ L * R := Int.mul_nonneg (by omega) (by omega)
      have hm1 : L * R ≤ 16384 := by
        obtain ⟨l, rfl⟩ : ∃ l : Nat, L = l := ⟨L.toNat, by omega⟩
        obtain ⟨r, rfl⟩ : ∃ r : Nat, R = r := ⟨R.toNat, by omega⟩
        have := Nat.mul_le_mul (show l ≤ 128 by omega) (show r ≤ 128 by omega)
        rw [← Int.natCast_mul]; omega
      obtain ⟨hL1, hL2⟩ := hL
      obtain ⟨hR1, hR2⟩ := hR
      clear hLd hRd hn
      go_enter Try.func6, Try.ntmps6
      go_wp2_with fail
      refine (IN.out _ _ _ _).mono ?_
      rintro e W ⟨rfl, rfl⟩
      rw [HLD.out]
      go_wp2_with fail
      refine (IN.out _ _ _ _).mono ?_
      rintro e W ⟨rfl, rfl⟩
      rw [HRD.out]
      generalize w.alloc (.cells #[.int .i64 L, .int .i64 R, .slice A ps.length c] 25) = W at *
      go_wp2_with fail
      go_loopw [3] (fun u wr => ∃ (j : Nat) (last : Int), j ≤ ps.length ∧ u = .int .i64 j ∧ OkTo L R ps j last ∧ ∃ m, wr = W.drewN m) (fun u _ => ps.length - (intOf u).toNat)
      case atStart => exact ⟨0, -1, Nat.zero_le _, rfl, OkTo.start _ _ _, 0, rfl⟩
      case round =>
        obtain ⟨j, last, hj, rfl, hok, mm, rfl⟩ := hrel
        have HOK := Lib.hid hok
        have HFR : Hid (Fr No w (W.drewN mm)) := HFB.out.drewN mm
        have d0 : (W.drewN mm).cell? ⟨w.heap.size, 0, none⟩ = some (.int .i64 L) := (HBX.out.cell 0).trans rfl
        have d1 : (W.drewN mm).cell? ⟨w.heap.size, 1, none⟩ = some (.int .i64 R) := (HBX.out.cell 1).trans rfl
        have d2 : (W.drewN mm).cell? ⟨w.heap.size, 2, none⟩ = some (.slice A ps.length c) := (HBX.out.cell 2).trans rfl
        have NX : Hid (∀ n, ∃ m, (W.drewN mm).drewN n = W.drewN m) := fun n => ⟨mm + n, by rw [World.drewN_drewN]⟩
        clear hok
        by_cases hlt : j < ps.length
        · obtain ⟨z, hzj⟩ : ∃ z, ps[j]? = some z := ⟨_, List.getElem?_eq_getElem hlt⟩
          obtain ⟨g, o, rfl, hc0⟩ := HP.out j z hzj
          have hc : (W.drewN mm).cell? ⟨g, o + j, none⟩ = some (.int .i64 z) := ((HFB.out.drewN mm).cell (p := ⟨g, o + j, none⟩) (block_lt hc0) (fun h => h)).trans hc0
          have HZJ := Lib.hid hzj
          clear hc0 hzj
          by_cases hin : 0 ≤ z ∧ z ≤ L * R - 1
          · have hind : decide (0 ≤ z ∧ z ≤ L * R - 1) = true := by simpa using hin
            have CIN : Hid (∀ n, Calls Try.prog 11 #[.int .i64 z, .int .i64 0, .int .i64 (L * R - 1)] ((W.drewN mm).drewN n) fun e w' => e = .returned (.bool true) ∧ ∃ m, w' = (W.drewN mm).drewN m) := fun n => Calls.quiet_of ((IN.out _ _ _ _).mono fun e w' h => by rw [hind] at h; exact ⟨h.1, 0, h.2.symm⟩)
            clear IN
            have HWM : Hid (∃ V, V = W.drewN mm) := ⟨_, rfl⟩
            cases j with
            | zero =>
              have hok : Hid (OkTo L R ps 1 z) := by
                have := HOK.out.low
                refine HOK.out.more HZJ.out ?_ (by omega)
                rcases HOK.out.lst with ⟨_, h⟩ | ⟨h, _⟩ <;> omega
              have hc0 : (W.drewN mm).cell? ⟨g, o, none⟩ = some (.int .i64 z) := hc
              clear hc
              generalize W.drewN mm = V at *
              go_wp2_with fail
              go_quiet ((go_at_call 11; with_reducible exact CIN.out _))
              go_wp2_with fail
              go_roundw
              case rel => exact ⟨1, z, by omega, by go_num, hok.out, NX.out _⟩
              case measure => simp [intOf]; omega
            | succ j =>
              obtain ⟨g', o', e, hcp0⟩ := HP.out j last HOK.out.prev
              obtain ⟨rfl, rfl⟩ : g = g' ∧ o = o' := by
                simp only [Option.some.injEq, Addr.mk.injEq, and_true] at e
                exact e
              have hcp : (W.drewN mm).cell? ⟨g, o + j, none⟩ = some (.int .i64 last) := ((HFB.out.drewN mm).cell (p := ⟨g, o + j, none⟩) (block_lt hcp0) (fun h => h)).trans hcp0
              clear hcp0 e
              have hjI : ((j + 1 : Nat) : Int) - 1 = (j : Int) := by omega
              have hjI2 : (0 : Int) < ((j + 1 : Nat) : Int) := by omega
              by_cases hle : z ≤ last
              · have hld : decide (z ≤ last) = true := by simpa using hle
                have HBAD : Hid (∀ w', (∃ n, w' = W.drewN n) → ValP L R ps w (.returned (.bool false)) w') := by
                  rintro _ ⟨n, rfl⟩
                  exact ⟨false, rfl, ⟨fun h => (by cases h), fun h => (HOK.out.bad HZJ.out (.inl hle) h).elim⟩, HFB.out.drewN n⟩
                generalize W.drewN mm = V at *
                go_wp2_with fail
                go_quiet ((go_at_call 11; with_reducible exact CIN.out _))
                go_wp2_with fail
                go_ret
                exact HBAD.out _ (NX.out _)
              · have hld : decide (z ≤ last) = false := by simpa using hle
                have hle' : last < z := by omega
                have hok : Hid (OkTo L R ps (j + 1 + 1) z) := HOK.out.more HZJ.out hle' (by omega)
                clear hle
                generalize W.drewN mm = V at *
                go_wp2_with fail
                go_quiet ((go_at_call 11; with_reducible exact CIN.out _))
                go_wp2_with fail
                go_roundw
                case rel => exact ⟨j + 1 + 1, z, by omega, by go_num, hok.out, NX.out _⟩
                case measure => simp [intOf]; omega
          · have hind : decide (0 ≤ z ∧ z ≤ L * R - 1) = false := by simpa using hin
            have CIN : Hid (∀ n, Calls Try.prog 11 #[.int .i64 z, .int .i64 0, .int .i64 (L * R - 1)] ((W.drewN mm).drewN n) fun e w' => e = .returned (.bool false) ∧ ∃ m, w' = (W.drewN mm).drewN m) := fun n => Calls.quiet_of ((IN.out _ _ _ _).mono fun e w' h => by rw [hind] at h; exact ⟨h.1, 0, h.2.symm⟩)
            have HBAD : Hid (∀ w', (∃ n, w' = W.drewN n) → ValP L R ps w (.returned (.bool false)) w') := by
              rintro _ ⟨n, rfl⟩
              refine ⟨false, rfl, ⟨fun h => (by cases h), fun h => ?_⟩, HFB.out.drewN n⟩
              have := h.bnd z (List.mem_of_getElem? HZJ.out)
              omega
            clear IN
            generalize W.drewN mm = V at *
            go_wp2_with fail
            go_quiet ((go_at_call 11; with_reducible exact CIN.out _))
            go_wp2_with fail
            go_ret
            exact HBAD.out _ (NX.out _)
        · have hjl : j = ps.length := by omega
          have HE : Hid (∀ w', (∃ n, w' = W.drewN n) → ValP L R ps w (.returned (.bool true)) w') := by
            rintro _ ⟨n, rfl⟩
            have := HOK.out
            rw [hjl] at this
            exact ⟨true, rfl, ⟨fun _ => this.done HLL.out HRR.out, fun _ => rfl⟩, HFB.out.drewN n⟩
          have hnlt : ¬ (j : Int) < (ps.length : Int) := by omega
          generalize W.drewN mm = V at *
          go_wp2_with fail
          go_ret
          exact HE.out _ (NX.out 0)
    · have hRd : decide (1 ≤ R ∧ R ≤ 128) = false := by simpa using hR
      have HRD := Lib.hid hRd
      have HE : Hid (ValP L R ps w (.returned (.bool false)) (w.alloc (.cells #[.int .i64 L, .int .i64 R, .slice A ps.length c] 25))) := ⟨false, rfl, ⟨fun h => (by cases h), fun h => (hR h.right).elim⟩, HFB.out⟩
      clear hR hRd HP HFB hL hLd HBX
      go_enter Try.func6, Try.ntmps6
      go_wp2_with fail
      refine (IN.out _ _ _ _).mono ?_
      rintro e W ⟨rfl, rfl⟩
      rw [HLD.out]
      go_wp2_with fail
      refine (IN.out _ _ _ _).mono ?_
      rintro e W ⟨rfl, rfl⟩
      rw [HRD.out]
      go_wp2_with fail
      go_ret
      exact HE.out
  · have hLd : decide (1 ≤ L ∧ L ≤ 128) = false := by simpa using hL
    have HLD := Lib.hid hLd
    have HE : Hid (ValP L R ps w (.returned (.bool false)) (w.alloc (.cells #[.int .i64 L, .int .i64 R, .slice A ps.length c] 25))) := ⟨false, rfl, ⟨fun h => (by cases h), fun h => (hL h.left).elim⟩, HFB.out⟩
    clear hL hLd HP HFB HBX
    go_enter Try.func6, Try.ntmps6
    go_wp2_with fail
    refine (IN.out _ _ _ _).mono ?_
    rintro e W ⟨rfl, rfl⟩
    rw [HLD.out]
    go_wp2_with fail
    go_ret
    exact HE.out
end Go.Proofs.Yticoeooeeejboaa

/- What is related, in the model: by halving. -/
namespace Go.Proofs.Yticoeooeeejboaa
open Go.RowKit Go.ChangeMaps

/-- where a number is looked for -/
structure Half (ps : List Int) (due : Int) (low high : Nat) : Prop where
  le : low ≤ high
  len : high ≤ ps.length
  less : ∀ k z, k < low → ps[k]? = some z → z < due
  more : ∀ k z, high ≤ k → ps[k]? = some z → due ≤ z

theorem Half.up {ps : List Int} {due : Int} {low high m : Nat} {z : Int} (h : Half ps due low high) (ha : ps.Pairwise (· < ·)) (h1 : m < high) (hz : ps[m]? = some z) (hl : z < due) : Half ps due (m + 1) high := by
  refine ⟨by omega, h.len, fun k y hk hy => ?_, h.more⟩
  by_cases e : k = m
  · subst e; rw [hz] at hy; injection hy with hy; omega
  · have l1 := (List.getElem?_eq_some_iff.1 hy).1
    have l2 := (List.getElem?_eq_some_iff.1 hz).1
    have := List.pairwise_iff_getElem.1 ha k m l1 l2 (by omega)
    rw [List.getElem?_eq_getElem l1] at hy
    rw [List.getElem?_eq_getElem l2] at hz
    injection hy with hy
    injection hz with hz
    omega

theorem Half.down {ps : List Int} {due : Int} {low high m : Nat} {z : Int} (h : Half ps due low high) (ha : ps.Pairwise (· < ·)) (h0 : low ≤ m) (h1 : m < high) (hz : ps[m]? = some z) (hl : ¬ z < due) : Half ps due low m := by
  refine ⟨h0, by have := h.len; omega, h.less, fun k y hk hy => ?_⟩
  by_cases e : k = m
  · subst e; rw [hz] at hy; injection hy with hy; omega
  · have l1 := (List.getElem?_eq_some_iff.1 hy).1
    have l2 := (List.getElem?_eq_some_iff.1 hz).1
    have := List.pairwise_iff_getElem.1 ha m k l2 l1 (by omega)
    rw [List.getElem?_eq_getElem l1] at hy
    rw [List.getElem?_eq_getElem l2] at hz
    injection hy with hy
    injection hz with hz
    omega

theorem Half.none_ {ps : List Int} {due : Int} {low : Nat} (h : Half ps due low ps.length) (hl : low = ps.length) : due ∉ ps := by
  intro hm
  obtain ⟨k, hk, e⟩ := List.getElem_of_mem hm
  have := h.less k due (by omega) (by rw [List.getElem?_eq_getElem hk, e])
  omega

theorem Half.at_ {ps : List Int} {due z : Int} {low : Nat} (h : Half ps due low low) (ha : ps.Pairwise (· < ·)) (hz : ps[low]? = some z) : (z == due) = decide (due ∈ ps) := by
  by_cases e : z = due
  · subst e
    have := List.mem_of_getElem? hz
    simp [this]
  · have hn : due ∉ ps := by
      intro hm
      obtain ⟨k, hk, e2⟩ := List.getElem_of_mem hm
      have hk2 : ps[k]? = some due := by rw [List.getElem?_eq_getElem hk, e2]
      have hzz := h.more low z (Nat.le_refl _) hz
      by_cases c : k < low
      · have := h.less k due c hk2; omega
      · by_cases c2 : k = low
        · subst c2; rw [hz] at hk2; injection hk2 with hk2; exact e hk2
        · have l2 := (List.getElem?_eq_some_iff.1 hz).1
          have := List.pairwise_iff_getElem.1 ha low k l2 hk (by omega)
          rw [List.getElem?_eq_getElem l2] at hz
          injection hz with hz
          omega
    simp [e, hn]

end Go.Proofs.Yticoeooeeejboaa
