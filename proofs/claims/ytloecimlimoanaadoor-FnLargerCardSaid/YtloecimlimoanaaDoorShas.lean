/- Relations of the model: valid ones; what is related. · What is related, in the model: by halving. -/
import Derived.Test.YtloecimlimoanaaDoorIn6
import Derived.Test.YtloecimlimoanaaDoorRdr
import Derived.Deep.QuietTactic
import Derived.BigQuiet
/- Relations of the model: valid ones; what is related. -/
namespace Go.Proofs.YtloecimlimoanaaDoor
open Go.RowKit Go.ChangeMaps

/-- whether a relation is valid -/
def ValP (L R : Int) (ps : List Int) (w : World) (e : Ending) (w' : World) : Prop := ∃ b : Bool, e = .returned (.bool b) ∧ (b = true ↔ RelOk L R ps) ∧ Fr No w w'

theorem OkTo.prev {L R : Int} {ps : List Int} {j : Nat} {last : Int} (h : OkTo L R ps (j + 1) last) : ps[j]? = some last := by
  rcases h.lst with ⟨h, _⟩ | ⟨_, h⟩
  · omega
  · exact h

set_option maxRecDepth 100000 in
set_option maxHeartbeats 2000000 in
theorem specRelValid (w : World) (L R : Int) (A : Option Addr) (c : Nat) (ps : List Int) (hp : ISl w A ps) (hn : ps.length ≤ 2000000) :
    Calls Tryd.prog 105 #[RV L R A ps.length c] w fun e w' => ValP L R ps w e w' := by
  have IN : Hid (∀ (W : World) (a b c : Int), Calls Tryd.prog 59 #[.int .i64 a, .int .i64 b, .int .i64 c] W fun e w' => e = .returned (.bool (decide (b ≤ a ∧ a ≤ c))) ∧ W = w') := fun W a b c => in_any W a b c
  have HP := Lib.hid hp
  have HN := Lib.hid hn
  clear hp
  have hnI : (ps.length : Int) ≤ 2000000 := by omega
  have HFB : Hid (Fr No w (w.alloc (.cells #[.int .i64 L, .int .i64 R, .slice A ps.length c] 30))) := (Fr.refl No w).alloc _
  have HBX : Hid (Blk (w.alloc (.cells #[.int .i64 L, .int .i64 R, .slice A ps.length c] 30)) w.heap.size 30 #[.int .i64 L, .int .i64 R, .slice A ps.length c]) := Blk.new _ _ _
  by_cases hL : 1 ≤ L ∧ L ≤ 128
  · have hLd : decide (1 ≤ L ∧ L ≤ 128) = true := by simpa using hL
    have HLD := Lib.hid hLd
    by_cases hR : 1 ≤ R ∧ R ≤ 128
    · have hRd : decide (1 ≤ R ∧ R ≤ 128) = true := by simpa using hR
      have HRD := Lib.hid hRd
      have HLL := Lib.hid hL
      have HRR := Lib.hid hR
      have hm0 : 0 ≤ L * R := Int.mul_nonneg (by omega) (by omega)
      have hm1 : L * R ≤ 16384 := by
        obtain ⟨l, rfl⟩ : ∃ l : Nat, L = l := ⟨L.toNat, by omega⟩
        obtain ⟨r, rfl⟩ : ∃ r : Nat, R = r := ⟨R.toNat, by omega⟩
        have := Nat.mul_le_mul (show l ≤ 128 by omega) (show r ≤ 128 by omega)
        rw [← Int.natCast_mul]; omega
      obtain ⟨hL1, hL2⟩ := hL
      obtain ⟨hR1, hR2⟩ := hR
      clear hLd hRd hn
      go_enter Tryd.func105, Tryd.ntmps105
      go_wp2_with fail
      refine (IN.out _ _ _ _).mono ?_
      rintro e W ⟨rfl, rfl⟩
      rw [HLD.out]
      go_wp2_with fail
      refine (IN.out _ _ _ _).mono ?_
      rintro e W ⟨rfl, rfl⟩
      rw [HRD.out]
      generalize w.alloc (.cells #[.int .i64 L, .int .i64 R, .slice A ps.length c] 30) = W at *
      go_wp2_with fail
      go_loopw [3] (fun u wr => ∃ (j : Nat) (last : Int), j ≤ ps.length ∧ u = .int .i64 j ∧ OkTo L R ps j last ∧ ∃ m, wr = W.drewN m) (fun u _ => ps.length - (intOf u).toNat)
      case atStart => exact ⟨0, -1, Nat.zero_le _, rfl, OkTo.start _ _ _, 0, rfl⟩
      case round =>
        obtain ⟨j, last, hj, rfl, hok, mm, rfl⟩ := hrel
        have HOK := Lib.hid hok
        have HFR : Hid (Fr No w (W.drewN mm)) := HFB.out.drewN mm
        have d0 : (W.drewN mm).cell? ⟨w.heap.size, 0, none⟩ = some (.int .i64 L) := (HBX.out.cell 0).trans rfl
        have d1 : (W.drewN mm).cell? ⟨w.heap.size, 1, none⟩ = some (.int .i64 R) := (HBX.out.cell 1).trans rfl
        have d2 : (W.drewN mm).cell? ⟨w.heap.size, 2, none⟩ = some (.slice A ps.length c) := (HBX.out.cell 2).trans rfl
        have NX : Hid (∀ n, ∃ m, (W.drewN mm).drewN n = W.drewN m) := fun n => ⟨mm + n, by rw [World.drewN_drewN]⟩
        clear hok
        by_cases hlt : j < ps.length
        · obtain ⟨z, hzj⟩ : ∃ z, ps[j]? = some z := ⟨_, List.getElem?_eq_getElem hlt⟩
          obtain ⟨g, o, rfl, hc0⟩ := HP.out j z hzj
          have hc : (W.drewN mm).cell? ⟨g, o + j, none⟩ = some (.int .i64 z) := ((HFB.out.drewN mm).cell (p := ⟨g, o + j, none⟩) (block_lt hc0) (fun h => h)).trans hc0
          have HZJ := Lib.hid hzj
          clear hc0 hzj
          by_cases hin : 0 ≤ z ∧ z ≤ L * R - 1
          · have hind : decide (0 ≤ z ∧ z ≤ L * R - 1) = true := by simpa using hin
            have CIN : Hid (∀ n, Calls Tryd.prog 59 #[.int .i64 z, .int .i64 0, .int .i64 (L * R - 1)] ((W.drewN mm).drewN n) fun e w' => e = .returned (.bool true) ∧ ∃ m, w' = (W.drewN mm).drewN m) := fun n => Calls.quiet_of ((IN.out _ _ _ _).mono fun e w' h => by rw [hind] at h; exact ⟨h.1, 0, h.2.symm⟩)
            clear IN
            have HWM : Hid (∃ V, V = W.drewN mm) := ⟨_, rfl⟩
            cases j with
            | zero =>
              have hok : Hid (OkTo L R ps 1 z) := by
                have := HOK.out.low
                refine HOK.out.more HZJ.out ?_ (by omega)
                rcases HOK.out.lst with ⟨_, h⟩ | ⟨h, _⟩ <;> omega
              have hc0 : (W.drewN mm).cell? ⟨g, o, none⟩ = some (.int .i64 z) := hc
              clear hc
              generalize W.drewN mm = V at *
              go_wp2_with fail
              go_quiet ((go_at_call 59; with_reducible exact CIN.out _))
              go_wp2_with fail
              go_roundw
              case rel => exact ⟨1, z, by omega, by go_num, hok.out, NX.out _⟩
              case measure => simp [intOf]; omega
            | succ j =>
              obtain ⟨g', o', e, hcp0⟩ := HP.out j last HOK.out.prev
              obtain ⟨rfl, rfl⟩ : g = g' ∧ o = o' := by
                simp only [Option.some.injEq, Addr.mk.injEq, and_true] at e
                exact e
              have hcp : (W.drewN mm).cell? ⟨g, o + j, none⟩ = some (.int .i64 last) := ((HFB.out.drewN mm).cell (p := ⟨g, o + j, none⟩) (block_lt hcp0) (fun h => h)).trans hcp0
              clear hcp0 e
              have hjI : ((j + 1 : Nat) : Int) - 1 = (j : Int) := by omega
              have hjI2 : (0 : Int) < ((j + 1 : Nat) : Int) := by omega
              by_cases hle : z ≤ last
              · have hld : decide (z ≤ last) = true := by simpa using hle
                have HBAD : Hid (∀ w', (∃ n, w' = W.drewN n) → ValP L R ps w (.returned (.bool false)) w') := by
                  rintro _ ⟨n, rfl⟩
                  exact ⟨false, rfl, ⟨fun h => (by cases h), fun h => (HOK.out.bad HZJ.out (.inl hle) h).elim⟩, HFB.out.drewN n⟩
                generalize W.drewN mm = V at *
                go_wp2_with fail
                go_quiet ((go_at_call 59; with_reducible exact CIN.out _))
                go_wp2_with fail
                go_ret
                exact HBAD.out _ (NX.out _)
              · have hld : decide (z ≤ last) = false := by simpa using hle
                have hle' : last < z := by omega
                have hok : Hid (OkTo L R ps (j + 1 + 1) z) := HOK.out.more HZJ.out hle' (by omega)
                clear hle
                generalize W.drewN mm = V at *
                go_wp2_with fail
                go_quiet ((go_at_call 59; with_reducible exact CIN.out _))
                go_wp2_with fail
                go_roundw
                case rel => exact ⟨j + 1 + 1, z, by omega, by go_num, hok.out, NX.out _⟩
                case measure => simp [intOf]; omega
          · have hind : decide (0 ≤ z ∧ z ≤ L * R - 1) = false := by simpa using hin
            have CIN : Hid (∀ n, Calls Tryd.prog 59 #[.int .i64 z, .int .i64 0, .int .i64 (L * R - 1)] ((W.drewN mm).drewN n) fun e w' => e = .returned (.bool false) ∧ ∃ m, w' = (W.drewN mm).drewN m) := fun n => Calls.quiet_of ((IN.out _ _ _ _).mono fun e w' h => by rw [hind] at h; exact ⟨h.1, 0, h.2.symm⟩)
            have HBAD : Hid (∀ w', (∃ n, w' = W.drewN n) → ValP L R ps w (.returned (.bool false)) w') := by
              rintro _ ⟨n, rfl⟩
              refine ⟨false, rfl, ⟨fun h => (by cases h), fun h => ?_⟩, HFB.out.drewN n⟩
              have := h.bnd z (List.mem_of_getElem? HZJ.out)
              omega
            clear IN
            generalize W.drewN mm = V at *
            go_wp2_with fail
            go_quiet ((go_at_call 59; with_reducible exact CIN.out _))
            go_wp2_with fail
            go_ret
            exact HBAD.out _ (NX.out _)
        · have hjl : j = ps.length := by omega
          have HE : Hid (∀ w', (∃ n, w' = W.drewN n) → ValP L R ps w (.returned (.bool true)) w') := by
            rintro _ ⟨n, rfl⟩
            have := HOK.out
            rw [hjl] at this
            exact ⟨true, rfl, ⟨fun _ => this.done HLL.out HRR.out, fun _ => rfl⟩, HFB.out.drewN n⟩
          have hnlt : ¬ (j : Int) < (ps.length : Int) := by omega
          generalize W.drewN mm = V at *
          go_wp2_with fail
          go_ret
          exact HE.out _ (NX.out 0)
    · have hRd : decide (1 ≤ R ∧ R ≤ 128) = false := by simpa using hR
      have HRD := Lib.hid hRd
      have HE : Hid (ValP L R ps w (.returned (.bool false)) (w.alloc (.cells #[.int .i64 L, .int .i64 R, .slice A ps.length c] 30))) := ⟨false, rfl, ⟨fun h => (by cases h), fun h => (hR h.right).elim⟩, HFB.out⟩
      clear hR hRd HP HFB hL hLd HBX
      go_enter Tryd.func105, Tryd.ntmps105
      go_wp2_with fail
      refine (IN.out _ _ _ _).mono ?_
      rintro e W ⟨rfl, rfl⟩
      rw [HLD.out]
      go_wp2_with fail
      refine (IN.out _ _ _ _).mono ?_
      rintro e W ⟨rfl, rfl⟩
      rw [HRD.out]
      go_wp2_with fail
      go_ret
      exact HE.out
  · have hLd : decide (1 ≤ L ∧ L ≤ 128) = false := by simpa using hL
    have HLD := Lib.hid hLd
    have HE : Hid (ValP L R ps w (.returned (.bool false)) (w.alloc (.cells #[.int .i64 L, .int .i64 R, .slice A ps.length c] 30))) := ⟨false, rfl, ⟨fun h => (by cases h), fun h => (hL h.left).elim⟩, HFB.out⟩
    clear hL hLd HP HFB HBX
    go_enter Tryd.func105, Tryd.ntmps105
    go_wp2_with fail
    refine (IN.out _ _ _ _).mono ?_
    rintro e W ⟨rfl, rfl⟩
    rw [HLD.out]
    go_wp2_with fail
    go_ret
    exact HE.out
end Go.Proofs.YtloecimlimoanaaDoor

/- What is related, in the model: by halving. -/
namespace Go.Proofs.YtloecimlimoanaaDoor
open Go.RowKit Go.ChangeMaps

/-- where a number is looked for -/
structure Half (ps : List Int) (due : Int) (low high : Nat) : Prop where
  le : low ≤ high
  len : high ≤ ps.length
  less : ∀ k z, k < low → ps[k]? = some z → z < due
  more : ∀ k z, high ≤ k → ps[k]? = some z → due ≤ z

theorem Half.up {ps : List Int} {due : Int} {low high m : Nat} {z : Int} (h : Half ps due low high) (ha : ps.Pairwise (· < ·)) (h1 : m < high) (hz : ps[m]? = some z) (hl : z < due) : Half ps due (m + 1) high := by
  refine ⟨by omega, h.len, fun k y hk hy => ?_, h.more⟩
  by_cases e : k = m
  · subst e; rw [hz] at hy; injection hy with hy; omega
  · have l1 := (List.getElem?_eq_some_iff.1 hy).1
    have l2 := (List.getElem?_eq_some_iff.1 hz).1
    have := List.pairwise_iff_getElem.1 ha k m l1 l2 (by omega)
    rw [List.getElem?_eq_getElem l1] at hy
    rw [List.getElem?_eq_getElem l2] at hz
    injection hy with hy
    injection hz with hz
    omega

theorem Half.down {ps : List Int} {due : Int} {low high m : Nat} {z : Int} (h : Half ps due low high) (ha : ps.Pairwise (· < ·)) (h0 : low ≤ m) (h1 : m < high) (hz : ps[m]? = some z) (hl : ¬ z < due) : Half ps due low m := by
  refine ⟨h0, by have := h.len; omega, h.less, fun k y hk hy => ?_⟩
  by_cases e : k = m
  · subst e; rw [hz] at hy; injection hy with hy; omega
  · have l1 := (List.getElem?_eq_some_iff.1 hy).1
    have l2 := (List.getElem?_eq_some_iff.1 hz).1
    have := List.pairwise_iff_getElem.1 ha m k l2 l1 (by omega)
    rw [List.getElem?_eq_getElem l1] at hy
    rw [List.getElem?_eq_getElem l2] at hz
    injection hy with hy
    injection hz with hz
    omega

theorem Half.none_ {ps : List Int} {due : Int} {low : Nat} (h : Half ps due low ps.length) (hl : low = ps.length) : due ∉ ps := by
  intro hm
  obtain ⟨k, hk, e⟩ := List.getElem_of_mem hm
  have := h.less k due (by omega) (by rw [List.getElem?_eq_getElem hk, e])
  omega

theorem Half.at_ {ps : List Int} {due z : Int} {low : Nat} (h : Half ps due low low) (ha : ps.Pairwise (· < ·)) (hz : ps[low]? = some z) : (z == due) = decide (due ∈ ps) := by
  by_cases e : z = due
  · subst e
    have := List.mem_of_getElem? hz
    simp [this]
  · have hn : due ∉ ps := by
      intro hm
      obtain ⟨k, hk, e2⟩ := List.getElem_of_mem hm
      have hk2 : ps[k]? = some due := by rw [List.getElem?_eq_getElem hk, e2]
      have hzz := h.more low z (Nat.le_refl _) hz
      by_cases c : k < low
      · have := h.less k due c hk2; omega
      · by_cases c2 : k = low
        · subst c2; rw [hz] at hk2; injection hk2 with hk2; exact e hk2
        · have l2 := (List.getElem?_eq_some_iff.1 hz).1
          have := List.pairwise_iff_getElem.1 ha low k l2 hk (by omega)
          rw [List.getElem?_eq_getElem l2] at hz
          injection hz with hz
          omega
    simp [e, hn]

set_option maxRecDepth 100000 in
set_option maxHeartbeats 2000000 in
theorem has6_any (w : World) (l r : Nat) (A : Option Addr) (c : Nat) (ps : List Int) (hp : ISl w A ps) (hn : ps.length ≤ 2000000) (hok : RelOk l r ps) (i k : Nat) (hi : i < l) (hk : k < r) :
    Calls Tryd.prog 107 #[RV l r A ps.length c, .int .i64 i, .int .i64 k] w fun e w' => e = .returned (.bool (memR r ps i k)) ∧ Fr No w w' := by
  have HP := Lib.hid hp
  have HN := Lib.hid hn
  have HOK := Lib.hid hok
  have hnI : (ps.length : Int) ≤ 2000000 := by omega
  have hl2 : l ≤ 128 := by have := hok.left.2; omega
  have hr2 : r ≤ 128 := by have := hok.right.2; omega
  clear hp hok
  have HFB : Hid (Fr No w (w.alloc (.cells #[.int .i64 (l : Int), .int .i64 (r : Int), .slice A ps.length c] 30))) := (Fr.refl No w).alloc _
  have HBX : Hid (Blk (w.alloc (.cells #[.int .i64 (l : Int), .int .i64 (r : Int), .slice A ps.length c] 30)) w.heap.size 30 #[.int .i64 (l : Int), .int .i64 (r : Int), .slice A ps.length c]) := Blk.new _ _ _
  have HG : Hid (∀ g o, A = some ⟨g, o, none⟩ → ∀ j z, ps[j]? = some z → (w.alloc (.cells #[.int .i64 (l : Int), .int .i64 (r : Int), .slice A ps.length c] 30)).cell? ⟨g, o + j, none⟩ = some (.int .i64 z)) := by
    intro g o e j z hz
    obtain ⟨g', o', e', hc⟩ := HP.out j z hz
    rw [e] at e'
    injection e' with e'
    injection e' with e1 e2
    subst e1 e2
    exact (HFB.out.cell (p := ⟨g, o + j, none⟩) (block_lt hc) (fun h => h)).trans hc
  have hm1 : i * r ≤ 16384 := Nat.le_trans (Nat.mul_le_mul (show i ≤ 128 by omega) hr2) (by omega)
  have hmI : (i : Int) * (r : Int) ≤ 16384 := by rw [← Int.natCast_mul]; omega
  have hmI0 : 0 ≤ (i : Int) * (r : Int) := by rw [← Int.natCast_mul]; omega
  obtain ⟨due, hdue⟩ : ∃ due : Int, due = (i : Int) * (r : Int) + (k : Int) := ⟨_, rfl⟩
  have HD : Hid (memR r ps i k = decide (due ∈ ps)) := by
    show _ = _
    unfold memR
    rw [hdue]
    simp
  have HDU := Lib.hid hdue
  clear hdue
  go_enter Tryd.func107, Tryd.ntmps107
  go_wp2_with fail
  generalize w.alloc (.cells #[.int .i64 (l : Int), .int .i64 (r : Int), .slice A ps.length c] 30) = W at *
  rw [← HDU.out]
  clear hmI hmI0 hm1
  go_loop [7, 8] (fun a b => ∃ (low high : Nat), a = .int .i64 low ∧ b = .int .i64 high ∧ Half ps due low high) (fun a b => (intOf b).toNat - (intOf a).toNat)
  case atStart => exact ⟨0, ps.length, rfl, rfl, Nat.zero_le _, Nat.le_refl _, fun k z h => by omega, fun k z h hz => by have := (List.getElem?_eq_some_iff.1 hz).1; omega⟩
  case round =>
    obtain ⟨low, high, rfl, rfl, hh⟩ := hrel
    have HH := Lib.hid hh
    have hle := hh.le
    have hlen := hh.len
    clear hh
    have c2 : W.cell? ⟨w.heap.size, 2, none⟩ = some (.slice A ps.length c) := (HBX.out.cell 2).trans rfl
    by_cases hlt : low < high
    · obtain ⟨m, hm⟩ : ∃ m, m = (low + high) / 2 := ⟨_, rfl⟩
      have hmI : ((low : Int) + (high : Int)) / 2 = (m : Int) := by omega
      have hmT : ((low : Int) + (high : Int)).tdiv 2 = (m : Int) := by rw [Int.tdiv_eq_ediv_of_nonneg (by omega)]; exact hmI
      have h1 : low ≤ m := by omega
      have h2 : m < high := by omega
      have h3 : m < ps.length := by omega
      clear hm
      obtain ⟨z, hz⟩ : ∃ z, ps[m]? = some z := ⟨_, List.getElem?_eq_getElem h3⟩
      obtain ⟨g, o, rfl, _⟩ := HP.out m z hz
      have hc := HG.out g o rfl m z hz
      have HZ := Lib.hid hz
      clear hz
      by_cases hzl : z < due
      · have HU := Lib.hid (HH.out.up HOK.out.asc h2 HZ.out hzl)
        go_wp2_with fail
        go_round
        case rel => exact ⟨m + 1, high, by go_num, rfl, HU.out⟩
        case measure => simp [intOf]; omega
      · have HU := Lib.hid (HH.out.down HOK.out.asc h1 h2 HZ.out hzl)
        go_wp2_with fail
        go_round
        case rel => exact ⟨low, m, rfl, rfl, HU.out⟩
        case measure => simp [intOf]; omega
    · have he : low = high := by omega
      subst he
      by_cases hend : low < ps.length
      · obtain ⟨z, hz⟩ : ∃ z, ps[low]? = some z := ⟨_, List.getElem?_eq_getElem hend⟩
        obtain ⟨g, o, rfl, _⟩ := HP.out low z hz
        have hc := HG.out g o rfl low z hz
        have HE : Hid (memR r ps i k = (z == due)) := by show _ = _; rw [HD.out, HH.out.at_ HOK.out.asc hz]
        clear hz
        go_wp2_with fail
        go_ret
        exact ⟨ret_bool HE.out.symm, HFB.out⟩
      · have he2 : low = ps.length := by omega
        have HE : Hid (memR r ps i k = false) := by
          have h := HH.out
          rw [he2] at h
          show _ = _
          rw [HD.out]
          simpa using h.none_ rfl
        have hnlt : ¬ (low : Int) < (ps.length : Int) := by omega
        go_wp2_with fail
        go_ret
        rw [HE.out]
        first | exact ⟨rfl, HFB.out⟩ | exact ⟨ret_bool (by simp; omega), HFB.out⟩
end Go.Proofs.YtloecimlimoanaaDoor
