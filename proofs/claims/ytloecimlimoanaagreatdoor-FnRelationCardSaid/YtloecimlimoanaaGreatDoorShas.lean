/- Relations of the model: valid ones; what is related. · What is related, in the model: by halving. -/
import Derived.Test.YtloecimlimoanaaGreatDoorIn6
import Derived.Test.YtloecimlimoanaaGreatDoorRdr
import Derived.Deep.QuietTactic
import Derived.BigQuiet
/- Relations of the model: valid ones; what is related. -/
namespace Go.Proofs.YtloecimlimoanaaGreatDoor
open Go.RowKit Go.ChangeMaps

/-- whether a relation is valid -/
def ValP (L R : Int) (ps : List Int) (w : World) (e : Ending) (w' : World) : Prop := ∃ b : Bool, e = .returned (.bool b) ∧ (b = true ↔ RelOk L R ps) ∧ Fr No w w'

theorem OkTo.prev {L R : Int} {ps : List Int} {j : Nat} {last : Int} (h : OkTo L R ps (j + 1) last) : ps[j]? = some last := by
  rcases h.lst with ⟨h, _⟩ | ⟨_, h⟩
  · omega
  · exact h

end Go.Proofs.YtloecimlimoanaaGreatDoor

/- What is related, in the model: by halving. -/
namespace Go.Proofs.YtloecimlimoanaaGreatDoor
open Go.RowKit Go.ChangeMaps

/-- where a number is looked for -/
structure Half (ps : List Int) (due : Int) (low high : Nat) : Prop where
  le : low ≤ high
  len : high ≤ ps.length
  less : ∀ k z, k < low → ps[k]? = some z → z < due
  more : ∀ k z, high ≤ k → ps[k]? = some z → due ≤ z

theorem Half.up {ps : List Int} {due : Int} {low high m : Nat} {z : Int} (h : Half ps due low high) (ha : ps.Pairwise (· < ·)) (h1 : m < high) (hz : ps[m]? = some z) (hl : z < due) : Half ps due (m + 1) high := by
  refine ⟨by omega, h.len, fun k y hk hy => ?_, h.more⟩
  by_cases e : k = m
  · subst e; rw [hz] at hy; injection hy with hy; omega
  · have l1 := (List.getElem?_eq_some_iff.1 hy).1
    have l2 := (List.getElem?_eq_some_iff.1 hz).1
    have := List.pairwise_iff_getElem.1 ha k m l1 l2 (by omega)
    rw [List.getElem?_eq_getElem l1] at hy
    rw [List.getElem?_eq_getElem l2] at hz
    injection hy with hy
    injection hz with hz
    omega

theorem Half.down {ps : List Int} {due : Int} {low high m : Nat} {z : Int} (h : Half ps due low high) (ha : ps.Pairwise (· < ·)) (h0 : low ≤ m) (h1 : m < high) (hz : ps[m]? = some z) (hl : ¬ z < due) : Half ps due low m := by
  refine ⟨h0, by have := h.len; omega, h.less, fun k y hk hy => ?_⟩
  by_cases e : k = m
  · subst e; rw [hz] at hy; injection hy with hy; omega
  · have l1 := (List.getElem?_eq_some_iff.1 hy).1
    have l2 := (List.getElem?_eq_some_iff.1 hz).1
    have := List.pairwise_iff_getElem.1 ha m k l2 l1 (by omega)
    rw [List.getElem?_eq_getElem l1] at hy
    rw [List.getElem?_eq_getElem l2] at hz
    injection hy with hy
    injection hz with hz
    omega

theorem Half.none_ {ps : List Int} {due : Int} {low : Nat} (h : Half ps due low ps.length) (hl : low = ps.length) : due ∉ ps := by
  intro hm
  obtain ⟨k, hk, e⟩ := List.getElem_of_mem hm
  have := h.less k due (by omega) (by rw [List.getElem?_eq_getElem hk, e])
  omega

theorem Half.at_ {ps : List Int} {due z : Int} {low : Nat} (h : Half ps due low low) (ha : ps.Pairwise (· < ·)) (hz : ps[low]? = some z) : (z == due) = decide (due ∈ ps) := by
  by_cases e : z = due
  · subst e
    have := List.mem_of_getElem? hz
    simp [this]
  · have hn : due ∉ ps := by
      intro hm
      obtain ⟨k, hk, e2⟩ := List.getElem_of_mem hm
      have hk2 : ps[k]? = some due := by rw [List.getElem?_eq_getElem hk, e2]
      have hzz := h.more low z (Nat.le_refl _) hz
      by_cases c : k < low
      · have := h.less k due c hk2; omega
      · by_cases c2 : k = low
        · subst c2; rw [hz] at hk2; injection hk2 with hk2; exact e hk2
        · have l2 := (List.getElem?_eq_some_iff.1 hz).1
          have := List.pairwise_iff_getElem.1 ha low k l2 hk (by omega)
          rw [List.getElem?_eq_getElem l2] at hz
          injection hz with hz
          omega
    simp [e, hn]

set_option maxRecDepth 100000 in
set_option maxHeartbeats 2000000 in
theorem has6_any (w : World) (l r : Nat) (A : Option Addr) (c : Nat) (ps : List Int) (hp : ISl w A ps) (hn : ps.length ≤ 2000000) (hok : RelOk l r ps) (i k : Nat) (hi : i < l) (hk : k < r) :
    Calls Tryz.prog 67 #[RV l r A ps.length c, .int .i64 i, .int .i64 k] w fun e w' => e = .returned (.bool (memR r ps i k)) ∧ Fr No w w' := by
  have HP := Lib.hid hp
  have HN := Lib.hid hn
  have HOK := Lib.hid hok
  have hnI : (ps.length : Int) ≤ 2000000 := by omega
  have hl2 : l ≤ 128 := by have := hok.left.2; omega
  have hr2 : r ≤ 128 := by have := hok.right.2; omega
  clear hp hok
  have HFB : Hid (Fr No w (w.alloc (.cells #[.int .i64 (l : Int), .int .i64 (r : Int), .slice A ps.length c] 27))) := (Fr.refl No w).alloc _
  have HBX : Hid (Blk (w.alloc (.cells #[.int .i64 (l : Int), .int .i64 (r : Int), .slice A ps.length c] 27)) w.heap.size 27 #[.int .i64 (l : Int), .int .i64 (r : Int), .slice A ps.length c]) := Blk.new _ _ _
  have HG : Hid (∀ g o, A = some ⟨g, o, none⟩ → ∀ j z, ps[j]? = some z → (w.alloc (.cells #[.int .i64 (l : Int), .int .i64 (r : Int), .slice A ps.length c] 27)).cell? ⟨g, o + j, none⟩ = some (.int .i64 z)) := by
    intro g o e j z hz
    obtain ⟨g', o', e', hc⟩ := HP.out j z hz
    rw [e] at e'
    injection e' with e'
    injection e' with e1 e2
    subst e1 e2
    exact (HFB.out.cell (p := ⟨g, o + j, none⟩) (block_lt hc) (fun h => h)).trans hc
  have hm1 : i * r ≤ 16384 := Nat.le_trans (Nat.mul_le_mul (show i ≤ 128 by omega) hr2) (by omega)
  have hmI : (i : Int) * (r : Int) ≤ 16384 := by rw [← Int.natCast_mul]; omega
  have hmI0 : 0 ≤ (i : Int) * (r : Int) := by rw [← Int.natCast_mul]; omega
  obtain ⟨due, hdue⟩ : ∃ due : Int, due = (i : Int) * (r : Int) + (k : Int) := ⟨_, rfl⟩
  have HD : Hid (memR r ps i k = decide (due ∈ ps)) := by
    show _ = _
    unfold memR
    rw [hdue]
    simp
  have HDU := Lib.hid hdue
  clear hdue
  go_enter Tryz.func67, Tryz.ntmps67
  go_wp2_with fail
  generalize w.alloc (.cells #[.int .i64 (l : Int), .int .i64 (r : Int), .slice A ps.length c] 27) = W at *
  rw [← HDU.out]
  clear hmI hmI0 hm1
  go_loop [7, 8] (fun a b => ∃ (low high : Nat), a = .int .i64 low ∧ b = .int .i64 high ∧ Half ps due low high) (fun a b => (intOf b).toNat - (intOf a).toNat)
  case atStart => exact ⟨0, ps.length, rfl, rfl, Nat.zero_le _, Nat.le_refl _, fun k z h => by omega, fun k z h hz => by have := (List.getElem?_eq_some_iff.1 hz).1; omega⟩
  case round =>
    obtain ⟨low, high, rfl, rfl, hh⟩ := hrel
    have HH := Lib.hid hh
    have hle := hh.le
    have hlen := hh.len
    clear hh
    have c2 : W.cell? ⟨w.heap.size, 2, none⟩ = some (.slice A ps.length c) := (HBX.out.cell 2).trans rfl
    by_cases hlt : low < high
    · obtain ⟨m, hm⟩ : ∃ m, m = (low + high) / 2 := ⟨_, rfl⟩
      have hmI : ((low : Int) + (high : Int)) / 2 = (m : Int) := by omega
      have hmT : ((low : Int) + (high : Int)).tdiv 2 = (m : Int) := by rw [Int.tdiv_eq_ediv_of_nonneg (by omega)]; exact hmI
      have h1 : low ≤ m := by omega
      have h2 : m < high := by omega
      have h3 : m < ps.length := by omega
      clear hm
      obtain ⟨z, hz⟩ : ∃ z, ps[m]? = some z := ⟨_, List.getElem?_eq_getElem h3⟩
      obtain ⟨g, o, rfl, _⟩ := HP.out m z hz
      have hc := HG.out g o rfl m z hz
      have HZ := Lib.hid hz
      clear hz
      by_cases hzl : z < due
      · have HU := Lib.hid (HH.out.up HOK.out.asc h2 HZ.out hzl)
        go_wp2_with fail
        go_round
        case rel => exact ⟨m + 1, high, by go_num, rfl, HU.out⟩
        case measure => simp [intOf]; omega
      · have HU := Lib.hid (HH.out.down HOK.out.asc h1 h2 HZ.out hzl)
        go_wp2_with fail
        go_round
        case rel => exact ⟨low, m, rfl, rfl, HU.out⟩
        case measure => simp [intOf]; omega
    · have he : low = high := by omega
      subst he
      by_cases hend : low < ps.length
      · obtain ⟨z, hz⟩ : ∃ z, ps[low]? = some z := ⟨_, List.getElem?_eq_getElem hend⟩
        obtain ⟨g, o, rfl, _⟩ := HP.out low z hz
        have hc := HG.out g o rfl low z hz
        have HE : Hid (memR r ps i k = (z == due)) := by show _ = _; rw [HD.out, HH.out.at_ HOK.out.asc hz]
        clear hz
        go_wp2_with fail
        go_ret
        exact ⟨ret_bool HE.out.symm, HFB.out⟩
      · have he2 : low = ps.length := by omega
        have HE : Hid (memR r ps i k = false) := by
          have h := HH.out
          rw [he2] at h
          show _ = _
          rw [HD.out]
          simpa using h.none_ rfl
        have hnlt : ¬ (low : Int) < (ps.length : Int) := by omega
        go_wp2_with fail
        go_ret
        rw [HE.out]
        first | exact ⟨rfl, HFB.out⟩ | exact ⟨ret_bool (by simp; omega), HFB.out⟩
end Go.Proofs.YtloecimlimoanaaGreatDoor
