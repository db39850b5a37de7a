/- The model's reading of models; the law ModelValid. -/
import Derived.Test.YtmpadnnpmbgdcaaMdl
namespace Go.Proofs.Ytmpadnnpmbgdcaa
open Go.RowKit Go.ChangeMaps

set_option maxHeartbeats 1000000 in
theorem implModel (w : World) (A A' : Option Addr) (ns : List (List UInt8)) (zs : List Int) (c c' : Nat) (hN : SSl w A ns) (hZ : ISl w A' zs) (hl : ns.length ≤ 2000000) (hl' : zs.length ≤ 2000000) (hs : ∀ x ∈ ns, x.length ≤ maxLen) :
    Calls Try.prog 22 #[.slice A ns.length c, .slice A' zs.length c'] w fun e w' => AnsB (∃ ms, ModelIs ns zs ms) w e w' := by
  have CALL := Lib.hid (readModel_any w A A' ns zs c c' hN hZ hl hl' hs)
  clear hN hZ hs
  go_enter Try.func22, Try.ntmps22
  go_wp2_with fail
  refine CALL.out.mono ?_
  rintro e w1 ⟨hf, ⟨ms, mb, hm, rfl, _, _⟩ | ⟨hno, rfl⟩⟩
  · have HM : Hid (∃ ms, ModelIs ns zs ms) := ⟨ms, hm⟩
    clear hm
    go_wp2_with fail
    go_ret
    exact ⟨true, rfl, ⟨fun _ => HM.out, fun _ => rfl⟩, hf⟩
  · have HM : Hid (∀ ms, ¬ ModelIs ns zs ms) := hno
    clear hno
    go_wp2_with fail
    go_ret
    exact ⟨false, rfl, ⟨fun h => (by cases h), fun ⟨ms, h⟩ => (HM.out ms h).elim⟩, hf⟩

set_option maxHeartbeats 1000000 in
theorem in_any (w : World) (a b c : Int) :
    Calls Try.prog 48 #[.int .i64 a, .int .i64 b, .int .i64 c] w fun e w' => e = .returned (.bool (decide (b ≤ a ∧ a ≤ c))) ∧ w = w' := by
  by_cases h1 : b ≤ a
  · by_cases h2 : a ≤ c
    · have hd : decide (b ≤ a ∧ a ≤ c) = true := by simp [h1, h2]
      rw [hd]
      go_enter Try.func48, Try.ntmps48
      go_wp2_with fail
      go_ret
      exact ⟨rfl, rfl⟩
    · have hd : decide (b ≤ a ∧ a ≤ c) = false := by simp [h2]
      rw [hd]
      have h2' : c < a := by omega
      go_enter Try.func48, Try.ntmps48
      go_wp2_with fail
      go_ret
      first | exact ⟨rfl, rfl⟩ | exact ⟨ret_bool (by simp; omega), rfl⟩
  · have hd : decide (b ≤ a ∧ a ≤ c) = false := by simp [h1]
    rw [hd]
    have h1' : a < b := by omega
    go_enter Try.func48, Try.ntmps48
    go_wp2_with fail
    go_ret
    first | exact ⟨rfl, rfl⟩ | exact ⟨ret_bool (by simp; omega), rfl⟩

theorem NamesOk.more {ns : List (List UInt8)} {j : Nat} {x : List UInt8} (h : NamesOk ns j) (hx : ns[j]? = some x) (h1 : ∃ n, n < 25 ∧ x = [Ty.letter n]) (h2 : x ∉ ns.take j) : NamesOk ns (j + 1) := by
  intro i y hi hy
  by_cases he : i = j
  · subst he
    rw [hx] at hy
    injection hy with hy
    subst hy
    exact ⟨h1, h2⟩
  · exact h i y (by omega) hy

theorem SizesOk.more {zs : List Int} {j : Nat} {z : Int} (h : SizesOk zs j) (hx : zs[j]? = some z) (h1 : 1 ≤ z ∧ z ≤ 4) : SizesOk zs (j + 1) := by
  intro i y hi hy
  by_cases he : i = j
  · subst he
    rw [hx] at hy
    injection hy with hy
    subst hy
    exact h1
  · exact h i y (by omega) hy

set_option maxRecDepth 100000 in
set_option maxHeartbeats 1000000 in
theorem specModel (w : World) (A A' : Option Addr) (ns : List (List UInt8)) (zs : List Int) (c c' : Nat) (hc : ns.length ≤ c) (hN : SSl w A ns) (hZ : ISl w A' zs) (hl : ns.length ≤ 1048576) (hl' : zs.length ≤ 1048576) (hs : ∀ x ∈ ns, x.length ≤ maxLen) :
    Calls Try.prog 20 #[.slice A ns.length c, .slice A' zs.length c'] w fun e w' => AnsB (∃ ms, ModelIs ns zs ms) w e w' := by
  have b1 : (ns.length : Int) ≤ 1048576 := by omega
  have b2 : (zs.length : Int) ≤ 1048576 := by omega
  have HN := Lib.hid hN
  have HZ := Lib.hid hZ
  have HS := Lib.hid hs
  clear hN hZ hs
  go_enter Try.func20, Try.ntmps20
  go_wp2_with fail
  go_loopw [5] (fun u wr => ∃ (j : Nat), j ≤ ns.length ∧ u = .int .i64 j ∧ Fr No w wr ∧ NamesOk ns j) (fun u _ => ns.length - (intOf u).toNat)
  case atStart => exact ⟨0, Nat.zero_le _, rfl, Fr.refl _ _, fun i x hi => by omega⟩
  case round =>
    obtain ⟨j, hj, rfl, hfr, hok⟩ := hrel
    have HOK := Lib.hid hok
    have HF := Lib.hid hfr
    clear hok hfr
    by_cases hlt : j < ns.length
    · obtain ⟨x, hxj⟩ : ∃ x, ns[j]? = some x := ⟨_, List.getElem?_eq_getElem hlt⟩
      obtain ⟨g, o, rfl, hc0⟩ := HN.out j x hxj
      have CELL : Hid (∀ w', Fr No w w' → w'.cell? ⟨g, o + j, none⟩ = some (S x)) := fun w' hf => (hf.cell (p := ⟨g, o + j, none⟩) (block_lt hc0) (fun h => h)).trans hc0
      have VAR : Hid (∀ w', Calls Try.prog 33 #[S x] w' fun e w2 => e = .returned (.bool (isVar x)) ∧ w' = w2) := fun w' => var_any2 x w' (HS.out x (List.mem_of_getElem? hxj))
      have HX := Lib.hid hxj
      have hcw := CELL.out wr HF.out
      have hlc : (j : Int) ≤ (c : Int) := by omega
      clear hc0 hxj
      by_cases hv : isVar x = true
      · have HAS : Hid (∀ w', Fr No w w' → Calls Try.prog 34 #[.slice (some ⟨g, o, none⟩) j c, S x] w' fun e w2 => ∃ b : Bool, e = .returned (.bool b) ∧ (b = true ↔ x ∈ ns.take j) ∧ w' = w2) := by
          intro w' hf
          have hss : SSl w' (some ⟨g, o, none⟩) (ns.take j) := by
            intro i y hy
            rw [List.getElem?_take] at hy
            split at hy
            · exact (HN.out.keep hf (fun _ h => h.elim)) i y hy
            · cases hy
          have := has_big w' (some ⟨g, o, none⟩) (ns.take j) c x hss (by rw [List.length_take]; omega)
          rw [List.length_take, Nat.min_eq_left hj] at this
          exact this
        have HV := Lib.hid hv
        have hfd : Fr No w wr.drew := HF.out.drew
        have hfw := HF.out
        clear hv
        go_wp2_with fail
        go_region_held3 (fun w' => w'.cell? ⟨g, o + j, none⟩ = some (S x)) (go_keep)
          (first | (go_at_call 33; ((with_reducible refine (VAR.out _).mono ?_); rintro e w2 ⟨rfl, rfl⟩; rw [HV.out]; have d0 := CELL.out _ hfd)) | (go_at_call 34; ((with_reducible refine (HAS.out _ hfd).mono ?_); rintro e w3 ⟨b, rfl, hb, rfl⟩; have HB := Lib.hid hb; clear hb)))
        cases b
        · have HN1 : Hid (NamesOk ns (j + 1)) := HOK.out.more HX.out ((var_iff x).1 HV.out) (fun h => by have := HB.out.2 h; cases this)
          go_wp2_with fail
          go_roundw
          case rel => exact ⟨j + 1, by omega, by go_num, hfd, HN1.out⟩
          case measure => simp [intOf]; omega
        · have HNO : Hid (¬ ∃ ms, ModelIs ns zs ms) := fun h => (((model_iff ns zs).1 h).1 j x hlt HX.out).2 (HB.out.1 rfl)
          go_wp2_with fail
          go_ret
          exact ⟨false, rfl, ⟨fun h => (by cases h), fun h => (HNO.out h).elim⟩, hfd⟩
      · have HNO : Hid (¬ ∃ ms, ModelIs ns zs ms) := fun h => hv ((var_iff x).2 (((model_iff ns zs).1 h).1 j x hlt HX.out).1)
        have HV : Hid (isVar x = false) := Bool.eq_false_iff.2 hv
        have hfd : Fr No w wr.drew := HF.out.drew
        clear hv
        go_wp2_with fail
        refine wp_region_held_drew (S := (fun w' => w'.cell? ⟨g, o + j, none⟩ = some (S x))) (by kernel_rfl) ?hS (fun hHeld => ?_)
        case hS => (first | exact hcw | (dsimp only; exact hcw))
        refine wpAnyH_take (i := 0) (v := ?v0) (by simp only [List.getElem?_toArray, List.getElem?_cons_zero]; rfl) (by kernel_rfl) (by kernel_rfl) (by kernel_rfl) (by exact fun _ _ _ h => h) (Or.inl ⟨by rfl, ?hy0⟩) (by assumption) ?rest0
        case hy0 => (intro w hSw; (try dsimp only at hSw); go_simp; try with_reducible rfl)
        try simp only [Act.put, List.setIfInBounds_toArray, List.set_cons_zero, List.set_cons_succ]
        refine wpAnyH_take (i := 1) (v := ?v1) (by simp only [List.getElem?_toArray, List.getElem?_cons_succ, List.getElem?_cons_zero]; rfl) (by kernel_rfl) (by kernel_rfl) (by kernel_rfl) (by exact fun _ _ _ h => h) (Or.inl ⟨by rfl, ?hy1⟩) (by assumption) ?rest1
        case hy1 => (intro w hSw; (try dsimp only at hSw); go_simp; try with_reducible rfl)
        try simp only [Act.put, List.setIfInBounds_toArray, List.set_cons_zero, List.set_cons_succ]
        refine wpAnyH_take (i := 2) (v := ?v2) (by simp only [List.getElem?_toArray, List.getElem?_cons_succ, List.getElem?_cons_zero]; rfl) (by kernel_rfl) (by kernel_rfl) (by kernel_rfl) (by exact fun _ _ _ h => h) (Or.inl ⟨by rfl, ?hy2⟩) (by assumption) ?rest2
        case hy2 => (intro w hSw; (try dsimp only at hSw); go_simp; try with_reducible rfl)
        try simp only [Act.put, List.setIfInBounds_toArray, List.set_cons_zero, List.set_cons_succ]
        refine wpAnyH_take (i := 3) (v := ?v3) (by simp only [List.getElem?_toArray, List.getElem?_cons_succ, List.getElem?_cons_zero]; rfl) (by kernel_rfl) (by kernel_rfl) (by kernel_rfl) (by exact fun _ _ _ h => h) (Or.inl ⟨by rfl, ?hy3⟩) (by assumption) ?rest3
        case hy3 => (intro w hSw; (try dsimp only at hSw); go_simp; try with_reducible rfl)
        try simp only [Act.put, List.setIfInBounds_toArray, List.set_cons_zero, List.set_cons_succ]
        refine wpAnyH_ready (rs := [4]) (by kernel_rfl) (by simp) ?_
        refine AllReadyH.cons rfl (fun K hK => ?_) AllReadyH.nil
        go_simp
        (with_reducible refine (VAR.out _).mono ?_); rintro e w2 ⟨rfl, rfl⟩; rw [HV.out]
        refine hK.out _ _ ?hS_1 (fun hHeld_1 => ?_)
        case hS_1 => exact hcw
        clear hK K hHeld
        try simp only [Act.put, List.setIfInBounds_toArray, List.set_cons_zero, List.set_cons_succ]
        refine wpAnyH_take (i := 5) (v := ?v5) (by simp only [List.getElem?_toArray, List.getElem?_cons_succ, List.getElem?_cons_zero]; rfl) (by kernel_rfl) (by kernel_rfl) (by kernel_rfl) (by exact fun _ _ _ h => h) (Or.inl ⟨by rfl, ?hy5⟩) (by assumption) ?rest5
        case hy5 => (intro w hSw; (try dsimp only at hSw); go_simp; try with_reducible rfl)
        try simp only [Act.put, List.setIfInBounds_toArray, List.set_cons_zero, List.set_cons_succ]
        refine wpAnyH_take (i := 6) (v := ?v6) (by simp only [List.getElem?_toArray, List.getElem?_cons_succ, List.getElem?_cons_zero]; rfl) (by kernel_rfl) (by kernel_rfl) (by kernel_rfl) (by exact fun _ _ _ h => h) (Or.inl ⟨by rfl, ?hy6⟩) (by assumption) ?rest6
        case hy6 => (intro w hSw; (try dsimp only at hSw); go_simp; try with_reducible rfl)
        try simp only [Act.put, List.setIfInBounds_toArray, List.set_cons_zero, List.set_cons_succ]
        refine wpAnyH_take (i := 7) (v := undef) (by simp only [List.getElem?_toArray, List.getElem?_cons_succ, List.getElem?_cons_zero]; rfl) (by kernel_rfl) (by kernel_rfl) (by kernel_rfl) (by exact fun _ _ _ h => h) (Or.inr ⟨by rfl, rfl⟩) (by assumption) ?_
        try simp only [Act.put, List.setIfInBounds_toArray, List.set_cons_zero, List.set_cons_succ]
        refine wpAnyH_take (i := 8) (v := undef) (by simp only [List.getElem?_toArray, List.getElem?_cons_succ, List.getElem?_cons_zero]; rfl) (by kernel_rfl) (by kernel_rfl) (by kernel_rfl) (by exact fun _ _ _ h => h) (Or.inr ⟨by rfl, rfl⟩) (by assumption) ?_
        try simp only [Act.put, List.setIfInBounds_toArray, List.set_cons_zero, List.set_cons_succ]
        refine wpAnyH_take (i := 9) (v := undef) (by simp only [List.getElem?_toArray, List.getElem?_cons_succ, List.getElem?_cons_zero]; rfl) (by kernel_rfl) (by kernel_rfl) (by kernel_rfl) (by exact fun _ _ _ h => h) (Or.inr ⟨by rfl, rfl⟩) (by assumption) ?_
        try simp only [Act.put, List.setIfInBounds_toArray, List.set_cons_zero, List.set_cons_succ]
        refine wpAnyH_take (i := 10) (v := undef) (by simp only [List.getElem?_toArray, List.getElem?_cons_succ, List.getElem?_cons_zero]; rfl) (by kernel_rfl) (by kernel_rfl) (by kernel_rfl) (by exact fun _ _ _ h => h) (Or.inr ⟨by rfl, rfl⟩) (by assumption) ?_
        try simp only [Act.put, List.setIfInBounds_toArray, List.set_cons_zero, List.set_cons_succ]
        refine wpAnyH_take (i := 11) (v := undef) (by simp only [List.getElem?_toArray, List.getElem?_cons_succ, List.getElem?_cons_zero]; rfl) (by kernel_rfl) (by kernel_rfl) (by kernel_rfl) (by exact fun _ _ _ h => h) (Or.inr ⟨by rfl, rfl⟩) (by assumption) ?_
        try simp only [Act.put, List.setIfInBounds_toArray, List.set_cons_zero, List.set_cons_succ]
        refine wpAnyH_take (i := 12) (v := undef) (by simp only [List.getElem?_toArray, List.getElem?_cons_succ, List.getElem?_cons_zero]; rfl) (by kernel_rfl) (by kernel_rfl) (by kernel_rfl) (by exact fun _ _ _ h => h) (Or.inr ⟨by rfl, rfl⟩) (by assumption) ?_
        try simp only [Act.put, List.setIfInBounds_toArray, List.set_cons_zero, List.set_cons_succ]
        refine wpAnyH_take (i := 13) (v := undef) (by simp only [List.getElem?_toArray, List.getElem?_cons_succ, List.getElem?_cons_zero]; rfl) (by kernel_rfl) (by kernel_rfl) (by kernel_rfl) (by exact fun _ _ _ h => h) (Or.inr ⟨by rfl, rfl⟩) (by assumption) ?_
        try simp only [Act.put, List.setIfInBounds_toArray, List.set_cons_zero, List.set_cons_succ]
        refine wpAnyH_take (i := 14) (v := undef) (by simp only [List.getElem?_toArray, List.getElem?_cons_succ, List.getElem?_cons_zero]; rfl) (by kernel_rfl) (by kernel_rfl) (by kernel_rfl) (by exact fun _ _ _ h => h) (Or.inr ⟨by rfl, rfl⟩) (by assumption) ?_
        try simp only [Act.put, List.setIfInBounds_toArray, List.set_cons_zero, List.set_cons_succ]
        refine wpAnyH_take (i := 15) (v := ?v15) (by simp only [List.getElem?_toArray, List.getElem?_cons_succ, List.getElem?_cons_zero]; rfl) (by kernel_rfl) (by kernel_rfl) (by kernel_rfl) (by exact fun _ _ _ h => h) (Or.inl ⟨by rfl, ?hy15⟩) (by assumption) ?rest15
        case hy15 => (intro w hSw; (try dsimp only at hSw); go_simp; try with_reducible rfl)
        try simp only [Act.put, List.setIfInBounds_toArray, List.set_cons_zero, List.set_cons_succ]
        refine wpAnyH_done (by kernel_rfl) ?_ _
        go_wp2_with fail
        go_ret
        exact ⟨false, rfl, ⟨fun h => (by cases h), fun h => (HNO.out h).elim⟩, hfd⟩
    · have hjl : j = ns.length := by omega
      subst hjl
      go_wp2_with fail
      obtain ⟨wo, rfl⟩ : ∃ wo : World, wo = wr := ⟨_, rfl⟩
      go_loopw [6] (fun u wr => ∃ (j : Nat), j ≤ zs.length ∧ u = .int .i64 j ∧ Fr No w wr ∧ SizesOk zs j) (fun u _ => zs.length - (intOf u).toNat)
      case atStart => exact ⟨0, Nat.zero_le _, rfl, HF.out, fun i x hi => by omega⟩
      case round =>
        obtain ⟨j, hj, rfl, hfr, hok⟩ := hrel
        have HOKZ := Lib.hid hok
        have HFZ := Lib.hid hfr
        clear hok hfr
        by_cases hlt : j < zs.length
        · obtain ⟨z, hzj⟩ : ∃ z, zs[j]? = some z := ⟨_, List.getElem?_eq_getElem hlt⟩
          obtain ⟨g, o, rfl, hc0⟩ := HZ.out j z hzj
          have hcw := (HFZ.out.cell (p := ⟨g, o + j, none⟩) (block_lt hc0) (fun h => h)).trans hc0
          have HX := Lib.hid hzj
          clear hzj hc0
          go_wp2_with fail
          refine (in_any _ z 1 4).mono ?_
          rintro e w2 ⟨rfl, rfl⟩
          by_cases hin : 1 ≤ z ∧ z ≤ 4
          · rw [decide_eq_true hin]
            have HN1 : Hid (SizesOk zs (j + 1)) := HOKZ.out.more HX.out hin
            clear hin
            go_wp2_with fail
            go_roundw
            case rel => exact ⟨j + 1, by omega, by go_num, HFZ.out, HN1.out⟩
            case measure => simp [intOf]; omega
          · rw [decide_eq_false hin]
            have HNO : Hid (¬ ∃ ms, ModelIs ns zs ms) := fun h => hin (((model_iff ns zs).1 h).2.1 j z hlt HX.out)
            clear hin
            go_wp2_with fail
            go_ret
            exact ⟨false, rfl, ⟨fun h => (by cases h), fun h => (HNO.out h).elim⟩, HFZ.out⟩
        · have hjl : j = zs.length := by omega
          subst hjl
          by_cases hne : ns.length = zs.length
          · by_cases h26 : ns.length ≤ 26
            · have HY : Hid (∃ ms, ModelIs ns zs ms) := (model_iff ns zs).2 ⟨HOK.out, HOKZ.out, hne, h26⟩
              have h26' : ¬ 26 < (ns.length : Int) := by omega
              have h26'' : (ns.length : Int) ≤ 26 := by omega
              rw [← hne]
              clear hne
              go_wp2_with fail
              go_ret
              first | exact ⟨true, rfl, ⟨fun _ => HY.out, fun _ => rfl⟩, HFZ.out⟩ | exact ⟨_, rfl, ⟨fun _ => HY.out, fun _ => by simp; omega⟩, HFZ.out⟩
            · have HNO : Hid (¬ ∃ ms, ModelIs ns zs ms) := fun h => h26 ((model_iff ns zs).1 h).2.2.2
              have h26' : 26 < (ns.length : Int) := by omega
              rw [← hne]
              clear hne
              go_wp2_with fail
              go_ret
              first | exact ⟨false, rfl, ⟨fun h => (by cases h), fun h => (HNO.out h).elim⟩, HFZ.out⟩ | exact ⟨_, rfl, ⟨fun h => (by simp at h; omega), fun h => (HNO.out h).elim⟩, HFZ.out⟩
          · have HNO : Hid (¬ ∃ ms, ModelIs ns zs ms) := fun h => hne ((model_iff ns zs).1 h).2.2.1
            have hd : ((ns.length : Int) == (zs.length : Int)) = false := beq_eq_false_iff_ne.2 (by omega)
            clear hne
            go_wp2_with fail
            go_ret
            exact ⟨false, rfl, ⟨fun h => (by cases h), fun h => (HNO.out h).elim⟩, HFZ.out⟩
end Go.Proofs.Ytmpadnnpmbgdcaa
