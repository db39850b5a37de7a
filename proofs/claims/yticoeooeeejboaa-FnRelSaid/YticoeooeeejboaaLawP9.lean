/- The law FnRel: a valid relation relates as many pairs as it lists. -/
import Derived.Test.YticoeooeeejboaaDrs
import Derived.Test.YticoeooeeejboaaGbk
import Derived.Test.YticoeooeeejboaaLrel
namespace Go.Proofs.Yticoeooeeejboaa
open Go.RowKit Go.ChangeMaps Go.Shelf

/-- how many numbers of a list lie below a bound -/
def cntTo (ps : List Int) (k : Nat) : Nat := (ps.filter (fun x => decide (x < (k : Int)))).length

theorem cnt_more {ps : List Int} (h : ps.Pairwise (· < ·)) (k : Nat) : cntTo ps (k + 1) = cntTo ps k + if (k : Int) ∈ ps then 1 else 0 := by
  induction ps with
  | nil => simp [cntTo]
  | cons x t ih =>
    have h1 := List.pairwise_cons.1 h
    have ih := ih h1.2
    unfold cntTo at ih ⊢
    rcases Int.lt_trichotomy x k with hx | hx | hx
    · have ne : (k : Int) ≠ x := by omega
      rw [List.filter_cons_of_pos (by simp; omega), List.filter_cons_of_pos (by simpa using hx), List.length_cons, List.length_cons, ih]
      simp only [List.mem_cons, ne, false_or]
      omega
    · subst hx
      have nm : (k : Int) ∉ t := fun hm => by have := h1.1 _ hm; omega
      rw [List.filter_cons_of_pos (by simp; omega), List.filter_cons_of_neg (by simp), List.length_cons, ih]
      simp [nm]
    · have ne : (k : Int) ≠ x := by omega
      rw [List.filter_cons_of_neg (by simp; omega), List.filter_cons_of_neg (by simp; omega), ih]
      simp only [List.mem_cons, ne, false_or]

theorem cnt_none {L R : Int} {ps : List Int} (h : RelOk L R ps) : cntTo ps 0 = 0 := by
  unfold cntTo
  rw [List.filter_eq_nil_iff.2 (fun x hx => by have := (h.bnd x hx).1; simp; omega)]
  rfl

theorem cnt_all {l r : Nat} {ps : List Int} (h : RelOk l r ps) : cntTo ps (l * r) = ps.length := by
  unfold cntTo
  rw [List.filter_eq_self.2 (fun x hx => by have := (h.bnd x hx).2; simp; omega)]

theorem Fr.kept {w w' : World} (h : Fr No w w') : Below w.heap.size w w' := h.below (Nat.le_refl _) (fun _ h => h.elim)

theorem cnt_le (ps : List Int) (k : Nat) : cntTo ps k ≤ ps.length := List.length_filter_le _ _

set_option maxRecDepth 100000 in
set_option maxHeartbeats 2000000 in
theorem drawRelValid (w : World) (A : Option Addr) (n c : Nat) (hn : n ≤ maxLen) (hnc : n ≤ c) (hb : Byt w A n) :
    Calls Try.prog 4 #[.slice A n c] w fun e w' => DrF w e w' := by
  obtain ⟨W0, hW0, hf0, hb0⟩ : ∃ W, W = w.alloc (.cells #[.int .i64 0, .int .i64 0, .slice none 0 0] 25) ∧ Fr No w W ∧ Blk W w.heap.size 25 #[.int .i64 0, .int .i64 0, .slice none 0 0] := ⟨_, rfl, (Fr.refl _ _).alloc _, Blk.new _ _ _⟩
  have HF0 := Lib.hid hf0
  have HB0 := Lib.hid hb0
  have OP := Lib.hid (open_any W0 A n c hn hnc (hb.keep hf0))
  clear hb hf0 hb0 hn hnc
  go_enter Try.func4, Try.ntmps4
  go_wp2_with fail
  rw [← hW0]
  clear hW0
  refine OP.out.mono ?_
  rintro e w1 ⟨r, A1, n1, c1, rfl, hf1, hr1, hd1⟩
  have AD := Lib.hid (any_draw w1 r A1 n1 c1 0 hd1 (by omega))
  have HF1 := Lib.hid hf1
  have hs0 : w.heap.size < W0.heap.size := HB0.out.lt
  have hs1 : W0.heap.size ≤ w1.heap.size := hf1.size
  clear hf1 hd1 OP
  go_wp2_with fail
  refine AD.out.mono ?_
  rintro e w2 ⟨L, R, ps, g, cp, p', rfl, hor, hlen, _, hf2, _, _⟩
  have hb2 := HB0.out.fr (HF1.out.trans (Fr.refl _ _)) (fun h => h)
  have hb3 := hb2.fr hf2 (fun e => by have e : w.heap.size = r := e; omega)
  have a0 : w2.cell? ⟨w.heap.size, 0, none⟩ = some (.int .i64 0) := (hb3.cell 0).trans rfl
  have a1 : w2.cell? ⟨w.heap.size, 1, none⟩ = some (.int .i64 0) := (hb3.cell 1).trans rfl
  have a2 : w2.cell? ⟨w.heap.size, 2, none⟩ = some (.slice none 0 0) := (hb3.cell 2).trans rfl
  have f0 := hb3.frozen 0
  have f1 := hb3.frozen 1
  have f2 := hb3.frozen 2
  have l0 := hb3.lt
  have HFIN : Hid (∀ v0 v1 v2, DrF w (.returned (RV L R (some ⟨g, 0, none⟩) ps.length cp)) (((w2.setCell ⟨w.heap.size, 0, none⟩ v0).setCell ⟨w.heap.size, 1, none⟩ v1).setCell ⟨w.heap.size, 2, none⟩ v2)) := fun v0 v1 v2 => by
    have hf : Fr (One w.heap.size) w2 (((w2.setCell ⟨w.heap.size, 0, none⟩ v0).setCell ⟨w.heap.size, 1, none⟩ v1).setCell ⟨w.heap.size, 2, none⟩ v2) := (((Fr.refl (One w.heap.size) w2).setCell (p := ⟨w.heap.size, 0, none⟩) (.inl rfl) _).setCell (p := ⟨w.heap.size, 1, none⟩) (.inl rfl) _).setCell (p := ⟨w.heap.size, 2, none⟩) (.inl rfl) _
    exact ⟨L, R, ps, _, cp, rfl, (hor.fr hf (fun b hb e => by have e : b = w.heap.size := e; have := (hor.bounds hb).1; omega)).low (by omega), by omega, ((HF0.out.trans HF1.out).then_ hf2 (fun b hb e => by have e : b = r := e; omega)).then_ hf (fun b hb e => by have e : b = w.heap.size := e; omega)⟩
  clear hb2 hb3 hor hf2 AD
  go_wp2_with fail
  refine bodyPost_ret (v := RV L R (some ⟨g, 0, none⟩) ps.length cp) (by simp [results, Try.results4, go_sem, a0, a1, a2]) rfl ?_
  exact HFIN.out _ _ _

set_option maxRecDepth 100000 in
set_option maxHeartbeats 8000000 in
theorem lawRelP (w : World) (A : Option Addr) (n c : Nat) (hn : n ≤ maxLen) (hnc : n ≤ c) (hb : Byt w A n) :
    Calls Try.prog 3 #[.slice A n c] w fun e w' => Yes w e w' := by
  have hn' := hn
  unfold maxLen at hn'
  by_cases hbig : 1048576 < n
  · have hd : decide ((1048576 : Int) < (n : Int)) = true := by simp; omega
    go_enter Try.func3, Try.ntmps3
    go_wp2_with fail
    go_ret
    exact ⟨rfl, Fr.refl _ _⟩
  have hd : decide ((1048576 : Int) < (n : Int)) = false := by simp; omega
  have DR := Lib.hid (drawRelValid w A n c hn hnc hb)
  clear hb hbig
  go_enter Try.func3, Try.ntmps3
  go_wp2_with fail
  refine DR.out.mono ?_
  rintro e w1 ⟨L, R, ps, B, cp, rfl, ho1, hl1, hf1⟩
  obtain ⟨W2, hW2, hfr, hbr⟩ : ∃ V, V = w1.alloc (.cells #[.int .i64 L, .int .i64 R, .slice B ps.length cp] 25) ∧ Fr No w1 V ∧ Blk V w1.heap.size 25 #[.int .i64 L, .int .i64 R, .slice B ps.length cp] := ⟨_, rfl, (Fr.refl _ _).alloc _, Blk.new _ _ _⟩
  have HBr : Hid (∀ V, Fr No W2 V → V.cell? ⟨w1.heap.size, 0, none⟩ = some (.int .i64 L) ∧ V.cell? ⟨w1.heap.size, 1, none⟩ = some (.int .i64 R) ∧ V.cell? ⟨w1.heap.size, 2, none⟩ = some (.slice B ps.length cp) ∧ w1.heap.size < V.heap.size) := fun V hf => by
    have hb := hbr.fr hf (fun h => h)
    exact ⟨(hb.cell 0).trans rfl, (hb.cell 1).trans rfl, (hb.cell 2).trans rfl, hb.lt⟩
  have HF2 := Lib.hid (hf1.trans hfr)
  have HO2 := Lib.hid (ho1.no hfr)
  obtain ⟨b, HVB, FI, FS⟩ : ∃ b : Bool, Hid (b = true ↔ RelOk L R ps) ∧ Hid (Calls Try.prog 5 #[RV L R B ps.length cp] W2 fun e w' => e = .returned (.bool b) ∧ Fr No W2 w') ∧ Hid (∀ V, Fr No W2 V → Calls Try.prog 6 #[RV L R B ps.length cp] V fun e w' => e = .returned (.bool b) ∧ Fr No V w') := by
    have key : ∀ (b b' : Bool), (b = true ↔ RelOk L R ps) → (b' = true ↔ RelOk L R ps) → b = b' := fun b b' h h' => Bool.eq_iff_iff.2 (h.trans h'.symm)
    obtain ⟨b, hb⟩ : ∃ b : Bool, b = true ↔ RelOk L R ps := by
      by_cases h : RelOk L R ps
      · exact ⟨true, by simpa using h⟩
      · exact ⟨false, by simpa using h⟩
    refine ⟨b, hb, (implRelValid W2 L R B cp ps (OR.isl HO2.out) (by omega)).mono ?_, fun V hf => (specRelValid V L R B cp ps (OR.isl (HO2.out.no hf)) (by omega)).mono ?_⟩
    · rintro e w' ⟨b', rfl, hb', hf'⟩
      exact ⟨by rw [key b b' hb hb'], hf'⟩
    · rintro e w' ⟨b', rfl, hb', hf'⟩
      exact ⟨by rw [key b b' hb hb'], hf'⟩
  obtain ⟨c0, c1, c2, c3⟩ := HBr.out W2 (Fr.refl _ _)
  clear hf1 hfr hbr ho1 DR
  subst hW2
  go_wp2_with fail
  refine FI.out.mono ?_
  rintro e w3 ⟨rfl, hf3⟩
  have HF3 := Lib.hid hf3
  clear c0 c1 c2 c3
  obtain ⟨c0, c1, c2, c3⟩ := HBr.out w3 hf3
  clear hf3
  go_wp2_with fail
  refine (FS.out w3 HF3.out).mono ?_
  rintro e w4 ⟨rfl, hf4⟩
  have HF4 := Lib.hid (HF3.out.trans hf4)
  clear c0 c1 c2 c3
  obtain ⟨c0, c1, c2, c3⟩ := HBr.out w4 HF4.out
  clear hf4 FI FS
  cases b with
  | false =>
    go_wp2_with fail
    go_ret
    exact ⟨rfl, HF2.out.trans HF4.out⟩
  | true =>
    have hok := HVB.out.1 rfl
    obtain ⟨l, r, rfl, rfl, l1, l2, r1, r2⟩ := hok.nat
    have HOK := Lib.hid hok
    have HAS : Hid (∀ V (i j : Nat), Fr No w4 V → i < l → j < r → Calls Try.prog 7 #[RV l r B ps.length cp, .int .i64 i, .int .i64 j] V fun e w' => e = .returned (.bool (decide (((i * r + j : Nat) : Int) ∈ ps))) ∧ Fr No V w') := fun V i j hf hi hj => (implRelHas V l r B cp ps i j (OR.isl (HO2.out.no (HF4.out.trans hf))) (by omega)).mono (by
      rintro e w' ⟨b, rfl, hb, hf'⟩
      refine ⟨?_, hf'⟩
      have e1 : b = decide (((i * r + j : Nat) : Int) ∈ ps) := by
        rw [Bool.eq_iff_iff, hb, decide_eq_true_iff]
        constructor
        · rintro ⟨_, _, _, h⟩
          have e2 : ((i * r + j : Nat) : Int) = (i : Int) * (r : Int) + (j : Int) := by push_cast; rfl
          rw [e2]
          exact h
        · intro h
          have e2 : ((i * r + j : Nat) : Int) = (i : Int) * (r : Int) + (j : Int) := by push_cast; rfl
          rw [e2] at h
          exact ⟨HOK.out, by omega, by omega, h⟩
      rw [e1])
    have ST : Hid (((cntTo ps (0 * r) : Nat) : Int) = 0) := by
      have h := cnt_none HOK.out
      show ((cntTo ps (0 * r) : Nat) : Int) = 0
      rw [Nat.zero_mul, h]
      rfl
    clear hok
    go_wp2_with fail
    clear c0 c1 c2 c3
    go_loopw [6, 7] (fun v u wr => ∃ (i : Nat), i ≤ l ∧ u = .int .i64 i ∧ v = .int .i64 ((cntTo ps (i * r) : Nat) : Int) ∧ Fr No w4 wr) (fun _ u _ => l - (intOf u).toNat)
    case atStart => exact ⟨0, Nat.zero_le _, rfl, by rw [ST.out], Fr.refl _ _⟩
    case round =>
      obtain ⟨i, hi, rfl, rfl, hfr⟩ := hrel
      have HFR := Lib.hid hfr
      obtain ⟨c0, c1, c2, c3⟩ := HBr.out wr (HF4.out.trans hfr)
      clear hfr
      by_cases hlt : i < l
      · have hiI : (i : Int) < (l : Int) := by omega
        go_wp2_with fail
        clear c0 c1 c2 c3
        generalize wr = wa at *
        go_loopw [6, 8] (fun v u w3 => ∃ (j : Nat), j ≤ r ∧ u = .int .i64 j ∧ v = .int .i64 ((cntTo ps (i * r + j) : Nat) : Int) ∧ Fr No w4 w3) (fun _ u _ => r - (intOf u).toNat)
        case atStart => exact ⟨0, Nat.zero_le _, rfl, rfl, HFR.out⟩
        case round =>
          obtain ⟨j, hj, rfl, rfl, hfr⟩ := hrel
          have HFJ := Lib.hid hfr
          obtain ⟨c0, c1, c2, c3⟩ := HBr.out wr (HF4.out.trans hfr)
          clear hfr
          by_cases hlt2 : j < r
          · have hjI : (j : Int) < (r : Int) := by omega
            have CALL := Lib.hid (HAS.out wr i j HFJ.out hlt hlt2)
            have CM := cnt_more HOK.out.asc (i * r + j)
            have CL := cnt_le ps (i * r + j)
            by_cases hm : ((i * r + j : Nat) : Int) ∈ ps
            · have hdm : decide (((i * r + j : Nat) : Int) ∈ ps) = true := decide_eq_true hm
              rw [hdm] at CALL
              rw [if_pos hm] at CM
              have CMH := Lib.hid CM
              clear hm hdm CM
              go_wp2_with fail
              refine CALL.out.mono ?_
              rintro e w6 ⟨rfl, hf6⟩
              have HF6 := Lib.hid (HFJ.out.trans hf6)
              clear hf6 CALL c0 c1 c2 c3
              go_wp2_with fail
              go_roundw
              case rel => exact ⟨j + 1, by omega, by go_num, by rw [show i * r + (j + 1) = i * r + j + 1 from rfl, CMH.out]; go_num, HF6.out⟩
              case measure => simp [intOf]; omega
            · have hdm : decide (((i * r + j : Nat) : Int) ∈ ps) = false := decide_eq_false hm
              rw [hdm] at CALL
              rw [if_neg hm] at CM
              have CMH := Lib.hid CM
              clear hm hdm CM
              go_wp2_with fail
              refine CALL.out.mono ?_
              rintro e w6 ⟨rfl, hf6⟩
              have HF6 := Lib.hid (HFJ.out.trans hf6)
              clear hf6 CALL c0 c1 c2 c3
              go_wp2_with fail
              go_roundw
              case rel => exact ⟨j + 1, by omega, by go_num, by rw [show i * r + (j + 1) = i * r + j + 1 from rfl, CMH.out]; go_num, HF6.out⟩
              case measure => simp [intOf]; omega
          · obtain rfl : j = r := by omega
            go_wp2_with fail
            go_roundw
            case rel => exact ⟨i + 1, by omega, by go_num, by rw [Nat.succ_mul], HFJ.out⟩
            case measure => simp [intOf]; omega
      · obtain rfl : i = l := by omega
        have HEND := Lib.hid (HF2.out.trans (HF4.out.trans HFR.out))
        rw [cnt_all HOK.out]
        go_wp2_with fail
        go_ret
        exact ⟨rfl, HEND.out⟩
end Go.Proofs.Yticoeooeeejboaa
