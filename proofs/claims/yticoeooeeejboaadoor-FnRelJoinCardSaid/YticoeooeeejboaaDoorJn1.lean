/- RelJoin of the model. -/
import Derived.Test.YticoeooeeejboaaDoorJn0
namespace Go.Proofs.YticoeooeeejboaaDoor
open Go.RowKit Go.ChangeMaps Go.Shelf

/-- what is there while pairs come in -/
structure JI (w : World) (B0 l r r2 : Nat) (A0 : Option Addr) (n0 c0 : Nat) (A1 : Option Addr) (n1 c1 : Nat) (qs : List Nat) (wr : World) : Prop where
  fr : Fr No w wr
  ra : Blk wr w.heap.size 25 #[.int .i64 (l : Int), .int .i64 (r : Int), .slice A0 n0 c0]
  rb : Blk wr (w.heap.size + 1) 25 #[.int .i64 (r : Int), .int .i64 (r2 : Int), .slice A1 n1 c1]
  rt : Blk wr (w.heap.size + 2) 25 #[.int .i64 0, .int .i64 0, .slice none 0 0]
  bx : ∃ A m c, Blk wr (B0 + 1) 25 #[.int .i64 (l : Int), .int .i64 (r2 : Int), .slice A m c] ∧ OR wr B0 A m c (qs.map Int.ofNat)
  lo : w.heap.size + 3 ≤ B0

theorem JI.step {w wr wr' : World} {B0 l r r2 n0 c0 n1 c1 : Nat} {A0 A1 : Option Addr} {qs : List Nat} (h : JI w B0 l r r2 A0 n0 c0 A1 n1 c1 qs wr) (hf : Fr No wr wr') : JI w B0 l r r2 A0 n0 c0 A1 n1 c1 qs wr' := by
  obtain ⟨A, m, c, h1, h2⟩ := h.bx
  exact ⟨h.fr.trans hf, h.ra.fr hf (fun h => h), h.rb.fr hf (fun h => h), h.rt.fr hf (fun h => h), ⟨A, m, c, h1.fr hf (fun h => h), h2.no hf⟩, h.lo⟩

set_option maxRecDepth 100000 in
set_option maxHeartbeats 8000000 in
theorem specRelJoin (w : World) (L R : Int) (A0 : Option Addr) (c0 : Nat) (ps : List Int) (L2 R2 : Int) (A1 : Option Addr) (c1 : Nat) (qs : List Int) (hp : ISl w A0 ps) (hn : ps.length ≤ 2000000) (hp1 : ISl w A1 qs) (hn1 : qs.length ≤ 2000000) :
    Calls Tryd.prog 21 #[RV L R A0 ps.length c0, RV L2 R2 A1 qs.length c1] w fun e w' => AnsR (joinO L R ps L2 R2 qs) w e w' := by
  obtain ⟨W0, hW0, hf0, hr0, hs0, hb0⟩ : ∃ W, W = ((w.alloc (.cells #[.int .i64 L, .int .i64 R, .slice A0 ps.length c0] 25)).alloc (.cells #[.int .i64 L2, .int .i64 R2, .slice A1 qs.length c1] 25)).alloc (.cells #[.int .i64 0, .int .i64 0, .slice none 0 0] 25) ∧ Fr No w W ∧ Blk W w.heap.size 25 #[.int .i64 L, .int .i64 R, .slice A0 ps.length c0] ∧ Blk W (w.heap.size + 1) 25 #[.int .i64 L2, .int .i64 R2, .slice A1 qs.length c1] ∧ Blk W (w.heap.size + 2) 25 #[.int .i64 0, .int .i64 0, .slice none 0 0] :=
    ⟨_, rfl, (((Fr.refl No w).alloc _).alloc _).alloc _, ((Blk.new _ _ _).alloc _).alloc _, (Blk.new_at _ _ _ (by simp)).alloc _, Blk.new_at _ _ _ (by simp)⟩
  have HF0 := Lib.hid hf0
  have HR0 := Lib.hid hr0
  have HS0 := Lib.hid hs0
  have HB0 := Lib.hid hb0
  have VALA : Hid (∀ W, Fr No w W → Calls Tryd.prog 31 #[RV L R A0 ps.length c0] W fun e w' => ValP L R ps W e w') := fun W hf => specRelValid W L R A0 c0 ps (hp.keep hf (fun _ h => h.elim)) hn
  have VALB : Hid (∀ W, Fr No w W → Calls Tryd.prog 31 #[RV L2 R2 A1 qs.length c1] W fun e w' => ValP L2 R2 qs W e w') := fun W hf => specRelValid W L2 R2 A1 c1 qs (hp1.keep hf (fun _ h => h.elim)) hn1
  have HASA : Hid (∀ W (l r i k : Nat), Fr No w W → RelOk l r ps → i < l → k < r → Calls Tryd.prog 33 #[RV l r A0 ps.length c0, .int .i64 i, .int .i64 k] W fun e w' => e = .returned (.bool (memR r ps i k)) ∧ Fr No W w') := fun W l r i k hf hok hi hk => has6_any W l r A0 c0 ps (hp.keep hf (fun _ h => h.elim)) hn hok i k hi hk
  have HASB : Hid (∀ W (l r i k : Nat), Fr No w W → RelOk l r qs → i < l → k < r → Calls Tryd.prog 33 #[RV l r A1 qs.length c1, .int .i64 i, .int .i64 k] W fun e w' => e = .returned (.bool (memR r qs i k)) ∧ Fr No W w') := fun W l r i k hf hok hi hk => has6_any W l r A1 c1 qs (hp1.keep hf (fun _ h => h.elim)) hn1 hok i k hi hk
  obtain ⟨i0, hi0, hz0, hz1, hz2⟩ := info_parts info_int
  clear hf0 hr0 hs0 hb0 hp hp1
  go_enter Tryd.func21, Tryd.ntmps21
  go_wp2_with fail
  rw [← hW0]
  clear hW0
  refine (VALA.out _ HF0.out).mono ?_
  rintro e w1 ⟨bv, rfl, hbv, hf1⟩
  have HBV := Lib.hid hbv
  have HF1 := Lib.hid (HF0.out.trans hf1)
  have HR1 := Lib.hid (HR0.out.fr hf1 (fun h => h))
  have HS1 := Lib.hid (HS0.out.fr hf1 (fun h => h))
  have HB1 := Lib.hid (HB0.out.fr hf1 (fun h => h))
  have FAIL : Hid (∀ W, Fr No w1 W → ¬ JoinOk L R ps L2 R2 qs → AnsR (joinO L R ps L2 R2 qs) w (.returned (.tuple #[RV 0 0 none 0 0, .bool false])) (((W.setCell ⟨w.heap.size + 2, 0, none⟩ (.int .i64 0)).setCell ⟨w.heap.size + 2, 1, none⟩ (.int .i64 0)).setCell ⟨w.heap.size + 2, 2, none⟩ (.slice none 0 0))) := fun W hf h => by
    rw [joinO_no h]
    exact AnsR.none_ ((((HF1.out.trans hf).setCell (p := ⟨w.heap.size + 2, 0, none⟩) (.inr (Nat.le_add_right _ _)) _).setCell (p := ⟨w.heap.size + 2, 1, none⟩) (.inr (Nat.le_add_right _ _)) _).setCell (p := ⟨w.heap.size + 2, 2, none⟩) (.inr (Nat.le_add_right _ _)) _)
  clear hbv hf1 VALA HF0 HR0 HS0 HB0
  cases bv with
  | false =>
    have HE := Lib.hid (FAIL.out w1 (Fr.refl _ _) (fun h => by have := HBV.out.2 h.1; cases this))
    obtain ⟨a0, a1, a2⟩ : w1.cell? ⟨w.heap.size + 2, 0, none⟩ = some (.int .i64 0) ∧ w1.cell? ⟨w.heap.size + 2, 1, none⟩ = some (.int .i64 0) ∧ w1.cell? ⟨w.heap.size + 2, 2, none⟩ = some (.slice none 0 0) := ⟨(HB1.out.cell 0).trans rfl, (HB1.out.cell 1).trans rfl, (HB1.out.cell 2).trans rfl⟩
    have f0 := HB1.out.frozen 0
    have f1 := HB1.out.frozen 1
    have f2 := HB1.out.frozen 2
    clear FAIL
    go_wp2_with fail
    refine bodyPost_ret (v := .tuple #[RV 0 0 none 0 0, .bool false]) (by simp [results, Tryd.results21, go_sem, a0, a1, a2]) rfl ?_
    exact HE.out
  | true =>
    have hokA : RelOk L R ps := HBV.out.1 rfl
    have HOKA := Lib.hid hokA
    clear hokA HBV
    have b0 : w1.cell? ⟨w.heap.size + 1, 0, none⟩ = some (.int .i64 L2) := (HS1.out.cell 0).trans rfl
    have b1 : w1.cell? ⟨w.heap.size + 1, 1, none⟩ = some (.int .i64 R2) := (HS1.out.cell 1).trans rfl
    have b2 : w1.cell? ⟨w.heap.size + 1, 2, none⟩ = some (.slice A1 qs.length c1) := (HS1.out.cell 2).trans rfl
    go_wp2_with fail
    refine (VALB.out _ HF1.out).mono ?_
    rintro e w2 ⟨bv, rfl, hbv, hf2⟩
    have HBV := Lib.hid hbv
    have HF2 := Lib.hid (HF1.out.trans hf2)
    have HR2 := Lib.hid (HR1.out.fr hf2 (fun h => h))
    have HS2 := Lib.hid (HS1.out.fr hf2 (fun h => h))
    have HB2 := Lib.hid (HB1.out.fr hf2 (fun h => h))
    have FAIL2 := Lib.hid (FAIL.out w2 hf2)
    obtain ⟨a0, a1, a2⟩ : w2.cell? ⟨w.heap.size + 2, 0, none⟩ = some (.int .i64 0) ∧ w2.cell? ⟨w.heap.size + 2, 1, none⟩ = some (.int .i64 0) ∧ w2.cell? ⟨w.heap.size + 2, 2, none⟩ = some (.slice none 0 0) := ⟨(HB2.out.cell 0).trans rfl, (HB2.out.cell 1).trans rfl, (HB2.out.cell 2).trans rfl⟩
    have f0 := HB2.out.frozen 0
    have f1 := HB2.out.frozen 1
    have f2 := HB2.out.frozen 2
    clear hbv hf2 VALB HF1 HR1 HS1 HB1 FAIL b0 b1 b2
    cases bv with
    | false =>
      have HE := Lib.hid (FAIL2.out (fun h => by have := HBV.out.2 h.2.1; cases this))
      clear FAIL2
      go_wp2_with fail
      refine bodyPost_ret (v := .tuple #[RV 0 0 none 0 0, .bool false]) (by simp [results, Tryd.results21, go_sem, a0, a1, a2]) rfl ?_
      exact HE.out
    | true =>
      have hokB : RelOk L2 R2 qs := HBV.out.1 rfl
      have HOKB := Lib.hid hokB
      have c0' : w2.cell? ⟨w.heap.size, 0, none⟩ = some (.int .i64 L) := (HR2.out.cell 0).trans rfl
      have c1' : w2.cell? ⟨w.heap.size, 1, none⟩ = some (.int .i64 R) := (HR2.out.cell 1).trans rfl
      have b0 : w2.cell? ⟨w.heap.size + 1, 0, none⟩ = some (.int .i64 L2) := (HS2.out.cell 0).trans rfl
      have b1 : w2.cell? ⟨w.heap.size + 1, 1, none⟩ = some (.int .i64 R2) := (HS2.out.cell 1).trans rfl
      clear hokB HBV
      by_cases heq : R = L2
      · subst heq
        have hne : (R != R) = false := by simp
        have hok : JoinOk L R ps R R2 qs := ⟨HOKA.out, HOKB.out, rfl⟩
        have HOK := Lib.hid hok
        obtain ⟨⟨l0, l1⟩, ⟨r0, r1⟩, _, _⟩ := HOKA.out
        obtain ⟨_, ⟨s0, s1⟩, _, _⟩ := HOKB.out
        obtain ⟨l, rfl⟩ : ∃ l : Nat, L = l := ⟨L.toNat, by omega⟩
        obtain ⟨r, rfl⟩ : ∃ r : Nat, R = r := ⟨R.toNat, by omega⟩
        obtain ⟨r2, rfl⟩ : ∃ r2 : Nat, R2 = r2 := ⟨R2.toNat, by omega⟩
        have hl2 : l ≤ 128 := by omega
        have hr2 : r ≤ 128 := by omega
        have hs2 : r2 ≤ 128 := by omega
        clear hok FAIL2
        go_wp2_with fail
        have J0 : Hid (JI w w2.heap.size l r r2 A0 ps.length c0 A1 qs.length c1 [] ((w2.alloc (.cells #[] 3)).alloc (.cells #[.int .i64 (l : Int), .int .i64 (r2 : Int), .slice (some ⟨w2.heap.size, 0, none⟩) 0 0] 25))) := by
          have hf : Fr No w2 ((w2.alloc (.cells #[] 3)).alloc (.cells #[.int .i64 (l : Int), .int .i64 (r2 : Int), .slice (some ⟨w2.heap.size, 0, none⟩) 0 0] 25)) := ((Fr.refl No w2).alloc _).alloc _
          exact ⟨HF2.out.trans hf, HR2.out.fr hf (fun h => h), HS2.out.fr hf (fun h => h), HB2.out.fr hf (fun h => h), ⟨_, 0, 0, Blk.new_at _ _ _ (by simp), (or_new w2).no ((Fr.refl No _).alloc _)⟩, by have := HB2.out.lt; omega⟩
        generalize ((w2.alloc (.cells #[] 3)).alloc (.cells #[.int .i64 (l : Int), .int .i64 (r2 : Int), .slice (some ⟨w2.heap.size, 0, none⟩) 0 0] 25)) = W2 at J0 ⊢
        generalize w2.heap.size = B0 at J0 ⊢
        clear c0' c1' b0 b1 a0 a1 a2 f0 f1 f2 HF2 HR2 HS2 HB2 hne
        go_loopw [7] (fun u wr => ∃ (i : Nat), i ≤ l ∧ u = .int .i64 i ∧ JI w B0 l r r2 A0 ps.length c0 A1 qs.length c1 (pairsOf i r2 (midB r ps r2 qs r)) wr) (fun u _ => l - (intOf u).toNat)
        case atStart => exact ⟨0, Nat.zero_le _, rfl, J0.out⟩
        case round =>
          obtain ⟨i, hi, rfl, hji⟩ := hrel
          have HJI := Lib.hid hji
          have b0 : wr.cell? ⟨w.heap.size, 0, none⟩ = some (.int .i64 l) := (hji.ra.cell 0).trans rfl
          clear hji J0
          by_cases hlt : i < l
          · have hiI : (i : Int) < (l : Int) := by omega
            go_wp2_with fail
            have START : Hid (JI w B0 l r r2 A0 ps.length c0 A1 qs.length c1 (pairsOf i r2 (midB r ps r2 qs r) ++ (elems 0 (midB r ps r2 qs r i)).map (i * r2 + ·)) wr) := by
              have h := HJI.out
              show JI _ _ _ _ _ _ _ _ _ _ _ _ _
              simpa [elems] using h
            clear b0 HJI
            go_loopw [8] (fun u wr => ∃ (k : Nat), k ≤ r2 ∧ u = .int .i64 k ∧ JI w B0 l r r2 A0 ps.length c0 A1 qs.length c1 (pairsOf i r2 (midB r ps r2 qs r) ++ (elems k (midB r ps r2 qs r i)).map (i * r2 + ·)) wr) (fun u _ => r2 - (intOf u).toNat)
            case atStart => exact ⟨0, Nat.zero_le _, rfl, START.out⟩
            case round =>
              obtain ⟨k, hk, rfl, hji⟩ := hrel
              have HJI := Lib.hid hji
              have b1 : wr.cell? ⟨w.heap.size + 1, 1, none⟩ = some (.int .i64 r2) := (hji.rb.cell 1).trans rfl
              clear hji START
              by_cases hlt2 : k < r2
              · have hkI : (k : Int) < (r2 : Int) := by omega
                go_wp2_with fail
                clear b1
                go_loopw [9, 10] (fun f u wr => ∃ (j : Nat), j ≤ r ∧ u = .int .i64 j ∧ f = .bool (midB r ps r2 qs j i k) ∧ JI w B0 l r r2 A0 ps.length c0 A1 qs.length c1 (pairsOf i r2 (midB r ps r2 qs r) ++ (elems k (midB r ps r2 qs r i)).map (i * r2 + ·)) wr) (fun _ u _ => r - (intOf u).toNat)
                case atStart => exact ⟨0, Nat.zero_le _, rfl, rfl, HJI.out⟩
                case round =>
                  obtain ⟨j, hj, rfl, rfl, hji⟩ := hrel
                  have HJ3 := Lib.hid hji
                  have d0 : wr.cell? ⟨w.heap.size, 0, none⟩ = some (.int .i64 l) := (hji.ra.cell 0).trans rfl
                  have d1 : wr.cell? ⟨w.heap.size, 1, none⟩ = some (.int .i64 r) := (hji.ra.cell 1).trans rfl
                  have d2 : wr.cell? ⟨w.heap.size, 2, none⟩ = some (.slice A0 ps.length c0) := (hji.ra.cell 2).trans rfl
                  have e0 : wr.cell? ⟨w.heap.size + 1, 0, none⟩ = some (.int .i64 r) := (hji.rb.cell 0).trans rfl
                  have e1 : wr.cell? ⟨w.heap.size + 1, 1, none⟩ = some (.int .i64 r2) := (hji.rb.cell 1).trans rfl
                  have e2 : wr.cell? ⟨w.heap.size + 1, 2, none⟩ = some (.slice A1 qs.length c1) := (hji.rb.cell 2).trans rfl
                  clear hji HJI
                  by_cases hlt3 : j < r
                  · have hjI : (j : Int) < (r : Int) := by omega
                    cases hfd : midB r ps r2 qs j i k with
                    | true =>
                      have HM : Hid (midB r ps r2 qs (j + 1) i k = true) := by show _ = _; rw [midB_more, hfd]; rfl
                      clear hfd
                      go_wp2_with fail
                      go_roundw
                      case rel => exact ⟨j + 1, by omega, by go_num, by rw [HM.out], HJ3.out⟩
                      case measure => simp [intOf]; omega
                    | false =>
                      have HM : Hid (midB r ps r2 qs (j + 1) i k = (memR r ps i j && memR r2 qs j k)) := by show _ = _; rw [midB_more, hfd]; simp
                      have CALLA : Hid (Calls Tryd.prog 33 #[RV l r A0 ps.length c0, .int .i64 i, .int .i64 j] wr fun e w' => e = .returned (.bool (memR r ps i j)) ∧ Fr No wr w') := HASA.out wr l r i j HJ3.out.fr HOK.out.1 hlt hlt3
                      clear hfd
                      go_wp2_with fail
                      refine CALLA.out.mono ?_
                      rintro e w4 ⟨rfl, hf4⟩
                      have HJ4 := Lib.hid (HJ3.out.step hf4)
                      clear hf4 CALLA HJ3 d0 d1 d2 e0 e1 e2
                      cases hm : memR r ps i j with
                      | false =>
                        have HM2 : Hid (midB r ps r2 qs (j + 1) i k = false) := by show _ = _; rw [HM.out, hm]; rfl
                        clear hm HM
                        go_wp2_with fail
                        go_roundw
                        case rel => exact ⟨j + 1, by omega, by go_num, by rw [HM2.out], HJ4.out⟩
                        case measure => simp [intOf]; omega
                      | true =>
                        have HM2 : Hid (midB r ps r2 qs (j + 1) i k = memR r2 qs j k) := by show _ = _; rw [HM.out, hm]; simp
                        have CALLB : Hid (Calls Tryd.prog 33 #[RV r r2 A1 qs.length c1, .int .i64 j, .int .i64 k] w4 fun e w' => e = .returned (.bool (memR r2 qs j k)) ∧ Fr No w4 w') := HASB.out w4 r r2 j k HJ4.out.fr HOK.out.2.1 hlt3 hlt2
                        have e0 : w4.cell? ⟨w.heap.size + 1, 0, none⟩ = some (.int .i64 r) := (HJ4.out.rb.cell 0).trans rfl
                        have e1 : w4.cell? ⟨w.heap.size + 1, 1, none⟩ = some (.int .i64 r2) := (HJ4.out.rb.cell 1).trans rfl
                        have e2 : w4.cell? ⟨w.heap.size + 1, 2, none⟩ = some (.slice A1 qs.length c1) := (HJ4.out.rb.cell 2).trans rfl
                        clear hm HM
                        go_wp2_with fail
                        refine CALLB.out.mono ?_
                        rintro e w5 ⟨rfl, hf5⟩
                        have HJ5 := Lib.hid (HJ4.out.step hf5)
                        clear hf5 CALLB HJ4 e0 e1 e2
                        go_wp2_with fail
                        go_roundw
                        case rel => exact ⟨j + 1, by omega, by go_num, by rw [HM2.out], HJ5.out⟩
                        case measure => simp [intOf]; omega
                  · have hjr : j = r := by omega
                    have hnlt : ¬ (j : Int) < (r : Int) := by omega
                    subst hjr
                    clear d0 d1 d2 e0 e1 e2
                    cases hm : midB j ps r2 qs j i k with
                    | false =>
                      have HN : Hid (JI w B0 l j r2 A0 ps.length c0 A1 qs.length c1 (pairsOf i r2 (midB j ps r2 qs j) ++ (elems (k + 1) (midB j ps r2 qs j i)).map (i * r2 + ·)) wr) := by
                        have h := HJ3.out
                        show JI _ _ _ _ _ _ _ _ _ _ _ _ _
                        rw [elems_more, hm]
                        simpa using h
                      have d1 : wr.cell? ⟨w.heap.size, 1, none⟩ = some (.int .i64 j) := (HJ3.out.ra.cell 1).trans rfl
                      clear hm HJ3
                      go_wp2_with fail
                      go_roundw
                      case rel => exact ⟨k + 1, by omega, by go_num, HN.out⟩
                      case measure => simp [intOf]; omega
                    | true =>
                      obtain ⟨A, m, c, hbx, hor⟩ := HJ3.out.bx
                      have d1 : wr.cell? ⟨w.heap.size, 1, none⟩ = some (.int .i64 j) := (HJ3.out.ra.cell 1).trans rfl
                      have e1 : wr.cell? ⟨w.heap.size + 1, 1, none⟩ = some (.int .i64 r2) := (HJ3.out.rb.cell 1).trans rfl
                      have c2 : wr.cell? ⟨B0 + 1, 2, none⟩ = some (.slice A m c) := (hbx.cell 2).trans rfl
                      have hfz : wr.frozen? ⟨B0 + 1, 2, none⟩ = false := hbx.frozen 2
                      have hlb := hbx.lt
                      have HM := Lib.hid hm
                      have hown := hor.2
                      have hml : m + 1 ≤ 100000 := by
                        have h1 := hor.1
                        have h2 := pairsOf_len i r2 (midB j ps r2 qs j)
                        have h3 : i * r2 ≤ 128 * 128 := Nat.mul_le_mul (by omega) hs2
                        have h4 := elems_len k (midB j ps r2 qs j i)
                        simp at h1
                        omega
                      have hp0 : 0 ≤ (i : Int) * (r2 : Int) := by rw [← Int.natCast_mul]; omega
                      have hp1 : (i : Int) * (r2 : Int) ≤ 16384 := by
                        have h := Nat.mul_le_mul (show i ≤ 128 by omega) hs2
                        rw [← Int.natCast_mul]; omega
                      have hw1 : IntKind.i64.wrap ((i : Int) * (r2 : Int)) = (i : Int) * (r2 : Int) := IntWalk.i64_in _ (by omega)
                      have hw2 : IntKind.i64.wrap ((i : Int) * (r2 : Int) + (k : Int)) = (i : Int) * (r2 : Int) + (k : Int) := IntWalk.i64_in _ (by omega)
                      have ARM : Hid (∀ (v' : Value) (w1 : World), w1.ownsRow B0 3 1 v' (m + 1) ((((pairsOf i r2 (midB j ps r2 qs j) ++ (elems k (midB j ps r2 qs j i)).map (i * r2 + ·)).map Int.ofNat).map (Value.int .i64)) ++ [.int .i64 ((i : Int) * (r2 : Int) + (k : Int))]) → (wr.alloc (.cells #[.int .i64 ((i : Int) * (r2 : Int) + (k : Int))] 3)).grownBy w1 (Value.slice A m c).ownBlock →
                          ∃ g' cap', v' = .slice (some ⟨g', 0, none⟩) (m + 1) cap' ∧ w1.cell? ⟨B0 + 1, 2, none⟩ = some (.slice A m c) ∧ w1.frozen? ⟨B0 + 1, 2, none⟩ = false ∧ B0 + 1 < w1.heap.size ∧
                          Hid (JI w B0 l j r2 A0 ps.length c0 A1 qs.length c1 (pairsOf i r2 (midB j ps r2 qs j) ++ (elems (k + 1) (midB j ps r2 qs j i)).map (i * r2 + ·)) (w1.setCell ⟨B0 + 1, 2, none⟩ (.slice (some ⟨g', 0, none⟩) (m + 1) cap')))) := by
                        intro v' w1 ho hg
                        obtain ⟨g', cap', rfl⟩ := ownsRow_succ ho
                        obtain ⟨h1, h2, h3, h4⟩ := app_fin hbx hor ((Fr.refl No wr).alloc _) ho hg
                        have hlo := HJ3.out.lo
                        have hB : ∀ b, Own A b ∨ b = B0 + 1 → B0 ≤ b := fun b hb => by
                          rcases hb with hb | hb
                          · exact (hor.bounds hb).1
                          · omega
                        refine ⟨g', cap', rfl, (h1.cell 2).trans rfl, h1.frozen 2, h1.lt, HJ3.out.fr.then_ h2 (fun b hb h => by have := hB b h; omega), HJ3.out.ra.fr h2 (fun h => by have := hB _ h; omega), HJ3.out.rb.fr h2 (fun h => by have := hB _ h; omega), HJ3.out.rt.fr h2 (fun h => by have := hB _ h; omega), ⟨_, _, _, h3, ?_⟩, hlo⟩
                        rw [elems_more, HM.out]
                        simpa using h4
                      have hsz : B0 ≤ wr.heap.size := by omega
                      clear hm HM HJ3 hbx hor
                      go_wp2_with (at_builtin; refine wpList_append_own _ rfl _ _ 23 rfl B0 3 i0 (.int .i64 0) 1 8 Tryd.underlying23 hi0 hz0 hz1 hz2 rfl (by decide) _ _ _ rfl (hown.alloc _) ⟨wr.heap.size, 0, none⟩ 1 1 [.int .i64 ((i : Int) * (r2 : Int) + (k : Int))] rfl rfl (cell_one_new _ _ _) (by simp [Value.oneCell']) (by unfold maxLen; omega) (by omega) (by simp; omega) ?_; intro v' w1 hown' hgrow _; obtain ⟨g', cap', rfl, n1, n2, n3, n4⟩ := ARM.out v' w1 hown' hgrow; clear hown' hgrow)
                      clear hown ARM
                      go_wp2_with fail
                      go_roundw
                      case rel => exact ⟨k + 1, by omega, by go_num, n4.out⟩
                      case measure => simp [intOf]; omega
              · have hkr : k = r2 := by omega
                have hnlt : ¬ (k : Int) < (r2 : Int) := by omega
                have HN : Hid (JI w B0 l r r2 A0 ps.length c0 A1 qs.length c1 (pairsOf (i + 1) r2 (midB r ps r2 qs r)) wr) := by
                  have h := HJI.out
                  show JI _ _ _ _ _ _ _ _ _ _ _ _ _
                  rw [pairsOf_succ, ← hkr]
                  rwa [← hkr] at h
                clear hkr HJI
                go_wp2_with fail
                go_roundw
                case rel => exact ⟨i + 1, by omega, by go_num, HN.out⟩
                case measure => simp [intOf]; omega
          · have hil : i = l := by omega
            have hnlt : ¬ (i : Int) < (l : Int) := by omega
            obtain ⟨A, m, c, hbx, hor⟩ := HJI.out.bx
            have e0 : wr.cell? ⟨B0 + 1, 0, none⟩ = some (.int .i64 l) := (hbx.cell 0).trans rfl
            have e1 : wr.cell? ⟨B0 + 1, 1, none⟩ = some (.int .i64 r2) := (hbx.cell 1).trans rfl
            have e2 : wr.cell? ⟨B0 + 1, 2, none⟩ = some (.slice A m c) := (hbx.cell 2).trans rfl
            have a0 : wr.cell? ⟨w.heap.size + 2, 0, none⟩ = some (.int .i64 0) := (HJI.out.rt.cell 0).trans rfl
            have a1 : wr.cell? ⟨w.heap.size + 2, 1, none⟩ = some (.int .i64 0) := (HJI.out.rt.cell 1).trans rfl
            have a2 : wr.cell? ⟨w.heap.size + 2, 2, none⟩ = some (.slice none 0 0) := (HJI.out.rt.cell 2).trans rfl
            have f0 := HJI.out.rt.frozen 0
            have f1 := HJI.out.rt.frozen 1
            have f2 := HJI.out.rt.frozen 2
            have FIN := Lib.hid (fun v0 v1 v2 => ans_store (w := w) (k := w.heap.size + 2) (Nat.le_add_right _ _) HJI.out.fr HJI.out.rt hor (by have := HJI.out.lo; omega) v0 v1 v2)
            have HIL := Lib.hid hil
            clear hbx hor hil
            go_wp2_with fail
            refine bodyPost_ret (v := .tuple #[RV l r2 A m c, .bool true]) (by simp [results, Tryd.results21, go_sem, a0, a1, a2]) rfl ?_
            rw [joinO_yes HOK.out]
            have h := (FIN.out (.int .i64 l) (.int .i64 r2) (.slice A m c)).2
            rw [HIL.out] at h
            exact ⟨A, m, c, rfl, (FIN.out _ _ _).1, h⟩
      · have hne : (R != L2) = true := by simp [heq]
        have HE := Lib.hid (FAIL2.out (fun h => heq h.2.2))
        clear FAIL2 heq
        go_wp2_with fail
        refine bodyPost_ret (v := .tuple #[RV 0 0 none 0 0, .bool false]) (by simp [results, Tryd.results21, go_sem, a0, a1, a2]) rfl ?_
        exact HE.out
end Go.Proofs.YticoeooeeejboaaDoor
