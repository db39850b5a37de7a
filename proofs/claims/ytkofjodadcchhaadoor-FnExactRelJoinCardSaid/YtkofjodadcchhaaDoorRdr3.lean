/- Relations of bit sets are read. -/
import Derived.Test.YtkofjodadcchhaaDoorRdr2
namespace Go.Proofs.YtkofjodadcchhaaDoor
open Go.RowKit Go.ChangeMaps

set_option maxRecDepth 100000 in
set_option maxHeartbeats 2000000 in
theorem readRelation_any (w : World) (L R : Int) (A : Option Addr) (c : Nat) (ps : List Int) (hp : ISl w A ps) (hn : ps.length ≤ 2000000) :
    Calls Tryd.prog 58 #[RV L R A ps.length c] w fun e w' => ReadR L R ps w e w' := by
  have SV : Hid (∀ (W : World) (n : Int), Calls Tryd.prog 52 #[.int .i64 n] W fun e w' => e = .returned (.bool (decide (1 ≤ n ∧ n ≤ 128))) ∧ W = w') := fun W n => sideValid_any W n
  have HP := Lib.hid hp
  have HN := Lib.hid hn
  clear hp
  have hnI : (ps.length : Int) ≤ 2000000 := by omega
  have HFB : Hid (Fr No w (w.alloc (.cells #[.int .i64 L, .int .i64 R, .slice A ps.length c] 27))) := (Fr.refl No w).alloc _
  by_cases hL : 1 ≤ L ∧ L ≤ 128
  · have hLd : decide (1 ≤ L ∧ L ≤ 128) = true := by simpa using hL
    have HLD := Lib.hid hLd
    by_cases hR : 1 ≤ R ∧ R ≤ 128
    · have hRd : decide (1 ≤ R ∧ R ≤ 128) = true := by simpa using hR
      have HRD := Lib.hid hRd
      obtain ⟨l, rfl⟩ : ∃ l : Nat, L = l := ⟨L.toNat, by omega⟩
      obtain ⟨r, rfl⟩ : ∃ r : Nat, R = r := ⟨R.toNat, by omega⟩
      have HLL := Lib.hid hL
      have HRR := Lib.hid hR
      have hl1 : 1 ≤ l := by omega
      have hl2 : l ≤ 128 := by omega
      have hr1 : 1 ≤ r := by omega
      have hr2 : r ≤ 128 := by omega
      have NEW : Hid (∀ W : World, Calls Tryd.prog 53 #[.int .i64 l, .int .i64 r] W fun e w' => NewRel l r W e w') := fun W => newBitRelation_any W l r (by omega) hr1 (by omega)
      clear hLd hRd hL hR
      go_enter Tryd.func58, Tryd.ntmps58
      go_wp2_with fail
      refine (SV.out _ _).mono ?_
      rintro e W ⟨rfl, rfl⟩
      rw [HLD.out]
      go_wp2_with fail
      refine (SV.out _ _).mono ?_
      rintro e W ⟨rfl, rfl⟩
      rw [HRD.out]
      go_wp2_with fail
      refine (NEW.out _).mono ?_
      rintro e w1 ⟨b, rfl, hf1, hrel⟩
      have hB1 : (w.alloc (.cells #[.int .i64 (l : Int), .int .i64 (r : Int), .slice A ps.length c] 27)).heap.size = w.heap.size + 1 := by simp
      have hrel' : RelAt w1 b l r (w.heap.size + 1) (fun _ _ => false) := by rw [← hB1]; exact hrel
      have hbx : Blk w1 w.heap.size 27 #[.int .i64 (l : Int), .int .i64 (r : Int), .slice A ps.length c] := (Blk.new w _ _).fr hf1 (fun h => h)
      have hfr1 : Fr No w w1 := HFB.out.trans hf1
      have c2 : w1.cell? ⟨w.heap.size, 2, none⟩ = some (.slice A ps.length c) := (hbx.cell 2).trans rfl
      have HX := Lib.hid hbx
      have HF1 := Lib.hid hfr1
      have HR1 := Lib.hid hrel'
      clear hB1 hrel hrel' hbx hfr1 hf1 HFB NEW SV hn
      go_wp2_with fail
      go_loopw [4, 25] (fun v u wr => ∃ (j : Nat) (last : Int), j ≤ ps.length ∧ u = .int .i64 j ∧ v = .int .i64 last ∧ OkTo l r ps j last ∧ Fr No w wr ∧ Blk wr w.heap.size 27 #[.int .i64 (l : Int), .int .i64 (r : Int), .slice A ps.length c] ∧ RelAt wr b l r (w.heap.size + 1) (memR r (ps.take j))) (fun _ u _ => ps.length - (intOf u).toNat)
      case atStart => exact ⟨0, -1, Nat.zero_le _, rfl, rfl, OkTo.start _ _ _, HF1.out, HX.out, by rw [List.take_zero, memR_nil]; exact HR1.out⟩
      case round =>
        obtain ⟨j, last, hj, rfl, rfl, hok, hfr, hbx, hrel⟩ := hrel
        have HOK := Lib.hid hok
        have HFR := Lib.hid hfr
        have HBX := Lib.hid hbx
        have HREL := Lib.hid hrel
        have d0 : wr.cell? ⟨w.heap.size, 0, none⟩ = some (.int .i64 l) := (hbx.cell 0).trans rfl
        have d1 : wr.cell? ⟨w.heap.size, 1, none⟩ = some (.int .i64 r) := (hbx.cell 1).trans rfl
        clear hok hfr hbx hrel HX HF1 HR1 c2
        by_cases hlt : j < ps.length
        · obtain ⟨z, hzj⟩ : ∃ z, ps[j]? = some z := ⟨_, List.getElem?_eq_getElem hlt⟩
          obtain ⟨g, o, rfl, hc0⟩ := HP.out j z hzj
          have hc : wr.cell? ⟨g, o + j, none⟩ = some (.int .i64 z) := (HFR.out.cell (p := ⟨g, o + j, none⟩) (block_lt hc0) (fun h => h)).trans hc0
          have HZJ := Lib.hid hzj
          clear hc0 hzj
          have hm0 : 0 ≤ (l : Int) * (r : Int) := Int.mul_nonneg (by omega) (by omega)
          have hm1 : (l : Int) * (r : Int) ≤ 16384 := by
            have := Nat.mul_le_mul hl2 hr2
            rw [← Int.natCast_mul]; omega
          by_cases hle : z ≤ last
          · have HBAD : Hid (ReadR l r ps w (.returned (.pointer none)) wr) := ⟨HFR.out, .inr ⟨HOK.out.bad HZJ.out (.inl hle), rfl⟩⟩
            go_wp2_with fail
            go_ret
            exact HBAD.out
          · have hle' : last < z := by omega
            have hld : decide (z ≤ last) = false := by simpa using hle'
            clear hle
            by_cases hge : (l : Int) * (r : Int) ≤ z
            · have HBAD : Hid (ReadR l r ps w (.returned (.pointer none)) wr) := ⟨HFR.out, .inr ⟨HOK.out.bad HZJ.out (.inr hge), rfl⟩⟩
              go_wp2_with fail
              go_ret
              exact HBAD.out
            · have hge' : z < (l : Int) * (r : Int) := by omega
              have hgd : decide ((l : Int) * (r : Int) ≤ z) = false := by simpa using hge'
              clear hge
              obtain ⟨m, rfl⟩ : ∃ m : Nat, z = m := ⟨z.toNat, by have := HOK.out.low; omega⟩
              have hml : m < l * r := by rw [← Int.natCast_mul] at hge'; omega
              obtain ⟨q, hq⟩ : ∃ q, q = m / r := ⟨_, rfl⟩
              obtain ⟨k, hk⟩ : ∃ k, k = m % r := ⟨_, rfl⟩
              have m1 : (m : Int).tdiv (r : Int) = (q : Int) := by rw [hq]; rfl
              have m2 : (m : Int).tmod (r : Int) = (k : Int) := by rw [hk]; rfl
              have hq1 : q < l := by rw [hq]; exact Nat.div_lt_of_lt_mul (by rw [Nat.mul_comm]; exact hml)
              have hq2 : k < r := by rw [hk]; exact Nat.mod_lt _ (by omega)
              have HQ := Lib.hid hq
              have HK := Lib.hid hk
              clear hq hk
              have a1 : IntKind.i64.wrap (q : Int) = (q : Int) := IntWalk.i64_in _ (by omega)
              have a2 : IntKind.i64.wrap (k : Int) = (k : Int) := IntWalk.i64_in _ (by omega)
              have hmb : m < 16384 := by omega
              obtain ⟨hB, Rb, gs, hbb, hrows⟩ := HREL.out
              obtain ⟨hlo, ws, hws, hbits⟩ := hrows.each _ hq1
              have ADD : Hid (∀ W, Fr No wr W → Calls Tryd.prog 54 #[.slice (some ⟨gs (q), 0, none⟩) (nw r) (nw r), .int .i64 ((k : Nat) : Int)] W fun e w' => e = .returned (.tuple #[]) ∧ AddP (gs (q)) r (fun j' => memR r (ps.take j) (q) j' || decide (j' = k)) W w') :=
                fun W hf => add_any W _ ws r (k) _ (hws.fr hf (fun h => h)) hbits hq2 (by omega)
              have e1 : wr.cell? ⟨b, 1, none⟩ = some (.slice (some ⟨Rb, 0, none⟩) l l) := (hbb.cell 1).trans rfl
              have e2 : wr.cell? ⟨Rb, q, none⟩ = some (.slice (some ⟨gs (q), 0, none⟩) (nw r) (nw r)) := by rw [hrows.rows.cell, RA_at hq1, if_pos hq1]
              have KEEP : Hid (∀ w', AddP (gs (q)) r (fun j' => memR r (ps.take j) (q) j' || decide (j' = k)) wr.drew w' → w'.cell? ⟨w.heap.size, 1, none⟩ = some (.int .i64 r) ∧ w'.cell? ⟨b, 1, none⟩ = some (.slice (some ⟨Rb, 0, none⟩) l l) ∧ w'.cell? ⟨Rb, q, none⟩ = some (.slice (some ⟨gs (q), 0, none⟩) (nw r) (nw r)) ∧ Fr No w w' ∧ Blk w' w.heap.size 27 #[.int .i64 (l : Int), .int .i64 (r : Int), .slice (some ⟨g, o, none⟩) ps.length c] ∧ RelAt w' b l r (w.heap.size + 1) (memR r (ps.take (j + 1)))) := by
                intro w' ha
                have hf : Fr (One (gs (q))) wr w' := ((Fr.refl _ wr).drew).trans ha.1
                have hx' : Blk w' w.heap.size 27 #[.int .i64 (l : Int), .int .i64 (r : Int), .slice (some ⟨g, o, none⟩) ps.length c] := HBX.out.fr hf (fun h => by have h : w.heap.size = gs (q) := h; omega)
                have nb : ¬ One (gs (q)) b := fun e => by
                  have e : b = gs (q) := e
                  subst e
                  exact absurd (hbb.eq hws).1 (by decide)
                have nR : ¬ One (gs (q)) Rb := fun e => by
                  have e : Rb = gs (q) := e
                  subst e
                  exact absurd (hrows.rows.eq hws).1 (by decide)
                refine ⟨(hx'.cell 1).trans rfl, ((hbb.fr hf nb).cell 1).trans rfl, by rw [(hrows.rows.fr hf nR).cell, RA_at hq1, if_pos hq1], ?_, hx', ?_⟩
                · refine HFR.out.then_ hf fun i hi hT => ?_
                  have hT : i = gs (q) := hT
                  omega
                · exact (RelAt.add hB hbb hrows hq1 ⟨hf, ha.2⟩).congr (fun i _ k' hk' => by rw [memR_more HZJ.out i k' hk', ← HQ.out, ← HK.out])
              have hr0 : ((r : Int) == 0) = false := beq_eq_false_iff_ne.2 (by omega)
              have hrn : ¬ r = 0 := by omega
              have hIx : ((q : Nat) : Int) < (l : Int) := by omega
              have hIx0 : (0 : Int) ≤ ((q : Nat) : Int) := by omega
              clear hbb hrows hlo hws hbits hB
              go_wp2_with fail
              have hWd : Fr No wr wr.drew := (Fr.refl _ _).drew
              go_region_held3 (fun w' => w'.cell? ⟨w.heap.size, 1, none⟩ = some (.int .i64 r) ∧ w'.cell? ⟨b, 1, none⟩ = some (.slice (some ⟨Rb, 0, none⟩) l l) ∧ w'.cell? ⟨Rb, q, none⟩ = some (.slice (some ⟨gs q, 0, none⟩) (nw r) (nw r))) (go_keep)
                (first | (go_at_call 54; ((with_reducible refine (ADD.out _ hWd).mono ?_); rintro e w3 ⟨rfl, hadd⟩; have hkp := KEEP.out w3 hadd; have HKP := Lib.hid hkp; obtain ⟨k1, k2, k3, _, _, _⟩ := hkp)))
              clear KEEP ADD HREL
              go_wp2_with fail
              go_roundw
              case rel => exact ⟨j + 1, m, by omega, by go_num, rfl, HOK.out.more HZJ.out hle' hge', HKP.out.2.2.2⟩
              case measure => simp [intOf]; omega
        · have hjl : j = ps.length := by omega
          have HE : Hid (ReadR l r ps w (.returned (Ptr b)) wr) := by
            refine ⟨HFR.out, .inl ⟨l, r, b, rfl, rfl, ?_, rfl, ?_⟩⟩
            · have := HOK.out
              rw [hjl] at this
              exact this.done HLL.out HRR.out
            · have h := HREL.out
              rw [hjl, List.take_length] at h
              obtain ⟨hB, Rb, gs, h1, h2⟩ := h
              exact ⟨by omega, Rb, gs, h1, h2.base (by omega)⟩
          clear HREL HOK HBX
          have hnlt : ¬ (j : Int) < (ps.length : Int) := by omega
          go_wp2_with fail
          go_ret
          exact HE.out
    · have hRd : decide (1 ≤ R ∧ R ≤ 128) = false := by simpa using hR
      have HRD := Lib.hid hRd
      have HE : Hid (ReadR L R ps w (.returned (.pointer none)) (w.alloc (.cells #[.int .i64 L, .int .i64 R, .slice A ps.length c] 27))) := ⟨HFB.out, .inr ⟨fun h => hR h.right, rfl⟩⟩
      clear hR hRd HP HFB hL hLd
      go_enter Tryd.func58, Tryd.ntmps58
      go_wp2_with fail
      refine (SV.out _ _).mono ?_
      rintro e W ⟨rfl, rfl⟩
      rw [HLD.out]
      go_wp2_with fail
      refine (SV.out _ _).mono ?_
      rintro e W ⟨rfl, rfl⟩
      rw [HRD.out]
      go_wp2_with fail
      go_ret
      exact HE.out
  · have hLd : decide (1 ≤ L ∧ L ≤ 128) = false := by simpa using hL
    have HLD := Lib.hid hLd
    have HE : Hid (ReadR L R ps w (.returned (.pointer none)) (w.alloc (.cells #[.int .i64 L, .int .i64 R, .slice A ps.length c] 27))) := ⟨HFB.out, .inr ⟨fun h => hL h.left, rfl⟩⟩
    clear hL hLd HP HFB
    go_enter Tryd.func58, Tryd.ntmps58
    go_wp2_with fail
    refine (SV.out _ _).mono ?_
    rintro e W ⟨rfl, rfl⟩
    rw [HLD.out]
    go_wp2_with fail
    go_ret
    exact HE.out
end Go.Proofs.YtkofjodadcchhaaDoor
