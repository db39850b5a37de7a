/- withinRel: the pairs of the one relation are pairs of the other. -/
import Derived.Test.YtloecimlimoanaaGreatDoorLrel
import Derived.Deep.RegionHeld3
namespace Go.Proofs.YtloecimlimoanaaGreatDoor
open Go.RowKit Go.ChangeMaps

set_option maxRecDepth 100000 in
set_option maxHeartbeats 2000000 in
theorem withinR_any (w : World) (l r : Nat) (A A' : Option Addr) (c c' : Nat) (pa pb : List Int) (hx : ISl w A pa) (hy : ISl w A' pb) (hl : pa.length ≤ 2000000) (hl2 : pb.length ≤ 2000000) (ha : RelOk (l : Int) (r : Int) pa) (hb : RelOk (l : Int) (r : Int) pb) (hs : ∀ z ∈ pa, z ∈ pb) :
    Calls Tryz.prog 11 #[RV l r A pa.length c, RV l r A' pb.length c'] w fun e w' => e = .returned (.bool true) ∧ Fr No w w' := by
  obtain ⟨W0, hW0, hf0, hba, hbb⟩ : ∃ W, W = (w.alloc (.cells #[.int .i64 (l : Int), .int .i64 (r : Int), .slice A pa.length c] 27)).alloc (.cells #[.int .i64 (l : Int), .int .i64 (r : Int), .slice A' pb.length c'] 27) ∧ Fr No w W ∧ Blk W w.heap.size 27 #[.int .i64 (l : Int), .int .i64 (r : Int), .slice A pa.length c] ∧ Blk W (w.heap.size + 1) 27 #[.int .i64 (l : Int), .int .i64 (r : Int), .slice A' pb.length c'] := ⟨_, rfl, ((Fr.refl _ _).alloc _).alloc _, (Blk.new _ _ _).alloc _, Blk.new_at _ _ _ (by simp)⟩
  have CA : Hid (∀ V, Fr No W0 V → V.cell? ⟨w.heap.size, 0, none⟩ = some (.int .i64 (l : Int)) ∧ V.cell? ⟨w.heap.size, 1, none⟩ = some (.int .i64 (r : Int)) ∧ V.cell? ⟨w.heap.size, 2, none⟩ = some (.slice A pa.length c) ∧ w.heap.size < V.heap.size) := fun V hf => by
    have h := hba.fr hf (fun h => h)
    exact ⟨(h.cell 0).trans rfl, (h.cell 1).trans rfl, (h.cell 2).trans rfl, h.lt⟩
  have CB : Hid (∀ V, Fr No W0 V → V.cell? ⟨w.heap.size + 1, 0, none⟩ = some (.int .i64 (l : Int)) ∧ V.cell? ⟨w.heap.size + 1, 1, none⟩ = some (.int .i64 (r : Int)) ∧ V.cell? ⟨w.heap.size + 1, 2, none⟩ = some (.slice A' pb.length c') ∧ w.heap.size + 1 < V.heap.size) := fun V hf => by
    have h := hbb.fr hf (fun h => h)
    exact ⟨(h.cell 0).trans rfl, (h.cell 1).trans rfl, (h.cell 2).trans rfl, h.lt⟩
  have HX : Hid (∀ V, Fr No W0 V → ISl V A pa) := fun V hf => hx.keep (hf0.trans hf) (fun _ h => h.elim)
  have RH : Hid (∀ V (i j : Int), Fr No W0 V → Calls Tryz.prog 16 #[RV l r A' pb.length c', .int .i64 i, .int .i64 j] V fun e w' => HasPr l r pb i j V e w') := fun V i j hf => implRelHas V l r A' c' pb i j (hy.keep (hf0.trans hf) (fun _ h => h.elim)) hl2
  have HF0 := Lib.hid hf0
  have HA := Lib.hid ha
  have HB := Lib.hid hb
  have HS := Lib.hid hs
  obtain ⟨l1, l2⟩ := ha.left
  obtain ⟨r1, r2⟩ := ha.right
  clear hf0 hba hbb hx hy ha hb hs hl2
  go_enter Tryz.func11, Tryz.ntmps11
  go_wp2_with fail
  rw [← hW0]
  clear hW0
  go_loopw [5] (fun u wr => ∃ i : Nat, i ≤ pa.length ∧ u = .int .i64 i ∧ Fr No W0 wr) (fun u _ => pa.length - (intOf u).toNat)
  case atStart => exact ⟨0, Nat.zero_le _, rfl, Fr.refl _ _⟩
  case round =>
    obtain ⟨i, hi, rfl, hfr⟩ := hrel
    have HFR := Lib.hid hfr
    obtain ⟨a0, a1, a2, a3⟩ := CA.out wr hfr
    obtain ⟨b0, b1, b2, b3⟩ := CB.out wr hfr
    by_cases hlt : i < pa.length
    · obtain ⟨z, hz⟩ : ∃ z, pa[i]? = some z := ⟨_, List.getElem?_eq_getElem hlt⟩
      have hmem := List.mem_of_getElem? hz
      obtain ⟨z0, z1⟩ := HA.out.bnd z hmem
      obtain ⟨m, rfl⟩ : ∃ m : Nat, z = m := ⟨z.toNat, by omega⟩
      obtain ⟨g, o, rfl, hc⟩ := HX.out wr hfr i m hz
      have hml : m < l * r := by rw [← Int.natCast_mul] at z1; omega
      have hm2 : l * r ≤ 128 * 128 := Nat.mul_le_mul (by omega) (by omega)
      have hmb : (m : Int) < 16384 := by omega
      obtain ⟨q, hq⟩ : ∃ q, q = m / r := ⟨_, rfl⟩
      obtain ⟨k, hk⟩ : ∃ k, k = m % r := ⟨_, rfl⟩
      have m1 : (m : Int).tdiv (r : Int) = (q : Int) := by rw [hq]; rfl
      have m2 : (m : Int).tmod (r : Int) = (k : Int) := by rw [hk]; rfl
      have hq1 : q < l := by rw [hq]; exact Nat.div_lt_of_lt_mul (by rw [Nat.mul_comm]; exact hml)
      have hq2 : k < r := by rw [hk]; exact Nat.mod_lt _ (by omega)
      have a7 : IntKind.i64.wrap (q : Int) = (q : Int) := IntWalk.i64_in _ (by omega)
      have a8 : IntKind.i64.wrap (k : Int) = (k : Int) := IntWalk.i64_in _ (by omega)
      have HAS : Hid (HasRel (l : Int) (r : Int) pb (q : Int) (k : Int)) := by
        refine ⟨HB.out, ⟨by omega, by omega⟩, ⟨by omega, by omega⟩, ?_⟩
        have e : m = q * r + k := by rw [hq, hk, Nat.mul_comm]; exact (Nat.div_add_mod m r).symm
        have e2 : (q : Int) * (r : Int) + (k : Int) = (m : Int) := by rw [e, Int.natCast_add, Int.natCast_mul]
        rw [e2]
        exact HS.out _ hmem
      have hr0 : ((r : Int) == 0) = false := beq_eq_false_iff_ne.2 (by omega)
      have hrn : ¬ r = 0 := by omega
      have hWd : Fr No W0 wr.drew := hfr.trans ((Fr.refl _ _).drew)
      have RQ : Hid (Calls Tryz.prog 16 #[RV l r A' pb.length c', .int .i64 (q : Int), .int .i64 (k : Int)] wr.drew fun e w' => HasPr l r pb q k wr.drew e w') := RH.out _ q k hWd
      have CZ : Hid (∀ V, Fr No W0 V → V.cell? ⟨g, o + i, none⟩ = some (.int .i64 (m : Int))) := fun V hf => by
        obtain ⟨g', o', e, h⟩ := HX.out V hf i m hz
        injection e with e
        injection e with e1 e2
        subst e1 e2
        exact h
      clear hq hk hmem hz z0 z1 hml hm2 hfr
      go_wp2_with fail
      go_region_held3 (fun w' => w'.cell? ⟨w.heap.size, 1, none⟩ = some (.int .i64 (r : Int)) ∧ w'.cell? ⟨w.heap.size, 2, none⟩ = some (.slice (some ⟨g, o, none⟩) pa.length c) ∧ w'.cell? ⟨g, o + i, none⟩ = some (.int .i64 (m : Int)) ∧ w'.cell? ⟨w.heap.size + 1, 0, none⟩ = some (.int .i64 (l : Int)) ∧ w'.cell? ⟨w.heap.size + 1, 1, none⟩ = some (.int .i64 (r : Int)) ∧ w'.cell? ⟨w.heap.size + 1, 2, none⟩ = some (.slice A' pb.length c')) (go_keep)
        (first | (go_at_call 16; ((with_reducible refine RQ.out.mono ?_); rintro e w3 ⟨b, rfl, hb3, hf3⟩; obtain rfl : b = true := hb3.2 HAS.out; have HF3 := Lib.hid (hWd.trans hf3); obtain ⟨d0, d1, d2, d3⟩ := CA.out w3 HF3.out; obtain ⟨e0, e1, e2, e3⟩ := CB.out w3 HF3.out; have e4 := CZ.out w3 HF3.out; clear hf3 hb3)))
      go_wp2_with fail
      go_roundw
      case rel => exact ⟨i + 1, by omega, by go_num, HF3.out⟩
      case measure => simp [intOf]; omega
    · have hnl : ¬ (i : Int) < (pa.length : Int) := by omega
      have HE := Lib.hid (HF0.out.trans hfr)
      go_wp2_with fail
      go_ret
      exact ⟨rfl, HE.out⟩
end Go.Proofs.YtloecimlimoanaaGreatDoor
