/- A term whose parts a function makes (withParts), for each of the three functions. · Terms put under depths: deepen, putBound, putTerm of the program. · putBound and putTerm of the program. · putTerm of the program. -/
import Derived.Test.YtnjgaenhjdjpfaaGreatDoorTcanon
import Derived.Test.YtnjgaenhjdjpfaaGreatDoorTrn
import Derived.Deep.RegionHeld3
import Derived.Test.YtnjgaenhjdjpfaaGreatDoorTfree
import Derived.Test.YtnjgaenhjdjpfaaGreatDoorTuse
import Derived.Deep.QuietTactic
import Derived.BigQuiet
/- A term whose parts a function makes (withParts), for each of the three functions. -/
namespace Go.Proofs.YtnjgaenhjdjpfaaGreatDoor
open Go.RowKit Go.ChangeMaps

def TsP (T : Nat → Prop) (t : Ts) (w : World) (e : Ending) (w' : World) : Prop := ∃ p, e = .returned (Ptr p) ∧ Fr No w w' ∧ TEl w' (TN T w w') t [Ptr p]

theorem apart_no {w : World} {T : Nat → Prop} (hT : ∀ b, T b → b < w.heap.size) : Apart2 w No T := ⟨fun _ h => h.elim, fun b hb => ⟨hT b hb, fun h => h⟩⟩

set_option maxRecDepth 100000 in
set_option maxHeartbeats 2000000 in
theorem wp_dp (w : World) (T : Nat → Prop) (h a : List UInt8) (d p own : Nat) (k : Ts) (x1 : Nat) (F : List UInt8 → List UInt8 → Nat → Ts → Nat → Ts) (G : Ts → Nat → Ts)
    (hs : k.size ≤ 900) (ho : own ≤ 100000) (hT : ∀ b, T b → b < w.heap.size) (ht : Tm w T p h a d k)
    (hG : ∀ h a d k r i, G (.cons h a d k r) i = (F h a d k i).app (G r (i + 1))) (hG0 : ∀ i, G .nil i = .nil) (hF : ∀ h a d k i, (F h a d k i).len = 1) (hGs : (G k 0).size ≤ 100000)
    (CL : ∀ (wr : World) (j : Nat) (h' a' : List UInt8) (d' : Nat) (k' : Ts) (q : Nat), Fr No w wr → k.nth j = some (h', a', d', k') → Tm wr T q h' a' d' k' →
      Calls Tryz.prog 113 #[Ptr q, .int .i64 ((own + bndN h j : Nat) : Int), Ptr x1] wr fun e w' => TsP T (F h' a' d' k' j) wr e w') :
    Calls Tryz.prog 93 #[Ptr p, .int .i64 (own : Int), .func (.func 113) #[] #[Ptr x1]] w fun e w' =>
      TsP T (if k.len = 0 then .cons h a d k .nil else .cons h a 0 (G k 0) .nil) w e w' := by
  have htm0 := ht
  obtain ⟨R, HR⟩ : ∃ z, Hid ((if k.len = 0 then Ts.cons h a d k .nil else Ts.cons h a 0 (G k 0) .nil) = z) := ⟨_, rfl⟩
  rw [HR.out]
  obtain ⟨hp, AK, cK, hb, hsl⟩ := ht.open_
  have HAP : Hid (Apart2 w No T) := apart_no hT
  have HT := Lib.hid hT
  have HSL := Lib.hid hsl
  have HG := Lib.hid hG
  have HG0 := Lib.hid hG0
  have HF := Lib.hid hF
  have HGS := Lib.hid hGs
  have HCL := Lib.hid CL
  have c0 : w.cell? ⟨p, 0, none⟩ = some (S h) := (hb.cell 0).trans rfl
  have c1 : w.cell? ⟨p, 1, none⟩ = some (S a) := (hb.cell 1).trans rfl
  have c3 : w.cell? ⟨p, 3, none⟩ = some (.slice AK k.len cK) := (hb.cell 3).trans rfl
  have HKB := Lib.hid hb
  have hlt := hb.lt
  have hln := Ts.len_size k
  have hl6 : (k.len : Int) ≤ 900 := by omega
  have hown0 : (0 : Int) ≤ (own : Int) := by omega
  have hown1 : (own : Int) ≤ 100000 := by omega
  have HSZ := Lib.hid hs
  clear hG hG0 hF hGs CL hb hsl ht hT hs
  by_cases hk0 : k.len = 0
  · have n0 : ((k.len : Int) == 0) = true := by rw [hk0]; rfl
    have FIN : Hid (TsP T R w (.returned (Ptr p)) w) := by
      show TsP _ _ _ _ _
      rw [← HR.out, if_pos hk0]
      exact ⟨p, rfl, Fr.refl _ _, TEl.mono (fun b hb => .inl hb) (fun _ _ => rfl) htm0⟩
    clear htm0 hk0
    go_enter Tryz.func93, Tryz.ntmps93
    go_wp2_with fail
    go_ret
    exact FIN.out
  · have n0 : ((k.len : Int) == 0) = false := beq_eq_false_iff_ne.2 (by omega)
    have HK0 := Lib.hid hk0
    clear htm0 hk0
    have HKS : Hid (KM w No T .nil 0 (.slice (some ⟨w.heap.size, 0, none⟩) 0 0) (w.alloc (.cells #[] 31))) := KM.start w No T (Fr.refl _ _) _ rfl
    go_enter Tryz.func93, Tryz.ntmps93
    go_wp2_with fail
    go_loopw [7, 23] (fun V u wr => ∃ (j : Nat) (Ai : Option Addr) (ci : Nat) (f : Ts), j ≤ k.len ∧ u = .int .i64 j ∧ V = .slice Ai j ci ∧ f.len = j ∧ KM w No T f j (.slice Ai j ci) wr ∧ G k 0 = f.app (G (k.from_ j) j)) (fun _ u _ => k.len - (intOf u).toNat)
    case atStart => exact ⟨0, _, 0, .nil, Nat.zero_le _, rfl, rfl, rfl, HKS.out, by rw [Ts.from_zero]; rfl⟩
    case round =>
      obtain ⟨j, Ai, ci, f, hj, rfl, rfl, hfl, hkm, hrn⟩ := hrel
      have HKM := Lib.hid hkm
      have HRN := Lib.hid hrn
      have HFL := Lib.hid hfl
      clear hkm hrn hfl
      have hbr := HKB.out.fr HKM.out.fr (fun h => h)
      have r0 : wr.cell? ⟨p, 0, none⟩ = some (S h) := (hbr.cell 0).trans rfl
      have r1 : wr.cell? ⟨p, 1, none⟩ = some (S a) := (hbr.cell 1).trans rfl
      have rlt := hbr.lt
      by_cases hjl : j < k.len
      · have hTw : ∀ b, T b → wr.heap[b]? = w.heap[b]? := fun b hb => HKM.out.fr.block b (HT.out b hb) (fun h => h)
        obtain ⟨gg, o, q, h', a', d', k', rfl, hg, hn, hc, htm⟩ := (HSL.out.mono (T' := T) (fun _ h => h) hTw).at_ hjl
        have hlg := block_lt hc
        have hst : G (k.from_ j) j = (F h' a' d' k' j).app (G (k.from_ (j + 1)) (j + 1)) := by
          rw [Ts.from_nth k j h' a' d' k' hn]
          exact HG.out _ _ _ _ _ _
        have HST := Lib.hid hst
        have CALL : Hid (Calls Tryz.prog 113 #[Ptr q, .int .i64 ((own + bndN h j : Nat) : Int), Ptr x1] wr fun e w' => TsP T (F h' a' d' k' j) wr e w') := HCL.out wr j h' a' d' k' q HKM.out.fr hn htm
        obtain ⟨bn, HBN⟩ : ∃ bn, Hid (bndN h j = bn) := ⟨_, rfl⟩
        have hbn1 : (bn : Int) ≤ 1 := by have := bndN_le h j; rw [HBN.out] at this; omega
        have BI : Hid (Calls Tryz.prog 81 #[S h, .int .i64 (j : Int)] wr fun e w' => e = .returned (.int .i64 (bn : Int)) ∧ wr = w') := boundIn_any h j _ (by rw [HBN.out]) (by have := HSZ.out; omega) wr
        rw [HBN.out, show ((own + bn : Nat) : Int) = (own : Int) + (bn : Int) from by omega] at CALL
        obtain ⟨h2, a2, d2, k2, HFE⟩ : ∃ h2 a2 d2 k2, Hid (F h' a' d' k' j = .cons h2 a2 d2 k2 .nil) := single (HF.out h' a' d' k' j)
        rw [HFE.out] at CALL HST
        clear hst htm hn hTw hbr
        go_wp2_with fail
        refine BI.out.mono ?_
        rintro e wi ⟨rfl, rfl⟩
        go_wp2_with fail
        refine CALL.out.mono ?_
        rintro e w3 ⟨q3, rfl, hf3, ht3⟩
        have HF3 := Lib.hid hf3
        have HKM3 := Lib.hid (HKM.out.keep HAP.out hf3)
        have HTM : Hid (Tm w3 (fun b => T b ∨ (wr.heap.size ≤ b ∧ b < w3.heap.size)) q3 h2 a2 d2 k2) := ht3
        clear hf3 ht3
        obtain ⟨xs, hown0, hel0⟩ := HKM3.out.own
        obtain ⟨i0, hi0, hz0, hz1, hz2⟩ := info_parts info_ptr
        have hsz3 := HKM3.out.fr.size
        have HOA : Hid (∀ o : Obj, (w3.alloc o).ownsRow w.heap.size 31 1 (.slice Ai j ci) j xs) := fun o => hown0.alloc o
        have HC1 : Hid (∀ (i : Nat) (u : Value), [Ptr q3][i]? = some u → (w3.alloc (.cells #[Ptr q3] 31)).cell? ((⟨w3.heap.size, 0, none⟩ : Addr).add i) = some u) := cells_new (w := w3) rfl [Ptr q3] 31
        have HC2 : Hid (∀ u ∈ [Ptr q3], u.oneCell' = true) := by
          intro u hu
          simp at hu
          rw [hu]; rfl
        have HC5 : Hid (∀ o : Obj, w.heap.size ≤ (w3.alloc o).heap.size) := fun o => by simp; omega
        have bnd : (j + 1) * 8 ≤ 140737488355328 := by omega
        have bnd2 : j + 1 ≤ maxLen := by unfold maxLen; omega
        have HM : Hid (∀ (o : Obj) V' w4, w4.ownsRow w.heap.size 31 1 V' (j + 1) (xs ++ [Ptr q3]) → (w3.alloc o).grownBy w4 (Value.slice Ai j ci).ownBlock → (V'.ownBlock = (Value.slice Ai j ci).ownBlock ∨ V'.ownBlock = some (w3.alloc o).heap.size) →
            ∃ A4 c4, V' = .slice A4 (j + 1) c4 ∧ KM w No T (f.snoc h2 a2 d2 k2) (j + 1) V' w4) := by
          intro o V' w4 h1 h2 h3
          obtain ⟨A4, c4, e4⟩ := own_form h1
          exact ⟨A4, c4, e4, HKM.out.more HAP.out HF3.out HTM.out hown0 hel0 h1 h2 h3⟩
        have HRN2 : Hid (G k 0 = (f.snoc h2 a2 d2 k2).app (G (k.from_ (j + 1)) (j + 1))) := by
          show _ = _
          rw [HRN.out, HST.out, Ts.snoc_app]
          rfl
        clear hown0 hel0
        go_wp2_with (at_builtin; go_must (refine wpList_append_own_at _ rfl _ _ 76 rfl w.heap.size 31 i0 (.pointer none) 1 8 Tryz.underlying76 hi0 hz0 hz1 hz2 rfl (by decide) _ j xs rfl (HOA.out _) ⟨w3.heap.size, 0, none⟩ 1 1 [Ptr q3] rfl rfl HC1.out HC2.out bnd2 bnd (HC5.out _) ?_); intro v' w4 hown' hgrow _ hloc; obtain ⟨A4, c4, rfl, hkm4⟩ := HM.out _ v' w4 hown' hgrow hloc; have HKM4 := Lib.hid hkm4; clear hown' hgrow hloc hkm4)
        go_roundw
        case rel => exact ⟨j + 1, A4, c4, _, by omega, by go_num, rfl, by rw [Ts.len_snoc, HFL.out], HKM4.out, HRN2.out⟩
        case measure => simp [intOf]; omega
      · have hjk : j = k.len := by omega
        have HE : Hid (G k 0 = f) := by
          show _ = _
          rw [HRN.out, hjk, Ts.from_len, HG0.out, Ts.app_nil]
        have NEW : Hid (∀ w', w' = wr.drew → Calls Tryz.prog 51 #[S h, S a, .slice Ai j ci] w' fun e w5 => ∃ p5, e = .returned (Ptr p5) ∧ (w5.cell? ⟨p, 0, none⟩ = some (S h) ∧ w5.cell? ⟨p, 1, none⟩ = some (S a)) ∧ Hid (TsP T R w (.returned (Ptr p5)) w5)) := by
          rintro w' rfl
          have hkd := HKM.out.keep HAP.out ((Fr.refl No wr).drew)
          have h1 := HGS.out
          rw [HE.out] at h1
          have h2 := HFL.out
          subst h2
          refine (newTerm_any wr.drew (TN T w wr.drew) h a f Ai ci (fun b hb => hb.elim (fun h => Nat.lt_of_lt_of_le (HT.out b h) hkd.fr.size) (fun h => h.2)) (hkd.done rfl) (by omega) (by have := HSZ.out; omega)).mono ?_
          rintro e w5 ⟨p5, rfl, hf5, hp5, htm5⟩
          have hb5 := HKB.out.fr (hkd.fr.trans hf5) (fun h => h)
          refine ⟨p5, rfl, ⟨(hb5.cell 0).trans rfl, (hb5.cell 1).trans rfl⟩, ?_⟩
          show TsP _ _ _ _ _
          rw [← HR.out, if_neg HK0.out, HE.out]
          refine ⟨p5, rfl, hkd.fr.trans hf5, TEl.mono (fun b hb => ?_) (fun _ _ => rfl) htm5⟩
          rcases hb with (hb | hb) | hb
          · exact .inl hb
          · exact .inr ⟨hb.1, Nat.lt_of_lt_of_le hb.2 hf5.size⟩
          · exact .inr ⟨Nat.le_trans hkd.fr.size hb.1, hb.2⟩
        clear hjk hbr
        go_wp2_with fail
        go_region_held3 (fun w' => w'.cell? ⟨p, 0, none⟩ = some (S h) ∧ w'.cell? ⟨p, 1, none⟩ = some (S a)) (go_keep)
          (first | (go_at_call 51; ((with_reducible refine (NEW.out _ rfl).mono ?_); rintro e w5 ⟨p5, rfl, ⟨n0, n1⟩, FIN⟩)))
        go_wp2_with fail
        go_ret
        exact FIN.out

set_option maxRecDepth 100000 in
set_option maxHeartbeats 2000000 in
theorem wp_pb (w : World) (T : Nat → Prop) (h a : List UInt8) (d p own : Nat) (k : Ts) (x1 : Nat) (F : List UInt8 → List UInt8 → Nat → Ts → Nat → Ts) (G : Ts → Nat → Ts)
    (hs : k.size ≤ 900) (ho : own ≤ 100000) (hT : ∀ b, T b → b < w.heap.size) (ht : Tm w T p h a d k)
    (hG : ∀ h a d k r i, G (.cons h a d k r) i = (F h a d k i).app (G r (i + 1))) (hG0 : ∀ i, G .nil i = .nil) (hF : ∀ h a d k i, (F h a d k i).len = 1) (hGs : (G k 0).size ≤ 100000)
    (CL : ∀ (wr : World) (j : Nat) (h' a' : List UInt8) (d' : Nat) (k' : Ts) (q : Nat), Fr No w wr → k.nth j = some (h', a', d', k') → Tm wr T q h' a' d' k' →
      Calls Tryz.prog 94 #[Ptr q, .int .i64 ((own + bndN h j : Nat) : Int), Ptr x1] wr fun e w' => TsP T (F h' a' d' k' j) wr e w') :
    Calls Tryz.prog 93 #[Ptr p, .int .i64 (own : Int), .func (.func 94) #[] #[Ptr x1]] w fun e w' =>
      TsP T (if k.len = 0 then .cons h a d k .nil else .cons h a 0 (G k 0) .nil) w e w' := by
  have htm0 := ht
  obtain ⟨R, HR⟩ : ∃ z, Hid ((if k.len = 0 then Ts.cons h a d k .nil else Ts.cons h a 0 (G k 0) .nil) = z) := ⟨_, rfl⟩
  rw [HR.out]
  obtain ⟨hp, AK, cK, hb, hsl⟩ := ht.open_
  have HAP : Hid (Apart2 w No T) := apart_no hT
  have HT := Lib.hid hT
  have HSL := Lib.hid hsl
  have HG := Lib.hid hG
  have HG0 := Lib.hid hG0
  have HF := Lib.hid hF
  have HGS := Lib.hid hGs
  have HCL := Lib.hid CL
  have c0 : w.cell? ⟨p, 0, none⟩ = some (S h) := (hb.cell 0).trans rfl
  have c1 : w.cell? ⟨p, 1, none⟩ = some (S a) := (hb.cell 1).trans rfl
  have c3 : w.cell? ⟨p, 3, none⟩ = some (.slice AK k.len cK) := (hb.cell 3).trans rfl
  have HKB := Lib.hid hb
  have hlt := hb.lt
  have hln := Ts.len_size k
  have hl6 : (k.len : Int) ≤ 900 := by omega
  have hown0 : (0 : Int) ≤ (own : Int) := by omega
  have hown1 : (own : Int) ≤ 100000 := by omega
  have HSZ := Lib.hid hs
  clear hG hG0 hF hGs CL hb hsl ht hT hs
  by_cases hk0 : k.len = 0
  · have n0 : ((k.len : Int) == 0) = true := by rw [hk0]; rfl
    have FIN : Hid (TsP T R w (.returned (Ptr p)) w) := by
      show TsP _ _ _ _ _
      rw [← HR.out, if_pos hk0]
      exact ⟨p, rfl, Fr.refl _ _, TEl.mono (fun b hb => .inl hb) (fun _ _ => rfl) htm0⟩
    clear htm0 hk0
    go_enter Tryz.func93, Tryz.ntmps93
    go_wp2_with fail
    go_ret
    exact FIN.out
  · have n0 : ((k.len : Int) == 0) = false := beq_eq_false_iff_ne.2 (by omega)
    have HK0 := Lib.hid hk0
    clear htm0 hk0
    have HKS : Hid (KM w No T .nil 0 (.slice (some ⟨w.heap.size, 0, none⟩) 0 0) (w.alloc (.cells #[] 31))) := KM.start w No T (Fr.refl _ _) _ rfl
    go_enter Tryz.func93, Tryz.ntmps93
    go_wp2_with fail
    go_loopw [7, 23] (fun V u wr => ∃ (j : Nat) (Ai : Option Addr) (ci : Nat) (f : Ts), j ≤ k.len ∧ u = .int .i64 j ∧ V = .slice Ai j ci ∧ f.len = j ∧ KM w No T f j (.slice Ai j ci) wr ∧ G k 0 = f.app (G (k.from_ j) j)) (fun _ u _ => k.len - (intOf u).toNat)
    case atStart => exact ⟨0, _, 0, .nil, Nat.zero_le _, rfl, rfl, rfl, HKS.out, by rw [Ts.from_zero]; rfl⟩
    case round =>
      obtain ⟨j, Ai, ci, f, hj, rfl, rfl, hfl, hkm, hrn⟩ := hrel
      have HKM := Lib.hid hkm
      have HRN := Lib.hid hrn
      have HFL := Lib.hid hfl
      clear hkm hrn hfl
      have hbr := HKB.out.fr HKM.out.fr (fun h => h)
      have r0 : wr.cell? ⟨p, 0, none⟩ = some (S h) := (hbr.cell 0).trans rfl
      have r1 : wr.cell? ⟨p, 1, none⟩ = some (S a) := (hbr.cell 1).trans rfl
      have rlt := hbr.lt
      by_cases hjl : j < k.len
      · have hTw : ∀ b, T b → wr.heap[b]? = w.heap[b]? := fun b hb => HKM.out.fr.block b (HT.out b hb) (fun h => h)
        obtain ⟨gg, o, q, h', a', d', k', rfl, hg, hn, hc, htm⟩ := (HSL.out.mono (T' := T) (fun _ h => h) hTw).at_ hjl
        have hlg := block_lt hc
        have hst : G (k.from_ j) j = (F h' a' d' k' j).app (G (k.from_ (j + 1)) (j + 1)) := by
          rw [Ts.from_nth k j h' a' d' k' hn]
          exact HG.out _ _ _ _ _ _
        have HST := Lib.hid hst
        have CALL : Hid (Calls Tryz.prog 94 #[Ptr q, .int .i64 ((own + bndN h j : Nat) : Int), Ptr x1] wr fun e w' => TsP T (F h' a' d' k' j) wr e w') := HCL.out wr j h' a' d' k' q HKM.out.fr hn htm
        obtain ⟨bn, HBN⟩ : ∃ bn, Hid (bndN h j = bn) := ⟨_, rfl⟩
        have hbn1 : (bn : Int) ≤ 1 := by have := bndN_le h j; rw [HBN.out] at this; omega
        have BI : Hid (Calls Tryz.prog 81 #[S h, .int .i64 (j : Int)] wr fun e w' => e = .returned (.int .i64 (bn : Int)) ∧ wr = w') := boundIn_any h j _ (by rw [HBN.out]) (by have := HSZ.out; omega) wr
        rw [HBN.out, show ((own + bn : Nat) : Int) = (own : Int) + (bn : Int) from by omega] at CALL
        obtain ⟨h2, a2, d2, k2, HFE⟩ : ∃ h2 a2 d2 k2, Hid (F h' a' d' k' j = .cons h2 a2 d2 k2 .nil) := single (HF.out h' a' d' k' j)
        rw [HFE.out] at CALL HST
        clear hst htm hn hTw hbr
        go_wp2_with fail
        refine BI.out.mono ?_
        rintro e wi ⟨rfl, rfl⟩
        go_wp2_with fail
        refine CALL.out.mono ?_
        rintro e w3 ⟨q3, rfl, hf3, ht3⟩
        have HF3 := Lib.hid hf3
        have HKM3 := Lib.hid (HKM.out.keep HAP.out hf3)
        have HTM : Hid (Tm w3 (fun b => T b ∨ (wr.heap.size ≤ b ∧ b < w3.heap.size)) q3 h2 a2 d2 k2) := ht3
        clear hf3 ht3
        obtain ⟨xs, hown0, hel0⟩ := HKM3.out.own
        obtain ⟨i0, hi0, hz0, hz1, hz2⟩ := info_parts info_ptr
        have hsz3 := HKM3.out.fr.size
        have HOA : Hid (∀ o : Obj, (w3.alloc o).ownsRow w.heap.size 31 1 (.slice Ai j ci) j xs) := fun o => hown0.alloc o
        have HC1 : Hid (∀ (i : Nat) (u : Value), [Ptr q3][i]? = some u → (w3.alloc (.cells #[Ptr q3] 31)).cell? ((⟨w3.heap.size, 0, none⟩ : Addr).add i) = some u) := cells_new (w := w3) rfl [Ptr q3] 31
        have HC2 : Hid (∀ u ∈ [Ptr q3], u.oneCell' = true) := by
          intro u hu
          simp at hu
          rw [hu]; rfl
        have HC5 : Hid (∀ o : Obj, w.heap.size ≤ (w3.alloc o).heap.size) := fun o => by simp; omega
        have bnd : (j + 1) * 8 ≤ 140737488355328 := by omega
        have bnd2 : j + 1 ≤ maxLen := by unfold maxLen; omega
        have HM : Hid (∀ (o : Obj) V' w4, w4.ownsRow w.heap.size 31 1 V' (j + 1) (xs ++ [Ptr q3]) → (w3.alloc o).grownBy w4 (Value.slice Ai j ci).ownBlock → (V'.ownBlock = (Value.slice Ai j ci).ownBlock ∨ V'.ownBlock = some (w3.alloc o).heap.size) →
            ∃ A4 c4, V' = .slice A4 (j + 1) c4 ∧ KM w No T (f.snoc h2 a2 d2 k2) (j + 1) V' w4) := by
          intro o V' w4 h1 h2 h3
          obtain ⟨A4, c4, e4⟩ := own_form h1
          exact ⟨A4, c4, e4, HKM.out.more HAP.out HF3.out HTM.out hown0 hel0 h1 h2 h3⟩
        have HRN2 : Hid (G k 0 = (f.snoc h2 a2 d2 k2).app (G (k.from_ (j + 1)) (j + 1))) := by
          show _ = _
          rw [HRN.out, HST.out, Ts.snoc_app]
          rfl
        clear hown0 hel0
        go_wp2_with (at_builtin; go_must (refine wpList_append_own_at _ rfl _ _ 76 rfl w.heap.size 31 i0 (.pointer none) 1 8 Tryz.underlying76 hi0 hz0 hz1 hz2 rfl (by decide) _ j xs rfl (HOA.out _) ⟨w3.heap.size, 0, none⟩ 1 1 [Ptr q3] rfl rfl HC1.out HC2.out bnd2 bnd (HC5.out _) ?_); intro v' w4 hown' hgrow _ hloc; obtain ⟨A4, c4, rfl, hkm4⟩ := HM.out _ v' w4 hown' hgrow hloc; have HKM4 := Lib.hid hkm4; clear hown' hgrow hloc hkm4)
        go_roundw
        case rel => exact ⟨j + 1, A4, c4, _, by omega, by go_num, rfl, by rw [Ts.len_snoc, HFL.out], HKM4.out, HRN2.out⟩
        case measure => simp [intOf]; omega
      · have hjk : j = k.len := by omega
        have HE : Hid (G k 0 = f) := by
          show _ = _
          rw [HRN.out, hjk, Ts.from_len, HG0.out, Ts.app_nil]
        have NEW : Hid (∀ w', w' = wr.drew → Calls Tryz.prog 51 #[S h, S a, .slice Ai j ci] w' fun e w5 => ∃ p5, e = .returned (Ptr p5) ∧ (w5.cell? ⟨p, 0, none⟩ = some (S h) ∧ w5.cell? ⟨p, 1, none⟩ = some (S a)) ∧ Hid (TsP T R w (.returned (Ptr p5)) w5)) := by
          rintro w' rfl
          have hkd := HKM.out.keep HAP.out ((Fr.refl No wr).drew)
          have h1 := HGS.out
          rw [HE.out] at h1
          have h2 := HFL.out
          subst h2
          refine (newTerm_any wr.drew (TN T w wr.drew) h a f Ai ci (fun b hb => hb.elim (fun h => Nat.lt_of_lt_of_le (HT.out b h) hkd.fr.size) (fun h => h.2)) (hkd.done rfl) (by omega) (by have := HSZ.out; omega)).mono ?_
          rintro e w5 ⟨p5, rfl, hf5, hp5, htm5⟩
          have hb5 := HKB.out.fr (hkd.fr.trans hf5) (fun h => h)
          refine ⟨p5, rfl, ⟨(hb5.cell 0).trans rfl, (hb5.cell 1).trans rfl⟩, ?_⟩
          show TsP _ _ _ _ _
          rw [← HR.out, if_neg HK0.out, HE.out]
          refine ⟨p5, rfl, hkd.fr.trans hf5, TEl.mono (fun b hb => ?_) (fun _ _ => rfl) htm5⟩
          rcases hb with (hb | hb) | hb
          · exact .inl hb
          · exact .inr ⟨hb.1, Nat.lt_of_lt_of_le hb.2 hf5.size⟩
          · exact .inr ⟨Nat.le_trans hkd.fr.size hb.1, hb.2⟩
        clear hjk hbr
        go_wp2_with fail
        go_region_held3 (fun w' => w'.cell? ⟨p, 0, none⟩ = some (S h) ∧ w'.cell? ⟨p, 1, none⟩ = some (S a)) (go_keep)
          (first | (go_at_call 51; ((with_reducible refine (NEW.out _ rfl).mono ?_); rintro e w5 ⟨p5, rfl, ⟨n0, n1⟩, FIN⟩)))
        go_wp2_with fail
        go_ret
        exact FIN.out

end Go.Proofs.YtnjgaenhjdjpfaaGreatDoor

/- Terms put under depths: deepen, putBound, putTerm of the program. -/
namespace Go.Proofs.YtnjgaenhjdjpfaaGreatDoor
open Go.RowKit Go.ChangeMaps

/-- depths of bound names are small -/
def Dle (D : Nat) : Ts → Prop
  | .nil => True
  | .cons h a d k r => (h = hName → a = [] → d ≤ D) ∧ Dle D k ∧ Dle D r

theorem Dle.nth {D : Nat} : ∀ {t : Ts} {j : Nat} {h a : List UInt8} {d : Nat} {k : Ts}, Dle D t → t.nth j = some (h, a, d, k) → (h = hName → a = [] → d ≤ D) ∧ Dle D k
  | .nil, _, _, _, _, _, _, e => by cases e
  | .cons _ _ _ _ _, 0, _, _, _, _, hd, e => by
    simp only [Ts.nth, Option.some.injEq, Prod.mk.injEq] at e
    obtain ⟨rfl, rfl, rfl, rfl⟩ := e
    exact ⟨hd.1, hd.2.1⟩
  | .cons _ _ _ _ _, _ + 1, _, _, _, _, hd, e => Dle.nth hd.2.2 e

theorem WfT.nth : ∀ {t : Ts} {j : Nat} {h a : List UInt8} {d : Nat} {k : Ts}, WfT t → t.nth j = some (h, a, d, k) → WfT (.cons h a d k .nil)
  | .nil, _, _, _, _, _, _, e => by cases e
  | .cons _ _ _ _ _, 0, _, _, _, _, hd, e => by
    simp only [Ts.nth, Option.some.injEq, Prod.mk.injEq] at e
    obtain ⟨rfl, rfl, rfl, rfl⟩ := e
    exact ⟨hd.1, hd.2.1, hd.2.2.1, trivial⟩
  | .cons _ _ _ _ _, _ + 1, _, _, _, _, hd, e => WfT.nth hd.2.2.2 e

theorem boundB_iff {h a : List UInt8} : boundB h a = true ↔ h = hName ∧ a = [] := by
  simp [boundB]

theorem node_rn (h a : List UInt8) (d : Nat) (k g : Ts) (hg : k.len = 0 → g = k) : (if k.len = 0 then Ts.cons h a d k .nil else Ts.cons h a 0 g .nil) = Ts.cons h a (rnD d k) g .nil := by
  unfold rnD
  by_cases h0 : k.len = 0
  · rw [if_pos h0, if_pos h0, hg h0]
  · rw [if_neg h0, if_neg h0]

theorem TsP.of {T : Nat → Prop} {t t' : Ts} {w : World} {e : Ending} {w' : World} (h : TsP T t w e w') (ht : t = t') : TsP T t' w e w' := ht ▸ h

theorem dpK_cons (m : Nat) (h a : List UInt8) (d : Nat) (k r : Ts) (o : Nat) (p : List UInt8) (i : Nat) : dpK m (.cons h a d k r) o p i = (dpK m (.cons h a d k .nil) (o + bndN p i) [] 0).app (dpK m r o p (i + 1)) := by
  simp only [dpK, bnd_nil, Nat.add_zero]
  split <;> rfl

theorem pbK_cons (b : Ts) (h a : List UInt8) (d : Nat) (k r : Ts) (o : Nat) (p : List UInt8) (i : Nat) : pbK b (.cons h a d k r) o p i = (pbK b (.cons h a d k .nil) (o + bndN p i) [] 0).app (pbK b r o p (i + 1)) := by
  simp only [pbK, bnd_nil, Nat.add_zero]
  split
  · rw [Ts.app_nil]
  · split <;> rfl

theorem ptT_cons (x hb ab : List UInt8) (db : Nat) (kb : Ts) (h a : List UInt8) (d : Nat) (k r : Ts) : ptT x hb ab db kb (.cons h a d k r) = (ptT x hb ab db kb (.cons h a d k .nil)).app (ptT x hb ab db kb r) := by
  simp only [ptT]
  split <;> rfl

theorem pb_size_le (b : Ts) (hwb : WfT b) (hb : 1 ≤ b.size) : ∀ (t : Ts) (o : Nat) (p : List UInt8) (i : Nat), (pbK b t o p i).size ≤ t.size * b.size
  | .nil, _, _, _ => by simp [pbK, Ts.size]
  | .cons h a d k r, o, p, i => by
    have h1 := pb_size_le b hwb hb k (o + bndN p i) h 0
    have h2 := pb_size_le b hwb hb r o p (i + 1)
    have e : (if bindsB h then 2 else 1) ≤ (if bindsB h then 2 else 1) * b.size := Nat.le_mul_of_pos_right _ hb
    have e1 : 1 ≤ (if bindsB h then 2 else 1) := by split <;> omega
    have e2 : b.size ≤ (if bindsB h then 2 else 1) * b.size := Nat.le_mul_of_pos_left _ e1
    simp only [pbK, Ts.size, Nat.add_mul]
    split
    · rw [app_size, dp_size _ _ _ _ _ hwb]; omega
    · split
      · have : bindsB hName = false := by decide
        simp only [Ts.size, this, Bool.false_eq_true, if_false]
        omega
      · simp only [Ts.size]; omega

/- deepen -/

def DpSaid (k : Ts) : Prop := ∀ (h a : List UInt8) (d p : Nat) (w : World) (T : Nat → Prop) (m own : Nat), k.size ≤ 900 → m ≤ 10000 → own + k.size ≤ 20000 → WfT (.cons h a d k .nil) → Dle 10000 (.cons h a d k .nil) → (∀ b, T b → b < w.heap.size) → Tm w T p h a d k →
  Calls Tryz.prog 92 #[Ptr p, .int .i64 (m : Int), .int .i64 (own : Int)] w fun e w' => TsP T (dpK m (.cons h a d k .nil) own [] 0) w e w'

set_option maxHeartbeats 1000000 in
theorem dp_one (k : Ts) (hN : DpSaid k) (h a : List UInt8) (d q : Nat) (w : World) (T : Nat → Prop) (m own x : Nat) (hs : k.size ≤ 900) (hm : m ≤ 10000) (ho : own + k.size ≤ 20000) (hw : WfT (.cons h a d k .nil)) (hd : Dle 10000 (.cons h a d k .nil)) (hT : ∀ b, T b → b < w.heap.size) (ht : Tm w T q h a d k)
    (hx : Blk w x 3 #[.int .i64 (m : Int)]) :
    Calls Tryz.prog 113 #[Ptr q, .int .i64 (own : Int), Ptr x] w fun e w' => TsP T (dpK m (.cons h a d k .nil) own [] 0) w e w' := by
  have CALL := Lib.hid (hN h a d q w T m own hs hm ho hw hd hT ht)
  have c0 : w.cell? ⟨x, 0, none⟩ = some (.int .i64 (m : Int)) := (hx.cell 0).trans rfl
  have hlt := hx.lt
  clear hN hs hm ho hw hd hT ht hx
  go_enter Tryz.func113, Tryz.ntmps113
  go_wp2_with fail
  refine CALL.out.mono ?_
  rintro e w1 ⟨p1, rfl, h1, h2⟩
  have FIN : Hid (TsP T (dpK m (.cons h a d k .nil) own [] 0) w (.returned (Ptr p1)) w1) := ⟨p1, rfl, h1, h2⟩
  clear h1 h2
  go_wp2_with fail
  go_ret
  exact FIN.out

set_option maxRecDepth 100000 in
set_option maxHeartbeats 2000000 in
theorem dp_node (k : Ts) (hN : ∀ h a d k' j, k.nth j = some (h, a, d, k') → DpSaid k') : DpSaid k := by
  intro h a d p w T m own hs hm ho hw hd hT ht
  have HN := Lib.hid hN
  have htm0 := ht
  obtain ⟨hp, AK, cK, hb, hsl⟩ := ht.open_
  have HT := Lib.hid hT
  have HW := Lib.hid hw
  have HD := Lib.hid hd
  have hfa : Fr No w (w.alloc (.cells #[.int .i64 (m : Int)] 3)) := (Fr.refl _ _).alloc _
  have hbx : Blk (w.alloc (.cells #[.int .i64 (m : Int)] 3)) w.heap.size 3 #[.int .i64 (m : Int)] := Blk.new _ _ _
  have hba := hb.fr hfa (fun h => h)
  have BN := Lib.hid (bound_is _ p h a _ _ _ hba)
  have c2 : (w.alloc (.cells #[.int .i64 (m : Int)] 3)).cell? ⟨p, 2, none⟩ = some (.int .i64 (d : Int)) := (hba.cell 2).trans rfl
  have cx : (w.alloc (.cells #[.int .i64 (m : Int)] 3)).cell? ⟨w.heap.size, 0, none⟩ = some (.int .i64 (m : Int)) := (hbx.cell 0).trans rfl
  have hlt := hba.lt
  have hltx := hbx.lt
  have hm2 : (m : Int) ≤ 10000 := by omega
  have htmA : Tm (w.alloc (.cells #[.int .i64 (m : Int)] 3)) T p h a d k := htm0.mono (fun b hb => hb) (fun b hb => hfa.block b (hT b hb) (fun h => h))
  have WP : Hid (¬ (h = hName ∧ a = [] ∧ own ≤ d) → Calls Tryz.prog 93 #[Ptr p, .int .i64 (own : Int), .func (.func 113) #[] #[Ptr w.heap.size]] (w.alloc (.cells #[.int .i64 (m : Int)] 3)) fun e w' => TsP T (dpK m (.cons h a d k .nil) own [] 0) w e w') := by
    intro hq
    have hTa : ∀ b, T b → b < (w.alloc (.cells #[.int .i64 (m : Int)] 3)).heap.size := fun b hb => Nat.lt_of_lt_of_le (hT b hb) hfa.size
    refine (wp_dp _ T h a d p own k w.heap.size (fun h' a' d' k' j => dpK m (.cons h' a' d' k' .nil) (own + bndN h j) [] 0) (fun t i => dpK m t own h i) hs (by omega) hTa htmA (fun h' a' d' k' r i => dpK_cons m h' a' d' k' r own h i) (fun _ => rfl) (fun h' a' d' k' j => by rw [dp_len]; rfl) (by rw [dp_size _ _ _ _ _ hw.2.2.1]; omega) ?_).mono ?_
    · intro wr j h' a' d' k' q hf hn hq
      have hz := Ts.nth_size hn
      have hbn := bndN_le h j
      exact dp_one k' (HN.out h' a' d' k' j hn) h' a' d' q wr T m (own + bndN h j) w.heap.size (by omega) hm (by omega) (WfT.nth hw.2.2.1 hn) ⟨(Dle.nth hd.2.1 hn).1, (Dle.nth hd.2.1 hn).2, trivial⟩ (fun b hb => Nat.lt_of_lt_of_le (hTa b hb) hf.size) hq (hbx.fr hf (fun h => h))
    · rintro e w' ⟨p', rfl, h1, h2⟩
      have hsz := h1.size
      refine ⟨p', rfl, hfa.trans h1, ?_⟩
      have e1 : dpK m (.cons h a d k .nil) own [] 0 = if k.len = 0 then .cons h a d k .nil else .cons h a 0 (dpK m k own h 0) .nil := by
        rw [node_rn h a d k _ (fun h0 => by rw [len_nil h0]; rfl)]
        simp only [dpK, bnd_nil, Nat.add_zero]
        rw [if_neg hq]
      rw [e1]
      refine TEl.mono (fun b hb => hb.imp (fun h => h) (fun hb => ⟨?_, hb.2⟩)) (fun _ _ => rfl) h2
      have := hb.1; simp at this; omega
  clear hN hs ho hw hd hT ht hb hsl htm0 htmA hba hbx
  rcases hq : boundB h a with _ | _
  · have WC := Lib.hid (WP.out (fun hc => by rw [boundB_iff.2 ⟨hc.1, hc.2.1⟩] at hq; cases hq))
    rw [hq] at BN
    clear hq WP
    go_enter Tryz.func92, Tryz.ntmps92
    go_wp2_with fail
    refine BN.out.mono ?_
    rintro e w1 ⟨rfl, rfl⟩
    go_wp2_with fail
    refine WC.out.mono ?_
    rintro e w1 ⟨p1, rfl, h1, h2⟩
    have FIN : Hid (TsP T (dpK m (.cons h a d k .nil) own [] 0) w (.returned (Ptr p1)) w1) := ⟨p1, rfl, h1, h2⟩
    clear h1 h2
    go_wp2_with fail
    go_ret
    exact FIN.out
  · have hbb := boundB_iff.1 hq
    rw [hq] at BN
    clear hq
    have hd1 : d ≤ 10000 := HD.out.1 hbb.1 hbb.2
    by_cases hod : own ≤ d
    · have n1 : (own : Int) ≤ (d : Int) := by omega
      have hd2 : (d : Int) ≤ 10000 := by omega
      have BT : Hid (∀ w', w' = (w.alloc (.cells #[.int .i64 (m : Int)] 3)).drew → Calls Tryz.prog 78 #[.int .i64 ((d : Int) + (m : Int))] w' fun e w' => ∃ p1, e = .returned (Ptr p1) ∧ (w'.cell? ⟨p, 2, none⟩ = some (.int .i64 (d : Int)) ∧ w'.cell? ⟨w.heap.size, 0, none⟩ = some (.int .i64 (m : Int))) ∧ Hid (TsP T (dpK m (.cons h a d k .nil) own [] 0) w (.returned (Ptr p1)) w')) := by
        rintro w' rfl
        have hfd := hfa.drew
        have h0 := boundTerm_any (d + m) (w.alloc (.cells #[.int .i64 (m : Int)] 3)).drew
        rw [show ((d + m : Nat) : Int) = (d : Int) + (m : Int) from by omega] at h0
        refine h0.mono ?_
        rintro e w' ⟨p', rfl, h1, h2⟩
        refine ⟨p', rfl, ⟨(h1.cell (p := ⟨p, 2, none⟩) hlt (fun h => h)).trans c2, (h1.cell (p := ⟨w.heap.size, 0, none⟩) hltx (fun h => h)).trans cx⟩, p', rfl, hfd.trans h1, ?_⟩
        have e1 : dpK m (.cons h a d k .nil) own [] 0 = .cons hName [] (d + m) .nil .nil := by
          simp only [dpK, bnd_nil, Nat.add_zero]
          rw [if_pos ⟨hbb.1, hbb.2, hod⟩]
        rw [e1]
        refine TEl.mono (fun b hb => .inr ⟨?_, hb.2⟩) (fun _ _ => rfl) h2
        have := Nat.le_trans hfd.size hb.1; omega
      have hw0 : IntKind.i64.wrap ((d : Int) + (m : Int)) = (d : Int) + (m : Int) := IntWalk.i64_in _ (by omega)
      clear WP hod hbb
      go_enter Tryz.func92, Tryz.ntmps92
      go_wp2_with fail
      refine BN.out.mono ?_
      rintro e w1 ⟨rfl, rfl⟩
      go_wp2_with fail
      go_region_held3 (fun w' => w'.cell? ⟨p, 2, none⟩ = some (.int .i64 (d : Int)) ∧ w'.cell? ⟨w.heap.size, 0, none⟩ = some (.int .i64 (m : Int))) (go_keep)
        (first | (go_at_call 78; ((with_reducible refine (BT.out _ rfl).mono ?_); rintro e w5 ⟨p5, rfl, ⟨n0, n1⟩, FIN⟩)))
      go_wp2_with fail
      go_ret
      exact FIN.out
    · have n1 : ¬ (own : Int) ≤ (d : Int) := by omega
      have WC := Lib.hid (WP.out (fun hc => hod hc.2.2))
      clear WP hod hbb
      go_enter Tryz.func92, Tryz.ntmps92
      go_wp2_with fail
      refine BN.out.mono ?_
      rintro e w1 ⟨rfl, rfl⟩
      go_wp2_with fail
      refine WC.out.mono ?_
      rintro e w1 ⟨p1, rfl, h1, h2⟩
      have FIN : Hid (TsP T (dpK m (.cons h a d k .nil) own [] 0) w (.returned (Ptr p1)) w1) := ⟨p1, rfl, h1, h2⟩
      clear h1 h2
      go_wp2_with fail
      go_ret
      exact FIN.out

theorem dp_any (N : Nat) : ∀ k : Ts, SizeOf.sizeOf k < N → DpSaid k := by
  induction N with
  | zero => intro k h; omega
  | succ N ih =>
    intro k hN
    exact dp_node k (fun h a d k' j hn => ih k' (by have := Ts.nth_small k j h a d k' hn; omega))
end Go.Proofs.YtnjgaenhjdjpfaaGreatDoor

/- putBound and putTerm of the program. -/
namespace Go.Proofs.YtnjgaenhjdjpfaaGreatDoor
open Go.RowKit Go.ChangeMaps

/-- what is put: a term in memory -/
structure ByT (w : World) (T : Nat → Prop) (pb : Nat) (hb ab : List UInt8) (db : Nat) (kb : Ts) : Prop where
  tm : Tm w T pb hb ab db kb
  wf : WfT (.cons hb ab db kb .nil)
  dl : Dle 10000 (.cons hb ab db kb .nil)
  sz : kb.size + 2 ≤ 310

theorem ByT.fr {w w' : World} {T : Nat → Prop} {pb : Nat} {hb ab : List UInt8} {db : Nat} {kb : Ts} (h : ByT w T pb hb ab db kb) (hT : ∀ b, T b → b < w.heap.size) (hf : Fr No w w') : ByT w' T pb hb ab db kb :=
  ⟨h.tm.mono (fun _ h => h) (fun b hb => hf.block b (hT b hb) (fun h => h)), h.wf, h.dl, h.sz⟩

theorem ByT.size {w : World} {T : Nat → Prop} {pb : Nat} {hb ab : List UInt8} {db : Nat} {kb : Ts} (h : ByT w T pb hb ab db kb) : 1 ≤ (Ts.cons hb ab db kb .nil).size ∧ (Ts.cons hb ab db kb .nil).size ≤ 310 := by
  have := h.sz
  simp only [Ts.size]
  split <;> omega

def PbSaid (k : Ts) : Prop := ∀ (h a : List UInt8) (d p : Nat) (w : World) (T : Nat → Prop) (dep pb : Nat) (hb ab : List UInt8) (db : Nat) (kb : Ts), k.size ≤ 310 → dep + k.size ≤ 5000 → WfT (.cons h a d k .nil) → Dle 10000 (.cons h a d k .nil) → (∀ b, T b → b < w.heap.size) → Tm w T p h a d k → ByT w T pb hb ab db kb →
  Calls Tryz.prog 67 #[Ptr p, .int .i64 (dep : Int), Ptr pb] w fun e w' => TsP T (pbK (.cons hb ab db kb .nil) (.cons h a d k .nil) dep [] 0) w e w'

set_option maxHeartbeats 1000000 in
theorem pb_one (k : Ts) (hN : PbSaid k) (h a : List UInt8) (d q : Nat) (w : World) (T : Nat → Prop) (dep pb : Nat) (hb ab : List UInt8) (db : Nat) (kb : Ts) (x : Nat) (hs : k.size ≤ 310) (ho : dep + k.size ≤ 5000) (hw : WfT (.cons h a d k .nil)) (hd : Dle 10000 (.cons h a d k .nil)) (hT : ∀ b, T b → b < w.heap.size) (ht : Tm w T q h a d k) (hby : ByT w T pb hb ab db kb)
    (hx : Blk w x 31 #[Ptr pb]) :
    Calls Tryz.prog 94 #[Ptr q, .int .i64 (dep : Int), Ptr x] w fun e w' => TsP T (pbK (.cons hb ab db kb .nil) (.cons h a d k .nil) dep [] 0) w e w' := by
  have CALL := Lib.hid (hN h a d q w T dep pb hb ab db kb hs ho hw hd hT ht hby)
  have c0 : w.cell? ⟨x, 0, none⟩ = some (Ptr pb) := (hx.cell 0).trans rfl
  have hlt := hx.lt
  clear hN hs ho hw hd hT ht hx hby
  go_enter Tryz.func94, Tryz.ntmps94
  go_wp2_with fail
  refine CALL.out.mono ?_
  rintro e w1 ⟨p1, rfl, h1, h2⟩
  have FIN : Hid (TsP T (pbK (.cons hb ab db kb .nil) (.cons h a d k .nil) dep [] 0) w (.returned (Ptr p1)) w1) := ⟨p1, rfl, h1, h2⟩
  clear h1 h2
  go_wp2_with fail
  go_ret
  exact FIN.out

set_option maxRecDepth 100000 in
set_option maxHeartbeats 2000000 in
theorem pb_node (k : Ts) (hN : ∀ h a d k' j, k.nth j = some (h, a, d, k') → PbSaid k') : PbSaid k := by
  intro h a d p w T dep pb hb ab db kb hs ho hw hd hT ht hby
  have HN := Lib.hid hN
  have htm0 := ht
  obtain ⟨hp, AK, cK, hbk, hsl⟩ := ht.open_
  have HD := Lib.hid hd
  have hbz := hby.size
  obtain ⟨wa, hwa⟩ : ∃ wa, wa = w.alloc (.cells #[Ptr pb] 31) := ⟨_, rfl⟩
  have hfa : Fr No w wa := by rw [hwa]; exact (Fr.refl _ _).alloc _
  have hbx : Blk wa w.heap.size 31 #[Ptr pb] := by rw [hwa]; exact Blk.new _ _ _
  have hsa : w.heap.size ≤ wa.heap.size := hfa.size
  have hba := hbk.fr hfa (fun h => h)
  have BN := Lib.hid (bound_is _ p h a _ _ _ hba)
  have c2 : wa.cell? ⟨p, 2, none⟩ = some (.int .i64 (d : Int)) := (hba.cell 2).trans rfl
  have cx : wa.cell? ⟨w.heap.size, 0, none⟩ = some (Ptr pb) := (hbx.cell 0).trans rfl
  have hlt := hba.lt
  have hltx := hbx.lt
  have hbya := hby.fr hT hfa
  have hTa : ∀ b, T b → b < wa.heap.size := fun b hb => Nat.lt_of_lt_of_le (hT b hb) hfa.size
  have htmA : Tm wa T p h a d k := htm0.mono (fun b hb => hb) (fun b hb => hfa.block b (hT b hb) (fun h => h))
  have BACK : ∀ (t : Ts) (e : Ending) (w' : World), TsP T t wa e w' → TsP T t w e w' := by
    rintro t e w' ⟨p', rfl, h1, h2⟩
    exact ⟨p', rfl, hfa.trans h1, TEl.mono (fun b hb => hb.imp (fun h => h) (fun hb => ⟨Nat.le_trans hsa hb.1, hb.2⟩)) (fun _ _ => rfl) h2⟩
  have WP : Hid (¬ (h = hName ∧ a = [] ∧ dep ≤ d) → Calls Tryz.prog 93 #[Ptr p, .int .i64 (dep : Int), .func (.func 94) #[] #[Ptr w.heap.size]] wa fun e w' => TsP T (pbK (.cons hb ab db kb .nil) (.cons h a d k .nil) dep [] 0) w e w') := by
    intro hq
    have hgs : (pbK (.cons hb ab db kb .nil) k dep h 0).size ≤ 100000 := by
      have h1 := pb_size_le _ hby.wf hbz.1 k dep h 0
      have h2 : k.size * (Ts.cons hb ab db kb .nil).size ≤ 310 * 310 := Nat.mul_le_mul hs hbz.2
      omega
    refine (wp_pb wa T h a d p dep k w.heap.size (fun h' a' d' k' j => pbK (.cons hb ab db kb .nil) (.cons h' a' d' k' .nil) (dep + bndN h j) [] 0) (fun t i => pbK (.cons hb ab db kb .nil) t dep h i) (by omega) (by omega) hTa htmA (fun h' a' d' k' r i => pbK_cons _ h' a' d' k' r dep h i) (fun _ => rfl) (fun h' a' d' k' j => by rw [pb_len _ rfl]; rfl) hgs ?_).mono ?_
    · intro wr j h' a' d' k' q hf hn hq
      have hz := Ts.nth_size hn
      have hbn := bndN_le h j
      exact pb_one k' (HN.out h' a' d' k' j hn) h' a' d' q wr T (dep + bndN h j) pb hb ab db kb w.heap.size (by omega) (by omega) (WfT.nth hw.2.2.1 hn) ⟨(Dle.nth hd.2.1 hn).1, (Dle.nth hd.2.1 hn).2, trivial⟩ (fun b hb => Nat.lt_of_lt_of_le (hTa b hb) hf.size) hq (hbya.fr hTa hf) (hbx.fr hf (fun h => h))
    · intro e w' h1
      have e1 : pbK (.cons hb ab db kb .nil) (.cons h a d k .nil) dep [] 0 = if k.len = 0 then .cons h a d k .nil else .cons h a 0 (pbK (.cons hb ab db kb .nil) k dep h 0) .nil := by
        rw [node_rn h a d k _ (fun h0 => by rw [len_nil h0]; rfl)]
        simp only [pbK, bnd_nil, Nat.add_zero]
        rw [if_neg (fun hc => hq ⟨hc.1, hc.2.1, by omega⟩), if_neg (fun hc => hq ⟨hc.1, hc.2.1, by omega⟩)]
      rw [e1]
      exact BACK _ _ _ h1
  have hdep : (dep : Int) ≤ 5000 := by omega
  have DP : Hid (h = hName ∧ a = [] ∧ d = dep → Calls Tryz.prog 92 #[Ptr pb, .int .i64 (dep : Int), .int .i64 0] wa fun e w' => TsP T (pbK (.cons hb ab db kb .nil) (.cons h a d k .nil) dep [] 0) w e w') := by
    rintro ⟨hq1, hq2, hq3⟩
    have := hby.sz
    refine (dp_any _ kb (Nat.lt_succ_self _) hb ab db pb wa T dep 0 (by omega) (by omega) (by omega) hby.wf hby.dl hTa hbya.tm).mono ?_
    intro e w' h1
    have e1 : pbK (.cons hb ab db kb .nil) (.cons h a d k .nil) dep [] 0 = dpK dep (.cons hb ab db kb .nil) 0 [] 0 := by
      simp only [pbK, bnd_nil, Nat.add_zero]
      rw [if_pos ⟨hq1, hq2, hq3⟩, Ts.app_nil]
    rw [e1]
    exact BACK _ _ _ h1
  have BT : Hid (h = hName ∧ a = [] ∧ dep < d → Calls Tryz.prog 78 #[.int .i64 ((d : Int) - 1)] wa fun e w' => TsP T (pbK (.cons hb ab db kb .nil) (.cons h a d k .nil) dep [] 0) w e w') := by
    rintro ⟨hq1, hq2, hq3⟩
    have h0 := boundTerm_any (d - 1) wa
    rw [show ((d - 1 : Nat) : Int) = (d : Int) - 1 from by omega] at h0
    refine h0.mono ?_
    rintro e w' ⟨p', rfl, h1, h2⟩
    have e1 : pbK (.cons hb ab db kb .nil) (.cons h a d k .nil) dep [] 0 = .cons hName [] (d - 1) .nil .nil := by
      simp only [pbK, bnd_nil, Nat.add_zero]
      rw [if_neg (fun hc => by omega), if_pos ⟨hq1, hq2, hq3⟩]
    rw [e1]
    exact BACK _ _ _ ⟨p', rfl, h1, TEl.mono (fun b hb => .inr hb) (fun _ _ => rfl) h2⟩
  have HWA := Lib.hid hwa
  clear hN hs ho hw hd hT ht hbk hsl htm0 htmA hba hbx hby hbya hTa hbz BACK hfa hsa
  rcases hq : boundB h a with _ | _
  · have hnq : ¬ (h = hName ∧ a = []) := fun hc => by rw [boundB_iff.2 hc] at hq; cases hq
    have WC := Lib.hid (WP.out (fun hc => hnq ⟨hc.1, hc.2.1⟩))
    rw [hq] at BN
    clear hq WP DP BT hnq
    go_enter Tryz.func67, Tryz.ntmps67
    rw [hwa] at *
    go_wp2_with fail
    refine BN.out.mono ?_
    rintro e w1 ⟨rfl, rfl⟩
    go_wp2_with fail
    refine BN.out.mono ?_
    rintro e w1 ⟨rfl, rfl⟩
    go_wp2_with fail
    refine WC.out.mono ?_
    rintro e w1 ⟨p1, rfl, h1, h2⟩
    have FIN : Hid (TsP T (pbK (.cons hb ab db kb .nil) (.cons h a d k .nil) dep [] 0) w (.returned (Ptr p1)) w1) := ⟨p1, rfl, h1, h2⟩
    clear h1 h2
    go_wp2_with fail
    go_ret
    exact FIN.out
  · have hbb := boundB_iff.1 hq
    rw [hq] at BN
    clear hq
    have hd1 : d ≤ 10000 := HD.out.1 hbb.1 hbb.2
    have hd2 : (d : Int) ≤ 10000 := by omega
    rcases Nat.lt_trichotomy d dep with hc | hc | hc
    · have WC := Lib.hid (WP.out (fun h => by omega))
      have n1 : ((d : Int) == (dep : Int)) = false := beq_eq_false_iff_ne.2 (by omega)
      have n2 : ¬ (dep : Int) < (d : Int) := by omega
      clear WP DP BT hbb hc
      go_enter Tryz.func67, Tryz.ntmps67
      rw [hwa] at *
      go_wp2_with fail
      refine BN.out.mono ?_
      rintro e w1 ⟨rfl, rfl⟩
      go_wp2_with fail
      refine BN.out.mono ?_
      rintro e w1 ⟨rfl, rfl⟩
      go_wp2_with fail
      refine WC.out.mono ?_
      rintro e w1 ⟨p1, rfl, h1, h2⟩
      have FIN : Hid (TsP T (pbK (.cons hb ab db kb .nil) (.cons h a d k .nil) dep [] 0) w (.returned (Ptr p1)) w1) := ⟨p1, rfl, h1, h2⟩
      clear h1 h2
      go_wp2_with fail
      go_ret
      exact FIN.out
    · have DC := Lib.hid (DP.out ⟨hbb.1, hbb.2, hc⟩)
      have n1 : ((d : Int) == (dep : Int)) = true := beq_iff_eq.2 (by omega)
      clear WP DP BT hbb hc
      go_enter Tryz.func67, Tryz.ntmps67
      rw [hwa] at *
      go_wp2_with fail
      refine BN.out.mono ?_
      rintro e w1 ⟨rfl, rfl⟩
      go_wp2_with fail
      refine DC.out.mono ?_
      rintro e w1 ⟨p1, rfl, h1, h2⟩
      have FIN : Hid (TsP T (pbK (.cons hb ab db kb .nil) (.cons h a d k .nil) dep [] 0) w (.returned (Ptr p1)) w1) := ⟨p1, rfl, h1, h2⟩
      clear h1 h2
      go_wp2_with fail
      go_ret
      exact FIN.out
    · have BC := Lib.hid (BT.out ⟨hbb.1, hbb.2, hc⟩)
      have n1 : ((d : Int) == (dep : Int)) = false := beq_eq_false_iff_ne.2 (by omega)
      have n2 : (dep : Int) < (d : Int) := by omega
      clear WP DP BT hbb hc
      go_enter Tryz.func67, Tryz.ntmps67
      rw [hwa] at *
      go_wp2_with fail
      refine BN.out.mono ?_
      rintro e w1 ⟨rfl, rfl⟩
      go_wp2_with fail
      refine BN.out.mono ?_
      rintro e w1 ⟨rfl, rfl⟩
      go_wp2_with fail
      with_reducible refine BC.out.mono ?_
      rintro e w1 ⟨p1, rfl, h1, h2⟩
      have FIN : Hid (TsP T (pbK (.cons hb ab db kb .nil) (.cons h a d k .nil) dep [] 0) w (.returned (Ptr p1)) w1) := ⟨p1, rfl, h1, h2⟩
      clear h1 h2
      go_wp2_with fail
      go_ret
      exact FIN.out

theorem pb_any (N : Nat) : ∀ k : Ts, SizeOf.sizeOf k < N → PbSaid k := by
  induction N with
  | zero => intro k h; omega
  | succ N ih =>
    intro k hN
    exact pb_node k (fun h a d k' j hn => ih k' (by have := Ts.nth_small k j h a d k' hn; omega))
end Go.Proofs.YtnjgaenhjdjpfaaGreatDoor

/- putTerm of the program. -/
namespace Go.Proofs.YtnjgaenhjdjpfaaGreatDoor
open Go.RowKit Go.ChangeMaps

theorem pt_size_le (x hb ab : List UInt8) (db : Nat) (kb : Ts) (z : Nat) (hz : (if bindsB hb then 2 else 1) + kb.size ≤ z) (h1z : 1 ≤ z) : ∀ t : Ts, (ptT x hb ab db kb t).size ≤ t.size * z
  | .nil => by simp [ptT, Ts.size]
  | .cons h a d k r => by
    have h1 := pt_size_le x hb ab db kb z hz h1z k
    have h2 := pt_size_le x hb ab db kb z hz h1z r
    have e1 : 1 ≤ (if bindsB h then 2 else 1) := by split <;> omega
    have e : (if bindsB h then 2 else 1) ≤ (if bindsB h then 2 else 1) * z := Nat.le_mul_of_pos_right _ h1z
    have e2 : z ≤ (if bindsB h then 2 else 1) * z := Nat.le_mul_of_pos_left _ e1
    simp only [ptT, Ts.size, Nat.add_mul]
    split
    · simp only [Ts.size]; omega
    · simp only [Ts.size]; omega

end Go.Proofs.YtnjgaenhjdjpfaaGreatDoor
