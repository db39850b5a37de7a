import Derived.Test.YthbidlcfahdfhaaMarks
import Derived.Deep.RegionHeld3
namespace Go.Proofs.Ythbidlcfahdfhaa
open Go.RowKit Go.ChangeMaps

set_option maxRecDepth 100000 in
set_option maxHeartbeats 1000000 in
theorem held_any (w : World) (A : Option Addr) (ys : List (List UInt8)) (n k c : Nat) (hm : Marked k n n ys) (hs : SSl w A ys) (hlow : ∀ g o, A = some ⟨g, o, none⟩ → g < w.heap.size) (hl : n ≤ 1000) (hk : k ≤ 1000) :
    Calls Try.prog 32 #[.slice A n c, .int .i64 k] w fun e w' => e = .returned (.int .i64 ((k + n : Nat) : Int)) ∧ Fr No w w' := by
  have HM := Lib.hid hm
  have HS := Lib.hid hs
  have HLOW := Lib.hid hlow
  clear hm hs hlow
  have hl' : (n : Int) ≤ 1000 := by omega
  have hk' : (k : Int) ≤ 1000 := by omega
  go_enter Try.func32, Try.ntmps32
  go_wp2_with fail
  go_loopw [1, 5] (fun v u wr => ∃ (j : Nat), j ≤ n ∧ v = .int .i64 ((k + j : Nat) : Int) ∧ u = .int .i64 j ∧ Fr No w wr) (fun _ u _ => n - (intOf u).toNat)
  case atStart => exact ⟨0, Nat.zero_le _, rfl, rfl, Fr.refl _ _⟩
  case round =>
    obtain ⟨j, hj, rfl, rfl, hfr⟩ := hrel
    have HF := Lib.hid hfr
    clear hfr
    by_cases hlt : j < n
    · have hkj : k + j ≤ 1000000 := by omega
      have hnat : ((k + j : Nat) : Int) ≤ 3000 := by omega
      have hyj := HM.out.2 j hlt
      obtain ⟨g, o, hA, hc0⟩ := HS.out j _ hyj
      subst hA
      have hg := HLOW.out g o rfl
      have CELL : Hid (∀ w', Fr No wr w' → w'.cell? ⟨g, o + j, none⟩ = some (S (markOf (k + j)))) := fun w' hf => ((HF.out.trans hf).cell hg (fun h => h)).trans hc0
      have FIN : Hid (∀ w', Fr No wr w' → Fr No w w') := fun w' hf => HF.out.trans hf
      have MK : Hid (∀ w', Fr No wr w' → Calls Try.prog 66 #[.int .i64 ((k : Int) + (j : Int))] w' fun e w2 => e = .returned (S (markOf (k + j))) ∧ Fr No wr w2) := fun w' hf => (Int.natCast_add k j ▸ mark_any (k + j) w' hkj).mono fun e w2 h => ⟨h.1, hf.trans h.2⟩
      clear hyj hc0 HF hg
      generalize markOf (k + j) = mk at *
      have hc := CELL.out wr (Fr.refl _ _)
      have hW : Fr No wr wr.drew := (Fr.refl _ _).drew
      go_wp2_with fail
      go_wp2_with fail
      go_region_held3 (fun w' => w'.cell? ⟨g, o + j, none⟩ = some (S mk)) (go_keep)
        (first | (go_at_call 66; ((with_reducible refine (MK.out _ hW).mono ?_); rintro e w2 ⟨rfl, hf2⟩; have d0 := CELL.out w2 hf2)))
      have HE := Lib.hid (FIN.out _ hf2)
      go_wp2
      go_round
      case rel => exact ⟨j + 1, by omega, by go_num, by go_num, HE.out⟩
      case measure => simp [intOf]; omega
    · have hjl : j = n := by omega
      subst hjl
      go_wp2
      go_ret
      exact ⟨rfl, HF.out⟩
end Go.Proofs.Ythbidlcfahdfhaa
